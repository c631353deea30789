/- A region that draws its order, by what holds behind each of its operations whatever came before it; no condition. -/
import Derived.Test.YtefhhldfelmnkaaRefB
namespace Go.Proofs.Ytefhhldfelmnkaa.Cw
open Go.ChangeShapes Go.WideShapes Go.ChangeAt Go.RowKit Circ

theorem open_set : ∀ (l : List Bool) (i : Nat), l[i]? = some false → ((l.set i true).filter (· == false)).length + 1 = (l.filter (· == false)).length
  | [], i, h => by simp at h
  | b :: l, 0, h => by
    have hb : b = false := by simpa using h
    subst hb
    simp
  | b :: l, i + 1, h => by
    have h' : l[i]? = some false := by simpa using h
    have ih := open_set l i h'
    cases b <;> simp [List.set_cons_succ] at ih ⊢ <;> omega

theorem ready_open {md : Region.Mode} {ops : Array Oper} {listed : Array Bool} {i : Nat} (hi : i ∈ Region.ready md ops listed) : listed.toList[i]? = some false ∧ i < ops.size ∧ (∀ o, ops[i]? = some o → ∀ e ∈ o.after, Region.binds md e = true → listed.getD e.on false = true) := by
  unfold Region.ready at hi
  rw [List.mem_filter, List.mem_range] at hi
  obtain ⟨h1, h2⟩ := hi
  simp only [Bool.and_eq_true, Bool.not_eq_true'] at h2
  obtain ⟨h2, h3⟩ := h2
  refine ⟨?_, h1, fun o ho e he hb => ?_⟩
  · rw [Array.getElem?_toList]
    rw [Array.getD_eq_getD_getElem?] at h2
    cases hq : listed[i]? with
    | none => rw [hq] at h2; simp at h2
    | some b => rw [hq] at h2; simp at h2; rw [h2]
  · rw [ho] at h3
    simp only [Option.map_some, Option.getD_some, Array.all_eq_true_iff_forall_mem] at h3
    have := h3 e he
    simpa [hb] using this

theorem wpAny_inv {P : Program} {md : Region.Mode} {ops : Array Oper} {Q : Exit → Act → World → Prop} (Inv : Array Bool → Act → World → Prop)
    (hstep : ∀ listed a w i, Inv listed a w → i ∈ Region.ready md ops listed → wpOp P ops Q i (Inv (listed.setIfInBounds i true)) a w)
    (hend : ∀ listed a w, Inv listed a w → Region.ready md ops listed = [] → Q .normal a w) :
    ∀ fuel listed a w, Inv listed a w → (listed.toList.filter (· == false)).length ≤ fuel → wpAny P md ops Q fuel listed a w
  | 0, listed, a, w, h, hf => by
    by_cases hr : Region.ready md ops listed = []
    · exact ⟨hr, hend _ _ _ h hr⟩
    · obtain ⟨i, hi⟩ := List.exists_mem_of_ne_nil _ hr
      have h1 := (ready_open hi).1
      have : false ∈ listed.toList.filter (· == false) := List.mem_filter.2 ⟨List.mem_of_getElem? h1, rfl⟩
      have := List.length_pos_of_mem this
      omega
  | fuel + 1, listed, a, w, h, hf => by
    refine ⟨fun hr => hend _ _ _ h hr, fun i hi => ?_⟩
    refine wpOp_mono (fun a' w' h' => wpAny_inv Inv hstep hend fuel _ a' w' h' ?_) (hstep _ _ _ _ h hi)
    have := open_set listed.toList i (ready_open hi).1
    rw [Array.toList_setIfInBounds]
    omega

/-- A region that draws its order: what holds of the operations that are done, whichever they are, is kept by each one that may come next. -/
theorem wp_region_inv {P : Program} {id : Nat} {ops : Array Oper} {Q : Exit → Act → World → Prop} {a : Act} {w : World} (hm : P.follows .mixedOrders = true) (Inv : Array Bool → Act → World → Prop)
    (h0 : Inv (Array.replicate ops.size false) a w.drew)
    (hstep : ∀ listed a w i, Inv listed a w → i ∈ Region.ready .any ops listed → wpOp P ops Q i (Inv (listed.setIfInBounds i true)) a w)
    (hend : ∀ listed a w, Inv listed a w → Region.ready .any ops listed = [] → Q .normal a w) : (Code.region id ops true).wp P Q a w :=
  wp_region_any hm (wpAny_inv Inv hstep hend _ _ _ _ h0 (by simp))
end Go.Proofs.Ytefhhldfelmnkaa.Cw
