/- A region that draws its order, once more: an operation also hears that what it waits for has run; no condition. Stores of whole values, cell by cell, into one block: the worlds between, and what is as it was; no condition. What is being hashed, as it lies in memory; no condition. Values of variables as octets in memory: what reads them, what writes them; no condition. True and Holds; no condition but that texts are as long as Go's may be. -/
import Derived.Test.YtpaneggajjgdlaaPt09
import Derived.Test.YtpaneggajjgdlaaPt06
import Derived.Test.YtpaneggajjgdlaaPt01
import Derived.Test.YtpaneggajjgdlaaPt02
namespace Go.Proofs.Ytpaneggajjgdlaa.Cw
open Go.ChangeShapes Go.WideShapes Go.ChangeAt Go.RowKit

theorem wp_region_valsE {P : Program} {id : Nat} {ops : Array Oper} {Q : Exit → Act → World → Prop} {a : Act} {w : World} (hm : P.follows .mixedOrders = true) (hu : upward ops = true)
    (ment : Nat → List Nat) (hment : mentOk ops ment = true) (hdst : dstsIn ops a.tmps.size = true) (Ok : (Nat → Bool) → World → Prop) (R : Nat → (Nat → Value) → World → Prop) (h0 : Ok (fun _ => false) w.drew)
    (hstab : ∀ j f f' w w', Below w.heap.size w w' → (∀ t ∈ ment j, f' t = f t) → R j f w → R j f' w')
    (hstep : ∀ (i : Nat) (o : Oper) (d : Nat → Bool) (a' : Act) (w' : World), ops[i]? = some o → (∀ k, behindB ops ops.size i k = true → d k = false) → (∀ t, untouched ops i t = true → a'.tmps.getD t undef = a.tmps.getD t undef) → a'.defers = a.defers → Ok d w' → (∀ k, dependsB o k = true → d k = true ∧ R k (vals a') w') →
      ∀ K : Act → World → Prop, (∀ v w'', Below w'.heap.size w' w'' → Ok (fun j => decide (j = i) || d j) w'' → (∀ f : Nat → Value, (∀ t, o.dst = some t → f t = v) → (∀ t, o.dst ≠ some t → f t = vals a' t) → R i f w'') → K (a'.put o.dst v) w'') →
        (∀ v w'', Ok (fun j => decide (j = i) || d j) w'' → (∀ f : Nat → Value, (∀ t, o.dst = some t → f t = v) → (∀ t, o.dst ≠ some t → f t = vals a' t) → R i f w'') → (∀ j f, j ≠ i → (∀ t ∈ ment j, f t = vals a' t) → R j (vals a') w' → R j f w'') → K (a'.put o.dst v) w'') → o.wp P a' w' K Q)
    (hend : ∀ (a' : Act) (w' : World), a'.tmps.size = a.tmps.size → a'.defers = a.defers → (∀ t, (∀ o ∈ ops, o.dst ≠ some t) → a'.tmps.getD t undef = a.tmps.getD t undef) → (∃ d, Ok d w' ∧ ∀ j, j < ops.size → d j = true) → (∀ j, j < ops.size → R j (vals a') w') → Q .normal a' w') : (Code.region id ops true).wp P Q a w := by
  refine wp_region_any hm (wpAny_inv (fun listed a' w' => listed.size = ops.size ∧ (a'.tmps.size = a.tmps.size ∧ a'.defers = a.defers) ∧ (∀ t, (∀ (k : Nat) ok, ops[k]? = some ok → ok.dst = some t → listed[k]? ≠ some true) → a'.tmps.getD t undef = a.tmps.getD t undef) ∧ Ok (fun j => listed.getD j false) w' ∧ (∀ j : Nat, listed[j]? = some true → R j (vals a') w') ∧ ∀ (j : Nat) (oj : Oper), ops[j]? = some oj → listed[j]? = some true → ∀ e ∈ oj.after, Region.binds .any e = true → listed[e.on]? = some true) ?_ ?_ _ _ _ _ ?_ (by simp))
  · rintro listed a' w' i ⟨hs, hk, hun, hok, hR, hC⟩ hi
    obtain ⟨hl, hio, hd⟩ := ready_open hi
    have hl' : listed[i]? = some false := by rw [← Array.getElem?_toList]; exact hl
    obtain ⟨o, ho⟩ : ∃ o, ops[i]? = some o := ⟨ops[i], by simp [hio]⟩
    have hmem : o ∈ ops := Array.mem_of_getElem? ho
    have hg : o.guard.isNone = true := by
      have h1 := List.all_eq_true.1 hu i (List.mem_range.2 hio)
      rw [ho] at h1
      simp only [Bool.and_eq_true] at h1
      exact h1.2
    have hw : Region.wanted o (yielded ops a'.tmps) = true := by
      unfold Region.wanted
      cases hgg : o.guard with
      | none => rfl
      | some x => rw [hgg] at hg; cases hg
    have hdep : ∀ e ∈ o.after, Region.binds .any e = true → listed[e.on]? = some true := fun e he hb => by
      have h2 := hd o ho e he hb
      rw [Array.getD_eq_getD_getElem?] at h2
      cases hq : listed[e.on]? with
      | none => rw [hq] at h2; simp at h2
      | some b => rw [hq] at h2; simp at h2; rw [h2]
    have hback : ∀ j, j ≠ i → (listed.setIfInBounds i true)[j]? = some true → listed[j]? = some true := fun j hji hj => by
      rw [Array.getElem?_setIfInBounds, if_neg (Ne.symm hji)] at hj
      exact hj
    have hfwd : ∀ j : Nat, listed[j]? = some true → (listed.setIfInBounds i true)[j]? = some true := fun j hj => by
      have : i ≠ j := by rintro rfl; rw [hl'] at hj; cases hj
      rw [Array.getElem?_setIfInBounds, if_neg this]; exact hj
    have hself : (listed.setIfInBounds i true)[i]? = some true := by
      rw [Array.getElem?_setIfInBounds, if_pos rfl, if_pos (by omega)]
    -- whatever the step does, what follows of it
    have fin : ∀ v w'', Ok (fun j => decide (j = i) || listed.getD j false) w'' → R i (vals (a'.put o.dst v)) w'' → (∀ j, j ≠ i → listed[j]? = some true → R j (vals (a'.put o.dst v)) w'') → (listed.setIfInBounds i true).size = ops.size ∧ ((a'.put o.dst v).tmps.size = a.tmps.size ∧ (a'.put o.dst v).defers = a.defers) ∧ (∀ t, (∀ (k : Nat) ok, ops[k]? = some ok → ok.dst = some t → (listed.setIfInBounds i true)[k]? ≠ some true) → (a'.put o.dst v).tmps.getD t undef = a.tmps.getD t undef) ∧ Ok (fun j => (listed.setIfInBounds i true).getD j false) w'' ∧ (∀ j : Nat, (listed.setIfInBounds i true)[j]? = some true → R j (vals (a'.put o.dst v)) w'') ∧ ∀ (j : Nat) (oj : Oper), ops[j]? = some oj → (listed.setIfInBounds i true)[j]? = some true → ∀ e ∈ oj.after, Region.binds .any e = true → (listed.setIfInBounds i true)[e.on]? = some true := fun v w'' hok' hRi hRj => by
      refine ⟨by simpa using hs, ⟨(put_size o a' v).1.trans hk.1, (put_size o a' v).2.trans hk.2⟩, fun t ht => ?_, ?_, fun j hj => ?_, fun j oj hoj hj e he hb => ?_⟩
      · have hne : o.dst ≠ some t := fun e => ht i o ho e hself
        rw [put_other v hne]
        exact hun t fun k ok hk' hd' hl2 => ht k ok hk' hd' (hfwd k hl2)
      · have e : (fun j => (listed.setIfInBounds i true).getD j false) = fun j => decide (j = i) || listed.getD j false := by
          funext j
          rw [Array.getD_eq_getD_getElem?, Array.getD_eq_getD_getElem?, Array.getElem?_setIfInBounds]
          by_cases hji : i = j
          · subst hji
            rw [if_pos rfl, if_pos (by omega)]
            simp
          · rw [if_neg hji]
            have : decide (j = i) = false := by simpa using Ne.symm hji
            rw [this]; rfl
        rw [e]; exact hok'
      · by_cases hji : j = i
        · subst hji; exact hRi
        · exact hRj j hji (hback j hji hj)
      · by_cases hji : j = i
        · subst hji
          rw [ho] at hoj
          obtain rfl := Option.some.inj hoj
          exact hfwd _ (hdep e he hb)
        · exact hfwd _ (hC j oj hoj (hback j hji hj) e he hb)
    have hslot : ∀ v t, o.dst = some t → vals (a'.put o.dst v) t = v := fun v t ht => by
      refine put_slot v ht ?_
      have h1 := Array.all_eq_true_iff_forall_mem.1 hdst o hmem
      rw [ht] at h1
      rw [hk.1]
      simpa using h1
    have hment2 : ∀ v j, j ≠ i → listed[j]? = some true → ∀ t ∈ ment j, vals (a'.put o.dst v) t = vals a' t := fun v j hji hlj t ht => by
      have hjs : j < ops.size := by
        have := (Array.getElem?_eq_some_iff.1 hlj).1
        omega
      obtain ⟨oj, hoj⟩ : ∃ oj, ops[j]? = some oj := ⟨ops[j], by simp [hjs]⟩
      have h1 := List.all_eq_true.1 (List.all_eq_true.1 hment i (List.mem_range.2 hio)) j (List.mem_range.2 hjs)
      rw [ho, hoj] at h1
      simp only [Bool.or_eq_true, decide_eq_true_eq] at h1
      rcases h1 with h1 | h1 | h1
      · exact absurd h1.symm hji
      · exfalso
        unfold dependsB at h1
        rw [Array.any_eq_true'] at h1
        obtain ⟨e, he, hbb⟩ := h1
        simp only [Bool.and_eq_true, decide_eq_true_eq] at hbb
        have := hC j oj hoj hlj e he hbb.1
        rw [hbb.2, hl'] at this
        cases this
      · cases hd2 : o.dst with
        | none => rfl
        | some d =>
          rw [hd2] at h1
          simp only [Bool.not_eq_true', List.contains_eq_mem, decide_eq_false_iff_not] at h1
          have hne : o.dst ≠ some t := fun e => h1 (by rw [hd2] at e; injection e with e; rw [e]; exact ht)
          have h2 := put_other (a := a') v hne
          rw [hd2] at h2
          exact h2
    unfold wpOp
    rw [ho]
    simp only [hw, if_true]
    refine .inl (hstep i o (fun j => listed.getD j false) a' w' ho (fun k hbk => ?_) (fun t ht => hun t fun k ok hk' hd' hl2 => ?_) hk.2 hok (fun k hdk => ?_) _ ?_ ?_)
    · rw [Array.getD_eq_getD_getElem?]
      cases hq : listed[k]? with
      | none => rfl
      | some b =>
        cases b with
        | false => rfl
        | true =>
          have := behind_listed hC _ i k hbk hq
          rw [hl'] at this; cases this
    · have h1 := List.all_eq_true.1 ht k (List.mem_range.2 (Array.getElem?_eq_some_iff.1 hk').1)
      rw [hk'] at h1
      simp only [hd', decide_true, Bool.not_true, Bool.false_or] at h1
      have := behind_listed hC _ i k h1 hl2
      rw [hl'] at this; cases this
    · unfold dependsB at hdk
      rw [Array.any_eq_true'] at hdk
      obtain ⟨e, he, hb⟩ := hdk
      simp only [Bool.and_eq_true, decide_eq_true_eq] at hb
      rw [← hb.2]
      refine ⟨?_, hR e.on (hdep e he hb.1)⟩
      rw [Array.getD_eq_getD_getElem?, hdep e he hb.1]; rfl
    · intro v w'' hb hok' hRi
      exact fin v w'' hok' (hRi _ (hslot v) (fun t ht => put_other v ht)) (fun j hji hlj => hstab j _ _ _ _ hb (hment2 v j hji hlj) (hR j hlj))
    · intro v w'' hok' hRi hst
      exact fin v w'' hok' (hRi _ (hslot v) (fun t ht => put_other v ht)) (fun j hji hlj => hst j _ hji (hment2 v j hji hlj) (hR j hlj))
  · rintro listed a' w' ⟨hs, hk, hun, hok, hR, -⟩ hr
    exact hend a' w' hk.1 hk.2 (fun t ht => hun t fun k ok hk' hd' _ => ht ok (Array.mem_of_getElem? hk') hd') ⟨_, hok, fun j hj => by
      rw [Array.getD_eq_getD_getElem?, all_listed hu hs hr j hj]; rfl⟩ fun j hj => hR j (all_listed hu hs hr j hj)
  · refine ⟨by simp, ⟨rfl, rfl⟩, fun _ _ => rfl, ?_, fun j hj => ?_, fun j oj _ hj => ?_⟩
    · have e : (fun j => (Array.replicate ops.size false).getD j false) = fun _ => false := by
        funext j
        rw [Array.getD_eq_getD_getElem?, Array.getElem?_replicate]
        split <;> rfl
      rw [e]; exact h0
    · simp [Array.getElem?_replicate] at hj
    · simp [Array.getElem?_replicate] at hj
end Go.Proofs.Ytpaneggajjgdlaa.Cw
namespace Go.Proofs.Ytpaneggajjgdlaa.Cw
open Go.ChangeShapes Go.WideShapes Go.ChangeAt Go.RowKit

/-- w' is w but for block g -/
structure But (g : Nat) (w w' : World) : Prop where
  b : ∀ k, k ≠ g → w'.heap[k]? = w.heap[k]?
  z : w'.heap.size = w.heap.size
  os : w'.os = w.os
  tape : w'.tape = w.tape
  output : w'.output = w.output
theorem But.refl (g : Nat) (w : World) : But g w w := ⟨fun _ _ => rfl, rfl, rfl, rfl, rfl⟩
theorem But.trans {g : Nat} {a b c : World} (h : But g a b) (k : But g b c) : But g a c := ⟨fun i hi => (k.b i hi).trans (h.b i hi), k.z.trans h.z, k.os.trans h.os, k.tape.trans h.tape, k.output.trans h.output⟩
theorem But.set (w : World) (g i : Nat) (v : Value) : But g w (w.setCell ⟨g, i, none⟩ v) := ⟨fun _ hk => Below.heap_setCell _ _ _ _ hk, by simp [World.setCell], rfl, rfl, rfl⟩
theorem But.below {g B : Nat} {W w w' : World} (h : But g w w') (hb : Below B W w) (hg : B ≤ g) : Below B W w' :=
  ⟨h.os.trans hb.os, h.tape.trans hb.tape, h.output.trans hb.output, by rw [h.z]; exact hb.size, fun k hk => (h.b k (by omega)).trans (hb.block k hk)⟩
theorem But.block {g k : Nat} {w w' : World} (h : But g w w') {x : Option Obj} (hx : w.heap[k]? = x) (hk : k ≠ g) : w'.heap[k]? = x := (h.b k hk).trans hx
theorem store_at {P : Program} {w : World} {g : Nat} {z : Array Value} {e : TypeId} (hg : w.heap[g]? = some (.cells z e (0, 0))) (i : Nat) (v : Value) (hv : v.oneCell' = true) (hi : i < z.size) : ∃ w', (store ⟨g, i, none⟩ v).run P w = .ok () w' ∧ w'.heap[g]? = some (.cells (z.setIfInBounds i v) e (0, 0)) ∧ But g w w' := by
  refine ⟨w.setCell ⟨g, i, none⟩ v, ?_, by simp [World.setCell, Array.getElem?_modify, hg], But.set w g i v⟩
  rw [run_store P w _ v _ hv]
  simp [World.frozen?, World.cell?, hg, hi]
theorem step_set {g : Nat} {e : TypeId} (w : World) (z : Array Value) (i : Nat) (v : Value) (hg : w.heap[g]? = some (.cells z e (0, 0))) (hi : i < z.size) : ∃ Z u, (w.setCell ⟨g, i, none⟩ v = Z ∧ w.cell? ⟨g, i, none⟩ = some u ∧ w.frozen? ⟨g, i, none⟩ = false) ∧ Z.heap[g]? = some (.cells (z.setIfInBounds i v) e (0, 0)) ∧ But g w Z :=
  ⟨_, z[i], ⟨rfl, by simp [World.cell?, hg, hi], by simp [World.frozen?, hg]⟩, by simp [World.setCell, Array.getElem?_modify, hg], But.set w g i v⟩
theorem set_all8 (z : Array Value) (hz : z.size = 8) (x0 x1 x2 x3 x4 x5 x6 x7 : Value) : (((((((z.setIfInBounds 0 x0).setIfInBounds 1 x1).setIfInBounds 2 x2).setIfInBounds 3 x3).setIfInBounds 4 x4).setIfInBounds 5 x5).setIfInBounds 6 x6).setIfInBounds 7 x7 = #[x0, x1, x2, x3, x4, x5, x6, x7] := by
  obtain ⟨l⟩ := z
  have hz' : l.length = 8 := by simpa using hz
  clear hz
  rcases l with _ | ⟨a0, l⟩ <;> simp only [List.length_cons, List.length_nil] at hz'
  · omega
  rcases l with _ | ⟨a1, l⟩ <;> simp only [List.length_cons, List.length_nil] at hz'
  · omega
  rcases l with _ | ⟨a2, l⟩ <;> simp only [List.length_cons, List.length_nil] at hz'
  · omega
  rcases l with _ | ⟨a3, l⟩ <;> simp only [List.length_cons, List.length_nil] at hz'
  · omega
  rcases l with _ | ⟨a4, l⟩ <;> simp only [List.length_cons, List.length_nil] at hz'
  · omega
  rcases l with _ | ⟨a5, l⟩ <;> simp only [List.length_cons, List.length_nil] at hz'
  · omega
  rcases l with _ | ⟨a6, l⟩ <;> simp only [List.length_cons, List.length_nil] at hz'
  · omega
  rcases l with _ | ⟨a7, l⟩ <;> simp only [List.length_cons, List.length_nil] at hz'
  · omega
  obtain rfl : l = [] := List.eq_nil_of_length_eq_zero (by omega)
  simp
theorem store8 {w : World} {g : Nat} {z : Array Value} {e : TypeId} (hg : w.heap[g]? = some (.cells z e (0, 0))) (hz : z.size = 8) (x0 x1 x2 x3 x4 x5 x6 x7 : Value) :
    ∃ Z1 Z2 Z3 Z4 Z5 Z6 Z7 Z8 : World, ∃ u0 u1 u2 u3 u4 u5 u6 u7 : Value, (w.setCell ⟨g, 0, none⟩ x0 = Z1 ∧ w.cell? ⟨g, 0, none⟩ = some u0 ∧ w.frozen? ⟨g, 0, none⟩ = false) ∧ (Z1.setCell ⟨g, 1, none⟩ x1 = Z2 ∧ Z1.cell? ⟨g, 1, none⟩ = some u1 ∧ Z1.frozen? ⟨g, 1, none⟩ = false) ∧ (Z2.setCell ⟨g, 2, none⟩ x2 = Z3 ∧ Z2.cell? ⟨g, 2, none⟩ = some u2 ∧ Z2.frozen? ⟨g, 2, none⟩ = false) ∧ (Z3.setCell ⟨g, 3, none⟩ x3 = Z4 ∧ Z3.cell? ⟨g, 3, none⟩ = some u3 ∧ Z3.frozen? ⟨g, 3, none⟩ = false) ∧ (Z4.setCell ⟨g, 4, none⟩ x4 = Z5 ∧ Z4.cell? ⟨g, 4, none⟩ = some u4 ∧ Z4.frozen? ⟨g, 4, none⟩ = false) ∧ (Z5.setCell ⟨g, 5, none⟩ x5 = Z6 ∧ Z5.cell? ⟨g, 5, none⟩ = some u5 ∧ Z5.frozen? ⟨g, 5, none⟩ = false) ∧ (Z6.setCell ⟨g, 6, none⟩ x6 = Z7 ∧ Z6.cell? ⟨g, 6, none⟩ = some u6 ∧ Z6.frozen? ⟨g, 6, none⟩ = false) ∧ (Z7.setCell ⟨g, 7, none⟩ x7 = Z8 ∧ Z7.cell? ⟨g, 7, none⟩ = some u7 ∧ Z7.frozen? ⟨g, 7, none⟩ = false) ∧ Z8.heap[g]? = some (.cells #[x0, x1, x2, x3, x4, x5, x6, x7] e (0, 0)) ∧ But g w Z8 := by
  obtain ⟨Z1, u0, r0, g0, b0⟩ := step_set w z 0 x0 hg (by omega)
  obtain ⟨Z2, u1, r1, g1, b1⟩ := step_set Z1 _ 1 x1 g0 (by simp; omega)
  obtain ⟨Z3, u2, r2, g2, b2⟩ := step_set Z2 _ 2 x2 g1 (by simp; omega)
  obtain ⟨Z4, u3, r3, g3, b3⟩ := step_set Z3 _ 3 x3 g2 (by simp; omega)
  obtain ⟨Z5, u4, r4, g4, b4⟩ := step_set Z4 _ 4 x4 g3 (by simp; omega)
  obtain ⟨Z6, u5, r5, g5, b5⟩ := step_set Z5 _ 5 x5 g4 (by simp; omega)
  obtain ⟨Z7, u6, r6, g6, b6⟩ := step_set Z6 _ 6 x6 g5 (by simp; omega)
  obtain ⟨Z8, u7, r7, g7, b7⟩ := step_set Z7 _ 7 x7 g6 (by simp; omega)
  rw [set_all8 z hz] at g7
  exact ⟨Z1, Z2, Z3, Z4, Z5, Z6, Z7, Z8, u0, u1, u2, u3, u4, u5, u6, u7, r0, r1, r2, r3, r4, r5, r6, r7, g7, b0.trans (b1.trans (b2.trans (b3.trans (b4.trans (b5.trans (b6.trans (b7)))))))⟩
end Go.Proofs.Ytpaneggajjgdlaa.Cw
namespace Go.Proofs.Ytpaneggajjgdlaa.Str
open Go.ChangeShapes Go.WideShapes Go.ChangeAt Go.RowKit Go.Maps Circ Cw

/-- block p is a hashed: its maps in blocks m1 and m2, its ands in v; none of them lies below C -/
structure HsAt (w : World) (C p m1 m2 : Nat) (v : Value) (h : Hs) (n : Nat) : Prop where
  box : w.heap[p]? = some (.cells #[.map (some m1), .map (some m2), v] 65 (0, 0))
  f : IsVars w m1 h.F n
  g : IsPairs w m2 h.G n
  st : OwnC w C 43 3 v (tris h.st)
  lo : C ≤ p ∧ C ≤ m1 ∧ C ≤ m2
  ne : m1 ≠ m2
  own : ∀ k, v.ownBlock = some k → k ≠ p ∧ k ≠ m1 ∧ k ≠ m2
theorem HsAt.cells {w : World} {C p m1 m2 n : Nat} {v : Value} {h : Hs} (H : HsAt w C p m1 m2 v h n) : w.cell? ⟨p, 0, none⟩ = some (.map (some m1)) ∧ w.cell? ⟨p, 1, none⟩ = some (.map (some m2)) ∧ w.cell? ⟨p, 2, none⟩ = some v := two_cells H.box
theorem HsAt.apart {w : World} {C p m1 m2 n : Nat} {v : Value} {h : Hs} (H : HsAt w C p m1 m2 v h n) : p ≠ m1 ∧ p ≠ m2 := ⟨H.f.ne_ H.cells.1, H.g.ne_ H.cells.1⟩
theorem HsAt.lt {w : World} {C p m1 m2 n : Nat} {v : Value} {h : Hs} (H : HsAt w C p m1 m2 v h n) : p < w.heap.size ∧ m1 < w.heap.size ∧ m2 < w.heap.size := ⟨(Array.getElem?_eq_some_iff.1 H.box).1, H.f.lt, H.g.lt⟩
theorem HsAt.keep {w w' : World} {C p m1 m2 n : Nat} {v : Value} {h : Hs} (H : HsAt w C p m1 m2 v h n) (hb : ∀ k, k < w.heap.size → w'.heap[k]? = w.heap[k]?) : HsAt w' C p m1 m2 v h n := by
  obtain ⟨l1, l2, l3⟩ := H.lt
  exact ⟨(hb p l1).trans H.box, H.f.keep (hb m1 l2), H.g.keep (hb m2 l3), H.st.keep_at (fun g _ hg => hb g (H.st.block_lt g hg).2), H.lo, H.ne, H.own⟩
theorem HsAt.below {w w' : World} {C p m1 m2 n : Nat} {v : Value} {h : Hs} (H : HsAt w C p m1 m2 v h n) (hb : Below w.heap.size w w') : HsAt w' C p m1 m2 v h n := H.keep fun k hk => hb.block k hk
theorem HsAt.more {w : World} {C p m1 m2 n m : Nat} {v : Value} {h : Hs} (H : HsAt w C p m1 m2 v h n) (hm : n ≤ m) : HsAt w C p m1 m2 v h m := by
  obtain ⟨a, ⟨n1, D1, b1, b2, b3⟩, ⟨n2, D2, c1, c2, c3⟩, d, e, f, g⟩ := H
  exact ⟨a, ⟨n1, D1, b1, Nat.le_trans b2 hm, b3⟩, ⟨n2, D2, c1, Nat.le_trans c2 hm, c3⟩, d, e, f, g⟩
/- one operation changes the world -/
structure Sole (k : Nat) (W0 W1 : World) (d : Nat → Bool) (w : World) : Prop where
  c0 : d k = false → w = W0
  c1 : d k = true → w = W1
theorem Sole.start (k : Nat) (W0 W1 : World) : Sole k W0 W1 (fun _ => false) W0 := ⟨fun _ => rfl, fun h => by cases h⟩
theorem Sole.read {k : Nat} {W0 W1 : World} {d : Nat → Bool} {w : World} (h : Sole k W0 W1 d w) {i : Nat} (hi : k ≠ i) : Sole k W0 W1 (fun j => decide (j = i) || d j) w := by
  obtain ⟨a, b⟩ := h
  constructor <;> simp only [hi, decide_false, Bool.false_or] <;> assumption
theorem Sole.did (k : Nat) (W0 W1 : World) (d : Nat → Bool) : Sole k W0 W1 (fun j => decide (j = k) || d j) W1 := by
  constructor <;> simp
/- three operations change it, one after the other -/
structure Chain (i j k : Nat) (W0 W1 W2 W3 : World) (d : Nat → Bool) (w : World) : Prop where
  c0 : d i = false → w = W0
  c1 : d i = true → d j = false → w = W1
  c2 : d j = true → d k = false → w = W2
  c3 : d k = true → w = W3
  oj : d j = true → d i = true
  ok : d k = true → d j = true
section
variable {i j k : Nat} {W0 W1 W2 W3 : World} {d : Nat → Bool} {w : World}
theorem Chain.start : Chain i j k W0 W1 W2 W3 (fun _ => false) W0 := ⟨fun _ => rfl, (fun h => by cases h), (fun h => by cases h), (fun h => by cases h), (fun h => by cases h), (fun h => by cases h)⟩
theorem Chain.read (h : Chain i j k W0 W1 W2 W3 d w) {x : Nat} (hi : i ≠ x) (hj : j ≠ x) (hk : k ≠ x) : Chain i j k W0 W1 W2 W3 (fun y => decide (y = x) || d y) w := by
  obtain ⟨a, b, c, e, f, g⟩ := h
  constructor <;> simp only [hi, hj, hk, decide_false, Bool.false_or] <;> assumption
theorem Chain.first (hj : d j = false) (hk : d k = false) (e1 : j ≠ i) (e2 : k ≠ i) : Chain i j k W0 W1 W2 W3 (fun y => decide (y = i) || d y) W1 := by
  constructor <;> simp [hj, hk, e1, e2]
theorem Chain.second (hi : d i = true) (hk : d k = false) (e1 : k ≠ j) : Chain i j k W0 W1 W2 W3 (fun y => decide (y = j) || d y) W2 := by
  constructor <;> simp [hi, hk, e1]
end
/- operations -/
theorem op_move (a : Act) (w : World) (t : Nat) (oo : Oper) (ho : oo.op = .move (.tmp t)) : (execOp a.eval oo).run Try.prog w = .ok (.value (a.tmps.getD t undef)) w := by
  unfold execOp
  rw [ho]
  go_simp
theorem op_call1 (a : Act) (w : World) (f t T : Nat) (hf : ∀ args w, (callFunc f args).run Try.prog w = .ok (.enter f args) w) (oo : Oper) (ho : oo.op = .call { callee := .value (.func f), args := #[.tmp t], argTypes := #[T] }) : (execOp a.eval oo).run Try.prog w = .ok (.enter f #[a.tmps.getD t undef]) w := by
  unfold execOp
  rw [ho]
  go_simp
end Go.Proofs.Ytpaneggajjgdlaa.Str
namespace Go.Proofs.Ytpaneggajjgdlaa.Sim
open Go.ChangeShapes Go.WideShapes Go.ChangeAt Go.RowKit Go.Maps Circ Cw

/-- the variable g holds the octets v, which lie in block gb -/
structure HasV (w : World) (g gb : Nat) (v : List UInt8) : Prop where
  c : w.cell? ⟨g, 0, none⟩ = some (.slice (some ⟨gb, 0, none⟩) v.length v.length)
  h : ∃ rest, w.heap[gb]? = some (.cells (Lib.byteCells v ++ rest).toArray 5 (0, 0))
theorem HasV.keep {w w' : World} {g gb : Nat} {v : List UInt8} (h : HasV w g gb v) (hb : Below w.heap.size w w') : HasV w' g gb v := by
  obtain ⟨c, r, h⟩ := h
  exact ⟨(hb.cell (World.block_lt_of_cell? _ _ c)).trans c, r, (hb.block _ (lt_of_block h)).trans h⟩
theorem HasV.lt {w : World} {g gb : Nat} {v : List UInt8} (h : HasV w g gb v) : g < w.heap.size ∧ gb < w.heap.size := by
  obtain ⟨c, r, h⟩ := h
  exact ⟨World.block_lt_of_cell? _ _ c, lt_of_block h⟩
theorem HasV.at {w : World} {g gb : Nat} {v : List UInt8} (h : HasV w g gb v) {i : Nat} (hi : i < v.length) : w.cell? ⟨gb, i, none⟩ = some (.int .u8 ((v[i].toNat : Nat) : Int)) := by
  obtain ⟨c, r, h⟩ := h
  rw [Lib.cell_of_heap h]
  have hl : i < (Lib.byteCells v).length := by rw [byteCells_len]; exact hi
  have e : (Lib.byteCells v)[i]? = some (.int .u8 ((v[i].toNat : Nat) : Int)) := by
    unfold Lib.byteCells
    rw [List.getElem?_map, List.getElem?_eq_getElem hi]; rfl
  rw [List.getElem?_toArray, List.getElem?_append_left hl, e]
theorem HasV.set {w : World} {g gb : Nat} {v : List UInt8} (h : HasV w g gb v) (hg : g ≠ gb) {i : Nat} (hi : i < v.length) (x : UInt8) : HasV (w.setCell ⟨gb, i, none⟩ (.int .u8 ((x.toNat : Nat) : Int))) g gb (v.set i x) := by
  obtain ⟨c, r, h⟩ := h
  have hl : i < (Lib.byteCells v).length := by rw [byteCells_len]; exact hi
  refine ⟨?_, r, ?_⟩
  · rw [World.cell?_of_block (w := w) (by exact Below.heap_setCell _ _ _ _ hg), c, List.length_set]
  · have e : Lib.byteCells (v.set i x) ++ r = (Lib.byteCells v ++ r).set i (.int .u8 ((x.toNat : Nat) : Int)) := by
      rw [List.set_append_left _ _ hl]
      congr 1
      unfold Lib.byteCells
      rw [List.map_set]
    rw [e]
    simp [World.setCell, Array.getElem?_modify, h]
theorem HasV.frozen {w : World} {g gb : Nat} {v : List UInt8} (h : HasV w g gb v) (i : Nat) : w.frozen? ⟨gb, i, none⟩ = false := by
  obtain ⟨c, r, h⟩ := h
  exact Lib.frozen_of_heap h i
theorem u8_49 (x : UInt8) : ((x.toNat : Int) == 49) = decide (some x = some (49 : UInt8)) := by
  rw [Bool.eq_iff_iff]
  simp only [beq_iff_eq, decide_eq_true_eq, Option.some.injEq]
  constructor
  · intro h
    apply UInt8.toNat_inj.1
    have : (49 : UInt8).toNat = 49 := rfl
    omega
  · rintro rfl; rfl
/-- what the closure over values answers of variable number i -/
theorem set1_any (g gb i : Nat) (v : List UInt8) (w : World) (h : HasV w g gb v) (hi : i < v.length) : Tells 47 #[.pointer (some ⟨g, 0, none⟩)] w (.int .i64 (i : Int)) (decide (v[i]? = some 49)) := by
  have c := h.c
  have c1 := h.at hi
  have hz : (i : Int) < (v.length : Int) := by omega
  unfold Tells
  show Calls Try.prog 47 #[.int .i64 (i : Int), .pointer (some ⟨g, 0, none⟩)] w _
  rw [List.getElem?_eq_getElem hi, ← u8_49]
  go_enter Try.func47, Try.ntmps47
  go_wp2
  go_ret
  exact ⟨rfl, Below.refl _ _⟩
/-- what the closure over a text answers of variable number i -/
theorem true1_any (g : Nat) (i : Int) (s : ByteArray) (w : World) (h : w.cell? ⟨g, 0, none⟩ = some (.string s)) (hi : 0 ≤ i) (hs : s.size ≤ 9223372036854775807) : Tells 54 #[.pointer (some ⟨g, 0, none⟩)] w (.int .i64 i) (decide (s.data.toList[i.toNat]? = some 49)) := by
  unfold Tells
  show Calls Try.prog 54 #[.int .i64 i, .pointer (some ⟨g, 0, none⟩)] w _
  by_cases hlt : i < (s.size : Int)
  · obtain ⟨k, rfl⟩ : ∃ k : Nat, i = k := ⟨i.toNat, by omega⟩
    have hk : k < s.size := by omega
    have hk' : k < s.data.toList.length := by simpa using hk
    rw [Int.toNat_natCast, List.getElem?_eq_getElem hk', ← u8_49, show s.data.toList[k] = s[k]'hk from by rw [Array.getElem_toList]; rfl]
    go_enter Try.func54, Try.ntmps54
    go_wp2
    go_ret
    exact ⟨rfl, Below.refl _ _⟩
  · have e : s.data.toList[i.toNat]? = none := by
      rw [List.getElem?_eq_none_iff]
      have : s.data.toList.length = s.size := by simp
      omega
    rw [e]
    go_enter Try.func54, Try.ntmps54
    go_wp2
    go_ret
    exact ⟨rfl, Below.refl _ _⟩
end Go.Proofs.Ytpaneggajjgdlaa.Sim
namespace Go.Proofs.Ytpaneggajjgdlaa.Sim
open Go.ChangeShapes Go.WideShapes Go.ChangeAt Go.RowKit Go.Maps Circ Cw

theorem true_any (s : ByteArray) (l : Int) (w : World) (hs : s.size ≤ 9223372036854775807) (hl : l ≤ 9223372036854775807) :
    Calls Try.prog 25 #[.string s, .int .i64 l] w fun e w' => e = .returned (.bool (trueM s.data.toList l)) ∧ Below w.heap.size w w' := by
  have hmf : ∀ (fn : Fn) (first cap : Array Value) (w : World), (Instr.makeFunc fn first cap).run Try.prog w = .ok (.func fn first cap) w := fun _ _ _ _ => rfl
  obtain ⟨WA, hWA⟩ : ∃ x, w.alloc (.cells #[.string s] 9) = x := ⟨_, rfl⟩
  have bA : Below w.heap.size w WA := by rw [← hWA]; exact (Below.refl _ _).alloc (Nat.le_refl _) _
  have hh : WA.heap[w.heap.size]? = some (.cells #[.string s] 9 (0, 0)) := by rw [← hWA]; exact Array.getElem?_push_size
  have c0 : WA.cell? ⟨w.heap.size, 0, none⟩ = some (.string s) := by rw [Lib.cell_of_heap hh]; rfl
  have h0 : 0 ≤ cnt l / 2 := by unfold cnt; split <;> omega
  have EV : ∀ args w, (callFunc 54 args).run Try.prog w = .ok (.enter 54 args) w := enters_of Try.func54 (by kernel_rfl) rfl
  have H := Lib.hid (holds_any 54 #[.pointer (some ⟨w.heap.size, 0, none⟩)] l _ WA hl EV (true1_any w.heap.size (cnt l / 2) s WA c0 h0 hs))
  rw [show (decide (s.data.toList[(cnt l / 2).toNat]? = some 49) != decide (cnt l % 2 = 1)) = trueM s.data.toList l from rfl] at H
  generalize trueM s.data.toList l = bv at H ⊢
  clear EV hh c0
  go_enter Try.func25, Try.ntmps25
  go_wp2_with fail
  refine H.out.mono ?_
  rintro e w' ⟨rfl, hb⟩
  have HB : Hid (Below w.heap.size w w') := bA.trans (hb.mono bA.size)
  clear hb H
  go_wp2
  go_ret
  exact ⟨rfl, HB.out⟩
theorem holds1_any (g : Nat) (l : Int) (s : ByteArray) (w : World) (h : w.cell? ⟨g, 0, none⟩ = some (.string s)) (hs : s.size ≤ 9223372036854775807) (hl : l ≤ 9223372036854775807) : Tells 56 #[.pointer (some ⟨g, 0, none⟩)] w (.int .i64 l) (trueM s.data.toList l) := by
  unfold Tells
  show Calls Try.prog 56 #[.int .i64 l, .pointer (some ⟨g, 0, none⟩)] w _
  have T := Lib.hid (true_any s l w hs hl)
  go_enter Try.func56, Try.ntmps56
  go_wp2_with fail
  refine T.out.mono ?_
  rintro e w' ⟨rfl, hb⟩
  go_wp2
  go_ret
  exact ⟨rfl, hb⟩
theorem holdsM_any (s : ByteArray) (l : List Int) (A : Option Addr) (q : Nat) (w : World) (hs : s.size ≤ 9223372036854775807) (hl : ∀ x ∈ l, I64 x) (hn : l.length ≤ 9223372036854775807) (hr : LRow w w.heap.size 1 A (ints l)) :
    Calls Try.prog 27 #[.string s, .slice A l.length q] w fun e w' => e = .returned (.bool (holdsM s.data.toList l)) ∧ Below w.heap.size w w' := by
  have hmf : ∀ (fn : Fn) (first cap : Array Value) (w : World), (Instr.makeFunc fn first cap).run Try.prog w = .ok (.func fn first cap) w := fun _ _ _ _ => rfl
  obtain ⟨WA, hWA⟩ : ∃ x, w.alloc (.cells #[.string s] 9) = x := ⟨_, rfl⟩
  have bA : Below w.heap.size w WA := by rw [← hWA]; exact (Below.refl _ _).alloc (Nat.le_refl _) _
  have hh : WA.heap[w.heap.size]? = some (.cells #[.string s] 9 (0, 0)) := by rw [← hWA]; exact Array.getElem?_push_size
  have c0 : WA.cell? ⟨w.heap.size, 0, none⟩ = some (.string s) := by rw [Lib.cell_of_heap hh]; rfl
  have EV : ∀ args w, (callFunc 56 args).run Try.prog w = .ok (.enter 56 args) w := enters_of Try.func56 (by kernel_rfl) rfl
  have H := Lib.hid (contains52_any 56 #[.pointer (some ⟨w.heap.size, 0, none⟩)] l A q (trueM s.data.toList) WA hn EV ((hr.below bA).more bA.size) (fun i hi x hx => by
    have hc : x.cell? ⟨w.heap.size, 0, none⟩ = some (.string s) := (hx.cell (lt_of_block hh)).trans c0
    refine (holds1_any w.heap.size l[i] s x hc hs (hl _ (List.getElem_mem hi)).2).mono ?_
    rintro e w' ⟨rfl, hb⟩
    exact ⟨rfl, hx.trans (hb.mono hx.size)⟩))
  clear EV hh c0
  go_enter Try.func27, Try.ntmps27
  go_wp2_with fail
  refine H.out.mono ?_
  rintro e w' ⟨rfl, hb⟩
  have HB : Hid (Below w.heap.size w w') := bA.trans (hb.mono bA.size)
  clear hb H
  go_wp2
  go_ret
  exact ⟨rfl, HB.out⟩
end Go.Proofs.Ytpaneggajjgdlaa.Sim
