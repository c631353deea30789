/- A region that draws its order, by what each operation leaves in its own slot, whatever came before it; no condition. A region that draws its order, once more: an operation also hears that what it waits for has run; no condition. Stores of whole values, cell by cell, into one block: the worlds between, and what is as it was; no condition. The walks of slices.Clone over a circuit's lists; no condition. A region that draws its order, by what holds behind each of its operations whatever came before it; no condition. The walk of the pages' Own: a circuit in memory of its own; no condition. -/
import Derived.Test.YtbgcoeejmnejdaaPt11
import Derived.Lib.SliceRun
namespace Go.Proofs.Ytbgcoeejmnejdaa.Cw
open Go.ChangeShapes Go.WideShapes Go.ChangeAt Go.RowKit

theorem wp_val {P : Program} {o : Oper} {a : Act} {w w' : World} {K : Act → World → Prop} {Q : Exit → Act → World → Prop} {v : Value} (h : (execOp a.eval o).run P w = .ok (.value v) w') (hk : K (a.put o.dst v) w') : o.wp P a w K Q := by
  unfold Oper.wp; rw [h]; exact hk
theorem wp_skip' {P : Program} {o : Oper} {a : Act} {w w' : World} {K : Act → World → Prop} {Q : Exit → Act → World → Prop} (h : (execOp a.eval o).run P w = .ok .skip w') (hk : K (a.put o.dst undef) w') : o.wp P a w K Q := by
  unfold Oper.wp; rw [h]; exact hk
theorem wp_enter {P : Program} {o : Oper} {a : Act} {w w' : World} {K : Act → World → Prop} {Q : Exit → Act → World → Prop} {f : FuncId} {args : Array Value} (h : (execOp a.eval o).run P w = .ok (.enter f args) w') (hk : Calls P f args w' fun e w'' => (∃ v, e = .returned v ∧ K (a.put o.dst v) w'') ∨ ∃ c, e = .panicked c ∧ Q (.panic c) a w'') : o.wp P a w K Q := by
  unfold Oper.wp; rw [h]
  refine hk.mono ?_
  rintro e w'' (⟨v, rfl, h⟩ | ⟨c, rfl, h⟩)
  · exact h
  · exact h

theorem open_set : ∀ (l : List Bool) (i : Nat), l[i]? = some false → ((l.set i true).filter (· == false)).length + 1 = (l.filter (· == false)).length
  | [], i, h => by simp at h
  | b :: l, 0, h => by
    have hb : b = false := by simpa using h
    subst hb
    simp
  | b :: l, i + 1, h => by
    have h' : l[i]? = some false := by simpa using h
    have ih := open_set l i h'
    cases b <;> simp [List.set_cons_succ] at ih ⊢ <;> omega
theorem ready_open {md : Region.Mode} {ops : Array Oper} {listed : Array Bool} {i : Nat} (hi : i ∈ Region.ready md ops listed) : listed.toList[i]? = some false ∧ i < ops.size ∧ (∀ o, ops[i]? = some o → ∀ e ∈ o.after, Region.binds md e = true → listed.getD e.on false = true) := by
  unfold Region.ready at hi
  rw [List.mem_filter, List.mem_range] at hi
  obtain ⟨h1, h2⟩ := hi
  simp only [Bool.and_eq_true, Bool.not_eq_true'] at h2
  obtain ⟨h2, h3⟩ := h2
  refine ⟨?_, h1, fun o ho e he hb => ?_⟩
  · rw [Array.getElem?_toList]
    rw [Array.getD_eq_getD_getElem?] at h2
    cases hq : listed[i]? with
    | none => rw [hq] at h2; simp at h2
    | some b => rw [hq] at h2; simp at h2; rw [h2]
  · rw [ho] at h3
    simp only [Option.map_some, Option.getD_some, Array.all_eq_true_iff_forall_mem] at h3
    have := h3 e he
    simpa [hb] using this
theorem wpAny_inv {P : Program} {md : Region.Mode} {ops : Array Oper} {Q : Exit → Act → World → Prop} (Inv : Array Bool → Act → World → Prop)
    (hstep : ∀ listed a w i, Inv listed a w → i ∈ Region.ready md ops listed → wpOp P ops Q i (Inv (listed.setIfInBounds i true)) a w)
    (hend : ∀ listed a w, Inv listed a w → Region.ready md ops listed = [] → Q .normal a w) :
    ∀ fuel listed a w, Inv listed a w → (listed.toList.filter (· == false)).length ≤ fuel → wpAny P md ops Q fuel listed a w
  | 0, listed, a, w, h, hf => by
    by_cases hr : Region.ready md ops listed = []
    · exact ⟨hr, hend _ _ _ h hr⟩
    · obtain ⟨i, hi⟩ := List.exists_mem_of_ne_nil _ hr
      have h1 := (ready_open hi).1
      have : false ∈ listed.toList.filter (· == false) := List.mem_filter.2 ⟨List.mem_of_getElem? h1, rfl⟩
      have := List.length_pos_of_mem this
      omega
  | fuel + 1, listed, a, w, h, hf => by
    refine ⟨fun hr => hend _ _ _ h hr, fun i hi => ?_⟩
    refine wpOp_mono (fun a' w' h' => wpAny_inv Inv hstep hend fuel _ a' w' h' ?_) (hstep _ _ _ _ h hi)
    have := open_set listed.toList i (ready_open hi).1
    rw [Array.toList_setIfInBounds]
    omega

def vals (a : Act) : Nat → Value := fun t => a.tmps.getD t undef
theorem put_slot {o : Oper} {a : Act} (v : Value) {t : Tmp} (h : o.dst = some t) (ht : t < a.tmps.size) : (a.put o.dst v).tmps.getD t undef = v := by
  rw [h]; simp [Act.put, ht]
theorem put_other {o : Oper} {a : Act} (v : Value) {t : Tmp} (h : o.dst ≠ some t) : (a.put o.dst v).tmps.getD t undef = a.tmps.getD t undef := by
  cases hd : o.dst with
  | none => rfl
  | some s =>
    have : s ≠ t := fun e => h (by rw [hd, e])
    simp [Act.put, this]
theorem put_size (o : Oper) (a : Act) (v : Value) : (a.put o.dst v).tmps.size = a.tmps.size ∧ (a.put o.dst v).defers = a.defers := by
  cases hd : o.dst <;> simp [Act.put]
def dependsB (o : Oper) (k : Nat) : Bool := o.after.any fun e => Region.binds .any e && decide (e.on = k)
/-- does operation k wait for operation i, at first or second hand? -/
def behindB (ops : Array Oper) : Nat → Nat → Nat → Bool
  | 0, i, k => decide (k = i)
  | n + 1, i, k => decide (k = i) || match ops[k]? with
    | some o => o.after.any fun e => Region.binds .any e && behindB ops n i e.on
    | none => false
/-- slot t is as it was while operation i has not been run -/
def untouched (ops : Array Oper) (i t : Nat) : Bool := (List.range ops.size).all fun k => match ops[k]? with
  | some o => !(decide (o.dst = some t)) || behindB ops ops.size i k
  | none => true
def mentOk (ops : Array Oper) (ment : Nat → List Nat) : Bool := (List.range ops.size).all fun i => (List.range ops.size).all fun j => match ops[i]?, ops[j]? with
  | some oi, some oj => decide (i = j) || (dependsB oj i || (match oi.dst with
    | some t => !(ment j).contains t
    | none => true))
  | _, _ => true
def dstsIn (ops : Array Oper) (n : Nat) : Bool := ops.all fun o => match o.dst with
  | some t => decide (t < n)
  | none => true
def upward (ops : Array Oper) : Bool := (List.range ops.size).all fun i => match ops[i]? with
  | some o => o.after.all (fun e => !(Region.binds .any e) || decide (e.on < i)) && o.guard.isNone
  | none => true
theorem behind_listed {ops : Array Oper} {listed : Array Bool} (hC : ∀ (j : Nat) (oj : Oper), ops[j]? = some oj → listed[j]? = some true → ∀ e ∈ oj.after, Region.binds .any e = true → listed[e.on]? = some true) : ∀ (n i k : Nat), behindB ops n i k = true → listed[k]? = some true → listed[i]? = some true
  | 0, i, k, h, hl => by
    simp only [behindB, decide_eq_true_eq] at h
    rw [← h]; exact hl
  | n + 1, i, k, h, hl => by
    simp only [behindB, Bool.or_eq_true, decide_eq_true_eq] at h
    rcases h with h | h
    · rw [← h]; exact hl
    · cases ho : ops[k]? with
      | none => rw [ho] at h; cases h
      | some o =>
        rw [ho] at h
        simp only [Array.any_eq_true', Bool.and_eq_true] at h
        obtain ⟨e, he, hb, hn⟩ := h
        exact behind_listed hC n i e.on hn (hC k o ho hl e he hb)
theorem all_listed {ops : Array Oper} {listed : Array Bool} (hu : upward ops = true) (hs : listed.size = ops.size) (hr : Region.ready .any ops listed = []) : ∀ j, j < ops.size → listed[j]? = some true := by
  intro j
  induction j using Nat.strongRecOn with
  | _ j ih =>
    intro hj
    obtain ⟨o, ho⟩ : ∃ o, ops[j]? = some o := ⟨ops[j], by simp [hj]⟩
    cases hl : listed[j]? with
    | none => rw [Array.getElem?_eq_none_iff] at hl; omega
    | some b =>
      cases b with
      | true => rfl
      | false =>
        exfalso
        have : j ∈ Region.ready .any ops listed := by
          unfold Region.ready
          rw [List.mem_filter, List.mem_range]
          refine ⟨hj, ?_⟩
          rw [Array.getD_eq_getD_getElem?, hl, ho]
          simp only [Option.getD_some, Bool.not_false, Option.map_some, Bool.true_and, Array.all_eq_true_iff_forall_mem]
          intro e he
          cases hbd : Region.binds .any e with
          | false => simp
          | true =>
            have h1 := List.all_eq_true.1 hu j (List.mem_range.2 hj)
            rw [ho] at h1
            simp only [Bool.and_eq_true, Array.all_eq_true_iff_forall_mem, Bool.or_eq_true, Bool.not_eq_true', decide_eq_true_eq] at h1
            have h2 : e.on < j := by
              rcases h1.1 e he with h3 | h3
              · rw [hbd] at h3; cases h3
              · exact h3
            have h3 := ih e.on h2 (by omega)
            rw [Array.getD_eq_getD_getElem?, h3]
            simp
        rw [hr] at this
        cases this

theorem wp_region_valsD {P : Program} {id : Nat} {ops : Array Oper} {Q : Exit → Act → World → Prop} {a : Act} {w : World} (hm : P.follows .mixedOrders = true) (hu : upward ops = true)
    (ment : Nat → List Nat) (hment : mentOk ops ment = true) (hdst : dstsIn ops a.tmps.size = true) (Ok : (Nat → Bool) → World → Prop) (R : Nat → (Nat → Value) → World → Prop) (h0 : Ok (fun _ => false) w.drew)
    (hstab : ∀ j f f' w w', Below w.heap.size w w' → (∀ t ∈ ment j, f' t = f t) → R j f w → R j f' w')
    (hstep : ∀ (i : Nat) (o : Oper) (d : Nat → Bool) (a' : Act) (w' : World), ops[i]? = some o → (∀ k, behindB ops ops.size i k = true → d k = false) → (∀ t, untouched ops i t = true → a'.tmps.getD t undef = a.tmps.getD t undef) → a'.defers = a.defers → Ok d w' → (∀ k, dependsB o k = true → R k (vals a') w') →
      ∀ K : Act → World → Prop, (∀ v w'', Below w'.heap.size w' w'' → Ok (fun j => decide (j = i) || d j) w'' → (∀ f : Nat → Value, (∀ t, o.dst = some t → f t = v) → (∀ t, o.dst ≠ some t → f t = vals a' t) → R i f w'') → K (a'.put o.dst v) w'') →
        (∀ v w'', Ok (fun j => decide (j = i) || d j) w'' → (∀ f : Nat → Value, (∀ t, o.dst = some t → f t = v) → (∀ t, o.dst ≠ some t → f t = vals a' t) → R i f w'') → (∀ j f, j ≠ i → (∀ t ∈ ment j, f t = vals a' t) → R j (vals a') w' → R j f w'') → K (a'.put o.dst v) w'') → o.wp P a' w' K Q)
    (hend : ∀ (a' : Act) (w' : World), a'.tmps.size = a.tmps.size → a'.defers = a.defers → (∀ t, (∀ o ∈ ops, o.dst ≠ some t) → a'.tmps.getD t undef = a.tmps.getD t undef) → (∃ d, Ok d w') → (∀ j, j < ops.size → R j (vals a') w') → Q .normal a' w') : (Code.region id ops true).wp P Q a w := by
  refine wp_region_any hm (wpAny_inv (fun listed a' w' => listed.size = ops.size ∧ (a'.tmps.size = a.tmps.size ∧ a'.defers = a.defers) ∧ (∀ t, (∀ (k : Nat) ok, ops[k]? = some ok → ok.dst = some t → listed[k]? ≠ some true) → a'.tmps.getD t undef = a.tmps.getD t undef) ∧ Ok (fun j => listed.getD j false) w' ∧ (∀ j : Nat, listed[j]? = some true → R j (vals a') w') ∧ ∀ (j : Nat) (oj : Oper), ops[j]? = some oj → listed[j]? = some true → ∀ e ∈ oj.after, Region.binds .any e = true → listed[e.on]? = some true) ?_ ?_ _ _ _ _ ?_ (by simp))
  · rintro listed a' w' i ⟨hs, hk, hun, hok, hR, hC⟩ hi
    obtain ⟨hl, hio, hd⟩ := ready_open hi
    have hl' : listed[i]? = some false := by rw [← Array.getElem?_toList]; exact hl
    obtain ⟨o, ho⟩ : ∃ o, ops[i]? = some o := ⟨ops[i], by simp [hio]⟩
    have hmem : o ∈ ops := Array.mem_of_getElem? ho
    have hg : o.guard.isNone = true := by
      have h1 := List.all_eq_true.1 hu i (List.mem_range.2 hio)
      rw [ho] at h1
      simp only [Bool.and_eq_true] at h1
      exact h1.2
    have hw : Region.wanted o (yielded ops a'.tmps) = true := by
      unfold Region.wanted
      cases hgg : o.guard with
      | none => rfl
      | some x => rw [hgg] at hg; cases hg
    have hdep : ∀ e ∈ o.after, Region.binds .any e = true → listed[e.on]? = some true := fun e he hb => by
      have h2 := hd o ho e he hb
      rw [Array.getD_eq_getD_getElem?] at h2
      cases hq : listed[e.on]? with
      | none => rw [hq] at h2; simp at h2
      | some b => rw [hq] at h2; simp at h2; rw [h2]
    have hback : ∀ j, j ≠ i → (listed.setIfInBounds i true)[j]? = some true → listed[j]? = some true := fun j hji hj => by
      rw [Array.getElem?_setIfInBounds, if_neg (Ne.symm hji)] at hj
      exact hj
    have hfwd : ∀ j : Nat, listed[j]? = some true → (listed.setIfInBounds i true)[j]? = some true := fun j hj => by
      have : i ≠ j := by rintro rfl; rw [hl'] at hj; cases hj
      rw [Array.getElem?_setIfInBounds, if_neg this]; exact hj
    have hself : (listed.setIfInBounds i true)[i]? = some true := by
      rw [Array.getElem?_setIfInBounds, if_pos rfl, if_pos (by omega)]
    -- whatever the step does, what follows of it
    have fin : ∀ v w'', Ok (fun j => decide (j = i) || listed.getD j false) w'' → R i (vals (a'.put o.dst v)) w'' → (∀ j, j ≠ i → listed[j]? = some true → R j (vals (a'.put o.dst v)) w'') → (listed.setIfInBounds i true).size = ops.size ∧ ((a'.put o.dst v).tmps.size = a.tmps.size ∧ (a'.put o.dst v).defers = a.defers) ∧ (∀ t, (∀ (k : Nat) ok, ops[k]? = some ok → ok.dst = some t → (listed.setIfInBounds i true)[k]? ≠ some true) → (a'.put o.dst v).tmps.getD t undef = a.tmps.getD t undef) ∧ Ok (fun j => (listed.setIfInBounds i true).getD j false) w'' ∧ (∀ j : Nat, (listed.setIfInBounds i true)[j]? = some true → R j (vals (a'.put o.dst v)) w'') ∧ ∀ (j : Nat) (oj : Oper), ops[j]? = some oj → (listed.setIfInBounds i true)[j]? = some true → ∀ e ∈ oj.after, Region.binds .any e = true → (listed.setIfInBounds i true)[e.on]? = some true := fun v w'' hok' hRi hRj => by
      refine ⟨by simpa using hs, ⟨(put_size o a' v).1.trans hk.1, (put_size o a' v).2.trans hk.2⟩, fun t ht => ?_, ?_, fun j hj => ?_, fun j oj hoj hj e he hb => ?_⟩
      · have hne : o.dst ≠ some t := fun e => ht i o ho e hself
        rw [put_other v hne]
        exact hun t fun k ok hk' hd' hl2 => ht k ok hk' hd' (hfwd k hl2)
      · have e : (fun j => (listed.setIfInBounds i true).getD j false) = fun j => decide (j = i) || listed.getD j false := by
          funext j
          rw [Array.getD_eq_getD_getElem?, Array.getD_eq_getD_getElem?, Array.getElem?_setIfInBounds]
          by_cases hji : i = j
          · subst hji
            rw [if_pos rfl, if_pos (by omega)]
            simp
          · rw [if_neg hji]
            have : decide (j = i) = false := by simpa using Ne.symm hji
            rw [this]; rfl
        rw [e]; exact hok'
      · by_cases hji : j = i
        · subst hji; exact hRi
        · exact hRj j hji (hback j hji hj)
      · by_cases hji : j = i
        · subst hji
          rw [ho] at hoj
          obtain rfl := Option.some.inj hoj
          exact hfwd _ (hdep e he hb)
        · exact hfwd _ (hC j oj hoj (hback j hji hj) e he hb)
    have hslot : ∀ v t, o.dst = some t → vals (a'.put o.dst v) t = v := fun v t ht => by
      refine put_slot v ht ?_
      have h1 := Array.all_eq_true_iff_forall_mem.1 hdst o hmem
      rw [ht] at h1
      rw [hk.1]
      simpa using h1
    have hment2 : ∀ v j, j ≠ i → listed[j]? = some true → ∀ t ∈ ment j, vals (a'.put o.dst v) t = vals a' t := fun v j hji hlj t ht => by
      have hjs : j < ops.size := by
        have := (Array.getElem?_eq_some_iff.1 hlj).1
        omega
      obtain ⟨oj, hoj⟩ : ∃ oj, ops[j]? = some oj := ⟨ops[j], by simp [hjs]⟩
      have h1 := List.all_eq_true.1 (List.all_eq_true.1 hment i (List.mem_range.2 hio)) j (List.mem_range.2 hjs)
      rw [ho, hoj] at h1
      simp only [Bool.or_eq_true, decide_eq_true_eq] at h1
      rcases h1 with h1 | h1 | h1
      · exact absurd h1.symm hji
      · exfalso
        unfold dependsB at h1
        rw [Array.any_eq_true'] at h1
        obtain ⟨e, he, hbb⟩ := h1
        simp only [Bool.and_eq_true, decide_eq_true_eq] at hbb
        have := hC j oj hoj hlj e he hbb.1
        rw [hbb.2, hl'] at this
        cases this
      · cases hd2 : o.dst with
        | none => rfl
        | some d =>
          rw [hd2] at h1
          simp only [Bool.not_eq_true', List.contains_eq_mem, decide_eq_false_iff_not] at h1
          have hne : o.dst ≠ some t := fun e => h1 (by rw [hd2] at e; injection e with e; rw [e]; exact ht)
          have h2 := put_other (a := a') v hne
          rw [hd2] at h2
          exact h2
    unfold wpOp
    rw [ho]
    simp only [hw, if_true]
    refine .inl (hstep i o (fun j => listed.getD j false) a' w' ho (fun k hbk => ?_) (fun t ht => hun t fun k ok hk' hd' hl2 => ?_) hk.2 hok (fun k hdk => ?_) _ ?_ ?_)
    · rw [Array.getD_eq_getD_getElem?]
      cases hq : listed[k]? with
      | none => rfl
      | some b =>
        cases b with
        | false => rfl
        | true =>
          have := behind_listed hC _ i k hbk hq
          rw [hl'] at this; cases this
    · have h1 := List.all_eq_true.1 ht k (List.mem_range.2 (Array.getElem?_eq_some_iff.1 hk').1)
      rw [hk'] at h1
      simp only [hd', decide_true, Bool.not_true, Bool.false_or] at h1
      have := behind_listed hC _ i k h1 hl2
      rw [hl'] at this; cases this
    · unfold dependsB at hdk
      rw [Array.any_eq_true'] at hdk
      obtain ⟨e, he, hb⟩ := hdk
      simp only [Bool.and_eq_true, decide_eq_true_eq] at hb
      rw [← hb.2]
      exact hR e.on (hdep e he hb.1)
    · intro v w'' hb hok' hRi
      exact fin v w'' hok' (hRi _ (hslot v) (fun t ht => put_other v ht)) (fun j hji hlj => hstab j _ _ _ _ hb (hment2 v j hji hlj) (hR j hlj))
    · intro v w'' hok' hRi hst
      exact fin v w'' hok' (hRi _ (hslot v) (fun t ht => put_other v ht)) (fun j hji hlj => hst j _ hji (hment2 v j hji hlj) (hR j hlj))
  · rintro listed a' w' ⟨hs, hk, hun, hok, hR, -⟩ hr
    exact hend a' w' hk.1 hk.2 (fun t ht => hun t fun k ok hk' hd' _ => ht ok (Array.mem_of_getElem? hk') hd') ⟨_, hok⟩ fun j hj => hR j (all_listed hu hs hr j hj)
  · refine ⟨by simp, ⟨rfl, rfl⟩, fun _ _ => rfl, ?_, fun j hj => ?_, fun j oj _ hj => ?_⟩
    · have e : (fun j => (Array.replicate ops.size false).getD j false) = fun _ => false := by
        funext j
        rw [Array.getD_eq_getD_getElem?, Array.getElem?_replicate]
        split <;> rfl
      rw [e]; exact h0
    · simp [Array.getElem?_replicate] at hj
    · simp [Array.getElem?_replicate] at hj
theorem wp_region_vals {P : Program} {id : Nat} {ops : Array Oper} {Q : Exit → Act → World → Prop} {a : Act} {w : World} (hm : P.follows .mixedOrders = true) (hu : upward ops = true)
    (ment : Nat → List Nat) (hment : mentOk ops ment = true) (hdst : dstsIn ops a.tmps.size = true) (Ok : (Nat → Bool) → World → Prop) (R : Nat → (Nat → Value) → World → Prop) (h0 : Ok (fun _ => false) w.drew)
    (hstab : ∀ j f f' w w', Below w.heap.size w w' → (∀ t ∈ ment j, f' t = f t) → R j f w → R j f' w')
    (hstep : ∀ (i : Nat) (o : Oper) (d : Nat → Bool) (a' : Act) (w' : World), ops[i]? = some o → (∀ k, behindB ops ops.size i k = true → d k = false) → (∀ t, untouched ops i t = true → a'.tmps.getD t undef = a.tmps.getD t undef) → Ok d w' → (∀ k, dependsB o k = true → R k (vals a') w') →
      ∀ K : Act → World → Prop, (∀ v w'', Below w'.heap.size w' w'' → Ok (fun j => decide (j = i) || d j) w'' → (∀ f : Nat → Value, (∀ t, o.dst = some t → f t = v) → (∀ t, o.dst ≠ some t → f t = vals a' t) → R i f w'') → K (a'.put o.dst v) w'') →
        (∀ v w'', Ok (fun j => decide (j = i) || d j) w'' → (∀ f : Nat → Value, (∀ t, o.dst = some t → f t = v) → (∀ t, o.dst ≠ some t → f t = vals a' t) → R i f w'') → (∀ j f, j ≠ i → (∀ t ∈ ment j, f t = vals a' t) → R j (vals a') w' → R j f w'') → K (a'.put o.dst v) w'') → o.wp P a' w' K Q)
    (hend : ∀ (a' : Act) (w' : World), a'.tmps.size = a.tmps.size → a'.defers = a.defers → (∀ t, (∀ o ∈ ops, o.dst ≠ some t) → a'.tmps.getD t undef = a.tmps.getD t undef) → (∃ d, Ok d w') → (∀ j, j < ops.size → R j (vals a') w') → Q .normal a' w') : (Code.region id ops true).wp P Q a w :=
  wp_region_valsD hm hu ment hment hdst Ok R h0 hstab (fun i o d a' w' h1 h2 h3 _ h4 h5 => hstep i o d a' w' h1 h2 h3 h4 h5) hend

theorem lit_tm (tm : Array Value) (n : Nat) (h : tm.size = n) : tm = ((List.range n).map fun i => tm.getD i undef).toArray := by
  apply Array.ext
  · simp [h]
  · intro i h1 h2
    simp [h1]
theorem frame_sets_at (tm' : Array Value) : ∀ (ks : List Nat) (tm : Array Value), tm'.size = tm.size → (∀ t, t ∉ ks → tm'.getD t undef = tm.getD t undef) → tm' = ks.foldl (fun a k => a.setIfInBounds k (tm'.getD k undef)) tm
  | [], tm, hs, h => by
    rw [List.foldl_nil]
    apply Array.ext hs
    intro i h1 h2
    have := h i (by simp)
    simpa [h1, h2] using this
  | k :: ks, tm, hs, h => by
    rw [List.foldl_cons]
    refine frame_sets_at tm' ks _ (by simpa using hs) (fun t ht => ?_)
    by_cases hk : t = k
    · subst hk
      by_cases hl : t < tm.size
      · simp [hl]
      · have hl' : ¬ t < tm'.size := by omega
        simp [hl, hl']
    · have h1 := h t (by simp [hk, ht])
      rw [h1]
      simp only [Array.getD_eq_getD_getElem?, Array.getElem?_setIfInBounds, if_neg (Ne.symm hk)]
/-- a frame behind a region: the one before it but for the region's slots -/
theorem frame_sets {ops : Array Oper} {a a' : Act} (ks : List Nat) (hks : ops.all (fun o => match o.dst with
    | some t => ks.contains t
    | none => true) = true) (hs : a'.tmps.size = a.tmps.size) (h : ∀ t, (∀ o ∈ ops, o.dst ≠ some t) → a'.tmps.getD t undef = a.tmps.getD t undef) : a'.tmps = ks.foldl (fun x k => x.setIfInBounds k (a'.tmps.getD k undef)) a.tmps :=
  frame_sets_at a'.tmps ks a.tmps hs fun t ht => h t fun o ho hd => ht (by
    have h1 := Array.all_eq_true_iff_forall_mem.1 hks o ho
    rw [hd] at h1
    simpa using h1)
end Go.Proofs.Ytbgcoeejmnejdaa.Cw
namespace Go.Proofs.Ytbgcoeejmnejdaa.Cw
open Go.ChangeShapes Go.WideShapes Go.ChangeAt Go.RowKit

theorem wp_region_valsE {P : Program} {id : Nat} {ops : Array Oper} {Q : Exit → Act → World → Prop} {a : Act} {w : World} (hm : P.follows .mixedOrders = true) (hu : upward ops = true)
    (ment : Nat → List Nat) (hment : mentOk ops ment = true) (hdst : dstsIn ops a.tmps.size = true) (Ok : (Nat → Bool) → World → Prop) (R : Nat → (Nat → Value) → World → Prop) (h0 : Ok (fun _ => false) w.drew)
    (hstab : ∀ j f f' w w', Below w.heap.size w w' → (∀ t ∈ ment j, f' t = f t) → R j f w → R j f' w')
    (hstep : ∀ (i : Nat) (o : Oper) (d : Nat → Bool) (a' : Act) (w' : World), ops[i]? = some o → (∀ k, behindB ops ops.size i k = true → d k = false) → (∀ t, untouched ops i t = true → a'.tmps.getD t undef = a.tmps.getD t undef) → a'.defers = a.defers → Ok d w' → (∀ k, dependsB o k = true → d k = true ∧ R k (vals a') w') →
      ∀ K : Act → World → Prop, (∀ v w'', Below w'.heap.size w' w'' → Ok (fun j => decide (j = i) || d j) w'' → (∀ f : Nat → Value, (∀ t, o.dst = some t → f t = v) → (∀ t, o.dst ≠ some t → f t = vals a' t) → R i f w'') → K (a'.put o.dst v) w'') →
        (∀ v w'', Ok (fun j => decide (j = i) || d j) w'' → (∀ f : Nat → Value, (∀ t, o.dst = some t → f t = v) → (∀ t, o.dst ≠ some t → f t = vals a' t) → R i f w'') → (∀ j f, j ≠ i → (∀ t ∈ ment j, f t = vals a' t) → R j (vals a') w' → R j f w'') → K (a'.put o.dst v) w'') → o.wp P a' w' K Q)
    (hend : ∀ (a' : Act) (w' : World), a'.tmps.size = a.tmps.size → a'.defers = a.defers → (∀ t, (∀ o ∈ ops, o.dst ≠ some t) → a'.tmps.getD t undef = a.tmps.getD t undef) → (∃ d, Ok d w' ∧ ∀ j, j < ops.size → d j = true) → (∀ j, j < ops.size → R j (vals a') w') → Q .normal a' w') : (Code.region id ops true).wp P Q a w := by
  refine wp_region_any hm (wpAny_inv (fun listed a' w' => listed.size = ops.size ∧ (a'.tmps.size = a.tmps.size ∧ a'.defers = a.defers) ∧ (∀ t, (∀ (k : Nat) ok, ops[k]? = some ok → ok.dst = some t → listed[k]? ≠ some true) → a'.tmps.getD t undef = a.tmps.getD t undef) ∧ Ok (fun j => listed.getD j false) w' ∧ (∀ j : Nat, listed[j]? = some true → R j (vals a') w') ∧ ∀ (j : Nat) (oj : Oper), ops[j]? = some oj → listed[j]? = some true → ∀ e ∈ oj.after, Region.binds .any e = true → listed[e.on]? = some true) ?_ ?_ _ _ _ _ ?_ (by simp))
  · rintro listed a' w' i ⟨hs, hk, hun, hok, hR, hC⟩ hi
    obtain ⟨hl, hio, hd⟩ := ready_open hi
    have hl' : listed[i]? = some false := by rw [← Array.getElem?_toList]; exact hl
    obtain ⟨o, ho⟩ : ∃ o, ops[i]? = some o := ⟨ops[i], by simp [hio]⟩
    have hmem : o ∈ ops := Array.mem_of_getElem? ho
    have hg : o.guard.isNone = true := by
      have h1 := List.all_eq_true.1 hu i (List.mem_range.2 hio)
      rw [ho] at h1
      simp only [Bool.and_eq_true] at h1
      exact h1.2
    have hw : Region.wanted o (yielded ops a'.tmps) = true := by
      unfold Region.wanted
      cases hgg : o.guard with
      | none => rfl
      | some x => rw [hgg] at hg; cases hg
    have hdep : ∀ e ∈ o.after, Region.binds .any e = true → listed[e.on]? = some true := fun e he hb => by
      have h2 := hd o ho e he hb
      rw [Array.getD_eq_getD_getElem?] at h2
      cases hq : listed[e.on]? with
      | none => rw [hq] at h2; simp at h2
      | some b => rw [hq] at h2; simp at h2; rw [h2]
    have hback : ∀ j, j ≠ i → (listed.setIfInBounds i true)[j]? = some true → listed[j]? = some true := fun j hji hj => by
      rw [Array.getElem?_setIfInBounds, if_neg (Ne.symm hji)] at hj
      exact hj
    have hfwd : ∀ j : Nat, listed[j]? = some true → (listed.setIfInBounds i true)[j]? = some true := fun j hj => by
      have : i ≠ j := by rintro rfl; rw [hl'] at hj; cases hj
      rw [Array.getElem?_setIfInBounds, if_neg this]; exact hj
    have hself : (listed.setIfInBounds i true)[i]? = some true := by
      rw [Array.getElem?_setIfInBounds, if_pos rfl, if_pos (by omega)]
    -- whatever the step does, what follows of it
    have fin : ∀ v w'', Ok (fun j => decide (j = i) || listed.getD j false) w'' → R i (vals (a'.put o.dst v)) w'' → (∀ j, j ≠ i → listed[j]? = some true → R j (vals (a'.put o.dst v)) w'') → (listed.setIfInBounds i true).size = ops.size ∧ ((a'.put o.dst v).tmps.size = a.tmps.size ∧ (a'.put o.dst v).defers = a.defers) ∧ (∀ t, (∀ (k : Nat) ok, ops[k]? = some ok → ok.dst = some t → (listed.setIfInBounds i true)[k]? ≠ some true) → (a'.put o.dst v).tmps.getD t undef = a.tmps.getD t undef) ∧ Ok (fun j => (listed.setIfInBounds i true).getD j false) w'' ∧ (∀ j : Nat, (listed.setIfInBounds i true)[j]? = some true → R j (vals (a'.put o.dst v)) w'') ∧ ∀ (j : Nat) (oj : Oper), ops[j]? = some oj → (listed.setIfInBounds i true)[j]? = some true → ∀ e ∈ oj.after, Region.binds .any e = true → (listed.setIfInBounds i true)[e.on]? = some true := fun v w'' hok' hRi hRj => by
      refine ⟨by simpa using hs, ⟨(put_size o a' v).1.trans hk.1, (put_size o a' v).2.trans hk.2⟩, fun t ht => ?_, ?_, fun j hj => ?_, fun j oj hoj hj e he hb => ?_⟩
      · have hne : o.dst ≠ some t := fun e => ht i o ho e hself
        rw [put_other v hne]
        exact hun t fun k ok hk' hd' hl2 => ht k ok hk' hd' (hfwd k hl2)
      · have e : (fun j => (listed.setIfInBounds i true).getD j false) = fun j => decide (j = i) || listed.getD j false := by
          funext j
          rw [Array.getD_eq_getD_getElem?, Array.getD_eq_getD_getElem?, Array.getElem?_setIfInBounds]
          by_cases hji : i = j
          · subst hji
            rw [if_pos rfl, if_pos (by omega)]
            simp
          · rw [if_neg hji]
            have : decide (j = i) = false := by simpa using Ne.symm hji
            rw [this]; rfl
        rw [e]; exact hok'
      · by_cases hji : j = i
        · subst hji; exact hRi
        · exact hRj j hji (hback j hji hj)
      · by_cases hji : j = i
        · subst hji
          rw [ho] at hoj
          obtain rfl := Option.some.inj hoj
          exact hfwd _ (hdep e he hb)
        · exact hfwd _ (hC j oj hoj (hback j hji hj) e he hb)
    have hslot : ∀ v t, o.dst = some t → vals (a'.put o.dst v) t = v := fun v t ht => by
      refine put_slot v ht ?_
      have h1 := Array.all_eq_true_iff_forall_mem.1 hdst o hmem
      rw [ht] at h1
      rw [hk.1]
      simpa using h1
    have hment2 : ∀ v j, j ≠ i → listed[j]? = some true → ∀ t ∈ ment j, vals (a'.put o.dst v) t = vals a' t := fun v j hji hlj t ht => by
      have hjs : j < ops.size := by
        have := (Array.getElem?_eq_some_iff.1 hlj).1
        omega
      obtain ⟨oj, hoj⟩ : ∃ oj, ops[j]? = some oj := ⟨ops[j], by simp [hjs]⟩
      have h1 := List.all_eq_true.1 (List.all_eq_true.1 hment i (List.mem_range.2 hio)) j (List.mem_range.2 hjs)
      rw [ho, hoj] at h1
      simp only [Bool.or_eq_true, decide_eq_true_eq] at h1
      rcases h1 with h1 | h1 | h1
      · exact absurd h1.symm hji
      · exfalso
        unfold dependsB at h1
        rw [Array.any_eq_true'] at h1
        obtain ⟨e, he, hbb⟩ := h1
        simp only [Bool.and_eq_true, decide_eq_true_eq] at hbb
        have := hC j oj hoj hlj e he hbb.1
        rw [hbb.2, hl'] at this
        cases this
      · cases hd2 : o.dst with
        | none => rfl
        | some d =>
          rw [hd2] at h1
          simp only [Bool.not_eq_true', List.contains_eq_mem, decide_eq_false_iff_not] at h1
          have hne : o.dst ≠ some t := fun e => h1 (by rw [hd2] at e; injection e with e; rw [e]; exact ht)
          have h2 := put_other (a := a') v hne
          rw [hd2] at h2
          exact h2
    unfold wpOp
    rw [ho]
    simp only [hw, if_true]
    refine .inl (hstep i o (fun j => listed.getD j false) a' w' ho (fun k hbk => ?_) (fun t ht => hun t fun k ok hk' hd' hl2 => ?_) hk.2 hok (fun k hdk => ?_) _ ?_ ?_)
    · rw [Array.getD_eq_getD_getElem?]
      cases hq : listed[k]? with
      | none => rfl
      | some b =>
        cases b with
        | false => rfl
        | true =>
          have := behind_listed hC _ i k hbk hq
          rw [hl'] at this; cases this
    · have h1 := List.all_eq_true.1 ht k (List.mem_range.2 (Array.getElem?_eq_some_iff.1 hk').1)
      rw [hk'] at h1
      simp only [hd', decide_true, Bool.not_true, Bool.false_or] at h1
      have := behind_listed hC _ i k h1 hl2
      rw [hl'] at this; cases this
    · unfold dependsB at hdk
      rw [Array.any_eq_true'] at hdk
      obtain ⟨e, he, hb⟩ := hdk
      simp only [Bool.and_eq_true, decide_eq_true_eq] at hb
      rw [← hb.2]
      refine ⟨?_, hR e.on (hdep e he hb.1)⟩
      rw [Array.getD_eq_getD_getElem?, hdep e he hb.1]; rfl
    · intro v w'' hb hok' hRi
      exact fin v w'' hok' (hRi _ (hslot v) (fun t ht => put_other v ht)) (fun j hji hlj => hstab j _ _ _ _ hb (hment2 v j hji hlj) (hR j hlj))
    · intro v w'' hok' hRi hst
      exact fin v w'' hok' (hRi _ (hslot v) (fun t ht => put_other v ht)) (fun j hji hlj => hst j _ hji (hment2 v j hji hlj) (hR j hlj))
  · rintro listed a' w' ⟨hs, hk, hun, hok, hR, -⟩ hr
    exact hend a' w' hk.1 hk.2 (fun t ht => hun t fun k ok hk' hd' _ => ht ok (Array.mem_of_getElem? hk') hd') ⟨_, hok, fun j hj => by
      rw [Array.getD_eq_getD_getElem?, all_listed hu hs hr j hj]; rfl⟩ fun j hj => hR j (all_listed hu hs hr j hj)
  · refine ⟨by simp, ⟨rfl, rfl⟩, fun _ _ => rfl, ?_, fun j hj => ?_, fun j oj _ hj => ?_⟩
    · have e : (fun j => (Array.replicate ops.size false).getD j false) = fun _ => false := by
        funext j
        rw [Array.getD_eq_getD_getElem?, Array.getElem?_replicate]
        split <;> rfl
      rw [e]; exact h0
    · simp [Array.getElem?_replicate] at hj
    · simp [Array.getElem?_replicate] at hj
end Go.Proofs.Ytbgcoeejmnejdaa.Cw
namespace Go.Proofs.Ytbgcoeejmnejdaa.Cw
open Go.ChangeShapes Go.WideShapes Go.ChangeAt Go.RowKit

/-- w' is w but for block g -/
structure But (g : Nat) (w w' : World) : Prop where
  b : ∀ k, k ≠ g → w'.heap[k]? = w.heap[k]?
  z : w'.heap.size = w.heap.size
  os : w'.os = w.os
  tape : w'.tape = w.tape
  output : w'.output = w.output
theorem But.refl (g : Nat) (w : World) : But g w w := ⟨fun _ _ => rfl, rfl, rfl, rfl, rfl⟩
theorem But.trans {g : Nat} {a b c : World} (h : But g a b) (k : But g b c) : But g a c := ⟨fun i hi => (k.b i hi).trans (h.b i hi), k.z.trans h.z, k.os.trans h.os, k.tape.trans h.tape, k.output.trans h.output⟩
theorem But.set (w : World) (g i : Nat) (v : Value) : But g w (w.setCell ⟨g, i, none⟩ v) := ⟨fun _ hk => Below.heap_setCell _ _ _ _ hk, by simp [World.setCell], rfl, rfl, rfl⟩
theorem But.below {g B : Nat} {W w w' : World} (h : But g w w') (hb : Below B W w) (hg : B ≤ g) : Below B W w' :=
  ⟨h.os.trans hb.os, h.tape.trans hb.tape, h.output.trans hb.output, by rw [h.z]; exact hb.size, fun k hk => (h.b k (by omega)).trans (hb.block k hk)⟩
theorem But.block {g k : Nat} {w w' : World} (h : But g w w') {x : Option Obj} (hx : w.heap[k]? = x) (hk : k ≠ g) : w'.heap[k]? = x := (h.b k hk).trans hx
theorem store_at {P : Program} {w : World} {g : Nat} {z : Array Value} {e : TypeId} (hg : w.heap[g]? = some (.cells z e (0, 0))) (i : Nat) (v : Value) (hv : v.oneCell' = true) (hi : i < z.size) : ∃ w', (store ⟨g, i, none⟩ v).run P w = .ok () w' ∧ w'.heap[g]? = some (.cells (z.setIfInBounds i v) e (0, 0)) ∧ But g w w' := by
  refine ⟨w.setCell ⟨g, i, none⟩ v, ?_, by simp [World.setCell, Array.getElem?_modify, hg], But.set w g i v⟩
  rw [run_store P w _ v _ hv]
  simp [World.frozen?, World.cell?, hg, hi]
theorem step_set {g : Nat} {e : TypeId} (w : World) (z : Array Value) (i : Nat) (v : Value) (hg : w.heap[g]? = some (.cells z e (0, 0))) (hi : i < z.size) : ∃ Z u, (w.setCell ⟨g, i, none⟩ v = Z ∧ w.cell? ⟨g, i, none⟩ = some u ∧ w.frozen? ⟨g, i, none⟩ = false) ∧ Z.heap[g]? = some (.cells (z.setIfInBounds i v) e (0, 0)) ∧ But g w Z :=
  ⟨_, z[i], ⟨rfl, by simp [World.cell?, hg, hi], by simp [World.frozen?, hg]⟩, by simp [World.setCell, Array.getElem?_modify, hg], But.set w g i v⟩
theorem set_all8 (z : Array Value) (hz : z.size = 8) (x0 x1 x2 x3 x4 x5 x6 x7 : Value) : (((((((z.setIfInBounds 0 x0).setIfInBounds 1 x1).setIfInBounds 2 x2).setIfInBounds 3 x3).setIfInBounds 4 x4).setIfInBounds 5 x5).setIfInBounds 6 x6).setIfInBounds 7 x7 = #[x0, x1, x2, x3, x4, x5, x6, x7] := by
  obtain ⟨l⟩ := z
  have hz' : l.length = 8 := by simpa using hz
  clear hz
  rcases l with _ | ⟨a0, l⟩ <;> simp only [List.length_cons, List.length_nil] at hz'
  · omega
  rcases l with _ | ⟨a1, l⟩ <;> simp only [List.length_cons, List.length_nil] at hz'
  · omega
  rcases l with _ | ⟨a2, l⟩ <;> simp only [List.length_cons, List.length_nil] at hz'
  · omega
  rcases l with _ | ⟨a3, l⟩ <;> simp only [List.length_cons, List.length_nil] at hz'
  · omega
  rcases l with _ | ⟨a4, l⟩ <;> simp only [List.length_cons, List.length_nil] at hz'
  · omega
  rcases l with _ | ⟨a5, l⟩ <;> simp only [List.length_cons, List.length_nil] at hz'
  · omega
  rcases l with _ | ⟨a6, l⟩ <;> simp only [List.length_cons, List.length_nil] at hz'
  · omega
  rcases l with _ | ⟨a7, l⟩ <;> simp only [List.length_cons, List.length_nil] at hz'
  · omega
  obtain rfl : l = [] := List.eq_nil_of_length_eq_zero (by omega)
  simp
theorem store8 {w : World} {g : Nat} {z : Array Value} {e : TypeId} (hg : w.heap[g]? = some (.cells z e (0, 0))) (hz : z.size = 8) (x0 x1 x2 x3 x4 x5 x6 x7 : Value) :
    ∃ Z1 Z2 Z3 Z4 Z5 Z6 Z7 Z8 : World, ∃ u0 u1 u2 u3 u4 u5 u6 u7 : Value, (w.setCell ⟨g, 0, none⟩ x0 = Z1 ∧ w.cell? ⟨g, 0, none⟩ = some u0 ∧ w.frozen? ⟨g, 0, none⟩ = false) ∧ (Z1.setCell ⟨g, 1, none⟩ x1 = Z2 ∧ Z1.cell? ⟨g, 1, none⟩ = some u1 ∧ Z1.frozen? ⟨g, 1, none⟩ = false) ∧ (Z2.setCell ⟨g, 2, none⟩ x2 = Z3 ∧ Z2.cell? ⟨g, 2, none⟩ = some u2 ∧ Z2.frozen? ⟨g, 2, none⟩ = false) ∧ (Z3.setCell ⟨g, 3, none⟩ x3 = Z4 ∧ Z3.cell? ⟨g, 3, none⟩ = some u3 ∧ Z3.frozen? ⟨g, 3, none⟩ = false) ∧ (Z4.setCell ⟨g, 4, none⟩ x4 = Z5 ∧ Z4.cell? ⟨g, 4, none⟩ = some u4 ∧ Z4.frozen? ⟨g, 4, none⟩ = false) ∧ (Z5.setCell ⟨g, 5, none⟩ x5 = Z6 ∧ Z5.cell? ⟨g, 5, none⟩ = some u5 ∧ Z5.frozen? ⟨g, 5, none⟩ = false) ∧ (Z6.setCell ⟨g, 6, none⟩ x6 = Z7 ∧ Z6.cell? ⟨g, 6, none⟩ = some u6 ∧ Z6.frozen? ⟨g, 6, none⟩ = false) ∧ (Z7.setCell ⟨g, 7, none⟩ x7 = Z8 ∧ Z7.cell? ⟨g, 7, none⟩ = some u7 ∧ Z7.frozen? ⟨g, 7, none⟩ = false) ∧ Z8.heap[g]? = some (.cells #[x0, x1, x2, x3, x4, x5, x6, x7] e (0, 0)) ∧ But g w Z8 := by
  obtain ⟨Z1, u0, r0, g0, b0⟩ := step_set w z 0 x0 hg (by omega)
  obtain ⟨Z2, u1, r1, g1, b1⟩ := step_set Z1 _ 1 x1 g0 (by simp; omega)
  obtain ⟨Z3, u2, r2, g2, b2⟩ := step_set Z2 _ 2 x2 g1 (by simp; omega)
  obtain ⟨Z4, u3, r3, g3, b3⟩ := step_set Z3 _ 3 x3 g2 (by simp; omega)
  obtain ⟨Z5, u4, r4, g4, b4⟩ := step_set Z4 _ 4 x4 g3 (by simp; omega)
  obtain ⟨Z6, u5, r5, g5, b5⟩ := step_set Z5 _ 5 x5 g4 (by simp; omega)
  obtain ⟨Z7, u6, r6, g6, b6⟩ := step_set Z6 _ 6 x6 g5 (by simp; omega)
  obtain ⟨Z8, u7, r7, g7, b7⟩ := step_set Z7 _ 7 x7 g6 (by simp; omega)
  rw [set_all8 z hz] at g7
  exact ⟨Z1, Z2, Z3, Z4, Z5, Z6, Z7, Z8, u0, u1, u2, u3, u4, u5, u6, u7, r0, r1, r2, r3, r4, r5, r6, r7, g7, b0.trans (b1.trans (b2.trans (b3.trans (b4.trans (b5.trans (b6.trans (b7)))))))⟩
end Go.Proofs.Ytbgcoeejmnejdaa.Cw
namespace Go.Proofs.Ytbgcoeejmnejdaa.Cw
open Go.ChangeShapes Go.WideShapes Go.ChangeAt Go.RowKit Go.Maps Circ

theorem own_empty (w : World) (base : Nat) (e : TypeId) (m : Nat) (hb : base ≤ w.heap.size) : OwnC (w.alloc (.cells #[] e)) base e m (.slice (some ⟨w.heap.size, 0, none⟩) 0 0) [] :=
  ⟨by simp, .inr ⟨w.heap.size, 0, #[], rfl, hb, Array.getElem?_push_size, Nat.le_refl _, by decide, by simp, by simp⟩⟩
theorem ints_len (l : List Int) : ∀ y ∈ ints l, y.length = 1 := fun y hy => by obtain ⟨x, _, rfl⟩ := List.mem_map.1 hy; rfl
theorem tris_len (l : List Tri) : ∀ y ∈ tris l, y.length = 3 := fun y hy => by obtain ⟨x, _, rfl⟩ := List.mem_map.1 hy; rfl
theorem nams_len (l : List Nam) : ∀ y ∈ nams l, y.length = 3 := fun y hy => by obtain ⟨x, _, rfl⟩ := List.mem_map.1 hy; rfl
theorem ints_one (l : List Int) : ∀ y ∈ ints l, ∀ u ∈ y, u.oneCell' = true := fun y hy u hu => by
  obtain ⟨x, _, rfl⟩ := List.mem_map.1 hy
  simp at hu; subst hu; rfl
theorem tris_one (l : List Tri) : ∀ y ∈ tris l, ∀ u ∈ y, u.oneCell' = true := fun y hy u hu => by
  obtain ⟨x, _, rfl⟩ := List.mem_map.1 hy
  simp [Tri.cells] at hu; rcases hu with rfl | rfl | rfl <;> rfl
theorem nams_one (l : List Nam) : ∀ y ∈ nams l, ∀ u ∈ y, u.oneCell' = true := fun y hy u hu => by
  obtain ⟨x, _, rfl⟩ := List.mem_map.1 hy
  simp [Nam.cells] at hu; rcases hu with rfl | rfl | rfl <;> rfl
theorem ints_length (l : List Int) : (ints l).length = l.length := by simp [ints]
theorem tris_length (l : List Tri) : (tris l).length = l.length := by simp [tris]
theorem nams_length (l : List Nam) : (nams l).length = l.length := by simp [nams]
theorem infoI : (Try.prog.info? 3).map (fun i => (i.zero, i.size, i.bytes)) = some (some (.int .i64 0), 1, 8) := by kernel_rfl
theorem infoL : (Try.prog.info? 39).map (fun i => (i.zero, i.size, i.bytes)) = some (some (.agg #[.int .i64 0, .int .i64 0, .int .i64 0]), 3, 24) := by kernel_rfl
theorem infoA : (Try.prog.info? 43).map (fun i => (i.zero, i.size, i.bytes)) = some (some (.agg #[.int .i64 0, .int .i64 0, .int .i64 0]), 3, 24) := by kernel_rfl
theorem infoN : (Try.prog.info? 84).map (fun i => (i.zero, i.size, i.bytes)) = some (some (.agg #[.string ⟨#[]⟩, .int .i64 0, .string ⟨#[]⟩]), 3, 40) := by kernel_rfl

set_option maxRecDepth 100000 in
set_option maxHeartbeats 1000000 in
theorem clone22_any (l : List Int) (A : Option Addr) (q : Nat) (w : World) (hr : LRow w w.heap.size 1 A (ints l)) (hl : l.length * 8 ≤ 140737488355328) :
    Calls Try.prog 92 #[.slice A l.length q] w fun e w' => (∃ v, e = .returned v ∧ OwnC w' w.heap.size 3 1 v (ints l)) ∧ Below w.heap.size w w' := by
  have qT : ∀ (w : World) (a : Option Addr) (n c n' c' : Nat), (binOp .eql 22 (.slice a n c) (.slice none n' c')).run Try.prog w = .ok (.bool a.isNone) w := fun w a n c n' c' => Lib.run_eql_slice_nil w _ _ a n c n' c' Try.underlying22
  rcases A with _ | ad
  · have h0 : l = [] := by
      rcases hr with h | ⟨b, o, h, _⟩
      · simpa [ints] using h
      · cases h
    subst h0
    go_enter Try.func92, Try.ntmps92
    go_wp2
    go_ret
    exact ⟨⟨_, rfl, OwnC.nil _ _ _ _⟩, Below.refl _ _⟩
  · have hb1 : Below w.heap.size w (w.alloc (.cells #[] 3)) := (Below.refl _ _).alloc (Nat.le_refl _) _
    have HO := Lib.hid (own_empty w w.heap.size 3 1 (Nat.le_refl _))
    have HR := Lib.hid (hr.below hb1)
    have HB := Lib.hid hb1
    have HL : Hid ((ints l).length * 8 ≤ 140737488355328) := by unfold Hid; rw [ints_length]; exact hl
    clear hr hb1
    go_enter Try.func92, Try.ntmps92
    go_wp2_with (at_builtin; refine wpList_fill _ rfl (.tmp 5) (.tmp 6) 22 rfl 3 1 8 _ Try.underlying22 infoI rfl (by decide) w.heap.size w.heap.size _ HO.out w.heap.size (ints l) rfl rfl (some ad) l.length q (ints_length l).symm rfl HR.out (ints_len l) (ints_one l) HL.out HB.out.size (by have := HL.out; omega) ?_)
    intro v' w' hown hg hloc
    have hb2 : Below w.heap.size w w' := HB.out.trans ⟨hg.os, hg.tape, hg.output, hg.size, fun k hk => hg.block k (by have := HB.out.size; omega) (fun e => by simp [Value.ownBlock] at e; omega)⟩
    have HOW := Lib.hid hown
    have HB2 := Lib.hid hb2
    clear hown hg hloc hb2
    go_wp2
    go_ret
    exact ⟨⟨_, rfl, HOW.out⟩, HB2.out⟩

set_option maxRecDepth 100000 in
set_option maxHeartbeats 1000000 in
theorem clone23_any (l : List Tri) (A : Option Addr) (q : Nat) (w : World) (hr : LRow w w.heap.size 3 A (tris l)) (hl : l.length * 24 ≤ 140737488355328) :
    Calls Try.prog 93 #[.slice A l.length q] w fun e w' => (∃ v, e = .returned v ∧ OwnC w' w.heap.size 39 3 v (tris l)) ∧ Below w.heap.size w w' := by
  have qT : ∀ (w : World) (a : Option Addr) (n c n' c' : Nat), (binOp .eql 23 (.slice a n c) (.slice none n' c')).run Try.prog w = .ok (.bool a.isNone) w := fun w a n c n' c' => Lib.run_eql_slice_nil w _ _ a n c n' c' Try.underlying23
  rcases A with _ | ad
  · have h0 : l = [] := by
      rcases hr with h | ⟨b, o, h, _⟩
      · simpa [tris] using h
      · cases h
    subst h0
    go_enter Try.func93, Try.ntmps93
    go_wp2
    go_ret
    exact ⟨⟨_, rfl, OwnC.nil _ _ _ _⟩, Below.refl _ _⟩
  · have hb1 : Below w.heap.size w (w.alloc (.cells #[] 39)) := (Below.refl _ _).alloc (Nat.le_refl _) _
    have HO := Lib.hid (own_empty w w.heap.size 39 3 (Nat.le_refl _))
    have HR := Lib.hid (hr.below hb1)
    have HB := Lib.hid hb1
    have HL : Hid ((tris l).length * 24 ≤ 140737488355328) := by unfold Hid; rw [tris_length]; exact hl
    clear hr hb1
    go_enter Try.func93, Try.ntmps93
    go_wp2_with (at_builtin; refine wpList_fill _ rfl (.tmp 5) (.tmp 6) 23 rfl 39 3 24 _ Try.underlying23 infoL rfl (by decide) w.heap.size w.heap.size _ HO.out w.heap.size (tris l) rfl rfl (some ad) l.length q (tris_length l).symm rfl HR.out (tris_len l) (tris_one l) HL.out HB.out.size (by have := HL.out; omega) ?_)
    intro v' w' hown hg hloc
    have hb2 : Below w.heap.size w w' := HB.out.trans ⟨hg.os, hg.tape, hg.output, hg.size, fun k hk => hg.block k (by have := HB.out.size; omega) (fun e => by simp [Value.ownBlock] at e; omega)⟩
    have HOW := Lib.hid hown
    have HB2 := Lib.hid hb2
    clear hown hg hloc hb2
    go_wp2
    go_ret
    exact ⟨⟨_, rfl, HOW.out⟩, HB2.out⟩

set_option maxRecDepth 100000 in
set_option maxHeartbeats 1000000 in
theorem clone24_any (l : List Tri) (A : Option Addr) (q : Nat) (w : World) (hr : LRow w w.heap.size 3 A (tris l)) (hl : l.length * 24 ≤ 140737488355328) :
    Calls Try.prog 94 #[.slice A l.length q] w fun e w' => (∃ v, e = .returned v ∧ OwnC w' w.heap.size 43 3 v (tris l)) ∧ Below w.heap.size w w' := by
  have qT : ∀ (w : World) (a : Option Addr) (n c n' c' : Nat), (binOp .eql 24 (.slice a n c) (.slice none n' c')).run Try.prog w = .ok (.bool a.isNone) w := fun w a n c n' c' => Lib.run_eql_slice_nil w _ _ a n c n' c' Try.underlying24
  rcases A with _ | ad
  · have h0 : l = [] := by
      rcases hr with h | ⟨b, o, h, _⟩
      · simpa [tris] using h
      · cases h
    subst h0
    go_enter Try.func94, Try.ntmps94
    go_wp2
    go_ret
    exact ⟨⟨_, rfl, OwnC.nil _ _ _ _⟩, Below.refl _ _⟩
  · have hb1 : Below w.heap.size w (w.alloc (.cells #[] 43)) := (Below.refl _ _).alloc (Nat.le_refl _) _
    have HO := Lib.hid (own_empty w w.heap.size 43 3 (Nat.le_refl _))
    have HR := Lib.hid (hr.below hb1)
    have HB := Lib.hid hb1
    have HL : Hid ((tris l).length * 24 ≤ 140737488355328) := by unfold Hid; rw [tris_length]; exact hl
    clear hr hb1
    go_enter Try.func94, Try.ntmps94
    go_wp2_with (at_builtin; refine wpList_fill _ rfl (.tmp 5) (.tmp 6) 24 rfl 43 3 24 _ Try.underlying24 infoA rfl (by decide) w.heap.size w.heap.size _ HO.out w.heap.size (tris l) rfl rfl (some ad) l.length q (tris_length l).symm rfl HR.out (tris_len l) (tris_one l) HL.out HB.out.size (by have := HL.out; omega) ?_)
    intro v' w' hown hg hloc
    have hb2 : Below w.heap.size w w' := HB.out.trans ⟨hg.os, hg.tape, hg.output, hg.size, fun k hk => hg.block k (by have := HB.out.size; omega) (fun e => by simp [Value.ownBlock] at e; omega)⟩
    have HOW := Lib.hid hown
    have HB2 := Lib.hid hb2
    clear hown hg hloc hb2
    go_wp2
    go_ret
    exact ⟨⟨_, rfl, HOW.out⟩, HB2.out⟩

set_option maxRecDepth 100000 in
set_option maxHeartbeats 1000000 in
theorem clone25_any (l : List Nam) (A : Option Addr) (q : Nat) (w : World) (hr : LRow w w.heap.size 3 A (nams l)) (hl : l.length * 40 ≤ 140737488355328) :
    Calls Try.prog 95 #[.slice A l.length q] w fun e w' => (∃ v, e = .returned v ∧ OwnC w' w.heap.size 84 3 v (nams l)) ∧ Below w.heap.size w w' := by
  have qT : ∀ (w : World) (a : Option Addr) (n c n' c' : Nat), (binOp .eql 25 (.slice a n c) (.slice none n' c')).run Try.prog w = .ok (.bool a.isNone) w := fun w a n c n' c' => Lib.run_eql_slice_nil w _ _ a n c n' c' Try.underlying25
  rcases A with _ | ad
  · have h0 : l = [] := by
      rcases hr with h | ⟨b, o, h, _⟩
      · simpa [nams] using h
      · cases h
    subst h0
    go_enter Try.func95, Try.ntmps95
    go_wp2
    go_ret
    exact ⟨⟨_, rfl, OwnC.nil _ _ _ _⟩, Below.refl _ _⟩
  · have hb1 : Below w.heap.size w (w.alloc (.cells #[] 84)) := (Below.refl _ _).alloc (Nat.le_refl _) _
    have HO := Lib.hid (own_empty w w.heap.size 84 3 (Nat.le_refl _))
    have HR := Lib.hid (hr.below hb1)
    have HB := Lib.hid hb1
    have HL : Hid ((nams l).length * 40 ≤ 140737488355328) := by unfold Hid; rw [nams_length]; exact hl
    clear hr hb1
    go_enter Try.func95, Try.ntmps95
    go_wp2_with (at_builtin; refine wpList_fill _ rfl (.tmp 5) (.tmp 6) 25 rfl 84 3 40 _ Try.underlying25 infoN rfl (by decide) w.heap.size w.heap.size _ HO.out w.heap.size (nams l) rfl rfl (some ad) l.length q (nams_length l).symm rfl HR.out (nams_len l) (nams_one l) HL.out HB.out.size (by have := HL.out; omega) ?_)
    intro v' w' hown hg hloc
    have hb2 : Below w.heap.size w w' := HB.out.trans ⟨hg.os, hg.tape, hg.output, hg.size, fun k hk => hg.block k (by have := HB.out.size; omega) (fun e => by simp [Value.ownBlock] at e; omega)⟩
    have HOW := Lib.hid hown
    have HB2 := Lib.hid hb2
    clear hown hg hloc hb2
    go_wp2
    go_ret
    exact ⟨⟨_, rfl, HOW.out⟩, HB2.out⟩
end Go.Proofs.Ytbgcoeejmnejdaa.Cw
namespace Go.Proofs.Ytbgcoeejmnejdaa.Cpy
open Go.ChangeShapes Go.WideShapes Go.ChangeAt Go.RowKit Circ Cw

theorem open_set : ∀ (l : List Bool) (i : Nat), l[i]? = some false → ((l.set i true).filter (· == false)).length + 1 = (l.filter (· == false)).length
  | [], i, h => by simp at h
  | b :: l, 0, h => by
    have hb : b = false := by simpa using h
    subst hb
    simp
  | b :: l, i + 1, h => by
    have h' : l[i]? = some false := by simpa using h
    have ih := open_set l i h'
    cases b <;> simp [List.set_cons_succ] at ih ⊢ <;> omega

theorem ready_open {md : Region.Mode} {ops : Array Oper} {listed : Array Bool} {i : Nat} (hi : i ∈ Region.ready md ops listed) : listed.toList[i]? = some false ∧ i < ops.size ∧ (∀ o, ops[i]? = some o → ∀ e ∈ o.after, Region.binds md e = true → listed.getD e.on false = true) := by
  unfold Region.ready at hi
  rw [List.mem_filter, List.mem_range] at hi
  obtain ⟨h1, h2⟩ := hi
  simp only [Bool.and_eq_true, Bool.not_eq_true'] at h2
  obtain ⟨h2, h3⟩ := h2
  refine ⟨?_, h1, fun o ho e he hb => ?_⟩
  · rw [Array.getElem?_toList]
    rw [Array.getD_eq_getD_getElem?] at h2
    cases hq : listed[i]? with
    | none => rw [hq] at h2; simp at h2
    | some b => rw [hq] at h2; simp at h2; rw [h2]
  · rw [ho] at h3
    simp only [Option.map_some, Option.getD_some, Array.all_eq_true_iff_forall_mem] at h3
    have := h3 e he
    simpa [hb] using this

theorem wpAny_inv {P : Program} {md : Region.Mode} {ops : Array Oper} {Q : Exit → Act → World → Prop} (Inv : Array Bool → Act → World → Prop)
    (hstep : ∀ listed a w i, Inv listed a w → i ∈ Region.ready md ops listed → wpOp P ops Q i (Inv (listed.setIfInBounds i true)) a w)
    (hend : ∀ listed a w, Inv listed a w → Region.ready md ops listed = [] → Q .normal a w) :
    ∀ fuel listed a w, Inv listed a w → (listed.toList.filter (· == false)).length ≤ fuel → wpAny P md ops Q fuel listed a w
  | 0, listed, a, w, h, hf => by
    by_cases hr : Region.ready md ops listed = []
    · exact ⟨hr, hend _ _ _ h hr⟩
    · obtain ⟨i, hi⟩ := List.exists_mem_of_ne_nil _ hr
      have h1 := (ready_open hi).1
      have : false ∈ listed.toList.filter (· == false) := List.mem_filter.2 ⟨List.mem_of_getElem? h1, rfl⟩
      have := List.length_pos_of_mem this
      omega
  | fuel + 1, listed, a, w, h, hf => by
    refine ⟨fun hr => hend _ _ _ h hr, fun i hi => ?_⟩
    refine wpOp_mono (fun a' w' h' => wpAny_inv Inv hstep hend fuel _ a' w' h' ?_) (hstep _ _ _ _ h hi)
    have := open_set listed.toList i (ready_open hi).1
    rw [Array.toList_setIfInBounds]
    omega

/-- A region that draws its order: what holds of the operations that are done, whichever they are, is kept by each one that may come next. -/
theorem wp_region_inv {P : Program} {id : Nat} {ops : Array Oper} {Q : Exit → Act → World → Prop} {a : Act} {w : World} (hm : P.follows .mixedOrders = true) (Inv : Array Bool → Act → World → Prop)
    (h0 : Inv (Array.replicate ops.size false) a w.drew)
    (hstep : ∀ listed a w i, Inv listed a w → i ∈ Region.ready .any ops listed → wpOp P ops Q i (Inv (listed.setIfInBounds i true)) a w)
    (hend : ∀ listed a w, Inv listed a w → Region.ready .any ops listed = [] → Q .normal a w) : (Code.region id ops true).wp P Q a w :=
  wp_region_any hm (wpAny_inv Inv hstep hend _ _ _ _ h0 (by simp))
end Go.Proofs.Ytbgcoeejmnejdaa.Cpy
namespace Go.Proofs.Ytbgcoeejmnejdaa.Cw
open Go.ChangeShapes Go.WideShapes Go.ChangeAt Go.RowKit Go.Maps Circ

/-- the box in block g holds cs; what lay below g is there -/
structure Boxed (W : World) (g : Nat) (cs : Array Value) (w : World) : Prop where
  h : w.heap[g]? = some (.cells cs 27 (0, 0))
  b : Below g W w
  z : g + 2 ≤ w.heap.size
theorem Boxed.cell {W : World} {g : Nat} {cs : Array Value} {w : World} (h : Boxed W g cs w) (i : Nat) : w.cell? ⟨g, i, none⟩ = cs[i]? := by simp [World.cell?, h.h]
theorem Boxed.below {W : World} {g : Nat} {cs : Array Value} {w w' : World} (h : Boxed W g cs w) (hb : Below w.heap.size w w') : Boxed W g cs w' :=
  have hz := h.z
  ⟨(hb.block g (by omega)).trans h.h, h.b.trans (hb.mono (by omega)), Nat.le_trans h.z hb.size⟩
theorem Boxed.set {W : World} {g : Nat} {cs : Array Value} {w : World} (h : Boxed W g cs w) (i : Nat) (v : Value) : Boxed W g (cs.setIfInBounds i v) (w.setCell ⟨g, i, none⟩ v) := by
  refine ⟨by simp [World.setCell, Array.getElem?_modify, h.h], ⟨h.b.os, h.b.tape, h.b.output, by simpa using h.b.size, fun k hk => ?_⟩, by simpa using h.z⟩
  have : (w.setCell ⟨g, i, none⟩ v).heap[k]? = w.heap[k]? := by simp [World.setCell, Array.getElem?_modify, show g ≠ k by omega]
  rw [this]; exact h.b.block k hk
/-- a circuit all of whose lists were made from block B on -/
structure Owned (w : World) (B : Nat) (c : Cir) (s : Places) : Prop where
  ins : OwnC w B 3 1 (.slice s.ai c.ins.length s.ki) (ints c.ins)
  lats : OwnC w B 39 3 (.slice s.al c.lats.length s.kl) (tris c.lats)
  outs : OwnC w B 3 1 (.slice s.ao c.outs.length s.ko) (ints c.outs)
  bads : OwnC w B 3 1 (.slice s.ab c.bads.length s.kb) (ints c.bads)
  invs : OwnC w B 3 1 (.slice s.ac c.invs.length s.kc) (ints c.invs)
  ands : OwnC w B 43 3 (.slice s.aa c.ands.length s.ka) (tris c.ands)
  names : OwnC w B 84 3 (.slice s.an c.names.length s.kn) (nams c.names)

end Go.Proofs.Ytbgcoeejmnejdaa.Cw
