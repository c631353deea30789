/- A region that draws its order inside the body of a loop over a function: wp_region_valsE there; no condition but that nothing is deferred. -/
import Derived.Test.YtefbknpoehmfaaaPb04
import Derived.OrdersIn
import Derived.RangeFuncCalls
namespace Go.Proofs.Ytefbknpoehmfaaa.Cw
open Go.ChangeShapes Go.WideShapes Go.ChangeAt Go.RowKit

def noDefer (ops : Array Oper) : Bool := ops.all fun o => match o.op with
  | .defer _ => false
  | _ => true
theorem noDefer_of {ops : Array Oper} (h : noDefer ops = true) {o : Oper} (ho : o ∈ ops) : ∀ c, o.op ≠ .defer c := fun c e => by
  have := Array.all_eq_true_iff_forall_mem.1 h o ho
  rw [e] at this
  cases this
/-- what an operation does outside of a round it does in a round -/
theorem wpIn_of_wp {P : Program} {n l : Nat} {o : Oper} {a : Act} {w : World} {K : Act → World → Prop} {Q : Exit → Act → World → Prop} (hd : ∀ c, o.op ≠ .defer c) (h : o.wp P a w K Q) : o.wpIn (Fence.wide.inRound l) n P a w K Q := by
  refine ⟨fun f _ => trivial, ?_⟩
  rw [Oper.semAt_eq _ _ _ hd]
  unfold Oper.wp at h
  generalize (execOp a.eval o).run P w = r at h
  cases r with
  | ok x w' =>
    cases x with
    | enter f args => exact ⟨fun h => (by cases h), CallsIn.inRound l (callsIn_wide.2 h)⟩
    | row r args => exact ⟨fun h => (by cases h), fun c cs _ => let ⟨v, w2, r, s⟩ := h c cs; ⟨v, w2, r, by rw [fenced_inRound]; exact stepsIn_wide.2 s⟩⟩
    | round l2 f t a b => exact (show False from h).elim
    | _ => exact h
  | halt x w' => cases x <;> exact h
theorem wpAnyIn_inv {P : Program} {F : Fence} {n : Nat} {md : Region.Mode} {ops : Array Oper} {Q : Exit → Act → World → Prop} (Inv : Array Bool → Act → World → Prop)
    (hstep : ∀ listed a w i, Inv listed a w → i ∈ Region.ready md ops listed → wpOpIn F n P ops Q i (Inv (listed.setIfInBounds i true)) a w)
    (hend : ∀ listed a w, Inv listed a w → Region.ready md ops listed = [] → Q .normal a w) :
    ∀ fuel listed a w, Inv listed a w → (listed.toList.filter (· == false)).length ≤ fuel → wpAnyIn F n P md ops Q fuel listed a w
  | 0, listed, a, w, h, hf => by
    by_cases hr : Region.ready md ops listed = []
    · exact ⟨hr, hend _ _ _ h hr⟩
    · obtain ⟨i, hi⟩ := List.exists_mem_of_ne_nil _ hr
      have h1 := (ready_open hi).1
      have : false ∈ listed.toList.filter (· == false) := List.mem_filter.2 ⟨List.mem_of_getElem? h1, rfl⟩
      have := List.length_pos_of_mem this
      omega
  | fuel + 1, listed, a, w, h, hf => by
    refine ⟨fun hr => hend _ _ _ h hr, fun i hi => ?_⟩
    refine wpOpIn_mono (fun a' w' h' => wpAnyIn_inv Inv hstep hend fuel _ a' w' h' ?_) (hstep _ _ _ _ h hi)
    have := open_set listed.toList i (ready_open hi).1
    rw [Array.toList_setIfInBounds]
    omega
theorem wpIn_region_valsE {P : Program} {n l : Nat} {id : Nat} {ops : Array Oper} {Q : Exit → Act → World → Prop} {a : Act} {w : World} (hm : P.follows .mixedOrders = true) (hu : upward ops = true) (hdf : noDefer ops = true)
    (ment : Nat → List Nat) (hment : mentOk ops ment = true) (hdst : dstsIn ops a.tmps.size = true) (Ok : (Nat → Bool) → World → Prop) (R : Nat → (Nat → Value) → World → Prop) (h0 : Ok (fun _ => false) w.drew)
    (hstab : ∀ j f f' w w', Below w.heap.size w w' → (∀ t ∈ ment j, f' t = f t) → R j f w → R j f' w')
    (hstep : ∀ (i : Nat) (o : Oper) (d : Nat → Bool) (a' : Act) (w' : World), ops[i]? = some o → (∀ k, behindB ops ops.size i k = true → d k = false) → (∀ t, untouched ops i t = true → a'.tmps.getD t undef = a.tmps.getD t undef) → a'.defers = a.defers → Ok d w' → (∀ k, dependsB o k = true → d k = true ∧ R k (vals a') w') →
      ∀ K : Act → World → Prop, (∀ v w'', Below w'.heap.size w' w'' → Ok (fun j => decide (j = i) || d j) w'' → (∀ f : Nat → Value, (∀ t, o.dst = some t → f t = v) → (∀ t, o.dst ≠ some t → f t = vals a' t) → R i f w'') → K (a'.put o.dst v) w'') →
        (∀ v w'', Ok (fun j => decide (j = i) || d j) w'' → (∀ f : Nat → Value, (∀ t, o.dst = some t → f t = v) → (∀ t, o.dst ≠ some t → f t = vals a' t) → R i f w'') → (∀ j f, j ≠ i → (∀ t ∈ ment j, f t = vals a' t) → R j (vals a') w' → R j f w'') → K (a'.put o.dst v) w'') → o.wp P a' w' K Q)
    (hend : ∀ (a' : Act) (w' : World), a'.tmps.size = a.tmps.size → a'.defers = a.defers → (∀ t, (∀ o ∈ ops, o.dst ≠ some t) → a'.tmps.getD t undef = a.tmps.getD t undef) → (∃ d, Ok d w' ∧ ∀ j, j < ops.size → d j = true) → (∀ j, j < ops.size → R j (vals a') w') → Q .normal a' w') : (Code.region id ops true).wpIn (Fence.wide.inRound l) n P Q a w := by
  refine wpIn_region_any hm (wpAnyIn_inv (fun listed a' w' => listed.size = ops.size ∧ (a'.tmps.size = a.tmps.size ∧ a'.defers = a.defers) ∧ (∀ t, (∀ (k : Nat) ok, ops[k]? = some ok → ok.dst = some t → listed[k]? ≠ some true) → a'.tmps.getD t undef = a.tmps.getD t undef) ∧ Ok (fun j => listed.getD j false) w' ∧ (∀ j : Nat, listed[j]? = some true → R j (vals a') w') ∧ ∀ (j : Nat) (oj : Oper), ops[j]? = some oj → listed[j]? = some true → ∀ e ∈ oj.after, Region.binds .any e = true → listed[e.on]? = some true) ?_ ?_ _ _ _ _ ?_ (by simp))
  · rintro listed a' w' i ⟨hs, hk, hun, hok, hR, hC⟩ hi
    obtain ⟨hl, hio, hd⟩ := ready_open hi
    have hl' : listed[i]? = some false := by rw [← Array.getElem?_toList]; exact hl
    obtain ⟨o, ho⟩ : ∃ o, ops[i]? = some o := ⟨ops[i], by simp [hio]⟩
    have hmem : o ∈ ops := Array.mem_of_getElem? ho
    have hg : o.guard.isNone = true := by
      have h1 := List.all_eq_true.1 hu i (List.mem_range.2 hio)
      rw [ho] at h1
      simp only [Bool.and_eq_true] at h1
      exact h1.2
    have hw : Region.wanted o (yielded ops a'.tmps) = true := by
      unfold Region.wanted
      cases hgg : o.guard with
      | none => rfl
      | some x => rw [hgg] at hg; cases hg
    have hdep : ∀ e ∈ o.after, Region.binds .any e = true → listed[e.on]? = some true := fun e he hb => by
      have h2 := hd o ho e he hb
      rw [Array.getD_eq_getD_getElem?] at h2
      cases hq : listed[e.on]? with
      | none => rw [hq] at h2; simp at h2
      | some b => rw [hq] at h2; simp at h2; rw [h2]
    have hback : ∀ j, j ≠ i → (listed.setIfInBounds i true)[j]? = some true → listed[j]? = some true := fun j hji hj => by
      rw [Array.getElem?_setIfInBounds, if_neg (Ne.symm hji)] at hj
      exact hj
    have hfwd : ∀ j : Nat, listed[j]? = some true → (listed.setIfInBounds i true)[j]? = some true := fun j hj => by
      have : i ≠ j := by rintro rfl; rw [hl'] at hj; cases hj
      rw [Array.getElem?_setIfInBounds, if_neg this]; exact hj
    have hself : (listed.setIfInBounds i true)[i]? = some true := by
      rw [Array.getElem?_setIfInBounds, if_pos rfl, if_pos (by omega)]
    -- whatever the step does, what follows of it
    have fin : ∀ v w'', Ok (fun j => decide (j = i) || listed.getD j false) w'' → R i (vals (a'.put o.dst v)) w'' → (∀ j, j ≠ i → listed[j]? = some true → R j (vals (a'.put o.dst v)) w'') → (listed.setIfInBounds i true).size = ops.size ∧ ((a'.put o.dst v).tmps.size = a.tmps.size ∧ (a'.put o.dst v).defers = a.defers) ∧ (∀ t, (∀ (k : Nat) ok, ops[k]? = some ok → ok.dst = some t → (listed.setIfInBounds i true)[k]? ≠ some true) → (a'.put o.dst v).tmps.getD t undef = a.tmps.getD t undef) ∧ Ok (fun j => (listed.setIfInBounds i true).getD j false) w'' ∧ (∀ j : Nat, (listed.setIfInBounds i true)[j]? = some true → R j (vals (a'.put o.dst v)) w'') ∧ ∀ (j : Nat) (oj : Oper), ops[j]? = some oj → (listed.setIfInBounds i true)[j]? = some true → ∀ e ∈ oj.after, Region.binds .any e = true → (listed.setIfInBounds i true)[e.on]? = some true := fun v w'' hok' hRi hRj => by
      refine ⟨by simpa using hs, ⟨(put_size o a' v).1.trans hk.1, (put_size o a' v).2.trans hk.2⟩, fun t ht => ?_, ?_, fun j hj => ?_, fun j oj hoj hj e he hb => ?_⟩
      · have hne : o.dst ≠ some t := fun e => ht i o ho e hself
        rw [put_other v hne]
        exact hun t fun k ok hk' hd' hl2 => ht k ok hk' hd' (hfwd k hl2)
      · have e : (fun j => (listed.setIfInBounds i true).getD j false) = fun j => decide (j = i) || listed.getD j false := by
          funext j
          rw [Array.getD_eq_getD_getElem?, Array.getD_eq_getD_getElem?, Array.getElem?_setIfInBounds]
          by_cases hji : i = j
          · subst hji
            rw [if_pos rfl, if_pos (by omega)]
            simp
          · rw [if_neg hji]
            have : decide (j = i) = false := by simpa using Ne.symm hji
            rw [this]; rfl
        rw [e]; exact hok'
      · by_cases hji : j = i
        · subst hji; exact hRi
        · exact hRj j hji (hback j hji hj)
      · by_cases hji : j = i
        · subst hji
          rw [ho] at hoj
          obtain rfl := Option.some.inj hoj
          exact hfwd _ (hdep e he hb)
        · exact hfwd _ (hC j oj hoj (hback j hji hj) e he hb)
    have hslot : ∀ v t, o.dst = some t → vals (a'.put o.dst v) t = v := fun v t ht => by
      refine put_slot v ht ?_
      have h1 := Array.all_eq_true_iff_forall_mem.1 hdst o hmem
      rw [ht] at h1
      rw [hk.1]
      simpa using h1
    have hment2 : ∀ v j, j ≠ i → listed[j]? = some true → ∀ t ∈ ment j, vals (a'.put o.dst v) t = vals a' t := fun v j hji hlj t ht => by
      have hjs : j < ops.size := by
        have := (Array.getElem?_eq_some_iff.1 hlj).1
        omega
      obtain ⟨oj, hoj⟩ : ∃ oj, ops[j]? = some oj := ⟨ops[j], by simp [hjs]⟩
      have h1 := List.all_eq_true.1 (List.all_eq_true.1 hment i (List.mem_range.2 hio)) j (List.mem_range.2 hjs)
      rw [ho, hoj] at h1
      simp only [Bool.or_eq_true, decide_eq_true_eq] at h1
      rcases h1 with h1 | h1 | h1
      · exact absurd h1.symm hji
      · exfalso
        unfold dependsB at h1
        rw [Array.any_eq_true'] at h1
        obtain ⟨e, he, hbb⟩ := h1
        simp only [Bool.and_eq_true, decide_eq_true_eq] at hbb
        have := hC j oj hoj hlj e he hbb.1
        rw [hbb.2, hl'] at this
        cases this
      · cases hd2 : o.dst with
        | none => rfl
        | some d =>
          rw [hd2] at h1
          simp only [Bool.not_eq_true', List.contains_eq_mem, decide_eq_false_iff_not] at h1
          have hne : o.dst ≠ some t := fun e => h1 (by rw [hd2] at e; injection e with e; rw [e]; exact ht)
          have h2 := put_other (a := a') v hne
          rw [hd2] at h2
          exact h2
    unfold wpOpIn
    rw [ho]
    simp only [hw, if_true]
    refine wpIn_of_wp (noDefer_of hdf hmem) (hstep i o (fun j => listed.getD j false) a' w' ho (fun k hbk => ?_) (fun t ht => hun t fun k ok hk' hd' hl2 => ?_) hk.2 hok (fun k hdk => ?_) _ ?_ ?_)
    · rw [Array.getD_eq_getD_getElem?]
      cases hq : listed[k]? with
      | none => rfl
      | some b =>
        cases b with
        | false => rfl
        | true =>
          have := behind_listed hC _ i k hbk hq
          rw [hl'] at this; cases this
    · have h1 := List.all_eq_true.1 ht k (List.mem_range.2 (Array.getElem?_eq_some_iff.1 hk').1)
      rw [hk'] at h1
      simp only [hd', decide_true, Bool.not_true, Bool.false_or] at h1
      have := behind_listed hC _ i k h1 hl2
      rw [hl'] at this; cases this
    · unfold dependsB at hdk
      rw [Array.any_eq_true'] at hdk
      obtain ⟨e, he, hb⟩ := hdk
      simp only [Bool.and_eq_true, decide_eq_true_eq] at hb
      rw [← hb.2]
      refine ⟨?_, hR e.on (hdep e he hb.1)⟩
      rw [Array.getD_eq_getD_getElem?, hdep e he hb.1]; rfl
    · intro v w'' hb hok' hRi
      exact fin v w'' hok' (hRi _ (hslot v) (fun t ht => put_other v ht)) (fun j hji hlj => hstab j _ _ _ _ hb (hment2 v j hji hlj) (hR j hlj))
    · intro v w'' hok' hRi hst
      exact fin v w'' hok' (hRi _ (hslot v) (fun t ht => put_other v ht)) (fun j hji hlj => hst j _ hji (hment2 v j hji hlj) (hR j hlj))
  · rintro listed a' w' ⟨hs, hk, hun, hok, hR, -⟩ hr
    exact hend a' w' hk.1 hk.2 (fun t ht => hun t fun k ok hk' hd' _ => ht ok (Array.mem_of_getElem? hk') hd') ⟨_, hok, fun j hj => by
      rw [Array.getD_eq_getD_getElem?, all_listed hu hs hr j hj]; rfl⟩ fun j hj => hR j (all_listed hu hs hr j hj)
  · refine ⟨by simp, ⟨rfl, rfl⟩, fun _ _ => rfl, ?_, fun j hj => ?_, fun j oj _ hj => ?_⟩
    · have e : (fun j => (Array.replicate ops.size false).getD j false) = fun _ => false := by
        funext j
        rw [Array.getD_eq_getD_getElem?, Array.getElem?_replicate]
        split <;> rfl
      rw [e]; exact h0
    · simp [Array.getElem?_replicate] at hj
    · simp [Array.getElem?_replicate] at hj
/-- what an operation does it does inside the wide fence -/
theorem wpIn_of_wp0 {P : Program} {n : Nat} {o : Oper} {a : Act} {w : World} {K : Act → World → Prop} {Q : Exit → Act → World → Prop} (h : o.wp P a w K Q) : o.wpIn Fence.wide n P a w K Q := by
  refine ⟨fun f _ => trivial, ?_⟩
  unfold Oper.wp at h
  show o.uponIn Fence.wide n P a K Q ((execOp a.eval o).run P w)
  generalize (execOp a.eval o).run P w = r at h
  cases r with
  | ok x w' =>
    cases x with
    | enter f args => exact ⟨fun h => (by cases h), callsIn_wide.2 h⟩
    | row r args => exact ⟨fun h => (by cases h), fun c cs _ => let ⟨v, w2, r, s⟩ := h c cs; ⟨v, w2, r, stepsIn_wide.2 s⟩⟩
    | round l2 f t a b => exact (show False from h).elim
    | _ => exact h
  | halt x w' => cases x <;> exact h
theorem wpIn_region_free {P : Program} {n : Nat} {id : Nat} {ops : Array Oper} {Q : Exit → Act → World → Prop} {a : Act} {w : World} (hm : P.follows .mixedOrders = true) (hu : upwardG ops = true)
    (ment : Nat → List Nat) (hment : mentOk ops ment = true) (hdst : dstsIn ops a.tmps.size = true) (Ok : (Nat → Bool) → World → Prop) (R : Nat → (Nat → Value) → World → Prop) (h0 : Ok (fun _ => false) w.drew)
    (hstab : ∀ j f f' w, (∀ t ∈ ment j, f' t = f t) → R j f w → R j f' w)
    (hskip : ∀ (i : Nat) (o : Oper) (d : Nat → Bool) (a' : Act) (w' : World), ops[i]? = some o → Region.wanted o (yielded ops a'.tmps) = false → Ok d w' → (∀ k, dependsB o k = true → R k (vals a') w') → Ok (fun j => decide (j = i) || d j) w' ∧ ∀ f : Nat → Value, (∀ t, o.dst = some t → f t = undef) → (∀ t, o.dst ≠ some t → f t = vals a' t) → R i f w')
    (hstep : ∀ (i : Nat) (o : Oper) (d : Nat → Bool) (a' : Act) (w' : World), ops[i]? = some o → Region.wanted o (yielded ops a'.tmps) = true → (∀ k, behindB ops ops.size i k = true → d k = false) → (∀ t, untouched ops i t = true → a'.tmps.getD t undef = a.tmps.getD t undef) → a'.defers = a.defers → Ok d w' → (∀ k, dependsB o k = true → R k (vals a') w') →
      ∀ K : Act → World → Prop,
        (∀ v w'', Ok (fun j => decide (j = i) || d j) w'' → (∀ f : Nat → Value, (∀ t, o.dst = some t → f t = v) → (∀ t, o.dst ≠ some t → f t = vals a' t) → R i f w'') → (∀ j f, j ≠ i → d j = true → (∀ t ∈ ment j, f t = vals a' t) → R j (vals a') w' → R j f w'') → K (a'.put o.dst v) w'') → o.wpIn Fence.wide n P a' w' K Q)
    (hend : ∀ (a' : Act) (w' : World), a'.tmps.size = a.tmps.size → a'.defers = a.defers → (∀ t, (∀ o ∈ ops, o.dst ≠ some t) → a'.tmps.getD t undef = a.tmps.getD t undef) → (∃ d, Ok d w') → (∀ j, j < ops.size → R j (vals a') w') → Q .normal a' w') : (Code.region id ops true).wpIn Fence.wide n P Q a w := by
  refine wpIn_region_any hm (wpAnyIn_inv (fun listed a' w' => listed.size = ops.size ∧ (a'.tmps.size = a.tmps.size ∧ a'.defers = a.defers) ∧ (∀ t, (∀ (k : Nat) ok, ops[k]? = some ok → ok.dst = some t → listed[k]? ≠ some true) → a'.tmps.getD t undef = a.tmps.getD t undef) ∧ Ok (fun j => listed.getD j false) w' ∧ (∀ j : Nat, listed[j]? = some true → R j (vals a') w') ∧ ∀ (j : Nat) (oj : Oper), ops[j]? = some oj → listed[j]? = some true → ∀ e ∈ oj.after, Region.binds .any e = true → listed[e.on]? = some true) ?_ ?_ _ _ _ _ ?_ (by simp))
  · rintro listed a' w' i ⟨hs, hk, hun, hok, hR, hC⟩ hi
    obtain ⟨hl, hio, hd⟩ := ready_open hi
    have hl' : listed[i]? = some false := by rw [← Array.getElem?_toList]; exact hl
    obtain ⟨o, ho⟩ : ∃ o, ops[i]? = some o := ⟨ops[i], by simp [hio]⟩
    have hmem : o ∈ ops := Array.mem_of_getElem? ho
    have hdep : ∀ e ∈ o.after, Region.binds .any e = true → listed[e.on]? = some true := fun e he hb => by
      have h2 := hd o ho e he hb
      rw [Array.getD_eq_getD_getElem?] at h2
      cases hq : listed[e.on]? with
      | none => rw [hq] at h2; simp at h2
      | some b => rw [hq] at h2; simp at h2; rw [h2]
    have hback : ∀ j, j ≠ i → (listed.setIfInBounds i true)[j]? = some true → listed[j]? = some true := fun j hji hj => by
      rw [Array.getElem?_setIfInBounds, if_neg (Ne.symm hji)] at hj
      exact hj
    have hfwd : ∀ j : Nat, listed[j]? = some true → (listed.setIfInBounds i true)[j]? = some true := fun j hj => by
      have : i ≠ j := by rintro rfl; rw [hl'] at hj; cases hj
      rw [Array.getElem?_setIfInBounds, if_neg this]; exact hj
    have hself : (listed.setIfInBounds i true)[i]? = some true := by
      rw [Array.getElem?_setIfInBounds, if_pos rfl, if_pos (by omega)]
    -- whatever the step does, what follows of it
    have fin : ∀ v w'', Ok (fun j => decide (j = i) || listed.getD j false) w'' → R i (vals (a'.put o.dst v)) w'' → (∀ j, j ≠ i → listed[j]? = some true → R j (vals (a'.put o.dst v)) w'') → (listed.setIfInBounds i true).size = ops.size ∧ ((a'.put o.dst v).tmps.size = a.tmps.size ∧ (a'.put o.dst v).defers = a.defers) ∧ (∀ t, (∀ (k : Nat) ok, ops[k]? = some ok → ok.dst = some t → (listed.setIfInBounds i true)[k]? ≠ some true) → (a'.put o.dst v).tmps.getD t undef = a.tmps.getD t undef) ∧ Ok (fun j => (listed.setIfInBounds i true).getD j false) w'' ∧ (∀ j : Nat, (listed.setIfInBounds i true)[j]? = some true → R j (vals (a'.put o.dst v)) w'') ∧ ∀ (j : Nat) (oj : Oper), ops[j]? = some oj → (listed.setIfInBounds i true)[j]? = some true → ∀ e ∈ oj.after, Region.binds .any e = true → (listed.setIfInBounds i true)[e.on]? = some true := fun v w'' hok' hRi hRj => by
      refine ⟨by simpa using hs, ⟨(put_size o a' v).1.trans hk.1, (put_size o a' v).2.trans hk.2⟩, fun t ht => ?_, ?_, fun j hj => ?_, fun j oj hoj hj e he hb => ?_⟩
      · have hne : o.dst ≠ some t := fun e => ht i o ho e hself
        rw [put_other v hne]
        exact hun t fun k ok hk' hd' hl2 => ht k ok hk' hd' (hfwd k hl2)
      · have e : (fun j => (listed.setIfInBounds i true).getD j false) = fun j => decide (j = i) || listed.getD j false := by
          funext j
          rw [Array.getD_eq_getD_getElem?, Array.getD_eq_getD_getElem?, Array.getElem?_setIfInBounds]
          by_cases hji : i = j
          · subst hji
            rw [if_pos rfl, if_pos (by omega)]
            simp
          · rw [if_neg hji]
            have : decide (j = i) = false := by simpa using Ne.symm hji
            rw [this]; rfl
        rw [e]; exact hok'
      · by_cases hji : j = i
        · subst hji; exact hRi
        · exact hRj j hji (hback j hji hj)
      · by_cases hji : j = i
        · subst hji
          rw [ho] at hoj
          obtain rfl := Option.some.inj hoj
          exact hfwd _ (hdep e he hb)
        · exact hfwd _ (hC j oj hoj (hback j hji hj) e he hb)
    have hslot : ∀ v t, o.dst = some t → vals (a'.put o.dst v) t = v := fun v t ht => by
      refine put_slot v ht ?_
      have h1 := Array.all_eq_true_iff_forall_mem.1 hdst o hmem
      rw [ht] at h1
      rw [hk.1]
      simpa using h1
    have hment2 : ∀ v j, j ≠ i → listed[j]? = some true → ∀ t ∈ ment j, vals (a'.put o.dst v) t = vals a' t := fun v j hji hlj t ht => by
      have hjs : j < ops.size := by
        have := (Array.getElem?_eq_some_iff.1 hlj).1
        omega
      obtain ⟨oj, hoj⟩ : ∃ oj, ops[j]? = some oj := ⟨ops[j], by simp [hjs]⟩
      have h1 := List.all_eq_true.1 (List.all_eq_true.1 hment i (List.mem_range.2 hio)) j (List.mem_range.2 hjs)
      rw [ho, hoj] at h1
      simp only [Bool.or_eq_true, decide_eq_true_eq] at h1
      rcases h1 with h1 | h1 | h1
      · exact absurd h1.symm hji
      · exfalso
        unfold dependsB at h1
        rw [Array.any_eq_true'] at h1
        obtain ⟨e, he, hbb⟩ := h1
        simp only [Bool.and_eq_true, decide_eq_true_eq] at hbb
        have := hC j oj hoj hlj e he hbb.1
        rw [hbb.2, hl'] at this
        cases this
      · cases hd2 : o.dst with
        | none => rfl
        | some d =>
          rw [hd2] at h1
          simp only [Bool.not_eq_true', List.contains_eq_mem, decide_eq_false_iff_not] at h1
          have hne : o.dst ≠ some t := fun e => h1 (by rw [hd2] at e; injection e with e; rw [e]; exact ht)
          have h2 := put_other (a := a') v hne
          rw [hd2] at h2
          exact h2
    have hdeps : ∀ k, dependsB o k = true → R k (vals a') w' := fun k hdk => by
      unfold dependsB at hdk
      rw [Array.any_eq_true'] at hdk
      obtain ⟨e, he, hb⟩ := hdk
      simp only [Bool.and_eq_true, decide_eq_true_eq] at hb
      rw [← hb.2]
      exact hR e.on (hdep e he hb.1)
    unfold wpOpIn
    rw [ho]
    cases hw : Region.wanted o (yielded ops a'.tmps) with
    | false =>
      simp only [hw, Bool.false_eq_true, if_false]
      obtain ⟨hok', hRi⟩ := hskip i o (fun j => listed.getD j false) a' w' ho hw hok hdeps
      exact ⟨fun _ _ => trivial, fin undef w' hok' (hRi _ (hslot undef) (fun t ht => put_other undef ht)) (fun j hji hlj => hstab j _ _ _ (hment2 undef j hji hlj) (hR j hlj))⟩
    | true =>
    simp only [hw, if_true]
    refine (hstep i o (fun j => listed.getD j false) a' w' ho hw (fun k hbk => ?_) (fun t ht => hun t fun k ok hk' hd' hl2 => ?_) hk.2 hok hdeps _ ?_)
    · rw [Array.getD_eq_getD_getElem?]
      cases hq : listed[k]? with
      | none => rfl
      | some b =>
        cases b with
        | false => rfl
        | true =>
          have := behind_listed hC _ i k hbk hq
          rw [hl'] at this; cases this
    · have h1 := List.all_eq_true.1 ht k (List.mem_range.2 (Array.getElem?_eq_some_iff.1 hk').1)
      rw [hk'] at h1
      simp only [hd', decide_true, Bool.not_true, Bool.false_or] at h1
      have := behind_listed hC _ i k h1 hl2
      rw [hl'] at this; cases this
    · intro v w'' hok' hRi hst
      exact fin v w'' hok' (hRi _ (hslot v) (fun t ht => put_other v ht)) (fun j hji hlj => hst j _ hji (by rw [Array.getD_eq_getD_getElem?, hlj]; rfl) (hment2 v j hji hlj) (hR j hlj))
  · rintro listed a' w' ⟨hs, hk, hun, hok, hR, -⟩ hr
    exact hend a' w' hk.1 hk.2 (fun t ht => hun t fun k ok hk' hd' _ => ht ok (Array.mem_of_getElem? hk') hd') ⟨_, hok⟩ fun j hj => hR j (all_listedG hu hs hr j hj)
  · refine ⟨by simp, ⟨rfl, rfl⟩, fun _ _ => rfl, ?_, fun j hj => ?_, fun j oj _ hj => ?_⟩
    · have e : (fun j => (Array.replicate ops.size false).getD j false) = fun _ => false := by
        funext j
        rw [Array.getD_eq_getD_getElem?, Array.getElem?_replicate]
        split <;> rfl
      rw [e]; exact h0
    · simp [Array.getElem?_replicate] at hj
    · simp [Array.getElem?_replicate] at hj
end Go.Proofs.Ytefbknpoehmfaaa.Cw
