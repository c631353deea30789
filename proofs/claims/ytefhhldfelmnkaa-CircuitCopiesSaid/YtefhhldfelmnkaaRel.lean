/- A region that draws its order, by what each operation's own slot holds behind it; no condition. -/
import Derived.Test.YtefhhldfelmnkaaInv
namespace Go.Proofs.Ytefhhldfelmnkaa.Cw
open Go.ChangeShapes Go.WideShapes Go.ChangeAt Go.RowKit Circ

/-- what an operation's slot holds -/
def slotOf (o : Oper) (a : Act) : Value := match o.dst with
  | some t => a.tmps.getD t undef
  | none => undef
/-- a' is a but for the slots of the region's operations -/
structure Kept (ops : Array Oper) (a a' : Act) : Prop where
  d : a'.defers = a.defers
  n : a'.tmps.size = a.tmps.size
  t : ∀ t, (∀ o ∈ ops, o.dst ≠ some t) → a'.tmps.getD t undef = a.tmps.getD t undef
def upward (ops : Array Oper) : Bool := (List.range ops.size).all fun i => match ops[i]? with
  | some o => o.after.all (fun e => decide (e.on < i)) && o.guard.isNone
  | none => true

theorem put_slot {o : Oper} {a : Act} (v : Value) {t : Tmp} (h : o.dst = some t) (ht : t < a.tmps.size) : (a.put o.dst v).tmps.getD t undef = v := by
  rw [h]; simp [Act.put, ht]
theorem put_other {o : Oper} {a : Act} (v : Value) {t : Tmp} (h : o.dst ≠ some t) : (a.put o.dst v).tmps.getD t undef = a.tmps.getD t undef := by
  cases hd : o.dst with
  | none => rfl
  | some s =>
    have : s ≠ t := fun e => h (by rw [hd, e])
    simp [Act.put, this]
theorem Kept.put {ops : Array Oper} {a a' : Act} (h : Kept ops a a') {o : Oper} (ho : o ∈ ops) (v : Value) : Kept ops a (a'.put o.dst v) := by
  refine ⟨?_, ?_, fun t ht => (put_other v (ht o ho)).trans (h.t t ht)⟩
  · cases hd : o.dst <;> simp [Act.put, h.d]
  · cases hd : o.dst <;> simp [Act.put, h.n]

theorem all_listed {md : Region.Mode} {ops : Array Oper} {listed : Array Bool} (hu : upward ops = true) (hs : listed.size = ops.size) (hr : Region.ready md ops listed = []) : ∀ j, j < ops.size → listed[j]? = some true := by
  intro j
  induction j using Nat.strongRecOn with
  | _ j ih =>
    intro hj
    obtain ⟨o, ho⟩ : ∃ o, ops[j]? = some o := ⟨ops[j], by simp [hj]⟩
    cases hl : listed[j]? with
    | none => rw [Array.getElem?_eq_none_iff] at hl; omega
    | some b =>
      cases b with
      | true => rfl
      | false =>
        exfalso
        have : j ∈ Region.ready md ops listed := by
          unfold Region.ready
          rw [List.mem_filter, List.mem_range]
          refine ⟨hj, ?_⟩
          rw [Array.getD_eq_getD_getElem?, hl, ho]
          simp only [Option.getD_some, Bool.not_false, Option.map_some, Bool.true_and, Array.all_eq_true_iff_forall_mem]
          intro e he
          have h1 := List.all_eq_true.1 hu j (List.mem_range.2 hj)
          rw [ho] at h1
          simp only [Bool.and_eq_true, Array.all_eq_true_iff_forall_mem, decide_eq_true_eq] at h1
          have h2 := h1.1 e he
          have h3 := ih e.on h2 (by omega)
          rw [Array.getD_eq_getD_getElem?, h3]
          simp
        rw [hr] at this
        cases this

theorem wp_region_rel {P : Program} {id : Nat} {ops : Array Oper} {Q : Exit → Act → World → Prop} {a : Act} {w : World} (hm : P.follows .mixedOrders = true) (hu : upward ops = true)
    (Ok : World → Prop) (R : Nat → Act → World → Prop) (h0 : Ok w.drew)
    (hstep : ∀ (i : Nat) (o : Oper) (a' : Act) (w' : World), ops[i]? = some o → Kept ops a a' → Ok w' → (∀ e ∈ o.after, Region.binds .any e = true → R e.on a' w') →
      o.wp P a' w' (fun a'' w'' => ∃ v, a'' = a'.put o.dst v ∧ Ok w'' ∧ R i a'' w'' ∧ ∀ j, j ≠ i → (∀ oj : Oper, ops[j]? = some oj → ∀ e ∈ oj.after, Region.binds .any e = true → e.on ≠ i) → R j a' w' → R j a'' w'') Q)
    (hend : ∀ (a' : Act) (w' : World), Kept ops a a' → Ok w' → (∀ j, j < ops.size → R j a' w') → Q .normal a' w') : (Code.region id ops true).wp P Q a w := by
  refine wp_region_inv hm (fun listed a' w' => listed.size = ops.size ∧ Kept ops a a' ∧ Ok w' ∧ (∀ j : Nat, listed[j]? = some true → R j a' w') ∧ ∀ (j : Nat) (oj : Oper), ops[j]? = some oj → listed[j]? = some true → ∀ e ∈ oj.after, Region.binds .any e = true → listed[e.on]? = some true) ?_ ?_ ?_
  · refine ⟨by simp, ⟨rfl, rfl, fun _ _ => rfl⟩, h0, fun j hj => ?_, fun j oj _ hj => ?_⟩ <;> simp [Array.getElem?_replicate] at hj
  · rintro listed a' w' i ⟨hs, hk, hok, hR, hC⟩ hi
    obtain ⟨hl, hio, hd⟩ := ready_open hi
    have hl' : listed[i]? = some false := by rw [← Array.getElem?_toList]; exact hl
    obtain ⟨o, ho⟩ : ∃ o, ops[i]? = some o := ⟨ops[i], by simp [hio]⟩
    have hmem : o ∈ ops := Array.mem_of_getElem? ho
    have hg : o.guard.isNone = true := by
      have h1 := List.all_eq_true.1 hu i (List.mem_range.2 hio)
      rw [ho] at h1
      simp only [Bool.and_eq_true] at h1
      exact h1.2
    have hw : Region.wanted o (yielded ops a'.tmps) = true := by
      unfold Region.wanted
      cases hgg : o.guard with
      | none => rfl
      | some x => rw [hgg] at hg; cases hg
    have hdep : ∀ e ∈ o.after, Region.binds .any e = true → listed[e.on]? = some true := fun e he hb => by
      have h2 := hd o ho e he hb
      rw [Array.getD_eq_getD_getElem?] at h2
      cases hq : listed[e.on]? with
      | none => rw [hq] at h2; simp at h2
      | some b => rw [hq] at h2; simp at h2; rw [h2]
    unfold wpOp
    rw [ho]
    simp only [hw, if_true]
    refine .inl (Oper.wp_mono ?_ (hstep i o a' w' ho hk hok fun e he hb => hR e.on (hdep e he hb)))
    rintro a'' w'' ⟨v, rfl, hok', hRi, hst⟩
    have hback : ∀ j, j ≠ i → (listed.setIfInBounds i true)[j]? = some true → listed[j]? = some true := fun j hji hj => by
      rw [Array.getElem?_setIfInBounds, if_neg (Ne.symm hji)] at hj
      exact hj
    have hfwd : ∀ j : Nat, listed[j]? = some true → (listed.setIfInBounds i true)[j]? = some true := fun j hj => by
      have : i ≠ j := by rintro rfl; rw [hl'] at hj; cases hj
      rw [Array.getElem?_setIfInBounds, if_neg this]; exact hj
    refine ⟨by simpa using hs, hk.put hmem v, hok', fun j hj => ?_, fun j oj hoj hj e he hb => ?_⟩
    · by_cases hji : j = i
      · subst hji; exact hRi
      · have hj' := hback j hji hj
        exact hst j hji (fun oj hoj e he hb hei => by
          have := hC j oj hoj hj' e he hb
          rw [hei, hl'] at this; cases this) (hR j hj')
    · by_cases hji : j = i
      · subst hji
        rw [ho] at hoj
        obtain rfl := Option.some.inj hoj
        exact hfwd _ (hdep e he hb)
      · exact hfwd _ (hC j oj hoj (hback j hji hj) e he hb)
  · rintro listed a' w' ⟨hs, hk, hok, hR, -⟩ hr
    exact hend a' w' hk hok fun j hj => hR j (all_listed hu hs hr j hj)
end Go.Proofs.Ytefhhldfelmnkaa.Cw
