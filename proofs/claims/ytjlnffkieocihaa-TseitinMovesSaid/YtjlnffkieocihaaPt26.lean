/- The walks of slices.Clone over a circuit's lists; no condition. A region that draws its order, by what each operation's own slot holds behind it; no condition. The operations of circuit.Copy's region, each run by itself; no condition. The walk of the pages' Own: a circuit in memory of its own; no condition. -/
import Derived.Test.YtjlnffkieocihaaPt17
import Derived.Lib.SliceRun
import Derived.Test.YtjlnffkieocihaaPt06
namespace Go.Proofs.Ytjlnffkieocihaa.Cw
open Go.ChangeShapes Go.WideShapes Go.ChangeAt Go.RowKit Go.Maps Circ

theorem own_empty (w : World) (base : Nat) (e : TypeId) (m : Nat) (hb : base ≤ w.heap.size) : OwnC (w.alloc (.cells #[] e)) base e m (.slice (some ⟨w.heap.size, 0, none⟩) 0 0) [] :=
  ⟨by simp, .inr ⟨w.heap.size, 0, #[], rfl, hb, Array.getElem?_push_size, Nat.le_refl _, by decide, by simp, by simp⟩⟩
theorem ints_len (l : List Int) : ∀ y ∈ ints l, y.length = 1 := fun y hy => by obtain ⟨x, _, rfl⟩ := List.mem_map.1 hy; rfl
theorem tris_len (l : List Tri) : ∀ y ∈ tris l, y.length = 3 := fun y hy => by obtain ⟨x, _, rfl⟩ := List.mem_map.1 hy; rfl
theorem nams_len (l : List Nam) : ∀ y ∈ nams l, y.length = 3 := fun y hy => by obtain ⟨x, _, rfl⟩ := List.mem_map.1 hy; rfl
theorem ints_one (l : List Int) : ∀ y ∈ ints l, ∀ u ∈ y, u.oneCell' = true := fun y hy u hu => by
  obtain ⟨x, _, rfl⟩ := List.mem_map.1 hy
  simp at hu; subst hu; rfl
theorem tris_one (l : List Tri) : ∀ y ∈ tris l, ∀ u ∈ y, u.oneCell' = true := fun y hy u hu => by
  obtain ⟨x, _, rfl⟩ := List.mem_map.1 hy
  simp [Tri.cells] at hu; rcases hu with rfl | rfl | rfl <;> rfl
theorem nams_one (l : List Nam) : ∀ y ∈ nams l, ∀ u ∈ y, u.oneCell' = true := fun y hy u hu => by
  obtain ⟨x, _, rfl⟩ := List.mem_map.1 hy
  simp [Nam.cells] at hu; rcases hu with rfl | rfl | rfl <;> rfl
theorem ints_length (l : List Int) : (ints l).length = l.length := by simp [ints]
theorem tris_length (l : List Tri) : (tris l).length = l.length := by simp [tris]
theorem nams_length (l : List Nam) : (nams l).length = l.length := by simp [nams]
theorem infoI : (Try.prog.info? 3).map (fun i => (i.zero, i.size, i.bytes)) = some (some (.int .i64 0), 1, 8) := by kernel_rfl
theorem infoL : (Try.prog.info? 39).map (fun i => (i.zero, i.size, i.bytes)) = some (some (.agg #[.int .i64 0, .int .i64 0, .int .i64 0]), 3, 24) := by kernel_rfl
theorem infoA : (Try.prog.info? 43).map (fun i => (i.zero, i.size, i.bytes)) = some (some (.agg #[.int .i64 0, .int .i64 0, .int .i64 0]), 3, 24) := by kernel_rfl
theorem infoN : (Try.prog.info? 84).map (fun i => (i.zero, i.size, i.bytes)) = some (some (.agg #[.string ⟨#[]⟩, .int .i64 0, .string ⟨#[]⟩]), 3, 40) := by kernel_rfl

set_option maxRecDepth 100000 in
set_option maxHeartbeats 1000000 in
theorem clone22_any (l : List Int) (A : Option Addr) (q : Nat) (w : World) (hr : LRow w w.heap.size 1 A (ints l)) (hl : l.length * 8 ≤ 140737488355328) :
    Calls Try.prog 87 #[.slice A l.length q] w fun e w' => (∃ v, e = .returned v ∧ OwnC w' w.heap.size 3 1 v (ints l)) ∧ Below w.heap.size w w' := by
  have qT : ∀ (w : World) (a : Option Addr) (n c n' c' : Nat), (binOp .eql 22 (.slice a n c) (.slice none n' c')).run Try.prog w = .ok (.bool a.isNone) w := fun w a n c n' c' => Lib.run_eql_slice_nil w _ _ a n c n' c' Try.underlying22
  rcases A with _ | ad
  · have h0 : l = [] := by
      rcases hr with h | ⟨b, o, h, _⟩
      · simpa [ints] using h
      · cases h
    subst h0
    go_enter Try.func87, Try.ntmps87
    go_wp2
    go_ret
    exact ⟨⟨_, rfl, OwnC.nil _ _ _ _⟩, Below.refl _ _⟩
  · have hb1 : Below w.heap.size w (w.alloc (.cells #[] 3)) := (Below.refl _ _).alloc (Nat.le_refl _) _
    have HO := Lib.hid (own_empty w w.heap.size 3 1 (Nat.le_refl _))
    have HR := Lib.hid (hr.below hb1)
    have HB := Lib.hid hb1
    have HL : Hid ((ints l).length * 8 ≤ 140737488355328) := by unfold Hid; rw [ints_length]; exact hl
    clear hr hb1
    go_enter Try.func87, Try.ntmps87
    go_wp2_with (at_builtin; refine wpList_fill _ rfl (.tmp 5) (.tmp 6) 22 rfl 3 1 8 _ Try.underlying22 infoI rfl (by decide) w.heap.size w.heap.size _ HO.out w.heap.size (ints l) rfl rfl (some ad) l.length q (ints_length l).symm rfl HR.out (ints_len l) (ints_one l) HL.out HB.out.size (by have := HL.out; omega) ?_)
    intro v' w' hown hg hloc
    have hb2 : Below w.heap.size w w' := HB.out.trans ⟨hg.os, hg.tape, hg.output, hg.size, fun k hk => hg.block k (by have := HB.out.size; omega) (fun e => by simp [Value.ownBlock] at e; omega)⟩
    have HOW := Lib.hid hown
    have HB2 := Lib.hid hb2
    clear hown hg hloc hb2
    go_wp2
    go_ret
    exact ⟨⟨_, rfl, HOW.out⟩, HB2.out⟩

set_option maxRecDepth 100000 in
set_option maxHeartbeats 1000000 in
theorem clone23_any (l : List Tri) (A : Option Addr) (q : Nat) (w : World) (hr : LRow w w.heap.size 3 A (tris l)) (hl : l.length * 24 ≤ 140737488355328) :
    Calls Try.prog 88 #[.slice A l.length q] w fun e w' => (∃ v, e = .returned v ∧ OwnC w' w.heap.size 39 3 v (tris l)) ∧ Below w.heap.size w w' := by
  have qT : ∀ (w : World) (a : Option Addr) (n c n' c' : Nat), (binOp .eql 23 (.slice a n c) (.slice none n' c')).run Try.prog w = .ok (.bool a.isNone) w := fun w a n c n' c' => Lib.run_eql_slice_nil w _ _ a n c n' c' Try.underlying23
  rcases A with _ | ad
  · have h0 : l = [] := by
      rcases hr with h | ⟨b, o, h, _⟩
      · simpa [tris] using h
      · cases h
    subst h0
    go_enter Try.func88, Try.ntmps88
    go_wp2
    go_ret
    exact ⟨⟨_, rfl, OwnC.nil _ _ _ _⟩, Below.refl _ _⟩
  · have hb1 : Below w.heap.size w (w.alloc (.cells #[] 39)) := (Below.refl _ _).alloc (Nat.le_refl _) _
    have HO := Lib.hid (own_empty w w.heap.size 39 3 (Nat.le_refl _))
    have HR := Lib.hid (hr.below hb1)
    have HB := Lib.hid hb1
    have HL : Hid ((tris l).length * 24 ≤ 140737488355328) := by unfold Hid; rw [tris_length]; exact hl
    clear hr hb1
    go_enter Try.func88, Try.ntmps88
    go_wp2_with (at_builtin; refine wpList_fill _ rfl (.tmp 5) (.tmp 6) 23 rfl 39 3 24 _ Try.underlying23 infoL rfl (by decide) w.heap.size w.heap.size _ HO.out w.heap.size (tris l) rfl rfl (some ad) l.length q (tris_length l).symm rfl HR.out (tris_len l) (tris_one l) HL.out HB.out.size (by have := HL.out; omega) ?_)
    intro v' w' hown hg hloc
    have hb2 : Below w.heap.size w w' := HB.out.trans ⟨hg.os, hg.tape, hg.output, hg.size, fun k hk => hg.block k (by have := HB.out.size; omega) (fun e => by simp [Value.ownBlock] at e; omega)⟩
    have HOW := Lib.hid hown
    have HB2 := Lib.hid hb2
    clear hown hg hloc hb2
    go_wp2
    go_ret
    exact ⟨⟨_, rfl, HOW.out⟩, HB2.out⟩

set_option maxRecDepth 100000 in
set_option maxHeartbeats 1000000 in
theorem clone24_any (l : List Tri) (A : Option Addr) (q : Nat) (w : World) (hr : LRow w w.heap.size 3 A (tris l)) (hl : l.length * 24 ≤ 140737488355328) :
    Calls Try.prog 89 #[.slice A l.length q] w fun e w' => (∃ v, e = .returned v ∧ OwnC w' w.heap.size 43 3 v (tris l)) ∧ Below w.heap.size w w' := by
  have qT : ∀ (w : World) (a : Option Addr) (n c n' c' : Nat), (binOp .eql 24 (.slice a n c) (.slice none n' c')).run Try.prog w = .ok (.bool a.isNone) w := fun w a n c n' c' => Lib.run_eql_slice_nil w _ _ a n c n' c' Try.underlying24
  rcases A with _ | ad
  · have h0 : l = [] := by
      rcases hr with h | ⟨b, o, h, _⟩
      · simpa [tris] using h
      · cases h
    subst h0
    go_enter Try.func89, Try.ntmps89
    go_wp2
    go_ret
    exact ⟨⟨_, rfl, OwnC.nil _ _ _ _⟩, Below.refl _ _⟩
  · have hb1 : Below w.heap.size w (w.alloc (.cells #[] 43)) := (Below.refl _ _).alloc (Nat.le_refl _) _
    have HO := Lib.hid (own_empty w w.heap.size 43 3 (Nat.le_refl _))
    have HR := Lib.hid (hr.below hb1)
    have HB := Lib.hid hb1
    have HL : Hid ((tris l).length * 24 ≤ 140737488355328) := by unfold Hid; rw [tris_length]; exact hl
    clear hr hb1
    go_enter Try.func89, Try.ntmps89
    go_wp2_with (at_builtin; refine wpList_fill _ rfl (.tmp 5) (.tmp 6) 24 rfl 43 3 24 _ Try.underlying24 infoA rfl (by decide) w.heap.size w.heap.size _ HO.out w.heap.size (tris l) rfl rfl (some ad) l.length q (tris_length l).symm rfl HR.out (tris_len l) (tris_one l) HL.out HB.out.size (by have := HL.out; omega) ?_)
    intro v' w' hown hg hloc
    have hb2 : Below w.heap.size w w' := HB.out.trans ⟨hg.os, hg.tape, hg.output, hg.size, fun k hk => hg.block k (by have := HB.out.size; omega) (fun e => by simp [Value.ownBlock] at e; omega)⟩
    have HOW := Lib.hid hown
    have HB2 := Lib.hid hb2
    clear hown hg hloc hb2
    go_wp2
    go_ret
    exact ⟨⟨_, rfl, HOW.out⟩, HB2.out⟩

set_option maxRecDepth 100000 in
set_option maxHeartbeats 1000000 in
theorem clone25_any (l : List Nam) (A : Option Addr) (q : Nat) (w : World) (hr : LRow w w.heap.size 3 A (nams l)) (hl : l.length * 40 ≤ 140737488355328) :
    Calls Try.prog 90 #[.slice A l.length q] w fun e w' => (∃ v, e = .returned v ∧ OwnC w' w.heap.size 84 3 v (nams l)) ∧ Below w.heap.size w w' := by
  have qT : ∀ (w : World) (a : Option Addr) (n c n' c' : Nat), (binOp .eql 25 (.slice a n c) (.slice none n' c')).run Try.prog w = .ok (.bool a.isNone) w := fun w a n c n' c' => Lib.run_eql_slice_nil w _ _ a n c n' c' Try.underlying25
  rcases A with _ | ad
  · have h0 : l = [] := by
      rcases hr with h | ⟨b, o, h, _⟩
      · simpa [nams] using h
      · cases h
    subst h0
    go_enter Try.func90, Try.ntmps90
    go_wp2
    go_ret
    exact ⟨⟨_, rfl, OwnC.nil _ _ _ _⟩, Below.refl _ _⟩
  · have hb1 : Below w.heap.size w (w.alloc (.cells #[] 84)) := (Below.refl _ _).alloc (Nat.le_refl _) _
    have HO := Lib.hid (own_empty w w.heap.size 84 3 (Nat.le_refl _))
    have HR := Lib.hid (hr.below hb1)
    have HB := Lib.hid hb1
    have HL : Hid ((nams l).length * 40 ≤ 140737488355328) := by unfold Hid; rw [nams_length]; exact hl
    clear hr hb1
    go_enter Try.func90, Try.ntmps90
    go_wp2_with (at_builtin; refine wpList_fill _ rfl (.tmp 5) (.tmp 6) 25 rfl 84 3 40 _ Try.underlying25 infoN rfl (by decide) w.heap.size w.heap.size _ HO.out w.heap.size (nams l) rfl rfl (some ad) l.length q (nams_length l).symm rfl HR.out (nams_len l) (nams_one l) HL.out HB.out.size (by have := HL.out; omega) ?_)
    intro v' w' hown hg hloc
    have hb2 : Below w.heap.size w w' := HB.out.trans ⟨hg.os, hg.tape, hg.output, hg.size, fun k hk => hg.block k (by have := HB.out.size; omega) (fun e => by simp [Value.ownBlock] at e; omega)⟩
    have HOW := Lib.hid hown
    have HB2 := Lib.hid hb2
    clear hown hg hloc hb2
    go_wp2
    go_ret
    exact ⟨⟨_, rfl, HOW.out⟩, HB2.out⟩
end Go.Proofs.Ytjlnffkieocihaa.Cw
namespace Go.Proofs.Ytjlnffkieocihaa.Cpy
open Go.ChangeShapes Go.WideShapes Go.ChangeAt Go.RowKit Circ Cw

/-- a' is a but for the slots of the region's operations -/
structure Kept (ops : Array Oper) (a a' : Act) : Prop where
  d : a'.defers = a.defers
  n : a'.tmps.size = a.tmps.size
  t : ∀ t, (∀ o ∈ ops, o.dst ≠ some t) → a'.tmps.getD t undef = a.tmps.getD t undef
def upward (ops : Array Oper) : Bool := (List.range ops.size).all fun i => match ops[i]? with
  | some o => o.after.all (fun e => decide (e.on < i)) && o.guard.isNone
  | none => true

theorem put_slot {o : Oper} {a : Act} (v : Value) {t : Tmp} (h : o.dst = some t) (ht : t < a.tmps.size) : (a.put o.dst v).tmps.getD t undef = v := by
  rw [h]; simp [Act.put, ht]
theorem put_other {o : Oper} {a : Act} (v : Value) {t : Tmp} (h : o.dst ≠ some t) : (a.put o.dst v).tmps.getD t undef = a.tmps.getD t undef := by
  cases hd : o.dst with
  | none => rfl
  | some s =>
    have : s ≠ t := fun e => h (by rw [hd, e])
    simp [Act.put, this]
theorem Kept.put {ops : Array Oper} {a a' : Act} (h : Kept ops a a') {o : Oper} (ho : o ∈ ops) (v : Value) : Kept ops a (a'.put o.dst v) := by
  refine ⟨?_, ?_, fun t ht => (put_other v (ht o ho)).trans (h.t t ht)⟩
  · cases hd : o.dst <;> simp [Act.put, h.d]
  · cases hd : o.dst <;> simp [Act.put, h.n]

theorem all_listed {md : Region.Mode} {ops : Array Oper} {listed : Array Bool} (hu : upward ops = true) (hs : listed.size = ops.size) (hr : Region.ready md ops listed = []) : ∀ j, j < ops.size → listed[j]? = some true := by
  intro j
  induction j using Nat.strongRecOn with
  | _ j ih =>
    intro hj
    obtain ⟨o, ho⟩ : ∃ o, ops[j]? = some o := ⟨ops[j], by simp [hj]⟩
    cases hl : listed[j]? with
    | none => rw [Array.getElem?_eq_none_iff] at hl; omega
    | some b =>
      cases b with
      | true => rfl
      | false =>
        exfalso
        have : j ∈ Region.ready md ops listed := by
          unfold Region.ready
          rw [List.mem_filter, List.mem_range]
          refine ⟨hj, ?_⟩
          rw [Array.getD_eq_getD_getElem?, hl, ho]
          simp only [Option.getD_some, Bool.not_false, Option.map_some, Bool.true_and, Array.all_eq_true_iff_forall_mem]
          intro e he
          have h1 := List.all_eq_true.1 hu j (List.mem_range.2 hj)
          rw [ho] at h1
          simp only [Bool.and_eq_true, Array.all_eq_true_iff_forall_mem, decide_eq_true_eq] at h1
          have h2 := h1.1 e he
          have h3 := ih e.on h2 (by omega)
          rw [Array.getD_eq_getD_getElem?, h3]
          simp
        rw [hr] at this
        cases this

theorem wp_region_rel {P : Program} {id : Nat} {ops : Array Oper} {Q : Exit → Act → World → Prop} {a : Act} {w : World} (hm : P.follows .mixedOrders = true) (hu : upward ops = true)
    (Ok : World → Prop) (R : Nat → Act → World → Prop) (h0 : Ok w.drew)
    (hstep : ∀ (i : Nat) (o : Oper) (a' : Act) (w' : World), ops[i]? = some o → Kept ops a a' → Ok w' → (∀ e ∈ o.after, Region.binds .any e = true → R e.on a' w') →
      o.wp P a' w' (fun a'' w'' => ∃ v, a'' = a'.put o.dst v ∧ Ok w'' ∧ R i a'' w'' ∧ ∀ j, j ≠ i → (∀ oj : Oper, ops[j]? = some oj → ∀ e ∈ oj.after, Region.binds .any e = true → e.on ≠ i) → R j a' w' → R j a'' w'') Q)
    (hend : ∀ (a' : Act) (w' : World), Kept ops a a' → Ok w' → (∀ j, j < ops.size → R j a' w') → Q .normal a' w') : (Code.region id ops true).wp P Q a w := by
  refine wp_region_inv hm (fun listed a' w' => listed.size = ops.size ∧ Kept ops a a' ∧ Ok w' ∧ (∀ j : Nat, listed[j]? = some true → R j a' w') ∧ ∀ (j : Nat) (oj : Oper), ops[j]? = some oj → listed[j]? = some true → ∀ e ∈ oj.after, Region.binds .any e = true → listed[e.on]? = some true) ?_ ?_ ?_
  · refine ⟨by simp, ⟨rfl, rfl, fun _ _ => rfl⟩, h0, fun j hj => ?_, fun j oj _ hj => ?_⟩ <;> simp [Array.getElem?_replicate] at hj
  · rintro listed a' w' i ⟨hs, hk, hok, hR, hC⟩ hi
    obtain ⟨hl, hio, hd⟩ := ready_open hi
    have hl' : listed[i]? = some false := by rw [← Array.getElem?_toList]; exact hl
    obtain ⟨o, ho⟩ : ∃ o, ops[i]? = some o := ⟨ops[i], by simp [hio]⟩
    have hmem : o ∈ ops := Array.mem_of_getElem? ho
    have hg : o.guard.isNone = true := by
      have h1 := List.all_eq_true.1 hu i (List.mem_range.2 hio)
      rw [ho] at h1
      simp only [Bool.and_eq_true] at h1
      exact h1.2
    have hw : Region.wanted o (yielded ops a'.tmps) = true := by
      unfold Region.wanted
      cases hgg : o.guard with
      | none => rfl
      | some x => rw [hgg] at hg; cases hg
    have hdep : ∀ e ∈ o.after, Region.binds .any e = true → listed[e.on]? = some true := fun e he hb => by
      have h2 := hd o ho e he hb
      rw [Array.getD_eq_getD_getElem?] at h2
      cases hq : listed[e.on]? with
      | none => rw [hq] at h2; simp at h2
      | some b => rw [hq] at h2; simp at h2; rw [h2]
    unfold wpOp
    rw [ho]
    simp only [hw, if_true]
    refine .inl (Oper.wp_mono ?_ (hstep i o a' w' ho hk hok fun e he hb => hR e.on (hdep e he hb)))
    rintro a'' w'' ⟨v, rfl, hok', hRi, hst⟩
    have hback : ∀ j, j ≠ i → (listed.setIfInBounds i true)[j]? = some true → listed[j]? = some true := fun j hji hj => by
      rw [Array.getElem?_setIfInBounds, if_neg (Ne.symm hji)] at hj
      exact hj
    have hfwd : ∀ j : Nat, listed[j]? = some true → (listed.setIfInBounds i true)[j]? = some true := fun j hj => by
      have : i ≠ j := by rintro rfl; rw [hl'] at hj; cases hj
      rw [Array.getElem?_setIfInBounds, if_neg this]; exact hj
    refine ⟨by simpa using hs, hk.put hmem v, hok', fun j hj => ?_, fun j oj hoj hj e he hb => ?_⟩
    · by_cases hji : j = i
      · subst hji; exact hRi
      · have hj' := hback j hji hj
        exact hst j hji (fun oj hoj e he hb hei => by
          have := hC j oj hoj hj' e he hb
          rw [hei, hl'] at this; cases this) (hR j hj')
    · by_cases hji : j = i
      · subst hji
        rw [ho] at hoj
        obtain rfl := Option.some.inj hoj
        exact hfwd _ (hdep e he hb)
      · exact hfwd _ (hC j oj hoj (hback j hji hj) e he hb)
  · rintro listed a' w' ⟨hs, hk, hok, hR, -⟩ hr
    exact hend a' w' hk hok fun j hj => hR j (all_listed hu hs hr j hj)
theorem wp_region_relO {P : Program} {id : Nat} {ops : Array Oper} {Q : Exit → Act → World → Prop} {a : Act} {w : World} (hm : P.follows .mixedOrders = true) (hu : upward ops = true)
    (Ok : Act → World → Prop) (R : Nat → Act → World → Prop) (h0 : Ok a w.drew)
    (hstep : ∀ (i : Nat) (o : Oper) (a' : Act) (w' : World), ops[i]? = some o → Kept ops a a' → Ok a' w' → (∀ e ∈ o.after, Region.binds .any e = true → R e.on a' w') →
      o.wp P a' w' (fun a'' w'' => ∃ v, a'' = a'.put o.dst v ∧ Ok a'' w'' ∧ R i a'' w'' ∧ ∀ j, j ≠ i → (∀ oj : Oper, ops[j]? = some oj → ∀ e ∈ oj.after, Region.binds .any e = true → e.on ≠ i) → R j a' w' → R j a'' w'') Q)
    (hend : ∀ (a' : Act) (w' : World), Kept ops a a' → Ok a' w' → (∀ j, j < ops.size → R j a' w') → Q .normal a' w') : (Code.region id ops true).wp P Q a w := by
  refine wp_region_inv hm (fun listed a' w' => listed.size = ops.size ∧ Kept ops a a' ∧ Ok a' w' ∧ (∀ j : Nat, listed[j]? = some true → R j a' w') ∧ ∀ (j : Nat) (oj : Oper), ops[j]? = some oj → listed[j]? = some true → ∀ e ∈ oj.after, Region.binds .any e = true → listed[e.on]? = some true) ?_ ?_ ?_
  · refine ⟨by simp, ⟨rfl, rfl, fun _ _ => rfl⟩, h0, fun j hj => ?_, fun j oj _ hj => ?_⟩ <;> simp [Array.getElem?_replicate] at hj
  · rintro listed a' w' i ⟨hs, hk, hok, hR, hC⟩ hi
    obtain ⟨hl, hio, hd⟩ := ready_open hi
    have hl' : listed[i]? = some false := by rw [← Array.getElem?_toList]; exact hl
    obtain ⟨o, ho⟩ : ∃ o, ops[i]? = some o := ⟨ops[i], by simp [hio]⟩
    have hmem : o ∈ ops := Array.mem_of_getElem? ho
    have hg : o.guard.isNone = true := by
      have h1 := List.all_eq_true.1 hu i (List.mem_range.2 hio)
      rw [ho] at h1
      simp only [Bool.and_eq_true] at h1
      exact h1.2
    have hw : Region.wanted o (yielded ops a'.tmps) = true := by
      unfold Region.wanted
      cases hgg : o.guard with
      | none => rfl
      | some x => rw [hgg] at hg; cases hg
    have hdep : ∀ e ∈ o.after, Region.binds .any e = true → listed[e.on]? = some true := fun e he hb => by
      have h2 := hd o ho e he hb
      rw [Array.getD_eq_getD_getElem?] at h2
      cases hq : listed[e.on]? with
      | none => rw [hq] at h2; simp at h2
      | some b => rw [hq] at h2; simp at h2; rw [h2]
    unfold wpOp
    rw [ho]
    simp only [hw, if_true]
    refine .inl (Oper.wp_mono ?_ (hstep i o a' w' ho hk hok fun e he hb => hR e.on (hdep e he hb)))
    rintro a'' w'' ⟨v, rfl, hok', hRi, hst⟩
    have hback : ∀ j, j ≠ i → (listed.setIfInBounds i true)[j]? = some true → listed[j]? = some true := fun j hji hj => by
      rw [Array.getElem?_setIfInBounds, if_neg (Ne.symm hji)] at hj
      exact hj
    have hfwd : ∀ j : Nat, listed[j]? = some true → (listed.setIfInBounds i true)[j]? = some true := fun j hj => by
      have : i ≠ j := by rintro rfl; rw [hl'] at hj; cases hj
      rw [Array.getElem?_setIfInBounds, if_neg this]; exact hj
    refine ⟨by simpa using hs, hk.put hmem v, hok', fun j hj => ?_, fun j oj hoj hj e he hb => ?_⟩
    · by_cases hji : j = i
      · subst hji; exact hRi
      · have hj' := hback j hji hj
        exact hst j hji (fun oj hoj e he hb hei => by
          have := hC j oj hoj hj' e he hb
          rw [hei, hl'] at this; cases this) (hR j hj')
    · by_cases hji : j = i
      · subst hji
        rw [ho] at hoj
        obtain rfl := Option.some.inj hoj
        exact hfwd _ (hdep e he hb)
      · exact hfwd _ (hC j oj hoj (hback j hji hj) e he hb)
  · rintro listed a' w' ⟨hs, hk, hok, hR, -⟩ hr
    exact hend a' w' hk hok fun j hj => hR j (all_listed hu hs hr j hj)
end Go.Proofs.Ytjlnffkieocihaa.Cpy
namespace Go.Proofs.Ytjlnffkieocihaa.Cpy
open Go.ChangeShapes Go.WideShapes Go.ChangeAt Go.RowKit Go.Maps Circ Cw
theorem wp_val {P : Program} {o : Oper} {a : Act} {w w' : World} {K : Act → World → Prop} {Q : Exit → Act → World → Prop} {v : Value} (h : (execOp a.eval o).run P w = .ok (.value v) w') (hk : K (a.put o.dst v) w') : o.wp P a w K Q := by
  unfold Oper.wp; rw [h]; exact hk
theorem wp_skip {P : Program} {o : Oper} {a : Act} {w w' : World} {K : Act → World → Prop} {Q : Exit → Act → World → Prop} (h : (execOp a.eval o).run P w = .ok .skip w') (hk : K (a.put o.dst undef) w') : o.wp P a w K Q := by
  unfold Oper.wp; rw [h]; exact hk
theorem wp_enter {P : Program} {o : Oper} {a : Act} {w w' : World} {K : Act → World → Prop} {Q : Exit → Act → World → Prop} {f : FuncId} {args : Array Value} (h : (execOp a.eval o).run P w = .ok (.enter f args) w') (hk : Calls P f args w' fun e w'' => ∃ v, e = .returned v ∧ K (a.put o.dst v) w'') : o.wp P a w K Q := by
  unfold Oper.wp; rw [h]
  refine hk.mono ?_
  rintro e w'' ⟨v, rfl, h⟩
  exact h
theorem op_field (a : Act) (w : World) (B k : Nat) (t : Nat) (hk : k < 8) (h : a.tmps.getD t undef = .pointer (some ⟨B, 0, none⟩)) (o : Oper) (ho : o.op = .fieldAddr 27 (.tmp t) k) : (execOp a.eval o).run Try.prog w = .ok (.value (.pointer (some ⟨B, k, none⟩))) w := by
  have h' : a.tmps[t]?.getD undef = .pointer (some ⟨B, 0, none⟩) := by simpa using h
  unfold execOp
  rw [ho]
  match k, hk with
  | 0, _ => go_simp
  | 1, _ => go_simp
  | 2, _ => go_simp
  | 3, _ => go_simp
  | 4, _ => go_simp
  | 5, _ => go_simp
  | 6, _ => go_simp
  | 7, _ => go_simp
theorem op_load (a : Act) (w : World) (A : Addr) (t T : Nat) (v : Value) (h : a.tmps.getD t undef = .pointer (some A)) (hc : w.cell? A = some v) (o : Oper) (hT : T = 22 ∨ T = 3 ∨ T = 23 ∨ T = 24 ∨ T = 25 ∨ T = 9) (ho : o.op = .load T (.tmp t)) : (execOp a.eval o).run Try.prog w = .ok (.value v) w := by
  have h' : a.tmps[t]?.getD undef = .pointer (some A) := by simpa using h
  unfold execOp
  rw [ho]
  rcases hT with rfl | rfl | rfl | rfl | rfl | rfl <;> go_simp
theorem op_call (a : Act) (w : World) (f t T : Nat) (hf : ∀ args w, (callFunc f args).run Try.prog w = .ok (.enter f args) w) (o : Oper) (ho : o.op = .call { callee := .value (.func f), args := #[.tmp t], argTypes := #[T] }) : (execOp a.eval o).run Try.prog w = .ok (.enter f #[a.tmps.getD t undef]) w := by
  unfold execOp
  rw [ho]
  go_simp
theorem op_build (a : Act) (w : World) (m : Int) (A1 A2 A3 A4 A5 A6 A7 : Option Addr) (n1 n2 n3 n4 n5 n6 n7 q1 q2 q3 q4 q5 q6 q7 : Nat) (h7 : a.tmps.getD 7 undef = .int .i64 m) (h10 : a.tmps.getD 10 undef = .slice A1 n1 q1) (h13 : a.tmps.getD 13 undef = .slice A2 n2 q2) (h16 : a.tmps.getD 16 undef = .slice A3 n3 q3) (h19 : a.tmps.getD 19 undef = .slice A4 n4 q4) (h22 : a.tmps.getD 22 undef = .slice A5 n5 q5) (h25 : a.tmps.getD 25 undef = .slice A6 n6 q6) (h28 : a.tmps.getD 28 undef = .slice A7 n7 q7)
    (o : Oper) (ho : o.op = .build 27 #[(0, .tmp 7), (1, .tmp 10), (2, .tmp 13), (3, .tmp 16), (4, .tmp 19), (5, .tmp 22), (6, .tmp 25), (7, .tmp 28)]) : (execOp a.eval o).run Try.prog w = .ok (.value (.agg #[.int .i64 m, .slice A1 n1 q1, .slice A2 n2 q2, .slice A3 n3 q3, .slice A4 n4 q4, .slice A5 n5 q5, .slice A6 n6 q6, .slice A7 n7 q7])) w := by
  unfold execOp
  rw [ho]
  have g7 : a.tmps[7]?.getD undef = .int .i64 m := by simpa using h7
  have g10 : a.tmps[10]?.getD undef = .slice A1 n1 q1 := by simpa using h10
  have g13 : a.tmps[13]?.getD undef = .slice A2 n2 q2 := by simpa using h13
  have g16 : a.tmps[16]?.getD undef = .slice A3 n3 q3 := by simpa using h16
  have g19 : a.tmps[19]?.getD undef = .slice A4 n4 q4 := by simpa using h19
  have g22 : a.tmps[22]?.getD undef = .slice A5 n5 q5 := by simpa using h22
  have g25 : a.tmps[25]?.getD undef = .slice A6 n6 q6 := by simpa using h25
  have g28 : a.tmps[28]?.getD undef = .slice A7 n7 q7 := by simpa using h28
  clear h7 h10 h13 h16 h19 h22 h25 h28
  go_simp
/-- w' is w but for block g -/
structure But (g : Nat) (w w' : World) : Prop where
  b : ∀ k, k ≠ g → w'.heap[k]? = w.heap[k]?
  z : w'.heap.size = w.heap.size
  os : w'.os = w.os
  tape : w'.tape = w.tape
  output : w'.output = w.output
theorem But.trans {g : Nat} {a b c : World} (h : But g a b) (k : But g b c) : But g a c := ⟨fun i hi => (k.b i hi).trans (h.b i hi), k.z.trans h.z, k.os.trans h.os, k.tape.trans h.tape, k.output.trans h.output⟩
theorem But.set (w : World) (g i : Nat) (v : Value) : But g w (w.setCell ⟨g, i, none⟩ v) := ⟨fun _ hk => Below.heap_setCell _ _ _ _ hk, by simp [World.setCell], rfl, rfl, rfl⟩
theorem store_at {P : Program} {w : World} {g : Nat} {z : Array Value} {e : TypeId} (hg : w.heap[g]? = some (.cells z e (0, 0))) (i : Nat) (v : Value) (hv : v.oneCell' = true) (hi : i < z.size) : ∃ w', (store ⟨g, i, none⟩ v).run P w = .ok () w' ∧ w'.heap[g]? = some (.cells (z.setIfInBounds i v) e (0, 0)) ∧ But g w w' := by
  refine ⟨w.setCell ⟨g, i, none⟩ v, ?_, by simp [World.setCell, Array.getElem?_modify, hg], But.set w g i v⟩
  rw [run_store P w _ v _ hv]
  simp [World.frozen?, World.cell?, hg, hi]
theorem set8 (z : Array Value) (hz : z.size = 8) (x0 x1 x2 x3 x4 x5 x6 x7 : Value) : (((((((z.setIfInBounds 0 x0).setIfInBounds 1 x1).setIfInBounds 2 x2).setIfInBounds 3 x3).setIfInBounds 4 x4).setIfInBounds 5 x5).setIfInBounds 6 x6).setIfInBounds 7 x7 = #[x0, x1, x2, x3, x4, x5, x6, x7] := by
  obtain ⟨l⟩ := z
  have hz' : l.length = 8 := by simpa using hz
  clear hz
  rcases l with _ | ⟨a0, l⟩ <;> simp only [List.length_cons, List.length_nil] at hz'
  · omega
  rcases l with _ | ⟨a1, l⟩ <;> simp only [List.length_cons, List.length_nil] at hz'
  · omega
  rcases l with _ | ⟨a2, l⟩ <;> simp only [List.length_cons, List.length_nil] at hz'
  · omega
  rcases l with _ | ⟨a3, l⟩ <;> simp only [List.length_cons, List.length_nil] at hz'
  · omega
  rcases l with _ | ⟨a4, l⟩ <;> simp only [List.length_cons, List.length_nil] at hz'
  · omega
  rcases l with _ | ⟨a5, l⟩ <;> simp only [List.length_cons, List.length_nil] at hz'
  · omega
  rcases l with _ | ⟨a6, l⟩ <;> simp only [List.length_cons, List.length_nil] at hz'
  · omega
  rcases l with _ | ⟨a7, l⟩ <;> simp only [List.length_cons, List.length_nil] at hz'
  · omega
  obtain rfl : l = [] := List.eq_nil_of_length_eq_zero (by omega)
  simp
theorem op_store (a : Act) (w : World) (g : Nat) (z : Array Value) (hg : w.heap[g]? = some (.cells z 27 (0, 0))) (hz : z.size = 8) (m : Int) (A1 A2 A3 A4 A5 A6 A7 : Option Addr) (n1 n2 n3 n4 n5 n6 n7 q1 q2 q3 q4 q5 q6 q7 : Nat) (h3 : a.tmps.getD 3 undef = .pointer (some ⟨g, 0, none⟩)) (h29 : a.tmps.getD 29 undef = .agg #[.int .i64 m, .slice A1 n1 q1, .slice A2 n2 q2, .slice A3 n3 q3, .slice A4 n4 q4, .slice A5 n5 q5, .slice A6 n6 q6, .slice A7 n7 q7]) (o : Oper) (ho : o.op = .store 27 (.tmp 3) (.tmp 29)) : ∃ w', (execOp a.eval o).run Try.prog w = .ok .skip w' ∧ w'.heap[g]? = some (.cells #[.int .i64 m, .slice A1 n1 q1, .slice A2 n2 q2, .slice A3 n3 q3, .slice A4 n4 q4, .slice A5 n5 q5, .slice A6 n6 q6, .slice A7 n7 q7] 27 (0, 0)) ∧ But g w w' := by
  obtain ⟨w0, r0, g0, b0⟩ := store_at (P := Try.prog) hg 0 (.int .i64 m) rfl (by omega)
  obtain ⟨w1, r1, g1, b1⟩ := store_at (P := Try.prog) g0 1 (.slice A1 n1 q1) rfl (by simp; omega)
  obtain ⟨w2, r2, g2, b2⟩ := store_at (P := Try.prog) g1 2 (.slice A2 n2 q2) rfl (by simp; omega)
  obtain ⟨w3, r3, g3, b3⟩ := store_at (P := Try.prog) g2 3 (.slice A3 n3 q3) rfl (by simp; omega)
  obtain ⟨w4, r4, g4, b4⟩ := store_at (P := Try.prog) g3 4 (.slice A4 n4 q4) rfl (by simp; omega)
  obtain ⟨w5, r5, g5, b5⟩ := store_at (P := Try.prog) g4 5 (.slice A5 n5 q5) rfl (by simp; omega)
  obtain ⟨w6, r6, g6, b6⟩ := store_at (P := Try.prog) g5 6 (.slice A6 n6 q6) rfl (by simp; omega)
  obtain ⟨w7, r7, g7, b7⟩ := store_at (P := Try.prog) g6 7 (.slice A7 n7 q7) rfl (by simp; omega)
  rw [set8 z hz] at g7
  refine ⟨w7, ?_, g7, b0.trans (b1.trans (b2.trans (b3.trans (b4.trans (b5.trans (b6.trans b7))))))⟩
  unfold execOp
  rw [ho]
  have p3 : a.tmps[3]?.getD undef = .pointer (some ⟨g, 0, none⟩) := by simpa using h3
  have p29 : a.tmps[29]?.getD undef = .agg #[.int .i64 m, .slice A1 n1 q1, .slice A2 n2 q2, .slice A3 n3 q3, .slice A4 n4 q4, .slice A5 n5 q5, .slice A6 n6 q6, .slice A7 n7 q7] := by simpa using h29
  clear h3 h29 hg hz g0 g1 g2 g3 g4 g5 g6 g7
  simp only [run_store_int, run_store_slice, stored] at r0 r1 r2 r3 r4 r5 r6 r7
  go_simp
theorem op_alloc (a : Act) (w : World) (o : Oper) (ho : o.op = .alloc 27) : (execOp a.eval o).run Try.prog w = .ok (.value (.pointer (some ⟨w.heap.size, 0, none⟩))) (w.alloc (.cells #[.int .i64 0, .slice none 0 0, .slice none 0 0, .slice none 0 0, .slice none 0 0, .slice none 0 0, .slice none 0 0, .slice none 0 0] 27)) := by
  unfold execOp
  rw [ho]
  go_simp
end Go.Proofs.Ytjlnffkieocihaa.Cpy
namespace Go.Proofs.Ytjlnffkieocihaa.Cw
open Go.ChangeShapes Go.WideShapes Go.ChangeAt Go.RowKit Go.Maps Circ

/-- the box in block g holds cs; what lay below g is there -/
structure Boxed (W : World) (g : Nat) (cs : Array Value) (w : World) : Prop where
  h : w.heap[g]? = some (.cells cs 27 (0, 0))
  b : Below g W w
  z : g + 2 ≤ w.heap.size
theorem Boxed.cell {W : World} {g : Nat} {cs : Array Value} {w : World} (h : Boxed W g cs w) (i : Nat) : w.cell? ⟨g, i, none⟩ = cs[i]? := by simp [World.cell?, h.h]
theorem Boxed.below {W : World} {g : Nat} {cs : Array Value} {w w' : World} (h : Boxed W g cs w) (hb : Below w.heap.size w w') : Boxed W g cs w' :=
  have hz := h.z
  ⟨(hb.block g (by omega)).trans h.h, h.b.trans (hb.mono (by omega)), Nat.le_trans h.z hb.size⟩
theorem Boxed.set {W : World} {g : Nat} {cs : Array Value} {w : World} (h : Boxed W g cs w) (i : Nat) (v : Value) : Boxed W g (cs.setIfInBounds i v) (w.setCell ⟨g, i, none⟩ v) := by
  refine ⟨by simp [World.setCell, Array.getElem?_modify, h.h], ⟨h.b.os, h.b.tape, h.b.output, by simpa using h.b.size, fun k hk => ?_⟩, by simpa using h.z⟩
  have : (w.setCell ⟨g, i, none⟩ v).heap[k]? = w.heap[k]? := by simp [World.setCell, Array.getElem?_modify, show g ≠ k by omega]
  rw [this]; exact h.b.block k hk
/-- a circuit all of whose lists were made from block B on -/
structure Owned (w : World) (B : Nat) (c : Cir) (s : Places) : Prop where
  ins : OwnC w B 3 1 (.slice s.ai c.ins.length s.ki) (ints c.ins)
  lats : OwnC w B 39 3 (.slice s.al c.lats.length s.kl) (tris c.lats)
  outs : OwnC w B 3 1 (.slice s.ao c.outs.length s.ko) (ints c.outs)
  bads : OwnC w B 3 1 (.slice s.ab c.bads.length s.kb) (ints c.bads)
  invs : OwnC w B 3 1 (.slice s.ac c.invs.length s.kc) (ints c.invs)
  ands : OwnC w B 43 3 (.slice s.aa c.ands.length s.ka) (tris c.ands)
  names : OwnC w B 84 3 (.slice s.an c.names.length s.kn) (nams c.names)

end Go.Proofs.Ytjlnffkieocihaa.Cw
