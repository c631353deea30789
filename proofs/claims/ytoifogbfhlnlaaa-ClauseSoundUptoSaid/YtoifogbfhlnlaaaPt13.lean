/- Norm: what its region makes, the sort, the walk. Condition: the clause has at most 2^44 numbers. Norm's walk. Condition: the clause has at most 2^44 numbers. -/
import Derived.Test.YtoifogbfhlnlaaaPt10
import Derived.Test.YtoifogbfhlnlaaaPt11
import Derived.Test.YtoifogbfhlnlaaaPt12
namespace Go.Proofs.Ytoifogbfhlnlaaa.Cla
open Go.ChangeShapes Go.WideShapes Go.ChangeAt Go.RowKit Go.Maps Go.Sort Go.Shelf Circ Cw

theorem make_own (n : Nat) (hn : n * 8 ≤ 140737488355328) (w : World) : (Instr.makeSlice 22 (.int .i64 0) (.int .i64 (n : Int))).run Try.prog w = .ok (.slice (some ⟨w.heap.size, 0, none⟩) 0 n) (w.alloc (.cells (madeCells #[.int .i64 0] n) 3)) := by
  obtain ⟨i, hi, hz, hs, hb⟩ := info_parts info3
  have := run_make (P := Try.prog) w 22 3 i (.int .i64 0) Try.underlying22 hi hz .i64 .i64 0 n (by omega) (by omega) (by rw [hb]; omega) (by omega)
  rw [this, hs, Int.toNat_zero, Int.toNat_natCast, Nat.mul_one]
  rfl
theorem made_own (n : Nat) (hn : n * 8 ≤ 140737488355328) (w : World) (base : Nat) (hb : base ≤ w.heap.size) : OwnI (w.alloc (.cells (madeCells #[.int .i64 0] n) 3)) base (.slice (some ⟨w.heap.size, 0, none⟩) 0 n) [] :=
  World.ownsRow_made w (madeCells #[.int .i64 0] n) n hb (by unfold maxLen; omega) (by rw [size_madeCells]; omega)
/-- the library's sort by the program's comparison, of a list of the call's own -/
def sortM (l : List Int) : List Int := l.mergeSort fun x y => !decide (cfM y x < 0)
theorem sort_len (l : List Int) : (sortM l).length = l.length := (List.mergeSort_perm l _).length_eq
theorem cf_swo : SWO (ltOf cfM) where
  irrefl x := by
    have : ltOf cfM x x = decide (cfM x x < 0) := rfl
    rw [this, cf_not]; exact lt2_irrefl x
  trans x y z h1 h2 := by
    have e : ∀ a b, ltOf cfM a b = decide (cfM a b < 0) := fun _ _ => rfl
    rw [e, cf_lt] at *
    exact lt2_trans h1 h2
  ntrans x y z h1 h2 := by
    have e : ∀ a b, ltOf cfM a b = decide (cfM a b < 0) := fun _ _ => rfl
    rw [e, cf_not] at *
    exact lt2_ntrans h1 h2
theorem cf_tot (x y : Int) (h1 : ltOf cfM x y = false) (h2 : ltOf cfM y x = false) : x = y := by
  have e : ∀ a b, ltOf cfM a b = decide (cfM a b < 0) := fun _ _ => rfl
  rw [e, cf_not] at *
  exact lt2_total h1 h2
theorem cmp_lays (blk off size : Nat) (w : World) : CmpLays1 Try.prog 18 #[] (Value.int .i64) cfM blk off size w := fun _ _ _ _ x y => compare_any x y _
theorem sortc_any (base : Nat) (v : Value) (l : List Int) (w : World) (ho : OwnI w base v l) (hb : base ≤ w.heap.size) (hl : l.length < 4611686018427387904) :
    Calls Try.prog 17 #[v, .func (.func 18) #[] #[]] w fun e w' => e = .returned (.tuple #[]) ∧ OwnI w' base v (sortM l) ∧ Below base w w' := by
  rcases OwnI.nil_of ho with ⟨rfl, rfl⟩ | ⟨g, cap, cur, rfl, h2, h3, h4, h5, h6, h7⟩
  · refine (Try.slices_SortFunc_none (α := Int) none 0 _ w).mono ?_
    rintro e w' ⟨rfl, rfl⟩
    exact ⟨rfl, by rw [show sortM [] = [] from by simp [sortM]]; exact ho, Below.refl _ _⟩
  · have hH := holds_of_blockI h3 h7
    have hgl : g < w.heap.size := (Array.getElem?_eq_some_iff.1 h3).1
    have h := Try.slices_SortFunc_total (Value.int .i64) (fun _ => rfl) cfM cf_swo 18 #[] g 0 cap l.toArray w (enters_of Try.func18 (by kernel_rfl) rfl) (cmp_lays g 0 _ w) hH hgl (by simpa using hl) cf_tot
    rw [show l.toArray.size = l.length from by simp] at h
    refine h.mono ?_
    rintro e w' ⟨rfl, nn, os, rfl⟩
    have hs : (List.mergeSort l.toArray.toList fun x y => !ltOf cfM y x) = sortM l := rfl
    rw [hs]
    refine ⟨rfl, ?_, (Below.refl _ _).grown (grownBy_sortedI _) hb (fun j hj => by cases hj; exact h2)⟩
    have := ownsRow_sortedI (base := base) (n := nn) (os := os) (ss := l) (ts := sortM l) (sort_len l) h2 h3 h4 h5 h6
    unfold OwnI
    rw [sort_len]
    exact this
theorem own_cut {w : World} {base g cap n k : Nat} {xs : List Int} (h : w.ownsRow base 3 1 (.slice (some ⟨g, 0, none⟩) n cap) n (xs.map (Value.int .i64))) (hk : k ≤ n) : w.ownsRow base 3 1 (.slice (some ⟨g, 0, none⟩) k cap) k ((xs.take k).map (Value.int .i64)) := by
  obtain ⟨h0, h | ⟨g', cap', cur, e, h2, h3, h4, h5, h6, h7⟩⟩ := h
  · cases h.1
  · cases e
    have hx : xs.length = n := by simpa using h0
    refine ⟨by simp; omega, .inr ⟨g, cap, cur, rfl, h2, h3, by omega, h5, h6, ?_⟩⟩
    rw [List.map_take, ← h7, List.take_take]
    congr 1
    omega
theorem compact_any (base : Nat) (v : Value) (l : List Int) (w : World) (ho : OwnI w base v l) (hb : base ≤ w.heap.size) (hl : l.length ≤ 9223372036854775807) :
    Calls Try.prog 22 #[v] w fun e w' => (∃ v', e = .returned v' ∧ OwnI w' base v' (Go.Lib.compact l)) ∧ Below base w w' := by
  rcases OwnI.nil_of ho with ⟨rfl, rfl⟩ | ⟨g, cap, cur, rfl, h2, h3, h4, h5, h6, h7⟩
  · refine (Try.slices_Compact_int_empty none 0 w).mono ?_
    rintro e w' ⟨rfl, rfl⟩
    exact ⟨⟨_, rfl, by rw [show Go.Lib.compact ([] : List Int) = [] from rfl]; exact ho⟩, Below.refl _ _⟩
  · have hH := holds_of_blockI h3 h7
    refine (Try.slices_Compact_int g 0 cap l w hH hl h4).mono ?_
    rintro e w' ⟨rfl, qq, rfl⟩
    have hle := Go.Lib.compact_length_le l
    have hlen : (Go.Lib.compact l ++ List.replicate (l.length - (Go.Lib.compact l).length) 0).length = l.length := by simp; omega
    have e0 : putRow (Value.int .i64) (Sort.ahead w qq) g 0 (Go.Lib.compact l ++ List.replicate (l.length - (Go.Lib.compact l).length) 0).toArray = grow (putRow (Value.int .i64) (Sort.ahead w qq) g 0 (Go.Lib.compact l ++ List.replicate (l.length - (Go.Lib.compact l).length) 0).toArray) #[] := (grow_empty _).symm
    rw [e0]
    refine ⟨⟨_, rfl, ?_⟩, (Below.refl _ _).grown (grownBy_sortedI _) hb (fun j hj => by cases hj; exact h2)⟩
    have := own_cut (ownsRow_sortedI (base := base) (n := qq) (os := #[]) (ss := l) (ts := Go.Lib.compact l ++ List.replicate (l.length - (Go.Lib.compact l).length) 0) hlen h2 h3 h4 h5 h6) hle
    unfold OwnI
    rw [List.take_left'] at this
    · exact this
    · rfl

/-! the region that makes the list, the closure and puts in what is not 0 -/
theorem op_len1 (a : Act) (w : World) (t n q : Nat) (A : Option Addr) (h : a.tmps.getD t undef = .slice A n q) (oo : Oper) (ho : oo.op = .call { callee := .builtin .len, args := #[.tmp t], argTypes := #[22] }) : (execOp a.eval oo).run Try.prog w = .ok (.value (.int .i64 n)) w := by
  have h' : a.tmps[t]?.getD undef = .slice A n q := by simpa using h
  unfold execOp
  rw [ho]
  go_simp
theorem op_make1 (a : Act) (w : World) (t n : Nat) (hn : n * 8 ≤ 140737488355328) (h : a.tmps.getD t undef = .int .i64 n) (oo : Oper) (ho : oo.op = .makeSlice 22 (.const (.int .i64 0)) (.tmp t)) : (execOp a.eval oo).run Try.prog w = .ok (.value (.slice (some ⟨w.heap.size, 0, none⟩) 0 n)) (w.alloc (.cells (madeCells #[.int .i64 0] n) 3)) := by
  have h' : a.tmps[t]?.getD undef = .int .i64 n := by simpa using h
  have MK := make_own n hn w
  generalize (w.alloc (.cells (madeCells #[Value.int .i64 0] n) 3)) = w2 at *
  unfold execOp
  rw [ho]
  go_simp
theorem op_callk (a : Act) (w : World) (f T : Nat) (v : Value) (hf : ∀ args w, (callFunc f args).run Try.prog w = .ok (.enter f args) w) (oo : Oper) (ho : oo.op = .call { callee := .value (.func f), args := #[.const v], argTypes := #[T] }) : (execOp a.eval oo).run Try.prog w = .ok (.enter f #[v]) w := by
  unfold execOp
  rw [ho]
  go_simp
theorem op_call3 (a : Act) (w : World) (f t s r T S R : Nat) (hf : ∀ args w, (callFunc f args).run Try.prog w = .ok (.enter f args) w) (oo : Oper) (ho : oo.op = .call { callee := .value (.func f), args := #[.tmp t, .tmp s, .tmp r], argTypes := #[T, S, R] }) : (execOp a.eval oo).run Try.prog w = .ok (.enter f #[a.tmps.getD t undef, a.tmps.getD s undef, a.tmps.getD r undef]) w := by
  unfold execOp
  rw [ho]
  go_simp
theorem op_mv (a : Act) (w : World) (t : Nat) (oo : Oper) (ho : oo.op = .move (.tmp t)) : (execOp a.eval oo).run Try.prog w = .ok (.value (a.tmps.getD t undef)) w := by
  unfold execOp
  rw [ho]
  go_simp
theorem op_as (a : Act) (w : World) (t : Nat) (oo : Oper) (ho : oo.op = .assign (.tmp t)) : (execOp a.eval oo).run Try.prog w = .ok (.value (a.tmps.getD t undef)) w := by
  unfold execOp
  rw [ho]
  go_simp
def nrmM : Nat → List Nat
  | 0 => [6] | 1 => [7] | 3 => [9] | 6 => [4, 11] | _ => []
def nrmR (A : Option Addr) (n q : Nat) : Nat → (Nat → Value) → World → Prop
  | 0, f, _ => f 6 = .slice A n q
  | 1, f, _ => f 7 = .int .i64 n
  | 3, f, _ => f 9 = .slice A n q
  | 6, f, _ => f 4 = f 11
  | _, _, _ => True
theorem nrm_stab {A : Option Addr} {n q : Nat} (j : Nat) {f f' : Nat → Value} {w w' : World} (hm : ∀ t ∈ nrmM j, f' t = f t) (h : nrmR A n q j f w) : nrmR A n q j f' w' := by
  unfold nrmR at *
  unfold nrmM at hm
  split at h <;> simp_all
/-- what the region has told of the world: the list that is made, the closure's box, the list with what is not 0 -/
structure NrmOk (W : World) (xs : List Int) (d : Nat → Bool) (f : Nat → Value) (w' : World) : Prop where
  b : Below W.heap.size W w'
  m : d 2 = true → d 5 = false → OwnI w' W.heap.size (f 8) []
  i : d 4 = true → d 5 = false → ∃ b, f 10 = .func (.func 28) #[] #[.pointer (some ⟨b, 0, none⟩)] ∧ w'.heap[b]? = some (.cells #[.int .i64 0] 3 (0, 0)) ∧ (d 2 = true → (f 8).ownBlock ≠ some b)
  o : d 5 = true → OwnI w' W.heap.size (f 11) xs
section
variable {W : World} {xs : List Int} {d : Nat → Bool} {f f' : Nat → Value} {w' : World}
theorem NrmOk.start (f : Nat → Value) : NrmOk W xs (fun _ => false) f W.drew :=
  ⟨(Below.refl _ _).drew, (fun h => absurd h (by decide)), (fun h => absurd h (by decide)), (fun h => absurd h (by decide))⟩
theorem NrmOk.read (h : NrmOk W xs d f w') (j : Nat) (hj : j ≠ 2 ∧ j ≠ 4 ∧ j ≠ 5) (e8 : f' 8 = f 8) (e10 : f' 10 = f 10) (e11 : f' 11 = f 11) : NrmOk W xs (fun k => decide (k = j) || d k) f' w' := by
  have d2 : (decide (2 = j) || d 2) = d 2 := by rw [decide_eq_false (fun e => hj.1 e.symm)]; rfl
  have d4 : (decide (4 = j) || d 4) = d 4 := by rw [decide_eq_false (fun e => hj.2.1 e.symm)]; rfl
  have d5 : (decide (5 = j) || d 5) = d 5 := by rw [decide_eq_false (fun e => hj.2.2 e.symm)]; rfl
  refine ⟨h.b, ?_, ?_, ?_⟩
  · show (decide (2 = j) || d 2) = true → (decide (5 = j) || d 5) = false → _
    rw [d2, d5, e8]; exact h.m
  · show (decide (4 = j) || d 4) = true → (decide (5 = j) || d 5) = false → ∃ b, f' 10 = _ ∧ _ ∧ ((decide (2 = j) || d 2) = true → _)
    rw [d2, d4, d5, e8, e10]; exact h.i
  · show (decide (5 = j) || d 5) = true → _
    rw [d5, e11]; exact h.o
theorem NrmOk.make (h : NrmOk W xs d f w') (h5 : d 5 = false) {Z : Array Value} {n : Nat} (ho : OwnI (w'.alloc (.cells Z 3)) W.heap.size (.slice (some ⟨w'.heap.size, 0, none⟩) 0 n) []) (e8 : f' 8 = .slice (some ⟨w'.heap.size, 0, none⟩) 0 n) (e10 : f' 10 = f 10) : NrmOk W xs (fun k => decide (k = 2) || d k) f' (w'.alloc (.cells Z 3)) := by
  refine ⟨h.b.trans ((Below.refl _ _).alloc h.b.size _), fun _ _ => by rw [e8]; exact ho, ?_, ?_⟩
  · show (decide (4 = 2) || d 4) = true → (decide (5 = 2) || d 5) = false → _
    intro h4 _
    obtain ⟨b, q1, q2, -⟩ := h.i (by simpa using h4) h5
    have hlt : b < w'.heap.size := (Array.getElem?_eq_some_iff.1 q2).1
    refine ⟨b, by rw [e10]; exact q1, by rw [Below.heap_alloc _ _ _ hlt]; exact q2, fun _ => ?_⟩
    rw [e8]
    simp only [Value.ownBlock]
    intro e
    injection e with e
    omega
  · show (decide (5 = 2) || d 5) = true → _
    intro h; rw [h5] at h; cases h
theorem NrmOk.box (h : NrmOk W xs d f w') (h5 : d 5 = false) (e8 : f' 8 = f 8) (e10 : f' 10 = .func (.func 28) #[] #[.pointer (some ⟨w'.heap.size, 0, none⟩)]) : NrmOk W xs (fun k => decide (k = 4) || d k) f' (w'.alloc (.cells #[.int .i64 0] 3)) := by
  have hb : Below w'.heap.size w' (w'.alloc (.cells #[.int .i64 0] 3)) := (Below.refl _ _).alloc (Nat.le_refl _) _
  refine ⟨h.b.trans (hb.mono h.b.size), ?_, fun _ _ => ⟨_, e10, Array.getElem?_push_size, ?_⟩, ?_⟩
  · show (decide (2 = 4) || d 2) = true → (decide (5 = 4) || d 5) = false → _
    intro h2 _
    rw [e8]; exact (h.m (by simpa using h2) h5).keep hb
  · show (decide (2 = 4) || d 2) = true → _
    intro h2 e
    rw [e8] at e
    have := ((h.m (by simpa using h2) h5).block_lt _ e).2
    omega
  · show (decide (5 = 4) || d 5) = true → _
    intro h; rw [h5] at h; cases h
end
end Go.Proofs.Ytoifogbfhlnlaaa.Cla
namespace Go.Proofs.Ytoifogbfhlnlaaa.Cla
open Go.ChangeShapes Go.WideShapes Go.ChangeAt Go.RowKit Go.Maps Go.Sort Go.Shelf Circ Cw

theorem always_yes' {a o : List Int} (ho : normM a = o) (ha : ∀ x ∈ a, I64 x) (k : Nat) (h : k + 1 < o.length) (he : o[k] = wrap64 (-o[k + 1])) : alwaysM a = true := by
  subst ho
  exact always_yes ha k h he
theorem always_no' {a o : List Int} (ho : normM a = o) (ha : ∀ x ∈ a, I64 x) (h : ∀ (k : Nat) (hk : k + 1 < o.length), o[k] ≠ wrap64 (-o[k + 1])) : alwaysM a = false := by
  subst ho
  exact always_no ha h
set_option maxHeartbeats 16000000 in
set_option maxRecDepth 100000 in
theorem norm_any (a : List Int) (A : Option Addr) (q : Nat) (w : World) (ha : ILies w w.heap.size A a) (hby : a.length * 8 ≤ 140737488355328) :
    Calls Try.prog 8 #[.slice A a.length q] w fun e w' => (∃ A' q', e = .returned (.tuple #[.slice A' (normM a).length q', .bool (alwaysM a)]) ∧ ILies w' w'.heap.size A' (normM a)) ∧ Below w.heap.size w w' := by
  have HSN : Hid (Go.Lib.compact (sortM (a.filter fun x => decide (x ≠ 0))) = normM a) := sorted_norm_eq a ha.fits
  have HFL : Hid ((a.filter fun x => decide (x ≠ 0)).length ≤ a.length) := List.length_filter_le _ _
  obtain ⟨o, ho⟩ : ∃ o, normM a = o := ⟨_, rfl⟩
  have HYES := Lib.hid (fun k h e => always_yes' ho ha.fits k h e)
  have HNO := Lib.hid (always_no' ho ha.fits)
  have HNF := Lib.hid (norm_fits ha.fits)
  have HNL := Lib.hid (norm_len a)
  have HBY := Lib.hid hby
  have HA := Lib.hid ha
  clear ha hby
  have ONLY : Hid (∀ (v : Value) (bx : Nat) (X : World), OwnI X w.heap.size v [] → X.heap[bx]? = some (.cells #[.int .i64 0] 3 (0, 0)) → v.ownBlock ≠ some bx → Below w.heap.size w X →
      Calls Try.prog 15 #[v, .slice A a.length q, .func (.func 28) #[] #[.pointer (some ⟨bx, 0, none⟩)]] X fun e w' => (∃ v', e = .returned v' ∧ OwnI w' w.heap.size v' (a.filter fun x => decide (x ≠ 0))) ∧ Below w.heap.size X w') := fun v bx X h1 h2 h3 h4 => by
    have := only_any w.heap.size v [] a A q 0 bx X h1 (HA.out.row.below h4) h4.size HA.out.len h2 h3 (by simpa using HBY.out)
    simpa only [List.nil_append] using this
  generalize hF : (a.filter fun x => decide (x ≠ 0)) = F at *
  clear hF
  rw [ho] at HSN HNF HNL
  rw [ho]
  clear ho
  generalize alwaysM a = y at *
  have MK := make_own a.length HBY.out
  have MO := Lib.hid (made_own a.length HBY.out)
  have E15 : Hid (∀ args w, (callFunc 15 args).run Try.prog w = .ok (.enter 15 args) w) := enters_of Try.func15 (by kernel_rfl) rfl
  have E16 : Hid (∀ args w, (callFunc 16 args).run Try.prog w = .ok (.enter 16 args) w) := enters_of Try.func16 (by kernel_rfl) rfl
  clear MK
  go_enter Try.func8, Try.ntmps8
  go_wp2_with fail
  refine wp_region_valsG (by kernel_rfl) (by kernel_rfl) nrmM (by kernel_rfl) (by kernel_rfl) (NrmOk w F) (nrmR A a.length q) (NrmOk.start _) (fun j f f' w w' _ hm h => nrm_stab j hm h) ?_ ?_
  · intro i oo d a' w' ho hd hun hdf hok hDE K hK hK0
    match i, ho, hd, hDE, hK, hK0, hun with
    | 0, ho, hd, hDE, hK, hK0, hun =>
      have e := (congrArg Oper.op (Option.some.inj ho)).symm
      obtain rfl := Option.some.inj ho
      exact wp_val (op_mv a' w' 0 _ e) (hK _ _ (Below.refl _ _) (fun f _ h2 => hok.read 0 (by decide) (h2 8 (by decide)) (h2 10 (by decide)) (h2 11 (by decide))) (fun f h1 _ => (h1 6 rfl).trans (hun 0 (by kernel_rfl))))
    | 1, ho, hd, hDE, hK, hK0, hun =>
      have e := (congrArg Oper.op (Option.some.inj ho)).symm
      obtain rfl := Option.some.inj ho
      exact wp_val (op_len1 a' w' 6 _ q A (hDE 0 (by kernel_rfl)).2 _ e) (hK _ _ (Below.refl _ _) (fun f _ h2 => hok.read 1 (by decide) (h2 8 (by decide)) (h2 10 (by decide)) (h2 11 (by decide))) (fun f h1 _ => h1 7 rfl))
    | 2, ho, hd, hDE, hK, hK0, hun =>
      have e := (congrArg Oper.op (Option.some.inj ho)).symm
      obtain rfl := Option.some.inj ho
      exact wp_val (op_make1 a' w' 7 _ HBY.out (hDE 1 (by kernel_rfl)).2 _ e) (hK _ _ ((Below.refl _ _).alloc (Nat.le_refl _) _) (fun f h1 h2 => hok.make (hd 5 (by kernel_rfl)) (MO.out w' w.heap.size hok.b.size) (h1 8 rfl) (h2 10 (by decide))) (fun f h1 _ => trivial))
    | 3, ho, hd, hDE, hK, hK0, hun =>
      have e := (congrArg Oper.op (Option.some.inj ho)).symm
      obtain rfl := Option.some.inj ho
      exact wp_val (op_mv a' w' 0 _ e) (hK _ _ (Below.refl _ _) (fun f _ h2 => hok.read 3 (by decide) (h2 8 (by decide)) (h2 10 (by decide)) (h2 11 (by decide))) (fun f h1 _ => (h1 9 rfl).trans (hun 0 (by kernel_rfl))))
    | 4, ho, hd, hDE, hK, hK0, hun =>
      have e := (congrArg Oper.op (Option.some.inj ho)).symm
      obtain rfl := Option.some.inj ho
      refine wp_enter (op_callk a' w' _ _ _ E16.out _ e) ?_
      refine (isnot_any 0 w').mono ?_
      rintro e w'' ⟨rfl, rfl⟩
      exact .inl ⟨_, rfl, hK _ _ ((Below.refl _ _).alloc (Nat.le_refl _) _) (fun f h1 h2 => hok.box (hd 5 (by kernel_rfl)) (h2 8 (by decide)) (h1 10 rfl)) (fun f h1 _ => trivial)⟩
    | 5, ho, hd, hDE, hK, hK0, hun =>
      have e := (congrArg Oper.op (Option.some.inj ho)).symm
      obtain rfl := Option.some.inj ho
      have h5 := hd 6 (by kernel_rfl)
      have d5 : d 5 = false := hd 5 (by kernel_rfl)
      obtain ⟨bx, q1, q2, q3⟩ := hok.i (hDE 4 (by kernel_rfl)).1 d5
      have q4 := hok.m (hDE 2 (by kernel_rfl)).1 d5
      refine wp_enter (op_call3 a' w' _ 8 9 10 _ _ _ E15.out _ e) ?_
      rw [show a'.tmps.getD 9 undef = .slice A a.length q from (hDE 3 (by kernel_rfl)).2, show a'.tmps.getD 10 undef = _ from q1]
      refine (ONLY.out _ bx w' q4 q2 (q3 (hDE 2 (by kernel_rfl)).1) hok.b).mono ?_
      rintro e w'' ⟨⟨v, rfl, hv⟩, hb⟩
      exact .inl ⟨_, rfl, hK0 _ _ (fun f h1 h2 => ⟨hok.b.trans hb, (fun _ h => absurd h (by simp)), (fun _ h => absurd h (by simp)), fun _ => by rw [h1 11 rfl]; exact hv⟩) (fun f h1 _ => trivial) (fun j f hj hf hq => nrm_stab j hf hq)⟩
    | 6, ho, hd, hDE, hK, hK0, hun =>
      have e := (congrArg Oper.op (Option.some.inj ho)).symm
      obtain rfl := Option.some.inj ho
      exact wp_val (op_as a' w' 11 _ e) (hK _ _ (Below.refl _ _) (fun f _ h2 => hok.read 6 (by decide) (h2 8 (by decide)) (h2 10 (by decide)) (h2 11 (by decide))) (fun f h1 h2 => (h1 4 rfl).trans (h2 11 (by decide)).symm))
    | i + 7, ho, _, _, _, _, _ => exact absurd ho (by simp)
  · intro a' w3 hsz hdf hkt hok hR
    have HF3 := frame_sets [6, 7, 8, 9, 10, 11, 4] (by kernel_rfl) hsz hkt
    obtain ⟨d, hok, hall⟩ := hok
    have hv : a'.tmps.getD 4 undef = a'.tmps.getD 11 undef := hR 6 (by decide)
    have HO : Hid (OwnI w3 w.heap.size (a'.tmps.getD 4 undef) F) := by
      unfold Hid
      rw [hv]
      exact hok.o (hall 5 (by decide))
    have HB := Lib.hid hok.b
    clear hok hall hv hR hkt hsz
    obtain ⟨tm, df⟩ := a'
    obtain rfl : df = _ := hdf
    simp only [List.foldl_cons, List.foldl_nil] at HF3
    generalize tm.getD 6 undef = y6 at HF3
    generalize tm.getD 7 undef = y7 at HF3
    generalize tm.getD 8 undef = y8 at HF3
    generalize tm.getD 9 undef = y9 at HF3
    generalize tm.getD 10 undef = y10 at HF3
    generalize tm.getD 11 undef = y11 at HF3
    generalize hv4 : tm.getD 4 undef = v4 at HF3
    rw [show ({ tmps := tm, defers := [] } : Act).tmps.getD 4 undef = v4 from hv4] at HO
    clear hv4
    simp only [List.setIfInBounds_toArray, List.set_cons_succ, List.set_cons_zero] at HF3
    subst HF3
    have HFZ : Hid (F.length < 4611686018427387904) := by have := HFL.out; have := HBY.out; unfold Hid; omega
    have SO := Lib.hid (sortc_any w.heap.size v4 F w3 HO.out HB.out.size HFZ.out)
    clear HO
    go_wp2_with fail
    refine SO.out.mono ?_
    rintro e w4 ⟨rfl, ho4, hb4⟩
    have HB4 : Hid (Below w.heap.size w w4) := HB.out.trans hb4
    have CO := Lib.hid (compact_any w.heap.size v4 (sortM F) w4 ho4 HB4.out.size (by rw [sort_len]; have := HFZ.out; omega))
    rw [HSN.out] at CO
    clear ho4 hb4 SO HSN
    go_wp2_with fail
    refine CO.out.mono ?_
    rintro e w5 ⟨⟨v5, rfl, ho5⟩, hb5⟩
    have HB5 : Hid (Below w.heap.size w w5) := HB4.out.trans hb5
    obtain ⟨Ao, qo, rfl, hrow, hq1, hq2⟩ := ho5.row
    have HRW := Lib.hid hrow
    have hol : o.length ≤ 9223372036854775807 := by omega
    clear ho5 hb5 hrow CO hq1 hq2
    go_wp2
    go_loopw [5] (fun i wr => ∃ j : Nat, i = .int .i64 ((j : Int) + 1) ∧ (j + 1 ≤ o.length ∨ j = 0) ∧ (∀ (k : Nat) (hk : k + 1 < o.length), k < j → o[k] ≠ wrap64 (-o[k + 1])) ∧ Below w5.heap.size w5 wr) (fun i _ => o.length - (intOf i).toNat)
    case atStart => exact ⟨0, rfl, .inr rfl, fun k _ h => absurd h (Nat.not_lt_zero _), Below.refl _ _⟩
    case round =>
      obtain ⟨j, rfl, hj, hno, hb2⟩ := hrel
      have B2 := Lib.hid hb2
      have HNJ := Lib.hid hno
      clear hb2 hno
      by_cases hjo : j + 1 < o.length
      · obtain ⟨b2, o2, hA2, -, hc2⟩ := LRow.int (HRW.out.below B2.out) (k := j) (by omega)
        obtain ⟨b3, o3, hA3, -, hc3⟩ := LRow.int (HRW.out.below B2.out) hjo
        subst hA2
        obtain ⟨rfl, rfl⟩ : b2 = b3 ∧ o2 = o3 := by simp only [Option.some.injEq, Addr.mk.injEq] at hA3; exact ⟨hA3.1, hA3.2.1⟩
        clear hA3
        have j0 : (0 : Int) ≤ (j : Int) := by omega
        have j1 : (j : Int) < (o.length : Int) := by omega
        have j2 : (0 : Int) ≤ (j : Int) + 1 := by omega
        have j3 : (j : Int) + 1 < (o.length : Int) := by omega
        have hc3' : wr.cell? ⟨b2, o2 + (j + 1), none⟩ = some (.int .i64 o[j + 1]) := hc3
        have HYJ := Lib.hid (HYES.out j hjo)
        have HNX : Hid (o[j] ≠ wrap64 (-o[j + 1]) → ∀ (k : Nat) (hk : k + 1 < o.length), k < j + 1 → o[k] ≠ wrap64 (-o[k + 1])) := fun h k hk hkj => by
          by_cases e : k = j
          · subst e; exact h
          · exact HNJ.out k hk (by omega)
        have ut0 := Wd.cell hc2
        have ut1 := Wd.cell hc3'
        have HRW2 := Lib.hid ((HRW.out.below B2.out).more B2.out.size)
        clear hc2 hc3 hc3'
        generalize o[j] = ya at *
        generalize o[j + 1] = yb at *
        by_cases hcm : ya = wrap64 (-yb)
        · have hcb : (ya == wrap64 (-yb)) = true := by rw [beq_iff_eq]; exact hcm
          have HY : Hid (y = true) := HYJ.out hcm
          clear hcm HYJ HNX
          go_wp2
          refine wp_region_wd (by kernel_rfl) (by kernel_rfl) ?_
          repeat (first | go_big_quiet_skip | (go_big_quiet_want; go_big_quiet_op; go_big_quiet_on))
          refine wpQuiet_nil ?_
          intro w6 hw'
          obtain ⟨⟨_, hb9⟩, hw''⟩ := hw'
          subst hw''
          have B6 : Hid (Below w.heap.size w w6) := HB5.out.trans ((B2.out.mono HB5.out.size).trans (hb9.mono (Nat.le_trans HB5.out.size B2.out.size)))
          have HI : Hid (ILies w6 w6.heap.size (some ⟨b2, o2, none⟩) o) := ⟨(HRW2.out.below hb9).more hb9.size, HNF.out, hol⟩
          clear hb9 ut0 ut1
          go_wp2
          go_ret2
          rw [HY.out]
          exact ⟨⟨_, qo, rfl, HI.out⟩, B6.out⟩
        · have hcb : (ya == wrap64 (-yb)) = false := beq_eq_false_iff_ne.2 hcm
          have HNN := Lib.hid (HNX.out hcm)
          clear hcm HYJ HNX
          go_wp2
          refine wp_region_wd (by kernel_rfl) (by kernel_rfl) ?_
          repeat (first | go_big_quiet_skip | (go_big_quiet_want; go_big_quiet_op; go_big_quiet_on))
          refine wpQuiet_nil ?_
          intro w6 hw'
          obtain ⟨⟨_, hb9⟩, hw''⟩ := hw'
          subst hw''
          have B6 : Hid (Below w5.heap.size w5 w6) := B2.out.trans (hb9.mono B2.out.size)
          clear hb9 ut0 ut1
          go_wp2
          go_roundw
          case rel => exact ⟨j + 1, by go_num, .inl (by omega), HNN.out, B6.out⟩
          case measure => simp [intOf]; omega
      · have hje : ¬ (j : Int) + 1 < (o.length : Int) := by omega
        have HN : Hid (y = false) := HNO.out fun k hk => HNJ.out k hk (by omega)
        have HI : Hid (ILies wr wr.heap.size Ao o) := ⟨(HRW.out.below B2.out).more B2.out.size, HNF.out, hol⟩
        have HBF : Hid (Below w.heap.size w wr) := HB5.out.trans (B2.out.mono HB5.out.size)
        go_wp2
        go_ret2
        rw [HN.out]
        exact ⟨⟨Ao, ⟨qo, rfl⟩, HI.out⟩, HBF.out⟩
end Go.Proofs.Ytoifogbfhlnlaaa.Cla
