/- The program's needFormula, Check, True; no condition but that lists and texts are as long as Go's may be. -/
import Derived.Test.YtefbknpoehmfaaaPb13
namespace Go.Proofs.Ytefbknpoehmfaaa.For
open Go.ChangeShapes Go.WideShapes Go.ChangeAt Go.RowKit Go.Maps Circ Cw Cla Rep

set_option maxHeartbeats 8000000 in
set_option maxRecDepth 100000 in
theorem needform_any (vars : Int) (L : List Clz) (A : Option Addr) (q : Nat) (w : World) (hA : ALies w w.heap.size A L) :
    Calls Try.prog 23 #[forV vars A L.length q] w fun e w' => e = toldI (decide (formM vars (L.map Clz.l) = 0)) 9 ∧ Below w.heap.size w w' := by
  obtain ⟨WA, hWA⟩ : ∃ x, w.alloc (.cells #[.int .i64 vars, .slice A L.length q] 24) = x := ⟨_, rfl⟩
  have BA : Hid (Below w.heap.size w WA) := by unfold Hid; rw [← hWA]; exact (Below.refl _ _).alloc (Nat.le_refl _) _
  have GA : Hid (WA.heap[w.heap.size]? = some (.cells #[.int .i64 vars, .slice A L.length q] 24 (0, 0))) := by unfold Hid; rw [← hWA]; exact Array.getElem?_push_size
  have HF : Hid (formM vars (L.map Clz.l) = 0 ↔ 0 ≤ vars ∧ vars ≤ 262144 ∧ L.length ≤ 1048576 ∧ L.all (fun z => chk vars z.l == 0) = true) := by
    unfold Hid formM
    rw [List.length_map, List.all_map]
    by_cases h1 : vars < 0
    · rw [if_pos h1]; exact ⟨fun h => absurd h (by decide), fun h => absurd h.1 (by omega)⟩
    · rw [if_neg h1]
      by_cases h2 : 262144 < vars
      · rw [if_pos h2]; exact ⟨fun h => absurd h (by decide), fun h => absurd h.2.1 (by omega)⟩
      · rw [if_neg h2]
        by_cases h3 : 1048576 < L.length
        · rw [if_pos h3]; exact ⟨fun h => absurd h (by decide), fun h => absurd h.2.2.1 (by omega)⟩
        · rw [if_neg h3]
          show (if (L.all fun z => chk vars z.l == 0) = true then (0 : Int) else 9) = 0 ↔ _
          cases (L.all fun z => chk vars z.l == 0)
          · exact ⟨fun h => absurd h (by decide), fun h => absurd h.2.2.2 (by decide)⟩
          · exact ⟨fun _ => ⟨by omega, by omega, by omega, rfl⟩, fun _ => rfl⟩
  have AL := Lib.hid (allC_any (fun z => chk vars z.l == 0) 46 (.int .i64 vars) L A q WA (enters_of Try.func46 (by kernel_rfl) rfl) ((hA.below BA.out).more BA.out.size)
    fun z hz W hW => allow_any vars z W (((((hA.below BA.out).more BA.out.size).below hW).more hW.size).each z hz))
  have hll := hA.len
  clear hA
  generalize (L.all fun z => chk vars z.l == 0) = r at *
  generalize formM vars (L.map Clz.l) = y at *
  obtain ⟨e0, e1⟩ := cells2 GA.out
  unfold forV
  by_cases h0 : 0 ≤ vars
  case neg =>
    have hd : decide (0 ≤ vars) = false := decide_eq_false h0
    have hq : decide (y = 0) = false := decide_eq_false fun h => h0 (HF.out.1 h).1
    rw [hq]
    clear AL HF
    go_enter Try.func23, Try.ntmps23
    go_wp2_with (go_at_call 24; refine (need_no _ _).mono ?_; rintro e w' ⟨rfl, rfl⟩)
    exact ⟨rfl, rfl, BA.out⟩
  case pos =>
  have hd0 : decide (0 ≤ vars) = true := decide_eq_true h0
  by_cases h1 : vars ≤ 262144
  case neg =>
    have hd : decide (vars ≤ 262144) = false := decide_eq_false h1
    have hq : decide (y = 0) = false := decide_eq_false fun h => h1 (HF.out.1 h).2.1
    rw [hq]
    clear AL HF
    go_enter Try.func23, Try.ntmps23
    go_wp2_with (go_at_call 24; refine (need_no _ _).mono ?_; rintro e w' ⟨rfl, rfl⟩)
    exact ⟨rfl, rfl, BA.out⟩
  case pos =>
  have hd1 : decide (vars ≤ 262144) = true := decide_eq_true h1
  by_cases h2 : (L.length : Int) ≤ 1048576
  case neg =>
    have hd : decide ((L.length : Int) ≤ 1048576) = false := decide_eq_false h2
    have hq : decide (y = 0) = false := decide_eq_false fun h => h2 (by have := (HF.out.1 h).2.2.1; omega)
    rw [hq]
    clear AL HF
    go_enter Try.func23, Try.ntmps23
    go_wp2_with fail
    refine (need_yes _ _).mono ?_
    rintro e w' ⟨rfl, rfl⟩
    go_wp2_with fail
    refine (need_no _ _).mono ?_
    rintro e w' ⟨rfl, rfl⟩
    go_wp2
    exact ⟨rfl, rfl, BA.out⟩
  case pos =>
  have hd2 : decide ((L.length : Int) ≤ 1048576) = true := decide_eq_true h2
  have hq : decide (y = 0) = r := by
    rw [Bool.eq_iff_iff, decide_eq_true_eq, HF.out]
    exact ⟨fun h => h.2.2.2, fun h => ⟨h0, h1, by omega, h⟩⟩
  rw [hq]
  clear HF hq
  go_enter Try.func23, Try.ntmps23
  go_wp2_with (go_at_call 24; refine (need_yes _ _).mono ?_; rintro e w' ⟨rfl, rfl⟩)
  refine AL.out.mono ?_
  rintro e w3 ⟨rfl, hb⟩
  have B3 : Hid (Below w.heap.size w w3) := BA.out.trans (hb.mono BA.out.size)
  clear hb AL
  cases r with
  | true =>
    go_wp2_with (go_at_call 24; refine (need_yes _ _).mono ?_; rintro e w' ⟨rfl, rfl⟩)
    go_end0
    exact ⟨rfl, B3.out⟩
  | false =>
    go_wp2_with (go_at_call 24; refine (need_no _ _).mono ?_; rintro e w' ⟨rfl, rfl⟩)
    exact ⟨rfl, rfl, B3.out⟩
theorem fassert (x : Int) (w : World) : (Instr.typeAssert (.iface 51 (.agg #[.int .i64 x])) 20 51 false).run Try.prog w = .ok (.agg #[.int .i64 x]) w := by kernel_rfl
theorem ffield (x : Int) (w : World) : (Instr.field 51 (.agg #[.int .i64 x]) 0).run Try.prog w = .ok (.int .i64 x) w := by kernel_rfl
theorem ccatch_panicking (p : Addr) (x y : Int) (w : World) (hc : w.cell? p = some (.int .i64 y)) (hz : w.frozen? p = false) :
    CallsD Try.prog 36 #[.pointer (some p)] (.panicking (faultI x)) w fun e u' w' =>
      e = .returned (.tuple #[]) ∧ u' = .panicking [{ v := .iface 51 (.agg #[.int .i64 x]), recovered := true }] ∧ w' = w.setCell p (.int .i64 x) := by
  refine callsD_of_wpS Try.func36 rfl fun c₀ cs hu => ?_
  unfold faultI at hu
  apply wpS_seq
  apply wpS_region
  simp [wpOpsS, go_sem, recoverD, hu, Try.ntmps36, Exit.thenS]
  apply wpS_seq
  apply wpS_region
  simp [wpOpsS, go_sem, Exit.thenS]
  refine wpS_cond (t := true) (by simp [Act.eval]) ?_
  simp only [if_true]
  apply wpS_region
  simp [wpOpsS, go_sem, fassert, ffield, hc, hz, bodyPostS, results, Try.results36]
theorem ccatch_idle (p : Addr) (w : World) :
    CallsD Try.prog 36 #[.pointer (some p)] .returning w fun e u' w' => e = .returned (.tuple #[]) ∧ u' = .returning ∧ w' = w := by
  refine callsD_of_wpS Try.func36 rfl fun c₀ cs hu => ?_
  apply wpS_seq
  apply wpS_region
  simp [wpOpsS, go_sem, recoverD, hu, Try.ntmps36, Exit.thenS]
  apply wpS_seq
  apply wpS_region
  simp [wpOpsS, go_sem, Exit.thenS]
  refine wpS_cond (t := false) (by simp [Act.eval]) ?_
  simp only [Bool.false_eq_true, if_false]
  refine wpS_of_wp (wp_skip ?_)
  cases c₀
  simp_all [bodyPostS, results, Try.results36]
theorem ucatch_panicking (p : Addr) (x y : Int) (w : World) (hc : w.cell? p = some (.int .i64 y)) (hz : w.frozen? p = false) :
    CallsD Try.prog 22 #[.pointer (some p)] (.panicking (faultI x)) w fun e u' w' =>
      e = .returned (.tuple #[]) ∧ u' = .panicking [{ v := .iface 51 (.agg #[.int .i64 x]), recovered := true }] ∧ w' = w.setCell p (.int .i64 x) := by
  refine callsD_of_wpS Try.func22 rfl fun c₀ cs hu => ?_
  unfold faultI at hu
  apply wpS_seq
  apply wpS_region
  simp [wpOpsS, go_sem, recoverD, hu, Try.ntmps22, Exit.thenS]
  apply wpS_seq
  apply wpS_region
  simp [wpOpsS, go_sem, Exit.thenS]
  refine wpS_cond (t := true) (by simp [Act.eval]) ?_
  simp only [if_true]
  apply wpS_region
  simp [wpOpsS, go_sem, fassert, ffield, hc, hz, bodyPostS, results, Try.results22]
theorem ucatch_idle (p : Addr) (w : World) :
    CallsD Try.prog 22 #[.pointer (some p)] .returning w fun e u' w' => e = .returned (.tuple #[]) ∧ u' = .returning ∧ w' = w := by
  refine callsD_of_wpS Try.func22 rfl fun c₀ cs hu => ?_
  apply wpS_seq
  apply wpS_region
  simp [wpOpsS, go_sem, recoverD, hu, Try.ntmps22, Exit.thenS]
  apply wpS_seq
  apply wpS_region
  simp [wpOpsS, go_sem, Exit.thenS]
  refine wpS_cond (t := false) (by simp [Act.eval]) ?_
  simp only [Bool.false_eq_true, if_false]
  refine wpS_of_wp (wp_skip ?_)
  cases c₀
  simp_all [bodyPostS, results, Try.results22]
end Go.Proofs.Ytefbknpoehmfaaa.For
