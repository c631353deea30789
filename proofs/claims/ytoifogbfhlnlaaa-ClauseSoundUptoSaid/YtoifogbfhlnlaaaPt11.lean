/- slices.Values, Collect, Sorted over a list of numbers: a new list, the same numbers in order. Condition: at most 2^44 numbers. isAmong and its two closures, all, Subsumes. Condition: the second clause has at most 2^44 numbers. -/
import Derived.Test.YtoifogbfhlnlaaaPt05
import Derived.Test.YtoifogbfhlnlaaaPt09
import Derived.Test.YtoifogbfhlnlaaaPt04
import Derived.RangeFuncBox
import Derived.RangeFuncLeaves
import Derived.Shelf.Abstract
import Derived.WalkKit
import Derived.OwnWalkIn
import Derived.TacticsInMore
import Derived.LoopNIn
import Derived.LoopIn
import Derived.Maps.AppendAt
import Derived.Sort.OwnSortedInts
namespace Go.Proofs.Ytoifogbfhlnlaaa.Cla
open Go.ChangeShapes Go.WideShapes Go.ChangeAt Go.RowKit Go.Maps Go.Sort Go.Shelf Circ Cw

attribute [local go_sem] Oper.semAt_some

set_option maxRecDepth 100000 in
set_option maxHeartbeats 2000000 in
/-- slices.Values' iterator: for every loop body that keeps what lay below block n0 -/
theorem values1_in (n : Nat) (hn : 1 ≤ n) (y bx n0 : Nat) (A : Option Addr) (q : Nat) (l : List Int) (J Jx : List Int → World → Prop) (hl : l.length ≤ 9223372036854775807)
    (hY : ∀ pre x W, J pre W → pre.length < l.length → YieldAt Fence.wide (n - 1) Try.prog y #[.int .i64 x] W fun e W' =>
      (e = .returned (.bool true) ∧ J (pre ++ [x]) W' ∧ Below n0 W W') ∨ (e = .returned (.bool false) ∧ Jx (pre ++ [x]) W'))
    (W : World) (hc : W.cell? ⟨bx, 0, none⟩ = some (.slice A l.length q)) (hr : LRow W n0 1 A (ints l)) (h0 : J [] W) :
    CallsIn Fence.wide n Try.prog 53 #[.func (.yield y) #[] #[], .pointer (some ⟨bx, 0, none⟩)] W fun e W' => (∃ v, e = .returned v) ∧
      ((∃ ys, ys = l ∧ J ys W') ∨ (∃ pre, pre <+: l ∧ Jx pre W')) := by
  have HR : Hid (∀ x, Below n0 W x → LRow x n0 1 A (ints l)) := fun x hx => hr.below hx
  have HEND : Hid (l.take l.length = l) := List.take_length
  have HPRE : Hid (∀ k, l.take k <+: l) := fun k => List.take_prefix k l
  have HY := Lib.hid hY
  clear hr hY
  refine callsIn_of_wp Try.func53 rfl trivial ?_ rfl
  simp only [Try.ntmps53, List.size_toArray, List.length_cons, List.length_nil, Nat.reduceAdd, Nat.reduceSub, Array.replicate_succ, Array.replicate_zero, List.push_toArray, List.append_toArray, List.nil_append, List.cons_append]
  gi_wp2
  gi_loopw [7] (fun i wr => ∃ k : Nat, k ≤ l.length ∧ i = .int .i64 k ∧ J (l.take k) wr ∧ Below n0 W wr) (fun i _ => l.length - (intOf i).toNat)
  case atStart => exact ⟨0, Nat.zero_le _, rfl, by simpa using h0, Below.refl _ _⟩
  case round =>
    obtain ⟨k, hk, rfl, hJ, hb⟩ := hrel
    have HJ := Lib.hid hJ
    have HB := Lib.hid hb
    clear hJ hb
    by_cases hlt : k < l.length
    · obtain ⟨b, o, rfl, -, hcell⟩ := LRow.int (HR.out _ HB.out) hlt
      have HT : Hid (l.take (k + 1) = l.take k ++ [l[k]]) := List.take_succ_eq_append_getElem hlt
      have hkz : (k : Int) < (l.length : Int) := by omega
      have hy := HY.out (l.take k) l[k] wr HJ.out (by rw [List.length_take]; omega)
      rw [← HT.out] at hy
      generalize l[k] = x at *
      obtain ⟨fn, tmps, assign, body, hy, hR⟩ := hy
      have HRR := Lib.hid hR
      clear hR
      gi_wp2
      refine HRR.out.mono ?_
      rintro e W3 (⟨rfl, hJ3, hk3⟩ | ⟨rfl, hJx3⟩)
      · have HJ3 := Lib.hid hJ3
        have HB3 : Hid (Below n0 W W3) := HB.out.trans hk3
        clear hJ3 hk3 hcell HT
        gi_wp2
        go_roundw
        case rel => exact ⟨k + 1, by omega, by go_num, HJ3.out, HB3.out⟩
        case measure => simp [intOf]; omega
      · have HJx3 := Lib.hid hJx3
        clear hJx3 hcell HT
        gi_wp2
        refine bodyPost_ret (results_none rfl _ _ _) rfl ?_
        exact ⟨⟨_, rfl⟩, .inr ⟨_, HPRE.out (k + 1), HJx3.out⟩⟩
    · obtain rfl : k = l.length := by omega
      rw [HEND.out] at HJ
      gi_wp2
      go_end0
      exact ⟨⟨_, rfl⟩, .inl ⟨_, rfl, HJ.out⟩⟩
set_option maxHeartbeats 1000000 in
theorem values_any (A : Option Addr) (n q : Nat) (w : World) : Calls Try.prog 37 #[.slice A n q] w fun e w' => e = .returned (.func (.func 53) #[] #[.pointer (some ⟨w.heap.size, 0, none⟩)]) ∧ w' = w.alloc (.cells #[.slice A n q] 22) := by
  go_enter Try.func37, Try.ntmps37
  go_wp2
  go_ret
  exact ⟨rfl, rfl⟩
/-- what slices.Values hands back gives the list's numbers in their order -/
theorem values_stops (n : Nat) (hn : 1 ≤ n) (bx n0 : Nat) (A : Option Addr) (q : Nat) (l : List Int) (w : World) (hbx : bx < n0) (hn0 : n0 ≤ w.heap.size) (hl : l.length ≤ 9223372036854775807)
    (hc : w.cell? ⟨bx, 0, none⟩ = some (.slice A l.length q)) (hr : LRow w n0 1 A (ints l)) :
    SeqStopsK Fence.wide n Try.prog 53 #[.pointer (some ⟨bx, 0, none⟩)] (fun x : Int => #[Value.int .i64 x]) (Below n0) (fun ys => ys = l) (fun pre => pre <+: l) l.length w := fun y J Jx W hW _ _ hY h0 =>
  values1_in n hn y bx n0 A q l J Jx hl hY W ((hW.cell (p := ⟨bx, 0, none⟩) (by show bx < _; omega)).trans hc) (hr.below (hW.mono hn0)) h0
set_option maxRecDepth 100000 in
set_option maxHeartbeats 4000000 in
/-- slices.AppendSeq to nil, of what slices.Values hands back: the same numbers, in a list of the call's own -/
theorem appendseq_in (n : Nat) (hn : 3 ≤ n) (bx : Nat) (A : Option Addr) (q : Nat) (l : List Int) (w : World) (hbx : bx < w.heap.size) (hby : l.length * 8 ≤ 140737488355328)
    (hc : w.cell? ⟨bx, 0, none⟩ = some (.slice A l.length q)) (hr : LRow w w.heap.size 1 A (ints l)) :
    CallsIn Fence.wide n Try.prog 61 #[.slice none 0 0, .func (.func 53) #[] #[.pointer (some ⟨bx, 0, none⟩)]] w fun e w' => ∃ v, e = .returned v ∧ OwnI w' w.heap.size v l ∧ Below w.heap.size w w' := by
  obtain ⟨i0, hi, hz0, hz1, hz2⟩ := info_parts info3
  refine callsIn_of_wp_marks Try.func61 rfl trivial ?_ rfl
  simp only [Try.ntmps61, List.size_toArray, List.length_cons, List.length_nil, Nat.reduceAdd, Nat.reduceSub, Array.replicate_succ, Array.replicate_zero, List.push_toArray, List.append_toArray, List.nil_append, List.cons_append]
  gi_wp2
  have bO := Boxed.new w 22 (.slice none 0 0)
  have hB0 : Below w.heap.size w (w.alloc (.cells #[.slice none 0 0] 22)) := (Below.refl _ w).alloc (Nat.le_refl _) _
  refine wpIn_rangeFunc_ownG rfl (by omega) (gf := 53) (lb := #[.pointer (some ⟨bx, 0, none⟩)]) rfl trivial (enters_of Try.func53 (by kernel_rfl) rfl)
    (values_stops (n - 1) (by omega) bx w.heap.size A q l _ hbx (by simp) (by omega) ((hB0.cell (p := ⟨bx, 0, none⟩) hbx).trans hc) (hr.below hB0)) belowK_t (belowK_b (by simp)) (Below.refl _ _) (fun _ => rfl)
    (fun pre W => (∃ v, Boxed W w.heap.size 22 v ∧ W.ownsRow w.heap.size 3 1 v pre.length (pre.map (Value.int .i64)) ∧ True) ∧ Below w.heap.size w W)
    (fun _ _ _ => False)
    (OwnFrom.and (Own.from (holdsRow_own w.heap.size w.heap.size 22 3 1 (fun pre : List Int => pre.length) (fun pre => pre.map (Value.int .i64)) (fun _ _ => True)) _) (ownFrom_below (Nat.le_refl _) (by simp)))
    (fun _ _ _ _ _ hs _ _ => hs)
    ⟨⟨_, bO, World.ownsRow_nil _ _ _ _, trivial⟩, hB0⟩
    (fun x => { tmps := #[.slice none 0 0, .func (.func 53) #[] #[.pointer (some ⟨bx, 0, none⟩)], .pointer (some ⟨w.heap.size, 0, none⟩), undef, .slice none 0 0, .int .i64 x, .func (.func 53) #[] #[.pointer (some ⟨bx, 0, none⟩)], .int .i64 x, undef, undef, undef, undef, undef], defers := [] }) ?assign ?body ?done ?stop
  case assign =>
    intro l x W K hK
    gi_wp2
    exact hK
  case body =>
    rintro y pre x W ⟨⟨v, hv, hrow, -⟩, hB⟩ hlt
    have hc := hv.cell
    gi_wp2_with (gi_at_builtin; refine wpListIn_append_own _ rfl _ _ 22 rfl w.heap.size 3 i0 (.int .i64 0) 1 8 under22 hi hz0 hz1 hz2 rfl (by decide) _ _ _ rfl (hrow.alloc _) ⟨W.heap.size, 0, none⟩ 1 1 [.int .i64 x] rfl rfl (cell_one_new _ _ _) (by simp [Value.oneCell']) (by unfold maxLen; omega) (by omega) (by have := hB.size; simp; omega) ?_; intro v' w1 hown' hgrow _; obtain ⟨g', cap', rfl⟩ := ownsRow_succ hown'; obtain ⟨hv1, hv2, hr2, hk2, hb2⟩ := hv.appended (by decide) hrow hB.size (Nat.le_refl _) hown' hgrow; have hc1 := hv1.cell; have hf1 := hv1.frozen)
    exact ⟨hk2.from _, hb2, ⟨_, hv2, by simpa using hr2, trivial⟩, hB.trans hb2⟩
  case done =>
    rintro D ys W hD rfl ⟨⟨v, hv, hrow, -⟩, hB⟩ hK
    have hc := hv.cell
    gi_wp2
    refine ⟨by simp, .inl ⟨_, _, rfl, run_takeDeferred hK, ?_⟩⟩
    exact ⟨_, results_tmp rfl _ _ _, v, rfl, ownsRow_putObj hrow _ hK rfl, hB.trans (belowK_b (w := w) (Nat.le_refl _) W D _ _ (by simp at hD; omega) hK rfl rfl)⟩
  case stop =>
    rintro D c pre W _ _ h _
    exact h.elim
set_option maxRecDepth 100000 in
set_option maxHeartbeats 1000000 in
theorem collect_in (n : Nat) (hn : 4 ≤ n) (bx : Nat) (A : Option Addr) (q : Nat) (l : List Int) (w : World) (hbx : bx < w.heap.size) (hby : l.length * 8 ≤ 140737488355328)
    (hc : w.cell? ⟨bx, 0, none⟩ = some (.slice A l.length q)) (hr : LRow w w.heap.size 1 A (ints l)) :
    CallsIn Fence.wide n Try.prog 51 #[.func (.func 53) #[] #[.pointer (some ⟨bx, 0, none⟩)]] w fun e w' => ∃ v, e = .returned v ∧ OwnI w' w.heap.size v l ∧ Below w.heap.size w w' := by
  have AP := appendseq_in (n - 1) (by omega) bx A q l w hbx hby hc hr
  clear hc hr
  have hfK : Fence.wide.fn 61 := trivial
  have h1 : 1 ≤ n := by omega
  refine callsIn_of_wp Try.func51 rfl trivial ?_ rfl
  simp only [Try.ntmps51, List.size_toArray, List.length_cons, List.length_nil, Nat.reduceAdd, Nat.reduceSub, Array.replicate_succ, Array.replicate_zero, List.push_toArray, List.append_toArray, List.nil_append, List.cons_append]
  gi_wp2_with (gi_at_call 61; refine AP.mono ?_; rintro e w' ⟨v, rfl, ho, hb⟩)
  go_ret
  exact ⟨v, rfl, ho, hb⟩
/-- a list in order is of the same members -/
def upM (l : List Int) : List Int := l.mergeSort fun x y => decide (x ≤ y)
theorem up_len (l : List Int) : (upM l).length = l.length := (List.mergeSort_perm l _).length_eq
theorem up_mem (l : List Int) (x : Int) : (upM l).contains x = l.contains x := by
  rw [Bool.eq_iff_iff, List.contains_iff_mem, List.contains_iff_mem]
  exact (List.mergeSort_perm l _).mem_iff
theorem up_sorted (l : List Int) : (upM l).Pairwise (· ≤ ·) := by
  have := List.pairwise_mergeSort (le := fun x y : Int => decide (x ≤ y)) (fun x y z h1 h2 => by simp only [decide_eq_true_eq] at *; omega) (fun x y => by simp only [Bool.or_eq_true, decide_eq_true_eq]; omega) l
  exact this.imp fun {x y} h => by simpa using h
theorem OwnI.nil_of {w : World} {base : Nat} {v : Value} {l : List Int} (h : OwnI w base v l) : (v = .slice none 0 0 ∧ l = []) ∨ ∃ g cap cur, v = .slice (some ⟨g, 0, none⟩) l.length cap ∧ base ≤ g ∧ w.heap[g]? = some (.cells cur 3 (0, 0)) ∧ l.length ≤ cap ∧ cap ≤ maxLen ∧ cur.size = cap * 1 ∧ cur.toList.take l.length = l.map (Value.int .i64) := by
  rcases h.2 with ⟨h1, h2⟩ | ⟨g, cap, cur, h1, h2, h3, h4, h5, h6, h7⟩
  · exact .inl ⟨h1, List.eq_nil_of_length_eq_zero h2⟩
  · exact .inr ⟨g, cap, cur, h1, h2, h3, h4, h5, h6, by simpa using h7⟩
set_option maxRecDepth 100000 in
set_option maxHeartbeats 2000000 in
/-- slices.Sorted of what slices.Values hands back -/
theorem sorted_any (bx : Nat) (A : Option Addr) (q : Nat) (l : List Int) (w : World) (hbx : bx < w.heap.size) (hby : l.length * 8 ≤ 140737488355328)
    (hc : w.cell? ⟨bx, 0, none⟩ = some (.slice A l.length q)) (hr : LRow w w.heap.size 1 A (ints l)) :
    Calls Try.prog 36 #[.func (.func 53) #[] #[.pointer (some ⟨bx, 0, none⟩)]] w fun e w' => ∃ v, e = .returned v ∧ OwnI w' w.heap.size v (upM l) ∧ Below w.heap.size w w' := by
  have CO := Lib.hid (callsIn_wide.1 (collect_in 4 (by omega) bx A q l w hbx hby hc hr))
  clear hc hr
  go_enter Try.func36, Try.ntmps36
  go_wp2_with fail
  refine CO.out.mono ?_
  rintro e W ⟨v, rfl, ho, hb⟩
  have HB := Lib.hid hb
  have HO := Lib.hid ho
  clear hb CO
  rcases OwnI.nil_of ho with ⟨rfl, rfl⟩ | ⟨g, cap, cur, rfl, h2, h3, h4, h5, h6, h7⟩
  · have SN := Lib.hid (Try.slices_Sort_int_none none 0 W)
    clear ho
    go_wp2_with fail
    refine SN.out.mono ?_
    rintro e w' ⟨rfl, rfl⟩
    go_wp2
    go_ret
    have hu : upM [] = [] := by simp [upM]
    exact ⟨_, rfl, by rw [hu]; exact HO.out, HB.out⟩
  · have hH := holds_of_blockI h3 h7
    have hgl : g < W.heap.size := (Array.getElem?_eq_some_iff.1 h3).1
    have SS := Lib.hid (Try.slices_Sort_int g 0 cap l W hH hgl (by omega))
    have HE : Hid (∀ nn os, OwnI (grow (putRow (Value.int .i64) (Sort.ahead W nn) g 0 (upM l).toArray) os) w.heap.size (.slice (some ⟨g, 0, none⟩) l.length cap) (upM l) ∧ Below w.heap.size w (grow (putRow (Value.int .i64) (Sort.ahead W nn) g 0 (upM l).toArray) os)) := fun nn os => by
      constructor
      · have := ownsRow_sortedI (base := w.heap.size) (n := nn) (os := os) (ss := l) (ts := upM l) (up_len l) h2 h3 h4 h5 h6
        unfold OwnI
        rw [up_len]
        exact this
      · exact HB.out.grown (grownBy_sortedI _) HB.out.size (fun j hj => by cases hj; exact h2)
    clear ho h2 h3 h4 h5 h6 h7 hH hgl HO
    go_wp2_with fail
    refine SS.out.mono ?_
    rintro e w' ⟨rfl, nn, os, rfl⟩
    have HE2 := Lib.hid (HE.out nn os)
    clear HE SS
    change Hid (OwnI (grow (putRow (Value.int .i64) (Sort.ahead W nn) g 0 (upM l).toArray) os) _ _ _ ∧ _) at HE2
    go_wp2
    go_ret
    exact ⟨_, rfl, HE2.out.1, HE2.out.2⟩
end Go.Proofs.Ytoifogbfhlnlaaa.Cla
namespace Go.Proofs.Ytoifogbfhlnlaaa.Cla
open Go.ChangeShapes Go.WideShapes Go.ChangeAt Go.RowKit Go.Maps Go.Sort Go.Shelf Circ Cw

/-- a list that lies in memory, as the library's contracts ask for it -/
theorem row_cells {W : World} {B : Nat} {A : Option Addr} {l : List Int} (h : LRow W B 1 A (ints l)) : l = [] ∨ ∃ b o, A = some ⟨b, o, none⟩ ∧ b < B ∧ ∀ j, j < l.length → W.cell? ⟨b, o + j, none⟩ = some (.int .i64 (l.getD j 0)) := by
  by_cases hn : l = []
  · exact .inl hn
  · have hl : 0 < l.length := List.length_pos_iff.2 hn
    obtain ⟨b, o, rfl, hb, -⟩ := LRow.int h hl
    refine .inr ⟨b, o, rfl, hb, fun j hj => ?_⟩
    obtain ⟨b', o', e, -, hc⟩ := LRow.int h hj
    simp only [Option.some.injEq, Addr.mk.injEq, and_true] at e
    obtain ⟨rfl, rfl⟩ := e
    rw [hc, List.getD_eq_getElem?_getD, List.getElem?_eq_getElem hj]; rfl
set_option maxRecDepth 100000 in
theorem contains_any (l : List Int) (A : Option Addr) (q : Nat) (x : Int) (B : Nat) (w : World) (h : LRow w B 1 A (ints l)) (hl : l.length ≤ 9223372036854775807) :
    Calls Try.prog 14 #[.slice A l.length q, .int .i64 x] w fun e w' => e = .returned (.bool (l.contains x)) ∧ w' = w := by
  rcases row_cells h with rfl | ⟨b, o, rfl, -, hc⟩
  · exact Try.slices_Contains_int_empty A q x w
  · have := Try.slices_Contains_int b o l.length q l x w (Nat.le_refl _) hl hc
    rwa [List.take_length] at this
set_option maxRecDepth 100000 in
/-- the closure that looks through them one by one -/
theorem among1_any (l : List Int) (A : Option Addr) (q : Nat) (x : Int) (bx B : Nat) (w : World) (hc : w.cell? ⟨bx, 0, none⟩ = some (.slice A l.length q)) (h : LRow w B 1 A (ints l)) (hl : l.length ≤ 9223372036854775807) :
    Calls Try.prog 35 #[.int .i64 x, .pointer (some ⟨bx, 0, none⟩)] w fun e w' => e = .returned (.bool (l.contains x)) ∧ ∃ q, w' = w.drewN q := by
  have CO := Lib.hid (contains_any l A q x B w h hl)
  clear h hl
  generalize l.contains x = y at *
  go_enter Try.func35, Try.ntmps35
  go_wp2_with fail
  refine CO.out.mono ?_
  rintro e w' ⟨rfl, rfl⟩
  go_wp2
  go_ret
  exact ⟨rfl, 0, rfl⟩
set_option maxRecDepth 100000 in
/-- the closure that looks in order -/
theorem among2_any (l : List Int) (v : Value) (base : Nat) (x : Int) (bx : Nat) (w : World) (hc : w.cell? ⟨bx, 0, none⟩ = some v) (h : OwnI w base v (upM l)) (hl : l.length < 4611686018427387904) :
    Calls Try.prog 38 #[.int .i64 x, .pointer (some ⟨bx, 0, none⟩)] w fun e w' => e = .returned (.bool (l.contains x)) ∧ ∃ q, w' = w.drewN q := by
  rw [← up_mem]
  have hlu := up_len l
  obtain ⟨A, q, rfl, hrow, -, -⟩ := h.row
  have CO : Hid (∃ n : Int, Calls Try.prog 39 #[.slice A (upM l).length q, .int .i64 x] w fun e w' => e = .returned (.tuple #[.int .i64 n, .bool ((upM l).contains x)]) ∧ ∃ q, w' = w.drewN q) := by
    rcases row_cells hrow with e | ⟨b, o, rfl, -, hcl⟩
    · rw [e]
      exact ⟨0, (Try.slices_BinarySearch_int_empty A q x w).mono fun _ _ ⟨h1, h2⟩ => ⟨h1, 0, h2⟩⟩
    · have := Try.slices_BinarySearch_int b o (upM l).length q (upM l) x w (Nat.le_refl _) (by omega) hcl (by rw [List.take_length]; exact up_sorted l)
      rw [List.take_length] at this
      exact ⟨_, this⟩
  obtain ⟨n, CO⟩ := CO.out
  have CO := Lib.hid CO
  clear h hrow hlu
  generalize (upM l).contains x = y at *
  generalize (upM l).length = m at *
  go_enter Try.func38, Try.ntmps38
  go_wp2_with fail
  refine CO.out.mono ?_
  rintro e w' ⟨rfl, qq, rfl⟩
  go_wp2
  go_ret
  exact ⟨rfl, qq, rfl⟩
/-- a function value that tells whether a number is one of the list, and turns nothing -/
def Tells1 (p : Int → Bool) (v : Value) (w : World) : Prop :=
  ∃ g lb, v = .func (.func g) #[] lb ∧ (∀ args w, (callFunc g args).run Try.prog w = .ok (.enter g args) w) ∧ PredAt Try.prog g lb (Value.int .i64) p w
theorem Tells1.below {p : Int → Bool} {v : Value} {w w' : World} (h : Tells1 p v w) (hb : Below w.heap.size w w') : Tells1 p v w' := by
  obtain ⟨g, lb, e, eg, hp⟩ := h
  exact ⟨g, lb, e, eg, fun W x hW => hp W x (hb.trans (hW.mono hb.size))⟩
set_option maxHeartbeats 4000000 in
set_option maxRecDepth 100000 in
theorem isamong_any (l : List Int) (A : Option Addr) (q : Nat) (w : World) (h : LRow w w.heap.size 1 A (ints l)) (hby : l.length * 8 ≤ 140737488355328) :
    Calls Try.prog 25 #[.slice A l.length q] w fun e w' => (∃ v, e = .returned v ∧ Tells1 (fun x => l.contains x) v w') ∧ Below w.heap.size w w' := by
  obtain ⟨W1, hW1⟩ : ∃ x, w.alloc (.cells #[.slice A l.length q] 22) = x := ⟨_, rfl⟩
  have b1 : Below w.heap.size w W1 := by rw [← hW1]; exact (Below.refl _ _).alloc (Nat.le_refl _) _
  have s1 : W1.heap.size = w.heap.size + 1 := by rw [← hW1]; simp
  have c1 : W1.cell? ⟨w.heap.size, 0, none⟩ = some (.slice A l.length q) := by
    have hh : W1.heap[w.heap.size]? = some (.cells #[.slice A l.length q] 22 (0, 0)) := by rw [← hW1]; exact Array.getElem?_push_size
    simp [World.cell?, hh]
  have r1 : LRow W1 W1.heap.size 1 A (ints l) := (h.below b1).more b1.size
  have B1 := Lib.hid b1
  have S1 := Lib.hid s1
  by_cases hq : l.length ≤ 32
  · have hd : decide ((l.length : Int) ≤ 32) = true := decide_eq_true (by omega)
    have hz : (l.length : Int) ≤ 32 := by omega
    have HT : Hid (Tells1 (fun x => l.contains x) (.func (.func 35) #[] #[.pointer (some ⟨w.heap.size, 0, none⟩)]) W1) := ⟨_, _, rfl, enters_of Try.func35 (by kernel_rfl) rfl, fun W x hW =>
      among1_any l A q x w.heap.size W1.heap.size W ((hW.cell (p := ⟨w.heap.size, 0, none⟩) (by show w.heap.size < _; omega)).trans c1) (r1.below hW) (by omega)⟩
    clear b1 s1 r1 h hby
    go_enter Try.func25, Try.ntmps25
    go_wp2
    go_ret
    exact ⟨⟨_, rfl, HT.out⟩, B1.out⟩
  · have hd : decide ((l.length : Int) ≤ 32) = false := decide_eq_false (by omega)
    have hz : ¬ (l.length : Int) ≤ 32 := by omega
    obtain ⟨W2, hW2⟩ : ∃ x, W1.alloc (.cells #[.slice A l.length q] 22) = x := ⟨_, rfl⟩
    have b2 : Below W1.heap.size W1 W2 := by rw [← hW2]; exact (Below.refl _ _).alloc (Nat.le_refl _) _
    have s2 : W2.heap.size = W1.heap.size + 1 := by rw [← hW2]; simp
    have c2 : W2.cell? ⟨W1.heap.size, 0, none⟩ = some (.slice A l.length q) := by
      have hh : W2.heap[W1.heap.size]? = some (.cells #[.slice A l.length q] 22 (0, 0)) := by rw [← hW2]; exact Array.getElem?_push_size
      simp [World.cell?, hh]
    have VA := Lib.hid (values_any A l.length q W1)
    rw [hW2] at VA
    have SO := Lib.hid (sorted_any W1.heap.size A q l W2 (by omega) hby c2 ((r1.below b2).more b2.size))
    have B2 : Hid (Below w.heap.size w W2) := b1.trans (b2.mono (by omega))
    have HBY := Lib.hid hby
    clear b1 s1 r1 h hby b2 s2 c2 hW2
    go_enter Try.func25, Try.ntmps25
    go_wp2_with fail
    refine VA.out.mono ?_
    rintro e w' ⟨rfl, hw'⟩
    obtain rfl := hw'.symm
    go_wp2_with fail
    refine SO.out.mono ?_
    rintro e W3 ⟨v, rfl, ho, hb⟩
    have B3 : Hid (Below w.heap.size w W3) := B2.out.trans (hb.mono B2.out.size)
    obtain ⟨W4, hW4⟩ : ∃ x, W3.alloc (.cells #[v] 22) = x := ⟨_, rfl⟩
    have b4 : Below W3.heap.size W3 W4 := by rw [← hW4]; exact (Below.refl _ _).alloc (Nat.le_refl _) _
    have s4 : W4.heap.size = W3.heap.size + 1 := by rw [← hW4]; simp
    have c4 : W4.cell? ⟨W3.heap.size, 0, none⟩ = some v := by
      have hh : W4.heap[W3.heap.size]? = some (.cells #[v] 22 (0, 0)) := by rw [← hW4]; exact Array.getElem?_push_size
      simp [World.cell?, hh]
    have o4 := ho.keep b4
    have HT : Hid (Tells1 (fun x => l.contains x) (.func (.func 38) #[] #[.pointer (some ⟨W3.heap.size, 0, none⟩)]) W4) := ⟨_, _, rfl, enters_of Try.func38 (by kernel_rfl) rfl, fun W x hW =>
      among2_any l v W2.heap.size x W3.heap.size W ((hW.cell (p := ⟨W3.heap.size, 0, none⟩) (by show W3.heap.size < _; omega)).trans c4) (o4.keep hW) (by have := HBY.out; omega)⟩
    have B4 : Hid (Below w.heap.size w W4) := B3.out.trans (b4.mono B3.out.size)
    obtain ⟨A', q', rfl, -, -, -⟩ := ho.row
    clear ho hb b4 s4 c4 o4 B3 VA SO
    go_wp2
    go_ret
    exact ⟨⟨_, rfl, HT.out⟩, B4.out⟩
set_option maxRecDepth 100000 in
/-- the closure of all -/
theorem all1_any (p : Int → Bool) (g : Nat) (lb : Array Value) (x : Int) (bx : Nat) (w : World) (hc : w.cell? ⟨bx, 0, none⟩ = some (.func (.func g) #[] lb)) (eg : ∀ args w, (callFunc g args).run Try.prog w = .ok (.enter g args) w)
    (h : Calls Try.prog g (#[.int .i64 x] ++ lb) w fun e w' => e = .returned (.bool (p x)) ∧ ∃ q, w' = w.drewN q) :
    Calls Try.prog 34 #[.int .i64 x, .pointer (some ⟨bx, 0, none⟩)] w fun e w' => e = .returned (.bool (!p x)) ∧ ∃ q, w' = w.drewN q := by
  have CO := Lib.hid h
  clear h
  generalize p x = y at *
  go_enter Try.func34, Try.ntmps34
  go_wp2_with (go_at_fn g; refine CO.out.mono ?_; rintro e w' ⟨rfl, qq, rfl⟩)
  go_ret
  exact ⟨rfl, qq, rfl⟩
set_option maxHeartbeats 4000000 in
set_option maxRecDepth 100000 in
theorem all_any (p : Int → Bool) (f : Value) (l : List Int) (A : Option Addr) (q : Nat) (w : World) (hf : Tells1 p f w) (h : LRow w w.heap.size 1 A (ints l)) (hl : l.length ≤ 9223372036854775807) :
    Calls Try.prog 24 #[.slice A l.length q, f] w fun e w' => e = .returned (.bool (l.all p)) ∧ Below w.heap.size w w' := by
  obtain ⟨g, lb, rfl, eg, hp⟩ := hf
  obtain ⟨W1, hW1⟩ : ∃ x, w.alloc (.cells #[.func (.func g) #[] lb] 37) = x := ⟨_, rfl⟩
  have b1 : Below w.heap.size w W1 := by rw [← hW1]; exact (Below.refl _ _).alloc (Nat.le_refl _) _
  have s1 : W1.heap.size = w.heap.size + 1 := by rw [← hW1]; simp
  have c1 : W1.cell? ⟨w.heap.size, 0, none⟩ = some (.func (.func g) #[] lb) := by
    have hh : W1.heap[w.heap.size]? = some (.cells #[.func (.func g) #[] lb] 37 (0, 0)) := by rw [← hW1]; exact Array.getElem?_push_size
    simp [World.cell?, hh]
  have r1 : LRow W1 w.heap.size 1 A (ints l) := h.below b1
  have HP : PredAt Try.prog 34 #[.pointer (some ⟨w.heap.size, 0, none⟩)] (Value.int .i64) (fun x => !p x) W1 := fun W x hW =>
    all1_any p g lb x w.heap.size W ((hW.cell (p := ⟨w.heap.size, 0, none⟩) (by show w.heap.size < _; omega)).trans c1) eg (hp W x (b1.trans (hW.mono b1.size)))
  have HA : Hid (l.all p = !(l.any fun x => !p x)) := by
    unfold Hid
    rw [Bool.eq_iff_iff]; simp
  have CF : Hid (Calls Try.prog 33 #[.slice A l.length q, .func (.func 34) #[] #[.pointer (some ⟨w.heap.size, 0, none⟩)]] W1 fun e w' => e = .returned (.bool (l.any fun x => !p x)) ∧ Below W1.heap.size W1 w') := by
    rcases row_cells r1 with rfl | ⟨b, o, rfl, -, hcl⟩
    · exact (Try.slices_ContainsFunc_empty (α := Int) A q _ W1).mono fun _ _ ⟨h1, h2⟩ => ⟨h1, by rw [h2]; exact Below.refl _ _⟩
    · have := Try.slices_ContainsFunc (Value.int .i64) (fun x => !p x) 34 #[.pointer (some ⟨w.heap.size, 0, none⟩)] (enters_of Try.func34 (by kernel_rfl) rfl) b o l.length q l W1 HP (Nat.le_refl _) hl (fun j hj => by
        rw [hcl j hj, List.getD_eq_getElem?_getD, List.getElem?_eq_getElem hj, getElem!_pos l j hj]; rfl)
      rw [List.take_length] at this
      exact this.mono fun _ _ ⟨h1, qq, h2⟩ => ⟨h1, by rw [h2]; exact below_drewN' (Below.refl _ _) qq⟩
  have B1 := Lib.hid b1
  rw [HA.out]
  generalize (l.any fun x => !p x) = y at *
  clear HP r1 c1 s1 b1 h hp HA
  go_enter Try.func24, Try.ntmps24
  go_wp2_with fail
  refine CF.out.mono ?_
  rintro e w3 ⟨rfl, hb⟩
  have B3 : Hid (Below w.heap.size w w3) := B1.out.trans (hb.mono B1.out.size)
  clear hb CF
  go_wp2
  go_ret
  exact ⟨rfl, B3.out⟩
set_option maxHeartbeats 4000000 in
set_option maxRecDepth 100000 in
theorem subsumes_any (a b : List Int) (A B : Option Addr) (q r : Nat) (w : World) (ha : ILies w w.heap.size A a) (hb : ILies w w.heap.size B b) (hby : b.length * 8 ≤ 140737488355328) :
    Calls Try.prog 10 #[.slice A a.length q, .slice B b.length r] w fun e w' => e = .returned (.bool (subsM a b)) ∧ Below w.heap.size w w' := by
  have AM := Lib.hid (isamong_any b B r w hb.row hby)
  have HA := Lib.hid ha
  have HS : Hid (subsM a b = a.all fun x => b.contains x) := rfl
  clear ha hb hby
  generalize subsM a b = y at *
  go_enter Try.func10, Try.ntmps10
  go_wp2_with fail
  refine AM.out.mono ?_
  rintro e w2 ⟨⟨v, rfl, ht⟩, hb⟩
  have B2 := Lib.hid hb
  have AL := Lib.hid (all_any _ v a A q w2 ht ((HA.out.row.below hb).more hb.size) HA.out.len)
  rw [← HS.out] at AL
  clear hb ht AM HS
  go_wp2_with fail
  refine AL.out.mono ?_
  rintro e w3 ⟨rfl, hb⟩
  have B3 : Hid (Below w.heap.size w w3) := B2.out.trans (hb.mono B2.out.size)
  clear hb AL
  go_wp2
  go_ret
  exact ⟨rfl, B3.out⟩
end Go.Proofs.Ytoifogbfhlnlaaa.Cla
