/- The program's variable, cmp.Or of two numbers, the comparison that Norm sorts by, isNot and its closure, only. Condition of only: the list that it lengthens is the call's own, and holds at most 2^44 numbers with the new ones. -/
import Derived.Test.YtoifogbfhlnlaaaPt08
import Derived.Test.YtoifogbfhlnlaaaPt09
import Derived.Test.YtoifogbfhlnlaaaPt04
import Derived.Test.YtoifogbfhlnlaaaPt05
namespace Go.Proofs.Ytoifogbfhlnlaaa.Cla
open Go.ChangeShapes Go.WideShapes Go.ChangeAt Go.RowKit Go.Maps Go.Sort Circ Cw

set_option maxRecDepth 100000 in
theorem variable_any (x : Int) (w : World) : Calls Try.prog 21 #[.int .i64 x] w fun e w' => e = .returned (.int .i64 (varW x)) ∧ w' = w := by
  by_cases h : x < 0
  · have hv : varW x = wrap64 (-x) := by unfold varW; rw [if_pos h]
    rw [hv]
    clear hv
    go_enter Try.func21, Try.ntmps21
    go_wp2
    go_ret
    exact ⟨rfl, rfl⟩
  · have hv : varW x = x := by unfold varW; rw [if_neg h]
    rw [hv]
    clear hv
    go_enter Try.func21, Try.ntmps21
    go_wp2
    go_ret
    exact ⟨rfl, rfl⟩
set_option maxHeartbeats 4000000 in
set_option maxRecDepth 100000 in
/-- cmp.Or of two numbers: the first, if it is not 0, else the second -/
theorem or_any (b q : Nat) (x y : Int) (w : World) (h0 : w.cell? ⟨b, 0, none⟩ = some (.int .i64 x)) (h1 : w.cell? ⟨b, 0 + 1, none⟩ = some (.int .i64 y)) :
    Calls Try.prog 19 #[.slice (some ⟨b, 0, none⟩) 2 q] w fun e w' => e = .returned (.int .i64 (if x = 0 then y else x)) ∧ w' = w := by
  obtain ⟨z, hz⟩ : ∃ z, (if x = 0 then y else x) = z := ⟨_, rfl⟩
  rw [hz]
  have HZ := Lib.hid hz
  clear hz
  have H0 := Lib.hid h0
  have H1 := Lib.hid h1
  clear h0 h1
  go_enter Try.func19, Try.ntmps19
  go_wp2
  go_loopw [8] (fun i wr => ∃ k : Nat, k ≤ 2 ∧ i = .int .i64 k ∧ wr = w ∧ (0 < k → x = 0) ∧ (1 < k → y = 0)) (fun i _ => 2 - (intOf i).toNat)
  case atStart => exact ⟨0, by omega, rfl, rfl, fun h => absurd h (by omega), fun h => absurd h (by omega)⟩
  case round =>
    obtain ⟨k, hk, rfl, rfl, hx, hy⟩ := hrel
    have HX := Lib.hid hx
    have HY := Lib.hid hy
    clear hx hy
    rcases (by omega : k = 0 ∨ k = 1 ∨ k = 2) with rfl | rfl | rfl
    · have c0 := H0.out
      by_cases hx : x = 0
      · have hb : (x != 0) = false := by rw [hx]; rfl
        have HXX := Lib.hid hx
        clear hx
        go_wp2
        go_roundw
        case rel => exact ⟨1, by omega, by go_num, by first | trivial | rfl, fun _ => HXX.out, fun h => absurd h (by omega)⟩
        case measure => simp [intOf]
      · have hb : (x != 0) = true := by rw [bne_iff_ne]; exact hx
        have HZ2 : Hid (z = x) := by have := HZ.out; rw [if_neg hx] at this; exact this.symm
        clear hx
        go_wp2
        go_ret
        exact ⟨by rw [HZ2.out]; rfl, rfl⟩
    · have c1 := H1.out
      have HZ2 : Hid (z = y) := by have := HZ.out; rw [if_pos (HX.out (by omega))] at this; exact this.symm
      by_cases hx : y = 0
      · have hb : (y != 0) = false := by rw [hx]; rfl
        have HXX := Lib.hid hx
        clear hx
        go_wp2
        go_roundw
        case rel => exact ⟨2, by omega, by go_num, by first | trivial | rfl, fun _ => HX.out (by omega), fun _ => HXX.out⟩
        case measure => simp [intOf]
      · have hb : (y != 0) = true := by rw [bne_iff_ne]; exact hx
        clear hx
        go_wp2
        go_ret
        exact ⟨by rw [HZ2.out]; rfl, rfl⟩
    · have HZ2 : Hid (z = 0) := by have := HZ.out; rw [if_pos (HX.out (by omega)), HY.out (by omega)] at this; exact this.symm
      go_wp2
      go_ret
      exact ⟨by rw [HZ2.out]; rfl, rfl⟩
theorem two_cells (w : World) (x y : Int) : (w.alloc (.cells #[.int .i64 x, .int .i64 y] 3)).cell? ⟨w.heap.size, 0, none⟩ = some (.int .i64 x) ∧ (w.alloc (.cells #[.int .i64 x, .int .i64 y] 3)).cell? ⟨w.heap.size, 0 + 1, none⟩ = some (.int .i64 y) := by
  have hh : (w.alloc (.cells #[.int .i64 x, .int .i64 y] 3)).heap[w.heap.size]? = some (.cells #[.int .i64 x, .int .i64 y] 3 (0, 0)) := Array.getElem?_push_size
  constructor
  · rw [Lib.cell_of_heap hh]; rfl
  · rw [Lib.cell_of_heap hh]; rfl
set_option maxHeartbeats 4000000 in
set_option maxRecDepth 100000 in
/-- the comparison that Norm sorts by: it lays one block -/
theorem compare_any (x y : Int) (w : World) : Calls Try.prog 18 #[.int .i64 x, .int .i64 y] w fun e w' => e = .returned (.int .i64 (cfM x y)) ∧ ∃ q os, w' = grow (w.drewN q) os := by
  have V1 := Lib.hid (variable_any x)
  have V2 := Lib.hid (variable_any y)
  have C1 := Lib.hid (Try.cmp_Compare_int (varW x) (varW y))
  have C2 := Lib.hid (Try.cmp_Compare_int x y)
  have HC : Hid ((if Lib.compareInt (varW x) (varW y) = 0 then Lib.compareInt x y else Lib.compareInt (varW x) (varW y)) = cfM x y) := rfl
  have OR := Lib.hid (fun W : World => or_any W.heap.size 2 (Lib.compareInt (varW x) (varW y)) (Lib.compareInt x y) _ (two_cells W _ _).1 (two_cells W _ _).2)
  rw [HC.out] at OR
  clear HC
  generalize cfM x y = z at *
  generalize Lib.compareInt (varW x) (varW y) = p at *
  generalize varW x = vx at *
  generalize varW y = vy at *
  generalize Lib.compareInt x y = r at *
  go_enter Try.func18, Try.ntmps18
  go_wp2_with fail
  refine (V1.out _).mono ?_
  rintro e w' ⟨rfl, rfl⟩
  go_wp2_with fail
  refine (V2.out _).mono ?_
  rintro e w' ⟨rfl, rfl⟩
  go_wp2_with fail
  refine (C1.out _).mono ?_
  rintro e w' ⟨rfl, rfl⟩
  go_wp2_with fail
  refine (C2.out _).mono ?_
  rintro e w' ⟨rfl, rfl⟩
  go_wp2_with fail
  refine (OR.out _).mono ?_
  rintro e w' ⟨rfl, rfl⟩
  go_wp2
  go_ret
  exact ⟨rfl, 0, #[_], (alloc_eq_grow _ _)⟩
set_option maxRecDepth 100000 in
theorem isnot_any (c : Int) (w : World) : Calls Try.prog 16 #[.int .i64 c] w fun e w' => e = .returned (.func (.func 28) #[] #[.pointer (some ⟨w.heap.size, 0, none⟩)]) ∧ w' = w.alloc (.cells #[.int .i64 c] 3) := by
  go_enter Try.func16, Try.ntmps16
  go_wp2
  go_ret
  exact ⟨rfl, rfl⟩
set_option maxRecDepth 100000 in
theorem not1_any (c x : Int) (b : Nat) (w : World) (hc : w.cell? ⟨b, 0, none⟩ = some (.int .i64 c)) : Calls Try.prog 28 #[.int .i64 x, .pointer (some ⟨b, 0, none⟩)] w fun e w' => e = .returned (.bool (decide (x ≠ c))) ∧ w' = w := by
  have hd : (x != c) = decide (x ≠ c) := by
    rw [Bool.eq_iff_iff, bne_iff_ne, decide_eq_true_eq]
  have HD := Lib.hid hd
  clear hd
  go_enter Try.func28, Try.ntmps28
  go_wp2
  go_ret
  exact ⟨by rw [← HD.out]; rfl, rfl⟩
theorem one_cell {w : World} {b : Nat} {v : Value} {t : TypeId} (h : w.heap[b]? = some (.cells #[v] t (0, 0))) : w.cell? ⟨b, 0, none⟩ = some v := by
  simp [World.cell?, h]
set_option maxHeartbeats 8000000 in
set_option maxRecDepth 100000 in
theorem only_any (base : Nat) (v : Value) (xs l : List Int) (A : Option Addr) (q : Nat) (c : Int) (bx : Nat) (w : World) (ho : OwnI w base v xs) (hr : LRow w base 1 A (ints l)) (hbs : base ≤ w.heap.size) (hl : l.length ≤ 9223372036854775807)
    (hbx : w.heap[bx]? = some (.cells #[.int .i64 c] 3 (0, 0))) (hne : v.ownBlock ≠ some bx) (hby : (xs.length + l.length) * 8 ≤ 140737488355328) :
    Calls Try.prog 15 #[v, .slice A l.length q, .func (.func 28) #[] #[.pointer (some ⟨bx, 0, none⟩)]] w fun e w' => (∃ v', e = .returned v' ∧ OwnI w' base v' (xs ++ l.filter fun x => decide (x ≠ c))) ∧ Below base w w' := by
  have HR : Hid (∀ x, Below base w x → LRow x base 1 A (ints l)) := fun x hx => hr.below hx
  have H0 := Lib.hid ho
  have HBX := Lib.hid hbx
  have HNE := Lib.hid hne
  have HBS := Lib.hid hbs
  have HBY := Lib.hid hby
  have HEND : Hid (l.take l.length = l) := List.take_length
  clear ho hr hbx hne hbs hby
  go_enter Try.func15, Try.ntmps15
  go_wp2
  go_loopw [0, 11] (fun t i wr => ∃ (k : Nat) (v1 : Value), k ≤ l.length ∧ i = .int .i64 k ∧ t = v1 ∧ OwnI wr base v1 (xs ++ (l.take k).filter fun x => decide (x ≠ c)) ∧ wr.heap[bx]? = some (.cells #[.int .i64 c] 3 (0, 0)) ∧ v1.ownBlock ≠ some bx ∧ Below base w wr) (fun _ i _ => l.length - (intOf i).toNat)
  case atStart => exact ⟨0, _, Nat.zero_le _, rfl, rfl, by simpa using H0.out, HBX.out, HNE.out, Below.refl _ _⟩
  case round =>
    obtain ⟨k, v1, hk, rfl, hzv, how, hbx1, hne1, hb⟩ := hrel
    obtain rfl := hzv.symm
    clear hzv
    have HOW := Lib.hid how
    have HBX1 := Lib.hid hbx1
    have HNE1 := Lib.hid hne1
    have HB := Lib.hid hb
    have HSZ : Hid (base ≤ wr.heap.size) := Nat.le_trans HBS.out hb.size
    clear how hbx1 hne1 hb
    by_cases hlt : k < l.length
    · obtain ⟨b, o, rfl, -, hc⟩ := LRow.int (HR.out _ HB.out) hlt
      have HT : Hid (l.take (k + 1) = l.take k ++ [l[k]]) := List.take_succ_eq_append_getElem hlt
      have N1 := Lib.hid (not1_any c l[k] bx wr (one_cell HBX1.out))
      have hkz : (k : Int) < (l.length : Int) := by omega
      generalize l[k] = x at *
      by_cases hx : x = c
      · have hd : decide (x ≠ c) = false := by rw [decide_eq_false_iff_not]; exact fun h => h hx
        rw [hd] at N1
        have HN : Hid ((l.take (k + 1)).filter (fun x => decide (x ≠ c)) = (l.take k).filter fun x => decide (x ≠ c)) := by
          unfold Hid
          rw [HT.out, List.filter_append, List.filter_cons, hd]; simp
        clear hd hx HT
        go_wp2_with (go_at_call 28; refine N1.out.mono ?_; rintro e w' ⟨rfl, rfl⟩)
        go_roundw
        case rel => exact ⟨k + 1, _, by omega, by go_num, rfl, by rw [HN.out]; exact HOW.out, HBX1.out, HNE1.out, HB.out⟩
        case measure => simp [intOf]; omega
      · have hd : decide (x ≠ c) = true := by rw [decide_eq_true_eq]; exact hx
        rw [hd] at N1
        have HN : Hid (xs ++ (l.take (k + 1)).filter (fun x => decide (x ≠ c)) = (xs ++ (l.take k).filter fun x => decide (x ≠ c)) ++ [x]) := by
          unfold Hid
          rw [HT.out, List.filter_append, List.filter_cons, hd]; simp
        have HLn : Hid (((xs ++ (l.take k).filter fun x => decide (x ≠ c)).length + [x].length) * 8 ≤ 140737488355328) := by
          unfold Hid
          have h1 := List.length_filter_le (fun x => decide (x ≠ c)) (l.take k)
          have h2 := HBY.out
          rw [List.length_take] at h1
          rw [List.length_append, List.length_singleton]
          omega
        have hba : Below wr.heap.size wr (wr.alloc (.cells #[.int .i64 x] 3)) := (Below.refl _ _).alloc (Nat.le_refl _) _
        have HBB := Lib.hid hba
        have HONE := Lib.hid (one_row wr x 3)
        clear hba hd hx HT
        generalize hys : (xs ++ (l.take k).filter fun x => decide (x ≠ c)) = ys at HOW HN HLn
        clear hys
        go_wp2_with fail
        refine N1.out.mono ?_
        rintro e w' ⟨rfl, hw'⟩
        obtain rfl := hw'.symm
        go_wp2_with (at_builtin; refine wpList_app _ rfl (.tmp 18) (.tmp 20) rfl base _ v1 ys [x] rfl (HOW.out.keep HBB.out) _ 1 1 rfl rfl HONE.out HLn.out (Nat.le_trans HSZ.out HBB.out.size) ?_)
        intro v2 w3 hown2 hg2 hloc2
        rw [← HN.out] at hown2
        have HO2 := Lib.hid hown2
        have hlt3 : bx < wr.heap.size := (Array.getElem?_eq_some_iff.1 HBX1.out).1
        have HBX2 : Hid (w3.heap[bx]? = some (.cells #[.int .i64 c] 3 (0, 0))) := (hg2.block bx (Nat.lt_of_lt_of_le hlt3 HBB.out.size) (fun e => HNE1.out e.symm)).trans ((HBB.out.block bx hlt3).trans HBX1.out)
        have HNE2 : Hid (v2.ownBlock ≠ some bx) := by
          rcases hloc2 with e | e
          · rw [Hid, e]; exact HNE1.out
          · rw [Hid, e]
            have := HBB.out.size
            intro e2
            injection e2 with e2
            omega
        have HB2 : Hid (Below base w w3) := (HB.out.trans (HBB.out.mono HSZ.out)).trans (own_below (HOW.out.keep HBB.out) hg2 (Nat.le_trans HSZ.out HBB.out.size))
        clear hown2 hg2 hloc2 hc hlt3
        go_wp2
        go_roundw
        case rel => exact ⟨k + 1, v2, by omega, by go_num, rfl, HO2.out, HBX2.out, HNE2.out, HB2.out⟩
        case measure => simp [intOf]; omega
    · obtain rfl : k = l.length := by omega
      rw [HEND.out] at HOW
      go_wp2
      go_ret
      exact ⟨⟨_, rfl, HOW.out⟩, HB.out⟩
end Go.Proofs.Ytoifogbfhlnlaaa.Cla
