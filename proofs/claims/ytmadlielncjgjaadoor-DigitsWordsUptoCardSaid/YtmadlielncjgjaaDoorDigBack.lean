/- The walk of the law DigitsBack: every int comes back from its decimals, or is refused; the table of powers of ten is there. -/
import Derived.Test.YtmadlielncjgjaaDoorDigWalks
import Derived.Test.YtmadlielncjgjaaDoorFrame
namespace Go.Proofs.YtmadlielncjgjaaDoor.Dig
open Go.ChangeShapes Go.WideShapes Go.ChangeAt Go.RowKit

theorem itoa_12 : Lib.itoa (-12) = [45, 49, 50] := by
  have : Lib.decDigits 12 = [49, 50] := by rw [Lib.decDigits_two (by omega) (by omega)]; rfl
  unfold Lib.itoa
  rw [if_pos (by omega)]
  exact congrArg _ this

theorem num_any (n : Int) (w : World) : Calls Tryd.prog 9 #[.int .i64 n] w fun e w' => e = .returned (.int .i64 n) ∧ w = w' := by
  go_enter Tryd.func9, Tryd.ntmps9
  go_wp2
  go_ret
  exact ⟨rfl, rfl⟩

set_option maxHeartbeats 400000 in
theorem alive_any (w : World) (htab : Tab w) :
    Calls Tryd.prog 6 #[] w fun e w' => e = .returned (.bool true) ∧ Below w.heap.size w w' := by
  have hp : ∀ w : World, Calls Tryd.prog 7 #[.string ⟨#[48, 55]⟩] w fun e w' => e = .returned (.tuple #[.int .i64 0, .int .i64 33]) ∧ Below w.heap.size w w' := fun w =>
    (parse_any ⟨#[48, 55]⟩ w (by decide)).mono fun e w' ⟨he, hb⟩ => ⟨by rw [he]; show Ending.returned (parseOut [48, 55]) = _; unfold parseOut; rw [parse_07], hb⟩
  have HP := Lib.hid hp
  have HT := Lib.hid htab
  have h12 := itoa_12
  have H12 := Lib.hid h12
  clear hp htab h12
  go_enter Tryd.func6, Tryd.ntmps6
  go_wp2_with fail
  refine (HP.out _).mono ?_
  rintro e w1 ⟨rfl, hb⟩
  go_wp2_with (first
    | (go_at_call 9; refine (num_any _ _).mono ?_; rintro e w' ⟨rfl, rfl⟩)
    | (go_at_call 8; refine (print_any (-12) (by omega) (by omega) w1 (HT.out _ hb)).mono ?_; rw [H12.out]; rintro e w2 ⟨rfl, hb2⟩))
  go_ret
  exact ⟨rfl, hb.trans (hb2.mono hb.size)⟩

/-- Parse of a numeral -/
theorem parse_back (n : Int) (w : World) (hs : (Lib.itoa n).length ≤ maxLen) :
    Calls Tryd.prog 7 #[.string ⟨(Lib.itoa n).toArray⟩] w fun e w' => e = .returned (.tuple #[.int .i64 (if -1099511627776 ≤ n ∧ n ≤ 1099511627776 then n else 0), .int .i64 (if -1099511627776 ≤ n ∧ n ≤ 1099511627776 then 0 else 4)]) ∧ Below w.heap.size w w' :=
  (parse_any ⟨(Lib.itoa n).toArray⟩ w hs).mono fun e w' ⟨he, hb⟩ => ⟨by
    rw [he]
    show Ending.returned (parseOut (Lib.itoa n)) = _
    unfold parseOut
    rw [parse_itoa, show ((far : Nat) : Int) = 1099511627776 from rfl]
    by_cases h : -1099511627776 ≤ n ∧ n ≤ 1099511627776
    · rw [if_pos h, if_pos h, if_pos h]
    · rw [if_neg h, if_neg h, if_neg h], hb⟩

theorem itoa_len (n : Int) (h0 : -9223372036854775808 ≤ n) (h1 : n ≤ 9223372036854775807) : (Lib.itoa n).length ≤ 21 := by
  have h : ∀ u : Nat, u < 10 ^ 20 → (Lib.decDigits u).length ≤ 20 := fun u hu => by
    rw [Lib.decDigits_length]
    rcases Nat.lt_or_ge 20 (Lib.nDigits u) with h | h
    · exfalso
      have : ∀ k u : Nat, k + 1 ≤ Lib.nDigits u → 10 ^ k ≤ u ∨ k = 0 := by
        intro k
        induction k with
        | zero => intro u _; exact .inr rfl
        | succ k ih =>
          intro u hu
          left
          by_cases hs : u < 10
          · rw [Lib.nDigits_small hs] at hu; omega
          · rw [Lib.nDigits_big hs] at hu
            have := ih (u / 10) (by omega)
            rw [Nat.pow_succ]
            rcases this with h | h
            · omega
            · subst h; omega
      rcases this 20 u (by omega) with h | h
      · omega
      · omega
    · exact h
  unfold Lib.itoa
  split
  · simp only [List.length_cons]; have := h n.natAbs (by omega); omega
  · have := h n.toNat (by omega); omega

set_option maxHeartbeats 400000 in
theorem back_any (n : Int) (h0 : -9223372036854775808 ≤ n) (h1 : n ≤ 9223372036854775807) (w : World) (htab : Tab w) :
    Calls Tryd.prog 3 #[.int .i64 n] w fun e w' => e = .returned (.bool true) ∧ Below w.heap.size w w' := by
  have hal := alive_any w htab
  have hlen := itoa_len n h0 h1
  have hpb : ∀ w : World, _ := fun w => parse_back n w (by unfold maxLen; omega)
  have HA := Lib.hid hal
  have HT := Lib.hid htab
  have HP := Lib.hid hpb
  clear hal htab hpb
  by_cases hr : -1099511627776 ≤ n ∧ n ≤ 1099511627776
  · have HP' : Hid (∀ w : World, Calls Tryd.prog 7 #[.string ⟨(Lib.itoa n).toArray⟩] w fun e w' => e = .returned (.tuple #[.int .i64 n, .int .i64 0]) ∧ Below w.heap.size w w') := fun w => by
      have := HP.out w; rw [if_pos hr, if_pos hr] at this; exact this
    clear HP
    obtain ⟨r1, r2⟩ := hr
    have t1 : ¬ n < -1099511627776 := by omega
    have t2 : ¬ 1099511627776 < n := by omega
    go_enter Tryd.func3, Tryd.ntmps3
    go_wp2_with fail
    refine HA.out.mono ?_
    rintro e w1 ⟨rfl, hb⟩
    go_wp2_with fail
    refine (print_any n h0 h1 w1 (HT.out _ hb)).mono ?_
    rintro e w2 ⟨rfl, hb2⟩
    go_wp2_with fail
    refine (HP'.out w2).mono ?_
    rintro e w3 ⟨rfl, hb3⟩
    go_wp2_with (go_at_call 9; refine (num_any _ _).mono ?_; rintro e w' ⟨rfl, rfl⟩)
    go_ret
    exact ⟨rfl, (hb.trans (hb2.mono hb.size)).trans (hb3.mono (Nat.le_trans hb.size hb2.size))⟩
  · have HP' : Hid (∀ w : World, Calls Tryd.prog 7 #[.string ⟨(Lib.itoa n).toArray⟩] w fun e w' => e = .returned (.tuple #[.int .i64 0, .int .i64 4]) ∧ Below w.heap.size w w') := fun w => by
      have := HP.out w; rw [if_neg hr, if_neg hr] at this; exact this
    clear HP
    rcases (show n < -1099511627776 ∨ (¬ n < -1099511627776 ∧ 1099511627776 < n) from by omega) with t1 | ⟨t1, t2⟩
    all_goals
      clear hr
      go_enter Tryd.func3, Tryd.ntmps3
      go_wp2_with fail
      refine HA.out.mono ?_
      rintro e w1 ⟨rfl, hb⟩
      go_wp2_with fail
      refine (print_any n h0 h1 w1 (HT.out _ hb)).mono ?_
      rintro e w2 ⟨rfl, hb2⟩
      go_wp2_with fail
      refine (HP'.out w2).mono ?_
      rintro e w3 ⟨rfl, hb3⟩
      go_wp2_with (go_at_call 9; refine (num_any _ _).mono ?_; rintro e w' ⟨rfl, rfl⟩)
      go_ret
      exact ⟨rfl, (hb.trans (hb2.mono hb.size)).trans (hb3.mono (Nat.le_trans hb.size hb2.size))⟩

theorem g0 : Tryd.prog.globalNamed "internal/strconv.uint64pow10" = some 0 := by kernel_rfl
theorem g0type : (Tryd.prog.globals[0]?).map (·.type) = some 69 := by kernel_rfl
theorem cells20 : Tryd.prog.cellsOf 69 = 20 := by kernel_rfl
theorem cells1 : Tryd.prog.cellsOf 61 = 1 := by kernel_rfl

/-- what the row's list gives -/
theorem tab_of {W : World} (h : laidMetH Tryd.prog Rows.digitsBackRow.laid W) : Tab W := by
  have h1 : laidMet Tryd.prog Rows.digitsBackRow.laid W := h
  have ht : Lib.TabIs Tryd.prog W "internal/strconv.uint64pow10" .u64 Lib.pow10Tab :=
    Lib.tabIs_of_head (rest := []) g0 g0type Tryd.underlying69 Tryd.underlying61 cells1 cells20 (Frame.laid_tail (Frame.laid_tail h1))
  have hc := ht.cell g0 0 (by decide)
  have hlt : 0 < W.heap.size := by
    rcases Nat.lt_or_ge 0 W.heap.size with h | h
    · exact h
    · unfold World.cell? at hc; rw [Array.getElem?_eq_none h] at hc; cases hc
  intro w' hb
  exact var?_below hb g0 hlt ht

theorem back_core (W : World) (n : Int) (h0 : -9223372036854775808 ≤ n) (h1 : n ≤ 9223372036854775807) (hL : laidMetH Tryd.prog Rows.digitsBackRow.laid W) :
    Calls Tryd.prog 3 #[.int .i64 n] W fun e w' => e = .returned (.bool true) ∧ Below W.heap.size W w' := back_any n h0 h1 W (tab_of hL)
end Go.Proofs.YtmadlielncjgjaaDoor.Dig
