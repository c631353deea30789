/- The walks of package lits' functions and of its two laws; no condition. -/
import Derived.Test.YtpcahhecflkckaaChecked
import Derived.WalkKit
import Derived.ProofKit
import Derived.WalkSpells
import Derived.WalkLawsBesides
import Derived.Outline
import Derived.Lib.Hide
import Derived.Below
namespace Go.Proofs.Ytpcahhecflkckaa.Lits
open Go.ChangeShapes Go.WideShapes Go.ChangeAt Go.RowKit

theorem ret_int {k : IntKind} {a b : Int} (h : a = b) : Ending.returned (.int k a) = .returned (.int k b) := by rw [h]
theorem ret_bool {a b : Bool} (h : a = b) : Ending.returned (.bool a) = .returned (.bool b) := by rw [h]

/-- what a number counts as in the place of a literal -/
def cnt (x : Int) : Int := if x < 0 then 0 else x
/-- the opposite of a literal -/
def opp (x : Int) : Int := if x % 2 = 0 then x + 1 else x - 1
/-- the variable that Make takes -/
def vcut (v : Int) : Int := if v < 0 ∨ 1099511627776 < v then 0 else v

theorem bits_xor_i64_nat (a b : Nat) (ha : a < 9223372036854775808) (hb : b < 9223372036854775808) :
    bits .xor .i64 (a : Int) (b : Int) = ((a ^^^ b : Nat) : Int) := by
  have hx : a ^^^ b < 2 ^ 63 := Nat.xor_lt_two_pow (by omega) (by omega)
  have h1 : (BitVec.ofInt 64 (a : Int)).toNat = a := by
    rw [BitVec.ofInt_natCast, BitVec.toNat_ofNat]; exact Nat.mod_eq_of_lt (by omega)
  have h2 : (BitVec.ofInt 64 (b : Int)).toNat = b := by
    rw [BitVec.ofInt_natCast, BitVec.toNat_ofNat]; exact Nat.mod_eq_of_lt (by omega)
  show IntKind.i64.wrap ((BitVec.ofInt 64 (a : Int) ^^^ BitVec.ofInt 64 (b : Int)).toNat : Int) = _
  rw [BitVec.toNat_xor, h1, h2]
  simp [IntKind.wrap, IntKind.bits, IntKind.signed]
  omega

theorem nat_xor_one (n : Nat) : n ^^^ 1 = if n % 2 = 0 then n + 1 else n - 1 := by
  have h1 : (n ^^^ 1) / 2 = n / 2 := by rw [Nat.xor_div_two]; simp
  have h2 : (n ^^^ 1) % 2 = (n + 1) % 2 := by
    have := Nat.xor_mod_two_pow (a := n) (b := 1) (n := 1)
    rw [show (2 : Nat) ^ 1 = 2 from rfl] at this
    rcases Nat.mod_two_eq_zero_or_one n with q | q
    · rw [this, q]; simp; omega
    · rw [this, q]; simp; omega
  split <;> omega

theorem xor_one (x : Int) (h0 : 0 ≤ x) (h1 : x ≤ 9223372036854775807) : bits .xor .i64 x 1 = opp x := by
  obtain ⟨n, rfl⟩ := Int.eq_ofNat_of_zero_le h0
  have := bits_xor_i64_nat n 1 (by omega) (by omega)
  rw [show ((1 : Nat) : Int) = 1 from rfl] at this
  rw [this, nat_xor_one]
  unfold opp
  split <;> split <;> omega

theorem counted_any (x : Int) (w : World) :
    Calls Try.prog 10 #[.int .i64 x] w fun e w' => e = .returned (.int .i64 (cnt x)) ∧ w = w' := by
  unfold cnt
  by_cases h : x < 0
  · go_enter Try.func10, Try.ntmps10
    go_wp2
    go_ret
    exact ⟨rfl, rfl⟩
  · go_enter Try.func10, Try.ntmps10
    go_wp2
    go_ret
    exact ⟨rfl, rfl⟩

theorem cnt_bd (x : Int) (h1 : x ≤ 9223372036854775807) : 0 ≤ cnt x ∧ cnt x ≤ 9223372036854775807 := by unfold cnt; split <;> omega

theorem var_any (x : Int) (w : World) (h1 : x ≤ 9223372036854775807) :
    Calls Try.prog 6 #[.int .i64 x] w fun e w' => e = .returned (.int .i64 (cnt x / 2)) ∧ w = w' := by
  obtain ⟨b0, b1⟩ := cnt_bd x h1
  go_enter Try.func6, Try.ntmps6
  go_wp2_with (go_at_call 10; refine (counted_any _ _).mono ?_; rintro e w' ⟨rfl, rfl⟩)
  go_ret
  exact ⟨rfl, rfl⟩

theorem neg_any (x : Int) (w : World) (h1 : x ≤ 9223372036854775807) :
    Calls Try.prog 7 #[.int .i64 x] w fun e w' => e = .returned (.bool (decide (cnt x % 2 = 1))) ∧ w = w' := by
  obtain ⟨b0, b1⟩ := cnt_bd x h1
  go_enter Try.func7, Try.ntmps7
  go_wp2_with (go_at_call 10; refine (counted_any _ _).mono ?_; rintro e w' ⟨rfl, rfl⟩)
  go_ret
  exact ⟨ret_bool (by simp [Bool.beq_eq_decide_eq]), rfl⟩

theorem not_any (x : Int) (w : World) (h1 : x ≤ 9223372036854775807) :
    Calls Try.prog 8 #[.int .i64 x] w fun e w' => e = .returned (.int .i64 (opp (cnt x))) ∧ w = w' := by
  obtain ⟨b0, b1⟩ := cnt_bd x h1
  have hx := xor_one _ b0 b1
  go_enter Try.func8, Try.ntmps8
  go_wp2_with (go_at_call 10; refine (counted_any _ _).mono ?_; rintro e w' ⟨rfl, rfl⟩)
  go_ret
  exact ⟨rfl, rfl⟩

theorem make_any (v : Int) (neg : Bool) (w : World) :
    Calls Try.prog 9 #[.int .i64 v, .bool neg] w fun e w' => e = .returned (.int .i64 (2 * vcut v + if neg then 1 else 0)) ∧ w = w' := by
  unfold vcut
  rcases (show v < 0 ∨ (¬ v < 0 ∧ 1099511627776 < v) ∨ (¬ v < 0 ∧ ¬ 1099511627776 < v) from by omega) with h | ⟨h, h'⟩ | ⟨h, h'⟩
  · cases neg
    all_goals
      go_enter Try.func9, Try.ntmps9
      go_wp2
      go_ret
      exact ⟨rfl, rfl⟩
  · cases neg
    all_goals
      go_enter Try.func9, Try.ntmps9
      go_wp2
      go_ret
      exact ⟨rfl, rfl⟩
  · cases neg
    all_goals
      go_enter Try.func9, Try.ntmps9
      go_wp2
      go_ret
      exact ⟨rfl, rfl⟩

theorem alive_any (w : World) :
    Calls Try.prog 5 #[] w fun e w' => e = .returned (.bool true) ∧ w = w' := by
  have h1 : ∀ w, Calls Try.prog 8 #[.int .i64 6] w fun e w' => e = .returned (.int .i64 7) ∧ w = w' := fun w => not_any 6 w (by decide)
  have h2 : ∀ w, Calls Try.prog 6 #[.int .i64 7] w fun e w' => e = .returned (.int .i64 3) ∧ w = w' := fun w => var_any 7 w (by decide)
  have H1 := Lib.hid h1
  have H2 := Lib.hid h2
  clear h1 h2
  go_enter Try.func5, Try.ntmps5
  go_wp2_with (first
    | (go_at_call 8; refine (H1.out _).mono ?_; rintro e w' ⟨rfl, rfl⟩)
    | (go_at_call 6; refine (H2.out _).mono ?_; rintro e w' ⟨rfl, rfl⟩))
  go_ret
  exact ⟨rfl, rfl⟩

/-- the calls of one literal -/
theorem var_at (x r : Int) (h1 : x ≤ 9223372036854775807) (h : cnt x / 2 = r) (w : World) :
    Calls Try.prog 6 #[.int .i64 x] w fun e w' => e = .returned (.int .i64 r) ∧ w = w' := by subst h; exact var_any x w h1
theorem neg_at (x : Int) (b : Bool) (h1 : x ≤ 9223372036854775807) (h : decide (cnt x % 2 = 1) = b) (w : World) :
    Calls Try.prog 7 #[.int .i64 x] w fun e w' => e = .returned (.bool b) ∧ w = w' := by subst h; exact neg_any x w h1
theorem not_at (x r : Int) (h1 : x ≤ 9223372036854775807) (h : opp (cnt x) = r) (w : World) :
    Calls Try.prog 8 #[.int .i64 x] w fun e w' => e = .returned (.int .i64 r) ∧ w = w' := by subst h; exact not_any x w h1
theorem make_at (v : Int) (b : Bool) (r : Int) (h : 2 * vcut v + (if b then 1 else 0) = r) (w : World) :
    Calls Try.prog 9 #[.int .i64 v, .bool b] w fun e w' => e = .returned (.int .i64 r) ∧ w = w' := by subst h; exact make_any v b w

set_option maxHeartbeats 400000 in
theorem back_any (x : Int) (h0 : -9223372036854775808 ≤ x) (h1 : x ≤ 9223372036854775807) (w : World) :
    Calls Try.prog 3 #[.int .i64 x] w fun e w' => e = .returned (.bool true) ∧ w = w' := by
  by_cases hn : x < 0
  · have c0 : cnt x = 0 := if_pos hn
    have V := Lib.hid (var_at x 0 h1 (by rw [c0]; rfl))
    have N := Lib.hid (neg_at x false h1 (by rw [c0]; rfl))
    have T := Lib.hid (not_at x 1 h1 (by rw [c0]; rfl))
    clear c0
    go_enter Try.func3, Try.ntmps3
    go_wp2_with (first
      | (go_at_call 5; refine (alive_any _).mono ?_; rintro e w' ⟨rfl, rfl⟩)
      | (go_at_call 6; refine (V.out _).mono ?_; rintro e w' ⟨rfl, rfl⟩)
      | (go_at_call 7; refine (N.out _).mono ?_; rintro e w' ⟨rfl, rfl⟩)
      | (go_at_call 8; refine (T.out _).mono ?_; rintro e w' ⟨rfl, rfl⟩))
    go_ret
    exact ⟨rfl, rfl⟩
  · have c0 : cnt x = x := if_neg hn
    have o0 : 0 ≤ opp x ∧ opp x ≤ 9223372036854775807 ∧ opp x / 2 = x / 2 ∧ opp (opp x) = x ∧ decide (opp x % 2 = 1) = !decide (x % 2 = 1) := by
      refine ⟨?_, ?_, ?_, ?_, ?_⟩
      · unfold opp; split <;> omega
      · unfold opp; split <;> omega
      · unfold opp; split <;> omega
      · unfold opp; split <;> split <;> omega
      · rw [Bool.eq_iff_iff]; unfold opp; split <;> simp <;> omega
    obtain ⟨y, hy⟩ : ∃ y, y = opp x := ⟨_, rfl⟩
    obtain ⟨b, hb⟩ : ∃ b, b = decide (x % 2 = 1) := ⟨_, rfl⟩
    obtain ⟨v, hv⟩ : ∃ v, v = x / 2 := ⟨_, rfl⟩
    rw [← hy, ← hb, ← hv] at o0
    obtain ⟨y0, y1, y2, y3, y4⟩ := o0
    have d0 : cnt y = y := if_neg (by omega)
    have V := Lib.hid (var_at x v h1 (by rw [c0, hv]))
    have N := Lib.hid (neg_at x b h1 (by rw [c0, hb]))
    have T := Lib.hid (not_at x y h1 (by rw [c0, hy]))
    have V' := Lib.hid (var_at y v y1 (by rw [d0, y2]))
    have N' := Lib.hid (neg_at y (!b) y1 (by rw [d0, y4]))
    have T' := Lib.hid (not_at y x y1 (by rw [d0, y3]))
    have M : Hid (x ≤ 2199023255552 → ∀ w, Calls Try.prog 9 #[.int .i64 v, .bool b] w fun e w' => e = .returned (.int .i64 x) ∧ w = w') := fun hx => make_at v b x (by
      unfold vcut; rw [if_neg (by omega), hb]; by_cases q : x % 2 = 1
      · simp [q]; omega
      · simp [q]; omega)
    have hn' : 0 ≤ x := by omega
    clear c0 d0 y2 y3 y4 hy hb hv hn
    by_cases hx : x ≤ 2199023255552
    · have M' := Lib.hid (M.out hx)
      clear M
      cases b
      all_goals
        go_enter Try.func3, Try.ntmps3
        go_wp2_with (first
          | (go_at_call 5; refine (alive_any _).mono ?_; rintro e w' ⟨rfl, rfl⟩)
          | (go_at_call 6; ((with_reducible refine (V.out _).mono ?_); rintro e w' ⟨rfl, rfl⟩))
          | (go_at_call 7; ((with_reducible refine (N.out _).mono ?_); rintro e w' ⟨rfl, rfl⟩))
          | (go_at_call 8; ((with_reducible refine (T.out _).mono ?_); rintro e w' ⟨rfl, rfl⟩))
          | (go_at_call 6; ((with_reducible refine (V'.out _).mono ?_); rintro e w' ⟨rfl, rfl⟩))
          | (go_at_call 7; ((with_reducible refine (N'.out _).mono ?_); rintro e w' ⟨rfl, rfl⟩))
          | (go_at_call 8; ((with_reducible refine (T'.out _).mono ?_); rintro e w' ⟨rfl, rfl⟩))
          | (go_at_call 9; ((with_reducible refine (M'.out _).mono ?_); rintro e w' ⟨rfl, rfl⟩)))
        go_ret
        exact ⟨rfl, rfl⟩
    · clear M
      cases b
      all_goals
        go_enter Try.func3, Try.ntmps3
        go_wp2_with (first
          | (go_at_call 5; refine (alive_any _).mono ?_; rintro e w' ⟨rfl, rfl⟩)
          | (go_at_call 6; ((with_reducible refine (V.out _).mono ?_); rintro e w' ⟨rfl, rfl⟩))
          | (go_at_call 7; ((with_reducible refine (N.out _).mono ?_); rintro e w' ⟨rfl, rfl⟩))
          | (go_at_call 8; ((with_reducible refine (T.out _).mono ?_); rintro e w' ⟨rfl, rfl⟩))
          | (go_at_call 6; ((with_reducible refine (V'.out _).mono ?_); rintro e w' ⟨rfl, rfl⟩))
          | (go_at_call 7; ((with_reducible refine (N'.out _).mono ?_); rintro e w' ⟨rfl, rfl⟩))
          | (go_at_call 8; ((with_reducible refine (T'.out _).mono ?_); rintro e w' ⟨rfl, rfl⟩)))
        go_ret
        exact ⟨rfl, rfl⟩

set_option maxHeartbeats 400000 in
theorem makes_any (v : Int) (neg : Bool) (w : World) :
    Calls Try.prog 4 #[.int .i64 v, .bool neg] w fun e w' => e = .returned (.bool true) ∧ w = w' := by
  rcases (show v < 0 ∨ (¬ v < 0 ∧ 1099511627776 < v) ∨ (¬ v < 0 ∧ ¬ 1099511627776 < v) from by omega) with h | ⟨h, h'⟩ | ⟨h, h'⟩
  · cases neg
    · have M := Lib.hid (make_at v false 0 (by unfold vcut; rw [if_pos (Or.inl h)]; rfl))
      go_enter Try.func4, Try.ntmps4
      go_wp2_with (first
        | (go_at_call 5; refine (alive_any _).mono ?_; rintro e w' ⟨rfl, rfl⟩)
        | (go_at_call 9; ((with_reducible refine (M.out _).mono ?_); rintro e w' ⟨rfl, rfl⟩)))
      go_ret
      exact ⟨rfl, rfl⟩
    · have M := Lib.hid (make_at v true 1 (by unfold vcut; rw [if_pos (Or.inl h)]; rfl))
      go_enter Try.func4, Try.ntmps4
      go_wp2_with (first
        | (go_at_call 5; refine (alive_any _).mono ?_; rintro e w' ⟨rfl, rfl⟩)
        | (go_at_call 9; ((with_reducible refine (M.out _).mono ?_); rintro e w' ⟨rfl, rfl⟩)))
      go_ret
      exact ⟨rfl, rfl⟩
  · cases neg
    · have M := Lib.hid (make_at v false 0 (by unfold vcut; rw [if_pos (Or.inr h')]; rfl))
      go_enter Try.func4, Try.ntmps4
      go_wp2_with (first
        | (go_at_call 5; refine (alive_any _).mono ?_; rintro e w' ⟨rfl, rfl⟩)
        | (go_at_call 9; ((with_reducible refine (M.out _).mono ?_); rintro e w' ⟨rfl, rfl⟩)))
      go_ret
      exact ⟨rfl, rfl⟩
    · have M := Lib.hid (make_at v true 1 (by unfold vcut; rw [if_pos (Or.inr h')]; rfl))
      go_enter Try.func4, Try.ntmps4
      go_wp2_with (first
        | (go_at_call 5; refine (alive_any _).mono ?_; rintro e w' ⟨rfl, rfl⟩)
        | (go_at_call 9; ((with_reducible refine (M.out _).mono ?_); rintro e w' ⟨rfl, rfl⟩)))
      go_ret
      exact ⟨rfl, rfl⟩
  · obtain ⟨l, hl⟩ : ∃ l, l = 2 * v + if neg then 1 else 0 := ⟨_, rfl⟩
    have l01 : 0 ≤ l ∧ l ≤ 2199023255553 := by rw [hl]; cases neg <;> simp <;> omega
    obtain ⟨l0, l1⟩ := l01
    have c0 : cnt l = l := if_neg (by omega)
    have M := Lib.hid (make_at v neg l (by unfold vcut; rw [if_neg (by omega), hl]))
    have V := Lib.hid (var_at l v (by omega) (by rw [c0, hl]; cases neg <;> simp <;> omega))
    have N := Lib.hid (neg_at l neg (by omega) (by rw [c0, hl]; cases neg <;> simp <;> omega))
    clear c0 hl
    cases neg
    all_goals
      go_enter Try.func4, Try.ntmps4
      go_wp2_with (first
        | (go_at_call 5; refine (alive_any _).mono ?_; rintro e w' ⟨rfl, rfl⟩)
        | (go_at_call 6; ((with_reducible refine (V.out _).mono ?_); rintro e w' ⟨rfl, rfl⟩))
        | (go_at_call 7; ((with_reducible refine (N.out _).mono ?_); rintro e w' ⟨rfl, rfl⟩))
        | (go_at_call 9; ((with_reducible refine (M.out _).mono ?_); rintro e w' ⟨rfl, rfl⟩)))
      go_ret
      exact ⟨rfl, rfl⟩

theorem back_law (W : World) (x : Int) (h0 : -9223372036854775808 ≤ x) (h1 : x ≤ 9223372036854775807) :
    Calls Try.prog 3 #[.int .i64 x] W fun e W' => e = .returned (.bool true) ∧ Below W.heap.size W W' :=
  (back_any x h0 h1 W).mono fun _ _ ⟨he, hw⟩ => ⟨he, hw ▸ Below.refl _ _⟩
theorem makes_law (W : World) (v : Int) (_ : -9223372036854775808 ≤ v) (_ : v ≤ 9223372036854775807) (neg : Bool) :
    Calls Try.prog 4 #[.int .i64 v, .bool neg] W fun e W' => e = .returned (.bool true) ∧ Below W.heap.size W W' :=
  (makes_any v neg W).mono fun _ _ ⟨he, hw⟩ => ⟨he, hw ▸ Below.refl _ _⟩
end Go.Proofs.Ytpcahhecflkckaa.Lits
