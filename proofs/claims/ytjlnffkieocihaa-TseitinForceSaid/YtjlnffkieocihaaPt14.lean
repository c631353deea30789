/- What strash asks of literals, and a look by halves, walked; no condition. -/
import Derived.Test.YtjlnffkieocihaaPt02
import Derived.Test.YtjlnffkieocihaaPt12
import Derived.Test.YtjlnffkieocihaaPt08
namespace Go.Proofs.Ytjlnffkieocihaa.Str
open Go.ChangeShapes Go.WideShapes Go.ChangeAt Go.RowKit Circ Cw

theorem bits_xor_i64_nat (a b : Nat) (ha : a < 9223372036854775808) (hb : b < 9223372036854775808) :
    bits .xor .i64 (a : Int) (b : Int) = ((a ^^^ b : Nat) : Int) := by
  have hx : a ^^^ b < 2 ^ 63 := Nat.xor_lt_two_pow (by omega) (by omega)
  have h1 : (BitVec.ofInt 64 (a : Int)).toNat = a := by
    rw [BitVec.ofInt_natCast, BitVec.toNat_ofNat]; exact Nat.mod_eq_of_lt (by omega)
  have h2 : (BitVec.ofInt 64 (b : Int)).toNat = b := by
    rw [BitVec.ofInt_natCast, BitVec.toNat_ofNat]; exact Nat.mod_eq_of_lt (by omega)
  show IntKind.i64.wrap ((BitVec.ofInt 64 (a : Int) ^^^ BitVec.ofInt 64 (b : Int)).toNat : Int) = _
  rw [BitVec.toNat_xor, h1, h2]
  simp [IntKind.wrap, IntKind.bits, IntKind.signed]
  omega

theorem nat_xor_one (n : Nat) : n ^^^ 1 = if n % 2 = 0 then n + 1 else n - 1 := by
  have h1 : (n ^^^ 1) / 2 = n / 2 := by rw [Nat.xor_div_two]; simp
  have h2 : (n ^^^ 1) % 2 = (n + 1) % 2 := by
    have := Nat.xor_mod_two_pow (a := n) (b := 1) (n := 1)
    rw [show (2 : Nat) ^ 1 = 2 from rfl] at this
    rcases Nat.mod_two_eq_zero_or_one n with q | q
    · rw [this, q]; simp; omega
    · rw [this, q]; simp; omega
  split <;> omega

theorem xor_one (x : Int) (h0 : 0 ≤ x) (h1 : x ≤ 9223372036854775807) : bits .xor .i64 x 1 = opp x := by
  obtain ⟨n, rfl⟩ := Int.eq_ofNat_of_zero_le h0
  have := bits_xor_i64_nat n 1 (by omega) (by omega)
  rw [show ((1 : Nat) : Int) = 1 from rfl] at this
  rw [this, nat_xor_one]
  unfold opp
  split <;> split <;> omega

theorem not_any (x : Int) (w : World) (h1 : x ≤ 9223372036854775807) :
    Calls Try.prog 56 #[.int .i64 x] w fun e w' => e = .returned (.int .i64 (opp (cnt x))) ∧ w = w' := by
  obtain ⟨b0, b1⟩ := cnt_bd x h1
  have hx := xor_one _ b0 b1
  go_enter Try.func56, Try.ntmps56
  go_wp2_with (go_at_call 99; refine (counted_any _ _).mono ?_; rintro e w' ⟨rfl, rfl⟩)
  go_ret
  exact ⟨rfl, rfl⟩
theorem scounted_any (x : Int) (w : World) :
    Calls Try.prog 55 #[.int .i64 x] w fun e w' => e = .returned (.int .i64 (cnt x)) ∧ w = w' := by
  unfold cnt
  by_cases h : x < 0
  · have hm : max x 0 = 0 := by omega
    go_enter Try.func55, Try.ntmps55
    go_wp2
    go_ret
    exact ⟨rfl, rfl⟩
  · have hm : max x 0 = x := by omega
    go_enter Try.func55, Try.ntmps55
    go_wp2
    go_ret
    exact ⟨rfl, rfl⟩
set_option maxHeartbeats 4000000 in
theorem plain_any (a b : Int) (ha : I64 a) (hb : I64 b) (w : World) :
    Calls Try.prog 20 #[.int .i64 a, .int .i64 b] w fun e w' => e = .returned (.tuple #[.int .i64 ((plainM a b).getD 0), .bool (plainM a b).isSome]) ∧ w = w' := by
  obtain ⟨y0, y1⟩ := cnt_bd b hb.2
  obtain ⟨x0, x1⟩ := cnt_bd a ha.2
  have CA := Lib.hid (scounted_any a w)
  have CB := Lib.hid (scounted_any b w)
  have NB := Lib.hid (not_any (cnt b) w y1)
  rw [cnt_pos (cnt b) y0] at NB
  unfold plainM
  generalize cnt a = x at *
  generalize cnt b = y at *
  obtain ⟨z, hz⟩ : ∃ z, z = opp y := ⟨_, rfl⟩
  rw [← hz] at NB ⊢
  have z1 : z ≠ y := by rw [hz]; unfold opp; split <;> omega
  clear hz ha hb
  go_enter Try.func20, Try.ntmps20
  go_wp2_with fail
  refine CA.out.mono ?_
  rintro e w' ⟨rfl, rfl⟩
  go_wp2_with fail
  refine CB.out.mono ?_
  rintro e w' ⟨rfl, rfl⟩
  by_cases h0 : x = 0
  · subst h0
    go_wp2
    go_ret2
    exact ⟨by simp, rfl⟩
  by_cases h1 : y = 0
  · subst h1
    have d0 : (x == 0) = false := by simpa using h0
    go_wp2
    go_ret2
    exact ⟨by simp, rfl⟩
  have d0 : (x == 0) = false := by simpa using h0
  have d1 : (y == 0) = false := by simpa using h1
  by_cases h2 : x = z
  · subst h2
    go_wp2_with fail
    refine NB.out.mono ?_
    rintro e w' ⟨rfl, rfl⟩
    go_wp2
    go_ret2
    exact ⟨by simp, rfl⟩
  have d2 : (x == z) = false := by simpa using h2
  go_wp2_with fail
  refine NB.out.mono ?_
  rintro e w' ⟨rfl, rfl⟩
  by_cases h3 : x = 1
  · subst h3
    go_wp2
    go_ret2
    exact ⟨by simp, rfl⟩
  have d3 : (x == 1) = false := by simpa using h3
  by_cases h4 : x = y
  · subst h4
    go_wp2
    go_ret2
    exact ⟨by simp, rfl⟩
  have d4 : (x == y) = false := by simpa using h4
  by_cases h5 : y = 1
  · subst h5
    go_wp2
    go_ret2
    exact ⟨by simp, rfl⟩
  have d5 : (y == 1) = false := by simpa using h5
  go_wp2
  go_ret2
  exact ⟨by simp, rfl⟩
end Go.Proofs.Ytjlnffkieocihaa.Str
