/- What strash asks of literals, and a look by halves, walked; no condition. What stands for a literal, walked; no condition. -/
import Derived.Test.YtpaneggajjgdlaaPk00
import Derived.Test.YtpaneggajjgdlaaPk04
namespace Go.Proofs.Ytpaneggajjgdlaa.Str
open Go.ChangeShapes Go.WideShapes Go.ChangeAt Go.RowKit Circ Cw

theorem bits_xor_i64_nat (a b : Nat) (ha : a < 9223372036854775808) (hb : b < 9223372036854775808) :
    bits .xor .i64 (a : Int) (b : Int) = ((a ^^^ b : Nat) : Int) := by
  have hx : a ^^^ b < 2 ^ 63 := Nat.xor_lt_two_pow (by omega) (by omega)
  have h1 : (BitVec.ofInt 64 (a : Int)).toNat = a := by
    rw [BitVec.ofInt_natCast, BitVec.toNat_ofNat]; exact Nat.mod_eq_of_lt (by omega)
  have h2 : (BitVec.ofInt 64 (b : Int)).toNat = b := by
    rw [BitVec.ofInt_natCast, BitVec.toNat_ofNat]; exact Nat.mod_eq_of_lt (by omega)
  show IntKind.i64.wrap ((BitVec.ofInt 64 (a : Int) ^^^ BitVec.ofInt 64 (b : Int)).toNat : Int) = _
  rw [BitVec.toNat_xor, h1, h2]
  simp [IntKind.wrap, IntKind.bits, IntKind.signed]
  omega

theorem nat_xor_one (n : Nat) : n ^^^ 1 = if n % 2 = 0 then n + 1 else n - 1 := by
  have h1 : (n ^^^ 1) / 2 = n / 2 := by rw [Nat.xor_div_two]; simp
  have h2 : (n ^^^ 1) % 2 = (n + 1) % 2 := by
    have := Nat.xor_mod_two_pow (a := n) (b := 1) (n := 1)
    rw [show (2 : Nat) ^ 1 = 2 from rfl] at this
    rcases Nat.mod_two_eq_zero_or_one n with q | q
    · rw [this, q]; simp; omega
    · rw [this, q]; simp; omega
  split <;> omega

theorem xor_one (x : Int) (h0 : 0 ≤ x) (h1 : x ≤ 9223372036854775807) : bits .xor .i64 x 1 = opp x := by
  obtain ⟨n, rfl⟩ := Int.eq_ofNat_of_zero_le h0
  have := bits_xor_i64_nat n 1 (by omega) (by omega)
  rw [show ((1 : Nat) : Int) = 1 from rfl] at this
  rw [this, nat_xor_one]
  unfold opp
  split <;> split <;> omega

theorem not_any (x : Int) (w : World) (h1 : x ≤ 9223372036854775807) :
    Calls Try.prog 44 #[.int .i64 x] w fun e w' => e = .returned (.int .i64 (opp (cnt x))) ∧ w = w' := by
  obtain ⟨b0, b1⟩ := cnt_bd x h1
  have hx := xor_one _ b0 b1
  go_enter Try.func44, Try.ntmps44
  go_wp2_with (go_at_call 81; refine (counted_any _ _).mono ?_; rintro e w' ⟨rfl, rfl⟩)
  go_ret
  exact ⟨rfl, rfl⟩
theorem scounted_any (x : Int) (w : World) :
    Calls Try.prog 43 #[.int .i64 x] w fun e w' => e = .returned (.int .i64 (cnt x)) ∧ w = w' := by
  unfold cnt
  by_cases h : x < 0
  · have hm : max x 0 = 0 := by omega
    go_enter Try.func43, Try.ntmps43
    go_wp2
    go_ret
    exact ⟨rfl, rfl⟩
  · have hm : max x 0 = x := by omega
    go_enter Try.func43, Try.ntmps43
    go_wp2
    go_ret
    exact ⟨rfl, rfl⟩
set_option maxHeartbeats 4000000 in
theorem plain_any (a b : Int) (ha : I64 a) (hb : I64 b) (w : World) :
    Calls Try.prog 17 #[.int .i64 a, .int .i64 b] w fun e w' => e = .returned (.tuple #[.int .i64 ((plainM a b).getD 0), .bool (plainM a b).isSome]) ∧ w = w' := by
  obtain ⟨y0, y1⟩ := cnt_bd b hb.2
  obtain ⟨x0, x1⟩ := cnt_bd a ha.2
  have CA := Lib.hid (scounted_any a w)
  have CB := Lib.hid (scounted_any b w)
  have NB := Lib.hid (not_any (cnt b) w y1)
  rw [cnt_pos (cnt b) y0] at NB
  unfold plainM
  generalize cnt a = x at *
  generalize cnt b = y at *
  obtain ⟨z, hz⟩ : ∃ z, z = opp y := ⟨_, rfl⟩
  rw [← hz] at NB ⊢
  have z1 : z ≠ y := by rw [hz]; unfold opp; split <;> omega
  clear hz ha hb
  go_enter Try.func17, Try.ntmps17
  go_wp2_with fail
  refine CA.out.mono ?_
  rintro e w' ⟨rfl, rfl⟩
  go_wp2_with fail
  refine CB.out.mono ?_
  rintro e w' ⟨rfl, rfl⟩
  by_cases h0 : x = 0
  · subst h0
    go_wp2
    go_ret2
    exact ⟨by simp, rfl⟩
  by_cases h1 : y = 0
  · subst h1
    have d0 : (x == 0) = false := by simpa using h0
    go_wp2
    go_ret2
    exact ⟨by simp, rfl⟩
  have d0 : (x == 0) = false := by simpa using h0
  have d1 : (y == 0) = false := by simpa using h1
  by_cases h2 : x = z
  · subst h2
    go_wp2_with fail
    refine NB.out.mono ?_
    rintro e w' ⟨rfl, rfl⟩
    go_wp2
    go_ret2
    exact ⟨by simp, rfl⟩
  have d2 : (x == z) = false := by simpa using h2
  go_wp2_with fail
  refine NB.out.mono ?_
  rintro e w' ⟨rfl, rfl⟩
  by_cases h3 : x = 1
  · subst h3
    go_wp2
    go_ret2
    exact ⟨by simp, rfl⟩
  have d3 : (x == 1) = false := by simpa using h3
  by_cases h4 : x = y
  · subst h4
    go_wp2
    go_ret2
    exact ⟨by simp, rfl⟩
  have d4 : (x == y) = false := by simpa using h4
  by_cases h5 : y = 1
  · subst h5
    go_wp2
    go_ret2
    exact ⟨by simp, rfl⟩
  have d5 : (y == 1) = false := by simpa using h5
  go_wp2
  go_ret2
  exact ⟨by simp, rfl⟩
theorem cisnan_any (x : Int) (w : World) : Calls Try.prog 116 #[.int .i64 x] w fun e w' => e = .returned (.bool false) ∧ w = w' := by
  go_enter Try.func116, Try.ntmps116
  go_wp2
  go_ret
  exact ⟨rfl, rfl⟩
theorem sisnan_any (x : Int) (w : World) : Calls Try.prog 102 #[.int .i64 x] w fun e w' => e = .returned (.bool false) ∧ w = w' := by
  go_enter Try.func102, Try.ntmps102
  go_wp2
  go_ret
  exact ⟨rfl, rfl⟩
theorem less_any (x y : Int) (w : World) : Calls Try.prog 101 #[.int .i64 x, .int .i64 y] w fun e w' => e = .returned (.bool (decide (x < y))) ∧ w = w' := by
  go_enter Try.func101, Try.ntmps101
  go_wp2_with (go_at_call 116; refine (cisnan_any _ _).mono ?_; rintro e w' ⟨rfl, rfl⟩)
  go_ret
  exact ⟨rfl, rfl⟩
theorem shr_run (n : Int) (w : World) : (binOp .shr 74 (.int .u64 n) (.int .u64 1)).run Try.prog w = .ok (.int .u64 (n / 2)) w := by
  have e : n.fdiv 2 = n / 2 := Int.fdiv_eq_ediv_of_nonneg n (by omega)
  simp [binOp, Op.shift]
  exact e
set_option maxHeartbeats 4000000 in
set_option maxRecDepth 100000 in
/-- a look by halves in numbers that rise -/
theorem bsearch_any (l : List Int) (A : Option Addr) (c : Nat) (x : Int) (w : World) (hl : l.length ≤ 4611686018427387903) (hr : LRow w w.heap.size 1 A (ints l)) (hs : l.Pairwise (· < ·)) :
    Calls Try.prog 77 #[.slice A l.length c, .int .i64 x] w fun e w' => (∃ k : Int, e = .returned (.tuple #[.int .i64 k, .bool (decide (x ∈ l))])) ∧ w = w' := by
  have LT : Hid (∀ (k : Nat) (h : k < l.length) (m : Nat) (h2 : m < l.length), k < m → l[k] < l[m]) := fun k h m h2 hkm => List.pairwise_iff_getElem.1 hs k m h h2 hkm
  have HR := Lib.hid hr
  clear hs hr
  go_enter Try.func77, Try.ntmps77
  go_wp2
  go_loopw [7, 8] (fun a b wr => ∃ i j : Nat, a = .int .i64 i ∧ b = .int .i64 j ∧ i ≤ j ∧ j ≤ l.length ∧ (∀ (k : Nat) (h : k < l.length), k < i → l[k] < x) ∧ (∀ (k : Nat) (h : k < l.length), j ≤ k → x ≤ l[k]) ∧ wr = w) (fun a b _ => (intOf b).toNat - (intOf a).toNat)
  case atStart => exact ⟨0, l.length, rfl, rfl, Nat.zero_le _, Nat.le_refl _, fun k _ h => absurd h (Nat.not_lt_zero _), fun k h h2 => absurd h (by omega), rfl⟩
  case round =>
    obtain ⟨i, j, rfl, rfl, hij, hj, hlo, hhi, rfl⟩ := hrel
    have HLO := Lib.hid hlo
    have HHI := Lib.hid hhi
    clear hlo hhi
    by_cases hlt : i < j
    · obtain ⟨m, hm⟩ : ∃ m, m = (i + j) / 2 := ⟨_, rfl⟩
      have hmi : i ≤ m ∧ m < j := by omega
      have hml : m < l.length := by omega
      obtain ⟨b, o, ha, hbb, hx⟩ := HR.out.int hml
      have ha2 := Lib.hid ha
      subst ha
      have hsh := shr_run ((i : Int) + j) wr
      have LS := Lib.hid (less_any (l[m]'hml) x wr)
      have hmc : ((m : Nat) : Int) = ((i : Int) + j) / 2 := by omega
      have HMC := Lib.hid hmc
      have HMI := Lib.hid hmi
      clear hmc hmi
      subst hm
      go_wp2_with fail
      refine LS.out.mono ?_
      rintro e w' ⟨rfl, rfl⟩
      by_cases hlx : l[(i + j) / 2]'hml < x
      · have hd : decide (l[(i + j) / 2]'hml < x) = true := by simpa using hlx
        rw [hd]
        go_wp2
        go_roundw
        case rel => exact ⟨(i + j) / 2 + 1, j, by have := HMC.out; go_num, rfl, by have := HMI.out; omega, hj, fun k h hk => (by
          rcases Nat.lt_or_ge k ((i + j) / 2) with h1 | h1
          · have := LT.out k h _ hml h1; omega
          · obtain rfl : k = (i + j) / 2 := by omega
            exact hlx), HHI.out, trivial⟩
        case measure => have := HMI.out; have := HMC.out; simp [intOf]; omega
      · have hd : decide (l[(i + j) / 2]'hml < x) = false := by simpa using hlx
        rw [hd]
        go_wp2
        go_roundw
        case rel => exact ⟨i, (i + j) / 2, rfl, by have := HMC.out; go_num, by have := HMI.out; omega, by omega, HLO.out, fun k h hk => (by
          rcases Nat.lt_or_ge ((i + j) / 2) k with h1 | h1
          · have := LT.out _ hml k h h1; omega
          · obtain rfl : k = (i + j) / 2 := by omega
            omega), trivial⟩
        case measure => have := HMI.out; have := HMC.out; simp [intOf]; omega
    · obtain rfl : i = j := by omega
      by_cases hin : i < l.length
      · obtain ⟨b, o, ha, hbb, hx⟩ := HR.out.int hin
        subst ha
        have N1 := Lib.hid (sisnan_any (l[i]'hin) wr)
        by_cases hex : l[i]'hin = x
        · have hm : decide (x ∈ l) = true := by simp only [decide_eq_true_eq]; rw [← hex]; exact List.getElem_mem hin
          have hb : (l[i]'hin == x) = true := by simpa using hex
          have HM := Lib.hid hm
          clear hex hm
          go_wp2
          go_ret2
          exact ⟨⟨i, by rw [HM.out]; rfl⟩, rfl⟩
        · have hm : decide (x ∈ l) = false := by
            simp only [decide_eq_false_iff_not]
            intro hmem
            obtain ⟨k, hk, e⟩ := List.getElem_of_mem hmem
            rcases Nat.lt_or_ge k i with h1 | h1
            · have := HLO.out k hk h1; omega
            · rcases Nat.lt_or_ge i k with h2 | h2
              · have h3 := LT.out i hin k hk h2
                have h4 := HHI.out i hin (Nat.le_refl _)
                omega
              · obtain rfl : k = i := by omega
                exact hex e
          have hb : (l[i]'hin == x) = false := by simpa using hex
          have HM := Lib.hid hm
          clear hex hm
          go_wp2_with fail
          refine N1.out.mono ?_
          rintro e w' ⟨rfl, rfl⟩
          go_wp2
          go_ret2
          exact ⟨⟨i, by rw [HM.out]; rfl⟩, rfl⟩
      · have hm : decide (x ∈ l) = false := by
          simp only [decide_eq_false_iff_not]
          intro hmem
          obtain ⟨k, hk, e⟩ := List.getElem_of_mem hmem
          have := HLO.out k hk (by omega); omega
        have HM := Lib.hid hm
        clear hm
        go_wp2
        go_ret2
        exact ⟨⟨i, by rw [HM.out]; rfl⟩, rfl⟩
end Go.Proofs.Ytpaneggajjgdlaa.Str
namespace Go.Proofs.Ytpaneggajjgdlaa.Str
open Go.ChangeShapes Go.WideShapes Go.ChangeAt Go.RowKit Go.Maps Circ Cw

theorem two_cells {w : World} {p : Nat} {a b c : Value} {T : TypeId} (h : w.heap[p]? = some (.cells #[a, b, c] T (0, 0))) : w.cell? ⟨p, 0, none⟩ = some a ∧ w.cell? ⟨p, 1, none⟩ = some b ∧ w.cell? ⟨p, 2, none⟩ = some c := by
  simp [World.cell?, h]
set_option maxHeartbeats 4000000 in
theorem of_any (p m1 N : Nat) (F : Int → Option Int) (x : Int) (w : World) (hc : w.cell? ⟨p, 0, none⟩ = some (.map (some m1))) (hF : IsVars w m1 F N) (hx : I64 x) (hs : ∀ v s, F v = some s → I64 s) :
    Calls Try.prog 34 #[.pointer (some ⟨p, 0, none⟩), .int .i64 x] w fun e w' => e = .returned (.int .i64 (ofM F x)) ∧ w = w' := by
  have hk : I64 (cnt x / 2) := by obtain ⟨b0, b1⟩ := cnt_bd x hx.2; unfold I64; omega
  obtain ⟨u, hl, hu⟩ := hF.look hk
  have CV := Lib.hid (var_any x w hx.2)
  have CN := Lib.hid (neg_any x w hx.2)
  clear hF
  cases hq : F (cnt x / 2) with
  | none =>
    rw [hq] at hl
    rw [of_none hq]
    generalize cnt x / 2 = r at *
    simp only [Option.isSome_none] at hl
    clear hu hq
    go_enter Try.func34, Try.ntmps34
    go_wp2_with fail
    refine CV.out.mono ?_
    rintro e w' ⟨rfl, rfl⟩
    go_wp2
    go_ret
    exact ⟨rfl, rfl⟩
  | some s =>
    have hsi := hs _ _ hq
    rw [of_some hq]
    obtain rfl := hu s hq
    have CO := Lib.hid (not_any u w hsi.2)
    rw [hq] at hl
    generalize cnt x / 2 = r at *
    simp only [Option.isSome_some] at hl
    clear hu hq
    by_cases hn : cnt x % 2 = 1
    · have hd : decide (cnt x % 2 = 1) = true := by simpa using hn
      rw [hd] at CN
      rw [if_pos hn]
      go_enter Try.func34, Try.ntmps34
      go_wp2_with fail
      refine CV.out.mono ?_
      rintro e w' ⟨rfl, rfl⟩
      go_wp2_with fail
      refine CN.out.mono ?_
      rintro e w' ⟨rfl, rfl⟩
      go_wp2_with fail
      refine CO.out.mono ?_
      rintro e w' ⟨rfl, rfl⟩
      go_wp2
      go_ret
      exact ⟨rfl, rfl⟩
    · have hd : decide (cnt x % 2 = 1) = false := by simpa using hn
      rw [hd] at CN
      rw [if_neg hn]
      go_enter Try.func34, Try.ntmps34
      go_wp2_with fail
      refine CV.out.mono ?_
      rintro e w' ⟨rfl, rfl⟩
      go_wp2_with fail
      refine CN.out.mono ?_
      rintro e w' ⟨rfl, rfl⟩
      go_wp2
      go_ret
      exact ⟨rfl, rfl⟩
end Go.Proofs.Ytpaneggajjgdlaa.Str
