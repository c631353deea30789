/- What tells of a literal, and texts of bits, each as it is told; no condition but that there are not too many. What strash asks of literals, and a look by halves, walked; no condition. -/
import Derived.Test.YtbgcoeejmnejdaaPt01
import Derived.Test.YtbgcoeejmnejdaaPt03
import Derived.Test.YtbgcoeejmnejdaaPt00
namespace Go.Proofs.Ytbgcoeejmnejdaa.Sim
open Go.ChangeShapes Go.WideShapes Go.ChangeAt Go.RowKit Go.Maps Circ Cw

def sv (l : List UInt8) : Value := .string ⟨l.toArray⟩

/-- what a closure answers in this world -/
def Tells (k : FuncId) (cap : Array Value) (w : World) (x : Value) (b : Bool) : Prop :=
  Calls Try.prog k (#[x] ++ cap) w fun e w' => e = .returned (.bool b) ∧ Below w.heap.size w w'

theorem holds_any (k : FuncId) (cap : Array Value) (l : Int) (b : Bool) (w : World) (hl : l ≤ 9223372036854775807) (hk : ∀ args w, (callFunc k args).run Try.prog w = .ok (.enter k args) w) (hs : Tells k cap w (.int .i64 (cnt l / 2)) b) :
    Calls Try.prog 61 #[.int .i64 l, .func (.func k) #[] cap] w fun e w' => e = .returned (.bool (b != decide (cnt l % 2 = 1))) ∧ Below w.heap.size w w' := by
  have V := Lib.hid (var_any l w hl)
  have NE := Lib.hid (fun w' => neg_any l w' hl)
  unfold Tells at hs
  go_enter Try.func61, Try.ntmps61
  go_wp2_with fail
  refine V.out.mono ?_
  rintro e w' ⟨rfl, rfl⟩
  go_wp2_with fail
  refine hs.mono ?_
  rintro e w' ⟨rfl, hb⟩
  go_wp2_with fail
  refine (NE.out w').mono ?_
  rintro e w'' ⟨rfl, rfl⟩
  go_wp2
  go_ret
  exact ⟨rfl, hb⟩

def bitB (b : Bool) : UInt8 := if b then 49 else 48
/-- the first n bits, each as p says -/
def bitL (p : Nat → Bool) (n : Nat) : List UInt8 := (List.range n).map fun i => bitB (p i)
theorem bitL_snoc (p : Nat → Bool) (n : Nat) : bitL p (n + 1) = bitL p n ++ [bitB (p n)] := by
  unfold bitL; rw [List.range_succ, List.map_append]; rfl
theorem bitL_len (p : Nat → Bool) (n : Nat) : (bitL p n).length = n := by unfold bitL; simp
theorem byteCells_snoc (l : List UInt8) (x : UInt8) : Lib.byteCells (l ++ [x]) = Lib.byteCells l ++ [.int .u8 (x.toNat : Int)] := by
  unfold Lib.byteCells; simp
theorem byteCells_len (l : List UInt8) : (Lib.byteCells l).length = l.length := by unfold Lib.byteCells; simp
theorem builder_keep {T e : TypeId} {B b : Nat} {bs : List Value} {w w' : World} (h : Lib.IsBuilder T e B b bs w) (hb : Below w.heap.size w w') : Lib.IsBuilder T e B b bs w' := by
  have key : ∀ p, Lib.BuilderAt T e B b p bs w → Lib.BuilderAt T e B b p bs w' := fun p ⟨h1, v, h2, h3, h4⟩ => by
    refine ⟨h1, v, (hb.block b (lt_of_block h2)).trans h2, ?_, h4⟩
    refine ⟨h3.1, ?_⟩
    rcases h3.2 with h5 | ⟨g, cap, cur, q1, q2, q3, q4⟩
    · exact .inl h5
    · exact .inr ⟨g, cap, cur, q1, q2, (hb.block g (lt_of_block q3)).trans q3, q4⟩
  exact h.elim (fun h => .inl (key _ h)) (fun h => .inr (key _ h))
theorem fresh_builder (w : World) : Lib.IsBuilder 132 5 w.heap.size w.heap.size (Lib.byteCells []) (w.alloc (.cells #[.pointer none, .slice none 0 0] 132)) :=
  .inl ⟨Nat.le_refl _, .slice none 0 0, Array.getElem?_push_size, World.ownsRow_nil _ _ _ _, by simp [Value.ownBlock]⟩

set_option maxHeartbeats 2000000 in
set_option maxRecDepth 100000 in
theorem bits_any (n : Nat) (k : FuncId) (cap : Array Value) (p : Nat → Bool) (w : World) (hn : n ≤ 1048576) (hk : ∀ args w, (callFunc k args).run Try.prog w = .ok (.enter k args) w)
    (hs : ∀ W, Below w.heap.size w W → ∀ i : Nat, i < n → Tells k cap W (.int .i64 (i : Int)) (p i)) :
    Calls Try.prog 62 #[.int .i64 (n : Int), .func (.func k) #[] cap] w fun e w' => e = .returned (sv (bitL p n)) ∧ Below w.heap.size w w' := by
  have HS := Lib.hid hs
  clear hs
  obtain ⟨WB, hWB⟩ : ∃ x, w.alloc (.cells #[.pointer none, .slice none 0 0] 132) = x := ⟨_, rfl⟩
  have hb0 : Below w.heap.size w WB := by rw [← hWB]; exact (Below.refl _ _).alloc (Nat.le_refl _) _
  have hB0 : Lib.IsBuilder 132 5 w.heap.size w.heap.size (Lib.byteCells []) WB := by rw [← hWB]; exact fresh_builder w
  go_enter Try.func62, Try.ntmps62
  go_wp2
  clear hWB
  have HB0 := Lib.hid hB0
  clear hB0
  go_loopw [8] (fun i wr => ∃ j : Nat, j ≤ n ∧ i = .int .i64 j ∧ Lib.IsBuilder 132 5 w.heap.size w.heap.size (Lib.byteCells (bitL p j)) wr ∧ Below w.heap.size w wr) (fun i _ => n - (intOf i).toNat)
  case atStart => exact ⟨0, Nat.zero_le _, rfl, HB0.out, hb0⟩
  case round =>
    obtain ⟨j, hj, rfl, hB, hbel⟩ := hrel
    have hsz := hbel.size
    have HBR := Lib.hid hB
    have HBL := Lib.hid hbel
    clear hB hbel
    by_cases hlt : j < n
    · have HT := Lib.hid (HS.out wr HBL.out j hlt)
      have HSN := Lib.hid (bitL_snoc p j)
      unfold Tells at HT
      generalize hq : p j = q at *
      go_wp2_with fail
      refine HT.out.mono ?_
      rintro e w1 ⟨rfl, hb1⟩
      have HB1 := Lib.hid (builder_keep HBR.out hb1)
      have HBE : Hid (Below w.heap.size w w1) := HBL.out.trans (hb1.mono hsz)
      have hsz1 := HBE.out.size
      clear HT hb1
      have hlen : (Lib.byteCells (bitL p j)).length + 1 ≤ 140737488355328 := by rw [byteCells_len, bitL_len]; omega
      cases q
      · have WR := Lib.hid (Bld.write_byte w.heap.size w.heap.size _ 48 w1 HB1.out hlen hsz1)
        clear hlen
        go_wp2_with fail
        refine WR.out.mono ?_
        rintro e w2 ⟨rfl, hb2, hbe2⟩
        have HB2 : Hid (Lib.IsBuilder 132 5 w.heap.size w.heap.size (Lib.byteCells (bitL p (j + 1))) w2) := by
          unfold Hid
          rw [HSN.out, byteCells_snoc]; exact .inr hb2
        have HBF : Hid (Below w.heap.size w w2) := HBE.out.trans hbe2
        clear hb2 hbe2 WR HB1 HBR
        go_wp2
        go_roundw
        case rel => exact ⟨j + 1, by omega, by go_num, HB2.out, HBF.out⟩
        case measure => simp [intOf]; omega
      · have WR := Lib.hid (Bld.write_byte w.heap.size w.heap.size _ 49 w1 HB1.out hlen hsz1)
        clear hlen
        go_wp2_with fail
        refine WR.out.mono ?_
        rintro e w2 ⟨rfl, hb2, hbe2⟩
        have HB2 : Hid (Lib.IsBuilder 132 5 w.heap.size w.heap.size (Lib.byteCells (bitL p (j + 1))) w2) := by
          unfold Hid
          rw [HSN.out, byteCells_snoc]; exact .inr hb2
        have HBF : Hid (Below w.heap.size w w2) := HBE.out.trans hbe2
        clear hb2 hbe2 WR HB1 HBR
        go_wp2
        go_roundw
        case rel => exact ⟨j + 1, by omega, by go_num, HB2.out, HBF.out⟩
        case measure => simp [intOf]; omega
    · obtain rfl : j = n := by omega
      go_wp2_with fail
      refine (Try.Builder_String_any w.heap.size w.heap.size (bitL p j) _ HBR.out hsz).mono ?_
      rintro e w' ⟨rfl, hb⟩
      go_wp2_with fail
      go_ret
      exact ⟨rfl, HBL.out.trans hb⟩
end Go.Proofs.Ytbgcoeejmnejdaa.Sim
namespace Go.Proofs.Ytbgcoeejmnejdaa.Str
open Go.ChangeShapes Go.WideShapes Go.ChangeAt Go.RowKit Circ Cw

theorem bits_xor_i64_nat (a b : Nat) (ha : a < 9223372036854775808) (hb : b < 9223372036854775808) :
    bits .xor .i64 (a : Int) (b : Int) = ((a ^^^ b : Nat) : Int) := by
  have hx : a ^^^ b < 2 ^ 63 := Nat.xor_lt_two_pow (by omega) (by omega)
  have h1 : (BitVec.ofInt 64 (a : Int)).toNat = a := by
    rw [BitVec.ofInt_natCast, BitVec.toNat_ofNat]; exact Nat.mod_eq_of_lt (by omega)
  have h2 : (BitVec.ofInt 64 (b : Int)).toNat = b := by
    rw [BitVec.ofInt_natCast, BitVec.toNat_ofNat]; exact Nat.mod_eq_of_lt (by omega)
  show IntKind.i64.wrap ((BitVec.ofInt 64 (a : Int) ^^^ BitVec.ofInt 64 (b : Int)).toNat : Int) = _
  rw [BitVec.toNat_xor, h1, h2]
  simp [IntKind.wrap, IntKind.bits, IntKind.signed]
  omega

theorem nat_xor_one (n : Nat) : n ^^^ 1 = if n % 2 = 0 then n + 1 else n - 1 := by
  have h1 : (n ^^^ 1) / 2 = n / 2 := by rw [Nat.xor_div_two]; simp
  have h2 : (n ^^^ 1) % 2 = (n + 1) % 2 := by
    have := Nat.xor_mod_two_pow (a := n) (b := 1) (n := 1)
    rw [show (2 : Nat) ^ 1 = 2 from rfl] at this
    rcases Nat.mod_two_eq_zero_or_one n with q | q
    · rw [this, q]; simp; omega
    · rw [this, q]; simp; omega
  split <;> omega

theorem xor_one (x : Int) (h0 : 0 ≤ x) (h1 : x ≤ 9223372036854775807) : bits .xor .i64 x 1 = opp x := by
  obtain ⟨n, rfl⟩ := Int.eq_ofNat_of_zero_le h0
  have := bits_xor_i64_nat n 1 (by omega) (by omega)
  rw [show ((1 : Nat) : Int) = 1 from rfl] at this
  rw [this, nat_xor_one]
  unfold opp
  split <;> split <;> omega

theorem not_any (x : Int) (w : World) (h1 : x ≤ 9223372036854775807) :
    Calls Try.prog 57 #[.int .i64 x] w fun e w' => e = .returned (.int .i64 (opp (cnt x))) ∧ w = w' := by
  obtain ⟨b0, b1⟩ := cnt_bd x h1
  have hx := xor_one _ b0 b1
  go_enter Try.func57, Try.ntmps57
  go_wp2_with (go_at_call 105; refine (counted_any _ _).mono ?_; rintro e w' ⟨rfl, rfl⟩)
  go_ret
  exact ⟨rfl, rfl⟩
theorem scounted_any (x : Int) (w : World) :
    Calls Try.prog 56 #[.int .i64 x] w fun e w' => e = .returned (.int .i64 (cnt x)) ∧ w = w' := by
  unfold cnt
  by_cases h : x < 0
  · have hm : max x 0 = 0 := by omega
    go_enter Try.func56, Try.ntmps56
    go_wp2
    go_ret
    exact ⟨rfl, rfl⟩
  · have hm : max x 0 = x := by omega
    go_enter Try.func56, Try.ntmps56
    go_wp2
    go_ret
    exact ⟨rfl, rfl⟩
set_option maxHeartbeats 4000000 in
theorem plain_any (a b : Int) (ha : I64 a) (hb : I64 b) (w : World) :
    Calls Try.prog 20 #[.int .i64 a, .int .i64 b] w fun e w' => e = .returned (.tuple #[.int .i64 ((plainM a b).getD 0), .bool (plainM a b).isSome]) ∧ w = w' := by
  obtain ⟨y0, y1⟩ := cnt_bd b hb.2
  obtain ⟨x0, x1⟩ := cnt_bd a ha.2
  have CA := Lib.hid (scounted_any a w)
  have CB := Lib.hid (scounted_any b w)
  have NB := Lib.hid (not_any (cnt b) w y1)
  rw [cnt_pos (cnt b) y0] at NB
  unfold plainM
  generalize cnt a = x at *
  generalize cnt b = y at *
  obtain ⟨z, hz⟩ : ∃ z, z = opp y := ⟨_, rfl⟩
  rw [← hz] at NB ⊢
  have z1 : z ≠ y := by rw [hz]; unfold opp; split <;> omega
  clear hz ha hb
  go_enter Try.func20, Try.ntmps20
  go_wp2_with fail
  refine CA.out.mono ?_
  rintro e w' ⟨rfl, rfl⟩
  go_wp2_with fail
  refine CB.out.mono ?_
  rintro e w' ⟨rfl, rfl⟩
  by_cases h0 : x = 0
  · subst h0
    go_wp2
    go_ret2
    exact ⟨by simp, rfl⟩
  by_cases h1 : y = 0
  · subst h1
    have d0 : (x == 0) = false := by simpa using h0
    go_wp2
    go_ret2
    exact ⟨by simp, rfl⟩
  have d0 : (x == 0) = false := by simpa using h0
  have d1 : (y == 0) = false := by simpa using h1
  by_cases h2 : x = z
  · subst h2
    go_wp2_with fail
    refine NB.out.mono ?_
    rintro e w' ⟨rfl, rfl⟩
    go_wp2
    go_ret2
    exact ⟨by simp, rfl⟩
  have d2 : (x == z) = false := by simpa using h2
  go_wp2_with fail
  refine NB.out.mono ?_
  rintro e w' ⟨rfl, rfl⟩
  by_cases h3 : x = 1
  · subst h3
    go_wp2
    go_ret2
    exact ⟨by simp, rfl⟩
  have d3 : (x == 1) = false := by simpa using h3
  by_cases h4 : x = y
  · subst h4
    go_wp2
    go_ret2
    exact ⟨by simp, rfl⟩
  have d4 : (x == y) = false := by simpa using h4
  by_cases h5 : y = 1
  · subst h5
    go_wp2
    go_ret2
    exact ⟨by simp, rfl⟩
  have d5 : (y == 1) = false := by simpa using h5
  go_wp2
  go_ret2
  exact ⟨by simp, rfl⟩
end Go.Proofs.Ytbgcoeejmnejdaa.Str
