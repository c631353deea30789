/- A model's text, bit by bit; condition: at most 14 variables. -/
import Derived.Test.YtefbknpoehmfaaaPb35
import Derived.Test.YtefbknpoehmfaaaPb36
namespace Go.Proofs.Ytefbknpoehmfaaa.For
open Go.ChangeShapes Go.WideShapes Go.ChangeAt Go.RowKit Go.Maps Circ Cw Cla Rep

def bitC (b : Bool) : UInt8 := if b then 49 else 48
/-- the first j of V bits of m, the highest first -/
def txtL (V m j : Nat) : List UInt8 := (List.range j).map fun i => bitC (m.testBit (V - 1 - i))
theorem txt_snoc (V m j : Nat) : txtL V m (j + 1) = txtL V m j ++ [bitC (m.testBit (V - 1 - j))] := by
  unfold txtL; rw [List.range_succ, List.map_append]; rfl
theorem txt_len (V m j : Nat) : (txtL V m j).length = j := by unfold txtL; simp
theorem bcells_snoc (l : List UInt8) (x : UInt8) : Lib.byteCells (l ++ [x]) = Lib.byteCells l ++ [.int .u8 (x.toNat : Int)] := by
  unfold Lib.byteCells; simp
theorem bcells_len (l : List UInt8) : (Lib.byteCells l).length = l.length := by unfold Lib.byteCells; simp
theorem fresh_bld (w : World) : Lib.IsBuilder 105 5 w.heap.size w.heap.size (Lib.byteCells []) (w.alloc (.cells #[.pointer none, .slice none 0 0] 105)) :=
  .inl ⟨Nat.le_refl _, .slice none 0 0, Array.getElem?_push_size, World.ownsRow_nil _ _ _ _, by simp [Value.ownBlock]⟩
theorem shr_bit (m d : Nat) (hm : m < 4611686018427387904) : bits .and .i64 ((m : Int) / 2 ^ d) 1 = if m.testBit d then 1 else 0 := by
  have e : ((m : Int) / 2 ^ d) = ((m / 2 ^ d : Nat) : Int) := by simp
  have h1 : m / 2 ^ d ≤ m := Nat.div_le_self _ _
  rw [e, show (1 : Int) = ((1 : Nat) : Int) from rfl, bits_and64 _ _ (by omega) (by decide), Nat.testBit_eq_decide_div_mod_eq, Nat.and_one_is_mod]
  rcases Nat.mod_two_eq_zero_or_one (m / 2 ^ d) with h | h <;> rw [h] <;> simp
set_option maxHeartbeats 4000000 in
set_option maxRecDepth 100000 in
theorem text_any (V m : Nat) (w : World) (hV : V ≤ 14) (hm : m < 2 ^ V) :
    Calls Try.prog 45 #[.int .i64 V, .int .i64 m] w fun e w' => e = .returned (.string ⟨(txtL V m V).toArray⟩) ∧ Below w.heap.size w w' := by
  have hp : 2 ^ V ≤ 16384 := Nat.le_trans (Nat.pow_le_pow_right (by decide) hV) (by decide)
  have hm2 : m < 16384 := by omega
  clear hm hp
  obtain ⟨WB, hWB⟩ : ∃ x, w.alloc (.cells #[.pointer none, .slice none 0 0] 105) = x := ⟨_, rfl⟩
  have hb0 : Below w.heap.size w WB := by rw [← hWB]; exact (Below.refl _ _).alloc (Nat.le_refl _) _
  have hB0 : Lib.IsBuilder 105 5 w.heap.size w.heap.size (Lib.byteCells []) WB := by rw [← hWB]; exact fresh_bld w
  go_enter Try.func45, Try.ntmps45
  go_wp2
  clear hWB
  have HB0 := Lib.hid hB0
  clear hB0
  go_loopw [8] (fun i wr => ∃ j : Nat, j ≤ V ∧ i = .int .i64 j ∧ Lib.IsBuilder 105 5 w.heap.size w.heap.size (Lib.byteCells (txtL V m j)) wr ∧ Below w.heap.size w wr) (fun i _ => V - (intOf i).toNat)
  case atStart => exact ⟨0, Nat.zero_le _, rfl, HB0.out, hb0⟩
  case round =>
    obtain ⟨j, hj, rfl, hB, hbel⟩ := hrel
    have hsz := hbel.size
    have HBR := Lib.hid hB
    have HBL := Lib.hid hbel
    clear hB hbel
    by_cases hlt : j < V
    · have HSN := Lib.hid (txt_snoc V m j)
      have hjv : (j : Int) < (V : Int) := by omega
      obtain ⟨d, hd⟩ : ∃ d, V - 1 - j = d := ⟨_, rfl⟩
      have hsub : (V : Int) - 1 - (j : Int) = (d : Int) := by omega
      have hd14 : d ≤ 14 := by omega
      rw [hd] at HSN
      have hbit := shr_bit m d (by omega)
      have hlen : (Lib.byteCells (txtL V m j)).length + 1 ≤ 140737488355328 := by rw [bcells_len, txt_len]; omega
      clear hd
      generalize m.testBit d = q at *
      cases q
      · have WR := Lib.hid (Bld.write_byte w.heap.size w.heap.size _ 48 wr HBR.out hlen hsz)
        rw [if_neg (by decide)] at hbit
        clear hlen
        go_wp2_with fail
        refine WR.out.mono ?_
        rintro e w2 ⟨rfl, hb2, hbe2⟩
        have HB2 : Hid (Lib.IsBuilder 105 5 w.heap.size w.heap.size (Lib.byteCells (txtL V m (j + 1))) w2) := by
          unfold Hid
          rw [HSN.out, bcells_snoc]; exact .inr hb2
        have HBF : Hid (Below w.heap.size w w2) := HBL.out.trans hbe2
        clear hb2 hbe2 WR HBR
        go_wp2
        go_roundw
        case rel => exact ⟨j + 1, by omega, by go_num, HB2.out, HBF.out⟩
        case measure => simp [intOf]; omega
      · have WR := Lib.hid (Bld.write_byte w.heap.size w.heap.size _ 49 wr HBR.out hlen hsz)
        rw [if_pos rfl] at hbit
        clear hlen
        go_wp2_with fail
        refine WR.out.mono ?_
        rintro e w2 ⟨rfl, hb2, hbe2⟩
        have HB2 : Hid (Lib.IsBuilder 105 5 w.heap.size w.heap.size (Lib.byteCells (txtL V m (j + 1))) w2) := by
          unfold Hid
          rw [HSN.out, bcells_snoc]; exact .inr hb2
        have HBF : Hid (Below w.heap.size w w2) := HBL.out.trans hbe2
        clear hb2 hbe2 WR HBR
        go_wp2
        go_roundw
        case rel => exact ⟨j + 1, by omega, by go_num, HB2.out, HBF.out⟩
        case measure => simp [intOf]; omega
    · obtain rfl : j = V := by omega
      go_wp2_with fail
      refine (Try.Builder_String_any w.heap.size w.heap.size (txtL j m j) _ HBR.out hsz).mono ?_
      rintro e w' ⟨rfl, hb⟩
      go_wp2_with fail
      go_ret
      exact ⟨rfl, HBL.out.trans hb⟩
end Go.Proofs.Ytefbknpoehmfaaa.For
