/- What tells of a literal, and texts of bits, each as it is told; no condition but that there are not too many. -/
import Derived.Test.YtjlnffkieocihaaPt09
import Derived.Test.YtjlnffkieocihaaPt02
namespace Go.Proofs.Ytjlnffkieocihaa.Sim
open Go.ChangeShapes Go.WideShapes Go.ChangeAt Go.RowKit Go.Maps Circ Cw

def sv (l : List UInt8) : Value := .string ⟨l.toArray⟩

/-- what a closure answers in this world -/
def Tells (k : FuncId) (cap : Array Value) (w : World) (x : Value) (b : Bool) : Prop :=
  Calls Try.prog k (#[x] ++ cap) w fun e w' => e = .returned (.bool b) ∧ Below w.heap.size w w'

theorem holds_any (k : FuncId) (cap : Array Value) (l : Int) (b : Bool) (w : World) (hl : l ≤ 9223372036854775807) (hk : ∀ args w, (callFunc k args).run Try.prog w = .ok (.enter k args) w) (hs : Tells k cap w (.int .i64 (cnt l / 2)) b) :
    Calls Try.prog 60 #[.int .i64 l, .func (.func k) #[] cap] w fun e w' => e = .returned (.bool (b != decide (cnt l % 2 = 1))) ∧ Below w.heap.size w w' := by
  have V := Lib.hid (var_any l w hl)
  have NE := Lib.hid (fun w' => neg_any l w' hl)
  unfold Tells at hs
  go_enter Try.func60, Try.ntmps60
  go_wp2_with fail
  refine V.out.mono ?_
  rintro e w' ⟨rfl, rfl⟩
  go_wp2_with fail
  refine hs.mono ?_
  rintro e w' ⟨rfl, hb⟩
  go_wp2_with fail
  refine (NE.out w').mono ?_
  rintro e w'' ⟨rfl, rfl⟩
  go_wp2
  go_ret
  exact ⟨rfl, hb⟩

def bitB (b : Bool) : UInt8 := if b then 49 else 48
/-- the first n bits, each as p says -/
def bitL (p : Nat → Bool) (n : Nat) : List UInt8 := (List.range n).map fun i => bitB (p i)
theorem bitL_snoc (p : Nat → Bool) (n : Nat) : bitL p (n + 1) = bitL p n ++ [bitB (p n)] := by
  unfold bitL; rw [List.range_succ, List.map_append]; rfl
theorem bitL_len (p : Nat → Bool) (n : Nat) : (bitL p n).length = n := by unfold bitL; simp
theorem byteCells_snoc (l : List UInt8) (x : UInt8) : Lib.byteCells (l ++ [x]) = Lib.byteCells l ++ [.int .u8 (x.toNat : Int)] := by
  unfold Lib.byteCells; simp
theorem byteCells_len (l : List UInt8) : (Lib.byteCells l).length = l.length := by unfold Lib.byteCells; simp
theorem builder_keep {T e : TypeId} {B b : Nat} {bs : List Value} {w w' : World} (h : Lib.IsBuilder T e B b bs w) (hb : Below w.heap.size w w') : Lib.IsBuilder T e B b bs w' := by
  have key : ∀ p, Lib.BuilderAt T e B b p bs w → Lib.BuilderAt T e B b p bs w' := fun p ⟨h1, v, h2, h3, h4⟩ => by
    refine ⟨h1, v, (hb.block b (lt_of_block h2)).trans h2, ?_, h4⟩
    refine ⟨h3.1, ?_⟩
    rcases h3.2 with h5 | ⟨g, cap, cur, q1, q2, q3, q4⟩
    · exact .inl h5
    · exact .inr ⟨g, cap, cur, q1, q2, (hb.block g (lt_of_block q3)).trans q3, q4⟩
  exact h.elim (fun h => .inl (key _ h)) (fun h => .inr (key _ h))
theorem fresh_builder (w : World) : Lib.IsBuilder 126 5 w.heap.size w.heap.size (Lib.byteCells []) (w.alloc (.cells #[.pointer none, .slice none 0 0] 126)) :=
  .inl ⟨Nat.le_refl _, .slice none 0 0, Array.getElem?_push_size, World.ownsRow_nil _ _ _ _, by simp [Value.ownBlock]⟩

set_option maxHeartbeats 2000000 in
set_option maxRecDepth 100000 in
theorem bits_any (n : Nat) (k : FuncId) (cap : Array Value) (p : Nat → Bool) (w : World) (hn : n ≤ 1048576) (hk : ∀ args w, (callFunc k args).run Try.prog w = .ok (.enter k args) w)
    (hs : ∀ W, Below w.heap.size w W → ∀ i : Nat, i < n → Tells k cap W (.int .i64 (i : Int)) (p i)) :
    Calls Try.prog 61 #[.int .i64 (n : Int), .func (.func k) #[] cap] w fun e w' => e = .returned (sv (bitL p n)) ∧ Below w.heap.size w w' := by
  have HS := Lib.hid hs
  clear hs
  obtain ⟨WB, hWB⟩ : ∃ x, w.alloc (.cells #[.pointer none, .slice none 0 0] 126) = x := ⟨_, rfl⟩
  have hb0 : Below w.heap.size w WB := by rw [← hWB]; exact (Below.refl _ _).alloc (Nat.le_refl _) _
  have hB0 : Lib.IsBuilder 126 5 w.heap.size w.heap.size (Lib.byteCells []) WB := by rw [← hWB]; exact fresh_builder w
  go_enter Try.func61, Try.ntmps61
  go_wp2
  clear hWB
  have HB0 := Lib.hid hB0
  clear hB0
  go_loopw [8] (fun i wr => ∃ j : Nat, j ≤ n ∧ i = .int .i64 j ∧ Lib.IsBuilder 126 5 w.heap.size w.heap.size (Lib.byteCells (bitL p j)) wr ∧ Below w.heap.size w wr) (fun i _ => n - (intOf i).toNat)
  case atStart => exact ⟨0, Nat.zero_le _, rfl, HB0.out, hb0⟩
  case round =>
    obtain ⟨j, hj, rfl, hB, hbel⟩ := hrel
    have hsz := hbel.size
    have HBR := Lib.hid hB
    have HBL := Lib.hid hbel
    clear hB hbel
    by_cases hlt : j < n
    · have HT := Lib.hid (HS.out wr HBL.out j hlt)
      have HSN := Lib.hid (bitL_snoc p j)
      unfold Tells at HT
      generalize hq : p j = q at *
      go_wp2_with fail
      refine HT.out.mono ?_
      rintro e w1 ⟨rfl, hb1⟩
      have HB1 := Lib.hid (builder_keep HBR.out hb1)
      have HBE : Hid (Below w.heap.size w w1) := HBL.out.trans (hb1.mono hsz)
      have hsz1 := HBE.out.size
      clear HT hb1
      have hlen : (Lib.byteCells (bitL p j)).length + 1 ≤ 140737488355328 := by rw [byteCells_len, bitL_len]; omega
      cases q
      · have WR := Lib.hid (Bld.write_byte w.heap.size w.heap.size _ 48 w1 HB1.out hlen hsz1)
        clear hlen
        go_wp2_with fail
        refine WR.out.mono ?_
        rintro e w2 ⟨rfl, hb2, hbe2⟩
        have HB2 : Hid (Lib.IsBuilder 126 5 w.heap.size w.heap.size (Lib.byteCells (bitL p (j + 1))) w2) := by
          unfold Hid
          rw [HSN.out, byteCells_snoc]; exact .inr hb2
        have HBF : Hid (Below w.heap.size w w2) := HBE.out.trans hbe2
        clear hb2 hbe2 WR HB1 HBR
        go_wp2
        go_roundw
        case rel => exact ⟨j + 1, by omega, by go_num, HB2.out, HBF.out⟩
        case measure => simp [intOf]; omega
      · have WR := Lib.hid (Bld.write_byte w.heap.size w.heap.size _ 49 w1 HB1.out hlen hsz1)
        clear hlen
        go_wp2_with fail
        refine WR.out.mono ?_
        rintro e w2 ⟨rfl, hb2, hbe2⟩
        have HB2 : Hid (Lib.IsBuilder 126 5 w.heap.size w.heap.size (Lib.byteCells (bitL p (j + 1))) w2) := by
          unfold Hid
          rw [HSN.out, byteCells_snoc]; exact .inr hb2
        have HBF : Hid (Below w.heap.size w w2) := HBE.out.trans hbe2
        clear hb2 hbe2 WR HB1 HBR
        go_wp2
        go_roundw
        case rel => exact ⟨j + 1, by omega, by go_num, HB2.out, HBF.out⟩
        case measure => simp [intOf]; omega
    · obtain rfl : j = n := by omega
      go_wp2_with fail
      refine (Try.Builder_String_any w.heap.size w.heap.size (bitL p j) _ HBR.out hsz).mono ?_
      rintro e w' ⟨rfl, hb⟩
      go_wp2_with fail
      go_ret
      exact ⟨rfl, HBL.out.trans hb⟩
end Go.Proofs.Ytjlnffkieocihaa.Sim
