/- What is being hashed, as it lies in memory; no condition. Values of variables as octets in memory: what reads them, what writes them; no condition. True and Holds; no condition but that texts are as long as Go's may be. The operations of sim.Values's regions that draw their order, each run by itself; no condition. What hashed.add does, walked; no condition but that the numbers fit. The walk of strash.hashing; no condition but that the numbers fit. Sorting a list of a call's own, and what is written down while what literals hang on is sought; no condition. The walk of circuit's Cone; no condition. strings.Clone: the same text; no condition but its size. -/
import Derived.Test.YtjlnffkieocihaaPt15
import Derived.Test.YtjlnffkieocihaaPt17
import Derived.Test.YtjlnffkieocihaaPt18
import Derived.Test.YtjlnffkieocihaaPt10
import Derived.Test.YtjlnffkieocihaaPt11
import Derived.Test.YtjlnffkieocihaaPt08
import Derived.Test.YtjlnffkieocihaaPt06
namespace Go.Proofs.Ytjlnffkieocihaa.Str
open Go.ChangeShapes Go.WideShapes Go.ChangeAt Go.RowKit Go.Maps Circ Cw

/-- block p is a hashed: its maps in blocks m1 and m2, its ands in v; none of them lies below C -/
structure HsAt (w : World) (C p m1 m2 : Nat) (v : Value) (h : Hs) (n : Nat) : Prop where
  box : w.heap[p]? = some (.cells #[.map (some m1), .map (some m2), v] 77 (0, 0))
  f : IsVars w m1 h.F n
  g : IsPairs w m2 h.G n
  st : OwnC w C 43 3 v (tris h.st)
  lo : C ≤ p ∧ C ≤ m1 ∧ C ≤ m2
  ne : m1 ≠ m2
  own : ∀ k, v.ownBlock = some k → k ≠ p ∧ k ≠ m1 ∧ k ≠ m2
theorem HsAt.cells {w : World} {C p m1 m2 n : Nat} {v : Value} {h : Hs} (H : HsAt w C p m1 m2 v h n) : w.cell? ⟨p, 0, none⟩ = some (.map (some m1)) ∧ w.cell? ⟨p, 1, none⟩ = some (.map (some m2)) ∧ w.cell? ⟨p, 2, none⟩ = some v := two_cells H.box
theorem HsAt.apart {w : World} {C p m1 m2 n : Nat} {v : Value} {h : Hs} (H : HsAt w C p m1 m2 v h n) : p ≠ m1 ∧ p ≠ m2 := ⟨H.f.ne_ H.cells.1, H.g.ne_ H.cells.1⟩
theorem HsAt.lt {w : World} {C p m1 m2 n : Nat} {v : Value} {h : Hs} (H : HsAt w C p m1 m2 v h n) : p < w.heap.size ∧ m1 < w.heap.size ∧ m2 < w.heap.size := ⟨(Array.getElem?_eq_some_iff.1 H.box).1, H.f.lt, H.g.lt⟩
theorem HsAt.keep {w w' : World} {C p m1 m2 n : Nat} {v : Value} {h : Hs} (H : HsAt w C p m1 m2 v h n) (hb : ∀ k, k < w.heap.size → w'.heap[k]? = w.heap[k]?) : HsAt w' C p m1 m2 v h n := by
  obtain ⟨l1, l2, l3⟩ := H.lt
  exact ⟨(hb p l1).trans H.box, H.f.keep (hb m1 l2), H.g.keep (hb m2 l3), H.st.keep_at (fun g _ hg => hb g (H.st.block_lt g hg).2), H.lo, H.ne, H.own⟩
theorem HsAt.below {w w' : World} {C p m1 m2 n : Nat} {v : Value} {h : Hs} (H : HsAt w C p m1 m2 v h n) (hb : Below w.heap.size w w') : HsAt w' C p m1 m2 v h n := H.keep fun k hk => hb.block k hk
theorem HsAt.more {w : World} {C p m1 m2 n m : Nat} {v : Value} {h : Hs} (H : HsAt w C p m1 m2 v h n) (hm : n ≤ m) : HsAt w C p m1 m2 v h m := by
  obtain ⟨a, ⟨n1, D1, b1, b2, b3⟩, ⟨n2, D2, c1, c2, c3⟩, d, e, f, g⟩ := H
  exact ⟨a, ⟨n1, D1, b1, Nat.le_trans b2 hm, b3⟩, ⟨n2, D2, c1, Nat.le_trans c2 hm, c3⟩, d, e, f, g⟩
/- one operation changes the world -/
structure Sole (k : Nat) (W0 W1 : World) (d : Nat → Bool) (w : World) : Prop where
  c0 : d k = false → w = W0
  c1 : d k = true → w = W1
theorem Sole.start (k : Nat) (W0 W1 : World) : Sole k W0 W1 (fun _ => false) W0 := ⟨fun _ => rfl, fun h => by cases h⟩
theorem Sole.read {k : Nat} {W0 W1 : World} {d : Nat → Bool} {w : World} (h : Sole k W0 W1 d w) {i : Nat} (hi : k ≠ i) : Sole k W0 W1 (fun j => decide (j = i) || d j) w := by
  obtain ⟨a, b⟩ := h
  constructor <;> simp only [hi, decide_false, Bool.false_or] <;> assumption
theorem Sole.did (k : Nat) (W0 W1 : World) (d : Nat → Bool) : Sole k W0 W1 (fun j => decide (j = k) || d j) W1 := by
  constructor <;> simp
/- three operations change it, one after the other -/
structure Chain (i j k : Nat) (W0 W1 W2 W3 : World) (d : Nat → Bool) (w : World) : Prop where
  c0 : d i = false → w = W0
  c1 : d i = true → d j = false → w = W1
  c2 : d j = true → d k = false → w = W2
  c3 : d k = true → w = W3
  oj : d j = true → d i = true
  ok : d k = true → d j = true
section
variable {i j k : Nat} {W0 W1 W2 W3 : World} {d : Nat → Bool} {w : World}
theorem Chain.start : Chain i j k W0 W1 W2 W3 (fun _ => false) W0 := ⟨fun _ => rfl, (fun h => by cases h), (fun h => by cases h), (fun h => by cases h), (fun h => by cases h), (fun h => by cases h)⟩
theorem Chain.read (h : Chain i j k W0 W1 W2 W3 d w) {x : Nat} (hi : i ≠ x) (hj : j ≠ x) (hk : k ≠ x) : Chain i j k W0 W1 W2 W3 (fun y => decide (y = x) || d y) w := by
  obtain ⟨a, b, c, e, f, g⟩ := h
  constructor <;> simp only [hi, hj, hk, decide_false, Bool.false_or] <;> assumption
theorem Chain.first (hj : d j = false) (hk : d k = false) (e1 : j ≠ i) (e2 : k ≠ i) : Chain i j k W0 W1 W2 W3 (fun y => decide (y = i) || d y) W1 := by
  constructor <;> simp [hj, hk, e1, e2]
theorem Chain.second (hi : d i = true) (hk : d k = false) (e1 : k ≠ j) : Chain i j k W0 W1 W2 W3 (fun y => decide (y = j) || d y) W2 := by
  constructor <;> simp [hi, hk, e1]
end
/- operations -/
theorem op_move (a : Act) (w : World) (t : Nat) (oo : Oper) (ho : oo.op = .move (.tmp t)) : (execOp a.eval oo).run Try.prog w = .ok (.value (a.tmps.getD t undef)) w := by
  unfold execOp
  rw [ho]
  go_simp
theorem op_assign (a : Act) (w : World) (t : Nat) (oo : Oper) (ho : oo.op = .assign (.tmp t)) : (execOp a.eval oo).run Try.prog w = .ok (.value (a.tmps.getD t undef)) w := by
  unfold execOp
  rw [ho]
  go_simp
theorem op_call1 (a : Act) (w : World) (f t T : Nat) (hf : ∀ args w, (callFunc f args).run Try.prog w = .ok (.enter f args) w) (oo : Oper) (ho : oo.op = .call { callee := .value (.func f), args := #[.tmp t], argTypes := #[T] }) : (execOp a.eval oo).run Try.prog w = .ok (.enter f #[a.tmps.getD t undef]) w := by
  unfold execOp
  rw [ho]
  go_simp
end Go.Proofs.Ytjlnffkieocihaa.Str
namespace Go.Proofs.Ytjlnffkieocihaa.Sim
open Go.ChangeShapes Go.WideShapes Go.ChangeAt Go.RowKit Go.Maps Circ Cw

/-- the variable g holds the octets v, which lie in block gb -/
structure HasV (w : World) (g gb : Nat) (v : List UInt8) : Prop where
  c : w.cell? ⟨g, 0, none⟩ = some (.slice (some ⟨gb, 0, none⟩) v.length v.length)
  h : ∃ rest, w.heap[gb]? = some (.cells (Lib.byteCells v ++ rest).toArray 5 (0, 0))
theorem HasV.keep {w w' : World} {g gb : Nat} {v : List UInt8} (h : HasV w g gb v) (hb : Below w.heap.size w w') : HasV w' g gb v := by
  obtain ⟨c, r, h⟩ := h
  exact ⟨(hb.cell (World.block_lt_of_cell? _ _ c)).trans c, r, (hb.block _ (lt_of_block h)).trans h⟩
theorem HasV.lt {w : World} {g gb : Nat} {v : List UInt8} (h : HasV w g gb v) : g < w.heap.size ∧ gb < w.heap.size := by
  obtain ⟨c, r, h⟩ := h
  exact ⟨World.block_lt_of_cell? _ _ c, lt_of_block h⟩
theorem HasV.at {w : World} {g gb : Nat} {v : List UInt8} (h : HasV w g gb v) {i : Nat} (hi : i < v.length) : w.cell? ⟨gb, i, none⟩ = some (.int .u8 ((v[i].toNat : Nat) : Int)) := by
  obtain ⟨c, r, h⟩ := h
  rw [Lib.cell_of_heap h]
  have hl : i < (Lib.byteCells v).length := by rw [byteCells_len]; exact hi
  have e : (Lib.byteCells v)[i]? = some (.int .u8 ((v[i].toNat : Nat) : Int)) := by
    unfold Lib.byteCells
    rw [List.getElem?_map, List.getElem?_eq_getElem hi]; rfl
  rw [List.getElem?_toArray, List.getElem?_append_left hl, e]
theorem HasV.set {w : World} {g gb : Nat} {v : List UInt8} (h : HasV w g gb v) (hg : g ≠ gb) {i : Nat} (hi : i < v.length) (x : UInt8) : HasV (w.setCell ⟨gb, i, none⟩ (.int .u8 ((x.toNat : Nat) : Int))) g gb (v.set i x) := by
  obtain ⟨c, r, h⟩ := h
  have hl : i < (Lib.byteCells v).length := by rw [byteCells_len]; exact hi
  refine ⟨?_, r, ?_⟩
  · rw [World.cell?_of_block (w := w) (by exact Below.heap_setCell _ _ _ _ hg), c, List.length_set]
  · have e : Lib.byteCells (v.set i x) ++ r = (Lib.byteCells v ++ r).set i (.int .u8 ((x.toNat : Nat) : Int)) := by
      rw [List.set_append_left _ _ hl]
      congr 1
      unfold Lib.byteCells
      rw [List.map_set]
    rw [e]
    simp [World.setCell, Array.getElem?_modify, h]
theorem HasV.frozen {w : World} {g gb : Nat} {v : List UInt8} (h : HasV w g gb v) (i : Nat) : w.frozen? ⟨gb, i, none⟩ = false := by
  obtain ⟨c, r, h⟩ := h
  exact Lib.frozen_of_heap h i
theorem u8_49 (x : UInt8) : ((x.toNat : Int) == 49) = decide (some x = some (49 : UInt8)) := by
  rw [Bool.eq_iff_iff]
  simp only [beq_iff_eq, decide_eq_true_eq, Option.some.injEq]
  constructor
  · intro h
    apply UInt8.toNat_inj.1
    have : (49 : UInt8).toNat = 49 := rfl
    omega
  · rintro rfl; rfl
/-- what the closure over values answers of variable number i -/
theorem set1_any (g gb i : Nat) (v : List UInt8) (w : World) (h : HasV w g gb v) (hi : i < v.length) : Tells 59 #[.pointer (some ⟨g, 0, none⟩)] w (.int .i64 (i : Int)) (decide (v[i]? = some 49)) := by
  have c := h.c
  have c1 := h.at hi
  have hz : (i : Int) < (v.length : Int) := by omega
  unfold Tells
  show Calls Try.prog 59 #[.int .i64 (i : Int), .pointer (some ⟨g, 0, none⟩)] w _
  rw [List.getElem?_eq_getElem hi, ← u8_49]
  go_enter Try.func59, Try.ntmps59
  go_wp2
  go_ret
  exact ⟨rfl, Below.refl _ _⟩
end Go.Proofs.Ytjlnffkieocihaa.Sim
namespace Go.Proofs.Ytjlnffkieocihaa.Sim
open Go.ChangeShapes Go.WideShapes Go.ChangeAt Go.RowKit Go.Maps Circ Cw

end Go.Proofs.Ytjlnffkieocihaa.Sim
namespace Go.Proofs.Ytjlnffkieocihaa.Sim
open Go.ChangeShapes Go.WideShapes Go.ChangeAt Go.RowKit Go.Maps Circ Cw
open Str (op_move op_call1)

theorem op_index_u8 (a : Act) (w : World) (b n k : Nat) (t s : Nat) (h : a.tmps.getD t undef = .slice (some ⟨b, 0, none⟩) n n) (h2 : a.tmps.getD s undef = .int .i64 (k : Int)) (hk : k < n) (oo : Oper) (ho : oo.op = .indexAddr 63 (.tmp t) (.tmp s)) : (execOp a.eval oo).run Try.prog w = .ok (.value (.pointer (some ⟨b, k, none⟩))) w := by
  have h' : a.tmps[t]?.getD undef = .slice (some ⟨b, 0, none⟩) n n := by simpa using h
  have h2' : a.tmps[s]?.getD undef = .int .i64 (k : Int) := by simpa using h2
  have h0 : (0 : Int) ≤ k := by omega
  have h1 : (k : Int) < n := by omega
  unfold execOp
  rw [ho]
  go_simp
theorem op_index_str (a : Act) (w : World) (sx : ByteArray) (k : Nat) (xo : Int) (t s : Nat) (h : a.tmps.getD t undef = .string sx) (h2 : a.tmps.getD s undef = .int .i64 (k : Int)) (hk : k < sx.size) (hx : xo = (((sx.data.toList.getD k 0).toNat : Nat) : Int)) (oo : Oper) (ho : oo.op = .index 9 (.tmp t) (.tmp s)) : (execOp a.eval oo).run Try.prog w = .ok (.value (.int .u8 xo)) w := by
  have h' : a.tmps[t]?.getD undef = .string sx := by simpa using h
  have h2' : a.tmps[s]?.getD undef = .int .i64 (k : Int) := by simpa using h2
  have h0 : (0 : Int) ≤ k := by omega
  have h1 : (k : Int) < sx.size := by omega
  have hl : k < sx.data.toList.length := by simpa using hk
  have e : sx.data.toList.getD k 0 = sx[k]'hk := by
    rw [List.getD_eq_getElem?_getD, List.getElem?_eq_getElem hl, Option.getD_some, Array.getElem_toList]; rfl
  rw [hx, e]
  unfold execOp
  rw [ho]
  go_simp
theorem op_store_u8 (a : Act) (w : World) (g k : Nat) (u : Value) (x : Int) (t s : Nat) (h1 : a.tmps.getD t undef = .pointer (some ⟨g, k, none⟩)) (h2 : a.tmps.getD s undef = .int .u8 x) (hc : w.cell? ⟨g, k, none⟩ = some u) (hz : w.frozen? ⟨g, k, none⟩ = false) (oo : Oper) (ho : oo.op = .store 5 (.tmp t) (.tmp s)) : (execOp a.eval oo).run Try.prog w = .ok .skip (w.setCell ⟨g, k, none⟩ (.int .u8 x)) := by
  have h1' : a.tmps[t]?.getD undef = .pointer (some ⟨g, k, none⟩) := by simpa using h1
  have h2' : a.tmps[s]?.getD undef = .int .u8 x := by simpa using h2
  unfold execOp
  rw [ho]
  go_simp
theorem op_store_49 (a : Act) (w : World) (g k : Nat) (u : Value) (t : Nat) (h1 : a.tmps.getD t undef = .pointer (some ⟨g, k, none⟩)) (hc : w.cell? ⟨g, k, none⟩ = some u) (hz : w.frozen? ⟨g, k, none⟩ = false) (oo : Oper) (ho : oo.op = .store 5 (.tmp t) (.const (.int .u8 49))) : (execOp a.eval oo).run Try.prog w = .ok .skip (w.setCell ⟨g, k, none⟩ (.int .u8 49)) := by
  have h1' : a.tmps[t]?.getD undef = .pointer (some ⟨g, k, none⟩) := by simpa using h1
  unfold execOp
  rw [ho]
  go_simp
theorem op_load_Luint8 (a : Act) (w : World) (A : Addr) (t : Nat) (v : Value) (h : a.tmps.getD t undef = .pointer (some A)) (hc : w.cell? A = some v) (oo : Oper) (ho : oo.op = .load 63 (.tmp t)) : (execOp a.eval oo).run Try.prog w = .ok (.value v) w := by
  have h' : a.tmps[t]?.getD undef = .pointer (some A) := by simpa using h
  unfold execOp
  rw [ho]
  go_simp
/-- what operation j of the region leaves -/
def pinR (gb n j vi : Nat) (lv xo : Int) (sx : ByteArray) : Nat → (Nat → Value) → World → Prop
  | 0, f, _ => f 49 = .slice (some ⟨gb, 0, none⟩) n n
  | 1, f, _ => f 50 = .int .i64 lv
  | 2, f, _ => f 51 = .int .i64 (vi : Int)
  | 3, f, _ => f 52 = .string sx
  | 4, f, _ => f 53 = .int .i64 (j : Int)
  | 5, f, _ => f 54 = .int .u8 xo
  | 6, f, _ => f 55 = .pointer (some ⟨gb, vi, none⟩)
  | 7, _, _ => True
  | _, _, _ => True
def pinM : Nat → List Nat
  | 0 => [49]
  | 1 => [50]
  | 2 => [51]
  | 3 => [52]
  | 4 => [53]
  | 5 => [54]
  | 6 => [55]
  | 7 => []
  | _ => []
theorem pin_stab {gb n j vi : Nat} {lv xo : Int} {sx : ByteArray} (jj : Nat) {f f' : Nat → Value} {w w' : World}  (hf : ∀ t ∈ pinM jj, f' t = f t) (h : pinR gb n j vi lv xo sx jj f w) : pinR gb n j vi lv xo sx jj f' w' := by
  match jj, hf, h with
  | 0, hf, h => exact (hf 49 (by decide)).trans h
  | 1, hf, h => exact (hf 50 (by decide)).trans h
  | 2, hf, h => exact (hf 51 (by decide)).trans h
  | 3, hf, h => exact (hf 52 (by decide)).trans h
  | 4, hf, h => exact (hf 53 (by decide)).trans h
  | 5, hf, h => exact (hf 54 (by decide)).trans h
  | 6, hf, h => exact (hf 55 (by decide)).trans h
  | 7, _, _ => trivial
  | _ + 8, _, _ => trivial
theorem op_field_api_Latch_0 (a : Act) (w : World) (b : Nat) (t : Nat) (h : a.tmps.getD t undef = .pointer (some ⟨b, 0, none⟩)) (oo : Oper) (ho : oo.op = .fieldAddr 39 (.tmp t) 0) : (execOp a.eval oo).run Try.prog w = .ok (.value (.pointer (some ⟨b, 0, none⟩))) w := by
  have h' : a.tmps[t]?.getD undef = .pointer (some ⟨b, 0, none⟩) := by simpa using h
  unfold execOp
  rw [ho]
  go_simp
theorem op_load_int (a : Act) (w : World) (A : Addr) (t : Nat) (v : Value) (h : a.tmps.getD t undef = .pointer (some A)) (hc : w.cell? A = some v) (oo : Oper) (ho : oo.op = .load 3 (.tmp t)) : (execOp a.eval oo).run Try.prog w = .ok (.value v) w := by
  have h' : a.tmps[t]?.getD undef = .pointer (some A) := by simpa using h
  unfold execOp
  rw [ho]
  go_simp
/-- what operation j of the region leaves -/
def latchR (gb gt n j vi : Nat) (lv xo : Int) (sx : ByteArray) : Nat → (Nat → Value) → World → Prop
  | 0, f, _ => f 65 = .slice (some ⟨gb, 0, none⟩) n n
  | 1, f, _ => f 66 = .pointer (some ⟨gt, 0, none⟩)
  | 2, f, _ => f 67 = .int .i64 lv
  | 3, f, _ => f 68 = .int .i64 (vi : Int)
  | 4, f, _ => f 69 = .string sx
  | 5, f, _ => f 70 = .int .i64 (j : Int)
  | 6, f, _ => f 71 = .int .u8 xo
  | 7, f, _ => f 72 = .pointer (some ⟨gb, vi, none⟩)
  | 8, _, _ => True
  | _, _, _ => True
def latchM : Nat → List Nat
  | 0 => [65]
  | 1 => [66]
  | 2 => [67]
  | 3 => [68]
  | 4 => [69]
  | 5 => [70]
  | 6 => [71]
  | 7 => [72]
  | 8 => []
  | _ => []
theorem latch_stab {gb gt n j vi : Nat} {lv xo : Int} {sx : ByteArray} (jj : Nat) {f f' : Nat → Value} {w w' : World}  (hf : ∀ t ∈ latchM jj, f' t = f t) (h : latchR gb gt n j vi lv xo sx jj f w) : latchR gb gt n j vi lv xo sx jj f' w' := by
  match jj, hf, h with
  | 0, hf, h => exact (hf 65 (by decide)).trans h
  | 1, hf, h => exact (hf 66 (by decide)).trans h
  | 2, hf, h => exact (hf 67 (by decide)).trans h
  | 3, hf, h => exact (hf 68 (by decide)).trans h
  | 4, hf, h => exact (hf 69 (by decide)).trans h
  | 5, hf, h => exact (hf 70 (by decide)).trans h
  | 6, hf, h => exact (hf 71 (by decide)).trans h
  | 7, hf, h => exact (hf 72 (by decide)).trans h
  | 8, _, _ => trivial
  | _ + 9, _, _ => trivial
theorem op_field_api_And_0 (a : Act) (w : World) (b : Nat) (t : Nat) (h : a.tmps.getD t undef = .pointer (some ⟨b, 0, none⟩)) (oo : Oper) (ho : oo.op = .fieldAddr 43 (.tmp t) 0) : (execOp a.eval oo).run Try.prog w = .ok (.value (.pointer (some ⟨b, 0, none⟩))) w := by
  have h' : a.tmps[t]?.getD undef = .pointer (some ⟨b, 0, none⟩) := by simpa using h
  unfold execOp
  rw [ho]
  go_simp
/-- what operation j of the region leaves -/
def gateR (gb gt n vi : Nat) (lv : Int) : Nat → (Nat → Value) → World → Prop
  | 0, f, _ => f 92 = .slice (some ⟨gb, 0, none⟩) n n
  | 1, f, _ => f 93 = .pointer (some ⟨gt, 0, none⟩)
  | 2, f, _ => f 94 = .int .i64 lv
  | 3, f, _ => f 95 = .int .i64 (vi : Int)
  | 4, f, _ => f 96 = .pointer (some ⟨gb, vi, none⟩)
  | 5, _, _ => True
  | _, _, _ => True
def gateM : Nat → List Nat
  | 0 => [92]
  | 1 => [93]
  | 2 => [94]
  | 3 => [95]
  | 4 => [96]
  | 5 => []
  | _ => []
theorem gate_stab {gb gt n vi : Nat} {lv : Int} (jj : Nat) {f f' : Nat → Value} {w w' : World}  (hf : ∀ t ∈ gateM jj, f' t = f t) (h : gateR gb gt n vi lv jj f w) : gateR gb gt n vi lv jj f' w' := by
  match jj, hf, h with
  | 0, hf, h => exact (hf 92 (by decide)).trans h
  | 1, hf, h => exact (hf 93 (by decide)).trans h
  | 2, hf, h => exact (hf 94 (by decide)).trans h
  | 3, hf, h => exact (hf 95 (by decide)).trans h
  | 4, hf, h => exact (hf 96 (by decide)).trans h
  | 5, _, _ => trivial
  | _ + 6, _, _ => trivial
end Go.Proofs.Ytjlnffkieocihaa.Sim
namespace Go.Proofs.Ytjlnffkieocihaa.Str
open Go.ChangeShapes Go.WideShapes Go.ChangeAt Go.RowKit Go.Maps Circ Cw

theorem op_field_api_And_0 (a : Act) (w : World) (b : Nat) (t : Nat) (h : a.tmps.getD t undef = .pointer (some ⟨b, 0, none⟩)) (oo : Oper) (ho : oo.op = .fieldAddr 43 (.tmp t) 0) : (execOp a.eval oo).run Try.prog w = .ok (.value (.pointer (some ⟨b, 0, none⟩))) w := by
  have h' : a.tmps[t]?.getD undef = .pointer (some ⟨b, 0, none⟩) := by simpa using h
  unfold execOp
  rw [ho]
  go_simp
theorem op_load_int (a : Act) (w : World) (A : Addr) (t : Nat) (v : Value) (h : a.tmps.getD t undef = .pointer (some A)) (hc : w.cell? A = some v) (oo : Oper) (ho : oo.op = .load 3 (.tmp t)) : (execOp a.eval oo).run Try.prog w = .ok (.value v) w := by
  have h' : a.tmps[t]?.getD undef = .pointer (some A) := by simpa using h
  unfold execOp
  rw [ho]
  go_simp
theorem op_load_Lapi_And (a : Act) (w : World) (A : Addr) (t : Nat) (v : Value) (h : a.tmps.getD t undef = .pointer (some A)) (hc : w.cell? A = some v) (oo : Oper) (ho : oo.op = .load 24 (.tmp t)) : (execOp a.eval oo).run Try.prog w = .ok (.value v) w := by
  have h' : a.tmps[t]?.getD undef = .pointer (some A) := by simpa using h
  unfold execOp
  rw [ho]
  go_simp
end Go.Proofs.Ytjlnffkieocihaa.Str
namespace Go.Proofs.Ytjlnffkieocihaa.Str
open Go.ChangeShapes Go.WideShapes Go.ChangeAt Go.RowKit Go.Maps Circ Cw

/- one operation changes the world, into one of which P holds -/
structure Last (k : Nat) (W0 : World) (P : World → Prop) (d : Nat → Bool) (w : World) : Prop where
  c0 : d k = false → w = W0
  c1 : d k = true → P w
theorem Last.start (k : Nat) (W0 : World) (P : World → Prop) : Last k W0 P (fun _ => false) W0 := ⟨fun _ => rfl, fun h => by cases h⟩
theorem Last.read {k : Nat} {W0 w : World} {P : World → Prop} {d : Nat → Bool} (h : Last k W0 P d w) {i : Nat} (hi : k ≠ i) : Last k W0 P (fun j => decide (j = i) || d j) w := by
  obtain ⟨a, b⟩ := h
  constructor <;> simp only [hi, decide_false, Bool.false_or] <;> assumption
theorem Last.did {k : Nat} (W0 : World) {w : World} {P : World → Prop} (d : Nat → Bool) (h : P w) : Last k W0 P (fun j => decide (j = k) || d j) w := ⟨(by simp), fun _ => h⟩
theorem op_call2s (a : Act) (w : World) (f t s T S : Nat) (hf : ∀ args w, (callFunc f args).run Try.prog w = .ok (.enter f args) w) (oo : Oper) (ho : oo.op = .call { callee := .value (.func f), args := #[.tmp t, .tmp s], argTypes := #[T, S] }) : (execOp a.eval oo).run Try.prog w = .ok (.enter f #[a.tmps.getD t undef, a.tmps.getD s undef]) w := by
  unfold execOp
  rw [ho]
  go_simp
/- all numbers fit -/
structure FitH (h : Hs) : Prop where
  f : ∀ v s, h.F v = some s → I64 s
  g : ∀ q s, h.G q = some s → I64 s
end Go.Proofs.Ytjlnffkieocihaa.Str
namespace Go.Proofs.Ytjlnffkieocihaa.Cw
open Go.ChangeShapes Go.WideShapes Go.ChangeAt Go.RowKit Go.Maps Circ

theorem OwnI.mono {w : World} {base C : Nat} {v : Value} {xs : List Int} (h : OwnI w base v xs) (hC : C ≤ base) : OwnI w C v xs := by
  obtain ⟨h0, h⟩ := h
  refine ⟨h0, ?_⟩
  rcases h with h | ⟨g, cap, cur, hv, hg, r⟩
  · exact .inl h
  · exact .inr ⟨g, cap, cur, hv, by omega, r⟩

/-- what is written down behind k of the literals -/
def Got (ands : List Tri) (l : List Int) (k : Nat) (T : List Int) : Prop := T.Nodup ∧ (∀ u ∈ T, Hangs ands l u) ∧ ∀ x ∈ l.take k, cnt x / 2 = 0 ∨ cnt x / 2 ∈ T
def inn (T : List Int) (x : Int) : Prop := cnt x / 2 = 0 ∨ cnt x / 2 ∈ T
theorem inn_put (T : List Int) (x y : Int) (h : inn T y) : inn (put T x) y := by
  rcases h with h | h
  · exact .inl h
  · exact .inr ((mem_put T x _).2 (.inl h))
theorem inn_self (T : List Int) (x : Int) : inn (put T x) x := by
  by_cases h : cnt x / 2 = 0
  · exact .inl h
  · exact .inr ((mem_put T x _).2 (.inr ⟨rfl, h⟩))
theorem Got.zero (ands : List Tri) (l : List Int) : Got ands l 0 [] := ⟨List.nodup_nil, by simp, by simp⟩
theorem Got.put {ands : List Tri} {l : List Int} {k : Nat} {T : List Int} (h : Got ands l k T) (x : Int) (hx : cnt x / 2 ≠ 0 → Hangs ands l (cnt x / 2)) : Got ands l k (put T x) := by
  refine ⟨put_nodup T x h.1, fun u hu => ?_, fun y hy => inn_put T x y (h.2.2 y hy)⟩
  rcases (mem_put T x u).1 hu with h1 | ⟨rfl, h2⟩
  · exact h.2.1 u h1
  · exact hx h2
theorem Got.step {ands : List Tri} {l : List Int} {k : Nat} {T : List Int} (h : Got ands l k T) (hk : k < l.length) : Got ands l (k + 1) (Cw.put T l[k]) := by
  have h1 := h.put l[k] (fun h0 => .start _ (List.getElem_mem _) h0)
  refine ⟨h1.1, h1.2.1, fun y hy => ?_⟩
  rw [List.take_succ_eq_append_getElem hk, List.mem_append, List.mem_singleton] at hy
  rcases hy with hy | rfl
  · exact h1.2.2 y hy
  · exact inn_self T _
theorem Got.len {ands : List Tri} {l : List Int} {k : Nat} {T : List Int} (h : Got ands l k T) : T.length ≤ l.length + 2 * ands.length := hangs_len h.1 h.2.1
/-- the first j of them have been gone through -/
def Clo (ands : List Tri) (j : Nat) (T : List Int) : Prop := ∀ (i : Nat) (h : i < T.length), i < j → ∀ t, andOf ands T[i] = some t → inn T t.b ∧ inn T t.c
theorem Clo.zero (ands : List Tri) (T : List Int) : Clo ands 0 T := fun _ _ h => by omega
theorem Clo.put {ands : List Tri} {j : Nat} {T : List Int} (h : Clo ands j T) (hj : j ≤ T.length) (x : Int) : Clo ands j (Cw.put T x) := fun i hi hij t ht => by
  obtain ⟨_, e⟩ := put_get T x i (by omega)
  rw [e] at ht
  obtain ⟨a, b⟩ := h i (by omega) hij t ht
  exact ⟨inn_put T x _ a, inn_put T x _ b⟩
theorem Clo.skip {ands : List Tri} {j : Nat} {T : List Int} (h : Clo ands j T) (hj : j < T.length) (hn : andOf ands T[j] = none) : Clo ands (j + 1) T := fun i hi hij t ht => by
  by_cases e : i = j
  · subst e; rw [hn] at ht; cases ht
  · exact h i hi (by omega) t ht
theorem Clo.more {ands : List Tri} {j : Nat} {T : List Int} (h : Clo ands j T) (hj : j < T.length) (t : Tri) (hn : andOf ands T[j] = some t) : Clo ands (j + 1) (Cw.put (Cw.put T t.b) t.c) := fun i hi hij t' ht => by
  have h2 := (h.put (by omega) t.b).put (by have := put_len T t.b; omega) t.c
  by_cases e : i = j
  · subst e
    obtain ⟨h3, e1⟩ := put_get T t.b i hj
    obtain ⟨_, e2⟩ := put_get (Cw.put T t.b) t.c i h3
    rw [e2, e1, hn] at ht
    obtain rfl := Option.some.inj ht
    exact ⟨inn_put _ _ _ (inn_self T _), inn_self _ _⟩
  · exact h2 i hi (by omega) t' ht
theorem Clo.done {ands : List Tri} {l T : List Int} (h : Clo ands T.length T) (g : Got ands l l.length T) (u : Int) : u ∈ T ↔ Hangs ands l u := by
  refine ⟨g.2.1 u, fun hu => ?_⟩
  have key : ∀ v ∈ T, ∀ t, andOf ands v = some t → inn T t.b ∧ inn T t.c := fun v hv t ht => by
    obtain ⟨i, hi, rfl⟩ := List.getElem_of_mem hv
    exact h i hi hi t ht
  induction hu with
  | start x hx h0 =>
    rcases g.2.2 x (by rwa [List.take_of_length_le (Nat.le_refl _)]) with h1 | h1
    · exact absurd h1 h0
    · exact h1
  | left v t _ ht h0 ih =>
    rcases (key v ih t ht).1 with h1 | h1
    · exact absurd h1 h0
    · exact h1
  | right v t _ ht h0 ih =>
    rcases (key v ih t ht).2 with h1 | h1
    · exact absurd h1 h0
    · exact h1
end Go.Proofs.Ytjlnffkieocihaa.Cw
namespace Go.Proofs.Ytjlnffkieocihaa.Cw
open Go.ChangeShapes Go.WideShapes Go.ChangeAt Go.RowKit Go.Maps Circ

end Go.Proofs.Ytjlnffkieocihaa.Cw
namespace Go.Proofs.Ytjlnffkieocihaa.Cpy
open Go.ChangeShapes Go.WideShapes Go.ChangeAt Go.RowKit Circ Cw

theorem strclone_any (s : ByteArray) (w : World) (hs : s.size ≤ 281474976710656) : Calls Try.prog 91 #[.string s] w fun e w' => e = .returned (.string s) ∧ Below w.heap.size w w' := by
  have C := Lib.hid (Try.stringslite_Clone s w hs)
  go_enter Try.func91, Try.ntmps91
  go_wp2_with fail
  refine C.out.mono ?_
  rintro e w' ⟨rfl, hb⟩
  go_wp2
  go_ret
  exact ⟨rfl, hb⟩
end Go.Proofs.Ytjlnffkieocihaa.Cpy
