/- The operations of sim.Values's regions that draw their order, each run by itself; no condition. -/
import Derived.Test.YtpaneggajjgdlaaPt10
namespace Go.Proofs.Ytpaneggajjgdlaa.Sim
open Go.ChangeShapes Go.WideShapes Go.ChangeAt Go.RowKit Go.Maps Circ Cw
open Str (op_move op_call1)

theorem op_index_u8 (a : Act) (w : World) (b n k : Nat) (t s : Nat) (h : a.tmps.getD t undef = .slice (some ⟨b, 0, none⟩) n n) (h2 : a.tmps.getD s undef = .int .i64 (k : Int)) (hk : k < n) (oo : Oper) (ho : oo.op = .indexAddr 76 (.tmp t) (.tmp s)) : (execOp a.eval oo).run Try.prog w = .ok (.value (.pointer (some ⟨b, k, none⟩))) w := by
  have h' : a.tmps[t]?.getD undef = .slice (some ⟨b, 0, none⟩) n n := by simpa using h
  have h2' : a.tmps[s]?.getD undef = .int .i64 (k : Int) := by simpa using h2
  have h0 : (0 : Int) ≤ k := by omega
  have h1 : (k : Int) < n := by omega
  unfold execOp
  rw [ho]
  go_simp
theorem op_index_str (a : Act) (w : World) (sx : ByteArray) (k : Nat) (xo : Int) (t s : Nat) (h : a.tmps.getD t undef = .string sx) (h2 : a.tmps.getD s undef = .int .i64 (k : Int)) (hk : k < sx.size) (hx : xo = (((sx.data.toList.getD k 0).toNat : Nat) : Int)) (oo : Oper) (ho : oo.op = .index 9 (.tmp t) (.tmp s)) : (execOp a.eval oo).run Try.prog w = .ok (.value (.int .u8 xo)) w := by
  have h' : a.tmps[t]?.getD undef = .string sx := by simpa using h
  have h2' : a.tmps[s]?.getD undef = .int .i64 (k : Int) := by simpa using h2
  have h0 : (0 : Int) ≤ k := by omega
  have h1 : (k : Int) < sx.size := by omega
  have hl : k < sx.data.toList.length := by simpa using hk
  have e : sx.data.toList.getD k 0 = sx[k]'hk := by
    rw [List.getD_eq_getElem?_getD, List.getElem?_eq_getElem hl, Option.getD_some, Array.getElem_toList]; rfl
  rw [hx, e]
  unfold execOp
  rw [ho]
  go_simp
theorem op_store_u8 (a : Act) (w : World) (g k : Nat) (u : Value) (x : Int) (t s : Nat) (h1 : a.tmps.getD t undef = .pointer (some ⟨g, k, none⟩)) (h2 : a.tmps.getD s undef = .int .u8 x) (hc : w.cell? ⟨g, k, none⟩ = some u) (hz : w.frozen? ⟨g, k, none⟩ = false) (oo : Oper) (ho : oo.op = .store 5 (.tmp t) (.tmp s)) : (execOp a.eval oo).run Try.prog w = .ok .skip (w.setCell ⟨g, k, none⟩ (.int .u8 x)) := by
  have h1' : a.tmps[t]?.getD undef = .pointer (some ⟨g, k, none⟩) := by simpa using h1
  have h2' : a.tmps[s]?.getD undef = .int .u8 x := by simpa using h2
  unfold execOp
  rw [ho]
  go_simp
theorem op_store_49 (a : Act) (w : World) (g k : Nat) (u : Value) (t : Nat) (h1 : a.tmps.getD t undef = .pointer (some ⟨g, k, none⟩)) (hc : w.cell? ⟨g, k, none⟩ = some u) (hz : w.frozen? ⟨g, k, none⟩ = false) (oo : Oper) (ho : oo.op = .store 5 (.tmp t) (.const (.int .u8 49))) : (execOp a.eval oo).run Try.prog w = .ok .skip (w.setCell ⟨g, k, none⟩ (.int .u8 49)) := by
  have h1' : a.tmps[t]?.getD undef = .pointer (some ⟨g, k, none⟩) := by simpa using h1
  unfold execOp
  rw [ho]
  go_simp
theorem op_load_Luint8 (a : Act) (w : World) (A : Addr) (t : Nat) (v : Value) (h : a.tmps.getD t undef = .pointer (some A)) (hc : w.cell? A = some v) (oo : Oper) (ho : oo.op = .load 76 (.tmp t)) : (execOp a.eval oo).run Try.prog w = .ok (.value v) w := by
  have h' : a.tmps[t]?.getD undef = .pointer (some A) := by simpa using h
  unfold execOp
  rw [ho]
  go_simp
/-- what operation j of the region leaves -/
def pinR (gb n j vi : Nat) (lv xo : Int) (sx : ByteArray) : Nat → (Nat → Value) → World → Prop
  | 0, f, _ => f 49 = .slice (some ⟨gb, 0, none⟩) n n
  | 1, f, _ => f 50 = .int .i64 lv
  | 2, f, _ => f 51 = .int .i64 (vi : Int)
  | 3, f, _ => f 52 = .string sx
  | 4, f, _ => f 53 = .int .i64 (j : Int)
  | 5, f, _ => f 54 = .int .u8 xo
  | 6, f, _ => f 55 = .pointer (some ⟨gb, vi, none⟩)
  | 7, _, _ => True
  | _, _, _ => True
def pinM : Nat → List Nat
  | 0 => [49]
  | 1 => [50]
  | 2 => [51]
  | 3 => [52]
  | 4 => [53]
  | 5 => [54]
  | 6 => [55]
  | 7 => []
  | _ => []
theorem pin_stab {gb n j vi : Nat} {lv xo : Int} {sx : ByteArray} (jj : Nat) {f f' : Nat → Value} {w w' : World}  (hf : ∀ t ∈ pinM jj, f' t = f t) (h : pinR gb n j vi lv xo sx jj f w) : pinR gb n j vi lv xo sx jj f' w' := by
  match jj, hf, h with
  | 0, hf, h => exact (hf 49 (by decide)).trans h
  | 1, hf, h => exact (hf 50 (by decide)).trans h
  | 2, hf, h => exact (hf 51 (by decide)).trans h
  | 3, hf, h => exact (hf 52 (by decide)).trans h
  | 4, hf, h => exact (hf 53 (by decide)).trans h
  | 5, hf, h => exact (hf 54 (by decide)).trans h
  | 6, hf, h => exact (hf 55 (by decide)).trans h
  | 7, _, _ => trivial
  | _ + 8, _, _ => trivial
theorem op_field_api_Latch_0 (a : Act) (w : World) (b : Nat) (t : Nat) (h : a.tmps.getD t undef = .pointer (some ⟨b, 0, none⟩)) (oo : Oper) (ho : oo.op = .fieldAddr 39 (.tmp t) 0) : (execOp a.eval oo).run Try.prog w = .ok (.value (.pointer (some ⟨b, 0, none⟩))) w := by
  have h' : a.tmps[t]?.getD undef = .pointer (some ⟨b, 0, none⟩) := by simpa using h
  unfold execOp
  rw [ho]
  go_simp
theorem op_load_int (a : Act) (w : World) (A : Addr) (t : Nat) (v : Value) (h : a.tmps.getD t undef = .pointer (some A)) (hc : w.cell? A = some v) (oo : Oper) (ho : oo.op = .load 3 (.tmp t)) : (execOp a.eval oo).run Try.prog w = .ok (.value v) w := by
  have h' : a.tmps[t]?.getD undef = .pointer (some A) := by simpa using h
  unfold execOp
  rw [ho]
  go_simp
/-- what operation j of the region leaves -/
def latchR (gb gt n j vi : Nat) (lv xo : Int) (sx : ByteArray) : Nat → (Nat → Value) → World → Prop
  | 0, f, _ => f 65 = .slice (some ⟨gb, 0, none⟩) n n
  | 1, f, _ => f 66 = .pointer (some ⟨gt, 0, none⟩)
  | 2, f, _ => f 67 = .int .i64 lv
  | 3, f, _ => f 68 = .int .i64 (vi : Int)
  | 4, f, _ => f 69 = .string sx
  | 5, f, _ => f 70 = .int .i64 (j : Int)
  | 6, f, _ => f 71 = .int .u8 xo
  | 7, f, _ => f 72 = .pointer (some ⟨gb, vi, none⟩)
  | 8, _, _ => True
  | _, _, _ => True
def latchM : Nat → List Nat
  | 0 => [65]
  | 1 => [66]
  | 2 => [67]
  | 3 => [68]
  | 4 => [69]
  | 5 => [70]
  | 6 => [71]
  | 7 => [72]
  | 8 => []
  | _ => []
theorem latch_stab {gb gt n j vi : Nat} {lv xo : Int} {sx : ByteArray} (jj : Nat) {f f' : Nat → Value} {w w' : World}  (hf : ∀ t ∈ latchM jj, f' t = f t) (h : latchR gb gt n j vi lv xo sx jj f w) : latchR gb gt n j vi lv xo sx jj f' w' := by
  match jj, hf, h with
  | 0, hf, h => exact (hf 65 (by decide)).trans h
  | 1, hf, h => exact (hf 66 (by decide)).trans h
  | 2, hf, h => exact (hf 67 (by decide)).trans h
  | 3, hf, h => exact (hf 68 (by decide)).trans h
  | 4, hf, h => exact (hf 69 (by decide)).trans h
  | 5, hf, h => exact (hf 70 (by decide)).trans h
  | 6, hf, h => exact (hf 71 (by decide)).trans h
  | 7, hf, h => exact (hf 72 (by decide)).trans h
  | 8, _, _ => trivial
  | _ + 9, _, _ => trivial
theorem op_field_api_And_0 (a : Act) (w : World) (b : Nat) (t : Nat) (h : a.tmps.getD t undef = .pointer (some ⟨b, 0, none⟩)) (oo : Oper) (ho : oo.op = .fieldAddr 43 (.tmp t) 0) : (execOp a.eval oo).run Try.prog w = .ok (.value (.pointer (some ⟨b, 0, none⟩))) w := by
  have h' : a.tmps[t]?.getD undef = .pointer (some ⟨b, 0, none⟩) := by simpa using h
  unfold execOp
  rw [ho]
  go_simp
/-- what operation j of the region leaves -/
def gateR (gb gt n vi : Nat) (lv : Int) : Nat → (Nat → Value) → World → Prop
  | 0, f, _ => f 92 = .slice (some ⟨gb, 0, none⟩) n n
  | 1, f, _ => f 93 = .pointer (some ⟨gt, 0, none⟩)
  | 2, f, _ => f 94 = .int .i64 lv
  | 3, f, _ => f 95 = .int .i64 (vi : Int)
  | 4, f, _ => f 96 = .pointer (some ⟨gb, vi, none⟩)
  | 5, _, _ => True
  | _, _, _ => True
def gateM : Nat → List Nat
  | 0 => [92]
  | 1 => [93]
  | 2 => [94]
  | 3 => [95]
  | 4 => [96]
  | 5 => []
  | _ => []
theorem gate_stab {gb gt n vi : Nat} {lv : Int} (jj : Nat) {f f' : Nat → Value} {w w' : World}  (hf : ∀ t ∈ gateM jj, f' t = f t) (h : gateR gb gt n vi lv jj f w) : gateR gb gt n vi lv jj f' w' := by
  match jj, hf, h with
  | 0, hf, h => exact (hf 92 (by decide)).trans h
  | 1, hf, h => exact (hf 93 (by decide)).trans h
  | 2, hf, h => exact (hf 94 (by decide)).trans h
  | 3, hf, h => exact (hf 95 (by decide)).trans h
  | 4, hf, h => exact (hf 96 (by decide)).trans h
  | 5, _, _ => trivial
  | _ + 6, _, _ => trivial
end Go.Proofs.Ytpaneggajjgdlaa.Sim
