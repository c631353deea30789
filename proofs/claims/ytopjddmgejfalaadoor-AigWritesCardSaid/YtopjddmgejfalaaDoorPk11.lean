/- Stores of whole values, cell by cell, into one block: the worlds between, and what is as it was; no condition. The walk of aag's reading of a latch's line; no condition. The walks of aig's renumbering: variables numbered in a row, and literals by it; condition: numbers within bounds. The walk of aag's Print of a circuit that may be; condition: the table of powers of ten is as it is laid. -/
import Derived.Test.YtopjddmgejfalaaDoorPk05
import Derived.Test.YtopjddmgejfalaaDoorPk10
import Derived.Test.YtopjddmgejfalaaDoorPk08
import Derived.Test.YtopjddmgejfalaaDoorPk07
namespace Go.Proofs.YtopjddmgejfalaaDoor.Cw
open Go.ChangeShapes Go.WideShapes Go.ChangeAt Go.RowKit

/-- w' is w but for block g -/
structure But (g : Nat) (w w' : World) : Prop where
  b : ∀ k, k ≠ g → w'.heap[k]? = w.heap[k]?
  z : w'.heap.size = w.heap.size
  os : w'.os = w.os
  tape : w'.tape = w.tape
  output : w'.output = w.output
theorem But.refl (g : Nat) (w : World) : But g w w := ⟨fun _ _ => rfl, rfl, rfl, rfl, rfl⟩
theorem But.trans {g : Nat} {a b c : World} (h : But g a b) (k : But g b c) : But g a c := ⟨fun i hi => (k.b i hi).trans (h.b i hi), k.z.trans h.z, k.os.trans h.os, k.tape.trans h.tape, k.output.trans h.output⟩
theorem But.set (w : World) (g i : Nat) (v : Value) : But g w (w.setCell ⟨g, i, none⟩ v) := ⟨fun _ hk => Below.heap_setCell _ _ _ _ hk, by simp [World.setCell], rfl, rfl, rfl⟩
theorem But.below {g B : Nat} {W w w' : World} (h : But g w w') (hb : Below B W w) (hg : B ≤ g) : Below B W w' :=
  ⟨h.os.trans hb.os, h.tape.trans hb.tape, h.output.trans hb.output, by rw [h.z]; exact hb.size, fun k hk => (h.b k (by omega)).trans (hb.block k hk)⟩
theorem But.block {g k : Nat} {w w' : World} (h : But g w w') {x : Option Obj} (hx : w.heap[k]? = x) (hk : k ≠ g) : w'.heap[k]? = x := (h.b k hk).trans hx
theorem store_at {P : Program} {w : World} {g : Nat} {z : Array Value} {e : TypeId} (hg : w.heap[g]? = some (.cells z e (0, 0))) (i : Nat) (v : Value) (hv : v.oneCell' = true) (hi : i < z.size) : ∃ w', (store ⟨g, i, none⟩ v).run P w = .ok () w' ∧ w'.heap[g]? = some (.cells (z.setIfInBounds i v) e (0, 0)) ∧ But g w w' := by
  refine ⟨w.setCell ⟨g, i, none⟩ v, ?_, by simp [World.setCell, Array.getElem?_modify, hg], But.set w g i v⟩
  rw [run_store P w _ v _ hv]
  simp [World.frozen?, World.cell?, hg, hi]
theorem step_set {g : Nat} {e : TypeId} (w : World) (z : Array Value) (i : Nat) (v : Value) (hg : w.heap[g]? = some (.cells z e (0, 0))) (hi : i < z.size) : ∃ Z u, (w.setCell ⟨g, i, none⟩ v = Z ∧ w.cell? ⟨g, i, none⟩ = some u ∧ w.frozen? ⟨g, i, none⟩ = false) ∧ Z.heap[g]? = some (.cells (z.setIfInBounds i v) e (0, 0)) ∧ But g w Z :=
  ⟨_, z[i], ⟨rfl, by simp [World.cell?, hg, hi], by simp [World.frozen?, hg]⟩, by simp [World.setCell, Array.getElem?_modify, hg], But.set w g i v⟩
theorem set_all1 (z : Array Value) (hz : z.size = 1) (x0 : Value) : z.setIfInBounds 0 x0 = #[x0] := by
  obtain ⟨l⟩ := z
  have hz' : l.length = 1 := by simpa using hz
  clear hz
  rcases l with _ | ⟨a0, l⟩ <;> simp only [List.length_cons, List.length_nil] at hz'
  · omega
  obtain rfl : l = [] := List.eq_nil_of_length_eq_zero (by omega)
  simp
theorem store1 {w : World} {g : Nat} {z : Array Value} {e : TypeId} (hg : w.heap[g]? = some (.cells z e (0, 0))) (hz : z.size = 1) (x0 : Value) :
    ∃ Z1 : World, ∃ u0 : Value, (w.setCell ⟨g, 0, none⟩ x0 = Z1 ∧ w.cell? ⟨g, 0, none⟩ = some u0 ∧ w.frozen? ⟨g, 0, none⟩ = false) ∧ Z1.heap[g]? = some (.cells #[x0] e (0, 0)) ∧ But g w Z1 := by
  obtain ⟨Z1, u0, r0, g0, b0⟩ := step_set w z 0 x0 hg (by omega)
  rw [set_all1 z hz] at g0
  exact ⟨Z1, u0, r0, g0, b0⟩
theorem set_all8 (z : Array Value) (hz : z.size = 8) (x0 x1 x2 x3 x4 x5 x6 x7 : Value) : (((((((z.setIfInBounds 0 x0).setIfInBounds 1 x1).setIfInBounds 2 x2).setIfInBounds 3 x3).setIfInBounds 4 x4).setIfInBounds 5 x5).setIfInBounds 6 x6).setIfInBounds 7 x7 = #[x0, x1, x2, x3, x4, x5, x6, x7] := by
  obtain ⟨l⟩ := z
  have hz' : l.length = 8 := by simpa using hz
  clear hz
  rcases l with _ | ⟨a0, l⟩ <;> simp only [List.length_cons, List.length_nil] at hz'
  · omega
  rcases l with _ | ⟨a1, l⟩ <;> simp only [List.length_cons, List.length_nil] at hz'
  · omega
  rcases l with _ | ⟨a2, l⟩ <;> simp only [List.length_cons, List.length_nil] at hz'
  · omega
  rcases l with _ | ⟨a3, l⟩ <;> simp only [List.length_cons, List.length_nil] at hz'
  · omega
  rcases l with _ | ⟨a4, l⟩ <;> simp only [List.length_cons, List.length_nil] at hz'
  · omega
  rcases l with _ | ⟨a5, l⟩ <;> simp only [List.length_cons, List.length_nil] at hz'
  · omega
  rcases l with _ | ⟨a6, l⟩ <;> simp only [List.length_cons, List.length_nil] at hz'
  · omega
  rcases l with _ | ⟨a7, l⟩ <;> simp only [List.length_cons, List.length_nil] at hz'
  · omega
  obtain rfl : l = [] := List.eq_nil_of_length_eq_zero (by omega)
  simp
theorem store8 {w : World} {g : Nat} {z : Array Value} {e : TypeId} (hg : w.heap[g]? = some (.cells z e (0, 0))) (hz : z.size = 8) (x0 x1 x2 x3 x4 x5 x6 x7 : Value) :
    ∃ Z1 Z2 Z3 Z4 Z5 Z6 Z7 Z8 : World, ∃ u0 u1 u2 u3 u4 u5 u6 u7 : Value, (w.setCell ⟨g, 0, none⟩ x0 = Z1 ∧ w.cell? ⟨g, 0, none⟩ = some u0 ∧ w.frozen? ⟨g, 0, none⟩ = false) ∧ (Z1.setCell ⟨g, 1, none⟩ x1 = Z2 ∧ Z1.cell? ⟨g, 1, none⟩ = some u1 ∧ Z1.frozen? ⟨g, 1, none⟩ = false) ∧ (Z2.setCell ⟨g, 2, none⟩ x2 = Z3 ∧ Z2.cell? ⟨g, 2, none⟩ = some u2 ∧ Z2.frozen? ⟨g, 2, none⟩ = false) ∧ (Z3.setCell ⟨g, 3, none⟩ x3 = Z4 ∧ Z3.cell? ⟨g, 3, none⟩ = some u3 ∧ Z3.frozen? ⟨g, 3, none⟩ = false) ∧ (Z4.setCell ⟨g, 4, none⟩ x4 = Z5 ∧ Z4.cell? ⟨g, 4, none⟩ = some u4 ∧ Z4.frozen? ⟨g, 4, none⟩ = false) ∧ (Z5.setCell ⟨g, 5, none⟩ x5 = Z6 ∧ Z5.cell? ⟨g, 5, none⟩ = some u5 ∧ Z5.frozen? ⟨g, 5, none⟩ = false) ∧ (Z6.setCell ⟨g, 6, none⟩ x6 = Z7 ∧ Z6.cell? ⟨g, 6, none⟩ = some u6 ∧ Z6.frozen? ⟨g, 6, none⟩ = false) ∧ (Z7.setCell ⟨g, 7, none⟩ x7 = Z8 ∧ Z7.cell? ⟨g, 7, none⟩ = some u7 ∧ Z7.frozen? ⟨g, 7, none⟩ = false) ∧ Z8.heap[g]? = some (.cells #[x0, x1, x2, x3, x4, x5, x6, x7] e (0, 0)) ∧ But g w Z8 := by
  obtain ⟨Z1, u0, r0, g0, b0⟩ := step_set w z 0 x0 hg (by omega)
  obtain ⟨Z2, u1, r1, g1, b1⟩ := step_set Z1 _ 1 x1 g0 (by simp; omega)
  obtain ⟨Z3, u2, r2, g2, b2⟩ := step_set Z2 _ 2 x2 g1 (by simp; omega)
  obtain ⟨Z4, u3, r3, g3, b3⟩ := step_set Z3 _ 3 x3 g2 (by simp; omega)
  obtain ⟨Z5, u4, r4, g4, b4⟩ := step_set Z4 _ 4 x4 g3 (by simp; omega)
  obtain ⟨Z6, u5, r5, g5, b5⟩ := step_set Z5 _ 5 x5 g4 (by simp; omega)
  obtain ⟨Z7, u6, r6, g6, b6⟩ := step_set Z6 _ 6 x6 g5 (by simp; omega)
  obtain ⟨Z8, u7, r7, g7, b7⟩ := step_set Z7 _ 7 x7 g6 (by simp; omega)
  rw [set_all8 z hz] at g7
  exact ⟨Z1, Z2, Z3, Z4, Z5, Z6, Z7, Z8, u0, u1, u2, u3, u4, u5, u6, u7, r0, r1, r2, r3, r4, r5, r6, r7, g7, b0.trans (b1.trans (b2.trans (b3.trans (b4.trans (b5.trans (b6.trans (b7)))))))⟩
end Go.Proofs.YtopjddmgejfalaaDoor.Cw
namespace Go.Proofs.YtopjddmgejfalaaDoor.Aag
open Go.ChangeShapes Go.WideShapes Go.ChangeAt Go.RowKit Dig Circ Cw

theorem op_store_int (a : Act) (w : World) (g k : Nat) (z : Array Value) (E : TypeId) (hg : w.heap[g]? = some (.cells z E (0, 0))) (hk : k < z.size) (x : Int) (p s : Nat) (hp : a.tmps.getD p undef = .pointer (some ⟨g, k, none⟩)) (hs : a.tmps.getD s undef = .int .i64 x) (o : Oper) (ho : o.op = .store 3 (.tmp p) (.tmp s)) : ∃ w', (execOp a.eval o).run Tryd.prog w = .ok .skip w' ∧ w'.heap[g]? = some (.cells (z.setIfInBounds k (.int .i64 x)) E (0, 0)) ∧ But g w w' := by
  obtain ⟨Z, u, ⟨hS1, p0, t0⟩, E3, FF⟩ := step_set w z k (.int .i64 x) hg hk
  refine ⟨Z, ?_, E3, FF⟩
  unfold execOp
  rw [ho]
  have hp' : a.tmps[p]?.getD undef = .pointer (some ⟨g, k, none⟩) := by simpa using hp
  have hs' : a.tmps[s]?.getD undef = .int .i64 x := by simpa using hs
  clear hp hs hg hk E3 FF
  go_simp
theorem op_load_string (a : Act) (w : World) (A : Addr) (t : Nat) (v : Value) (h : a.tmps.getD t undef = .pointer (some A)) (hc : w.cell? A = some v) (oo : Oper) (ho : oo.op = .load 9 (.tmp t)) : (execOp a.eval oo).run Tryd.prog w = .ok (.value v) w := by
  have h' : a.tmps[t]?.getD undef = .pointer (some A) := by simpa using h
  unfold execOp
  rw [ho]
  go_simp
theorem op_field_api_Latch_2 (a : Act) (w : World) (b : Nat) (t : Nat) (h : a.tmps.getD t undef = .pointer (some ⟨b, 0, none⟩)) (oo : Oper) (ho : oo.op = .fieldAddr 41 (.tmp t) 2) : (execOp a.eval oo).run Tryd.prog w = .ok (.value (.pointer (some ⟨b, 2, none⟩))) w := by
  have h' : a.tmps[t]?.getD undef = .pointer (some ⟨b, 0, none⟩) := by simpa using h
  unfold execOp
  rw [ho]
  go_simp
end Go.Proofs.YtopjddmgejfalaaDoor.Aag
namespace Go.Proofs.YtopjddmgejfalaaDoor.Aig
open Go.ChangeShapes Go.WideShapes Go.ChangeAt Go.RowKit Dig Circ Cw Aag

/-- the heap is as it was -/
structure Still (w w' : World) : Prop where
  b : ∀ k : Nat, w'.heap[k]? = w.heap[k]?
  os : w'.os = w.os
  tape : w'.tape = w.tape
  output : w'.output = w.output
theorem Still.size {w w' : World} (h : Still w w') : w'.heap.size = w.heap.size := by
  rcases Nat.lt_trichotomy w'.heap.size w.heap.size with e | e | e
  · have := h.b w'.heap.size
    rw [Array.getElem?_eq_none (Nat.le_refl _), Array.getElem?_eq_getElem e] at this; cases this
  · exact e
  · have := h.b w.heap.size
    rw [Array.getElem?_eq_none (Nat.le_refl _), Array.getElem?_eq_getElem e] at this; cases this
theorem Still.below {w w' : World} (h : Still w w') : Below w.heap.size w w' := ⟨h.os, h.tape, h.output, Nat.le_of_eq h.size.symm, fun k _ => h.b k⟩

theorem cell_one {w : World} {g : Nat} {v : Value} {T : TypeId} (h : w.heap[g]? = some (.cells #[v] T (0, 0))) : w.cell? ⟨g, 0, none⟩ = some v := by rw [Lib.cell_of_heap h]; rfl
def numC (m : Nat) (R : List Int) : Array Value := ((List.range (m + 1)).map fun (v : Nat) => Value.int .i64 (numAt R (v : Int))).toArray
theorem numC_size (m : Nat) (R : List Int) : (numC m R).size = m + 1 := by unfold numC; simp
theorem numC_at (m v : Nat) (R : List Int) (h : v < m + 1) : (numC m R)[v]? = some (.int .i64 (numAt R (v : Int))) := by
  unfold numC
  rw [List.getElem?_toArray, List.getElem?_map, List.getElem?_range h]; rfl
theorem numC_set (m v : Nat) (x : Int) (R : List Int) (hx : cnt x / 2 = (v : Int)) : (numC m R).setIfInBounds v (.int .i64 ((R.length : Int) + 1)) = numC m (x :: R) := by
  apply Array.ext_getElem?
  intro i
  by_cases hi : i < m + 1
  · rw [numC_at m i _ hi, Array.getElem?_setIfInBounds]
    by_cases he : v = i
    · subst he
      rw [if_pos rfl, if_pos (by rw [numC_size]; omega), numAt, if_pos hx]
    · rw [if_neg he, numC_at m i R hi, numAt, if_neg (by omega)]
  · rw [Array.getElem?_eq_none (by rw [Array.size_setIfInBounds, numC_size]; omega), Array.getElem?_eq_none (by rw [numC_size]; omega)]
/-- the numbers of the variables that were met, the last one first -/
structure Num (B gl gn nb m : Nat) (R : List Int) (w : World) : Prop where
  l : w.heap[gl]? = some (.cells #[.int .i64 (R.length : Int)] 3 (0, 0))
  n : w.heap[gn]? = some (.cells #[.slice (some ⟨nb, 0, none⟩) (m + 1) (m + 1)] 22 (0, 0))
  r : w.heap[nb]? = some (.cells (numC m R) 3 (0, 0))
  d : gl ≠ nb ∧ gl ≠ gn ∧ gn ≠ nb
  b : B ≤ gl ∧ B ≤ gn ∧ B ≤ nb
theorem Num.below {B gl gn nb m : Nat} {R : List Int} {w w' : World} (h : Num B gl gn nb m R w) (hb : Below w.heap.size w w') : Num B gl gn nb m R w' :=
  ⟨(hb.block _ (lt_of_block h.l)).trans h.l, (hb.block _ (lt_of_block h.n)).trans h.n, (hb.block _ (lt_of_block h.r)).trans h.r, h.d, h.b⟩

theorem op_index_int_at (a : Act) (w : World) (b o n q k : Nat) (t s : Nat) (h : a.tmps.getD t undef = .slice (some ⟨b, o, none⟩) n q) (h2 : a.tmps.getD s undef = .int .i64 (k : Int)) (hk : k < n) (oo : Oper) (ho : oo.op = .indexAddr 22 (.tmp t) (.tmp s)) : (execOp a.eval oo).run Tryd.prog w = .ok (.value (.pointer (some ⟨b, o + k, none⟩))) w := by
  have h' : a.tmps[t]?.getD undef = .slice (some ⟨b, o, none⟩) n q := by simpa using h
  have h2' : a.tmps[s]?.getD undef = .int .i64 (k : Int) := by simpa using h2
  unfold execOp
  rw [ho]
  have h0 : (0 : Int) ≤ k := by omega
  have h1 : (k : Int) < n := by omega
  go_simp
theorem make_all (v : Int) (b : Bool) (w : World) (h0 : 0 ≤ v) (h1 : v ≤ 4096) :
    Calls Tryd.prog 49 #[.int .i64 v, .bool b] w fun e w' => e = .returned (.int .i64 (2 * v + (if b = true then 1 else 0))) ∧ w = w' := by
  have h : ¬ v < 0 := by omega
  have h' : ¬ 1099511627776 < v := by omega
  cases b
  · go_enter Tryd.func49, Tryd.ntmps49
    go_wp2
    go_ret
    exact ⟨by simp, rfl⟩
  · go_enter Tryd.func49, Tryd.ntmps49
    go_wp2
    go_ret
    exact ⟨rfl, rfl⟩
theorem op_load_Lint (a : Act) (w : World) (A : Addr) (t : Nat) (v : Value) (h : a.tmps.getD t undef = .pointer (some A)) (hc : w.cell? A = some v) (oo : Oper) (ho : oo.op = .load 22 (.tmp t)) : (execOp a.eval oo).run Tryd.prog w = .ok (.value v) w := by
  have h' : a.tmps[t]?.getD undef = .pointer (some A) := by simpa using h
  unfold execOp
  rw [ho]
  go_simp
theorem op_load_int (a : Act) (w : World) (A : Addr) (t : Nat) (v : Value) (h : a.tmps.getD t undef = .pointer (some A)) (hc : w.cell? A = some v) (oo : Oper) (ho : oo.op = .load 3 (.tmp t)) : (execOp a.eval oo).run Tryd.prog w = .ok (.value v) w := by
  have h' : a.tmps[t]?.getD undef = .pointer (some A) := by simpa using h
  unfold execOp
  rw [ho]
  go_simp
/-- what operation j of the region leaves -/
def def1R (nb m v : Nat) (x : Int) (R : List Int) : Nat → (Nat → Value) → World → Prop
  | 0, f, _ => f 6 = .slice (some ⟨nb, 0, none⟩) (m + 1) (m + 1)
  | 1, f, _ => f 7 = .int .i64 x
  | 2, f, _ => f 8 = .int .i64 (v : Int)
  | 3, f, _ => f 9 = .int .i64 ((R.length : Int) + 1)
  | 4, f, _ => f 10 = .pointer (some ⟨nb, v, none⟩)
  | 5, _, w => w.heap[nb]? = some (.cells (numC m (x :: R)) 3 (0, 0))
  | _, _, _ => True
def def1M : Nat → List Nat
  | 0 => [6]
  | 1 => [7]
  | 2 => [8]
  | 3 => [9]
  | 4 => [10]
  | 5 => []
  | _ => []
theorem def1_stab {nb m v : Nat} {x : Int} {R : List Int} (jj : Nat) {f f' : Nat → Value} {w w' : World} (h5 : jj = 5 → Below w.heap.size w w') (hf : ∀ t ∈ def1M jj, f' t = f t) (h : def1R nb m v x R jj f w) : def1R nb m v x R jj f' w' := by
  match jj, hf, h, h5 with
  | 0, hf, h, _ => exact (hf 6 (by decide)).trans h
  | 1, hf, h, _ => exact (hf 7 (by decide)).trans h
  | 2, hf, h, _ => exact (hf 8 (by decide)).trans h
  | 3, hf, h, _ => exact (hf 9 (by decide)).trans h
  | 4, hf, h, _ => exact (hf 10 (by decide)).trans h
  | 5, hf, h, h5 =>
    exact ((h5 rfl).block nb (lt_of_block h)).trans h
  | _ + 6, _, _, _ => trivial

set_option maxHeartbeats 2000000 in
set_option maxRecDepth 100000 in
theorem define_any (B gl gn nb m v : Nat) (x : Int) (R : List Int) (w : World) (h : Num B gl gn nb m R w) (hx : cnt x / 2 = (v : Int)) (hv : v ≤ m) (hx1 : x ≤ 9223372036854775807) (hR : R.length ≤ 1099511627776) :
    Calls Tryd.prog 46 #[.int .i64 x, .pointer (some ⟨gl, 0, none⟩), .pointer (some ⟨gn, 0, none⟩)] w fun e w' => e = .returned (.tuple #[]) ∧ Num B gl gn nb m (x :: R) w' ∧ Below B w w' := by
  obtain ⟨Z1, u0, ⟨hS1, p0, t0⟩, E1, F1⟩ := store1 h.l rfl (.int .i64 ((R.length : Int) + 1))
  have c0 : w.cell? ⟨gl, 0, none⟩ = some (.int .i64 (R.length : Int)) := cell_one h.l
  have NE : Hid (gl ≠ nb ∧ gl ≠ gn ∧ gn ≠ nb) := h.d
  have HB := Lib.hid h.b
  have CL := Lib.hid E1
  have CN : Hid (Z1.heap[gn]? = some (.cells #[.slice (some ⟨nb, 0, none⟩) (m + 1) (m + 1)] 22 (0, 0))) := (F1.b gn (fun e => h.d.2.1 e.symm)).trans h.n
  have CR : Hid (Z1.heap[nb]? = some (.cells (numC m R) 3 (0, 0))) := (F1.b nb (fun e => h.d.1 e.symm)).trans h.r
  have HF1 := Lib.hid F1
  have HV : Hid (v < m + 1) := by unfold Hid; omega
  have HX := Lib.hid hx
  have VA := Lib.hid (fun w => var_any x w hx1)
  rw [hx] at VA
  have EV : Hid (∀ args w, (callFunc 47 args).run Tryd.prog w = .ok (.enter 47 args) w) := enters_of Tryd.func47 (by kernel_rfl) rfl
  clear h hx hv hx1 E1 F1
  obtain ⟨n, hn⟩ : ∃ n, n = R.length := ⟨_, rfl⟩
  rw [← hn] at c0 hS1 hR CL
  have HN := Lib.hid hn
  clear hn
  have hu : u0 = .int .i64 (n : Int) := Option.some.inj (p0.symm.trans c0)
  subst hu
  clear c0
  go_enter Tryd.func46, Tryd.ntmps46
  go_wp2
  obtain ⟨w1, rfl⟩ : ∃ w1, w1 = Z1 := ⟨_, rfl⟩
  rw [HN.out] at CL
  clear hS1 p0 t0
  refine wp_region_valsD (by kernel_rfl) (by kernel_rfl) def1M (by kernel_rfl) (by kernel_rfl)
    (fun d w' => But nb w1 w' ∧ (d 5 = false → w'.heap[nb]? = w1.heap[nb]?)) (def1R nb m v x R) ⟨⟨fun _ _ => rfl, rfl, rfl, rfl, rfl⟩, fun _ => rfl⟩ (fun jj f f' w w' hb hf h => def1_stab jj (fun _ => hb) hf h) ?_ ?_
  · intro i oo d a' w' ho hd hun hdf hok hD K hK hK0
    match i, ho, hd, hD, hK, hK0, hun with
    | 0, ho, hd, hD, hK, hK0, hun =>
      have e := (congrArg Oper.op (Option.some.inj ho)).symm
      obtain rfl := Option.some.inj ho
      exact wp_val (op_load_Lint a' w' _ 2 _ (hun 2 (by kernel_rfl)) (cell_one ((hok.1.b gn NE.out.2.2).trans CN.out)) _ e) (hK _ _ (Below.refl _ _) ⟨hok.1, fun h => hok.2 (by simp only [Bool.or_eq_false_iff] at h; exact h.2)⟩ (fun f h1 _ => h1 _ rfl))
    | 1, ho, hd, hD, hK, hK0, hun =>
      have e := (congrArg Oper.op (Option.some.inj ho)).symm
      obtain rfl := Option.some.inj ho
      exact wp_val (op_move a' w' 0 _ e) (hK _ _ (Below.refl _ _) ⟨hok.1, fun h => hok.2 (by simp only [Bool.or_eq_false_iff] at h; exact h.2)⟩ (fun f h1 _ => (h1 _ rfl).trans (hun 0 (by kernel_rfl))))
    | 2, ho, hd, hD, hK, hK0, hun =>
      have e := (congrArg Oper.op (Option.some.inj ho)).symm
      obtain rfl := Option.some.inj ho
      refine wp_enter (op_call1 a' w' _ 7 _ EV.out _ e) ?_
      rw [show a'.tmps.getD 7 undef = .int .i64 x from hD 1 (by kernel_rfl)]
      refine (VA.out w').mono ?_
      rintro e w'' ⟨rfl, rfl⟩
      exact .inl ⟨_, rfl, hK _ _ (Below.refl _ _) ⟨hok.1, fun h => hok.2 (by simp only [Bool.or_eq_false_iff] at h; exact h.2)⟩ (fun f h1 _ => h1 _ rfl)⟩
    | 3, ho, hd, hD, hK, hK0, hun =>
      have e := (congrArg Oper.op (Option.some.inj ho)).symm
      obtain rfl := Option.some.inj ho
      exact wp_val (op_load_int a' w' _ 1 _ (hun 1 (by kernel_rfl)) (cell_one ((hok.1.b gl NE.out.1).trans CL.out)) _ e) (hK _ _ (Below.refl _ _) ⟨hok.1, fun h => hok.2 (by simp only [Bool.or_eq_false_iff] at h; exact h.2)⟩ (fun f h1 _ => h1 _ rfl))
    | 4, ho, hd, hD, hK, hK0, hun =>
      have e := (congrArg Oper.op (Option.some.inj ho)).symm
      obtain rfl := Option.some.inj ho
      have q := op_index_int_at a' w' nb 0 (m + 1) (m + 1) v 6 8 (hD 0 (by kernel_rfl)) (hD 2 (by kernel_rfl)) HV.out _ e
      rw [Nat.zero_add] at q
      exact wp_val q (hK _ _ (Below.refl _ _) ⟨hok.1, fun h => hok.2 (by simp only [Bool.or_eq_false_iff] at h; exact h.2)⟩ (fun f h1 _ => h1 _ rfl))
    | 5, ho, hd, hD, hK, hK0, hun =>
      have e := (congrArg Oper.op (Option.some.inj ho)).symm
      obtain rfl := Option.some.inj ho
      obtain ⟨w'', hr, hgc2, hbut⟩ := op_store_int a' w' nb v _ _ ((hok.2 (hd 5 (by kernel_rfl))).trans CR.out) (by rw [numC_size]; exact HV.out) _ 10 9 (hD 4 (by kernel_rfl)) (hD 3 (by kernel_rfl)) _ e
      rw [numC_set m v x R HX.out] at hgc2
      exact wp_skip' hr (hK0 _ _ ⟨hok.1.trans hbut, fun h => by simp at h⟩ (fun f _ _ => hgc2) (fun j f hj hf hq => def1_stab j (fun e2 => absurd e2 hj) hf hq))
    | i + 6, ho, _, _, _, _, _ => exact absurd ho (by simp)
  · intro a' w3 hsz hdf hkt hok hR
    have HF3 := frame_sets [6, 7, 8, 9, 10] (by kernel_rfl) hsz hkt
    obtain ⟨d, hok⟩ := hok
    have hr5 : w3.heap[nb]? = some (.cells (numC m (x :: R)) 3 (0, 0)) := hR 5 (by decide)
    have HR5 := Lib.hid hr5
    have HO := Lib.hid hok.1
    clear hr5 hok
    obtain ⟨tm, df⟩ := a'
    obtain rfl : df = _ := hdf
    simp only [List.foldl_cons, List.foldl_nil] at HF3
    clear hkt hR hsz
    generalize tm.getD 6 undef = y6 at HF3
    generalize tm.getD 7 undef = y7 at HF3
    generalize tm.getD 8 undef = y8 at HF3
    generalize tm.getD 9 undef = y9 at HF3
    generalize tm.getD 10 undef = y10 at HF3
    simp only [List.setIfInBounds_toArray, List.set_cons_succ, List.set_cons_zero] at HF3
    subst HF3
    go_wp2
    go_end0
    have NE' := NE.out
    have HB' := HB.out
    refine ⟨rfl, ⟨?_, (HO.out.b gn NE'.2.2).trans CN.out, HR5.out, NE', HB'⟩, HO.out.below (HF1.out.below (Below.refl _ _) HB'.1) HB'.2.2⟩
    rw [HO.out.b gl NE'.1, CL.out]
    simp
/-- what operation j of the region leaves -/
def ren1R (nb m v : Nat) (x : Int) (R : List Int) : Nat → (Nat → Value) → World → Prop
  | 0, f, _ => f 4 = .slice (some ⟨nb, 0, none⟩) (m + 1) (m + 1)
  | 1, f, _ => f 5 = .int .i64 x
  | 2, f, _ => f 6 = .int .i64 (v : Int)
  | 3, f, _ => f 7 = .pointer (some ⟨nb, v, none⟩)
  | 4, f, _ => f 8 = .int .i64 (numAt R (v : Int))
  | 5, f, _ => f 9 = .int .i64 x
  | 6, f, _ => f 10 = .bool (decide (cnt x % 2 = 1))
  | 7, f, _ => f 11 = .int .i64 (2 * numAt R (v : Int) + cnt x % 2)
  | 8, f, _ => f 3 = .int .i64 (2 * numAt R (v : Int) + cnt x % 2)
  | _, _, _ => True
def ren1M : Nat → List Nat
  | 0 => [4]
  | 1 => [5]
  | 2 => [6]
  | 3 => [7]
  | 4 => [8]
  | 5 => [9]
  | 6 => [10]
  | 7 => [11]
  | 8 => [3]
  | _ => []
theorem ren1_stab {nb m v : Nat} {x : Int} {R : List Int} (jj : Nat) {f f' : Nat → Value} {w w' : World}  (hf : ∀ t ∈ ren1M jj, f' t = f t) (h : ren1R nb m v x R jj f w) : ren1R nb m v x R jj f' w' := by
  match jj, hf, h with
  | 0, hf, h => exact (hf 4 (by decide)).trans h
  | 1, hf, h => exact (hf 5 (by decide)).trans h
  | 2, hf, h => exact (hf 6 (by decide)).trans h
  | 3, hf, h => exact (hf 7 (by decide)).trans h
  | 4, hf, h => exact (hf 8 (by decide)).trans h
  | 5, hf, h => exact (hf 9 (by decide)).trans h
  | 6, hf, h => exact (hf 10 (by decide)).trans h
  | 7, hf, h => exact (hf 11 (by decide)).trans h
  | 8, hf, h => exact (hf 3 (by decide)).trans h
  | _ + 9, _, _ => trivial

set_option maxHeartbeats 2000000 in
set_option maxRecDepth 100000 in
theorem renum_any (B gl gn nb m v : Nat) (x : Int) (R : List Int) (w : World) (h : Num B gl gn nb m R w) (hx : cnt x / 2 = (v : Int)) (hv : v ≤ m) (hx1 : x ≤ 9223372036854775807) (hR : 0 ≤ numAt R (v : Int) ∧ numAt R (v : Int) ≤ 4096) :
    Calls Tryd.prog 48 #[.int .i64 x, .pointer (some ⟨gn, 0, none⟩)] w fun e w' => e = .returned (.int .i64 (2 * numAt R (cnt x / 2) + cnt x % 2)) ∧ Below w.heap.size w w' := by
  have CN : Hid (w.heap[gn]? = some (.cells #[.slice (some ⟨nb, 0, none⟩) (m + 1) (m + 1)] 22 (0, 0))) := h.n
  have CC : Hid (∀ w' : World, w'.heap[nb]? = w.heap[nb]? → w'.cell? ⟨nb, v, none⟩ = some (.int .i64 (numAt R (v : Int)))) := fun w' hw => by
    rw [Lib.cell_of_heap (hw.trans h.r)]
    exact numC_at m v R (by omega)
  have HV : Hid (v < m + 1) := by unfold Hid; omega
  have VA := Lib.hid (fun w => var_any x w hx1)
  rw [hx] at VA
  have NA := Lib.hid (fun w => neg_any x w hx1)
  have hif : (if decide (cnt x % 2 = 1) = true then (1 : Int) else 0) = cnt x % 2 := by
    have h1 := (cnt_bd x hx1).1
    by_cases q : cnt x % 2 = 1
    · rw [decide_eq_true q, if_pos rfl, q]
    · rw [decide_eq_false q, if_neg (by simp)]; omega
  have MA := Lib.hid (fun w => make_all (numAt R (v : Int)) (decide (cnt x % 2 = 1)) w hR.1 hR.2)
  rw [hif] at MA
  have EV : Hid (∀ args w, (callFunc 47 args).run Tryd.prog w = .ok (.enter 47 args) w) := enters_of Tryd.func47 (by kernel_rfl) rfl
  have EN : Hid (∀ args w, (callFunc 50 args).run Tryd.prog w = .ok (.enter 50 args) w) := enters_of Tryd.func50 (by kernel_rfl) rfl
  have EM : Hid (∀ args w, (callFunc 49 args).run Tryd.prog w = .ok (.enter 49 args) w) := enters_of Tryd.func49 (by kernel_rfl) rfl
  rw [hx]
  clear h hx hv hx1 hR hif
  go_enter Tryd.func48, Tryd.ntmps48
  go_wp2
  refine wp_region_valsD (by kernel_rfl) (by kernel_rfl) ren1M (by kernel_rfl) (by kernel_rfl)
    (fun _ w' => Still w w') (ren1R nb m v x R) ⟨fun _ => rfl, rfl, rfl, rfl⟩ (fun jj f f' w w' hb hf h => ren1_stab jj  hf h) ?_ ?_
  · intro i oo d a' w' ho hd hun hdf hok hD K hK hK0
    match i, ho, hd, hD, hK, hK0, hun with
    | 0, ho, hd, hD, hK, hK0, hun =>
      have e := (congrArg Oper.op (Option.some.inj ho)).symm
      obtain rfl := Option.some.inj ho
      exact wp_val (op_load_Lint a' w' _ 1 _ (hun 1 (by kernel_rfl)) (cell_one ((hok.b gn).trans CN.out)) _ e) (hK _ _ (Below.refl _ _) hok (fun f h1 _ => h1 _ rfl))
    | 1, ho, hd, hD, hK, hK0, hun =>
      have e := (congrArg Oper.op (Option.some.inj ho)).symm
      obtain rfl := Option.some.inj ho
      exact wp_val (op_move a' w' 0 _ e) (hK _ _ (Below.refl _ _) hok (fun f h1 _ => (h1 _ rfl).trans (hun 0 (by kernel_rfl))))
    | 2, ho, hd, hD, hK, hK0, hun =>
      have e := (congrArg Oper.op (Option.some.inj ho)).symm
      obtain rfl := Option.some.inj ho
      refine wp_enter (op_call1 a' w' _ 5 _ EV.out _ e) ?_
      rw [show a'.tmps.getD 5 undef = .int .i64 x from hD 1 (by kernel_rfl)]
      refine (VA.out w').mono ?_
      rintro e w'' ⟨rfl, rfl⟩
      exact .inl ⟨_, rfl, hK _ _ (Below.refl _ _) hok (fun f h1 _ => h1 _ rfl)⟩
    | 3, ho, hd, hD, hK, hK0, hun =>
      have e := (congrArg Oper.op (Option.some.inj ho)).symm
      obtain rfl := Option.some.inj ho
      have q := op_index_int_at a' w' nb 0 (m + 1) (m + 1) v 4 6 (hD 0 (by kernel_rfl)) (hD 2 (by kernel_rfl)) HV.out _ e
      rw [Nat.zero_add] at q
      exact wp_val q (hK _ _ (Below.refl _ _) hok (fun f h1 _ => h1 _ rfl))
    | 4, ho, hd, hD, hK, hK0, hun =>
      have e := (congrArg Oper.op (Option.some.inj ho)).symm
      obtain rfl := Option.some.inj ho
      exact wp_val (op_load_int a' w' _ 7 _ (hD 3 (by kernel_rfl)) (CC.out w' (hok.b nb)) _ e) (hK _ _ (Below.refl _ _) hok (fun f h1 _ => h1 _ rfl))
    | 5, ho, hd, hD, hK, hK0, hun =>
      have e := (congrArg Oper.op (Option.some.inj ho)).symm
      obtain rfl := Option.some.inj ho
      exact wp_val (op_move a' w' 0 _ e) (hK _ _ (Below.refl _ _) hok (fun f h1 _ => (h1 _ rfl).trans (hun 0 (by kernel_rfl))))
    | 6, ho, hd, hD, hK, hK0, hun =>
      have e := (congrArg Oper.op (Option.some.inj ho)).symm
      obtain rfl := Option.some.inj ho
      refine wp_enter (op_call1 a' w' _ 9 _ EN.out _ e) ?_
      rw [show a'.tmps.getD 9 undef = .int .i64 x from hD 5 (by kernel_rfl)]
      refine (NA.out w').mono ?_
      rintro e w'' ⟨rfl, rfl⟩
      exact .inl ⟨_, rfl, hK _ _ (Below.refl _ _) hok (fun f h1 _ => h1 _ rfl)⟩
    | 7, ho, hd, hD, hK, hK0, hun =>
      have e := (congrArg Oper.op (Option.some.inj ho)).symm
      obtain rfl := Option.some.inj ho
      refine wp_enter (op_call2 a' w' _ 8 10 _ _ EM.out _ e) ?_
      rw [show a'.tmps.getD 8 undef = .int .i64 (numAt R (v : Int)) from hD 4 (by kernel_rfl), show a'.tmps.getD 10 undef = .bool (decide (cnt x % 2 = 1)) from hD 6 (by kernel_rfl)]
      refine (MA.out w').mono ?_
      rintro e w'' ⟨rfl, rfl⟩
      exact .inl ⟨_, rfl, hK _ _ (Below.refl _ _) hok (fun f h1 _ => h1 _ rfl)⟩
    | 8, ho, hd, hD, hK, hK0, hun =>
      have e := (congrArg Oper.op (Option.some.inj ho)).symm
      obtain rfl := Option.some.inj ho
      exact wp_val (op_assign a' w' 11 _ e) (hK _ _ (Below.refl _ _) hok (fun f h1 _ => (h1 _ rfl).trans (hD 7 (by kernel_rfl))))
    | i + 9, ho, _, _, _, _, _ => exact absurd ho (by simp)
  · intro a' w3 hsz hdf hkt hok hR
    have HF3 := frame_sets [3, 4, 5, 6, 7, 8, 9, 10, 11] (by kernel_rfl) hsz hkt
    obtain ⟨d, hok⟩ := hok
    have h3 : w3 = w3 ∧ vals a' 3 = .int .i64 (2 * numAt R (v : Int) + cnt x % 2) := ⟨rfl, hR 8 (by decide)⟩
    have h3 := h3.2
    have HO := Lib.hid hok
    clear hok
    obtain ⟨tm, df⟩ := a'
    obtain rfl : df = _ := hdf
    simp only [List.foldl_cons, List.foldl_nil] at HF3
    clear hkt hR hsz
    replace h3 : tm.getD 3 undef = _ := h3
    rw [h3] at HF3
    clear h3
    generalize tm.getD 4 undef = y4 at HF3
    generalize tm.getD 5 undef = y5 at HF3
    generalize tm.getD 6 undef = y6 at HF3
    generalize tm.getD 7 undef = y7 at HF3
    generalize tm.getD 8 undef = y8 at HF3
    generalize tm.getD 9 undef = y9 at HF3
    generalize tm.getD 10 undef = y10 at HF3
    generalize tm.getD 11 undef = y11 at HF3
    simp only [List.setIfInBounds_toArray, List.set_cons_succ, List.set_cons_zero] at HF3
    subst HF3
    go_wp2
    go_ret
    exact ⟨rfl, HO.out.below⟩
end Go.Proofs.YtopjddmgejfalaaDoor.Aig
namespace Go.Proofs.YtopjddmgejfalaaDoor.Aag
open Go.ChangeShapes Go.WideShapes Go.ChangeAt Go.RowKit Go.Maps Dig Circ Cw

theorem Tab.later {w w' : World} (h : Tab w) (hb : Below w.heap.size w w') : Tab w' := fun w2 hb2 => h w2 (hb.trans (hb2.mono hb.size))
theorem cells8 {w : World} {g : Nat} {c : Cir} {s : Places} (h : w.heap[g]? = some (.cells (cirC c s) 27 (0, 0))) : w.cell? ⟨g, 0, none⟩ = some (.int .i64 c.max) ∧ w.cell? ⟨g, 1, none⟩ = some (.slice s.ai c.ins.length s.ki) ∧ w.cell? ⟨g, 2, none⟩ = some (.slice s.al c.lats.length s.kl) ∧ w.cell? ⟨g, 3, none⟩ = some (.slice s.ao c.outs.length s.ko) ∧ w.cell? ⟨g, 4, none⟩ = some (.slice s.ab c.bads.length s.kb) ∧ w.cell? ⟨g, 5, none⟩ = some (.slice s.ac c.invs.length s.kc) ∧ w.cell? ⟨g, 6, none⟩ = some (.slice s.aa c.ands.length s.ka) ∧ w.cell? ⟨g, 7, none⟩ = some (.slice s.an c.names.length s.kn) := by
  have e : ∀ i, w.cell? ⟨g, i, none⟩ = (cirC c s)[i]? := fun i => by simp [World.cell?, h]
  exact ⟨e 0, e 1, e 2, e 3, e 4, e 5, e 6, e 7⟩
end Go.Proofs.YtopjddmgejfalaaDoor.Aag
