/- The walks of aag.Parse and of the function that recovers in it; condition: the cell of bytealg.MaxLen holds a number. -/
import Derived.Test.YtckdlbfndmmjjaaGreatDoorAagCirc
import Derived.Recover
import Derived.OwnWalk
namespace Go.Proofs.YtckdlbfndmmjjaaGreatDoor.Aag
open Go.ChangeShapes Go.WideShapes Go.ChangeAt Go.RowKit Dig Circ Cw

theorem op_build_zero (a : Act) (w : World) (oo : Oper) (ho : oo.op = .build 27 #[]) : (execOp a.eval oo).run Tryz.prog w = .ok (.value (.agg #[.int .i64 0, .slice none 0 0, .slice none 0 0, .slice none 0 0, .slice none 0 0, .slice none 0 0, .slice none 0 0, .slice none 0 0])) w := by
  unfold execOp
  rw [ho]
  go_simp
theorem op_field_source_2 (a : Act) (w : World) (b : Nat) (t : Nat) (h : a.tmps.getD t undef = .pointer (some ⟨b, 0, none⟩)) (oo : Oper) (ho : oo.op = .fieldAddr 64 (.tmp t) 2) : (execOp a.eval oo).run Tryz.prog w = .ok (.value (.pointer (some ⟨b, 2, none⟩))) w := by
  have h' : a.tmps[t]?.getD undef = .pointer (some ⟨b, 0, none⟩) := by simpa using h
  unfold execOp
  rw [ho]
  go_simp
theorem op_load_cir (a : Act) (w : World) (g : Nat) (m : Int) (v1 v2 v3 v4 v5 v6 v7 : Value) (t : Nat) (hg : w.heap[g]? = some (.cells #[.int .i64 m, v1, v2, v3, v4, v5, v6, v7] 27 (0, 0))) (h : a.tmps.getD t undef = .pointer (some ⟨g, 0, none⟩)) (oo : Oper) (ho : oo.op = .load 27 (.tmp t)) : (execOp a.eval oo).run Tryz.prog w = .ok (.value (.agg #[.int .i64 m, v1, v2, v3, v4, v5, v6, v7])) w := by
  have h' : a.tmps[t]?.getD undef = .pointer (some ⟨g, 0, none⟩) := by simpa using h
  have c0 : w.cell? ⟨g, 0, none⟩ = some (.int .i64 m) := by simp [World.cell?, hg]
  have c1 : w.cell? ⟨g, 1, none⟩ = some v1 := by simp [World.cell?, hg]
  have c2 : w.cell? ⟨g, 2, none⟩ = some v2 := by simp [World.cell?, hg]
  have c3 : w.cell? ⟨g, 3, none⟩ = some v3 := by simp [World.cell?, hg]
  have c4 : w.cell? ⟨g, 4, none⟩ = some v4 := by simp [World.cell?, hg]
  have c5 : w.cell? ⟨g, 5, none⟩ = some v5 := by simp [World.cell?, hg]
  have c6 : w.cell? ⟨g, 6, none⟩ = some v6 := by simp [World.cell?, hg]
  have c7 : w.cell? ⟨g, 7, none⟩ = some v7 := by simp [World.cell?, hg]
  clear h hg
  unfold execOp
  rw [ho]
  go_simp
theorem op_store_cir (a : Act) (w : World) (g : Nat) (z : Array Value) (hg : w.heap[g]? = some (.cells z 27 (0, 0))) (hz : z.size = 8) (m : Int) (X1 X2 X3 X4 X5 X6 X7 : Option Addr × Nat × Nat) (p s : Nat) (hp : a.tmps.getD p undef = .pointer (some ⟨g, 0, none⟩)) (hs : a.tmps.getD s undef = .agg #[.int .i64 m, .slice X1.1 X1.2.1 X1.2.2, .slice X2.1 X2.2.1 X2.2.2, .slice X3.1 X3.2.1 X3.2.2, .slice X4.1 X4.2.1 X4.2.2, .slice X5.1 X5.2.1 X5.2.2, .slice X6.1 X6.2.1 X6.2.2, .slice X7.1 X7.2.1 X7.2.2]) (o : Oper) (ho : o.op = .store 27 (.tmp p) (.tmp s)) : ∃ w', (execOp a.eval o).run Tryz.prog w = .ok .skip w' ∧ w'.heap[g]? = some (.cells #[.int .i64 m, .slice X1.1 X1.2.1 X1.2.2, .slice X2.1 X2.2.1 X2.2.2, .slice X3.1 X3.2.1 X3.2.2, .slice X4.1 X4.2.1 X4.2.2, .slice X5.1 X5.2.1 X5.2.2, .slice X6.1 X6.2.1 X6.2.2, .slice X7.1 X7.2.1 X7.2.2] 27 (0, 0)) ∧ But g w w' := by
  obtain ⟨A1, n1, q1⟩ := X1
  obtain ⟨A2, n2, q2⟩ := X2
  obtain ⟨A3, n3, q3⟩ := X3
  obtain ⟨A4, n4, q4⟩ := X4
  obtain ⟨A5, n5, q5⟩ := X5
  obtain ⟨A6, n6, q6⟩ := X6
  obtain ⟨A7, n7, q7⟩ := X7
  simp only at hs ⊢
  obtain ⟨Z1, Z2, Z3, Z4, Z5, Z6, Z7, Z8, v0, v1, v2, v3, v4, v5, v6, v7, ⟨hX1, a0, b0⟩, ⟨hX2, a1, b1⟩, ⟨hX3, a2, b2⟩, ⟨hX4, a3, b3⟩, ⟨hX5, a4, b4⟩, ⟨hX6, a5, b5⟩, ⟨hX7, a6, b6⟩, ⟨hX8, a7, b7⟩, E8, FC⟩ := store8 hg hz (.int .i64 m) (.slice A1 n1 q1) (.slice A2 n2 q2) (.slice A3 n3 q3) (.slice A4 n4 q4) (.slice A5 n5 q5) (.slice A6 n6 q6) (.slice A7 n7 q7)
  refine ⟨Z8, ?_, E8, FC⟩
  have hp' : a.tmps[p]?.getD undef = .pointer (some ⟨g, 0, none⟩) := by simpa using hp
  have hs' : a.tmps[s]?.getD undef = .agg #[.int .i64 m, .slice A1 n1 q1, .slice A2 n2 q2, .slice A3 n3 q3, .slice A4 n4 q4, .slice A5 n5 q5, .slice A6 n6 q6, .slice A7 n7 q7] := by simpa using hs
  clear hp hs hg hz E8 FC
  unfold execOp
  rw [ho]
  go_simp
theorem op_store_int1 (a : Act) (w : World) (g : Nat) (z : Array Value) (hg : w.heap[g]? = some (.cells z 3 (0, 0))) (hz : z.size = 1) (x : Int) (p s : Nat) (hp : a.tmps.getD p undef = .pointer (some ⟨g, 0, none⟩)) (hs : a.tmps.getD s undef = .int .i64 x) (o : Oper) (ho : o.op = .store 3 (.tmp p) (.tmp s)) : ∃ w', (execOp a.eval o).run Tryz.prog w = .ok .skip w' ∧ w'.heap[g]? = some (.cells #[.int .i64 x] 3 (0, 0)) ∧ But g w w' := by
  obtain ⟨Z, hr, E, FF⟩ := op_store_int a w g 0 z _ hg (by omega) x p s hp hs o ho
  rw [set_all1 z hz] at E
  exact ⟨Z, hr, E, FF⟩
theorem op_store_errno (a : Act) (w : World) (g : Nat) (z : Array Value) (hg : w.heap[g]? = some (.cells z 29 (0, 0))) (hz : z.size = 1) (x : Int) (p s : Nat) (hp : a.tmps.getD p undef = .pointer (some ⟨g, 0, none⟩)) (hs : a.tmps.getD s undef = .int .i64 x) (o : Oper) (ho : o.op = .store 29 (.tmp p) (.tmp s)) : ∃ w', (execOp a.eval o).run Tryz.prog w = .ok .skip w' ∧ w'.heap[g]? = some (.cells #[.int .i64 x] 29 (0, 0)) ∧ But g w w' := by
  obtain ⟨Z, u, ⟨hS1, p0, t0⟩, E3, FF⟩ := step_set w z 0 (.int .i64 x) hg (by omega)
  rw [set_all1 z hz] at E3
  refine ⟨Z, ?_, E3, FF⟩
  have hp' : a.tmps[p]?.getD undef = .pointer (some ⟨g, 0, none⟩) := by simpa using hp
  have hs' : a.tmps[s]?.getD undef = .int .i64 x := by simpa using hs
  clear hp hs hg hz E3 FF
  unfold execOp
  rw [ho]
  go_simp
theorem op_store_errno_const (a : Act) (w : World) (g : Nat) (z : Array Value) (hg : w.heap[g]? = some (.cells z 29 (0, 0))) (hz : z.size = 1) (x : Int) (p : Nat) (hp : a.tmps.getD p undef = .pointer (some ⟨g, 0, none⟩)) (o : Oper) (ho : o.op = .store 29 (.tmp p) (.const (.int .i64 x))) : ∃ w', (execOp a.eval o).run Tryz.prog w = .ok .skip w' ∧ w'.heap[g]? = some (.cells #[.int .i64 x] 29 (0, 0)) ∧ But g w w' := by
  obtain ⟨Z, u, ⟨hS1, p0, t0⟩, E3, FF⟩ := step_set w z 0 (.int .i64 x) hg (by omega)
  rw [set_all1 z hz] at E3
  refine ⟨Z, ?_, E3, FF⟩
  have hp' : a.tmps[p]?.getD undef = .pointer (some ⟨g, 0, none⟩) := by simpa using hp
  clear hp hg hz E3 FF
  unfold execOp
  rw [ho]
  go_simp
/-- w' is W but for three boxes: a circuit's, a number's, an error's -/
structure Three (W : World) (z z1 z2 : Nat) (w' : World) : Prop where
  os : w'.os = W.os
  tape : w'.tape = W.tape
  output : w'.output = W.output
  size : w'.heap.size = W.heap.size
  rest : ∀ k, k ≠ z → k ≠ z1 → k ≠ z2 → w'.heap[k]? = W.heap[k]?
  c0 : ∃ x : Array Value, w'.heap[z]? = some (.cells x 27 (0, 0)) ∧ x.size = 8
  c1 : ∃ x : Array Value, w'.heap[z1]? = some (.cells x 3 (0, 0)) ∧ x.size = 1
  c2 : ∃ x : Array Value, w'.heap[z2]? = some (.cells x 29 (0, 0)) ∧ x.size = 1
theorem Three.drew {W w' : World} {z z1 z2 : Nat} (h : Three W z z1 z2 w') : Three W z z1 z2 w'.drew := ⟨h.os, h.tape, h.output, h.size, h.rest, h.c0, h.c1, h.c2⟩
theorem Three.but0 {W w' w'' : World} {z z1 z2 : Nat} (h : Three W z z1 z2 w') (hb : But z w' w'') {x : Array Value} (hx : w''.heap[z]? = some (.cells x 27 (0, 0))) (hs : x.size = 8) (hz : z ≠ z1 ∧ z ≠ z2 ∧ z1 ≠ z2) : Three W z z1 z2 w'' :=
  ⟨hb.os.trans h.os, hb.tape.trans h.tape, hb.output.trans h.output, hb.z.trans h.size, fun k h0 h1 h2 => (hb.b k h0).trans (h.rest k h0 h1 h2), ⟨x, hx, hs⟩, by rw [hb.b z1 (by omega)]; exact h.c1, by rw [hb.b z2 (by omega)]; exact h.c2⟩
theorem Three.but1 {W w' w'' : World} {z z1 z2 : Nat} (h : Three W z z1 z2 w') (hb : But z1 w' w'') {x : Array Value} (hx : w''.heap[z1]? = some (.cells x 3 (0, 0))) (hs : x.size = 1) (hz : z ≠ z1 ∧ z ≠ z2 ∧ z1 ≠ z2) : Three W z z1 z2 w'' :=
  ⟨hb.os.trans h.os, hb.tape.trans h.tape, hb.output.trans h.output, hb.z.trans h.size, fun k h0 h1 h2 => (hb.b k h1).trans (h.rest k h0 h1 h2), by rw [hb.b z (by omega)]; exact h.c0, ⟨x, hx, hs⟩, by rw [hb.b z2 (by omega)]; exact h.c2⟩
theorem Three.but2 {W w' w'' : World} {z z1 z2 : Nat} (h : Three W z z1 z2 w') (hb : But z2 w' w'') {x : Array Value} (hx : w''.heap[z2]? = some (.cells x 29 (0, 0))) (hs : x.size = 1) (hz : z ≠ z1 ∧ z ≠ z2 ∧ z1 ≠ z2) : Three W z z1 z2 w'' :=
  ⟨hb.os.trans h.os, hb.tape.trans h.tape, hb.output.trans h.output, hb.z.trans h.size, fun k h0 h1 h2 => (hb.b k h2).trans (h.rest k h0 h1 h2), by rw [hb.b z (by omega)]; exact h.c0, by rw [hb.b z1 (by omega)]; exact h.c1, ⟨x, hx, hs⟩⟩
theorem op_field_aag_fault_0 (a : Act) (w : World) (b : Nat) (t : Nat) (h : a.tmps.getD t undef = .pointer (some ⟨b, 0, none⟩)) (oo : Oper) (ho : oo.op = .fieldAddr 60 (.tmp t) 0) : (execOp a.eval oo).run Tryz.prog w = .ok (.value (.pointer (some ⟨b, 0, none⟩))) w := by
  have h' : a.tmps[t]?.getD undef = .pointer (some ⟨b, 0, none⟩) := by simpa using h
  unfold execOp
  rw [ho]
  go_simp
theorem op_field_aag_fault_1 (a : Act) (w : World) (b : Nat) (t : Nat) (h : a.tmps.getD t undef = .pointer (some ⟨b, 0, none⟩)) (oo : Oper) (ho : oo.op = .fieldAddr 60 (.tmp t) 1) : (execOp a.eval oo).run Tryz.prog w = .ok (.value (.pointer (some ⟨b, 1, none⟩))) w := by
  have h' : a.tmps[t]?.getD undef = .pointer (some ⟨b, 0, none⟩) := by simpa using h
  unfold execOp
  rw [ho]
  go_simp
theorem op_load_api_Errno (a : Act) (w : World) (A : Addr) (t : Nat) (v : Value) (h : a.tmps.getD t undef = .pointer (some A)) (hc : w.cell? A = some v) (oo : Oper) (ho : oo.op = .load 29 (.tmp t)) : (execOp a.eval oo).run Tryz.prog w = .ok (.value v) w := by
  have h' : a.tmps[t]?.getD undef = .pointer (some A) := by simpa using h
  unfold execOp
  rw [ho]
  go_simp
/-- what operation j of the region leaves -/
def cat3R (CT IT ET : TypeId) (z z1 z2 g b : Nat) (t : Int) : Nat → (Nat → Value) → World → Prop
  | 0, f, _ => f 10 = .agg #[.int .i64 0, .slice none 0 0, .slice none 0 0, .slice none 0 0, .slice none 0 0, .slice none 0 0, .slice none 0 0, .slice none 0 0]
  | 1, f, _ => f 11 = .pointer (some ⟨g, 0, none⟩)
  | 2, f, _ => f 12 = .int .i64 (b : Int)
  | 3, f, _ => f 13 = .pointer (some ⟨g, 1, none⟩)
  | 4, f, _ => f 14 = .int .i64 t
  | 5, _, w => w.heap[z]? = some (.cells #[.int .i64 0, .slice none 0 0, .slice none 0 0, .slice none 0 0, .slice none 0 0, .slice none 0 0, .slice none 0 0, .slice none 0 0] CT (0, 0))
  | 6, _, w => w.heap[z1]? = some (.cells #[.int .i64 (b : Int)] IT (0, 0))
  | 7, _, w => w.heap[z2]? = some (.cells #[.int .i64 t] ET (0, 0))
  | _, _, _ => True
def cat3M : Nat → List Nat
  | 0 => [10]
  | 1 => [11]
  | 2 => [12]
  | 3 => [13]
  | 4 => [14]
  | 5 => []
  | 6 => []
  | 7 => []
  | _ => []
theorem cat3_stab {CT IT ET : TypeId} {z z1 z2 g b : Nat} {t : Int} (jj : Nat) {f f' : Nat → Value} {w w' : World} (h5 : jj = 5 → w'.heap[z]? = w.heap[z]?) (h6 : jj = 6 → w'.heap[z1]? = w.heap[z1]?) (h7 : jj = 7 → w'.heap[z2]? = w.heap[z2]?) (hf : ∀ t ∈ cat3M jj, f' t = f t) (h : cat3R CT IT ET z z1 z2 g b t jj f w) : cat3R CT IT ET z z1 z2 g b t jj f' w' := by
  match jj, hf, h, h5, h6, h7 with
  | 0, hf, h, _, _, _ => exact (hf 10 (by decide)).trans h
  | 1, hf, h, _, _, _ => exact (hf 11 (by decide)).trans h
  | 2, hf, h, _, _, _ => exact (hf 12 (by decide)).trans h
  | 3, hf, h, _, _, _ => exact (hf 13 (by decide)).trans h
  | 4, hf, h, _, _, _ => exact (hf 14 (by decide)).trans h
  | 5, hf, h, h5, h6, h7 =>
    exact (h5 rfl).trans h
  | 6, hf, h, h5, h6, h7 =>
    exact (h6 rfl).trans h
  | 7, hf, h, h5, h6, h7 =>
    exact (h7 rfl).trans h
  | _ + 8, _, _, _, _, _ => trivial
/-- what operation j of the region leaves -/
def par9R (CT IT ET : TypeId) (z z1 z2 R n : Nat) (c : Cir) (s : Places) : Nat → (Nat → Value) → World → Prop
  | 0, f, _ => f 26 = cirV c s
  | 1, f, _ => f 27 = .pointer (some ⟨R, 0, none⟩)
  | 2, f, _ => f 28 = .pointer (some ⟨R, 2, none⟩)
  | 3, f, _ => f 29 = .int .i64 (n : Int)
  | 4, _, w => w.heap[z]? = some (.cells (cirC c s) CT (0, 0))
  | 5, _, w => w.heap[z1]? = some (.cells #[.int .i64 (n : Int)] IT (0, 0))
  | 6, _, w => w.heap[z2]? = some (.cells #[.int .i64 0] ET (0, 0))
  | _, _, _ => True
def par9M : Nat → List Nat
  | 0 => [26]
  | 1 => [27]
  | 2 => [28]
  | 3 => [29]
  | 4 => []
  | 5 => []
  | 6 => []
  | _ => []
theorem par9_stab {CT IT ET : TypeId} {z z1 z2 R n : Nat} {c : Cir} {s : Places} (jj : Nat) {f f' : Nat → Value} {w w' : World} (h4 : jj = 4 → w'.heap[z]? = w.heap[z]?) (h5 : jj = 5 → w'.heap[z1]? = w.heap[z1]?) (h6 : jj = 6 → w'.heap[z2]? = w.heap[z2]?) (hf : ∀ t ∈ par9M jj, f' t = f t) (h : par9R CT IT ET z z1 z2 R n c s jj f w) : par9R CT IT ET z z1 z2 R n c s jj f' w' := by
  match jj, hf, h, h4, h5, h6 with
  | 0, hf, h, _, _, _ => exact (hf 26 (by decide)).trans h
  | 1, hf, h, _, _, _ => exact (hf 27 (by decide)).trans h
  | 2, hf, h, _, _, _ => exact (hf 28 (by decide)).trans h
  | 3, hf, h, _, _, _ => exact (hf 29 (by decide)).trans h
  | 4, hf, h, h4, h5, h6 =>
    exact (h4 rfl).trans h
  | 5, hf, h, h4, h5, h6 =>
    exact (h5 rfl).trans h
  | 6, hf, h, h4, h5, h6 =>
    exact (h6 rfl).trans h
  | _ + 7, _, _, _, _, _ => trivial
theorem assertF (b : Nat) (t : Int) (w : World) : (Instr.typeAssert (.iface 60 (.agg #[.int .i64 b, .int .i64 t])) 20 60 false).run Tryz.prog w = .ok (.agg #[.int .i64 b, .int .i64 t]) w := by kernel_rfl
/-- what the recovering leaves -/
def Caught (z z1 z2 b : Nat) (t : Int) (w w' : World) : Prop :=
  (w'.os = w.os ∧ w'.tape = w.tape ∧ w'.output = w.output ∧ w.heap.size ≤ w'.heap.size) ∧ (∀ k, k < w.heap.size → k ≠ z → k ≠ z1 → k ≠ z2 → w'.heap[k]? = w.heap[k]?) ∧
  w'.heap[z]? = some (.cells #[.int .i64 0, .slice none 0 0, .slice none 0 0, .slice none 0 0, .slice none 0 0, .slice none 0 0, .slice none 0 0, .slice none 0 0] 27 (0, 0)) ∧ w'.heap[z1]? = some (.cells #[.int .i64 (b : Int)] 3 (0, 0)) ∧ w'.heap[z2]? = some (.cells #[.int .i64 t] 29 (0, 0))
set_option maxHeartbeats 2000000 in
set_option maxRecDepth 100000 in
theorem parse_catch (z z1 z2 b : Nat) (t : Int) (w : World) (hz : z ≠ z1 ∧ z ≠ z2 ∧ z1 ≠ z2) (h0 : ∃ x : Array Value, w.heap[z]? = some (.cells x 27 (0, 0)) ∧ x.size = 8) (h1 : ∃ x : Array Value, w.heap[z1]? = some (.cells x 3 (0, 0)) ∧ x.size = 1) (h2 : ∃ x : Array Value, w.heap[z2]? = some (.cells x 29 (0, 0)) ∧ x.size = 1) :
    CallsD Tryz.prog 19 #[.pointer (some ⟨z, 0, none⟩), .pointer (some ⟨z1, 0, none⟩), .pointer (some ⟨z2, 0, none⟩)] (.panicking (faultOf b t)) w fun e u' w' =>
      e = .returned (.tuple #[]) ∧ u' = .panicking [{ v := .iface 60 (.agg #[.int .i64 b, .int .i64 t]), recovered := true }] ∧ Caught z z1 z2 b t w w' := by
  refine callsD_of_wpS Tryz.func19 rfl fun c₀ cs hu => ?_
  unfold faultOf at hu
  apply wpS_seq
  apply wpS_region
  simp [wpOpsS, go_sem, recoverD, hu, Tryz.ntmps19, Exit.thenS]
  apply wpS_seq
  apply wpS_region
  simp [wpOpsS, go_sem, Exit.thenS]
  refine wpS_cond (t := true) (by simp [Act.eval]) ?_
  simp only [if_true]
  refine wpS_of_wp ?_
  simp only [show Array.replicate 12 undef = #[undef, undef, undef, undef, undef, undef, undef, undef, undef, undef, undef, undef] from rfl, List.setIfInBounds_toArray, List.set_cons_zero, List.set_cons_succ, List.append_toArray, List.cons_append, List.nil_append]
  have HZZ := Lib.hid hz
  -- the fault's box
  obtain ⟨wa, hwa⟩ : ∃ x, w.alloc (.cells #[.int .i64 0, .int .i64 0] 60) = x := ⟨_, rfl⟩
  have ga : wa.heap[w.heap.size]? = some (.cells #[.int .i64 0, .int .i64 0] 60 (0, 0)) := by rw [← hwa]; exact Array.getElem?_push_size
  have ba : Below w.heap.size w wa := by rw [← hwa]; exact (Below.refl _ _).alloc (Nat.le_refl _) _
  obtain ⟨W1, W0, u0, u1, ⟨hX1, a0, b0⟩, ⟨hX2, a1, b1⟩, E2, FB⟩ := store2 ga rfl (.int .i64 (b : Int)) (.int .i64 t)
  have BW : Hid (Below w.heap.size w W0) := FB.below ba (Nat.le_refl _)
  have lz : z < w.heap.size := by obtain ⟨x, hx, _⟩ := h0; exact lt_of_block hx
  have lz1 : z1 < w.heap.size := by obtain ⟨x, hx, _⟩ := h1; exact lt_of_block hx
  have lz2 : z2 < w.heap.size := by obtain ⟨x, hx, _⟩ := h2; exact lt_of_block hx
  have HOK : Hid (Three W0 z z1 z2 W0) := ⟨rfl, rfl, rfl, rfl, fun _ _ _ _ => rfl, by rw [BW.out.block z lz]; exact h0, by rw [BW.out.block z1 lz1]; exact h1, by rw [BW.out.block z2 lz2]; exact h2⟩
  have GB : Hid (∀ x, Three W0 z z1 z2 x → x.heap[w.heap.size]? = some (.cells #[.int .i64 (b : Int), .int .i64 t] 60 (0, 0))) := fun x hx => (hx.rest _ (by omega) (by omega) (by omega)).trans E2
  have HG0 : Hid (∀ x, Three W0 z z1 z2 x → x.cell? ⟨w.heap.size, 0, none⟩ = some (.int .i64 (b : Int))) := fun x hx => by have := GB.out x hx; simp [World.cell?, this]
  have HG1 : Hid (∀ x, Three W0 z z1 z2 x → x.cell? ⟨w.heap.size, 1, none⟩ = some (.int .i64 t)) := fun x hx => by have := GB.out x hx; simp [World.cell?, this]
  have AF := assertF b t
  clear ga ba E2 FB h0 h1 h2 hz GB lz lz1 lz2
  go_wp2
  clear hwa hX1 a0 b0 hX2 a1 b1 AF
  have HSZ : Hid (w.heap.size ≤ W0.heap.size) := BW.out.size
  have HGE : Hid (w.heap.size = w.heap.size) := rfl
  refine wp_region_valsD (by kernel_rfl) (by kernel_rfl) cat3M (by kernel_rfl) (by kernel_rfl)
    (fun _ w' => Three W0 z z1 z2 w') (cat3R 27 3 29 z z1 z2 w.heap.size b t) HOK.out.drew (fun jj f f' w w' hb hf h => cat3_stab jj (fun em => by subst em; exact hb.block _ (lt_of_block h)) (fun em => by subst em; exact hb.block _ (lt_of_block h)) (fun em => by subst em; exact hb.block _ (lt_of_block h)) hf h) ?_ ?_
  · intro i oo d a' w' ho hd hun hdf hok hD K hK hK0
    match i, ho, hd, hD, hK, hK0, hun with
    | 0, ho, hd, hD, hK, hK0, hun =>
      have e := (congrArg Oper.op (Option.some.inj ho)).symm
      obtain rfl := Option.some.inj ho
      exact wp_val (op_build_zero a' w' _ e) (hK _ _ (Below.refl _ _) hok (fun f h1 _ => h1 _ rfl))
    | 1, ho, hd, hD, hK, hK0, hun =>
      have e := (congrArg Oper.op (Option.some.inj ho)).symm
      obtain rfl := Option.some.inj ho
      exact wp_val (op_field_aag_fault_0 a' w' _ 4 (hun 4 (by kernel_rfl)) _ e) (hK _ _ (Below.refl _ _) hok (fun f h1 _ => h1 _ rfl))
    | 2, ho, hd, hD, hK, hK0, hun =>
      have e := (congrArg Oper.op (Option.some.inj ho)).symm
      obtain rfl := Option.some.inj ho
      exact wp_val (op_load_int a' w' _ 11 _ (hD 1 (by kernel_rfl)) (HG0.out _ hok) _ e) (hK _ _ (Below.refl _ _) hok (fun f h1 _ => h1 _ rfl))
    | 3, ho, hd, hD, hK, hK0, hun =>
      have e := (congrArg Oper.op (Option.some.inj ho)).symm
      obtain rfl := Option.some.inj ho
      exact wp_val (op_field_aag_fault_1 a' w' _ 4 (hun 4 (by kernel_rfl)) _ e) (hK _ _ (Below.refl _ _) hok (fun f h1 _ => h1 _ rfl))
    | 4, ho, hd, hD, hK, hK0, hun =>
      have e := (congrArg Oper.op (Option.some.inj ho)).symm
      obtain rfl := Option.some.inj ho
      exact wp_val (op_load_api_Errno a' w' _ 13 _ (hD 3 (by kernel_rfl)) (HG1.out _ hok) _ e) (hK _ _ (Below.refl _ _) hok (fun f h1 _ => h1 _ rfl))
    | 5, ho, hd, hD, hK, hK0, hun =>
      have e := (congrArg Oper.op (Option.some.inj ho)).symm
      obtain rfl := Option.some.inj ho
      obtain ⟨x, hx, hxs⟩ := hok.c0
      obtain ⟨w'', hr, hgc2, hbut⟩ := op_store_cir a' w' z x hx hxs 0 (none, 0, 0) (none, 0, 0) (none, 0, 0) (none, 0, 0) (none, 0, 0) (none, 0, 0) (none, 0, 0) 0 10 (hun 0 (by kernel_rfl)) (hD 0 (by kernel_rfl)) _ e
      refine wp_skip' hr (hK0 _ _ (hok.but0 hbut hgc2 rfl HZZ.out) (fun f h1 h2 => hgc2) (fun j f hj hf hq => cat3_stab j (fun em => absurd em hj) (fun _ => hbut.b _ (by have := HZZ.out; omega)) (fun _ => hbut.b _ (by have := HZZ.out; omega)) hf hq))
    | 6, ho, hd, hD, hK, hK0, hun =>
      have e := (congrArg Oper.op (Option.some.inj ho)).symm
      obtain rfl := Option.some.inj ho
      obtain ⟨x, hx, hxs⟩ := hok.c1
      obtain ⟨w'', hr, hgc2, hbut⟩ := op_store_int1 a' w' z1 x hx hxs _ 1 12 (hun 1 (by kernel_rfl)) (hD 2 (by kernel_rfl)) _ e
      refine wp_skip' hr (hK0 _ _ (hok.but1 hbut hgc2 rfl HZZ.out) (fun f h1 h2 => hgc2) (fun j f hj hf hq => cat3_stab j (fun _ => hbut.b _ (by have := HZZ.out; omega)) (fun em => absurd em hj) (fun _ => hbut.b _ (by have := HZZ.out; omega)) hf hq))
    | 7, ho, hd, hD, hK, hK0, hun =>
      have e := (congrArg Oper.op (Option.some.inj ho)).symm
      obtain rfl := Option.some.inj ho
      obtain ⟨x, hx, hxs⟩ := hok.c2
      obtain ⟨w'', hr, hgc2, hbut⟩ := op_store_errno a' w' z2 x hx hxs _ 2 14 (hun 2 (by kernel_rfl)) (hD 4 (by kernel_rfl)) _ e
      refine wp_skip' hr (hK0 _ _ (hok.but2 hbut hgc2 rfl HZZ.out) (fun f h1 h2 => hgc2) (fun j f hj hf hq => cat3_stab j (fun _ => hbut.b _ (by have := HZZ.out; omega)) (fun _ => hbut.b _ (by have := HZZ.out; omega)) (fun em => absurd em hj) hf hq))
    | i + 8, ho, _, _, _, _, _ => exact absurd ho (by simp)
  · intro a' w3 hsz hdf hkt hok hR
    have HF3 := frame_sets [10, 11, 12, 13, 14] (by kernel_rfl) hsz hkt
    obtain ⟨d, hok⟩ := hok
    have Q0 := hR 5 (by decide)
    have Q1 := hR 6 (by decide)
    have Q2 := hR 7 (by decide)
    obtain ⟨tm, df⟩ := a'
    obtain rfl : df = _ := hdf
    simp only [List.foldl_cons, List.foldl_nil] at HF3
    clear hkt hR hsz
    generalize tm.getD 10 undef = y10 at HF3
    generalize tm.getD 11 undef = y11 at HF3
    generalize tm.getD 12 undef = y12 at HF3
    generalize tm.getD 13 undef = y13 at HF3
    generalize tm.getD 14 undef = y14 at HF3
    simp only [List.setIfInBounds_toArray, List.set_cons_succ, List.set_cons_zero] at HF3
    subst HF3
    have QC : Hid (Caught z z1 z2 b t w w3) := ⟨⟨hok.os.trans BW.out.os, hok.tape.trans BW.out.tape, hok.output.trans BW.out.output, by rw [hok.size]; exact HSZ.out⟩, fun k hk k0 k1 k2 => (hok.rest k k0 k1 k2).trans (BW.out.block k (by have := HGE.out; omega)), Q0, Q1, Q2⟩
    clear Q0 Q1 Q2 hok
    go_wp2
    simp [bodyPostS, results, Tryz.results19]
    exact QC.out
set_option maxHeartbeats 2000000 in
set_option maxRecDepth 100000 in
theorem parse_idle (z z1 z2 : Nat) (w : World) :
    CallsD Tryz.prog 19 #[.pointer (some ⟨z, 0, none⟩), .pointer (some ⟨z1, 0, none⟩), .pointer (some ⟨z2, 0, none⟩)] .returning w fun e u' w' => e = .returned (.tuple #[]) ∧ u' = .returning ∧ w' = w := by
  refine callsD_of_wpS Tryz.func19 rfl fun c₀ cs hu => ?_
  apply wpS_seq
  apply wpS_region
  simp [wpOpsS, go_sem, recoverD, hu, Tryz.ntmps19, Exit.thenS]
  apply wpS_seq
  apply wpS_region
  simp [wpOpsS, go_sem, Exit.thenS]
  refine wpS_cond (t := false) (by simp [Act.eval]) ?_
  simp only [Bool.false_eq_true, if_false]
  refine wpS_of_wp (wp_skip ?_)
  cases c₀
  simp_all [bodyPostS, results, Tryz.results19]
/-- the circuit of nothing -/
def nilC : Cir := ⟨0, [], [], [], [], [], [], []⟩
def nilP : Places := ⟨none, none, none, none, none, none, none, 0, 0, 0, 0, 0, 0, 0⟩
/-- how Parse ends -/
def ParseP (s : List UInt8) (w : World) (e : Ending) (w' : World) : Prop :=
  Below w.heap.size w w' ∧ ∃ (c : Cir) (P : Places) (n : Nat) (t : Int), e = .returned (.tuple #[cirV c P, .int .i64 n, .int .i64 t]) ∧ CLies w' w'.heap.size c P ∧ CFits c P ∧
    match parseM chk s with
    | .ok r => c = r.1 ∧ n = r.2 ∧ t = 0
    | .error b => c = nilC ∧ P = nilP ∧ n = b.1 ∧ t = b.2
theorem nil_lies (w : World) (B : Nat) : CLies w B nilC nilP := ⟨.inl rfl, .inl rfl, .inl rfl, .inl rfl, .inl rfl, .inl rfl, .inl rfl⟩
theorem nil_fits : CFits nilC nilP := by
  constructor <;> first | exact ⟨by decide, by decide⟩ | (intro x hx; cases hx) | decide
theorem count_lists (s : List UInt8) : Lib.countByte s 10 = nlCount s := by
  have h : ∀ l : List UInt8, (splitOn 10 l).length = Lib.countByte l 10 + 1 := by
    intro l
    induction l with
    | nil => rfl
    | cons b l ih =>
      unfold Lib.countByte at ih ⊢
      unfold splitOn
      by_cases hb : b = 10
      · subst hb; rw [if_pos rfl, List.length_cons, ih]; simp
      · rw [if_neg hb]
        have hne := splitOn_ne 10 l
        rw [List.count_cons_of_ne hb]
        cases hq : splitOn 10 l with
        | nil => exact absurd hq hne
        | cons x t => rw [hq] at ih; simpa using ih
  unfold nlCount; rw [h]; rfl
end Go.Proofs.YtckdlbfndmmjjaaGreatDoor.Aag
namespace Go.Proofs.YtckdlbfndmmjjaaGreatDoor.Aag
open Go.ChangeShapes Go.WideShapes Go.ChangeAt Go.RowKit Dig Circ Cw

theorem parse_results (w : World) (z z1 z2 : Nat) (c : Cir) (P : Places) (n t : Int) (h0 : w.heap[z]? = some (.cells (cirC c P) 27 (0, 0))) (h1 : w.heap[z1]? = some (.cells #[.int .i64 n] 3 (0, 0))) (h2 : w.heap[z2]? = some (.cells #[.int .i64 t] 29 (0, 0)))
    (tmps : Array Value) (k2 : tmps.getD 2 undef = .pointer (some ⟨z, 0, none⟩)) (k3 : tmps.getD 3 undef = .pointer (some ⟨z1, 0, none⟩)) (k4 : tmps.getD 4 undef = .pointer (some ⟨z2, 0, none⟩)) :
    (results Tryz.f9 tmps).run Tryz.prog w = .ok (.tuple #[cirV c P, .int .i64 n, .int .i64 t]) w := by
  unfold cirV cirC at *
  have c0 : w.cell? ⟨z, 0, none⟩ = some (.int .i64 c.max) := by simp [World.cell?, h0]
  have c1 : w.cell? ⟨z, 1, none⟩ = some (.slice P.ai c.ins.length P.ki) := by simp [World.cell?, h0]
  have c2 : w.cell? ⟨z, 2, none⟩ = some (.slice P.al c.lats.length P.kl) := by simp [World.cell?, h0]
  have c3 : w.cell? ⟨z, 3, none⟩ = some (.slice P.ao c.outs.length P.ko) := by simp [World.cell?, h0]
  have c4 : w.cell? ⟨z, 4, none⟩ = some (.slice P.ab c.bads.length P.kb) := by simp [World.cell?, h0]
  have c5 : w.cell? ⟨z, 5, none⟩ = some (.slice P.ac c.invs.length P.kc) := by simp [World.cell?, h0]
  have c6 : w.cell? ⟨z, 6, none⟩ = some (.slice P.aa c.ands.length P.ka) := by simp [World.cell?, h0]
  have c7 : w.cell? ⟨z, 7, none⟩ = some (.slice P.an c.names.length P.kn) := by simp [World.cell?, h0]
  have d1 : w.cell? ⟨z1, 0, none⟩ = some (.int .i64 n) := by simp [World.cell?, h1]
  have d2 : w.cell? ⟨z2, 0, none⟩ = some (.int .i64 t) := by simp [World.cell?, h2]
  have e2 : tmps[2]?.getD undef = .pointer (some ⟨z, 0, none⟩) := by simpa using k2
  have e3 : tmps[3]?.getD undef = .pointer (some ⟨z1, 0, none⟩) := by simpa using k3
  have e4 : tmps[4]?.getD undef = .pointer (some ⟨z2, 0, none⟩) := by simpa using k4
  clear h0 h1 h2 k2 k3 k4
  simp only [results, show Tryz.f9.results = #[ResultVar.cell 2 27, ResultVar.cell 3 3, ResultVar.cell 4 29] from rfl]
  go_simp
theorem own_clies {w : World} {B : Nat} {c : Cir} {P : Places} (h : OwnC w B 3 1 (.slice P.ai c.ins.length P.ki) (ints c.ins) ∧ OwnC w B 48 3 (.slice P.al c.lats.length P.kl) (tris c.lats) ∧ OwnC w B 3 1 (.slice P.ao c.outs.length P.ko) (ints c.outs) ∧ OwnC w B 3 1 (.slice P.ab c.bads.length P.kb) (ints c.bads) ∧ OwnC w B 3 1 (.slice P.ac c.invs.length P.kc) (ints c.invs) ∧ OwnC w B 51 3 (.slice P.aa c.ands.length P.ka) (tris c.ands) ∧ OwnC w B 56 3 (.slice P.an c.names.length P.kn) (nams c.names)) : CLies w w.heap.size c P := by
  obtain ⟨h1, h2, h3, h4, h5, h6, h7⟩ := h
  have row : ∀ {e : TypeId} {m : Nat} {A : Option Addr} {n q : Nat} {xs : List (List Value)}, OwnC w B e m (.slice A n q) xs → 0 < m → (∀ y ∈ xs, y.length = m) → LRow w w.heap.size m A xs := by
    intro e m A n q xs ho hm hx
    obtain ⟨A', q', hv, hr, _, _⟩ := ho.row hm hx
    injection hv with h1 _ _
    subst h1
    exact hr
  exact ⟨row h1 (by decide) (ints_len1 _), row h2 (by decide) (tris_len3 _), row h3 (by decide) (ints_len1 _), row h4 (by decide) (ints_len1 _), row h5 (by decide) (ints_len1 _), row h6 (by decide) (tris_len3 _), row h7 (by decide) (nams_len3 _)⟩
theorem lines_off (s : ByteArray) (w : World) (hs : s.size ≤ 4194304) (hm : MaxCell w) :
    Calls Tryz.prog 20 #[.string s] w fun e w' => ∃ a cap, e = .returned (.slice a (linesL s.data.toList).length cap) ∧ ReadsAt a (linesL s.data.toList) w' ∧ (∀ p, a = some p → w.heap.size ≤ p.block ∧ p.block < w'.heap.size) ∧ Below w.heap.size w w' :=
  (lines_any s w hs hm).mono fun e w' ⟨v, he, hv, hb⟩ => by
    obtain ⟨a, cap, h1, h2⟩ := hv.reads.at_
    refine ⟨a, cap, by rw [he, h1], h2, fun p hp => ?_, hb⟩
    obtain ⟨_, ⟨hv', _⟩ | ⟨g, cap', cur, hv', hg, hh, _⟩⟩ := hv
    · rw [h1] at hv'
      injection hv' with h3
      rw [h3] at hp; cases hp
    · rw [h1] at hv'
      injection hv' with h3
      rw [h3] at hp
      injection hp with hp
      subst hp
      exact ⟨hg, lt_of_block hh⟩
abbrev Own7 (w : World) (B : Nat) (c : Cir) (P : Places) : Prop := OwnC w B 3 1 (.slice P.ai c.ins.length P.ki) (ints c.ins) ∧ OwnC w B 48 3 (.slice P.al c.lats.length P.kl) (tris c.lats) ∧ OwnC w B 3 1 (.slice P.ao c.outs.length P.ko) (ints c.outs) ∧ OwnC w B 3 1 (.slice P.ab c.bads.length P.kb) (ints c.bads) ∧ OwnC w B 3 1 (.slice P.ac c.invs.length P.kc) (ints c.invs) ∧ OwnC w B 51 3 (.slice P.aa c.ands.length P.ka) (tris c.ands) ∧ OwnC w B 56 3 (.slice P.an c.names.length P.kn) (nams c.names)
theorem own7_at {w w' : World} {B : Nat} {c : Cir} {P : Places} (h : Own7 w B c P) (hb : ∀ g, B ≤ g → g < w.heap.size → w'.heap[g]? = w.heap[g]?) : Own7 w' B c P := by
  obtain ⟨h1, h2, h3, h4, h5, h6, h7⟩ := h
  have k : ∀ {e : TypeId} {m : Nat} {v : Value} {xs : List (List Value)}, OwnC w B e m v xs → OwnC w' B e m v xs := fun ho => ho.keep_at fun g hg hv => hb g hg (ho.block_lt g hv).2
  exact ⟨k h1, k h2, k h3, k h4, k h5, k h6, k h7⟩
theorem own7_but {w w' : World} {B z : Nat} {c : Cir} {P : Places} (h : Own7 w B c P) (hb : But z w w') (hz : z < B) : Own7 w' B c P := own7_at h fun g hg _ => hb.b g (by omega)
theorem own7_keep {w w' : World} {B : Nat} {c : Cir} {P : Places} (h : Own7 w B c P) (hb : Below w.heap.size w w') : Own7 w' B c P := own7_at h fun g _ hg => hb.block g hg
theorem own7_three {w w' : World} {B z : Nat} {c : Cir} {P : Places} (h : Own7 w B c P) (hb : Three w z (z + 1) (z + 1 + 1) w') (hz : z + 3 ≤ B) : Own7 w' B c P := own7_at h fun g hg _ => hb.rest g (by omega) (by omega) (by omega)
theorem ext_below {W w w' : World} {B R : Nat} (h : Below B W w) (hE : Ext R w w') (hR : B ≤ R) (hBW : B ≤ W.heap.size) : Below B W w' :=
  ⟨hE.os.trans h.os, hE.tape.trans h.tape, hE.output.trans h.output, Nat.le_trans h.size hE.size, fun k hk => (hE.block k (by have := h.size; omega) (by omega)).trans (h.block k hk)⟩
theorem caught_below {W w w' : World} {B z z1 z2 b : Nat} {t : Int} (h : Below B W w) (hC : Caught z z1 z2 b t w w') (h0 : B ≤ z) (h1 : B ≤ z1) (h2 : B ≤ z2) (hBW : B ≤ W.heap.size) : Below B W w' := by
  obtain ⟨⟨c1, c2, c3, c4⟩, c5, _⟩ := hC
  exact ⟨c1.trans h.os, c2.trans h.tape, c3.trans h.output, Nat.le_trans h.size c4, fun k hk => (c5 k (by have := h.size; omega) (by omega) (by omega) (by omega)).trans (h.block k hk)⟩
theorem Src.but {R : Nat} {A : Option Addr} {L : List (List UInt8)} {q wh a z : Nat} {w w' : World} (h : Src R A L q wh a w) (hb : But z w w') (hz : R ≠ z) (hA : ∀ p, A = some p → p.block ≠ z) (hM : 0 ≠ z) : Src R A L q wh a w' := by
  refine ⟨(hb.b R hz).trans h.blk, ?_, h.off, h.whl, h.ale, h.len, h.fit, ?_, h.gr⟩
  · rcases h.txt with h0 | ⟨g, off, e, hg, hx⟩
    · exact .inl h0
    · refine .inr ⟨g, off, e, by rw [hb.z]; exact hg, fun i hi => ?_⟩
      rw [← hx i hi]
      exact World.cell?_of_block (w := w) (hb.b g (hA _ e))
  · obtain ⟨m, hm⟩ := h.mx
    exact ⟨m, by rw [← hm]; exact World.cell?_of_block (w := w) (hb.b _ hM)⟩
theorem ok_i64 {x : Int} (h : OkN x) : I64 x := ⟨by have := h.1; omega, by have := h.2; omega⟩
theorem small_fits {c : Cir} {P : Places} (h : Small c) (hk : c.ins.length ≤ P.ki ∧ c.lats.length ≤ P.kl ∧ c.outs.length ≤ P.ko ∧ c.bads.length ≤ P.kb ∧ c.invs.length ≤ P.kc ∧ c.ands.length ≤ P.ka ∧ c.names.length ≤ P.kn) : CFits c P := by
  obtain ⟨k1, k2, k3, k4, k5, k6, k7⟩ := hk
  have g1 := h.li
  have g2 := h.ll
  have g3 := h.lo
  have g4 := h.lb
  have g5 := h.lc
  have g6 := h.la
  have g7 := h.ln
  exact ⟨ok_i64 h.max, fun x hx => ok_i64 (h.ins x hx), fun x hx => ok_i64 (h.outs x hx), fun x hx => ok_i64 (h.bads x hx), fun x hx => ok_i64 (h.invs x hx), fun x hx => ⟨ok_i64 (h.lats x hx).1, ok_i64 (h.lats x hx).2.1, ok_i64 (h.lats x hx).2.2⟩, fun x hx => ⟨ok_i64 (h.ands x hx).1, ok_i64 (h.ands x hx).2.1, ok_i64 (h.ands x hx).2.2⟩, fun x hx => ⟨by have := (h.names x hx).2.1; omega, ok_i64 (h.names x hx).1, by have := (h.names x hx).2.2; omega⟩, by omega, by omega, by omega, by omega, by omega, by omega, by omega, k1, k3, k4, k5, k2, k6, k7⟩
theorem lines_fit (s : List UInt8) (hs : s.length ≤ 65536) : (linesL s).length ≤ 65537 ∧ ∀ l ∈ linesL s, l.length ≤ 65536 := by
  have h : (linesL s).flatten.length + (linesL s).length ≤ s.length + 1 := pieces_size 10 _ s
  refine ⟨by omega, fun l hl => ?_⟩
  obtain ⟨a, b, e⟩ := List.append_of_mem hl
  rw [e] at h
  simp at h
  omega
theorem parseM_long {s : List UInt8} (h : 65536 < s.length) : parseM chk s = .error (0, 5) := by unfold parseM; rw [if_pos h]; rfl
theorem parseM_fault {s : List UInt8} (h : ¬ 65536 < s.length) {b : Nat × Int} (hq : circM (linesL s) (nlCount s) = .error b) : parseM chk s = .error b := by unfold parseM; rw [if_neg h, bind_error hq]
theorem parseM_state {s : List UInt8} (h : ¬ 65536 < s.length) {r : Cir × Nat} (hq : circM (linesL s) (nlCount s) = .ok r) (hc : chk r.1 = false) : parseM chk s = .error (r.2, 9) := by unfold parseM; rw [if_neg h, bind_ok hq, hc]; rfl
theorem parseM_ok {s : List UInt8} (h : ¬ 65536 < s.length) {r : Cir × Nat} (hq : circM (linesL s) (nlCount s) = .ok r) (hc : chk r.1 = true) : parseM chk s = .ok r := by unfold parseM; rw [if_neg h, bind_ok hq, hc]; rfl
theorem parse_fault {s : List UInt8} {w w' : World} {b : Nat × Int} (h : parseM chk s = .error b) (hb : Below w.heap.size w w') : ParseP s w (.returned (.tuple #[cirV nilC nilP, .int .i64 b.1, .int .i64 b.2])) w' :=
  ⟨hb, nilC, nilP, b.1, b.2, rfl, nil_lies _ _, nil_fits, by rw [h]; exact ⟨rfl, rfl, rfl, rfl⟩⟩
set_option maxHeartbeats 8000000 in
set_option maxRecDepth 100000 in
theorem parse_any (s : List UInt8) (w : World) (hm : MaxCell w) : Calls Tryz.prog 9 #[sv s] w (ParseP s w) := by
  have hmf : ∀ (fn : Fn) (first cap : Array Value) (w : World), (Instr.makeFunc fn first cap).run Tryz.prog w = .ok (.func fn first cap) w := fun _ _ _ _ => rfl
  have hs1 : (w.alloc (.cells #[.int .i64 0, .slice none 0 0, .slice none 0 0, .slice none 0 0, .slice none 0 0, .slice none 0 0, .slice none 0 0, .slice none 0 0] 27)).heap.size = w.heap.size + 1 := by simp
  have hs2 : ((w.alloc (.cells #[.int .i64 0, .slice none 0 0, .slice none 0 0, .slice none 0 0, .slice none 0 0, .slice none 0 0, .slice none 0 0, .slice none 0 0] 27)).alloc (.cells #[.int .i64 0] 3)).heap.size = w.heap.size + 2 := by simp
  have hs3 : (((w.alloc (.cells #[.int .i64 0, .slice none 0 0, .slice none 0 0, .slice none 0 0, .slice none 0 0, .slice none 0 0, .slice none 0 0, .slice none 0 0] 27)).alloc (.cells #[.int .i64 0] 3)).alloc (.cells #[.int .i64 0] 29)).heap.size = w.heap.size + 3 := by simp
  have hb1 : Below w.heap.size w (w.alloc (.cells #[.int .i64 0, .slice none 0 0, .slice none 0 0, .slice none 0 0, .slice none 0 0, .slice none 0 0, .slice none 0 0, .slice none 0 0] 27)) := (Below.refl _ _).alloc (Nat.le_refl _) _
  have hb3 : Below w.heap.size w (((w.alloc (.cells #[.int .i64 0, .slice none 0 0, .slice none 0 0, .slice none 0 0, .slice none 0 0, .slice none 0 0, .slice none 0 0, .slice none 0 0] 27)).alloc (.cells #[.int .i64 0] 3)).alloc (.cells #[.int .i64 0] 29)) := (hb1.alloc hb1.size _).alloc (by rw [hs2]; omega) _
  have g0 : (((w.alloc (.cells #[.int .i64 0, .slice none 0 0, .slice none 0 0, .slice none 0 0, .slice none 0 0, .slice none 0 0, .slice none 0 0, .slice none 0 0] 27)).alloc (.cells #[.int .i64 0] 3)).alloc (.cells #[.int .i64 0] 29)).heap[w.heap.size]? = some (.cells #[.int .i64 0, .slice none 0 0, .slice none 0 0, .slice none 0 0, .slice none 0 0, .slice none 0 0, .slice none 0 0, .slice none 0 0] 27 (0, 0)) := by
    rw [Below.heap_alloc _ _ _ (by rw [hs2]; omega), Below.heap_alloc _ _ _ (by rw [hs1]; omega)]; exact Array.getElem?_push_size
  have g1 : (((w.alloc (.cells #[.int .i64 0, .slice none 0 0, .slice none 0 0, .slice none 0 0, .slice none 0 0, .slice none 0 0, .slice none 0 0, .slice none 0 0] 27)).alloc (.cells #[.int .i64 0] 3)).alloc (.cells #[.int .i64 0] 29)).heap[w.heap.size + 1]? = some (.cells #[.int .i64 0] 3 (0, 0)) := by
    rw [Below.heap_alloc _ _ _ (by rw [hs2]; omega), ← hs1]; exact Array.getElem?_push_size
  have g2 : (((w.alloc (.cells #[.int .i64 0, .slice none 0 0, .slice none 0 0, .slice none 0 0, .slice none 0 0, .slice none 0 0, .slice none 0 0, .slice none 0 0] 27)).alloc (.cells #[.int .i64 0] 3)).alloc (.cells #[.int .i64 0] 29)).heap[w.heap.size + 1 + 1]? = some (.cells #[.int .i64 0] 29 (0, 0)) := by
    rw [← hs2]; exact Array.getElem?_push_size
  obtain ⟨wA, hwA⟩ : ∃ x, ((w.alloc (.cells #[.int .i64 0, .slice none 0 0, .slice none 0 0, .slice none 0 0, .slice none 0 0, .slice none 0 0, .slice none 0 0, .slice none 0 0] 27)).alloc (.cells #[.int .i64 0] 3)).alloc (.cells #[.int .i64 0] 29) = x := ⟨_, rfl⟩
  rw [hwA] at g0 g1 g2 hb3 hs3
  have BA := Lib.hid hb3
  have SA := Lib.hid hs3
  have HM := Lib.hid (hm.below hm.lt hb3)
  have HML := Lib.hid hm.lt
  have HWA := Lib.hid hwA
  clear hs1 hs2 hs3 hb1 hb3 hm
  by_cases hl : 65536 < s.length
  · have hd : decide ((65536 : Int) < s.length) = true := by simp; omega
    have PM : Hid (∀ w', Below w.heap.size w w' → ParseP s w (.returned (.tuple #[cirV nilC nilP, .int .i64 (0 : Nat), .int .i64 5])) w') := fun w' hb => parse_fault (parseM_long hl) hb
    obtain ⟨X1, X2, X3, X4, X5, X6, X7, X8, v0, v1, v2, v3, v4, v5, v6, v7, ⟨hX1, a0, b0⟩, ⟨hX2, a1, b1⟩, ⟨hX3, a2, b2⟩, ⟨hX4, a3, b3⟩, ⟨hX5, a4, b4⟩, ⟨hX6, a5, b5⟩, ⟨hX7, a6, b6⟩, ⟨hX8, a7, b7⟩, E8, FC⟩ := store8 g0 rfl (.int .i64 0) (.slice none 0 0) (.slice none 0 0) (.slice none 0 0) (.slice none 0 0) (.slice none 0 0) (.slice none 0 0) (.slice none 0 0)
    obtain ⟨Y, uy, ⟨hY, py, ty⟩, EY, FY⟩ := step_set X8 _ 0 (.int .i64 0) ((FC.b _ (by omega)).trans g1) (by decide)
    obtain ⟨V, uv, ⟨hV, pv, tv⟩, EV, FV⟩ := step_set Y _ 0 (.int .i64 5) ((FY.b _ (by omega)).trans ((FC.b _ (by omega)).trans g2)) (by decide)
    have BV : Hid (Below w.heap.size w V) := FV.below (FY.below (FC.below BA.out (Nat.le_refl _)) (by omega)) (by omega)
    have Q0 : Hid (V.heap[w.heap.size]? = some (.cells (cirC nilC nilP) 27 (0, 0))) := (FV.b _ (by omega)).trans ((FY.b _ (by omega)).trans E8)
    have Q1 : Hid (V.heap[w.heap.size + 1]? = some (.cells #[.int .i64 0] 3 (0, 0))) := (FV.b _ (by omega)).trans EY
    have Q2 : Hid (V.heap[w.heap.size + 1 + 1]? = some (.cells #[.int .i64 5] 29 (0, 0))) := EV
    clear g0 g1 g2 E8 FC EY FY EV FV hl HML HM
    unfold sv
    go_enter_defers Tryz.func9, Tryz.ntmps9
    go_wp2
    exact ⟨_, parse_results V _ _ _ nilC nilP 0 5 Q0.out Q1.out Q2.out _ rfl rfl rfl, PM.out _ BV.out⟩
  · have hd : decide ((65536 : Int) < s.length) = false := by simp; omega
    have LN := Lib.hid (lines_off ⟨s.toArray⟩ wA (by simp [ByteArray.size]; omega) HM.out)
    have HL := Lib.hid hl
    have G0 := Lib.hid g0
    have G1 := Lib.hid g1
    have G2 := Lib.hid g2
    clear g0 g1 g2 hl
    unfold sv
    go_enter_defers Tryz.func9, Tryz.ntmps9
    go_wp2_with fail
    refine LN.out.mono ?_
    rintro e w1 ⟨A, cap, rfl, hr, hoff, hb⟩
    have CN := Lib.hid (Tryz.strings_Count_one ⟨s.toArray⟩ 10 w1)
    rw [show Lib.countByte (⟨s.toArray⟩ : ByteArray).data.toList 10 = nlCount s from count_lists s] at CN
    have B1 : Hid (Below w.heap.size w w1) := BA.out.trans (hb.mono BA.out.size)
    have BW1 := Lib.hid hb
    have HR : Hid (ReadsAt A (linesL s) w1) := hr
    have HOFF := Lib.hid hoff
    clear hb hr hoff LN
    -- the reader's box
    obtain ⟨wb, hwb⟩ : ∃ x, w1.alloc (.cells #[.slice none 0 0, .int .i64 0, .int .i64 0] 66) = x := ⟨_, rfl⟩
    have gb : wb.heap[w1.heap.size]? = some (.cells #[.slice none 0 0, .int .i64 0, .int .i64 0] 66 (0, 0)) := by rw [← hwb]; exact Array.getElem?_push_size
    have bb : Below w1.heap.size w1 wb := by rw [← hwb]; exact (Below.refl _ _).alloc (Nat.le_refl _) _
    have sb : wb.heap.size = w1.heap.size + 1 := by rw [← hwb]; simp
    obtain ⟨Z1, Z2, Z3, u0, u1, u2, ⟨hS1, p0, t0⟩, ⟨hS2, p1, t1⟩, ⟨hS3, p2, t2⟩, E3, FF⟩ := store3 gb rfl (.slice A (linesL s).length cap) (.int .i64 (nlCount s : Nat)) (.int .i64 0)
    have BZ : Hid (Below w1.heap.size w1 Z3) := FF.below bb (Nat.le_refl _)
    have SR : Hid (Src w1.heap.size A (linesL s) cap (nlCount s) 0 Z3) := by
      obtain ⟨l1, l2⟩ := lines_fit s (by have := HL.out; omega)
      refine ⟨E3, HR.out.below BZ.out, fun p hp => ?_, count_le s, Nat.zero_le _, l1, l2, (HM.out.below HM.out.lt BW1.out).below (Nat.lt_of_lt_of_le HML.out B1.out.size) BZ.out, Nat.lt_of_lt_of_le HML.out B1.out.size⟩
      exact Nat.ne_of_lt (HOFF.out p hp).2
    have HZR : Hid (w.heap.size + 3 ≤ w1.heap.size) := by have := BW1.out.size; rw [SA.out] at this; exact this
    have HZA : Hid (∀ p, A = some p → p.block ≠ w.heap.size) := fun p hp => by have := (HOFF.out p hp).1; rw [SA.out] at this; omega
    have CR := Lib.hid (circuit_run Z3 SR.out)
    have K0 : Hid (Z3.heap[w.heap.size]? = some (.cells #[.int .i64 0, .slice none 0 0, .slice none 0 0, .slice none 0 0, .slice none 0 0, .slice none 0 0, .slice none 0 0, .slice none 0 0] 27 (0, 0))) := (BZ.out.block _ (by have := HZR.out; omega)).trans ((BW1.out.block _ (by rw [SA.out]; omega)).trans G0.out)
    have K1 : Hid (Z3.heap[w.heap.size + 1]? = some (.cells #[.int .i64 0] 3 (0, 0))) := (BZ.out.block _ (by have := HZR.out; omega)).trans ((BW1.out.block _ (by rw [SA.out]; omega)).trans G1.out)
    have K2 : Hid (Z3.heap[w.heap.size + 1 + 1]? = some (.cells #[.int .i64 0] 29 (0, 0))) := (BZ.out.block _ (by have := HZR.out; omega)).trans ((BW1.out.block _ (by rw [SA.out]; omega)).trans G2.out)
    have BZW : Hid (Below w.heap.size w Z3) := B1.out.trans (BZ.out.mono B1.out.size)
    have HZ3 : Hid (w1.heap.size < Z3.heap.size) := SR.out.lt
    have GML : Hid (0 < w.heap.size) := HML.out
    clear gb bb sb E3 FF G0 G1 G2 HML HM HR HOFF
    go_wp2_with fail
    refine CN.out.mono ?_
    rintro e w2 ⟨rfl, hw⟩
    have hw' := hw.symm
    subst hw'
    clear hw
    go_wp2_with fail
    refine CR.out.mono ?_
    clear hwb hS1 p0 t0 hS2 p1 t1 hS3 p2 t2 CN CR HWA hwA
    intro e y hr
    cases hq : circM (linesL s) (nlCount s) with
    | error b =>
      rw [hq] at hr
      obtain ⟨rfl, hE⟩ := hr
      have Y0 := (hE.block _ (lt_of_block K0.out) (by have := HZR.out; omega)).trans K0.out
      have Y1 := (hE.block _ (lt_of_block K1.out) (by have := HZR.out; omega)).trans K1.out
      have Y2 := (hE.block _ (lt_of_block K2.out) (by have := HZR.out; omega)).trans K2.out
      have PC := Lib.hid (parse_catch w.heap.size (w.heap.size + 1) (w.heap.size + 1 + 1) b.1 b.2 y ⟨by omega, by omega, by omega⟩ ⟨_, Y0, rfl⟩ ⟨_, Y1, rfl⟩ ⟨_, Y2, rfl⟩)
      have PF : Hid (∀ w', Below w.heap.size w w' → ParseP s w (.returned (.tuple #[cirV nilC nilP, .int .i64 b.1, .int .i64 b.2])) w') := fun w' hb => parse_fault (parseM_fault HL.out hq) hb
      have BY : Hid (Below w.heap.size w y) := ext_below BZW.out hE (by have := HZR.out; omega) (Nat.le_refl _)
      clear Y0 Y1 Y2 hq hE
      go_wp2
      refine leaves_cons (f := 19) (args := #[.pointer (some ⟨w.heap.size, 0, none⟩), .pointer (some ⟨w.heap.size + 1, 0, none⟩), .pointer (some ⟨w.heap.size + 1 + 1, 0, none⟩)]) (by simp) (by simp [go_sem]) ?_
      refine PC.out.mono ?_
      rintro e u' w'' ⟨rfl, rfl, hC⟩
      exact ⟨_, parse_results w'' _ _ _ nilC nilP b.1 b.2 hC.2.2.1 hC.2.2.2.1 hC.2.2.2.2 _ rfl rfl rfl, PF.out _ (caught_below BY.out hC (by omega) (by omega) (by omega) (Nat.le_refl _))⟩
    | ok r =>
    obtain ⟨c, n⟩ := r
    rw [hq] at hr
    obtain ⟨P, rfl, hown, hk, hk2, hS, hE⟩ := hr
    have HQ := Lib.hid hq
    have Y0 := (hE.block _ (lt_of_block K0.out) (by have := HZR.out; omega)).trans K0.out
    obtain ⟨X1, X2, X3, X4, X5, X6, X7, X8, v0, v1, v2, v3, v4, v5, v6, v7, ⟨hX1, a0, b0⟩, ⟨hX2, a1, b1⟩, ⟨hX3, a2, b2⟩, ⟨hX4, a3, b3⟩, ⟨hX5, a4, b4⟩, ⟨hX6, a5, b5⟩, ⟨hX7, a6, b6⟩, ⟨hX8, a7, b7⟩, E8, FC⟩ := store8 Y0 rfl (.int .i64 c.max) (.slice P.ai c.ins.length P.ki) (.slice P.al c.lats.length P.kl) (.slice P.ao c.outs.length P.ko) (.slice P.ab c.bads.length P.kb) (.slice P.ac c.invs.length P.kc) (.slice P.aa c.ands.length P.ka) (.slice P.an c.names.length P.kn)
    have HF : Hid (CFits c P) := small_fits (circ_small hq (Nat.le_trans (count_le s) (lines_fit s (by have := HL.out; omega)).1) (lines_fit s (by have := HL.out; omega)).2) hk
    have OW : Hid _ := own7_but hown FC (by have := HZR.out; have := HZ3.out; omega)
    have CK := Lib.hid (check_any c P X8 (own_clies OW.out) HF.out)
    have SX : Hid (Src w1.heap.size A (linesL s) cap (nlCount s) n X8) := hS.but FC (by have := HZR.out; omega) HZA.out (Nat.ne_of_lt GML.out)
    have X0 : Hid (X8.heap[w.heap.size]? = some (.cells (cirC c P) 27 (0, 0))) := E8
    have X1' : Hid (X8.heap[w.heap.size + 1]? = some (.cells #[.int .i64 0] 3 (0, 0))) := (FC.b _ (by omega)).trans ((hE.block _ (lt_of_block K1.out) (by have := HZR.out; omega)).trans K1.out)
    have X2' : Hid (X8.heap[w.heap.size + 1 + 1]? = some (.cells #[.int .i64 0] 29 (0, 0))) := (FC.b _ (by omega)).trans ((hE.block _ (lt_of_block K2.out) (by have := HZR.out; omega)).trans K2.out)
    have BX : Hid (Below w.heap.size w X8) := FC.below (ext_below BZW.out hE (by have := HZR.out; omega) (Nat.le_refl _)) (Nat.le_refl _)
    have SZX : Hid (Z3.heap.size ≤ X8.heap.size) := by unfold Hid; rw [FC.z]; exact hE.size
    have d0 : X8.cell? ⟨w.heap.size, 0, none⟩ = some (.int .i64 c.max) := by simp [World.cell?, E8]
    have d1 : X8.cell? ⟨w.heap.size, 1, none⟩ = some (.slice P.ai c.ins.length P.ki) := by simp [World.cell?, E8]
    have d2 : X8.cell? ⟨w.heap.size, 2, none⟩ = some (.slice P.al c.lats.length P.kl) := by simp [World.cell?, E8]
    have d3 : X8.cell? ⟨w.heap.size, 3, none⟩ = some (.slice P.ao c.outs.length P.ko) := by simp [World.cell?, E8]
    have d4 : X8.cell? ⟨w.heap.size, 4, none⟩ = some (.slice P.ab c.bads.length P.kb) := by simp [World.cell?, E8]
    have d5 : X8.cell? ⟨w.heap.size, 5, none⟩ = some (.slice P.ac c.invs.length P.kc) := by simp [World.cell?, E8]
    have d6 : X8.cell? ⟨w.heap.size, 6, none⟩ = some (.slice P.aa c.ands.length P.ka) := by simp [World.cell?, E8]
    have d7 : X8.cell? ⟨w.heap.size, 7, none⟩ = some (.slice P.an c.names.length P.kn) := by simp [World.cell?, E8]
    clear Y0 E8 FC hq hown hk hk2 hS hE K0 K1 K2 BZW
    unfold cirV at CK ⊢
    rw [show cirC c P = #[.int .i64 c.max, .slice P.ai c.ins.length P.ki, .slice P.al c.lats.length P.kl, .slice P.ao c.outs.length P.ko, .slice P.ab c.bads.length P.kb, .slice P.ac c.invs.length P.kc, .slice P.aa c.ands.length P.ka, .slice P.an c.names.length P.kn] from rfl] at CK ⊢
    cases hc : chk c
    · rw [chkV_no c hc] at CK
      have PF : Hid (∀ w', Below w.heap.size w w' → ParseP s w (.returned (.tuple #[cirV nilC nilP, .int .i64 n, .int .i64 9])) w') := fun w' hb => parse_fault (b := (n, 9)) (parseM_state HL.out HQ.out hc) hb
      clear hc
      go_wp2_with fail
      refine CK.out.mono ?_
      rintro e w5 ⟨rfl, hb5⟩
      have RF := Lib.hid (refuse_any 9 w5 (SX.out.below hb5))
      have BX5 := Lib.hid hb5
      clear hb5
      go_wp2_with fail
      refine RF.out.mono ?_
      rintro e w6 ⟨rfl, hb6⟩
      have BX6 : Hid (Below X8.heap.size X8 w6) := BX5.out.trans (hb6.mono BX5.out.size)
      have hz := HZR.out
      have hz3 := HZ3.out
      have hzx := SZX.out
      have PC := Lib.hid (parse_catch w.heap.size (w.heap.size + 1) (w.heap.size + 1 + 1) n 9 w6 ⟨by omega, by omega, by omega⟩ ⟨_, (BX6.out.block _ (by omega)).trans X0.out, rfl⟩ ⟨_, (BX6.out.block _ (by omega)).trans X1'.out, rfl⟩ ⟨_, (BX6.out.block _ (by omega)).trans X2'.out, rfl⟩)
      have BY : Hid (Below w.heap.size w w6) := BX.out.trans (BX6.out.mono BX.out.size)
      clear hb6 hz hz3 hzx
      go_wp2
      refine leaves_cons (f := 19) (args := #[.pointer (some ⟨w.heap.size, 0, none⟩), .pointer (some ⟨w.heap.size + 1, 0, none⟩), .pointer (some ⟨w.heap.size + 1 + 1, 0, none⟩)]) (by simp) (by simp [go_sem]) ?_
      refine PC.out.mono ?_
      rintro e u' w'' ⟨rfl, rfl, hC⟩
      exact ⟨_, parse_results w'' _ _ _ nilC nilP n 9 hC.2.2.1 hC.2.2.2.1 hC.2.2.2.2 _ rfl rfl rfl, PF.out _ (caught_below BY.out hC (by omega) (by omega) (by omega) (Nat.le_refl _))⟩
    · rw [chkV_yes c hc] at CK
      have HC := Lib.hid hc
      clear hc
      go_wp2_with fail
      refine CK.out.mono ?_
      rintro e W0 ⟨rfl, hb5⟩
      have hz := HZR.out
      have hz3 := HZ3.out
      have hzx := SZX.out
      have HCZ : Hid (W0.heap[w.heap.size]? = some (.cells (cirC c P) 27 (0, 0))) := (hb5.block _ (by omega)).trans X0.out
      have HOK : Hid (Three W0 w.heap.size (w.heap.size + 1) (w.heap.size + 1 + 1) W0) := ⟨rfl, rfl, rfl, rfl, fun _ _ _ _ => rfl, ⟨_, HCZ.out, rfl⟩, ⟨_, (hb5.block _ (by omega)).trans X1'.out, rfl⟩, ⟨_, (hb5.block _ (by omega)).trans X2'.out, rfl⟩⟩
      have SW := (SX.out.below hb5).blk
      have HR2 : Hid (∀ (d : Nat → Bool) x, (Three W0 w.heap.size (w.heap.size + 1) (w.heap.size + 1 + 1) x ∧ (d 4 = false → x.heap[w.heap.size]? = W0.heap[w.heap.size]?)) → x.cell? ⟨w1.heap.size, 2, none⟩ = some (.int .i64 (n : Int))) := fun d x hx => by
        have := (hx.1.rest w1.heap.size (by omega) (by omega) (by omega)).trans SW
        simp [World.cell?, this]
      have HZZ : Hid (w.heap.size ≠ w.heap.size + 1 ∧ w.heap.size ≠ w.heap.size + 1 + 1 ∧ w.heap.size + 1 ≠ w.heap.size + 1 + 1) := ⟨by omega, by omega, by omega⟩
      have BW0 : Hid (Below w.heap.size w W0) := BX.out.trans (hb5.mono BX.out.size)
      have OW0 := Lib.hid (own7_keep OW.out hb5)
      have HWS : Hid (w.heap.size + 3 ≤ Z3.heap.size ∧ X8.heap.size ≤ W0.heap.size) := ⟨by omega, hb5.size⟩
      clear SW hb5 hz hz3 hzx X0 X1' X2' OW SX BX CK
      go_wp2
      refine wp_region_valsD (by kernel_rfl) (by kernel_rfl) par9M (by kernel_rfl) (by kernel_rfl)
        (fun d w' => Three W0 w.heap.size (w.heap.size + 1) (w.heap.size + 1 + 1) w' ∧ (d 4 = false → w'.heap[w.heap.size]? = W0.heap[w.heap.size]?)) (par9R 27 3 29 w.heap.size (w.heap.size + 1) (w.heap.size + 1 + 1) w1.heap.size n c P) ⟨HOK.out.drew, fun _ => rfl⟩ (fun jj f f' w w' hb hf h => par9_stab jj (fun em => by subst em; exact hb.block _ (lt_of_block h)) (fun em => by subst em; exact hb.block _ (lt_of_block h)) (fun em => by subst em; exact hb.block _ (lt_of_block h)) hf h) ?_ ?_
      · intro i oo d a' w' ho hd hun hdf hok hD K hK hK0
        match i, ho, hd, hD, hK, hK0, hun with
        | 0, ho, hd, hD, hK, hK0, hun =>
          have e := (congrArg Oper.op (Option.some.inj ho)).symm
          obtain rfl := Option.some.inj ho
          exact wp_val (op_load_cir a' w' w.heap.size _ _ _ _ _ _ _ _ 2 (((hok.2 (hd 4 (by kernel_rfl)))).trans HCZ.out) (hun 2 (by kernel_rfl)) _ e) (hK _ _ (Below.refl _ _) ⟨hok.1, fun h => hok.2 (by simp only [Bool.or_eq_false_iff] at h; exact h.2)⟩ (fun f h1 _ => h1 _ rfl))
        | 1, ho, hd, hD, hK, hK0, hun =>
          have e := (congrArg Oper.op (Option.some.inj ho)).symm
          obtain rfl := Option.some.inj ho
          exact wp_val (op_field_aag_reader_0 a' w' _ 5 (hun 5 (by kernel_rfl)) _ e) (hK _ _ (Below.refl _ _) ⟨hok.1, fun h => hok.2 (by simp only [Bool.or_eq_false_iff] at h; exact h.2)⟩ (fun f h1 _ => h1 _ rfl))
        | 2, ho, hd, hD, hK, hK0, hun =>
          have e := (congrArg Oper.op (Option.some.inj ho)).symm
          obtain rfl := Option.some.inj ho
          exact wp_val (op_field_source_2 a' w' _ 27 (hD 1 (by kernel_rfl)) _ e) (hK _ _ (Below.refl _ _) ⟨hok.1, fun h => hok.2 (by simp only [Bool.or_eq_false_iff] at h; exact h.2)⟩ (fun f h1 _ => h1 _ rfl))
        | 3, ho, hd, hD, hK, hK0, hun =>
          have e := (congrArg Oper.op (Option.some.inj ho)).symm
          obtain rfl := Option.some.inj ho
          exact wp_val (op_load_int a' w' _ 28 _ (hD 2 (by kernel_rfl)) (HR2.out _ _ hok) _ e) (hK _ _ (Below.refl _ _) ⟨hok.1, fun h => hok.2 (by simp only [Bool.or_eq_false_iff] at h; exact h.2)⟩ (fun f h1 _ => h1 _ rfl))
        | 4, ho, hd, hD, hK, hK0, hun =>
          have e := (congrArg Oper.op (Option.some.inj ho)).symm
          obtain rfl := Option.some.inj ho
          obtain ⟨x, hx, hxs⟩ := hok.1.c0
          obtain ⟨w'', hr, hgc2, hbut⟩ := op_store_cir a' w' w.heap.size x hx hxs c.max (P.ai, c.ins.length, P.ki) (P.al, c.lats.length, P.kl) (P.ao, c.outs.length, P.ko) (P.ab, c.bads.length, P.kb) (P.ac, c.invs.length, P.kc) (P.aa, c.ands.length, P.ka) (P.an, c.names.length, P.kn) 2 26 (hun 2 (by kernel_rfl)) (hD 0 (by kernel_rfl)) _ e
          refine wp_skip' hr (hK0 _ _ ⟨hok.1.but0 hbut hgc2 rfl HZZ.out, fun h => by simp at h⟩ (fun f h1 h2 => hgc2) (fun j f hj hf hq => par9_stab j (fun em => absurd em hj) (fun _ => hbut.b _ (by have := HZZ.out; omega)) (fun _ => hbut.b _ (by have := HZZ.out; omega)) hf hq))
        | 5, ho, hd, hD, hK, hK0, hun =>
          have e := (congrArg Oper.op (Option.some.inj ho)).symm
          obtain rfl := Option.some.inj ho
          obtain ⟨x, hx, hxs⟩ := hok.1.c1
          obtain ⟨w'', hr, hgc2, hbut⟩ := op_store_int1 a' w' (w.heap.size + 1) x hx hxs _ 3 29 (hun 3 (by kernel_rfl)) (hD 3 (by kernel_rfl)) _ e
          refine wp_skip' hr (hK0 _ _ ⟨hok.1.but1 hbut hgc2 rfl HZZ.out, fun h => (hbut.b _ (by have := HZZ.out; omega)).trans (hok.2 (by simp only [Bool.or_eq_false_iff] at h; exact h.2))⟩ (fun f h1 h2 => hgc2) (fun j f hj hf hq => par9_stab j (fun _ => hbut.b _ (by have := HZZ.out; omega)) (fun em => absurd em hj) (fun _ => hbut.b _ (by have := HZZ.out; omega)) hf hq))
        | 6, ho, hd, hD, hK, hK0, hun =>
          have e := (congrArg Oper.op (Option.some.inj ho)).symm
          obtain rfl := Option.some.inj ho
          obtain ⟨x, hx, hxs⟩ := hok.1.c2
          obtain ⟨w'', hr, hgc2, hbut⟩ := op_store_errno_const a' w' (w.heap.size + 1 + 1) x hx hxs _ 4 (hun 4 (by kernel_rfl)) _ e
          refine wp_skip' hr (hK0 _ _ ⟨hok.1.but2 hbut hgc2 rfl HZZ.out, fun h => (hbut.b _ (by have := HZZ.out; omega)).trans (hok.2 (by simp only [Bool.or_eq_false_iff] at h; exact h.2))⟩ (fun f h1 h2 => hgc2) (fun j f hj hf hq => par9_stab j (fun _ => hbut.b _ (by have := HZZ.out; omega)) (fun _ => hbut.b _ (by have := HZZ.out; omega)) (fun em => absurd em hj) hf hq))
        | i + 7, ho, _, _, _, _, _ => exact absurd ho (by simp)
      · intro a' w9 hsz hdf hkt hok hR
        have HF3 := frame_sets [26, 27, 28, 29] (by kernel_rfl) hsz hkt
        obtain ⟨d, hok⟩ := hok
        have Q0 := hR 4 (by decide)
        have Q1 := hR 5 (by decide)
        have Q2 := hR 6 (by decide)
        obtain ⟨tm, df⟩ := a'
        obtain rfl : df = _ := hdf
        simp only [List.foldl_cons, List.foldl_nil] at HF3
        clear hkt hR hsz
        generalize tm.getD 26 undef = y26 at HF3
        generalize tm.getD 27 undef = y27 at HF3
        generalize tm.getD 28 undef = y28 at HF3
        generalize tm.getD 29 undef = y29 at HF3
        simp only [List.setIfInBounds_toArray, List.set_cons_succ, List.set_cons_zero] at HF3
        subst HF3
        have QB : Hid (Below w.heap.size w w9) := ⟨hok.1.os.trans BW0.out.os, hok.1.tape.trans BW0.out.tape, hok.1.output.trans BW0.out.output, by rw [hok.1.size]; exact BW0.out.size, fun k hk => (hok.1.rest k (by omega) (by omega) (by omega)).trans (BW0.out.block k hk)⟩
        have OW9 := own7_three OW0.out hok.1 HWS.out.1
        have QP : Hid (ParseP s w (.returned (.tuple #[cirV c P, .int .i64 (n : Int), .int .i64 0])) w9) := ⟨QB.out, c, P, n, 0, rfl, own_clies OW9, HF.out, by rw [parseM_ok HL.out HQ.out HC.out]; exact ⟨rfl, rfl, rfl⟩⟩
        have R0 := Lib.hid Q0
        have R1 := Lib.hid Q1
        have R2 := Lib.hid Q2
        clear Q0 Q1 Q2 hok OW9
        go_wp2
        refine leaves_cons (f := 19) (args := #[.pointer (some ⟨w.heap.size, 0, none⟩), .pointer (some ⟨w.heap.size + 1, 0, none⟩), .pointer (some ⟨w.heap.size + 1 + 1, 0, none⟩)]) (by simp) (by simp [go_sem]) ?_
        refine (parse_idle _ _ _ _).mono ?_
        rintro e u' w'' ⟨rfl, rfl, rfl⟩
        exact ⟨_, parse_results _ _ _ _ c P n 0 R0.out R1.out R2.out _ rfl rfl rfl, QP.out⟩
end Go.Proofs.YtckdlbfndmmjjaaGreatDoor.Aag
