/- The operations of circuit.Copy's region, each run by itself; no condition. -/
import Derived.Test.YtefhhldfelmnkaaClone
import Derived.Test.YtefhhldfelmnkaaRel
namespace Go.Proofs.Ytefhhldfelmnkaa.Cw
open Go.ChangeShapes Go.WideShapes Go.ChangeAt Go.RowKit Go.Maps Circ
theorem wp_val {P : Program} {o : Oper} {a : Act} {w w' : World} {K : Act → World → Prop} {Q : Exit → Act → World → Prop} {v : Value} (h : (execOp a.eval o).run P w = .ok (.value v) w') (hk : K (a.put o.dst v) w') : o.wp P a w K Q := by
  unfold Oper.wp; rw [h]; exact hk
theorem wp_skip {P : Program} {o : Oper} {a : Act} {w w' : World} {K : Act → World → Prop} {Q : Exit → Act → World → Prop} (h : (execOp a.eval o).run P w = .ok .skip w') (hk : K (a.put o.dst undef) w') : o.wp P a w K Q := by
  unfold Oper.wp; rw [h]; exact hk
theorem wp_enter {P : Program} {o : Oper} {a : Act} {w w' : World} {K : Act → World → Prop} {Q : Exit → Act → World → Prop} {f : FuncId} {args : Array Value} (h : (execOp a.eval o).run P w = .ok (.enter f args) w') (hk : Calls P f args w' fun e w'' => ∃ v, e = .returned v ∧ K (a.put o.dst v) w'') : o.wp P a w K Q := by
  unfold Oper.wp; rw [h]
  refine hk.mono ?_
  rintro e w'' ⟨v, rfl, h⟩
  exact h
theorem op_field (a : Act) (w : World) (B k : Nat) (t : Nat) (hk : k < 8) (h : a.tmps.getD t undef = .pointer (some ⟨B, 0, none⟩)) (o : Oper) (ho : o.op = .fieldAddr 27 (.tmp t) k) : (execOp a.eval o).run Try.prog w = .ok (.value (.pointer (some ⟨B, k, none⟩))) w := by
  have h' : a.tmps[t]?.getD undef = .pointer (some ⟨B, 0, none⟩) := by simpa using h
  unfold execOp
  rw [ho]
  match k, hk with
  | 0, _ => go_simp
  | 1, _ => go_simp
  | 2, _ => go_simp
  | 3, _ => go_simp
  | 4, _ => go_simp
  | 5, _ => go_simp
  | 6, _ => go_simp
  | 7, _ => go_simp
theorem op_load (a : Act) (w : World) (A : Addr) (t T : Nat) (v : Value) (h : a.tmps.getD t undef = .pointer (some A)) (hc : w.cell? A = some v) (o : Oper) (hT : T = 22 ∨ T = 3 ∨ T = 23 ∨ T = 24 ∨ T = 25 ∨ T = 9) (ho : o.op = .load T (.tmp t)) : (execOp a.eval o).run Try.prog w = .ok (.value v) w := by
  have h' : a.tmps[t]?.getD undef = .pointer (some A) := by simpa using h
  unfold execOp
  rw [ho]
  rcases hT with rfl | rfl | rfl | rfl | rfl | rfl <;> go_simp
theorem op_call (a : Act) (w : World) (f t T : Nat) (hf : ∀ args w, (callFunc f args).run Try.prog w = .ok (.enter f args) w) (o : Oper) (ho : o.op = .call { callee := .value (.func f), args := #[.tmp t], argTypes := #[T] }) : (execOp a.eval o).run Try.prog w = .ok (.enter f #[a.tmps.getD t undef]) w := by
  unfold execOp
  rw [ho]
  go_simp
theorem op_build (a : Act) (w : World) (m : Int) (A1 A2 A3 A4 A5 A6 A7 : Option Addr) (n1 n2 n3 n4 n5 n6 n7 q1 q2 q3 q4 q5 q6 q7 : Nat) (h7 : a.tmps.getD 7 undef = .int .i64 m) (h10 : a.tmps.getD 10 undef = .slice A1 n1 q1) (h13 : a.tmps.getD 13 undef = .slice A2 n2 q2) (h16 : a.tmps.getD 16 undef = .slice A3 n3 q3) (h19 : a.tmps.getD 19 undef = .slice A4 n4 q4) (h22 : a.tmps.getD 22 undef = .slice A5 n5 q5) (h25 : a.tmps.getD 25 undef = .slice A6 n6 q6) (h28 : a.tmps.getD 28 undef = .slice A7 n7 q7)
    (o : Oper) (ho : o.op = .build 27 #[(0, .tmp 7), (1, .tmp 10), (2, .tmp 13), (3, .tmp 16), (4, .tmp 19), (5, .tmp 22), (6, .tmp 25), (7, .tmp 28)]) : (execOp a.eval o).run Try.prog w = .ok (.value (.agg #[.int .i64 m, .slice A1 n1 q1, .slice A2 n2 q2, .slice A3 n3 q3, .slice A4 n4 q4, .slice A5 n5 q5, .slice A6 n6 q6, .slice A7 n7 q7])) w := by
  unfold execOp
  rw [ho]
  have g7 : a.tmps[7]?.getD undef = .int .i64 m := by simpa using h7
  have g10 : a.tmps[10]?.getD undef = .slice A1 n1 q1 := by simpa using h10
  have g13 : a.tmps[13]?.getD undef = .slice A2 n2 q2 := by simpa using h13
  have g16 : a.tmps[16]?.getD undef = .slice A3 n3 q3 := by simpa using h16
  have g19 : a.tmps[19]?.getD undef = .slice A4 n4 q4 := by simpa using h19
  have g22 : a.tmps[22]?.getD undef = .slice A5 n5 q5 := by simpa using h22
  have g25 : a.tmps[25]?.getD undef = .slice A6 n6 q6 := by simpa using h25
  have g28 : a.tmps[28]?.getD undef = .slice A7 n7 q7 := by simpa using h28
  clear h7 h10 h13 h16 h19 h22 h25 h28
  go_simp
/-- w' is w but for block g -/
structure But (g : Nat) (w w' : World) : Prop where
  b : ∀ k, k ≠ g → w'.heap[k]? = w.heap[k]?
  z : w'.heap.size = w.heap.size
  os : w'.os = w.os
  tape : w'.tape = w.tape
  output : w'.output = w.output
theorem But.trans {g : Nat} {a b c : World} (h : But g a b) (k : But g b c) : But g a c := ⟨fun i hi => (k.b i hi).trans (h.b i hi), k.z.trans h.z, k.os.trans h.os, k.tape.trans h.tape, k.output.trans h.output⟩
theorem But.set (w : World) (g i : Nat) (v : Value) : But g w (w.setCell ⟨g, i, none⟩ v) := ⟨fun _ hk => Below.heap_setCell _ _ _ _ hk, by simp [World.setCell], rfl, rfl, rfl⟩
theorem store_at {P : Program} {w : World} {g : Nat} {z : Array Value} {e : TypeId} (hg : w.heap[g]? = some (.cells z e (0, 0))) (i : Nat) (v : Value) (hv : v.oneCell' = true) (hi : i < z.size) : ∃ w', (store ⟨g, i, none⟩ v).run P w = .ok () w' ∧ w'.heap[g]? = some (.cells (z.setIfInBounds i v) e (0, 0)) ∧ But g w w' := by
  refine ⟨w.setCell ⟨g, i, none⟩ v, ?_, by simp [World.setCell, Array.getElem?_modify, hg], But.set w g i v⟩
  rw [run_store P w _ v _ hv]
  simp [World.frozen?, World.cell?, hg, hi]
theorem set8 (z : Array Value) (hz : z.size = 8) (x0 x1 x2 x3 x4 x5 x6 x7 : Value) : (((((((z.setIfInBounds 0 x0).setIfInBounds 1 x1).setIfInBounds 2 x2).setIfInBounds 3 x3).setIfInBounds 4 x4).setIfInBounds 5 x5).setIfInBounds 6 x6).setIfInBounds 7 x7 = #[x0, x1, x2, x3, x4, x5, x6, x7] := by
  obtain ⟨l⟩ := z
  have hz' : l.length = 8 := by simpa using hz
  clear hz
  rcases l with _ | ⟨a0, l⟩ <;> simp only [List.length_cons, List.length_nil] at hz'
  · omega
  rcases l with _ | ⟨a1, l⟩ <;> simp only [List.length_cons, List.length_nil] at hz'
  · omega
  rcases l with _ | ⟨a2, l⟩ <;> simp only [List.length_cons, List.length_nil] at hz'
  · omega
  rcases l with _ | ⟨a3, l⟩ <;> simp only [List.length_cons, List.length_nil] at hz'
  · omega
  rcases l with _ | ⟨a4, l⟩ <;> simp only [List.length_cons, List.length_nil] at hz'
  · omega
  rcases l with _ | ⟨a5, l⟩ <;> simp only [List.length_cons, List.length_nil] at hz'
  · omega
  rcases l with _ | ⟨a6, l⟩ <;> simp only [List.length_cons, List.length_nil] at hz'
  · omega
  rcases l with _ | ⟨a7, l⟩ <;> simp only [List.length_cons, List.length_nil] at hz'
  · omega
  obtain rfl : l = [] := List.eq_nil_of_length_eq_zero (by omega)
  simp
theorem op_store (a : Act) (w : World) (g : Nat) (z : Array Value) (hg : w.heap[g]? = some (.cells z 27 (0, 0))) (hz : z.size = 8) (m : Int) (A1 A2 A3 A4 A5 A6 A7 : Option Addr) (n1 n2 n3 n4 n5 n6 n7 q1 q2 q3 q4 q5 q6 q7 : Nat) (h3 : a.tmps.getD 3 undef = .pointer (some ⟨g, 0, none⟩)) (h29 : a.tmps.getD 29 undef = .agg #[.int .i64 m, .slice A1 n1 q1, .slice A2 n2 q2, .slice A3 n3 q3, .slice A4 n4 q4, .slice A5 n5 q5, .slice A6 n6 q6, .slice A7 n7 q7]) (o : Oper) (ho : o.op = .store 27 (.tmp 3) (.tmp 29)) : ∃ w', (execOp a.eval o).run Try.prog w = .ok .skip w' ∧ w'.heap[g]? = some (.cells #[.int .i64 m, .slice A1 n1 q1, .slice A2 n2 q2, .slice A3 n3 q3, .slice A4 n4 q4, .slice A5 n5 q5, .slice A6 n6 q6, .slice A7 n7 q7] 27 (0, 0)) ∧ But g w w' := by
  obtain ⟨w0, r0, g0, b0⟩ := store_at (P := Try.prog) hg 0 (.int .i64 m) rfl (by omega)
  obtain ⟨w1, r1, g1, b1⟩ := store_at (P := Try.prog) g0 1 (.slice A1 n1 q1) rfl (by simp; omega)
  obtain ⟨w2, r2, g2, b2⟩ := store_at (P := Try.prog) g1 2 (.slice A2 n2 q2) rfl (by simp; omega)
  obtain ⟨w3, r3, g3, b3⟩ := store_at (P := Try.prog) g2 3 (.slice A3 n3 q3) rfl (by simp; omega)
  obtain ⟨w4, r4, g4, b4⟩ := store_at (P := Try.prog) g3 4 (.slice A4 n4 q4) rfl (by simp; omega)
  obtain ⟨w5, r5, g5, b5⟩ := store_at (P := Try.prog) g4 5 (.slice A5 n5 q5) rfl (by simp; omega)
  obtain ⟨w6, r6, g6, b6⟩ := store_at (P := Try.prog) g5 6 (.slice A6 n6 q6) rfl (by simp; omega)
  obtain ⟨w7, r7, g7, b7⟩ := store_at (P := Try.prog) g6 7 (.slice A7 n7 q7) rfl (by simp; omega)
  rw [set8 z hz] at g7
  refine ⟨w7, ?_, g7, b0.trans (b1.trans (b2.trans (b3.trans (b4.trans (b5.trans (b6.trans b7))))))⟩
  unfold execOp
  rw [ho]
  have p3 : a.tmps[3]?.getD undef = .pointer (some ⟨g, 0, none⟩) := by simpa using h3
  have p29 : a.tmps[29]?.getD undef = .agg #[.int .i64 m, .slice A1 n1 q1, .slice A2 n2 q2, .slice A3 n3 q3, .slice A4 n4 q4, .slice A5 n5 q5, .slice A6 n6 q6, .slice A7 n7 q7] := by simpa using h29
  clear h3 h29 hg hz g0 g1 g2 g3 g4 g5 g6 g7
  simp only [run_store_int, run_store_slice, stored] at r0 r1 r2 r3 r4 r5 r6 r7
  go_simp
theorem op_alloc (a : Act) (w : World) (o : Oper) (ho : o.op = .alloc 27) : (execOp a.eval o).run Try.prog w = .ok (.value (.pointer (some ⟨w.heap.size, 0, none⟩))) (w.alloc (.cells #[.int .i64 0, .slice none 0 0, .slice none 0 0, .slice none 0 0, .slice none 0 0, .slice none 0 0, .slice none 0 0, .slice none 0 0] 27)) := by
  unfold execOp
  rw [ho]
  go_simp
end Go.Proofs.Ytefhhldfelmnkaa.Cw
