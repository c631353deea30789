/- The operations of circuit.Copy's region, each run by itself; no condition. The region in which circuit.Copy makes a circuit of clones, in whatever order; no condition. Small words for the rest of circuit.Copy: a frame written out, a store of what a cell held, a store of a whole circuit; no condition. Regions that draw their order and whose operations are guarded ('&&', '||'): what each operation leaves, or that it is not wanted; no condition. interlockplain.Ints, interlockref10.Abs, Is, One; condition: lists lie in memory, texts are as long as Go's may be. -/
import Derived.Test.YtbgcoeejmnejdaaPt12
import Derived.Test.YtbgcoeejmnejdaaPt19
import Derived.Test.YtbgcoeejmnejdaaPt11
import Derived.Test.YtbgcoeejmnejdaaPt02
namespace Go.Proofs.Ytbgcoeejmnejdaa.Cpy
open Go.ChangeShapes Go.WideShapes Go.ChangeAt Go.RowKit Go.Maps Circ Cw
theorem wp_val {P : Program} {o : Oper} {a : Act} {w w' : World} {K : Act → World → Prop} {Q : Exit → Act → World → Prop} {v : Value} (h : (execOp a.eval o).run P w = .ok (.value v) w') (hk : K (a.put o.dst v) w') : o.wp P a w K Q := by
  unfold Oper.wp; rw [h]; exact hk
theorem wp_skip {P : Program} {o : Oper} {a : Act} {w w' : World} {K : Act → World → Prop} {Q : Exit → Act → World → Prop} (h : (execOp a.eval o).run P w = .ok .skip w') (hk : K (a.put o.dst undef) w') : o.wp P a w K Q := by
  unfold Oper.wp; rw [h]; exact hk
theorem wp_enter {P : Program} {o : Oper} {a : Act} {w w' : World} {K : Act → World → Prop} {Q : Exit → Act → World → Prop} {f : FuncId} {args : Array Value} (h : (execOp a.eval o).run P w = .ok (.enter f args) w') (hk : Calls P f args w' fun e w'' => ∃ v, e = .returned v ∧ K (a.put o.dst v) w'') : o.wp P a w K Q := by
  unfold Oper.wp; rw [h]
  refine hk.mono ?_
  rintro e w'' ⟨v, rfl, h⟩
  exact h
theorem op_field (a : Act) (w : World) (B k : Nat) (t : Nat) (hk : k < 8) (h : a.tmps.getD t undef = .pointer (some ⟨B, 0, none⟩)) (o : Oper) (ho : o.op = .fieldAddr 27 (.tmp t) k) : (execOp a.eval o).run Try.prog w = .ok (.value (.pointer (some ⟨B, k, none⟩))) w := by
  have h' : a.tmps[t]?.getD undef = .pointer (some ⟨B, 0, none⟩) := by simpa using h
  unfold execOp
  rw [ho]
  match k, hk with
  | 0, _ => go_simp
  | 1, _ => go_simp
  | 2, _ => go_simp
  | 3, _ => go_simp
  | 4, _ => go_simp
  | 5, _ => go_simp
  | 6, _ => go_simp
  | 7, _ => go_simp
theorem op_load (a : Act) (w : World) (A : Addr) (t T : Nat) (v : Value) (h : a.tmps.getD t undef = .pointer (some A)) (hc : w.cell? A = some v) (o : Oper) (hT : T = 22 ∨ T = 3 ∨ T = 23 ∨ T = 24 ∨ T = 25 ∨ T = 9) (ho : o.op = .load T (.tmp t)) : (execOp a.eval o).run Try.prog w = .ok (.value v) w := by
  have h' : a.tmps[t]?.getD undef = .pointer (some A) := by simpa using h
  unfold execOp
  rw [ho]
  rcases hT with rfl | rfl | rfl | rfl | rfl | rfl <;> go_simp
theorem op_call (a : Act) (w : World) (f t T : Nat) (hf : ∀ args w, (callFunc f args).run Try.prog w = .ok (.enter f args) w) (o : Oper) (ho : o.op = .call { callee := .value (.func f), args := #[.tmp t], argTypes := #[T] }) : (execOp a.eval o).run Try.prog w = .ok (.enter f #[a.tmps.getD t undef]) w := by
  unfold execOp
  rw [ho]
  go_simp
theorem op_build (a : Act) (w : World) (m : Int) (A1 A2 A3 A4 A5 A6 A7 : Option Addr) (n1 n2 n3 n4 n5 n6 n7 q1 q2 q3 q4 q5 q6 q7 : Nat) (h7 : a.tmps.getD 7 undef = .int .i64 m) (h10 : a.tmps.getD 10 undef = .slice A1 n1 q1) (h13 : a.tmps.getD 13 undef = .slice A2 n2 q2) (h16 : a.tmps.getD 16 undef = .slice A3 n3 q3) (h19 : a.tmps.getD 19 undef = .slice A4 n4 q4) (h22 : a.tmps.getD 22 undef = .slice A5 n5 q5) (h25 : a.tmps.getD 25 undef = .slice A6 n6 q6) (h28 : a.tmps.getD 28 undef = .slice A7 n7 q7)
    (o : Oper) (ho : o.op = .build 27 #[(0, .tmp 7), (1, .tmp 10), (2, .tmp 13), (3, .tmp 16), (4, .tmp 19), (5, .tmp 22), (6, .tmp 25), (7, .tmp 28)]) : (execOp a.eval o).run Try.prog w = .ok (.value (.agg #[.int .i64 m, .slice A1 n1 q1, .slice A2 n2 q2, .slice A3 n3 q3, .slice A4 n4 q4, .slice A5 n5 q5, .slice A6 n6 q6, .slice A7 n7 q7])) w := by
  unfold execOp
  rw [ho]
  have g7 : a.tmps[7]?.getD undef = .int .i64 m := by simpa using h7
  have g10 : a.tmps[10]?.getD undef = .slice A1 n1 q1 := by simpa using h10
  have g13 : a.tmps[13]?.getD undef = .slice A2 n2 q2 := by simpa using h13
  have g16 : a.tmps[16]?.getD undef = .slice A3 n3 q3 := by simpa using h16
  have g19 : a.tmps[19]?.getD undef = .slice A4 n4 q4 := by simpa using h19
  have g22 : a.tmps[22]?.getD undef = .slice A5 n5 q5 := by simpa using h22
  have g25 : a.tmps[25]?.getD undef = .slice A6 n6 q6 := by simpa using h25
  have g28 : a.tmps[28]?.getD undef = .slice A7 n7 q7 := by simpa using h28
  clear h7 h10 h13 h16 h19 h22 h25 h28
  go_simp
/-- w' is w but for block g -/
structure But (g : Nat) (w w' : World) : Prop where
  b : ∀ k, k ≠ g → w'.heap[k]? = w.heap[k]?
  z : w'.heap.size = w.heap.size
  os : w'.os = w.os
  tape : w'.tape = w.tape
  output : w'.output = w.output
theorem But.trans {g : Nat} {a b c : World} (h : But g a b) (k : But g b c) : But g a c := ⟨fun i hi => (k.b i hi).trans (h.b i hi), k.z.trans h.z, k.os.trans h.os, k.tape.trans h.tape, k.output.trans h.output⟩
theorem But.set (w : World) (g i : Nat) (v : Value) : But g w (w.setCell ⟨g, i, none⟩ v) := ⟨fun _ hk => Below.heap_setCell _ _ _ _ hk, by simp [World.setCell], rfl, rfl, rfl⟩
theorem store_at {P : Program} {w : World} {g : Nat} {z : Array Value} {e : TypeId} (hg : w.heap[g]? = some (.cells z e (0, 0))) (i : Nat) (v : Value) (hv : v.oneCell' = true) (hi : i < z.size) : ∃ w', (store ⟨g, i, none⟩ v).run P w = .ok () w' ∧ w'.heap[g]? = some (.cells (z.setIfInBounds i v) e (0, 0)) ∧ But g w w' := by
  refine ⟨w.setCell ⟨g, i, none⟩ v, ?_, by simp [World.setCell, Array.getElem?_modify, hg], But.set w g i v⟩
  rw [run_store P w _ v _ hv]
  simp [World.frozen?, World.cell?, hg, hi]
theorem set8 (z : Array Value) (hz : z.size = 8) (x0 x1 x2 x3 x4 x5 x6 x7 : Value) : (((((((z.setIfInBounds 0 x0).setIfInBounds 1 x1).setIfInBounds 2 x2).setIfInBounds 3 x3).setIfInBounds 4 x4).setIfInBounds 5 x5).setIfInBounds 6 x6).setIfInBounds 7 x7 = #[x0, x1, x2, x3, x4, x5, x6, x7] := by
  obtain ⟨l⟩ := z
  have hz' : l.length = 8 := by simpa using hz
  clear hz
  rcases l with _ | ⟨a0, l⟩ <;> simp only [List.length_cons, List.length_nil] at hz'
  · omega
  rcases l with _ | ⟨a1, l⟩ <;> simp only [List.length_cons, List.length_nil] at hz'
  · omega
  rcases l with _ | ⟨a2, l⟩ <;> simp only [List.length_cons, List.length_nil] at hz'
  · omega
  rcases l with _ | ⟨a3, l⟩ <;> simp only [List.length_cons, List.length_nil] at hz'
  · omega
  rcases l with _ | ⟨a4, l⟩ <;> simp only [List.length_cons, List.length_nil] at hz'
  · omega
  rcases l with _ | ⟨a5, l⟩ <;> simp only [List.length_cons, List.length_nil] at hz'
  · omega
  rcases l with _ | ⟨a6, l⟩ <;> simp only [List.length_cons, List.length_nil] at hz'
  · omega
  rcases l with _ | ⟨a7, l⟩ <;> simp only [List.length_cons, List.length_nil] at hz'
  · omega
  obtain rfl : l = [] := List.eq_nil_of_length_eq_zero (by omega)
  simp
theorem op_store (a : Act) (w : World) (g : Nat) (z : Array Value) (hg : w.heap[g]? = some (.cells z 27 (0, 0))) (hz : z.size = 8) (m : Int) (A1 A2 A3 A4 A5 A6 A7 : Option Addr) (n1 n2 n3 n4 n5 n6 n7 q1 q2 q3 q4 q5 q6 q7 : Nat) (h3 : a.tmps.getD 3 undef = .pointer (some ⟨g, 0, none⟩)) (h29 : a.tmps.getD 29 undef = .agg #[.int .i64 m, .slice A1 n1 q1, .slice A2 n2 q2, .slice A3 n3 q3, .slice A4 n4 q4, .slice A5 n5 q5, .slice A6 n6 q6, .slice A7 n7 q7]) (o : Oper) (ho : o.op = .store 27 (.tmp 3) (.tmp 29)) : ∃ w', (execOp a.eval o).run Try.prog w = .ok .skip w' ∧ w'.heap[g]? = some (.cells #[.int .i64 m, .slice A1 n1 q1, .slice A2 n2 q2, .slice A3 n3 q3, .slice A4 n4 q4, .slice A5 n5 q5, .slice A6 n6 q6, .slice A7 n7 q7] 27 (0, 0)) ∧ But g w w' := by
  obtain ⟨w0, r0, g0, b0⟩ := store_at (P := Try.prog) hg 0 (.int .i64 m) rfl (by omega)
  obtain ⟨w1, r1, g1, b1⟩ := store_at (P := Try.prog) g0 1 (.slice A1 n1 q1) rfl (by simp; omega)
  obtain ⟨w2, r2, g2, b2⟩ := store_at (P := Try.prog) g1 2 (.slice A2 n2 q2) rfl (by simp; omega)
  obtain ⟨w3, r3, g3, b3⟩ := store_at (P := Try.prog) g2 3 (.slice A3 n3 q3) rfl (by simp; omega)
  obtain ⟨w4, r4, g4, b4⟩ := store_at (P := Try.prog) g3 4 (.slice A4 n4 q4) rfl (by simp; omega)
  obtain ⟨w5, r5, g5, b5⟩ := store_at (P := Try.prog) g4 5 (.slice A5 n5 q5) rfl (by simp; omega)
  obtain ⟨w6, r6, g6, b6⟩ := store_at (P := Try.prog) g5 6 (.slice A6 n6 q6) rfl (by simp; omega)
  obtain ⟨w7, r7, g7, b7⟩ := store_at (P := Try.prog) g6 7 (.slice A7 n7 q7) rfl (by simp; omega)
  rw [set8 z hz] at g7
  refine ⟨w7, ?_, g7, b0.trans (b1.trans (b2.trans (b3.trans (b4.trans (b5.trans (b6.trans b7))))))⟩
  unfold execOp
  rw [ho]
  have p3 : a.tmps[3]?.getD undef = .pointer (some ⟨g, 0, none⟩) := by simpa using h3
  have p29 : a.tmps[29]?.getD undef = .agg #[.int .i64 m, .slice A1 n1 q1, .slice A2 n2 q2, .slice A3 n3 q3, .slice A4 n4 q4, .slice A5 n5 q5, .slice A6 n6 q6, .slice A7 n7 q7] := by simpa using h29
  clear h3 h29 hg hz g0 g1 g2 g3 g4 g5 g6 g7
  simp only [run_store_int, run_store_slice, stored] at r0 r1 r2 r3 r4 r5 r6 r7
  go_simp
theorem op_alloc (a : Act) (w : World) (o : Oper) (ho : o.op = .alloc 27) : (execOp a.eval o).run Try.prog w = .ok (.value (.pointer (some ⟨w.heap.size, 0, none⟩))) (w.alloc (.cells #[.int .i64 0, .slice none 0 0, .slice none 0 0, .slice none 0 0, .slice none 0 0, .slice none 0 0, .slice none 0 0, .slice none 0 0] 27)) := by
  unfold execOp
  rw [ho]
  go_simp
end Go.Proofs.Ytbgcoeejmnejdaa.Cpy
namespace Go.Proofs.Ytbgcoeejmnejdaa.Cpy
open Go.ChangeShapes Go.WideShapes Go.ChangeAt Go.RowKit Go.Maps Circ Cw

theorem _root_.Go.Proofs.Ytbgcoeejmnejdaa.Cw.OwnC.base {w : World} {base base' : Nat} {e : TypeId} {m : Nat} {v : Value} {xs : List (List Value)} (h : OwnC w base e m v xs) (hb : base' ≤ base) : OwnC w base' e m v xs := by
  obtain ⟨h0, h⟩ := h
  refine ⟨h0, ?_⟩
  rcases h with h | ⟨g, cap, cur, hv, hg, r⟩
  · exact .inl h
  · exact .inr ⟨g, cap, cur, hv, Nat.le_trans hb hg, r⟩
theorem _root_.Go.Proofs.Ytbgcoeejmnejdaa.Cw.OwnC.type {w : World} {base : Nat} {e : TypeId} {m : Nat} {v : Value} {xs : List (List Value)} (h : OwnC w base e m v xs) {g : Nat} (hg : v.ownBlock = some g) : ∃ cur, w.heap[g]? = some (.cells cur e (0, 0)) := by
  obtain ⟨_, h⟩ := h
  rcases h with ⟨rfl, h0⟩ | ⟨g', cap, cur, rfl, hb, hh, _⟩
  · simp [Value.ownBlock] at hg
  · have : g' = g := by simpa [Value.ownBlock] using hg
    subst this
    exact ⟨cur, hh⟩
/-- a store into a block of another type leaves it -/
theorem _root_.Go.Proofs.Ytbgcoeejmnejdaa.Cw.OwnC.but {w w' : World} {base : Nat} {e : TypeId} {m : Nat} {v : Value} {xs : List (List Value)} (h : OwnC w base e m v xs) {g : Nat} {z : Array Value} (hg : w.heap[g]? = some (.cells z 27 (0, 0))) (he : e ≠ 27) (hb : But g w w') : OwnC w' base e m v xs :=
  h.keep_at fun k _ hk => hb.b k (by
    rintro rfl
    obtain ⟨cur, hc⟩ := h.type hk
    rw [hg] at hc
    injection hc with hc
    injection hc with _ hc
    exact he hc.symm)

def Cl (w : World) (N : Nat) (e : TypeId) (m : Nat) (xs : List (List Value)) (v : Value) : Prop := OwnC w N e m v xs
def Fr (w : World) (N : Nat) (v : Value) : Prop := ∃ g z, v = .pointer (some ⟨g, 0, none⟩) ∧ N ≤ g ∧ w.heap[g]? = some (.cells z 27 (0, 0)) ∧ z.size = 8
def Bl (f : Nat → Value) : Prop := f 29 = .agg #[f 7, f 10, f 13, f 16, f 19, f 22, f 25, f 28] ∧ (∃ m, f 7 = .int .i64 m) ∧ (∃ A n q, f 10 = .slice A n q) ∧ (∃ A n q, f 13 = .slice A n q) ∧ (∃ A n q, f 16 = .slice A n q) ∧ (∃ A n q, f 19 = .slice A n q) ∧ (∃ A n q, f 22 = .slice A n q) ∧ (∃ A n q, f 25 = .slice A n q) ∧ (∃ A n q, f 28 = .slice A n q)
def Fi (w : World) (N : Nat) (p v : Value) : Prop := ∃ g z, p = .pointer (some ⟨g, 0, none⟩) ∧ N ≤ g ∧ w.heap[g]? = some (.cells z 27 (0, 0)) ∧ v = .agg z
theorem But.below {N g : Nat} {W w w' : World} (h : Below N W w) (hb : But g w w') (hg : N ≤ g) : Below N W w' :=
  ⟨hb.os.trans h.os, hb.tape.trans h.tape, hb.output.trans h.output, by rw [hb.z]; exact h.size, fun k hk => (hb.b k (by omega)).trans (h.block k hk)⟩
/-- what operation j leaves -/
def copyR (B N : Nat) (c : Cir) (s : Places) : Nat → (Nat → Value) → World → Prop
  | 0, f, _ => f 6 = .pointer (some ⟨B, 0, none⟩)
  | 1, f, _ => f 7 = .int .i64 c.max
  | 2, f, _ => f 8 = .pointer (some ⟨B, 1, none⟩)
  | 3, f, _ => f 9 = .slice s.ai c.ins.length s.ki
  | 4, f, w => Cl w N 3 1 (ints c.ins) (f 10)
  | 5, f, _ => f 11 = .pointer (some ⟨B, 2, none⟩)
  | 6, f, _ => f 12 = .slice s.al c.lats.length s.kl
  | 7, f, w => Cl w N 39 3 (tris c.lats) (f 13)
  | 8, f, _ => f 14 = .pointer (some ⟨B, 3, none⟩)
  | 9, f, _ => f 15 = .slice s.ao c.outs.length s.ko
  | 10, f, w => Cl w N 3 1 (ints c.outs) (f 16)
  | 11, f, _ => f 17 = .pointer (some ⟨B, 4, none⟩)
  | 12, f, _ => f 18 = .slice s.ab c.bads.length s.kb
  | 13, f, w => Cl w N 3 1 (ints c.bads) (f 19)
  | 14, f, _ => f 20 = .pointer (some ⟨B, 5, none⟩)
  | 15, f, _ => f 21 = .slice s.ac c.invs.length s.kc
  | 16, f, w => Cl w N 3 1 (ints c.invs) (f 22)
  | 17, f, _ => f 23 = .pointer (some ⟨B, 6, none⟩)
  | 18, f, _ => f 24 = .slice s.aa c.ands.length s.ka
  | 19, f, w => Cl w N 43 3 (tris c.ands) (f 25)
  | 20, f, _ => f 26 = .pointer (some ⟨B, 7, none⟩)
  | 21, f, _ => f 27 = .slice s.an c.names.length s.kn
  | 22, f, w => Cl w N 84 3 (nams c.names) (f 28)
  | 23, f, _ => Bl f
  | 24, f, w => Fr w N (f 3)
  | 25, f, w => Fi w N (f 3) (f 29)
  | _, _, _ => True
def copyM : Nat → List Nat
  | 0 => [6] | 1 => [7] | 2 => [8] | 3 => [9] | 4 => [10] | 5 => [11] | 6 => [12] | 7 => [13] | 8 => [14] | 9 => [15] | 10 => [16] | 11 => [17] | 12 => [18] | 13 => [19] | 14 => [20]
  | 15 => [21] | 16 => [22] | 17 => [23] | 18 => [24] | 19 => [25] | 20 => [26] | 21 => [27] | 22 => [28] | 23 => [29, 7, 10, 13, 16, 19, 22, 25, 28] | 24 => [3] | 25 => [3, 29] | _ => []
theorem copy_stab {B N : Nat} {c : Cir} {s : Places} (j : Nat) {f f' : Nat → Value} {w w' : World} (hb : Below w.heap.size w w') (hf : ∀ t ∈ copyM j, f' t = f t) (h : copyR B N c s j f w) : copyR B N c s j f' w' := by
  unfold copyR at h ⊢
  unfold copyM at hf
  split at h
  all_goals simp only [List.mem_cons, List.not_mem_nil, or_false, forall_eq_or_imp, forall_eq] at hf ⊢
  all_goals first
    | trivial
    | (rw [hf]; exact h)
    | (rw [hf]; exact OwnC.keep h hb)
    | (unfold Bl at h ⊢; obtain ⟨h1, h2, h3, h4, h5, h6, h7, h8, h9⟩ := hf; rw [h1, h2, h3, h4, h5, h6, h7, h8, h9]; exact h)
    | (rw [hf]; obtain ⟨g, z, h1, h2, h3, h4⟩ := h; exact ⟨g, z, h1, h2, (hb.block g (Array.getElem?_eq_some_iff.1 h3).1).trans h3, h4⟩)
    | (rw [hf.1, hf.2]; obtain ⟨g, z, h1, h2, h3, h4⟩ := h; exact ⟨g, z, h1, h2, (hb.block g (Array.getElem?_eq_some_iff.1 h3).1).trans h3, h4⟩)
theorem copy_stab25 {B N : Nat} {c : Cir} {s : Places} (j : Nat) {f : Nat → Value} {w w' : World} {g : Nat} {z z' : Array Value} (hg : w.heap[g]? = some (.cells z 27 (0, 0))) (hg' : w'.heap[g]? = some (.cells z' 27 (0, 0))) (hz : z'.size = 8) (hb : But g w w') (hj : j ≠ 25) (h : copyR B N c s j f w) : copyR B N c s j f w' := by
  unfold copyR at h ⊢
  split at h
  all_goals (try simp only at h ⊢)
  all_goals first
    | trivial
    | exact h
    | exact OwnC.but h hg (by decide) hb
    | exact absurd rfl hj
    | skip
  obtain ⟨g1, z1, h1, h2, h3, h4⟩ := h
  by_cases he : g1 = g
  · subst he
    exact ⟨g1, z', h1, h2, hg', hz⟩
  · exact ⟨g1, z1, h1, h2, (hb.b g1 he).trans h3, h4⟩

def vals (a : Act) : Nat → Value := fun t => a.tmps.getD t undef
def dependsB (o : Oper) (k : Nat) : Bool := o.after.any fun e => Region.binds .any e && decide (e.on = k)
def mentOk (ops : Array Oper) (ment : Nat → List Nat) : Bool := (List.range ops.size).all fun i => (List.range ops.size).all fun j => match ops[i]?, ops[j]? with
  | some oi, some oj => decide (i = j) || (dependsB oj i || (match oi.dst with
    | some t => !(ment j).contains t
    | none => true))
  | _, _ => true
def dstsIn (ops : Array Oper) (n : Nat) : Bool := ops.all fun o => match o.dst with
  | some t => decide (t < n)
  | none => true

theorem wp_region_vals {P : Program} {id : Nat} {ops : Array Oper} {Q : Exit → Act → World → Prop} {a : Act} {w : World} (hm : P.follows .mixedOrders = true) (hu : upward ops = true)
    (ment : Nat → List Nat) (hment : mentOk ops ment = true) (hdst : dstsIn ops a.tmps.size = true) (Ok : World → Prop) (R : Nat → (Nat → Value) → World → Prop) (h0 : Ok w.drew)
    (hout : ∀ j f w, ops.size ≤ j → R j f w)
    (hstab : ∀ j f f' w w', Below w.heap.size w w' → (∀ t ∈ ment j, f' t = f t) → R j f w → R j f' w')
    (hstep : ∀ (i : Nat) (o : Oper) (a' : Act) (w' : World), ops[i]? = some o → Kept ops a a' → Ok w' → (∀ k, dependsB o k = true → R k (vals a') w') →
      ∀ K : Act → World → Prop, (∀ v w'', Below w'.heap.size w' w'' → Ok w'' → (∀ f : Nat → Value, (∀ t, o.dst = some t → f t = v) → (∀ t, o.dst ≠ some t → f t = vals a' t) → R i f w'') → K (a'.put o.dst v) w'') →
        (∀ w'', o.dst = none → Ok w'' → R i (vals a') w'' → (∀ j, j ≠ i → R j (vals a') w' → R j (vals a') w'') → K (a'.put o.dst undef) w'') → o.wp P a' w' K Q)
    (hend : ∀ (a' : Act) (w' : World), Kept ops a a' → Ok w' → (∀ j, j < ops.size → R j (vals a') w') → Q .normal a' w') : (Code.region id ops true).wp P Q a w := by
  refine wp_region_rel hm hu Ok (fun j a w => R j (vals a) w) h0 ?_ hend
  intro i o a' w' ho hk hok hR
  have hi : i < ops.size := (Array.getElem?_eq_some_iff.1 ho).1
  refine hstep i o a' w' ho hk hok (fun k hd => ?_) _ ?_ ?_
  · unfold dependsB at hd
    rw [Array.any_eq_true'] at hd
    obtain ⟨e, he, hb⟩ := hd
    simp only [Bool.and_eq_true, decide_eq_true_eq] at hb
    rw [← hb.2]
    exact hR e he hb.1
  · intro v w'' hb hok' hRi
    have hmem : o ∈ ops := Array.mem_of_getElem? ho
    refine ⟨v, rfl, hok', hRi _ (fun t ht => put_slot v ht ?_) (fun t ht => put_other v ht), fun j hji hno hj => ?_⟩
    · have h1 := Array.all_eq_true_iff_forall_mem.1 hdst o hmem
      rw [ht] at h1
      rw [hk.n]
      simpa using h1
    by_cases hjs : j < ops.size
    · obtain ⟨oj, hoj⟩ : ∃ oj, ops[j]? = some oj := ⟨ops[j], by simp [hjs]⟩
      refine hstab j _ _ _ _ hb (fun t ht => ?_) hj
      have h1 := List.all_eq_true.1 (List.all_eq_true.1 hment i (List.mem_range.2 hi)) j (List.mem_range.2 hjs)
      rw [ho, hoj] at h1
      simp only [Bool.or_eq_true, decide_eq_true_eq] at h1
      unfold vals
      rcases h1 with h1 | h1 | h1
      · exact absurd h1.symm hji
      · exfalso
        unfold dependsB at h1
        rw [Array.any_eq_true'] at h1
        obtain ⟨e, he, hbb⟩ := h1
        simp only [Bool.and_eq_true, decide_eq_true_eq] at hbb
        exact hno oj hoj e he hbb.1 hbb.2
      · cases hd : o.dst with
        | none => rfl
        | some d =>
          rw [hd] at h1
          simp only [Bool.not_eq_true', List.contains_eq_mem, decide_eq_false_iff_not] at h1
          have : (some d : Option Tmp) ≠ some t := fun e => h1 (by injection e with e; rw [e]; exact ht)
          have h2 := put_other (o := o) (a := a') v (t := t) (by rw [hd]; exact this)
          rw [hd] at h2
          exact h2
    · exact hout j _ _ (by omega)
  · intro w'' hd hok' hRi hst
    have e : a'.put o.dst undef = a' := by rw [hd]; rfl
    refine ⟨undef, rfl, hok', ?_, fun j hji _ hj => ?_⟩
    · rw [e]; exact hRi
    · show R j (vals (a'.put o.dst undef)) w''
      rw [e]; exact hst j hji hj
theorem wp_region_valsO {P : Program} {id : Nat} {ops : Array Oper} {Q : Exit → Act → World → Prop} {a : Act} {w : World} (hm : P.follows .mixedOrders = true) (hu : upward ops = true)
    (ment : Nat → List Nat) (hment : mentOk ops ment = true) (hdst : dstsIn ops a.tmps.size = true) (Ok : (Nat → Value) → World → Prop) (R : Nat → (Nat → Value) → World → Prop) (h0 : Ok (vals a) w.drew)
    (hout : ∀ j f w, ops.size ≤ j → R j f w)
    (hstab : ∀ j f f' w w', Below w.heap.size w w' → (∀ t ∈ ment j, f' t = f t) → R j f w → R j f' w')
    (hstep : ∀ (i : Nat) (o : Oper) (a' : Act) (w' : World), ops[i]? = some o → Kept ops a a' → Ok (vals a') w' → (∀ k, dependsB o k = true → R k (vals a') w') →
      ∀ K : Act → World → Prop, (∀ v w'', Below w'.heap.size w' w'' → (∀ f : Nat → Value, (∀ t, o.dst = some t → f t = v) → (∀ t, o.dst ≠ some t → f t = vals a' t) → Ok f w'') → (∀ f : Nat → Value, (∀ t, o.dst = some t → f t = v) → (∀ t, o.dst ≠ some t → f t = vals a' t) → R i f w'') → K (a'.put o.dst v) w'') →
        (∀ w'', o.dst = none → Ok (vals a') w'' → R i (vals a') w'' → (∀ j, j ≠ i → R j (vals a') w' → R j (vals a') w'') → K (a'.put o.dst undef) w'') → o.wp P a' w' K Q)
    (hend : ∀ (a' : Act) (w' : World), Kept ops a a' → Ok (vals a') w' → (∀ j, j < ops.size → R j (vals a') w') → Q .normal a' w') : (Code.region id ops true).wp P Q a w := by
  refine wp_region_relO hm hu (fun a w => Ok (vals a) w) (fun j a w => R j (vals a) w) h0 ?_ hend
  intro i o a' w' ho hk hok hR
  have hi : i < ops.size := (Array.getElem?_eq_some_iff.1 ho).1
  refine hstep i o a' w' ho hk hok (fun k hd => ?_) _ ?_ ?_
  · unfold dependsB at hd
    rw [Array.any_eq_true'] at hd
    obtain ⟨e, he, hb⟩ := hd
    simp only [Bool.and_eq_true, decide_eq_true_eq] at hb
    rw [← hb.2]
    exact hR e he hb.1
  · intro v w'' hb hok' hRi
    have hmem : o ∈ ops := Array.mem_of_getElem? ho
    have hfit : ∀ t, o.dst = some t → t < a'.tmps.size := fun t ht => ?_
    refine ⟨v, rfl, hok' _ (fun t ht => put_slot v ht (hfit t ht)) (fun t ht => put_other v ht), hRi _ (fun t ht => put_slot v ht (hfit t ht)) (fun t ht => put_other v ht), fun j hji hno hj => ?_⟩
    rotate_left
    · have h1 := Array.all_eq_true_iff_forall_mem.1 hdst o hmem
      rw [ht] at h1
      rw [hk.n]
      simpa using h1
    by_cases hjs : j < ops.size
    · obtain ⟨oj, hoj⟩ : ∃ oj, ops[j]? = some oj := ⟨ops[j], by simp [hjs]⟩
      refine hstab j _ _ _ _ hb (fun t ht => ?_) hj
      have h1 := List.all_eq_true.1 (List.all_eq_true.1 hment i (List.mem_range.2 hi)) j (List.mem_range.2 hjs)
      rw [ho, hoj] at h1
      simp only [Bool.or_eq_true, decide_eq_true_eq] at h1
      unfold vals
      rcases h1 with h1 | h1 | h1
      · exact absurd h1.symm hji
      · exfalso
        unfold dependsB at h1
        rw [Array.any_eq_true'] at h1
        obtain ⟨e, he, hbb⟩ := h1
        simp only [Bool.and_eq_true, decide_eq_true_eq] at hbb
        exact hno oj hoj e he hbb.1 hbb.2
      · cases hd : o.dst with
        | none => rfl
        | some d =>
          rw [hd] at h1
          simp only [Bool.not_eq_true', List.contains_eq_mem, decide_eq_false_iff_not] at h1
          have : (some d : Option Tmp) ≠ some t := fun e => h1 (by injection e with e; rw [e]; exact ht)
          have h2 := put_other (o := o) (a := a') v (t := t) (by rw [hd]; exact this)
          rw [hd] at h2
          exact h2
    · exact hout j _ _ (by omega)
  · intro w'' hd hok' hRi hst
    have e : a'.put o.dst undef = a' := by rw [hd]; rfl
    refine ⟨undef, rfl, by rw [e]; exact hok', ?_, fun j hji _ hj => ?_⟩
    · rw [e]; exact hRi
    · show R j (vals (a'.put o.dst undef)) w''
      rw [e]; exact hst j hji hj
end Go.Proofs.Ytbgcoeejmnejdaa.Cpy
namespace Go.Proofs.Ytbgcoeejmnejdaa.Cpy
open Go.ChangeShapes Go.WideShapes Go.ChangeAt Go.RowKit Go.Maps Circ Cw

theorem lit_tm (tm : Array Value) (n : Nat) (h : tm.size = n) : tm = ((List.range n).map fun i => tm.getD i undef).toArray := by
  apply Array.ext
  · simp [h]
  · intro i h1 h2
    simp [h1]
theorem op_index (a : Act) (w : World) (b o n q k : Nat) (t i : Nat) (h : a.tmps.getD t undef = .slice (some ⟨b, o, none⟩) n q) (hi : a.tmps.getD i undef = .int .i64 k) (hk : k < n) (oo : Oper) (ho : oo.op = .indexAddr 25 (.tmp t) (.tmp i)) : (execOp a.eval oo).run Try.prog w = .ok (.value (.pointer (some ⟨b, o + k * 3, none⟩))) w := by
  have h' : a.tmps[t]?.getD undef = .slice (some ⟨b, o, none⟩) n q := by simpa using h
  have h2 : a.tmps[i]?.getD undef = .int .i64 k := by simpa using hi
  unfold execOp
  rw [ho]
  go_simp
theorem op_field45 (a : Act) (w : World) (B o k : Nat) (t : Nat) (hk : k = 0 ∨ k = 2) (h : a.tmps.getD t undef = .pointer (some ⟨B, o, none⟩)) (oo : Oper) (ho : oo.op = .fieldAddr 84 (.tmp t) k) : (execOp a.eval oo).run Try.prog w = .ok (.value (.pointer (some ⟨B, o + k, none⟩))) w := by
  have h' : a.tmps[t]?.getD undef = .pointer (some ⟨B, o, none⟩) := by simpa using h
  unfold execOp
  rw [ho]
  rcases hk with rfl | rfl <;> go_simp
theorem op_move (a : Act) (w : World) (t : Nat) (oo : Oper) (ho : oo.op = .move (.tmp t)) : (execOp a.eval oo).run Try.prog w = .ok (.value (a.tmps.getD t undef)) w := by
  unfold execOp
  rw [ho]
  go_simp
theorem op_put (a : Act) (w : World) (A : Addr) (x : ByteArray) (t u : Nat) (h : a.tmps.getD t undef = .pointer (some A)) (hu : a.tmps.getD u undef = .string x) (hc : w.cell? A = some (.string x)) (hz : w.frozen? A = false) (oo : Oper) (ho : oo.op = .store 9 (.tmp t) (.tmp u)) : (execOp a.eval oo).run Try.prog w = .ok .skip (w.setCell A (.string x)) := by
  have h' : a.tmps[t]?.getD undef = .pointer (some A) := by simpa using h
  have h2 : a.tmps[u]?.getD undef = .string x := by simpa using hu
  unfold execOp
  rw [ho]
  go_simp
theorem set_same (cs : Array Value) (o : Nat) (v : Value) (hc : cs[o]? = some v) : cs.setIfInBounds o v = cs := by
  apply Array.ext
  · simp
  · intro i h1 h2
    rw [Array.getElem?_eq_some_iff] at hc
    obtain ⟨h3, h4⟩ := hc
    rw [Array.getElem_setIfInBounds (by simpa using h1)]
    by_cases h : o = i
    · subst h
      simp [h4]
    · simp [h]
theorem again_block {w : World} {b o : Nat} {v : Value} (hc : w.cell? ⟨b, o, none⟩ = some v) (k : Nat) : (w.setCell ⟨b, o, none⟩ v).heap[k]? = w.heap[k]? := by
  by_cases hk : k = b
  · subst hk
    simp only [World.setCell, Array.getElem?_modify, if_true]
    unfold World.cell? at hc
    simp only at hc
    cases hh : w.heap[k]? with
    | none => rfl
    | some ob =>
      rw [hh] at hc
      cases ob with
      | cells cs t f =>
        have hs := set_same cs o v (by simpa using hc)
        simp [hs]
      | _ => simp at hc
  · exact Below.heap_setCell _ _ _ _ hk
theorem again_below {B : Nat} {W w : World} {b o : Nat} {v : Value} (h : Below B W w) (hc : w.cell? ⟨b, o, none⟩ = some v) : Below B W (w.setCell ⟨b, o, none⟩ v) :=
  ⟨h.os, h.tape, h.output, by simpa [World.setCell] using h.size, fun k hk => (again_block hc k).trans (h.block k hk)⟩
theorem store8 {w : World} {g : Nat} {z : Array Value} {e : TypeId} (hg : w.heap[g]? = some (.cells z e (0, 0))) (hz : z.size = 8) (x0 x1 x2 x3 x4 x5 x6 x7 : Value) :
    ∃ Z1 Z2 Z3 Z4 Z5 Z6 Z7 Z8 : World, ∃ u0 u1 u2 u3 u4 u5 u6 u7 : Value,
      (w.setCell ⟨g, 0, none⟩ x0 = Z1 ∧ w.cell? ⟨g, 0, none⟩ = some u0 ∧ w.frozen? ⟨g, 0, none⟩ = false) ∧ (Z1.setCell ⟨g, 1, none⟩ x1 = Z2 ∧ Z1.cell? ⟨g, 1, none⟩ = some u1 ∧ Z1.frozen? ⟨g, 1, none⟩ = false) ∧
      (Z2.setCell ⟨g, 2, none⟩ x2 = Z3 ∧ Z2.cell? ⟨g, 2, none⟩ = some u2 ∧ Z2.frozen? ⟨g, 2, none⟩ = false) ∧ (Z3.setCell ⟨g, 3, none⟩ x3 = Z4 ∧ Z3.cell? ⟨g, 3, none⟩ = some u3 ∧ Z3.frozen? ⟨g, 3, none⟩ = false) ∧
      (Z4.setCell ⟨g, 4, none⟩ x4 = Z5 ∧ Z4.cell? ⟨g, 4, none⟩ = some u4 ∧ Z4.frozen? ⟨g, 4, none⟩ = false) ∧ (Z5.setCell ⟨g, 5, none⟩ x5 = Z6 ∧ Z5.cell? ⟨g, 5, none⟩ = some u5 ∧ Z5.frozen? ⟨g, 5, none⟩ = false) ∧
      (Z6.setCell ⟨g, 6, none⟩ x6 = Z7 ∧ Z6.cell? ⟨g, 6, none⟩ = some u6 ∧ Z6.frozen? ⟨g, 6, none⟩ = false) ∧ (Z7.setCell ⟨g, 7, none⟩ x7 = Z8 ∧ Z7.cell? ⟨g, 7, none⟩ = some u7 ∧ Z7.frozen? ⟨g, 7, none⟩ = false) ∧
      Z8.heap[g]? = some (.cells #[x0, x1, x2, x3, x4, x5, x6, x7] e (0, 0)) ∧ But g w Z8 := by
  have step : ∀ (w : World) (z : Array Value) (i : Nat) (v : Value), w.heap[g]? = some (.cells z e (0, 0)) → i < z.size → ∃ Z u, (w.setCell ⟨g, i, none⟩ v = Z ∧ w.cell? ⟨g, i, none⟩ = some u ∧ w.frozen? ⟨g, i, none⟩ = false) ∧ Z.heap[g]? = some (.cells (z.setIfInBounds i v) e (0, 0)) ∧ But g w Z := fun w z i v hg hi =>
    ⟨_, z[i], ⟨rfl, by simp [World.cell?, hg, hi], by simp [World.frozen?, hg]⟩, by simp [World.setCell, Array.getElem?_modify, hg], But.set w g i v⟩
  obtain ⟨Z1, u0, r0, g0, b0⟩ := step w z 0 x0 hg (by omega)
  obtain ⟨Z2, u1, r1, g1, b1⟩ := step Z1 _ 1 x1 g0 (by simp; omega)
  obtain ⟨Z3, u2, r2, g2, b2⟩ := step Z2 _ 2 x2 g1 (by simp; omega)
  obtain ⟨Z4, u3, r3, g3, b3⟩ := step Z3 _ 3 x3 g2 (by simp; omega)
  obtain ⟨Z5, u4, r4, g4, b4⟩ := step Z4 _ 4 x4 g3 (by simp; omega)
  obtain ⟨Z6, u5, r5, g5, b5⟩ := step Z5 _ 5 x5 g4 (by simp; omega)
  obtain ⟨Z7, u6, r6, g6, b6⟩ := step Z6 _ 6 x6 g5 (by simp; omega)
  obtain ⟨Z8, u7, r7, g7, b7⟩ := step Z7 _ 7 x7 g6 (by simp; omega)
  rw [set8 z hz] at g7
  exact ⟨Z1, Z2, Z3, Z4, Z5, Z6, Z7, Z8, u0, u1, u2, u3, u4, u5, u6, u7, r0, r1, r2, r3, r4, r5, r6, r7, g7, b0.trans (b1.trans (b2.trans (b3.trans (b4.trans (b5.trans (b6.trans b7))))))⟩
/-- what operation j of a name's region leaves: s0 is its first slot, fo the field -/
def nameR (g b o n q k X s0 fo A : Nat) (x : ByteArray) : Nat → (Nat → Value) → World → Prop
  | 0, f, _ => f (s0 + 0) = .pointer (some ⟨g, 7, none⟩)
  | 1, f, _ => f (s0 + 1) = .slice (some ⟨b, o, none⟩) n q
  | 2, f, _ => f (s0 + 2) = .int .i64 k
  | 3, f, _ => f (s0 + 3) = .pointer (some ⟨X, fo, none⟩)
  | 4, f, _ => f (s0 + 4) = .string x
  | 5, f, _ => f (s0 + 5) = .string x
  | 6, f, _ => f (s0 + 6) = .pointer (some ⟨b, o + k * 3, none⟩)
  | 7, f, _ => f (s0 + 7) = .pointer (some ⟨b, A, none⟩)
  | _, _, _ => True
theorem name_stab (g b o n q k X s0 fo A : Nat) (x : ByteArray) (j : Nat) {f f' : Nat → Value} {w w' : World} (hf : ∀ t ∈ (if j < 8 then [s0 + j] else []), f' t = f t) (h : nameR g b o n q k X s0 fo A x j f w) : nameR g b o n q k X s0 fo A x j f' w' := by
  by_cases hj : j < 8
  · rw [if_pos hj] at hf
    have hf' := hf _ (List.mem_singleton.2 rfl)
    match j, hj with
    | 0, _ => exact hf'.trans h
    | 1, _ => exact hf'.trans h
    | 2, _ => exact hf'.trans h
    | 3, _ => exact hf'.trans h
    | 4, _ => exact hf'.trans h
    | 5, _ => exact hf'.trans h
    | 6, _ => exact hf'.trans h
    | 7, _ => exact hf'.trans h
  · unfold nameR
    split <;> first | trivial | omega
theorem name_world (g b o n q k X s0 fo A : Nat) (x : ByteArray) (j : Nat) {f : Nat → Value} {w w' : World} (h : nameR g b o n q k X s0 fo A x j f w) : nameR g b o n q k X s0 fo A x j f w' := name_stab g b o n q k X s0 fo A x j (fun _ _ => rfl) h
end Go.Proofs.Ytbgcoeejmnejdaa.Cpy
namespace Go.Proofs.Ytbgcoeejmnejdaa.Cw
open Go.ChangeShapes Go.WideShapes Go.ChangeAt Go.RowKit

def upwardG (ops : Array Oper) : Bool := (List.range ops.size).all fun i => match ops[i]? with
  | some o => o.after.all (fun e => !(Region.binds .any e) || decide (e.on < i))
  | none => true
theorem all_listedG {ops : Array Oper} {listed : Array Bool} (hu : upwardG ops = true) (hs : listed.size = ops.size) (hr : Region.ready .any ops listed = []) : ∀ j, j < ops.size → listed[j]? = some true := by
  intro j
  induction j using Nat.strongRecOn with
  | _ j ih =>
    intro hj
    obtain ⟨o, ho⟩ : ∃ o, ops[j]? = some o := ⟨ops[j], by simp [hj]⟩
    cases hl : listed[j]? with
    | none => rw [Array.getElem?_eq_none_iff] at hl; omega
    | some b =>
      cases b with
      | true => rfl
      | false =>
        exfalso
        have : j ∈ Region.ready .any ops listed := by
          unfold Region.ready
          rw [List.mem_filter, List.mem_range]
          refine ⟨hj, ?_⟩
          rw [Array.getD_eq_getD_getElem?, hl, ho]
          simp only [Option.getD_some, Bool.not_false, Option.map_some, Bool.true_and, Array.all_eq_true_iff_forall_mem]
          intro e he
          cases hbd : Region.binds .any e with
          | false => simp
          | true =>
            have h1 := List.all_eq_true.1 hu j (List.mem_range.2 hj)
            rw [ho] at h1
            simp only [Array.all_eq_true_iff_forall_mem, Bool.or_eq_true, Bool.not_eq_true', decide_eq_true_eq] at h1
            have h2 : e.on < j := by
              rcases h1 e he with h3 | h3
              · rw [hbd] at h3; cases h3
              · exact h3
            have h3 := ih e.on h2 (by omega)
            rw [Array.getD_eq_getD_getElem?, h3]
            simp
        rw [hr] at this
        cases this

theorem wp_region_guards {P : Program} {id : Nat} {ops : Array Oper} {Q : Exit → Act → World → Prop} {a : Act} {w : World} (hm : P.follows .mixedOrders = true) (hu : upwardG ops = true)
    (ment : Nat → List Nat) (hment : mentOk ops ment = true) (hdst : dstsIn ops a.tmps.size = true) (Ok : (Nat → Bool) → World → Prop) (R : Nat → (Nat → Value) → World → Prop) (h0 : Ok (fun _ => false) w.drew)
    (hstab : ∀ j f f' w w', Below w.heap.size w w' → (∀ t ∈ ment j, f' t = f t) → R j f w → R j f' w')
    (hskip : ∀ (i : Nat) (o : Oper) (d : Nat → Bool) (a' : Act) (w' : World), ops[i]? = some o → Region.wanted o (yielded ops a'.tmps) = false → Ok d w' → (∀ k, dependsB o k = true → R k (vals a') w') → Ok (fun j => decide (j = i) || d j) w' ∧ ∀ f : Nat → Value, (∀ t, o.dst = some t → f t = undef) → (∀ t, o.dst ≠ some t → f t = vals a' t) → R i f w')
    (hstep : ∀ (i : Nat) (o : Oper) (d : Nat → Bool) (a' : Act) (w' : World), ops[i]? = some o → Region.wanted o (yielded ops a'.tmps) = true → (∀ k, behindB ops ops.size i k = true → d k = false) → (∀ t, untouched ops i t = true → a'.tmps.getD t undef = a.tmps.getD t undef) → a'.defers = a.defers → Ok d w' → (∀ k, dependsB o k = true → R k (vals a') w') →
      ∀ K : Act → World → Prop, (∀ v w'', Below w'.heap.size w' w'' → Ok (fun j => decide (j = i) || d j) w'' → (∀ f : Nat → Value, (∀ t, o.dst = some t → f t = v) → (∀ t, o.dst ≠ some t → f t = vals a' t) → R i f w'') → K (a'.put o.dst v) w'') →
        (∀ v w'', Ok (fun j => decide (j = i) || d j) w'' → (∀ f : Nat → Value, (∀ t, o.dst = some t → f t = v) → (∀ t, o.dst ≠ some t → f t = vals a' t) → R i f w'') → (∀ j f, j ≠ i → (∀ t ∈ ment j, f t = vals a' t) → R j (vals a') w' → R j f w'') → K (a'.put o.dst v) w'') → o.wp P a' w' K Q)
    (hend : ∀ (a' : Act) (w' : World), a'.tmps.size = a.tmps.size → a'.defers = a.defers → (∀ t, (∀ o ∈ ops, o.dst ≠ some t) → a'.tmps.getD t undef = a.tmps.getD t undef) → (∃ d, Ok d w') → (∀ j, j < ops.size → R j (vals a') w') → Q .normal a' w') : (Code.region id ops true).wp P Q a w := by
  refine wp_region_any hm (wpAny_inv (fun listed a' w' => listed.size = ops.size ∧ (a'.tmps.size = a.tmps.size ∧ a'.defers = a.defers) ∧ (∀ t, (∀ (k : Nat) ok, ops[k]? = some ok → ok.dst = some t → listed[k]? ≠ some true) → a'.tmps.getD t undef = a.tmps.getD t undef) ∧ Ok (fun j => listed.getD j false) w' ∧ (∀ j : Nat, listed[j]? = some true → R j (vals a') w') ∧ ∀ (j : Nat) (oj : Oper), ops[j]? = some oj → listed[j]? = some true → ∀ e ∈ oj.after, Region.binds .any e = true → listed[e.on]? = some true) ?_ ?_ _ _ _ _ ?_ (by simp))
  · rintro listed a' w' i ⟨hs, hk, hun, hok, hR, hC⟩ hi
    obtain ⟨hl, hio, hd⟩ := ready_open hi
    have hl' : listed[i]? = some false := by rw [← Array.getElem?_toList]; exact hl
    obtain ⟨o, ho⟩ : ∃ o, ops[i]? = some o := ⟨ops[i], by simp [hio]⟩
    have hmem : o ∈ ops := Array.mem_of_getElem? ho
    have hdep : ∀ e ∈ o.after, Region.binds .any e = true → listed[e.on]? = some true := fun e he hb => by
      have h2 := hd o ho e he hb
      rw [Array.getD_eq_getD_getElem?] at h2
      cases hq : listed[e.on]? with
      | none => rw [hq] at h2; simp at h2
      | some b => rw [hq] at h2; simp at h2; rw [h2]
    have hback : ∀ j, j ≠ i → (listed.setIfInBounds i true)[j]? = some true → listed[j]? = some true := fun j hji hj => by
      rw [Array.getElem?_setIfInBounds, if_neg (Ne.symm hji)] at hj
      exact hj
    have hfwd : ∀ j : Nat, listed[j]? = some true → (listed.setIfInBounds i true)[j]? = some true := fun j hj => by
      have : i ≠ j := by rintro rfl; rw [hl'] at hj; cases hj
      rw [Array.getElem?_setIfInBounds, if_neg this]; exact hj
    have hself : (listed.setIfInBounds i true)[i]? = some true := by
      rw [Array.getElem?_setIfInBounds, if_pos rfl, if_pos (by omega)]
    -- whatever the step does, what follows of it
    have fin : ∀ v w'', Ok (fun j => decide (j = i) || listed.getD j false) w'' → R i (vals (a'.put o.dst v)) w'' → (∀ j, j ≠ i → listed[j]? = some true → R j (vals (a'.put o.dst v)) w'') → (listed.setIfInBounds i true).size = ops.size ∧ ((a'.put o.dst v).tmps.size = a.tmps.size ∧ (a'.put o.dst v).defers = a.defers) ∧ (∀ t, (∀ (k : Nat) ok, ops[k]? = some ok → ok.dst = some t → (listed.setIfInBounds i true)[k]? ≠ some true) → (a'.put o.dst v).tmps.getD t undef = a.tmps.getD t undef) ∧ Ok (fun j => (listed.setIfInBounds i true).getD j false) w'' ∧ (∀ j : Nat, (listed.setIfInBounds i true)[j]? = some true → R j (vals (a'.put o.dst v)) w'') ∧ ∀ (j : Nat) (oj : Oper), ops[j]? = some oj → (listed.setIfInBounds i true)[j]? = some true → ∀ e ∈ oj.after, Region.binds .any e = true → (listed.setIfInBounds i true)[e.on]? = some true := fun v w'' hok' hRi hRj => by
      refine ⟨by simpa using hs, ⟨(put_size o a' v).1.trans hk.1, (put_size o a' v).2.trans hk.2⟩, fun t ht => ?_, ?_, fun j hj => ?_, fun j oj hoj hj e he hb => ?_⟩
      · have hne : o.dst ≠ some t := fun e => ht i o ho e hself
        rw [put_other v hne]
        exact hun t fun k ok hk' hd' hl2 => ht k ok hk' hd' (hfwd k hl2)
      · have e : (fun j => (listed.setIfInBounds i true).getD j false) = fun j => decide (j = i) || listed.getD j false := by
          funext j
          rw [Array.getD_eq_getD_getElem?, Array.getD_eq_getD_getElem?, Array.getElem?_setIfInBounds]
          by_cases hji : i = j
          · subst hji
            rw [if_pos rfl, if_pos (by omega)]
            simp
          · rw [if_neg hji]
            have : decide (j = i) = false := by simpa using Ne.symm hji
            rw [this]; rfl
        rw [e]; exact hok'
      · by_cases hji : j = i
        · subst hji; exact hRi
        · exact hRj j hji (hback j hji hj)
      · by_cases hji : j = i
        · subst hji
          rw [ho] at hoj
          obtain rfl := Option.some.inj hoj
          exact hfwd _ (hdep e he hb)
        · exact hfwd _ (hC j oj hoj (hback j hji hj) e he hb)
    have hslot : ∀ v t, o.dst = some t → vals (a'.put o.dst v) t = v := fun v t ht => by
      refine put_slot v ht ?_
      have h1 := Array.all_eq_true_iff_forall_mem.1 hdst o hmem
      rw [ht] at h1
      rw [hk.1]
      simpa using h1
    have hment2 : ∀ v j, j ≠ i → listed[j]? = some true → ∀ t ∈ ment j, vals (a'.put o.dst v) t = vals a' t := fun v j hji hlj t ht => by
      have hjs : j < ops.size := by
        have := (Array.getElem?_eq_some_iff.1 hlj).1
        omega
      obtain ⟨oj, hoj⟩ : ∃ oj, ops[j]? = some oj := ⟨ops[j], by simp [hjs]⟩
      have h1 := List.all_eq_true.1 (List.all_eq_true.1 hment i (List.mem_range.2 hio)) j (List.mem_range.2 hjs)
      rw [ho, hoj] at h1
      simp only [Bool.or_eq_true, decide_eq_true_eq] at h1
      rcases h1 with h1 | h1 | h1
      · exact absurd h1.symm hji
      · exfalso
        unfold dependsB at h1
        rw [Array.any_eq_true'] at h1
        obtain ⟨e, he, hbb⟩ := h1
        simp only [Bool.and_eq_true, decide_eq_true_eq] at hbb
        have := hC j oj hoj hlj e he hbb.1
        rw [hbb.2, hl'] at this
        cases this
      · cases hd2 : o.dst with
        | none => rfl
        | some d =>
          rw [hd2] at h1
          simp only [Bool.not_eq_true', List.contains_eq_mem, decide_eq_false_iff_not] at h1
          have hne : o.dst ≠ some t := fun e => h1 (by rw [hd2] at e; injection e with e; rw [e]; exact ht)
          have h2 := put_other (a := a') v hne
          rw [hd2] at h2
          exact h2
    have hdeps : ∀ k, dependsB o k = true → R k (vals a') w' := fun k hdk => by
      unfold dependsB at hdk
      rw [Array.any_eq_true'] at hdk
      obtain ⟨e, he, hb⟩ := hdk
      simp only [Bool.and_eq_true, decide_eq_true_eq] at hb
      rw [← hb.2]
      exact hR e.on (hdep e he hb.1)
    unfold wpOp
    rw [ho]
    cases hw : Region.wanted o (yielded ops a'.tmps) with
    | false =>
      simp only [hw, Bool.false_eq_true, if_false]
      obtain ⟨hok', hRi⟩ := hskip i o (fun j => listed.getD j false) a' w' ho hw hok hdeps
      exact fin undef w' hok' (hRi _ (hslot undef) (fun t ht => put_other undef ht)) (fun j hji hlj => hstab j _ _ _ _ (Below.refl _ _) (hment2 undef j hji hlj) (hR j hlj))
    | true =>
    simp only [hw, if_true]
    refine .inl (hstep i o (fun j => listed.getD j false) a' w' ho hw (fun k hbk => ?_) (fun t ht => hun t fun k ok hk' hd' hl2 => ?_) hk.2 hok hdeps _ ?_ ?_)
    · rw [Array.getD_eq_getD_getElem?]
      cases hq : listed[k]? with
      | none => rfl
      | some b =>
        cases b with
        | false => rfl
        | true =>
          have := behind_listed hC _ i k hbk hq
          rw [hl'] at this; cases this
    · have h1 := List.all_eq_true.1 ht k (List.mem_range.2 (Array.getElem?_eq_some_iff.1 hk').1)
      rw [hk'] at h1
      simp only [hd', decide_true, Bool.not_true, Bool.false_or] at h1
      have := behind_listed hC _ i k h1 hl2
      rw [hl'] at this; cases this
    · intro v w'' hb hok' hRi
      exact fin v w'' hok' (hRi _ (hslot v) (fun t ht => put_other v ht)) (fun j hji hlj => hstab j _ _ _ _ hb (hment2 v j hji hlj) (hR j hlj))
    · intro v w'' hok' hRi hst
      exact fin v w'' hok' (hRi _ (hslot v) (fun t ht => put_other v ht)) (fun j hji hlj => hst j _ hji (hment2 v j hji hlj) (hR j hlj))
  · rintro listed a' w' ⟨hs, hk, hun, hok, hR, -⟩ hr
    exact hend a' w' hk.1 hk.2 (fun t ht => hun t fun k ok hk' hd' _ => ht ok (Array.mem_of_getElem? hk') hd') ⟨_, hok⟩ fun j hj => hR j (all_listedG hu hs hr j hj)
  · refine ⟨by simp, ⟨rfl, rfl⟩, fun _ _ => rfl, ?_, fun j hj => ?_, fun j oj _ hj => ?_⟩
    · have e : (fun j => (Array.replicate ops.size false).getD j false) = fun _ => false := by
        funext j
        rw [Array.getD_eq_getD_getElem?, Array.getElem?_replicate]
        split <;> rfl
      rw [e]; exact h0
    · simp [Array.getElem?_replicate] at hj
    · simp [Array.getElem?_replicate] at hj
theorem wanted_of {o : Oper} {ops : Array Oper} {tmps : Array Value} {j t : Nat} {want b : Bool} (hg : o.guard = some (j, want)) (hd : (ops[j]?).bind (·.dst) = some t) (h : tmps.getD t undef = .bool b) : Region.wanted o (yielded ops tmps) = (b == want) := by
  unfold Region.wanted yielded
  rw [hg]
  simp only [hd, Option.bind_some]
  have h2 : tmps[t]? = some (.bool b) := by
    rw [Array.getD_eq_getD_getElem?] at h
    cases hq : tmps[t]? with
    | none => rw [hq] at h; cases h
    | some v => rw [hq] at h; rw [← h]; rfl
  rw [h2]
  cases b <;> cases want <;> rfl
end Go.Proofs.Ytbgcoeejmnejdaa.Cw
namespace Go.Proofs.Ytbgcoeejmnejdaa.Cla
open Go.ChangeShapes Go.WideShapes Go.ChangeAt Go.RowKit Go.Maps Circ Cw

/-- a list of numbers in memory below block B -/
structure ILies (w : World) (B : Nat) (A : Option Addr) (l : List Int) : Prop where
  row : LRow w B 1 A (ints l)
  fits : ∀ x ∈ l, I64 x
  len : l.length ≤ 9223372036854775807
section
variable {w w' : World} {B B' : Nat} {A : Option Addr} {l : List Int}
theorem ILies.below (h : ILies w B A l) (hb : Below B w w') : ILies w' B A l := ⟨h.row.below hb, h.fits, h.len⟩
theorem ILies.more (h : ILies w B A l) (hB : B ≤ B') : ILies w B' A l := ⟨h.row.more hB, h.fits, h.len⟩
theorem ILies.nil (w : World) (B : Nat) (A : Option Addr) : ILies w B A [] := ⟨.inl rfl, fun x hx => (List.not_mem_nil hx).elim, by decide⟩
end
/-- the greater of two numbers, as Go's builtin tells -/
theorem max2 {w : World} (ts : Array TypeId) (t : TypeId) (x y : Int) :
    (Builtin.max_ ts t #[.int .i64 x, .int .i64 y]).run Try.prog w = .ok (.int .i64 (if x < y then y else x)) w := by
  simp [Builtin.max_, Builtin.max2]
theorem neg_is {x : Int} (h : I64 x) : wrap64 (-x) = negW x := by
  unfold I64 at h
  unfold negW wrap64
  split <;> omega
theorem abs_is {x : Int} (_h : I64 x) : (if x < negW x then negW x else x) = absW x := by
  unfold absW
  split <;> split <;> omega
theorem abs_fits {x : Int} (h : I64 x) : I64 (absW x) := by
  unfold I64 at *
  unfold absW negW
  split <;> split <;> omega
set_option maxRecDepth 100000 in
theorem abs_any (x : Int) (w : World) (hx : I64 x) :
    Calls Try.prog 122 #[.int .i64 x] w fun e w' => e = .returned (.int .i64 (absW x)) ∧ w = w' := by
  have hm : ∀ (ts : Array TypeId) (t : TypeId) (W : World), (Builtin.max_ ts t #[.int .i64 x, .int .i64 (wrap64 (-x))]).run Try.prog W = .ok (.int .i64 (absW x)) W := fun ts t W => by
    rw [max2, neg_is hx, abs_is hx]
  clear hx
  generalize absW x = y at *
  go_enter Try.func122, Try.ntmps122
  go_wp2
  go_ret
  exact ⟨rfl, rfl⟩
set_option maxHeartbeats 16000000 in
set_option maxRecDepth 100000 in
theorem is_any (m : ByteArray) (x : Int) (w : World) (hm : m.size ≤ 9223372036854775807) (hx : I64 x) :
    Calls Try.prog 84 #[.string m, .int .i64 x] w fun e w' => e = .returned (.bool (isM m x)) ∧ w = w' := by
  have AB := Lib.hid (fun w => abs_any x w hx)
  have hf := abs_fits hx
  unfold isM
  by_cases h1 : 1 ≤ absW x
  · by_cases h2 : absW x ≤ (m.size : Int)
    · obtain ⟨k, hk⟩ : ∃ k : Nat, absW x = (k : Int) + 1 := ⟨(absW x - 1).toNat, by omega⟩
      have hkm : k < m.size := by omega
      have e1 : m.data.toList.getD (absW x - 1).toNat 0 = m[k]'hkm := by
        have hl : k < m.data.toList.length := by simpa using hkm
        rw [hk, show ((k : Int) + 1 - 1).toNat = k from by omega, List.getD_eq_getElem?_getD, List.getElem?_eq_getElem hl, Option.getD_some, Array.getElem_toList]; rfl
      rw [decide_eq_true h1, decide_eq_true h2, e1, Bool.true_and, Bool.true_and]
      have hd1 : decide (1 ≤ (k : Int) + 1) = true := decide_eq_true (by omega)
      have hd2 : decide ((k : Int) + 1 ≤ (m.size : Int)) = true := decide_eq_true (by omega)
      have hk0 : (0 : Int) ≤ (k : Int) := by omega
      have hkz : (k : Int) < (m.size : Int) := by omega
      have hk1 : (1 : Int) ≤ (k : Int) + 1 := by omega
      have hk2 : (k : Int) + 1 ≤ (m.size : Int) := by omega
      rw [hk] at AB
      have hsub : (k : Int) + 1 - 1 = (k : Int) := by omega
      have HE : Hid (decide ((m[k]'hkm).toNat = 49) = (((m[k]'hkm).toNat : Int) == 49)) := by
        unfold Hid
        rw [Bool.eq_iff_iff, decide_eq_true_eq, beq_iff_eq]; omega
      rw [HE.out]
      clear hx hf h1 h2 hk e1 HE
      go_enter Try.func84, Try.ntmps84
      go_wp2_with fail
      refine (AB.out w).mono ?_
      rintro e w' ⟨rfl, rfl⟩
      go_wp2_with fail
      refine (AB.out w).mono ?_
      rintro e w' ⟨rfl, rfl⟩
      go_wp2_with fail
      refine (AB.out w).mono ?_
      rintro e w' ⟨rfl, rfl⟩
      go_wp2
      go_ret
      exact ⟨rfl, rfl⟩
    · have hd2 : decide (absW x ≤ (m.size : Int)) = false := decide_eq_false h2
      have hd1 : decide (1 ≤ absW x) = true := decide_eq_true h1
      rw [hd1, hd2]
      generalize absW x = y at *
      clear hx hf
      go_enter Try.func84, Try.ntmps84
      go_wp2_with fail
      refine (AB.out w).mono ?_
      rintro e w' ⟨rfl, rfl⟩
      go_wp2_with fail
      refine (AB.out w).mono ?_
      rintro e w' ⟨rfl, rfl⟩
      go_wp2
      go_ret
      exact ⟨rfl, rfl⟩
  · have hd1 : decide (1 ≤ absW x) = false := decide_eq_false h1
    rw [hd1]
    generalize absW x = y at *
    clear hx hf
    go_enter Try.func84, Try.ntmps84
    go_wp2_with fail
    refine (AB.out w).mono ?_
    rintro e w' ⟨rfl, rfl⟩
    go_wp2
    go_ret
    exact ⟨rfl, rfl⟩
set_option maxHeartbeats 16000000 in
set_option maxRecDepth 100000 in
theorem one_any (m : ByteArray) (l : List Int) (A : Option Addr) (q : Nat) (w : World) (hm : m.size ≤ 9223372036854775807) (hl : ILies w w.heap.size A l) :
    Calls Try.prog 38 #[.string m, .slice A l.length q] w fun e w' => e = .returned (.bool (oneM m l)) ∧ w = w' := by
  have HL := Lib.hid hl
  have hll := hl.len
  clear hl
  go_enter Try.func38, Try.ntmps38
  go_wp2
  go_loop [5] (fun i => ∃ k : Nat, k ≤ l.length ∧ i = .int .i64 k ∧ (l.take k).any (isM m) = false) (fun i => l.length - (intOf i).toNat)
  case atStart => exact ⟨0, Nat.zero_le _, rfl, rfl⟩
  case round =>
    obtain ⟨k, hk, rfl, ha⟩ := hrel
    have HA := Lib.hid ha
    clear ha
    by_cases hlt : k < l.length
    · obtain ⟨b, o, hA, -, hc⟩ := LRow.int HL.out.row hlt
      have IS := Lib.hid (is_any m l[k] w hm (HL.out.fits _ (List.getElem_mem hlt)))
      have HT : Hid ((l.take (k + 1)).any (isM m) = isM m l[k]) := by
        unfold Hid
        rw [List.take_succ_eq_append_getElem hlt, List.any_append, HA.out]; simp
      have HM := Lib.hid (List.getElem_mem hlt)
      have hkz : (k : Int) < (l.length : Int) := by omega
      subst hA
      generalize l[k] = x at *
      cases hq : isM m x with
      | false =>
        rw [hq] at IS HT
        clear hq
        go_wp2_with fail
        refine IS.out.mono ?_
        rintro e w' ⟨rfl, rfl⟩
        go_wp2
        go_round
        case rel => exact ⟨k + 1, by omega, by go_num, HT.out⟩
        case measure => simp [intOf]; omega
      | true =>
        rw [hq] at IS
        have HX : Hid (oneM m l = true) := (one_iff m l).2 ⟨x, HM.out, hq⟩
        clear hq HT
        go_wp2_with fail
        refine IS.out.mono ?_
        rintro e w' ⟨rfl, rfl⟩
        go_wp2
        go_ret
        exact ⟨by rw [HX.out]; rfl, rfl⟩
    · obtain rfl : k = l.length := by omega
      have HX : Hid (oneM m l = false) := by have h := HA.out; rw [List.take_length] at h; exact h
      go_wp2
      go_ret
      exact ⟨by rw [HX.out]; rfl, rfl⟩
end Go.Proofs.Ytbgcoeejmnejdaa.Cla
