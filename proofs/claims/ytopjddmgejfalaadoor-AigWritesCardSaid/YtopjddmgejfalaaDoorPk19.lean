/- The walk of aig's Order; no condition but that what is asked of it fits. -/
import Derived.Test.YtopjddmgejfalaaDoorPk18
import Derived.Test.YtopjddmgejfalaaDoorPk11
namespace Go.Proofs.YtopjddmgejfalaaDoor.Aig
open Go.ChangeShapes Go.WideShapes Go.ChangeAt Go.RowKit Dig Circ Cw Aag
open Cpy (copy_any Apart)

/-- the renumbering's closure -/
def cloV (gn : Nat) : Value := .func (.func 48) #[] #[.pointer (some ⟨gn, 0, none⟩)]
theorem op_callv (a : Act) (w : World) (f t s T : Nat) (cap : Array Value) (h : a.tmps.getD t undef = .func (.func f) #[] cap) (hf : ∀ args w, (callFunc f args).run Tryd.prog w = .ok (.enter f args) w) (oo : Oper) (ho : oo.op = .call { callee := .value (.tmp t), args := #[.tmp s], argTypes := #[T] }) : (execOp a.eval oo).run Tryd.prog w = .ok (.enter f (#[a.tmps.getD s undef] ++ cap)) w := by
  have h' : a.tmps[t]?.getD undef = .func (.func f) #[] cap := by simpa using h
  unfold execOp
  rw [ho]
  go_simp
theorem op_max (a : Act) (w : World) (x y : Int) (t s : Nat) (h1 : a.tmps.getD t undef = .int .i64 x) (h2 : a.tmps.getD s undef = .int .i64 y) (oo : Oper) (ho : oo.op = .call { callee := .builtin .max, args := #[.tmp t, .tmp s], argTypes := #[3, 3] }) : (execOp a.eval oo).run Tryd.prog w = .ok (.value (.int .i64 (max x y))) w := by
  have h1' : a.tmps[t]?.getD undef = .int .i64 x := by simpa using h1
  have h2' : a.tmps[s]?.getD undef = .int .i64 y := by simpa using h2
  unfold execOp
  rw [ho]
  go_simp
theorem op_min (a : Act) (w : World) (x y : Int) (t s : Nat) (h1 : a.tmps.getD t undef = .int .i64 x) (h2 : a.tmps.getD s undef = .int .i64 y) (oo : Oper) (ho : oo.op = .call { callee := .builtin .min, args := #[.tmp t, .tmp s], argTypes := #[3, 3] }) : (execOp a.eval oo).run Tryd.prog w = .ok (.value (.int .i64 (min x y))) w := by
  have h1' : a.tmps[t]?.getD undef = .int .i64 x := by simpa using h1
  have h2' : a.tmps[s]?.getD undef = .int .i64 y := by simpa using h2
  unfold execOp
  rw [ho]
  go_simp
theorem op_build_lat3 (a : Act) (w : World) (x y z : Int) (i j k : Nat) (h1 : a.tmps.getD i undef = .int .i64 x) (h2 : a.tmps.getD j undef = .int .i64 y) (h3 : a.tmps.getD k undef = .int .i64 z) (oo : Oper) (ho : oo.op = .build 41 #[(0, .tmp i), (1, .tmp j), (2, .tmp k)]) : (execOp a.eval oo).run Tryd.prog w = .ok (.value (.agg #[.int .i64 x, .int .i64 y, .int .i64 z])) w := by
  have h1' : a.tmps[i]?.getD undef = .int .i64 x := by simpa using h1
  have h2' : a.tmps[j]?.getD undef = .int .i64 y := by simpa using h2
  have h3' : a.tmps[k]?.getD undef = .int .i64 z := by simpa using h3
  unfold execOp
  rw [ho]
  go_simp
theorem op_index_lat_at (a : Act) (w : World) (b o n q k : Nat) (t s : Nat) (h : a.tmps.getD t undef = .slice (some ⟨b, o, none⟩) n q) (h2 : a.tmps.getD s undef = .int .i64 (k : Int)) (hk : k < n) (oo : Oper) (ho : oo.op = .indexAddr 23 (.tmp t) (.tmp s)) : (execOp a.eval oo).run Tryd.prog w = .ok (.value (.pointer (some ⟨b, o + k * 3, none⟩))) w := by
  have h' : a.tmps[t]?.getD undef = .slice (some ⟨b, o, none⟩) n q := by simpa using h
  have h2' : a.tmps[s]?.getD undef = .int .i64 (k : Int) := by simpa using h2
  unfold execOp
  rw [ho]
  have h0 : (0 : Int) ≤ k := by omega
  have h1 : (k : Int) < n := by omega
  go_simp
theorem op_store_lat_at (a : Act) (w : World) (g k : Nat) (z : Array Value) (E : TypeId) (hg : w.heap[g]? = some (.cells z E (0, 0))) (hz : k + 2 < z.size) (x y c : Int) (p s : Nat) (hp : a.tmps.getD p undef = .pointer (some ⟨g, k, none⟩)) (hs : a.tmps.getD s undef = .agg #[.int .i64 x, .int .i64 y, .int .i64 c]) (o : Oper) (ho : o.op = .store 41 (.tmp p) (.tmp s)) :
    ∃ w', (execOp a.eval o).run Tryd.prog w = .ok .skip w' ∧ w'.heap[g]? = some (.cells (((z.setIfInBounds k (.int .i64 x)).setIfInBounds (k + 1) (.int .i64 y)).setIfInBounds (k + 2) (.int .i64 c)) E (0, 0)) ∧ Cw.But g w w' := by
  obtain ⟨Z1, u0, ⟨hS1, p0, t0⟩, E1, F1⟩ := step_set w z k (.int .i64 x) hg (by omega)
  obtain ⟨Z2, u1, ⟨hS2, p1, t1⟩, E2, F2⟩ := step_set Z1 _ (k + 1) (.int .i64 y) E1 (by simp; omega)
  obtain ⟨Z3, u2, ⟨hS3, p2, t2⟩, E3, F3⟩ := step_set Z2 _ (k + 2) (.int .i64 c) E2 (by simp; omega)
  refine ⟨Z3, ?_, E3, (F1.trans F2).trans F3⟩
  unfold execOp
  rw [ho]
  have hp' : a.tmps[p]?.getD undef = .pointer (some ⟨g, k, none⟩) := by simpa using hp
  have hs' : a.tmps[s]?.getD undef = .agg #[.int .i64 x, .int .i64 y, .int .i64 c] := by simpa using hs
  clear hp hs hg hz E1 E2 E3 F1 F2 F3
  go_simp
theorem op_build_and3 (a : Act) (w : World) (x y z : Int) (i j k : Nat) (h1 : a.tmps.getD i undef = .int .i64 x) (h2 : a.tmps.getD j undef = .int .i64 y) (h3 : a.tmps.getD k undef = .int .i64 z) (oo : Oper) (ho : oo.op = .build 43 #[(0, .tmp i), (1, .tmp j), (2, .tmp k)]) : (execOp a.eval oo).run Tryd.prog w = .ok (.value (.agg #[.int .i64 x, .int .i64 y, .int .i64 z])) w := by
  have h1' : a.tmps[i]?.getD undef = .int .i64 x := by simpa using h1
  have h2' : a.tmps[j]?.getD undef = .int .i64 y := by simpa using h2
  have h3' : a.tmps[k]?.getD undef = .int .i64 z := by simpa using h3
  unfold execOp
  rw [ho]
  go_simp
theorem op_index_and_at (a : Act) (w : World) (b o n q k : Nat) (t s : Nat) (h : a.tmps.getD t undef = .slice (some ⟨b, o, none⟩) n q) (h2 : a.tmps.getD s undef = .int .i64 (k : Int)) (hk : k < n) (oo : Oper) (ho : oo.op = .indexAddr 24 (.tmp t) (.tmp s)) : (execOp a.eval oo).run Tryd.prog w = .ok (.value (.pointer (some ⟨b, o + k * 3, none⟩))) w := by
  have h' : a.tmps[t]?.getD undef = .slice (some ⟨b, o, none⟩) n q := by simpa using h
  have h2' : a.tmps[s]?.getD undef = .int .i64 (k : Int) := by simpa using h2
  unfold execOp
  rw [ho]
  have h0 : (0 : Int) ≤ k := by omega
  have h1 : (k : Int) < n := by omega
  go_simp
theorem op_store_and_at (a : Act) (w : World) (g k : Nat) (z : Array Value) (E : TypeId) (hg : w.heap[g]? = some (.cells z E (0, 0))) (hz : k + 2 < z.size) (x y c : Int) (p s : Nat) (hp : a.tmps.getD p undef = .pointer (some ⟨g, k, none⟩)) (hs : a.tmps.getD s undef = .agg #[.int .i64 x, .int .i64 y, .int .i64 c]) (o : Oper) (ho : o.op = .store 43 (.tmp p) (.tmp s)) :
    ∃ w', (execOp a.eval o).run Tryd.prog w = .ok .skip w' ∧ w'.heap[g]? = some (.cells (((z.setIfInBounds k (.int .i64 x)).setIfInBounds (k + 1) (.int .i64 y)).setIfInBounds (k + 2) (.int .i64 c)) E (0, 0)) ∧ Cw.But g w w' := by
  obtain ⟨Z1, u0, ⟨hS1, p0, t0⟩, E1, F1⟩ := step_set w z k (.int .i64 x) hg (by omega)
  obtain ⟨Z2, u1, ⟨hS2, p1, t1⟩, E2, F2⟩ := step_set Z1 _ (k + 1) (.int .i64 y) E1 (by simp; omega)
  obtain ⟨Z3, u2, ⟨hS3, p2, t2⟩, E3, F3⟩ := step_set Z2 _ (k + 2) (.int .i64 c) E2 (by simp; omega)
  refine ⟨Z3, ?_, E3, (F1.trans F2).trans F3⟩
  unfold execOp
  rw [ho]
  have hp' : a.tmps[p]?.getD undef = .pointer (some ⟨g, k, none⟩) := by simpa using hp
  have hs' : a.tmps[s]?.getD undef = .agg #[.int .i64 x, .int .i64 y, .int .i64 c] := by simpa using hs
  clear hp hs hg hz E1 E2 E3 F1 F2 F3
  go_simp
theorem op_field_api_Circuit_2 (a : Act) (w : World) (b : Nat) (t : Nat) (h : a.tmps.getD t undef = .pointer (some ⟨b, 0, none⟩)) (oo : Oper) (ho : oo.op = .fieldAddr 27 (.tmp t) 2) : (execOp a.eval oo).run Tryd.prog w = .ok (.value (.pointer (some ⟨b, 2, none⟩))) w := by
  have h' : a.tmps[t]?.getD undef = .pointer (some ⟨b, 0, none⟩) := by simpa using h
  unfold execOp
  rw [ho]
  go_simp
theorem op_load_Lapi_Latch (a : Act) (w : World) (A : Addr) (t : Nat) (v : Value) (h : a.tmps.getD t undef = .pointer (some A)) (hc : w.cell? A = some v) (oo : Oper) (ho : oo.op = .load 23 (.tmp t)) : (execOp a.eval oo).run Tryd.prog w = .ok (.value v) w := by
  have h' : a.tmps[t]?.getD undef = .pointer (some A) := by simpa using h
  unfold execOp
  rw [ho]
  go_simp
theorem op_field_api_Latch_0 (a : Act) (w : World) (b : Nat) (t : Nat) (h : a.tmps.getD t undef = .pointer (some ⟨b, 0, none⟩)) (oo : Oper) (ho : oo.op = .fieldAddr 41 (.tmp t) 0) : (execOp a.eval oo).run Tryd.prog w = .ok (.value (.pointer (some ⟨b, 0, none⟩))) w := by
  have h' : a.tmps[t]?.getD undef = .pointer (some ⟨b, 0, none⟩) := by simpa using h
  unfold execOp
  rw [ho]
  go_simp
theorem op_field_api_Latch_1 (a : Act) (w : World) (b : Nat) (t : Nat) (h : a.tmps.getD t undef = .pointer (some ⟨b, 0, none⟩)) (oo : Oper) (ho : oo.op = .fieldAddr 41 (.tmp t) 1) : (execOp a.eval oo).run Tryd.prog w = .ok (.value (.pointer (some ⟨b, 1, none⟩))) w := by
  have h' : a.tmps[t]?.getD undef = .pointer (some ⟨b, 0, none⟩) := by simpa using h
  unfold execOp
  rw [ho]
  go_simp
theorem op_field_api_Latch_2 (a : Act) (w : World) (b : Nat) (t : Nat) (h : a.tmps.getD t undef = .pointer (some ⟨b, 0, none⟩)) (oo : Oper) (ho : oo.op = .fieldAddr 41 (.tmp t) 2) : (execOp a.eval oo).run Tryd.prog w = .ok (.value (.pointer (some ⟨b, 2, none⟩))) w := by
  have h' : a.tmps[t]?.getD undef = .pointer (some ⟨b, 0, none⟩) := by simpa using h
  unfold execOp
  rw [ho]
  go_simp
/-- what operation j of the region leaves -/
def olatR (gd gl gt gn n q j : Nat) (x y z : Int) (c : Cir) (cur : Array Value) : Nat → (Nat → Value) → World → Prop
  | 0, f, _ => f 76 = .pointer (some ⟨gd, 2, none⟩)
  | 1, f, _ => f 77 = .slice (some ⟨gl, 0, none⟩) n q
  | 2, f, _ => f 78 = .int .i64 (j : Int)
  | 3, f, _ => f 79 = cloV gn
  | 4, f, _ => f 80 = .pointer (some ⟨gt, 0, none⟩)
  | 5, f, _ => f 81 = .int .i64 x
  | 6, f, _ => f 82 = .int .i64 (ren c x)
  | 7, f, _ => f 83 = cloV gn
  | 8, f, _ => f 84 = .pointer (some ⟨gt, 1, none⟩)
  | 9, f, _ => f 85 = .int .i64 y
  | 10, f, _ => f 86 = .int .i64 (ren c y)
  | 11, f, _ => f 87 = cloV gn
  | 12, f, _ => f 88 = .pointer (some ⟨gt, 2, none⟩)
  | 13, f, _ => f 89 = .int .i64 z
  | 14, f, _ => f 90 = .int .i64 (ren c z)
  | 15, f, _ => f 91 = .agg #[.int .i64 (ren c x), .int .i64 (ren c y), .int .i64 (ren c z)]
  | 16, f, _ => f 92 = .pointer (some ⟨gl, j * 3, none⟩)
  | 17, _, w => w.heap[gl]? = some (.cells (((cur.setIfInBounds (j * 3) (.int .i64 (ren c x))).setIfInBounds (j * 3 + 1) (.int .i64 (ren c y))).setIfInBounds (j * 3 + 2) (.int .i64 (ren c z))) 41 (0, 0))
  | _, _, _ => True
def olatM : Nat → List Nat
  | 0 => [76]
  | 1 => [77]
  | 2 => [78]
  | 3 => [79]
  | 4 => [80]
  | 5 => [81]
  | 6 => [82]
  | 7 => [83]
  | 8 => [84]
  | 9 => [85]
  | 10 => [86]
  | 11 => [87]
  | 12 => [88]
  | 13 => [89]
  | 14 => [90]
  | 15 => [91]
  | 16 => [92]
  | 17 => []
  | _ => []
theorem olat_stab {gd gl gt gn n q j : Nat} {x y z : Int} {c : Cir} {cur : Array Value} (jj : Nat) {f f' : Nat → Value} {w w' : World} (h17 : jj = 17 → Below w.heap.size w w') (hf : ∀ t ∈ olatM jj, f' t = f t) (h : olatR gd gl gt gn n q j x y z c cur jj f w) : olatR gd gl gt gn n q j x y z c cur jj f' w' := by
  match jj, hf, h, h17 with
  | 0, hf, h, _ => exact (hf 76 (by decide)).trans h
  | 1, hf, h, _ => exact (hf 77 (by decide)).trans h
  | 2, hf, h, _ => exact (hf 78 (by decide)).trans h
  | 3, hf, h, _ => exact (hf 79 (by decide)).trans h
  | 4, hf, h, _ => exact (hf 80 (by decide)).trans h
  | 5, hf, h, _ => exact (hf 81 (by decide)).trans h
  | 6, hf, h, _ => exact (hf 82 (by decide)).trans h
  | 7, hf, h, _ => exact (hf 83 (by decide)).trans h
  | 8, hf, h, _ => exact (hf 84 (by decide)).trans h
  | 9, hf, h, _ => exact (hf 85 (by decide)).trans h
  | 10, hf, h, _ => exact (hf 86 (by decide)).trans h
  | 11, hf, h, _ => exact (hf 87 (by decide)).trans h
  | 12, hf, h, _ => exact (hf 88 (by decide)).trans h
  | 13, hf, h, _ => exact (hf 89 (by decide)).trans h
  | 14, hf, h, _ => exact (hf 90 (by decide)).trans h
  | 15, hf, h, _ => exact (hf 91 (by decide)).trans h
  | 16, hf, h, _ => exact (hf 92 (by decide)).trans h
  | 17, hf, h, h17 =>
    exact ((h17 rfl).block gl (lt_of_block h)).trans h
  | _ + 18, _, _, _ => trivial
theorem op_field_api_And_1 (a : Act) (w : World) (b : Nat) (t : Nat) (h : a.tmps.getD t undef = .pointer (some ⟨b, 0, none⟩)) (oo : Oper) (ho : oo.op = .fieldAddr 43 (.tmp t) 1) : (execOp a.eval oo).run Tryd.prog w = .ok (.value (.pointer (some ⟨b, 1, none⟩))) w := by
  have h' : a.tmps[t]?.getD undef = .pointer (some ⟨b, 0, none⟩) := by simpa using h
  unfold execOp
  rw [ho]
  go_simp
theorem op_field_api_And_2 (a : Act) (w : World) (b : Nat) (t : Nat) (h : a.tmps.getD t undef = .pointer (some ⟨b, 0, none⟩)) (oo : Oper) (ho : oo.op = .fieldAddr 43 (.tmp t) 2) : (execOp a.eval oo).run Tryd.prog w = .ok (.value (.pointer (some ⟨b, 2, none⟩))) w := by
  have h' : a.tmps[t]?.getD undef = .pointer (some ⟨b, 0, none⟩) := by simpa using h
  unfold execOp
  rw [ho]
  go_simp
/-- what operation j of the region leaves -/
def oandR (gt gn : Nat) (y z : Int) (c : Cir) : Nat → (Nat → Value) → World → Prop
  | 0, f, _ => f 102 = cloV gn
  | 1, f, _ => f 103 = .pointer (some ⟨gt, 1, none⟩)
  | 2, f, _ => f 104 = .int .i64 y
  | 3, f, _ => f 105 = .int .i64 (ren c y)
  | 4, f, _ => f 106 = cloV gn
  | 5, f, _ => f 107 = .pointer (some ⟨gt, 2, none⟩)
  | 6, f, _ => f 108 = .int .i64 z
  | 7, f, _ => f 109 = .int .i64 (ren c z)
  | 8, f, _ => f 15 = .int .i64 (ren c y)
  | 9, f, _ => f 16 = .int .i64 (ren c z)
  | _, _, _ => True
def oandM : Nat → List Nat
  | 0 => [102]
  | 1 => [103]
  | 2 => [104]
  | 3 => [105]
  | 4 => [106]
  | 5 => [107]
  | 6 => [108]
  | 7 => [109]
  | 8 => [15]
  | 9 => [16]
  | _ => []
theorem oand_stab {gt gn : Nat} {y z : Int} {c : Cir} (jj : Nat) {f f' : Nat → Value} {w w' : World}  (hf : ∀ t ∈ oandM jj, f' t = f t) (h : oandR gt gn y z c jj f w) : oandR gt gn y z c jj f' w' := by
  match jj, hf, h with
  | 0, hf, h => exact (hf 102 (by decide)).trans h
  | 1, hf, h => exact (hf 103 (by decide)).trans h
  | 2, hf, h => exact (hf 104 (by decide)).trans h
  | 3, hf, h => exact (hf 105 (by decide)).trans h
  | 4, hf, h => exact (hf 106 (by decide)).trans h
  | 5, hf, h => exact (hf 107 (by decide)).trans h
  | 6, hf, h => exact (hf 108 (by decide)).trans h
  | 7, hf, h => exact (hf 109 (by decide)).trans h
  | 8, hf, h => exact (hf 15 (by decide)).trans h
  | 9, hf, h => exact (hf 16 (by decide)).trans h
  | _ + 10, _, _ => trivial
theorem op_field_api_Circuit_6 (a : Act) (w : World) (b : Nat) (t : Nat) (h : a.tmps.getD t undef = .pointer (some ⟨b, 0, none⟩)) (oo : Oper) (ho : oo.op = .fieldAddr 27 (.tmp t) 6) : (execOp a.eval oo).run Tryd.prog w = .ok (.value (.pointer (some ⟨b, 6, none⟩))) w := by
  have h' : a.tmps[t]?.getD undef = .pointer (some ⟨b, 0, none⟩) := by simpa using h
  unfold execOp
  rw [ho]
  go_simp
theorem op_load_Lapi_And (a : Act) (w : World) (A : Addr) (t : Nat) (v : Value) (h : a.tmps.getD t undef = .pointer (some A)) (hc : w.cell? A = some v) (oo : Oper) (ho : oo.op = .load 24 (.tmp t)) : (execOp a.eval oo).run Tryd.prog w = .ok (.value v) w := by
  have h' : a.tmps[t]?.getD undef = .pointer (some A) := by simpa using h
  unfold execOp
  rw [ho]
  go_simp
theorem op_field_api_And_0 (a : Act) (w : World) (b : Nat) (t : Nat) (h : a.tmps.getD t undef = .pointer (some ⟨b, 0, none⟩)) (oo : Oper) (ho : oo.op = .fieldAddr 43 (.tmp t) 0) : (execOp a.eval oo).run Tryd.prog w = .ok (.value (.pointer (some ⟨b, 0, none⟩))) w := by
  have h' : a.tmps[t]?.getD undef = .pointer (some ⟨b, 0, none⟩) := by simpa using h
  unfold execOp
  rw [ho]
  go_simp
/-- what operation j of the region leaves -/
def oputR (gd gl gt gn n q j : Nat) (x y z : Int) (c : Cir) (cur : Array Value) : Nat → (Nat → Value) → World → Prop
  | 0, f, _ => f 110 = .pointer (some ⟨gd, 6, none⟩)
  | 1, f, _ => f 111 = .slice (some ⟨gl, 0, none⟩) n q
  | 2, f, _ => f 112 = .int .i64 (j : Int)
  | 3, f, _ => f 113 = cloV gn
  | 4, f, _ => f 114 = .pointer (some ⟨gt, 0, none⟩)
  | 5, f, _ => f 115 = .int .i64 x
  | 6, f, _ => f 116 = .int .i64 (ren c x)
  | 7, f, _ => f 117 = .int .i64 y
  | 8, f, _ => f 118 = .int .i64 z
  | 9, f, _ => f 119 = .int .i64 (max y z)
  | 10, f, _ => f 120 = .int .i64 y
  | 11, f, _ => f 121 = .int .i64 z
  | 12, f, _ => f 122 = .int .i64 (min y z)
  | 13, f, _ => f 123 = .agg #[.int .i64 (ren c x), .int .i64 (max y z), .int .i64 (min y z)]
  | 14, f, _ => f 124 = .pointer (some ⟨gl, j * 3, none⟩)
  | 15, _, w => w.heap[gl]? = some (.cells (((cur.setIfInBounds (j * 3) (.int .i64 (ren c x))).setIfInBounds (j * 3 + 1) (.int .i64 (max y z))).setIfInBounds (j * 3 + 2) (.int .i64 (min y z))) 43 (0, 0))
  | _, _, _ => True
def oputM : Nat → List Nat
  | 0 => [110]
  | 1 => [111]
  | 2 => [112]
  | 3 => [113]
  | 4 => [114]
  | 5 => [115]
  | 6 => [116]
  | 7 => [117]
  | 8 => [118]
  | 9 => [119]
  | 10 => [120]
  | 11 => [121]
  | 12 => [122]
  | 13 => [123]
  | 14 => [124]
  | 15 => []
  | _ => []
theorem oput_stab {gd gl gt gn n q j : Nat} {x y z : Int} {c : Cir} {cur : Array Value} (jj : Nat) {f f' : Nat → Value} {w w' : World} (h15 : jj = 15 → Below w.heap.size w w') (hf : ∀ t ∈ oputM jj, f' t = f t) (h : oputR gd gl gt gn n q j x y z c cur jj f w) : oputR gd gl gt gn n q j x y z c cur jj f' w' := by
  match jj, hf, h, h15 with
  | 0, hf, h, _ => exact (hf 110 (by decide)).trans h
  | 1, hf, h, _ => exact (hf 111 (by decide)).trans h
  | 2, hf, h, _ => exact (hf 112 (by decide)).trans h
  | 3, hf, h, _ => exact (hf 113 (by decide)).trans h
  | 4, hf, h, _ => exact (hf 114 (by decide)).trans h
  | 5, hf, h, _ => exact (hf 115 (by decide)).trans h
  | 6, hf, h, _ => exact (hf 116 (by decide)).trans h
  | 7, hf, h, _ => exact (hf 117 (by decide)).trans h
  | 8, hf, h, _ => exact (hf 118 (by decide)).trans h
  | 9, hf, h, _ => exact (hf 119 (by decide)).trans h
  | 10, hf, h, _ => exact (hf 120 (by decide)).trans h
  | 11, hf, h, _ => exact (hf 121 (by decide)).trans h
  | 12, hf, h, _ => exact (hf 122 (by decide)).trans h
  | 13, hf, h, _ => exact (hf 123 (by decide)).trans h
  | 14, hf, h, _ => exact (hf 124 (by decide)).trans h
  | 15, hf, h, h15 =>
    exact ((h15 rfl).block gl (lt_of_block h)).trans h
  | _ + 16, _, _, _ => trivial

/-- the circuit of nothing -/
def cirZ : Cir := ⟨0, [], [], [], [], [], [], []⟩
def plZ : Places := ⟨none, none, none, none, none, none, none, 0, 0, 0, 0, 0, 0, 0⟩
set_option maxHeartbeats 4000000 in
set_option maxRecDepth 100000 in
theorem order_no (c : Cir) (s : Places) (w : World) (h : CLies w w.heap.size c s) (hf : CFits c s) (hc : chk c = false) :
    Calls Tryd.prog 8 #[cirV c s] w fun e w' => e = .returned (.tuple #[cirV cirZ plZ, .int .i64 9]) ∧ Below w.heap.size w w' := by
  obtain ⟨WA, hWA⟩ : ∃ x, w.alloc (.cells #[.int .i64 c.max, .slice s.ai c.ins.length s.ki, .slice s.al c.lats.length s.kl, .slice s.ao c.outs.length s.ko, .slice s.ab c.bads.length s.kb, .slice s.ac c.invs.length s.kc, .slice s.aa c.ands.length s.ka, .slice s.an c.names.length s.kn] 27) = x := ⟨_, rfl⟩
  have sA : WA.heap.size = w.heap.size + 1 := by rw [← hWA]; simp
  have bA : Below w.heap.size w WA := by rw [← hWA]; exact (Below.refl _ _).alloc (Nat.le_refl _) _
  have hA : WA.heap[w.heap.size]? = some (.cells (cirC c s) 27 (0, 0)) := by rw [← hWA]; exact Array.getElem?_push_size
  obtain ⟨WB, hWB⟩ : ∃ x, WA.alloc (.cells #[.int .i64 0, .slice none 0 0, .slice none 0 0, .slice none 0 0, .slice none 0 0, .slice none 0 0, .slice none 0 0, .slice none 0 0] 27) = x := ⟨_, rfl⟩
  have bB : Below (w.heap.size + 1) WA WB := by rw [← hWB]; exact (Below.refl _ _).alloc (by omega) _
  have hB : WB.heap[w.heap.size + 1]? = some (.cells #[.int .i64 0, .slice none 0 0, .slice none 0 0, .slice none 0 0, .slice none 0 0, .slice none 0 0, .slice none 0 0, .slice none 0 0] 27 (0, 0)) := by rw [← hWB, ← sA]; exact Array.getElem?_push_size
  have sB : WB.heap.size = w.heap.size + 2 := by rw [← hWB]; simp [sA]
  obtain ⟨e0, e1, e2, e3, e4, e5, e6, e7⟩ := cells8 ((bB.block _ (by omega)).trans hA)
  have BB : Hid (Below w.heap.size w WB) := bA.trans (bB.mono (by omega))
  have CK := Lib.hid (check_any c s WB ((h.below BB.out).more (by omega)) hf)
  rw [chkV_no c hc] at CK
  have HB := Lib.hid hB
  have SB := Lib.hid sB
  clear h hf hc hA hB bA bB
  unfold cirV at CK ⊢
  rw [show cirC c s = #[.int .i64 c.max, .slice s.ai c.ins.length s.ki, .slice s.al c.lats.length s.kl, .slice s.ao c.outs.length s.ko, .slice s.ab c.bads.length s.kb, .slice s.ac c.invs.length s.kc, .slice s.aa c.ands.length s.ka, .slice s.an c.names.length s.kn] from rfl] at CK ⊢
  go_enter Tryd.func8, Tryd.ntmps8
  go_wp2_with fail
  refine CK.out.mono ?_
  rintro e w1 ⟨rfl, hb⟩
  clear e0 e1 e2 e3 e4 e5 e6 e7 hWA hWB sA sB CK
  have h1 : w1.heap[w.heap.size + 1]? = some (.cells #[.int .i64 0, .slice none 0 0, .slice none 0 0, .slice none 0 0, .slice none 0 0, .slice none 0 0, .slice none 0 0, .slice none 0 0] 27 (0, 0)) := (hb.block _ (by rw [SB.out]; omega)).trans HB.out
  have B1 : Hid (Below w.heap.size w w1) := BB.out.trans (hb.mono (by rw [SB.out]; omega))
  obtain ⟨X1, X2, X3, X4, X5, X6, X7, X8, v0, v1, v2, v3, v4, v5, v6, v7, ⟨hX1, a0, b0⟩, ⟨hX2, a1, b1⟩, ⟨hX3, a2, b2⟩, ⟨hX4, a3, b3⟩, ⟨hX5, a4, b4⟩, ⟨hX6, a5, b5⟩, ⟨hX7, a6, b6⟩, ⟨hX8, a7, b7⟩, E8, FC⟩ := Cw.store8 h1 rfl (.int .i64 0) (.slice none 0 0) (.slice none 0 0) (.slice none 0 0) (.slice none 0 0) (.slice none 0 0) (.slice none 0 0) (.slice none 0 0)
  have B2 : Hid (Below w.heap.size w X8) := FC.below B1.out (by omega)
  have hz : (cirC cirZ plZ) = #[.int .i64 0, .slice none 0 0, .slice none 0 0, .slice none 0 0, .slice none 0 0, .slice none 0 0, .slice none 0 0, .slice none 0 0] := rfl
  obtain ⟨r0, r1, r2, r3, r4, r5, r6, r7⟩ := cells8 (c := cirZ) (s := plZ) (w := X8) (g := w.heap.size + 1) (by rw [hz]; exact E8)
  simp only [cirZ, plZ, List.length_nil] at r0 r1 r2 r3 r4 r5 r6 r7
  clear h1 hb E8 FC hz
  go_wp2
  (try simp only [Exit.inBlock, Exit.then])
  have hres : ∀ tmps : Array Value, tmps.getD 2 undef = .pointer (some ⟨w.heap.size + 1, 0, none⟩) → tmps.getD 3 undef = .int .i64 9 → (results Tryd.f8 tmps).run Tryd.prog X8 = .ok (.tuple #[.agg #[.int .i64 0, .slice none 0 0, .slice none 0 0, .slice none 0 0, .slice none 0 0, .slice none 0 0, .slice none 0 0, .slice none 0 0], .int .i64 9]) X8 := fun tmps ht ht3 => by
    simp only [results, show Tryd.f8.results = #[ResultVar.cell 2 27, ResultVar.slot 3] from rfl]
    have ht' : tmps[2]?.getD undef = .pointer (some ⟨w.heap.size + 1, 0, none⟩) := by simpa using ht
    have ht3' : tmps[3]?.getD undef = .int .i64 9 := by simpa using ht3
    go_simp
  refine bodyPost_ret (hres _ rfl rfl) rfl ?_
  exact ⟨rfl, B2.out⟩

set_option maxHeartbeats 16000000 in
set_option maxRecDepth 100000 in
theorem order_yes (c : Cir) (s : Places) (w : World) (h : CLies w w.heap.size c s) (hf : CFits c s) (hc : chk c = true) :
    Calls Tryd.prog 8 #[cirV c s] w fun e w' => (∃ s', e = .returned (.tuple #[cirV (orderM c) s', .int .i64 0]) ∧ Owned w' w.heap.size (orderM c) s') ∧ Below w.heap.size w w' := by
  have hr : refOk c = true := by rw [← chk_same]; exact hc
  have AL := Lib.hid (all_lits hr)
  have RK := Lib.hid hr
  have hz : c.ins.length ≤ 64 ∧ c.outs.length ≤ 64 ∧ c.bads.length ≤ 64 ∧ c.invs.length ≤ 64 ∧ c.lats.length ≤ 64 ∧ c.ands.length ≤ 4097 ∧ c.names.length ≤ 320 := by
    obtain ⟨_, z1, z2, z3, z4, z5, z6, z7, _⟩ := chk_fine c hc
    exact ⟨z1, z3, z4, z5, z2, z6, z7⟩
  have HZ := Lib.hid hz
  have hnm : ∀ x ∈ c.names, x.kind.size ≤ 281474976710656 ∧ x.text.size ≤ 281474976710656 := fun x hx => by
    obtain ⟨hfi, _, _, _, _, _, _, _, z8⟩ := chk_fine c hc
    have h1 := z8 x hx
    obtain ⟨⟨k, _, hk⟩, _⟩ := hfi.names x hx
    have h2 : x.kind.data.toList.length = 1 := by rw [hk]; rfl
    have h3 : x.kind.size = x.kind.data.toList.length := by simp
    have h4 : x.text.size = x.text.data.toList.length := by simp
    omega
  obtain ⟨WA, hWA⟩ : ∃ x, w.alloc (.cells #[.int .i64 c.max, .slice s.ai c.ins.length s.ki, .slice s.al c.lats.length s.kl, .slice s.ao c.outs.length s.ko, .slice s.ab c.bads.length s.kb, .slice s.ac c.invs.length s.kc, .slice s.aa c.ands.length s.ka, .slice s.an c.names.length s.kn] 27) = x := ⟨_, rfl⟩
  have sA : WA.heap.size = w.heap.size + 1 := by rw [← hWA]; simp
  have bA : Below w.heap.size w WA := by rw [← hWA]; exact (Below.refl _ _).alloc (Nat.le_refl _) _
  have hA : WA.heap[w.heap.size]? = some (.cells (cirC c s) 27 (0, 0)) := by rw [← hWA]; exact Array.getElem?_push_size
  obtain ⟨WB, hWB⟩ : ∃ x, WA.alloc (.cells #[.int .i64 0, .slice none 0 0, .slice none 0 0, .slice none 0 0, .slice none 0 0, .slice none 0 0, .slice none 0 0, .slice none 0 0] 27) = x := ⟨_, rfl⟩
  have bB : Below (w.heap.size + 1) WA WB := by rw [← hWB]; exact (Below.refl _ _).alloc (by omega) _
  have hB : WB.heap[w.heap.size + 1]? = some (.cells #[.int .i64 0, .slice none 0 0, .slice none 0 0, .slice none 0 0, .slice none 0 0, .slice none 0 0, .slice none 0 0, .slice none 0 0] 27 (0, 0)) := by rw [← hWB, ← sA]; exact Array.getElem?_push_size
  have sB : WB.heap.size = w.heap.size + 2 := by rw [← hWB]; simp [sA]
  have BB : Hid (Below w.heap.size w WB) := bA.trans (bB.mono (by omega))
  have GB : Hid (WB.heap[w.heap.size]? = some (.cells (cirC c s) 27 (0, 0))) := (bB.block _ (by omega)).trans hA
  obtain ⟨e0, e1, e2, e3, e4, e5, e6, e7⟩ := cells8 GB.out
  have CK := Lib.hid (check_any c s WB ((h.below BB.out).more (by omega)) hf)
  rw [chkV_yes c hc] at CK
  have HB := Lib.hid hB
  have SB := Lib.hid sB
  have H := Lib.hid h
  have HF := Lib.hid hf
  have HNM := Lib.hid hnm
  clear h hf hc hA hB bA bB hr hz hnm
  unfold cirV at CK ⊢
  rw [show cirC c s = #[.int .i64 c.max, .slice s.ai c.ins.length s.ki, .slice s.al c.lats.length s.kl, .slice s.ao c.outs.length s.ko, .slice s.ab c.bads.length s.kb, .slice s.ac c.invs.length s.kc, .slice s.aa c.ands.length s.ka, .slice s.an c.names.length s.kn] from rfl] at CK ⊢
  go_enter Tryd.func8, Tryd.ntmps8
  go_wp2_with fail
  refine CK.out.mono ?_
  rintro e w1 ⟨rfl, hb⟩
  clear e0 e1 e2 e3 e4 e5 e6 e7 hWA hWB sA sB CK
  have G1 : Hid (w1.heap[w.heap.size]? = some (.cells (cirC c s) 27 (0, 0))) := (hb.block _ (by rw [SB.out]; omega)).trans GB.out
  have R1 : Hid (w1.heap[w.heap.size + 1]? = some (.cells #[.int .i64 0, .slice none 0 0, .slice none 0 0, .slice none 0 0, .slice none 0 0, .slice none 0 0, .slice none 0 0, .slice none 0 0] 27 (0, 0))) := (hb.block _ (by rw [SB.out]; omega)).trans HB.out
  have B1 : Hid (Below w.heap.size w w1) := BB.out.trans (hb.mono (by rw [SB.out]; omega))
  have S1 : Hid (w.heap.size + 2 ≤ w1.heap.size) := by have := hb.size; rw [SB.out] at this; exact this
  clear hb BB GB HB SB
  -- the numbering
  obtain ⟨e0, e1, e2, e3, e4, e5, e6, e7⟩ := cells8 G1.out
  have RN := Lib.hid (renumbering_any c s w1 ((H.out.below B1.out).more (by have := S1.out; omega)) HF.out RK.out)
  unfold cirV cirC at RN
  go_wp2_with fail
  refine RN.out.mono ?_
  rintro e w2 ⟨gl, gn, nb, rfl, hnum, hb⟩
  clear e0 e1 e2 e3 e4 e5 e6 e7 RN
  have G2 : Hid (w2.heap[w.heap.size]? = some (.cells (cirC c s) 27 (0, 0))) := (hb.block _ (by have := S1.out; omega)).trans G1.out
  have R2 : Hid (w2.heap[w.heap.size + 1]? = some (.cells #[.int .i64 0, .slice none 0 0, .slice none 0 0, .slice none 0 0, .slice none 0 0, .slice none 0 0, .slice none 0 0, .slice none 0 0] 27 (0, 0))) := (hb.block _ (by have := S1.out; omega)).trans R1.out
  have B2 : Hid (Below w.heap.size w w2) := B1.out.trans (hb.mono (by have := S1.out; omega))
  have S2 : Hid (w.heap.size + 2 ≤ w2.heap.size) := Nat.le_trans S1.out hb.size
  have NU : Hid (∀ x, Below w2.heap.size w2 x → Num w1.heap.size gl gn nb c.max.toNat (own c).reverse x) := fun x hx => hnum.below hx
  clear hb hnum G1 R1 B1 S1
  -- the copy
  obtain ⟨e0, e1, e2, e3, e4, e5, e6, e7⟩ := cells8 G2.out
  have CP := Lib.hid (copy_any c s w2 ((H.out.below B2.out).more (by have := S2.out; omega)) HF.out HNM.out)
  unfold cirV cirC at CP
  go_wp2_with fail
  refine CP.out.mono ?_
  rintro e w3 ⟨⟨s', rfl, hown, hap⟩, hb⟩
  clear e0 e1 e2 e3 e4 e5 e6 e7 CP
  have AP := Lib.hid hap
  have S3 : Hid (w2.heap.size ≤ w3.heap.size) := hb.size
  obtain ⟨W4, hW4⟩ : ∃ x, w3.alloc (.cells #[.int .i64 c.max, .slice s'.ai c.ins.length s'.ki, .slice s'.al c.lats.length s'.kl, .slice s'.ao c.outs.length s'.ko, .slice s'.ab c.bads.length s'.kb, .slice s'.ac c.invs.length s'.kc, .slice s'.aa c.ands.length s'.ka, .slice s'.an c.names.length s'.kn] 27) = x := ⟨_, rfl⟩
  have s4 : W4.heap.size = w3.heap.size + 1 := by rw [← hW4]; simp
  have b4 : Below w3.heap.size w3 W4 := by rw [← hW4]; exact (Below.refl _ _).alloc (Nat.le_refl _) _
  have h4 : W4.heap[w3.heap.size]? = some (.cells #[.int .i64 c.max, .slice s'.ai c.ins.length s'.ki, .slice s'.al c.lats.length s'.kl, .slice s'.ao c.outs.length s'.ko, .slice s'.ab c.bads.length s'.kb, .slice s'.ac c.invs.length s'.kc, .slice s'.aa c.ands.length s'.ka, .slice s'.an c.names.length s'.kn] 27 (0, 0)) := by rw [← hW4]; exact Array.getElem?_push_size
  obtain ⟨W5, u5, ⟨hS5, p5, t5⟩, E5, F5⟩ := step_set W4 _ 0 (.int .i64 ((c.ins.length : Int) + c.lats.length + c.ands.length)) h4 (by simp)
  have X5 : W5.heap[w3.heap.size]? = some (.cells (boxC c s') 27 (0, 0)) := by rw [E5]; rfl
  obtain ⟨W6, hW6⟩ : ∃ x, W5.alloc (.cells #[.slice s'.ai c.ins.length s'.ki, .slice s'.ao c.outs.length s'.ko, .slice s'.ab c.bads.length s'.kb, .slice s'.ac c.invs.length s'.kc] 22) = x := ⟨_, rfl⟩
  have s5 : W5.heap.size = w3.heap.size + 1 := by rw [F5.z, s4]
  have s6 : W6.heap.size = w3.heap.size + 2 := by rw [← hW6]; simp [s5]
  have b6 : Below (w3.heap.size + 1) W5 W6 := by rw [← hW6]; exact (Below.refl _ _).alloc (by omega) _
  have b56 : Below w3.heap.size w3 W5 := F5.below b4 (Nat.le_refl _)
  have BN : Below w2.heap.size w2 W6 := hb.trans ((b56.trans (b6.mono (by omega))).mono S3.out)
  have O0 : Hid (OrL w2.heap.size w3.heap.size (w3.heap.size + 1) w2 c s' 0 W6) := by
    have kp : ∀ {e m v xs}, OwnC w3 w2.heap.size e m v xs → OwnC W6 w2.heap.size e m v xs := fun h => h.keep (b56.trans (b6.mono (by omega)))
    refine ⟨⟨kp hown.ins, kp hown.outs, kp hown.bads, kp hown.invs, kp hown.lats, kp hown.ands, kp hown.names, ?_, BN, by have := S3.out; omega, S3.out⟩, ?_⟩
    · rw [b6.block _ (by omega)]; exact X5
    · rw [← hW6, ← s5]; exact Array.getElem?_push_size
  obtain ⟨e0, e1, e2, e3, e4, e5, e6, e7⟩ := cells8 (c := c) (s := s) (g := w.heap.size) (w := W4) (by rw [b4.block _ (by have := S2.out; have := S3.out; omega), hb.block _ (by have := S2.out; omega)]; exact G2.out)
  have f1 : W5.cell? ⟨w3.heap.size, 1, none⟩ = some (.slice s'.ai c.ins.length s'.ki) := by rw [Lib.cell_of_heap X5]; rfl
  have f3 : W5.cell? ⟨w3.heap.size, 3, none⟩ = some (.slice s'.ao c.outs.length s'.ko) := by rw [Lib.cell_of_heap X5]; rfl
  have f4 : W5.cell? ⟨w3.heap.size, 4, none⟩ = some (.slice s'.ab c.bads.length s'.kb) := by rw [Lib.cell_of_heap X5]; rfl
  have f5 : W5.cell? ⟨w3.heap.size, 5, none⟩ = some (.slice s'.ac c.invs.length s'.kc) := by rw [Lib.cell_of_heap X5]; rfl
  have RR : Hid (∀ x, Below w2.heap.size w2 x → x.heap[w.heap.size + 1]? = some (.cells #[.int .i64 0, .slice none 0 0, .slice none 0 0, .slice none 0 0, .slice none 0 0, .slice none 0 0, .slice none 0 0, .slice none 0 0] 27 (0, 0))) := fun x hx => (hx.block _ (by have := S2.out; omega)).trans R2.out
  have hl1 : (c.ins.length : Int) + c.lats.length + c.ands.length ≤ 4225 := by have := HZ.out; omega
  have hl0 : 0 ≤ (c.ins.length : Int) + c.lats.length + c.ands.length := by omega
  have zi := HZ.out
  clear hown hap hb h4 E5 F5 X5 b4 b6 b56 BN R2 s4 H HF HNM
  go_wp2
  clear hS5 p5 t5 hW4 hW6 s5 s6 e0 e1 e2 e3 e4 e5 e6 e7 f1 f3 f4 f5 hl1 hl0 zi
  go_loopw [49] (fun i wr => ∃ j : Nat, j ≤ 4 ∧ i = .int .i64 j ∧ OrL w2.heap.size w3.heap.size (w3.heap.size + 1) w2 c s' j wr) (fun i _ => 4 - (intOf i).toNat)
  case atStart => exact ⟨0, by omega, rfl, O0.out⟩
  case round =>
    obtain ⟨j, hj, rfl, hol⟩ := hrel
    obtain ⟨wo, rfl⟩ : ∃ x, x = wr := ⟨_, rfl⟩
    have OJ := Lib.hid hol
    clear hol
    by_cases hlt : j < 4
    · obtain ⟨A, q, xs, hcell, hown, hlit, hlen, hnext⟩ := pick w2.heap.size w3.heap.size (w3.heap.size + 1) w2 c s' j wo hlt OJ.out AL.out ⟨HZ.out.1, HZ.out.2.1, HZ.out.2.2.1, HZ.out.2.2.2.1⟩ AP.out
      have hcl : wo.cell? ⟨w3.heap.size + 1, j, none⟩ = some (.slice A xs.length q) := by rw [Lib.cell_of_heap OJ.out.2]; exact hcell
      have OW0 := Lib.hid hown
      have LI := Lib.hid hlit
      have NX := Lib.hid hnext
      clear hcell hown hlit hnext
      have hb4 : decide ((j : Int) < 4) = true := decide_eq_true (by omega)
      go_wp2
      clear hcl
      go_loopw [55] (fun i wr => ∃ k : Nat, k ≤ xs.length ∧ i = .int .i64 k ∧ OwnC wr w2.heap.size 3 1 (.slice A xs.length q) (ints (upto (ren c) xs k)) ∧ Save (A.map Addr.block) wo wr) (fun i _ => xs.length - (intOf i).toNat)
      case atStart => exact ⟨0, Nat.zero_le _, rfl, by rw [upto_zero]; exact OW0.out, Save.of (Below.refl _ _)⟩
      case round =>
        obtain ⟨k, hk, rfl, how, hsv⟩ := hrel
        have SV := Lib.hid hsv
        have OW := Lib.hid how
        clear hsv how
        by_cases hlt2 : k < xs.length
        · obtain ⟨g, cur, hA, -, hNg, hg, hsz⟩ := own_block OW.out (by rw [ints_length, upto_len]; omega)
          rw [ints_length, upto_len, Nat.mul_one] at hsz
          obtain ⟨b, o, hA2, -, hc⟩ := LRow.int (own_lrow OW.out (by decide) (ints_len _)).1 (k := k) (by rw [upto_len]; exact hlt2)
          rw [hA] at hA2
          simp only [Option.some.injEq, Addr.mk.injEq, and_true] at hA2
          obtain ⟨rfl, rfl⟩ := hA2
          rw [upto_at (ren c) xs k hlt2, Nat.zero_add] at hc
          have HU := Lib.hid (upto_set (ren c) xs k hlt2)
          have hbw : Below w2.heap.size w2 wr := SV.out.below OJ.out.1.b OJ.out.1.z (own_ge OW0.out)
          have RC := Lib.hid (ren_call c RK.out w1.heap.size gl gn nb xs[k] wr (NU.out wr hbw) (LI.out _ (List.getElem_mem _)))
          have HG := Lib.hid hg
          have HL : Hid (k < (upto (ren c) xs k).length) := by unfold Hid; rw [upto_len]; exact hlt2
          have HKC : Hid (k < cur.size) := by unfold Hid; omega
          have HUL : Hid ((upto (ren c) xs k).length = xs.length) := upto_len _ _ _
          clear hNg hg hsz hbw
          subst hA
          generalize xs[k] = x at *
          go_wp2_with fail
          refine RC.out.mono ?_
          rintro e wm ⟨rfl, hbm⟩
          obtain ⟨Z, u, ⟨hS, p, t⟩, EZ, FZ⟩ := step_set wm cur k (.int .i64 (ren c x)) ((hbm.block g (lt_of_block HG.out)).trans HG.out) HKC.out
          have OZ : Hid (OwnC Z w2.heap.size 3 1 (.slice (some ⟨g, 0, none⟩) xs.length q) (ints (upto (ren c) xs (k + 1)))) := by
            have h1 := OW.out.keep hbm
            rw [← HUL.out] at h1
            have h2 := put_int h1 k HL.out (ren c x) ((hbm.block g (lt_of_block HG.out)).trans HG.out) EZ
            rw [HUL.out, HU.out] at h2
            exact h2
          have SZ : Hid (Save (some g) wo Z) := SV.out.trans ((Save.of hbm).trans (save_but FZ))
          clear hbm EZ FZ RC HG HKC HU HL
          go_wp2
          go_roundw
          case rel => exact ⟨k + 1, by omega, by go_num, OZ.out, SZ.out⟩
          case measure => simp [intOf]; omega
        · obtain rfl : k = xs.length := by omega
          have ON : Hid (OrL w2.heap.size w3.heap.size (w3.heap.size + 1) w2 c s' (j + 1) wr) := NX.out wr (by rw [← upto_all]; exact OW.out) SV.out
          clear NX OW SV OW0 LI
          go_wp2
          go_roundw
          case rel => exact ⟨j + 1, by omega, by go_num, ON.out⟩
          case measure => simp [intOf]; omega
    · obtain rfl : j = 4 := by omega
      rw [show (((4 : Nat) : Int)) = (4 : Int) from rfl]
      have OR0 : Hid (Or w2.heap.size w3.heap.size w2 c s' (one (0 < 4) c c.ins) (one (1 < 4) c c.outs) (one (2 < 4) c c.bads) (one (3 < 4) c c.invs) (upto (renLat c) c.lats 0) c.ands wo) := by
        unfold Hid; rw [upto_zero]; exact OJ.out.1
      clear OJ
      have d2 : wo.cell? ⟨w3.heap.size, 2, none⟩ = some (.slice s'.al c.lats.length s'.kl) := by rw [Lib.cell_of_heap OR0.out.x]; rfl
      go_wp2
      clear d2
      go_loopw [71] (fun i wr => ∃ j : Nat, j ≤ c.lats.length ∧ i = .int .i64 j ∧ Or w2.heap.size w3.heap.size w2 c s' (one (0 < 4) c c.ins) (one (1 < 4) c c.outs) (one (2 < 4) c c.bads) (one (3 < 4) c c.invs) (upto (renLat c) c.lats j) c.ands wr) (fun i _ => c.lats.length - (intOf i).toNat)
      case atStart => exact ⟨0, Nat.zero_le _, rfl, OR0.out⟩
      case round =>
        clear OR0
        obtain ⟨j, hj, rfl, hor⟩ := hrel
        have OR := Lib.hid hor
        clear hor
        by_cases hlt : j < c.lats.length
        · obtain ⟨gl', cur, hA, -, hNg, hg, hsz⟩ := own_block OR.out.l (by rw [tris_length, upto_len]; omega)
          rw [tris_length, upto_len] at hsz
          obtain ⟨b, o, hA2, -, c0, c1, c2⟩ := LRow.tri (own_lrow OR.out.l (by decide) (tris_len _)).1 (k := j) (by rw [upto_len]; exact hlt)
          rw [hA] at hA2
          simp only [Option.some.injEq, Addr.mk.injEq, and_true] at hA2
          obtain ⟨rfl, rfl⟩ := hA2
          rw [upto_at (renLat c) c.lats j hlt, Nat.zero_add] at c0 c1 c2
          have HU := Lib.hid (upto_set (renLat c) c.lats j hlt)
          have HLT := Lib.hid (AL.out.lats c.lats[j] (List.getElem_mem _))
          have zl : c.lats.length ≤ 64 := HZ.out.2.2.2.2.1
          have HJ := Lib.hid hlt
          have HL : Hid (j < (upto (renLat c) c.lats j).length) := by unfold Hid; rw [upto_len]; exact hlt
          have HUL : Hid ((upto (renLat c) c.lats j).length = c.lats.length) := upto_len _ _ _
          have HCS : Hid (j * 3 + 2 < cur.size) := by unfold Hid; omega
          have HSZ := Lib.hid hsz
          have HG := Lib.hid hg
          have HNG := Lib.hid hNg
          have HAA := Lib.hid hA
          clear hNg hg hsz
          rw [hA]
          clear hA
          generalize c.lats[j] = t at *
          obtain ⟨wt, hwt⟩ : ∃ x, wr.alloc (.cells #[.int .i64 t.a, .int .i64 t.b, .int .i64 t.c] 41) = x := ⟨_, rfl⟩
          have bt : Below wr.heap.size wr wt := by rw [← hwt]; exact (Below.refl _ _).alloc (Nat.le_refl _) _
          have KT : wt.heap[wr.heap.size]? = some (.cells #[.int .i64 t.a, .int .i64 t.b, .int .i64 t.c] 41 (0, 0)) := by rw [← hwt]; exact Array.getElem?_push_size
          have KA : Hid (wt.cell? ⟨wr.heap.size, 0, none⟩ = some (.int .i64 t.a)) := by unfold Hid; rw [Lib.cell_of_heap KT]; rfl
          have KB : Hid (wt.cell? ⟨wr.heap.size, 1, none⟩ = some (.int .i64 t.b)) := by unfold Hid; rw [Lib.cell_of_heap KT]; rfl
          have KC : Hid (wt.cell? ⟨wr.heap.size, 2, none⟩ = some (.int .i64 t.c)) := by unfold Hid; rw [Lib.cell_of_heap KT]; rfl
          have GL : Hid (wt.heap[gl']? = some (.cells cur 41 (0, 0))) := (bt.block _ (lt_of_block HG.out)).trans HG.out
          have ORT : Hid (Or w2.heap.size w3.heap.size w2 c s' (one (0 < 4) c c.ins) (one (1 < 4) c c.outs) (one (2 < 4) c c.bads) (one (3 < 4) c c.invs) (upto (renLat c) c.lats j) c.ands wt) := OR.out.below bt
          have KD : Hid (wt.cell? ⟨w3.heap.size, 2, none⟩ = some (.slice (some ⟨gl', 0, none⟩) c.lats.length s'.kl)) := by unfold Hid; rw [Lib.cell_of_heap ORT.out.x, ← HAA.out]; rfl
          have RC : Hid (∀ x wx, Below wt.heap.size wt wx → Lits c x → Calls Tryd.prog 48 #[.int .i64 x, .pointer (some ⟨gn, 0, none⟩)] wx fun e w' => e = .returned (.int .i64 (ren c x)) ∧ Below wx.heap.size wx w') := fun x wx hbx hx => ren_call c RK.out w1.heap.size gl gn nb x wx (NU.out wx (ORT.out.b.trans (hbx.mono ORT.out.z))) hx
          have ER : Hid (∀ args w, (callFunc 48 args).run Tryd.prog w = .ok (.enter 48 args) w) := enters_of Tryd.func48 (by kernel_rfl) rfl
          clear bt KT
          go_wp2
          clear hwt c0 c1 c2
          refine wp_region_valsD (by kernel_rfl) (by kernel_rfl) olatM (by kernel_rfl) (by kernel_rfl)
            (fun d w' => (d 17 = false → Below wt.heap.size wt w') ∧ Save (some gl') wt w') (olatR w3.heap.size gl' wr.heap.size gn c.lats.length s'.kl j t.a t.b t.c c cur) ⟨fun _ => (Below.refl _ _).drew, ⟨rfl, rfl, rfl, Nat.le_refl _, fun _ _ _ => rfl⟩⟩ (fun jj f f' w w' hb hf h => olat_stab jj (fun _ => hb) hf h) ?_ ?_
          · intro i oo d a' w' ho hd hun hdf hok hD K hK hK0
            match i, ho, hd, hD, hK, hK0, hun with
            | 0, ho, hd, hD, hK, hK0, hun =>
              have e := (congrArg Oper.op (Option.some.inj ho)).symm
              obtain rfl := Option.some.inj ho
              exact wp_val (op_field_api_Circuit_2 a' w' _ 6 (hun 6 (by kernel_rfl)) _ e) (hK _ _ (Below.refl _ _) ⟨fun h => hok.1 (by simp only [Bool.or_eq_false_iff] at h; exact h.2), hok.2⟩ (fun f h1 _ => h1 _ rfl))
            | 1, ho, hd, hD, hK, hK0, hun =>
              have e := (congrArg Oper.op (Option.some.inj ho)).symm
              obtain rfl := Option.some.inj ho
              exact wp_val (op_load_Lapi_Latch a' w' _ 76 _ (hD 0 (by kernel_rfl)) (cell_later (hok.1 (hd 17 (by kernel_rfl))) KD.out) _ e) (hK _ _ (Below.refl _ _) ⟨fun h => hok.1 (by simp only [Bool.or_eq_false_iff] at h; exact h.2), hok.2⟩ (fun f h1 _ => h1 _ rfl))
            | 2, ho, hd, hD, hK, hK0, hun =>
              have e := (congrArg Oper.op (Option.some.inj ho)).symm
              obtain rfl := Option.some.inj ho
              exact wp_val (op_move a' w' 11 _ e) (hK _ _ (Below.refl _ _) ⟨fun h => hok.1 (by simp only [Bool.or_eq_false_iff] at h; exact h.2), hok.2⟩ (fun f h1 _ => (h1 _ rfl).trans (hun 11 (by kernel_rfl))))
            | 3, ho, hd, hD, hK, hK0, hun =>
              have e := (congrArg Oper.op (Option.some.inj ho)).symm
              obtain rfl := Option.some.inj ho
              exact wp_val (op_move a' w' 5 _ e) (hK _ _ (Below.refl _ _) ⟨fun h => hok.1 (by simp only [Bool.or_eq_false_iff] at h; exact h.2), hok.2⟩ (fun f h1 _ => (h1 _ rfl).trans (hun 5 (by kernel_rfl))))
            | 4, ho, hd, hD, hK, hK0, hun =>
              have e := (congrArg Oper.op (Option.some.inj ho)).symm
              obtain rfl := Option.some.inj ho
              exact wp_val (op_field_api_Latch_0 a' w' _ 12 (hun 12 (by kernel_rfl)) _ e) (hK _ _ (Below.refl _ _) ⟨fun h => hok.1 (by simp only [Bool.or_eq_false_iff] at h; exact h.2), hok.2⟩ (fun f h1 _ => h1 _ rfl))
            | 5, ho, hd, hD, hK, hK0, hun =>
              have e := (congrArg Oper.op (Option.some.inj ho)).symm
              obtain rfl := Option.some.inj ho
              exact wp_val (op_load_int a' w' _ 80 _ (hD 4 (by kernel_rfl)) (cell_later (hok.1 (hd 17 (by kernel_rfl))) KA.out) _ e) (hK _ _ (Below.refl _ _) ⟨fun h => hok.1 (by simp only [Bool.or_eq_false_iff] at h; exact h.2), hok.2⟩ (fun f h1 _ => h1 _ rfl))
            | 6, ho, hd, hD, hK, hK0, hun =>
              have e := (congrArg Oper.op (Option.some.inj ho)).symm
              obtain rfl := Option.some.inj ho
              refine wp_enter (op_callv a' w' _ 79 81 _ _ (hD 3 (by kernel_rfl)) ER.out _ e) ?_
              rw [show a'.tmps.getD 81 undef = .int .i64 t.a from hD 5 (by kernel_rfl)]
              refine (RC.out t.a w' (hok.1 (hd 17 (by kernel_rfl))) HLT.out.1).mono ?_
              rintro e w'' ⟨rfl, hb⟩
              exact .inl ⟨_, rfl, hK _ _ hb ⟨fun _ => (hok.1 (hd 17 (by kernel_rfl))).trans (hb.mono (hok.1 (hd 17 (by kernel_rfl))).size), hok.2.trans (Save.of hb)⟩ (fun f h1 _ => h1 _ rfl)⟩
            | 7, ho, hd, hD, hK, hK0, hun =>
              have e := (congrArg Oper.op (Option.some.inj ho)).symm
              obtain rfl := Option.some.inj ho
              exact wp_val (op_move a' w' 5 _ e) (hK _ _ (Below.refl _ _) ⟨fun h => hok.1 (by simp only [Bool.or_eq_false_iff] at h; exact h.2), hok.2⟩ (fun f h1 _ => (h1 _ rfl).trans (hun 5 (by kernel_rfl))))
            | 8, ho, hd, hD, hK, hK0, hun =>
              have e := (congrArg Oper.op (Option.some.inj ho)).symm
              obtain rfl := Option.some.inj ho
              exact wp_val (op_field_api_Latch_1 a' w' _ 12 (hun 12 (by kernel_rfl)) _ e) (hK _ _ (Below.refl _ _) ⟨fun h => hok.1 (by simp only [Bool.or_eq_false_iff] at h; exact h.2), hok.2⟩ (fun f h1 _ => h1 _ rfl))
            | 9, ho, hd, hD, hK, hK0, hun =>
              have e := (congrArg Oper.op (Option.some.inj ho)).symm
              obtain rfl := Option.some.inj ho
              exact wp_val (op_load_int a' w' _ 84 _ (hD 8 (by kernel_rfl)) (cell_later (hok.1 (hd 17 (by kernel_rfl))) KB.out) _ e) (hK _ _ (Below.refl _ _) ⟨fun h => hok.1 (by simp only [Bool.or_eq_false_iff] at h; exact h.2), hok.2⟩ (fun f h1 _ => h1 _ rfl))
            | 10, ho, hd, hD, hK, hK0, hun =>
              have e := (congrArg Oper.op (Option.some.inj ho)).symm
              obtain rfl := Option.some.inj ho
              refine wp_enter (op_callv a' w' _ 83 85 _ _ (hD 7 (by kernel_rfl)) ER.out _ e) ?_
              rw [show a'.tmps.getD 85 undef = .int .i64 t.b from hD 9 (by kernel_rfl)]
              refine (RC.out t.b w' (hok.1 (hd 17 (by kernel_rfl))) HLT.out.2.1).mono ?_
              rintro e w'' ⟨rfl, hb⟩
              exact .inl ⟨_, rfl, hK _ _ hb ⟨fun _ => (hok.1 (hd 17 (by kernel_rfl))).trans (hb.mono (hok.1 (hd 17 (by kernel_rfl))).size), hok.2.trans (Save.of hb)⟩ (fun f h1 _ => h1 _ rfl)⟩
            | 11, ho, hd, hD, hK, hK0, hun =>
              have e := (congrArg Oper.op (Option.some.inj ho)).symm
              obtain rfl := Option.some.inj ho
              exact wp_val (op_move a' w' 5 _ e) (hK _ _ (Below.refl _ _) ⟨fun h => hok.1 (by simp only [Bool.or_eq_false_iff] at h; exact h.2), hok.2⟩ (fun f h1 _ => (h1 _ rfl).trans (hun 5 (by kernel_rfl))))
            | 12, ho, hd, hD, hK, hK0, hun =>
              have e := (congrArg Oper.op (Option.some.inj ho)).symm
              obtain rfl := Option.some.inj ho
              exact wp_val (op_field_api_Latch_2 a' w' _ 12 (hun 12 (by kernel_rfl)) _ e) (hK _ _ (Below.refl _ _) ⟨fun h => hok.1 (by simp only [Bool.or_eq_false_iff] at h; exact h.2), hok.2⟩ (fun f h1 _ => h1 _ rfl))
            | 13, ho, hd, hD, hK, hK0, hun =>
              have e := (congrArg Oper.op (Option.some.inj ho)).symm
              obtain rfl := Option.some.inj ho
              exact wp_val (op_load_int a' w' _ 88 _ (hD 12 (by kernel_rfl)) (cell_later (hok.1 (hd 17 (by kernel_rfl))) KC.out) _ e) (hK _ _ (Below.refl _ _) ⟨fun h => hok.1 (by simp only [Bool.or_eq_false_iff] at h; exact h.2), hok.2⟩ (fun f h1 _ => h1 _ rfl))
            | 14, ho, hd, hD, hK, hK0, hun =>
              have e := (congrArg Oper.op (Option.some.inj ho)).symm
              obtain rfl := Option.some.inj ho
              refine wp_enter (op_callv a' w' _ 87 89 _ _ (hD 11 (by kernel_rfl)) ER.out _ e) ?_
              rw [show a'.tmps.getD 89 undef = .int .i64 t.c from hD 13 (by kernel_rfl)]
              refine (RC.out t.c w' (hok.1 (hd 17 (by kernel_rfl))) HLT.out.2.2).mono ?_
              rintro e w'' ⟨rfl, hb⟩
              exact .inl ⟨_, rfl, hK _ _ hb ⟨fun _ => (hok.1 (hd 17 (by kernel_rfl))).trans (hb.mono (hok.1 (hd 17 (by kernel_rfl))).size), hok.2.trans (Save.of hb)⟩ (fun f h1 _ => h1 _ rfl)⟩
            | 15, ho, hd, hD, hK, hK0, hun =>
              have e := (congrArg Oper.op (Option.some.inj ho)).symm
              obtain rfl := Option.some.inj ho
              exact wp_val (op_build_lat3 a' w' _ _ _ 82 86 90 (hD 6 (by kernel_rfl)) (hD 10 (by kernel_rfl)) (hD 14 (by kernel_rfl)) _ e) (hK _ _ (Below.refl _ _) ⟨fun h => hok.1 (by simp only [Bool.or_eq_false_iff] at h; exact h.2), hok.2⟩ (fun f h1 _ => h1 _ rfl))
            | 16, ho, hd, hD, hK, hK0, hun =>
              have e := (congrArg Oper.op (Option.some.inj ho)).symm
              obtain rfl := Option.some.inj ho
              have q := op_index_lat_at a' w' gl' 0 c.lats.length s'.kl j 77 78 (hD 1 (by kernel_rfl)) (hD 2 (by kernel_rfl)) HJ.out _ e
              rw [Nat.zero_add] at q
              exact wp_val q (hK _ _ (Below.refl _ _) ⟨fun h => hok.1 (by simp only [Bool.or_eq_false_iff] at h; exact h.2), hok.2⟩ (fun f h1 _ => h1 _ rfl))
            | 17, ho, hd, hD, hK, hK0, hun =>
              have e := (congrArg Oper.op (Option.some.inj ho)).symm
              obtain rfl := Option.some.inj ho
              have hb17 := hok.1 (hd 17 (by kernel_rfl))
              obtain ⟨w'', hr, hgc2, hbut⟩ := op_store_lat_at a' w' gl' (j * 3) cur _ ((hb17.block gl' (lt_of_block GL.out)).trans GL.out) HCS.out _ _ _ 92 91 (hD 16 (by kernel_rfl)) (hD 15 (by kernel_rfl)) _ e
              exact wp_skip' hr (hK0 _ _ ⟨fun h => by simp at h, hok.2.trans (save_but hbut)⟩ (fun f _ _ => hgc2) (fun j f hj hf hq => olat_stab j (fun e2 => absurd e2 hj) hf hq))
            | i + 18, ho, _, _, _, _, _ => exact absurd ho (by simp)
          · intro a' w3' hsz hdf hkt hok hR
            have HF3 := frame_sets [76, 77, 78, 79, 80, 81, 82, 83, 84, 85, 86, 87, 88, 89, 90, 91, 92] (by kernel_rfl) hsz hkt
            obtain ⟨d, hok⟩ := hok
            have h17 : w3'.heap[gl']? = some (.cells (((cur.setIfInBounds (j * 3) (.int .i64 (ren c t.a))).setIfInBounds (j * 3 + 1) (.int .i64 (ren c t.b))).setIfInBounds (j * 3 + 2) (.int .i64 (ren c t.c))) 41 (0, 0)) := hR 17 (by decide)
            have OZ : Hid (Or w2.heap.size w3.heap.size w2 c s' (one (0 < 4) c c.ins) (one (1 < 4) c c.outs) (one (2 < 4) c c.bads) (one (3 < 4) c c.invs) (upto (renLat c) c.lats (j + 1)) c.ands w3') := by
              refine ORT.out.latsTo GL.out HNG.out hok.2 ?_
              have h1 := ORT.out.l
              rw [HAA.out, ← HUL.out] at h1
              have h2 := put_tri h1 j HL.out (renLat c t) GL.out (by rw [HUL.out]; exact HSZ.out) h17
              rw [HU.out, HUL.out, ← HAA.out] at h2
              exact h2
            clear h17 hok
            obtain ⟨tm, df⟩ := a'
            obtain rfl : df = _ := hdf
            simp only [List.foldl_cons, List.foldl_nil] at HF3
            clear hkt hR hsz
            generalize tm.getD 76 undef = y76 at HF3
            generalize tm.getD 77 undef = y77 at HF3
            generalize tm.getD 78 undef = y78 at HF3
            generalize tm.getD 79 undef = y79 at HF3
            generalize tm.getD 80 undef = y80 at HF3
            generalize tm.getD 81 undef = y81 at HF3
            generalize tm.getD 82 undef = y82 at HF3
            generalize tm.getD 83 undef = y83 at HF3
            generalize tm.getD 84 undef = y84 at HF3
            generalize tm.getD 85 undef = y85 at HF3
            generalize tm.getD 86 undef = y86 at HF3
            generalize tm.getD 87 undef = y87 at HF3
            generalize tm.getD 88 undef = y88 at HF3
            generalize tm.getD 89 undef = y89 at HF3
            generalize tm.getD 90 undef = y90 at HF3
            generalize tm.getD 91 undef = y91 at HF3
            generalize tm.getD 92 undef = y92 at HF3
            simp only [List.setIfInBounds_toArray, List.set_cons_succ, List.set_cons_zero] at HF3
            subst HF3
            clear KA KB KC KD GL ORT RC HG HNG HAA HU HL HUL HCS HSZ OR
            go_wp2
            go_roundw
            case rel => exact ⟨j + 1, by omega, by go_num, OZ.out⟩
            case measure => simp [intOf]; omega
        · obtain rfl : j = c.lats.length := by omega
          obtain ⟨wo2, rfl⟩ : ∃ x, x = wr := ⟨_, rfl⟩
          have OR0 : Hid (Or w2.heap.size w3.heap.size w2 c s' (one (0 < 4) c c.ins) (one (1 < 4) c c.outs) (one (2 < 4) c c.bads) (one (3 < 4) c c.invs) (c.lats.map (renLat c)) (upto (renAnd c) c.ands 0) wo2) := by
            unfold Hid; rw [upto_zero, ← upto_all]; exact OR.out
          clear OR
          have d6 : wo2.cell? ⟨w3.heap.size, 6, none⟩ = some (.slice s'.aa c.ands.length s'.ka) := by rw [Lib.cell_of_heap OR0.out.x]; rfl
          go_wp2
          clear d6
          go_loopw [97] (fun i wr => ∃ j : Nat, j ≤ c.ands.length ∧ i = .int .i64 j ∧ Or w2.heap.size w3.heap.size w2 c s' (one (0 < 4) c c.ins) (one (1 < 4) c c.outs) (one (2 < 4) c c.bads) (one (3 < 4) c c.invs) (c.lats.map (renLat c)) (upto (renAnd c) c.ands j) wr) (fun i _ => c.ands.length - (intOf i).toNat)
          case atStart => exact ⟨0, Nat.zero_le _, rfl, OR0.out⟩
          case round =>
            clear OR0
            obtain ⟨j, hj, rfl, hor⟩ := hrel
            have OR := Lib.hid hor
            clear hor
            have zl : c.ands.length ≤ 4097 := HZ.out.2.2.2.2.2.1
            by_cases hlt : j < c.ands.length
            · obtain ⟨gl', cur, hA, -, hNg, hg, hsz⟩ := own_block OR.out.a (by rw [tris_length, upto_len]; omega)
              rw [tris_length, upto_len] at hsz
              obtain ⟨b, o, hA2, -, c0, c1, c2⟩ := LRow.tri (own_lrow OR.out.a (by decide) (tris_len _)).1 (k := j) (by rw [upto_len]; exact hlt)
              rw [hA] at hA2
              simp only [Option.some.injEq, Addr.mk.injEq, and_true] at hA2
              obtain ⟨rfl, rfl⟩ := hA2
              rw [upto_at (renAnd c) c.ands j hlt, Nat.zero_add] at c0 c1 c2
              have HU := Lib.hid (upto_set (renAnd c) c.ands j hlt)
              have HLT := Lib.hid (AL.out.ands c.ands[j] (List.getElem_mem _))
              have HJ := Lib.hid hlt
              have HL : Hid (j < (upto (renAnd c) c.ands j).length) := by unfold Hid; rw [upto_len]; exact hlt
              have HUL : Hid ((upto (renAnd c) c.ands j).length = c.ands.length) := upto_len _ _ _
              have HCS : Hid (j * 3 + 2 < cur.size) := by unfold Hid; omega
              have HSZ := Lib.hid hsz
              have HG := Lib.hid hg
              have HNG := Lib.hid hNg
              have HAA := Lib.hid hA
              clear hNg hg hsz
              rw [hA]
              clear hA
              generalize c.ands[j] = t at *
              obtain ⟨wt, hwt⟩ : ∃ x, wr.alloc (.cells #[.int .i64 t.a, .int .i64 t.b, .int .i64 t.c] 43) = x := ⟨_, rfl⟩
              have bt : Below wr.heap.size wr wt := by rw [← hwt]; exact (Below.refl _ _).alloc (Nat.le_refl _) _
              have KT : wt.heap[wr.heap.size]? = some (.cells #[.int .i64 t.a, .int .i64 t.b, .int .i64 t.c] 43 (0, 0)) := by rw [← hwt]; exact Array.getElem?_push_size
              have KA : Hid (wt.cell? ⟨wr.heap.size, 0, none⟩ = some (.int .i64 t.a)) := by unfold Hid; rw [Lib.cell_of_heap KT]; rfl
              have KB : Hid (wt.cell? ⟨wr.heap.size, 1, none⟩ = some (.int .i64 t.b)) := by unfold Hid; rw [Lib.cell_of_heap KT]; rfl
              have KC : Hid (wt.cell? ⟨wr.heap.size, 2, none⟩ = some (.int .i64 t.c)) := by unfold Hid; rw [Lib.cell_of_heap KT]; rfl
              have GL : Hid (wt.heap[gl']? = some (.cells cur 43 (0, 0))) := (bt.block _ (lt_of_block HG.out)).trans HG.out
              have ORT : Hid (Or w2.heap.size w3.heap.size w2 c s' (one (0 < 4) c c.ins) (one (1 < 4) c c.outs) (one (2 < 4) c c.bads) (one (3 < 4) c c.invs) (c.lats.map (renLat c)) (upto (renAnd c) c.ands j) wt) := OR.out.below bt
              have KD : Hid (wt.cell? ⟨w3.heap.size, 6, none⟩ = some (.slice (some ⟨gl', 0, none⟩) c.ands.length s'.ka)) := by unfold Hid; rw [Lib.cell_of_heap ORT.out.x, ← HAA.out]; rfl
              have RC : Hid (∀ x wx, Below wt.heap.size wt wx → Lits c x → Calls Tryd.prog 48 #[.int .i64 x, .pointer (some ⟨gn, 0, none⟩)] wx fun e w' => e = .returned (.int .i64 (ren c x)) ∧ Below wx.heap.size wx w') := fun x wx hbx hx => ren_call c RK.out w1.heap.size gl gn nb x wx (NU.out wx (ORT.out.b.trans (hbx.mono ORT.out.z))) hx
              have ER : Hid (∀ args w, (callFunc 48 args).run Tryd.prog w = .ok (.enter 48 args) w) := enters_of Tryd.func48 (by kernel_rfl) rfl
              clear bt KT
              go_wp2
              clear hwt c0 c1 c2
              refine wp_region_valsD (by kernel_rfl) (by kernel_rfl) oandM (by kernel_rfl) (by kernel_rfl)
                (fun _ w' => Below wt.heap.size wt w') (oandR wr.heap.size gn t.b t.c c) (Below.refl _ _).drew (fun jj f f' w w' hb hf h => oand_stab jj  hf h) ?_ ?_
              · intro i oo d a' w' ho hd hun hdf hok hD K hK hK0
                match i, ho, hd, hD, hK, hK0, hun with
                | 0, ho, hd, hD, hK, hK0, hun =>
                  have e := (congrArg Oper.op (Option.some.inj ho)).symm
                  obtain rfl := Option.some.inj ho
                  exact wp_val (op_move a' w' 5 _ e) (hK _ _ (Below.refl _ _) hok (fun f h1 _ => (h1 _ rfl).trans (hun 5 (by kernel_rfl))))
                | 1, ho, hd, hD, hK, hK0, hun =>
                  have e := (congrArg Oper.op (Option.some.inj ho)).symm
                  obtain rfl := Option.some.inj ho
                  exact wp_val (op_field_api_And_1 a' w' _ 14 (hun 14 (by kernel_rfl)) _ e) (hK _ _ (Below.refl _ _) hok (fun f h1 _ => h1 _ rfl))
                | 2, ho, hd, hD, hK, hK0, hun =>
                  have e := (congrArg Oper.op (Option.some.inj ho)).symm
                  obtain rfl := Option.some.inj ho
                  exact wp_val (op_load_int a' w' _ 103 _ (hD 1 (by kernel_rfl)) (cell_later hok KB.out) _ e) (hK _ _ (Below.refl _ _) hok (fun f h1 _ => h1 _ rfl))
                | 3, ho, hd, hD, hK, hK0, hun =>
                  have e := (congrArg Oper.op (Option.some.inj ho)).symm
                  obtain rfl := Option.some.inj ho
                  refine wp_enter (op_callv a' w' _ 102 104 _ _ (hD 0 (by kernel_rfl)) ER.out _ e) ?_
                  rw [show a'.tmps.getD 104 undef = .int .i64 t.b from hD 2 (by kernel_rfl)]
                  refine (RC.out t.b w' (hok) HLT.out.2.1).mono ?_
                  rintro e w'' ⟨rfl, hb⟩
                  exact .inl ⟨_, rfl, hK _ _ hb (hok.trans (hb.mono hok.size)) (fun f h1 _ => h1 _ rfl)⟩
                | 4, ho, hd, hD, hK, hK0, hun =>
                  have e := (congrArg Oper.op (Option.some.inj ho)).symm
                  obtain rfl := Option.some.inj ho
                  exact wp_val (op_move a' w' 5 _ e) (hK _ _ (Below.refl _ _) hok (fun f h1 _ => (h1 _ rfl).trans (hun 5 (by kernel_rfl))))
                | 5, ho, hd, hD, hK, hK0, hun =>
                  have e := (congrArg Oper.op (Option.some.inj ho)).symm
                  obtain rfl := Option.some.inj ho
                  exact wp_val (op_field_api_And_2 a' w' _ 14 (hun 14 (by kernel_rfl)) _ e) (hK _ _ (Below.refl _ _) hok (fun f h1 _ => h1 _ rfl))
                | 6, ho, hd, hD, hK, hK0, hun =>
                  have e := (congrArg Oper.op (Option.some.inj ho)).symm
                  obtain rfl := Option.some.inj ho
                  exact wp_val (op_load_int a' w' _ 107 _ (hD 5 (by kernel_rfl)) (cell_later hok KC.out) _ e) (hK _ _ (Below.refl _ _) hok (fun f h1 _ => h1 _ rfl))
                | 7, ho, hd, hD, hK, hK0, hun =>
                  have e := (congrArg Oper.op (Option.some.inj ho)).symm
                  obtain rfl := Option.some.inj ho
                  refine wp_enter (op_callv a' w' _ 106 108 _ _ (hD 4 (by kernel_rfl)) ER.out _ e) ?_
                  rw [show a'.tmps.getD 108 undef = .int .i64 t.c from hD 6 (by kernel_rfl)]
                  refine (RC.out t.c w' (hok) HLT.out.2.2).mono ?_
                  rintro e w'' ⟨rfl, hb⟩
                  exact .inl ⟨_, rfl, hK _ _ hb (hok.trans (hb.mono hok.size)) (fun f h1 _ => h1 _ rfl)⟩
                | 8, ho, hd, hD, hK, hK0, hun =>
                  have e := (congrArg Oper.op (Option.some.inj ho)).symm
                  obtain rfl := Option.some.inj ho
                  exact wp_val (op_assign a' w' 105 _ e) (hK _ _ (Below.refl _ _) hok (fun f h1 _ => (h1 _ rfl).trans (hD 3 (by kernel_rfl))))
                | 9, ho, hd, hD, hK, hK0, hun =>
                  have e := (congrArg Oper.op (Option.some.inj ho)).symm
                  obtain rfl := Option.some.inj ho
                  exact wp_val (op_assign a' w' 109 _ e) (hK _ _ (Below.refl _ _) hok (fun f h1 _ => (h1 _ rfl).trans (hD 7 (by kernel_rfl))))
                | i + 10, ho, _, _, _, _, _ => exact absurd ho (by simp)
              · intro a' w3' hsz hdf hkt hok hR
                have HF3 := frame_sets [15, 16, 102, 103, 104, 105, 106, 107, 108, 109] (by kernel_rfl) hsz hkt
                obtain ⟨d, hok⟩ := hok
                have h15 : w3' = w3' ∧ vals a' 15 = .int .i64 (ren c t.b) := ⟨rfl, hR 8 (by decide)⟩
                have h15 := h15.2
                have h16 : w3' = w3' ∧ vals a' 16 = .int .i64 (ren c t.c) := ⟨rfl, hR 9 (by decide)⟩
                have h16 := h16.2
                have HO := Lib.hid hok
                clear hok
                obtain ⟨tm, df⟩ := a'
                obtain rfl : df = _ := hdf
                simp only [List.foldl_cons, List.foldl_nil] at HF3
                clear hkt hR hsz
                replace h15 : tm.getD 15 undef = _ := h15
                rw [h15] at HF3
                clear h15
                replace h16 : tm.getD 16 undef = _ := h16
                rw [h16] at HF3
                clear h16
                generalize tm.getD 102 undef = y102 at HF3
                generalize tm.getD 103 undef = y103 at HF3
                generalize tm.getD 104 undef = y104 at HF3
                generalize tm.getD 105 undef = y105 at HF3
                generalize tm.getD 106 undef = y106 at HF3
                generalize tm.getD 107 undef = y107 at HF3
                generalize tm.getD 108 undef = y108 at HF3
                generalize tm.getD 109 undef = y109 at HF3
                simp only [List.setIfInBounds_toArray, List.set_cons_succ, List.set_cons_zero] at HF3
                subst HF3
                have KA2 := Lib.hid (cell_later HO.out KA.out)
                have GL2 : Hid (w3'.heap[gl']? = some (.cells cur 43 (0, 0))) := (HO.out.block _ (lt_of_block GL.out)).trans GL.out
                have ORT2 := Lib.hid (ORT.out.below HO.out)
                have KD2 := Lib.hid (cell_later HO.out KD.out)
                have RC2 : Hid (∀ x wx, Below w3'.heap.size w3' wx → Lits c x → Calls Tryd.prog 48 #[.int .i64 x, .pointer (some ⟨gn, 0, none⟩)] wx fun e w' => e = .returned (.int .i64 (ren c x)) ∧ Below wx.heap.size wx w') := fun x wx hbx hx => RC.out x wx (HO.out.trans (hbx.mono HO.out.size)) hx
                clear KA KB KC KD GL ORT RC HO
                obtain ⟨wt, rfl⟩ : ∃ x, x = w3' := ⟨_, rfl⟩
                have KA := Lib.hid KA2.out
                have GL := Lib.hid GL2.out
                have ORT := Lib.hid ORT2.out
                have KD := Lib.hid KD2.out
                have RC := Lib.hid RC2.out
                clear KA2 GL2 ORT2 KD2 RC2
                go_wp2
                refine wp_region_valsD (by kernel_rfl) (by kernel_rfl) oputM (by kernel_rfl) (by kernel_rfl)
                  (fun d w' => (d 15 = false → Below wt.heap.size wt w') ∧ Save (some gl') wt w') (oputR w3.heap.size gl' wr.heap.size gn c.ands.length s'.ka j t.a (ren c t.b) (ren c t.c) c cur) ⟨fun _ => (Below.refl _ _).drew, ⟨rfl, rfl, rfl, Nat.le_refl _, fun _ _ _ => rfl⟩⟩ (fun jj f f' w w' hb hf h => oput_stab jj (fun _ => hb) hf h) ?_ ?_
                · intro i oo d a' w' ho hd hun hdf hok hD K hK hK0
                  match i, ho, hd, hD, hK, hK0, hun with
                  | 0, ho, hd, hD, hK, hK0, hun =>
                    have e := (congrArg Oper.op (Option.some.inj ho)).symm
                    obtain rfl := Option.some.inj ho
                    exact wp_val (op_field_api_Circuit_6 a' w' _ 6 (hun 6 (by kernel_rfl)) _ e) (hK _ _ (Below.refl _ _) ⟨fun h => hok.1 (by simp only [Bool.or_eq_false_iff] at h; exact h.2), hok.2⟩ (fun f h1 _ => h1 _ rfl))
                  | 1, ho, hd, hD, hK, hK0, hun =>
                    have e := (congrArg Oper.op (Option.some.inj ho)).symm
                    obtain rfl := Option.some.inj ho
                    exact wp_val (op_load_Lapi_And a' w' _ 110 _ (hD 0 (by kernel_rfl)) (cell_later (hok.1 (hd 15 (by kernel_rfl))) KD.out) _ e) (hK _ _ (Below.refl _ _) ⟨fun h => hok.1 (by simp only [Bool.or_eq_false_iff] at h; exact h.2), hok.2⟩ (fun f h1 _ => h1 _ rfl))
                  | 2, ho, hd, hD, hK, hK0, hun =>
                    have e := (congrArg Oper.op (Option.some.inj ho)).symm
                    obtain rfl := Option.some.inj ho
                    exact wp_val (op_move a' w' 13 _ e) (hK _ _ (Below.refl _ _) ⟨fun h => hok.1 (by simp only [Bool.or_eq_false_iff] at h; exact h.2), hok.2⟩ (fun f h1 _ => (h1 _ rfl).trans (hun 13 (by kernel_rfl))))
                  | 3, ho, hd, hD, hK, hK0, hun =>
                    have e := (congrArg Oper.op (Option.some.inj ho)).symm
                    obtain rfl := Option.some.inj ho
                    exact wp_val (op_move a' w' 5 _ e) (hK _ _ (Below.refl _ _) ⟨fun h => hok.1 (by simp only [Bool.or_eq_false_iff] at h; exact h.2), hok.2⟩ (fun f h1 _ => (h1 _ rfl).trans (hun 5 (by kernel_rfl))))
                  | 4, ho, hd, hD, hK, hK0, hun =>
                    have e := (congrArg Oper.op (Option.some.inj ho)).symm
                    obtain rfl := Option.some.inj ho
                    exact wp_val (op_field_api_And_0 a' w' _ 14 (hun 14 (by kernel_rfl)) _ e) (hK _ _ (Below.refl _ _) ⟨fun h => hok.1 (by simp only [Bool.or_eq_false_iff] at h; exact h.2), hok.2⟩ (fun f h1 _ => h1 _ rfl))
                  | 5, ho, hd, hD, hK, hK0, hun =>
                    have e := (congrArg Oper.op (Option.some.inj ho)).symm
                    obtain rfl := Option.some.inj ho
                    exact wp_val (op_load_int a' w' _ 114 _ (hD 4 (by kernel_rfl)) (cell_later (hok.1 (hd 15 (by kernel_rfl))) KA.out) _ e) (hK _ _ (Below.refl _ _) ⟨fun h => hok.1 (by simp only [Bool.or_eq_false_iff] at h; exact h.2), hok.2⟩ (fun f h1 _ => h1 _ rfl))
                  | 6, ho, hd, hD, hK, hK0, hun =>
                    have e := (congrArg Oper.op (Option.some.inj ho)).symm
                    obtain rfl := Option.some.inj ho
                    refine wp_enter (op_callv a' w' _ 113 115 _ _ (hD 3 (by kernel_rfl)) ER.out _ e) ?_
                    rw [show a'.tmps.getD 115 undef = .int .i64 t.a from hD 5 (by kernel_rfl)]
                    refine (RC.out t.a w' (hok.1 (hd 15 (by kernel_rfl))) HLT.out.1).mono ?_
                    rintro e w'' ⟨rfl, hb⟩
                    exact .inl ⟨_, rfl, hK _ _ hb ⟨fun _ => (hok.1 (hd 15 (by kernel_rfl))).trans (hb.mono (hok.1 (hd 15 (by kernel_rfl))).size), hok.2.trans (Save.of hb)⟩ (fun f h1 _ => h1 _ rfl)⟩
                  | 7, ho, hd, hD, hK, hK0, hun =>
                    have e := (congrArg Oper.op (Option.some.inj ho)).symm
                    obtain rfl := Option.some.inj ho
                    exact wp_val (op_move a' w' 15 _ e) (hK _ _ (Below.refl _ _) ⟨fun h => hok.1 (by simp only [Bool.or_eq_false_iff] at h; exact h.2), hok.2⟩ (fun f h1 _ => (h1 _ rfl).trans (hun 15 (by kernel_rfl))))
                  | 8, ho, hd, hD, hK, hK0, hun =>
                    have e := (congrArg Oper.op (Option.some.inj ho)).symm
                    obtain rfl := Option.some.inj ho
                    exact wp_val (op_move a' w' 16 _ e) (hK _ _ (Below.refl _ _) ⟨fun h => hok.1 (by simp only [Bool.or_eq_false_iff] at h; exact h.2), hok.2⟩ (fun f h1 _ => (h1 _ rfl).trans (hun 16 (by kernel_rfl))))
                  | 9, ho, hd, hD, hK, hK0, hun =>
                    have e := (congrArg Oper.op (Option.some.inj ho)).symm
                    obtain rfl := Option.some.inj ho
                    exact wp_val (op_max a' w' _ _ 117 118 (hD 7 (by kernel_rfl)) (hD 8 (by kernel_rfl)) _ e) (hK _ _ (Below.refl _ _) ⟨fun h => hok.1 (by simp only [Bool.or_eq_false_iff] at h; exact h.2), hok.2⟩ (fun f h1 _ => h1 _ rfl))
                  | 10, ho, hd, hD, hK, hK0, hun =>
                    have e := (congrArg Oper.op (Option.some.inj ho)).symm
                    obtain rfl := Option.some.inj ho
                    exact wp_val (op_move a' w' 15 _ e) (hK _ _ (Below.refl _ _) ⟨fun h => hok.1 (by simp only [Bool.or_eq_false_iff] at h; exact h.2), hok.2⟩ (fun f h1 _ => (h1 _ rfl).trans (hun 15 (by kernel_rfl))))
                  | 11, ho, hd, hD, hK, hK0, hun =>
                    have e := (congrArg Oper.op (Option.some.inj ho)).symm
                    obtain rfl := Option.some.inj ho
                    exact wp_val (op_move a' w' 16 _ e) (hK _ _ (Below.refl _ _) ⟨fun h => hok.1 (by simp only [Bool.or_eq_false_iff] at h; exact h.2), hok.2⟩ (fun f h1 _ => (h1 _ rfl).trans (hun 16 (by kernel_rfl))))
                  | 12, ho, hd, hD, hK, hK0, hun =>
                    have e := (congrArg Oper.op (Option.some.inj ho)).symm
                    obtain rfl := Option.some.inj ho
                    exact wp_val (op_min a' w' _ _ 120 121 (hD 10 (by kernel_rfl)) (hD 11 (by kernel_rfl)) _ e) (hK _ _ (Below.refl _ _) ⟨fun h => hok.1 (by simp only [Bool.or_eq_false_iff] at h; exact h.2), hok.2⟩ (fun f h1 _ => h1 _ rfl))
                  | 13, ho, hd, hD, hK, hK0, hun =>
                    have e := (congrArg Oper.op (Option.some.inj ho)).symm
                    obtain rfl := Option.some.inj ho
                    exact wp_val (op_build_and3 a' w' _ _ _ 116 119 122 (hD 6 (by kernel_rfl)) (hD 9 (by kernel_rfl)) (hD 12 (by kernel_rfl)) _ e) (hK _ _ (Below.refl _ _) ⟨fun h => hok.1 (by simp only [Bool.or_eq_false_iff] at h; exact h.2), hok.2⟩ (fun f h1 _ => h1 _ rfl))
                  | 14, ho, hd, hD, hK, hK0, hun =>
                    have e := (congrArg Oper.op (Option.some.inj ho)).symm
                    obtain rfl := Option.some.inj ho
                    have q := op_index_and_at a' w' gl' 0 c.ands.length s'.ka j 111 112 (hD 1 (by kernel_rfl)) (hD 2 (by kernel_rfl)) HJ.out _ e
                    rw [Nat.zero_add] at q
                    exact wp_val q (hK _ _ (Below.refl _ _) ⟨fun h => hok.1 (by simp only [Bool.or_eq_false_iff] at h; exact h.2), hok.2⟩ (fun f h1 _ => h1 _ rfl))
                  | 15, ho, hd, hD, hK, hK0, hun =>
                    have e := (congrArg Oper.op (Option.some.inj ho)).symm
                    obtain rfl := Option.some.inj ho
                    have hb17 := hok.1 (hd 15 (by kernel_rfl))
                    obtain ⟨w'', hr, hgc2, hbut⟩ := op_store_and_at a' w' gl' (j * 3) cur _ ((hb17.block gl' (lt_of_block GL.out)).trans GL.out) HCS.out _ _ _ 124 123 (hD 14 (by kernel_rfl)) (hD 13 (by kernel_rfl)) _ e
                    exact wp_skip' hr (hK0 _ _ ⟨fun h => by simp at h, hok.2.trans (save_but hbut)⟩ (fun f _ _ => hgc2) (fun j f hj hf hq => oput_stab j (fun e2 => absurd e2 hj) hf hq))
                  | i + 16, ho, _, _, _, _, _ => exact absurd ho (by simp)
                · intro a' w3' hsz hdf hkt hok hR
                  have HF3 := frame_sets [110, 111, 112, 113, 114, 115, 116, 117, 118, 119, 120, 121, 122, 123, 124] (by kernel_rfl) hsz hkt
                  obtain ⟨d, hok⟩ := hok
                  have h17 : w3'.heap[gl']? = some (.cells (((cur.setIfInBounds (j * 3) (.int .i64 (ren c t.a))).setIfInBounds (j * 3 + 1) (.int .i64 (max (ren c t.b) (ren c t.c)))).setIfInBounds (j * 3 + 2) (.int .i64 (min (ren c t.b) (ren c t.c)))) 43 (0, 0)) := hR 15 (by decide)
                  have OZ : Hid (Or w2.heap.size w3.heap.size w2 c s' (one (0 < 4) c c.ins) (one (1 < 4) c c.outs) (one (2 < 4) c c.bads) (one (3 < 4) c c.invs) (c.lats.map (renLat c)) (upto (renAnd c) c.ands (j + 1)) w3') := by
                    refine ORT.out.andsTo GL.out HNG.out hok.2 ?_
                    have h1 := ORT.out.a
                    rw [HAA.out, ← HUL.out] at h1
                    have h2 := put_tri h1 j HL.out (renAnd c t) GL.out (by rw [HUL.out]; exact HSZ.out) h17
                    rw [HU.out, HUL.out, ← HAA.out] at h2
                    exact h2
                  clear h17 hok
                  obtain ⟨tm, df⟩ := a'
                  obtain rfl : df = _ := hdf
                  simp only [List.foldl_cons, List.foldl_nil] at HF3
                  clear hkt hR hsz
                  generalize tm.getD 110 undef = y110 at HF3
                  generalize tm.getD 111 undef = y111 at HF3
                  generalize tm.getD 112 undef = y112 at HF3
                  generalize tm.getD 113 undef = y113 at HF3
                  generalize tm.getD 114 undef = y114 at HF3
                  generalize tm.getD 115 undef = y115 at HF3
                  generalize tm.getD 116 undef = y116 at HF3
                  generalize tm.getD 117 undef = y117 at HF3
                  generalize tm.getD 118 undef = y118 at HF3
                  generalize tm.getD 119 undef = y119 at HF3
                  generalize tm.getD 120 undef = y120 at HF3
                  generalize tm.getD 121 undef = y121 at HF3
                  generalize tm.getD 122 undef = y122 at HF3
                  generalize tm.getD 123 undef = y123 at HF3
                  generalize tm.getD 124 undef = y124 at HF3
                  simp only [List.setIfInBounds_toArray, List.set_cons_succ, List.set_cons_zero] at HF3
                  subst HF3
                  clear KA KD GL ORT RC HG HNG HAA HU HL HUL HCS HSZ OR
                  go_wp2
                  go_roundw
                  case rel => exact ⟨j + 1, by omega, by go_num, OZ.out⟩
                  case measure => simp [intOf]; omega
            · obtain rfl : j = c.ands.length := by omega
              rw [upto_all] at OR
              have b1 : w.heap.size + 1 < w2.heap.size := by have := S2.out; omega
              obtain ⟨d0, d1, d2, d3, d4, d5, d6, d7⟩ : wr.cell? ⟨w3.heap.size, 0, none⟩ = some (.int .i64 ((c.ins.length : Int) + c.lats.length + c.ands.length)) ∧ wr.cell? ⟨w3.heap.size, 1, none⟩ = some (.slice s'.ai c.ins.length s'.ki) ∧ wr.cell? ⟨w3.heap.size, 2, none⟩ = some (.slice s'.al c.lats.length s'.kl) ∧ wr.cell? ⟨w3.heap.size, 3, none⟩ = some (.slice s'.ao c.outs.length s'.ko) ∧ wr.cell? ⟨w3.heap.size, 4, none⟩ = some (.slice s'.ab c.bads.length s'.kb) ∧ wr.cell? ⟨w3.heap.size, 5, none⟩ = some (.slice s'.ac c.invs.length s'.kc) ∧ wr.cell? ⟨w3.heap.size, 6, none⟩ = some (.slice s'.aa c.ands.length s'.ka) ∧ wr.cell? ⟨w3.heap.size, 7, none⟩ = some (.slice s'.an c.names.length s'.kn) := by
                have hx := Lib.cell_of_heap OR.out.x
                exact ⟨hx 0, hx 1, hx 2, hx 3, hx 4, hx 5, hx 6, hx 7⟩
              obtain ⟨X1, X2, X3, X4, X5, X6, X7, X8, v0, v1, v2, v3, v4, v5, v6, v7, ⟨hX1, a0, b0⟩, ⟨hX2, a1, b1'⟩, ⟨hX3, a2, b2⟩, ⟨hX4, a3, b3⟩, ⟨hX5, a4, b4⟩, ⟨hX6, a5, b5⟩, ⟨hX7, a6, b6⟩, ⟨hX8, a7, b7⟩, E8, FC⟩ := Cw.store8 (RR.out wr OR.out.b) rfl (.int .i64 ((c.ins.length : Int) + c.lats.length + c.ands.length)) (.slice s'.ai c.ins.length s'.ki) (.slice s'.al c.lats.length s'.kl) (.slice s'.ao c.outs.length s'.ko) (.slice s'.ab c.bads.length s'.kb) (.slice s'.ac c.invs.length s'.kc) (.slice s'.aa c.ands.length s'.ka) (.slice s'.an c.names.length s'.kn)
              have BX : Hid (Below w.heap.size w X8) := FC.below (B2.out.trans (OR.out.b.mono (by omega))) (by omega)
              have kp : ∀ {e m v xs}, OwnC wr w2.heap.size e m v xs → OwnC X8 w.heap.size e m v xs := fun h => (h.keep_at fun k hk _ => FC.b k (by omega)).base (by omega)
              have OX : Hid (Owned X8 w.heap.size (orderM c) s') := by
                have h := OR.out
                refine ⟨?_, ?_, ?_, ?_, ?_, ?_, kp h.n⟩
                · have := kp h.i
                  unfold orderM; simp only [List.length_map]; exact this
                · have := kp h.l
                  unfold orderM; simp only [List.length_map]; exact this
                · have := kp h.o
                  unfold orderM; simp only [List.length_map]; exact this
                · have := kp h.d
                  unfold orderM; simp only [List.length_map]; exact this
                · have := kp h.v
                  unfold orderM; simp only [List.length_map]; exact this
                · have := kp h.a
                  unfold orderM; simp only [List.length_map]; exact this
              obtain ⟨r0, r1, r2, r3, r4, r5, r6, r7⟩ : X8.cell? ⟨w.heap.size + 1, 0, none⟩ = some (.int .i64 ((c.ins.length : Int) + c.lats.length + c.ands.length)) ∧ X8.cell? ⟨w.heap.size + 1, 1, none⟩ = some (.slice s'.ai c.ins.length s'.ki) ∧ X8.cell? ⟨w.heap.size + 1, 2, none⟩ = some (.slice s'.al c.lats.length s'.kl) ∧ X8.cell? ⟨w.heap.size + 1, 3, none⟩ = some (.slice s'.ao c.outs.length s'.ko) ∧ X8.cell? ⟨w.heap.size + 1, 4, none⟩ = some (.slice s'.ab c.bads.length s'.kb) ∧ X8.cell? ⟨w.heap.size + 1, 5, none⟩ = some (.slice s'.ac c.invs.length s'.kc) ∧ X8.cell? ⟨w.heap.size + 1, 6, none⟩ = some (.slice s'.aa c.ands.length s'.ka) ∧ X8.cell? ⟨w.heap.size + 1, 7, none⟩ = some (.slice s'.an c.names.length s'.kn) := by
                have hx := Lib.cell_of_heap E8
                exact ⟨hx 0, hx 1, hx 2, hx 3, hx 4, hx 5, hx 6, hx 7⟩
              have HBO : Hid (cirC (orderM c) s' = boxC c s') := by unfold Hid orderM cirC boxC; simp only [List.length_map]
              clear OR E8 FC kp b1
              go_wp2
              (try simp only [Exit.inBlock, Exit.then])
              have hres : ∀ tmps : Array Value, tmps.getD 2 undef = .pointer (some ⟨w.heap.size + 1, 0, none⟩) → tmps.getD 3 undef = .int .i64 0 → (results Tryd.f8 tmps).run Tryd.prog X8 = .ok (.tuple #[.agg (boxC c s'), .int .i64 0]) X8 := fun tmps ht ht3 => by
                simp only [results, show Tryd.f8.results = #[ResultVar.cell 2 27, ResultVar.slot 3] from rfl]
                have ht' : tmps[2]?.getD undef = .pointer (some ⟨w.heap.size + 1, 0, none⟩) := by simpa using ht
                have ht3' : tmps[3]?.getD undef = .int .i64 0 := by simpa using ht3
                unfold boxC
                go_simp
              refine bodyPost_ret (hres _ rfl rfl) rfl ?_
              exact ⟨⟨s', by rw [HBO.out], OX.out⟩, BX.out⟩
end Go.Proofs.YtopjddmgejfalaaDoor.Aig
