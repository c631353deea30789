/- The walk of aag's reading of a latch's line; no condition. -/
import Derived.Test.YtpbggngeopjefaaDoorPk21
import Derived.Test.YtpbggngeopjefaaDoorPk22
namespace Go.Proofs.YtpbggngeopjefaaDoor.Aag
open Go.ChangeShapes Go.WideShapes Go.ChangeAt Go.RowKit Dig Circ Cw

theorem word_fit {L : List (List UInt8)} (h : ∀ l ∈ L, l.length ≤ 65536) (a k : Nat) : ((wordsL (L.getD a [])).getD k []).length ≤ 4194304 := by
  have h1 := getD_fit h a
  obtain ⟨_, h2⟩ := words_len (L.getD a [])
  rw [List.getD_eq_getElem?_getD]
  cases hq : (wordsL (L.getD a []))[k]? with
  | none => simp
  | some y =>
    have h3 := elem_le (wordsL (L.getD a [])) k (List.getElem?_eq_some_iff.1 hq).1
    rw [(List.getElem?_eq_some_iff.1 hq).2] at h3
    simp only [Option.getD_some]; omega

theorem op_ne0 (a : Act) (w : World) (x : Int) (t : Nat) (h : a.tmps.getD t undef = .int .i64 x) (oo : Oper) (ho : oo.op = .binOp .neq 3 (.tmp t) (.const (.int .i64 0)) 3) : (execOp a.eval oo).run Tryd.prog w = .ok (.value (.bool (!(x == 0)))) w := by
  have h' : a.tmps[t]?.getD undef = .int .i64 x := by simpa using h
  unfold execOp
  rw [ho]
  go_simp
  rfl
theorem op_build_lat (a : Act) (w : World) (x y : Int) (i j : Nat) (h1 : a.tmps.getD i undef = .int .i64 x) (h2 : a.tmps.getD j undef = .int .i64 y) (oo : Oper) (ho : oo.op = .build 41 #[(0, .tmp i), (1, .tmp j)]) : (execOp a.eval oo).run Tryd.prog w = .ok (.value (.agg #[.int .i64 x, .int .i64 y, .int .i64 0])) w := by
  have h1' : a.tmps[i]?.getD undef = .int .i64 x := by simpa using h1
  have h2' : a.tmps[j]?.getD undef = .int .i64 y := by simpa using h2
  unfold execOp
  rw [ho]
  go_simp
theorem op_alloc_lat (a : Act) (w : World) (o : Oper) (ho : o.op = .alloc 41) : (execOp a.eval o).run Tryd.prog w = .ok (.value (.pointer (some ⟨w.heap.size, 0, none⟩))) (w.alloc (.cells #[.int .i64 0, .int .i64 0, .int .i64 0] 41)) := by
  unfold execOp
  rw [ho]
  go_simp
theorem op_store_lat (a : Act) (w : World) (g : Nat) (z : Array Value) (hg : w.heap[g]? = some (.cells z 41 (0, 0))) (hz : z.size = 3) (x y c : Int) (p s : Nat) (hp : a.tmps.getD p undef = .pointer (some ⟨g, 0, none⟩)) (hs : a.tmps.getD s undef = .agg #[.int .i64 x, .int .i64 y, .int .i64 c]) (o : Oper) (ho : o.op = .store 41 (.tmp p) (.tmp s)) : ∃ w', (execOp a.eval o).run Tryd.prog w = .ok .skip w' ∧ w'.heap[g]? = some (.cells #[.int .i64 x, .int .i64 y, .int .i64 c] 41 (0, 0)) ∧ But g w w' := by
  obtain ⟨Z1, Z2, Z3, u0, u1, u2, ⟨hS1, p0, t0⟩, ⟨hS2, p1, t1⟩, ⟨hS3, p2, t2⟩, E3, FF⟩ := store3 hg hz (.int .i64 x) (.int .i64 y) (.int .i64 c)
  refine ⟨Z3, ?_, E3, FF⟩
  unfold execOp
  rw [ho]
  have hp' : a.tmps[p]?.getD undef = .pointer (some ⟨g, 0, none⟩) := by simpa using hp
  have hs' : a.tmps[s]?.getD undef = .agg #[.int .i64 x, .int .i64 y, .int .i64 c] := by simpa using hs
  clear hp hs hg hz E3 FF
  go_simp
theorem op_store_int (a : Act) (w : World) (g k : Nat) (z : Array Value) (E : TypeId) (hg : w.heap[g]? = some (.cells z E (0, 0))) (hk : k < z.size) (x : Int) (p s : Nat) (hp : a.tmps.getD p undef = .pointer (some ⟨g, k, none⟩)) (hs : a.tmps.getD s undef = .int .i64 x) (o : Oper) (ho : o.op = .store 3 (.tmp p) (.tmp s)) : ∃ w', (execOp a.eval o).run Tryd.prog w = .ok .skip w' ∧ w'.heap[g]? = some (.cells (z.setIfInBounds k (.int .i64 x)) E (0, 0)) ∧ But g w w' := by
  obtain ⟨Z, u, ⟨hS1, p0, t0⟩, E3, FF⟩ := step_set w z k (.int .i64 x) hg hk
  refine ⟨Z, ?_, E3, FF⟩
  unfold execOp
  rw [ho]
  have hp' : a.tmps[p]?.getD undef = .pointer (some ⟨g, k, none⟩) := by simpa using hp
  have hs' : a.tmps[s]?.getD undef = .int .i64 x := by simpa using hs
  clear hp hs hg hk E3 FF
  go_simp
theorem op_index_Lstring (a : Act) (w : World) (b o n q k : Nat) (t : Nat) (h : a.tmps.getD t undef = .slice (some ⟨b, o, none⟩) n q) (hk : k < n) (oo : Oper) (ho : oo.op = .indexAddr 92 (.tmp t) (.const (.int .i64 (k : Int)))) : (execOp a.eval oo).run Tryd.prog w = .ok (.value (.pointer (some ⟨b, o + k, none⟩))) w := by
  have h' : a.tmps[t]?.getD undef = .slice (some ⟨b, o, none⟩) n q := by simpa using h
  unfold execOp
  rw [ho]
  have h0 : (0 : Int) ≤ k := by omega
  have h1 : (k : Int) < n := by omega
  go_simp
theorem op_load_string (a : Act) (w : World) (A : Addr) (t : Nat) (v : Value) (h : a.tmps.getD t undef = .pointer (some A)) (hc : w.cell? A = some v) (oo : Oper) (ho : oo.op = .load 9 (.tmp t)) : (execOp a.eval oo).run Tryd.prog w = .ok (.value v) w := by
  have h' : a.tmps[t]?.getD undef = .pointer (some A) := by simpa using h
  unfold execOp
  rw [ho]
  go_simp
/-- what operation j of the region leaves -/
def lat2R (T : TypeId) (W : World) (R b o n q' : Nat) (y0 y1 : List UInt8) : Nat → (Nat → Value) → World → Prop
  | 0, f, _ => f 10 = .pointer (some ⟨R, 0, none⟩)
  | 1, f, _ => f 11 = .pointer (some ⟨R, 0, none⟩)
  | 2, f, _ => f 12 = .pointer (some ⟨R, 0, none⟩)
  | 3, f, _ => f 13 = .slice (some ⟨b, o, none⟩) n q'
  | 4, f, _ => f 14 = .pointer (some ⟨b, o + 0, none⟩)
  | 5, f, _ => f 15 = sv y0
  | 6, f, _ => f 16 = .int .i64 (numV y0) ∧ numOk y0 = true
  | 7, f, _ => f 17 = .pointer (some ⟨R, 0, none⟩)
  | 8, f, _ => f 18 = .pointer (some ⟨R, 0, none⟩)
  | 9, f, _ => f 19 = .pointer (some ⟨R, 0, none⟩)
  | 10, f, _ => f 20 = .slice (some ⟨b, o, none⟩) n q'
  | 11, f, _ => f 21 = .pointer (some ⟨b, o + 1, none⟩)
  | 12, f, _ => f 22 = sv y1
  | 13, f, _ => f 23 = .int .i64 (numV y1) ∧ numOk y1 = true
  | 14, f, _ => f 24 = .agg #[.int .i64 (numV y0), .int .i64 (numV y1), .int .i64 0]
  | 15, f, w => ∃ g, f 4 = .pointer (some ⟨g, 0, none⟩) ∧ W.heap.size ≤ g ∧ ∃ z : Array Value, w.heap[g]? = some (.cells z T (0, 0)) ∧ z.size = 3
  | 16, f, w => ∃ g, f 4 = .pointer (some ⟨g, 0, none⟩) ∧ W.heap.size ≤ g ∧ w.heap[g]? = some (.cells #[.int .i64 (numV y0), .int .i64 (numV y1), .int .i64 0] T (0, 0))
  | _, _, _ => True
def lat2M : Nat → List Nat
  | 0 => [10]
  | 1 => [11]
  | 2 => [12]
  | 3 => [13]
  | 4 => [14]
  | 5 => [15]
  | 6 => [16]
  | 7 => [17]
  | 8 => [18]
  | 9 => [19]
  | 10 => [20]
  | 11 => [21]
  | 12 => [22]
  | 13 => [23]
  | 14 => [24]
  | 15 => [4]
  | 16 => [4]
  | _ => []
theorem lat2_stab {T : TypeId} {W : World} {R b o n q' : Nat} {y0 y1 : List UInt8} (j : Nat) {f f' : Nat → Value} {w w' : World} (h15 : j = 15 → Below w.heap.size w w') (h16 : j = 16 → Below w.heap.size w w') (hf : ∀ t ∈ lat2M j, f' t = f t) (h : lat2R T W R b o n q' y0 y1 j f w) : lat2R T W R b o n q' y0 y1 j f' w' := by
  match j, hf, h, h15, h16 with
  | 0, hf, h, _, _ => exact (hf 10 (by decide)).trans h
  | 1, hf, h, _, _ => exact (hf 11 (by decide)).trans h
  | 2, hf, h, _, _ => exact (hf 12 (by decide)).trans h
  | 3, hf, h, _, _ => exact (hf 13 (by decide)).trans h
  | 4, hf, h, _, _ => exact (hf 14 (by decide)).trans h
  | 5, hf, h, _, _ => exact (hf 15 (by decide)).trans h
  | 6, hf, h, h15, h16 =>
    exact ⟨(hf 16 (by decide)).trans h.1, h.2⟩
  | 7, hf, h, _, _ => exact (hf 17 (by decide)).trans h
  | 8, hf, h, _, _ => exact (hf 18 (by decide)).trans h
  | 9, hf, h, _, _ => exact (hf 19 (by decide)).trans h
  | 10, hf, h, _, _ => exact (hf 20 (by decide)).trans h
  | 11, hf, h, _, _ => exact (hf 21 (by decide)).trans h
  | 12, hf, h, _, _ => exact (hf 22 (by decide)).trans h
  | 13, hf, h, h15, h16 =>
    exact ⟨(hf 23 (by decide)).trans h.1, h.2⟩
  | 14, hf, h, _, _ => exact (hf 24 (by decide)).trans h
  | 15, hf, h, h15, h16 =>
    obtain ⟨g, h1, h2, z, h3, h4⟩ := h
    exact ⟨g, (hf 4 (by decide)).trans h1, h2, z, ((h15 rfl).block g (lt_of_block h3)).trans h3, h4⟩
  | 16, hf, h, h15, h16 =>
    obtain ⟨g, h1, h2, h3⟩ := h
    exact ⟨g, (hf 4 (by decide)).trans h1, h2, ((h16 rfl).block g (lt_of_block h3)).trans h3⟩
  | _ + 17, _, _, _, _ => trivial
theorem op_field_api_Latch_2 (a : Act) (w : World) (b : Nat) (t : Nat) (h : a.tmps.getD t undef = .pointer (some ⟨b, 0, none⟩)) (oo : Oper) (ho : oo.op = .fieldAddr 41 (.tmp t) 2) : (execOp a.eval oo).run Tryd.prog w = .ok (.value (.pointer (some ⟨b, 2, none⟩))) w := by
  have h' : a.tmps[t]?.getD undef = .pointer (some ⟨b, 0, none⟩) := by simpa using h
  unfold execOp
  rw [ho]
  go_simp
/-- what operation j of the region leaves -/
def lat4R (T : TypeId) (R b o n q' g : Nat) (x y : Int) (y2 : List UInt8) : Nat → (Nat → Value) → World → Prop
  | 0, f, _ => f 28 = .pointer (some ⟨R, 0, none⟩)
  | 1, f, _ => f 29 = .pointer (some ⟨R, 0, none⟩)
  | 2, f, _ => f 30 = .pointer (some ⟨R, 0, none⟩)
  | 3, f, _ => f 31 = .slice (some ⟨b, o, none⟩) n q'
  | 4, f, _ => f 32 = .pointer (some ⟨b, o + 2, none⟩)
  | 5, f, _ => f 33 = sv y2
  | 6, f, _ => f 34 = .int .i64 (numV y2) ∧ numOk y2 = true
  | 7, f, _ => f 35 = .pointer (some ⟨g, 2, none⟩)
  | 8, _, w => w.heap[g]? = some (.cells #[.int .i64 x, .int .i64 y, .int .i64 (numV y2)] T (0, 0))
  | _, _, _ => True
def lat4M : Nat → List Nat
  | 0 => [28]
  | 1 => [29]
  | 2 => [30]
  | 3 => [31]
  | 4 => [32]
  | 5 => [33]
  | 6 => [34]
  | 7 => [35]
  | 8 => []
  | _ => []
theorem lat4_stab {T : TypeId} {R b o n q' g : Nat} {x y : Int} {y2 : List UInt8} (j : Nat) {f f' : Nat → Value} {w w' : World} (h8 : j = 8 → Below w.heap.size w w') (hf : ∀ t ∈ lat4M j, f' t = f t) (h : lat4R T R b o n q' g x y y2 j f w) : lat4R T R b o n q' g x y y2 j f' w' := by
  match j, hf, h, h8 with
  | 0, hf, h, _ => exact (hf 28 (by decide)).trans h
  | 1, hf, h, _ => exact (hf 29 (by decide)).trans h
  | 2, hf, h, _ => exact (hf 30 (by decide)).trans h
  | 3, hf, h, _ => exact (hf 31 (by decide)).trans h
  | 4, hf, h, _ => exact (hf 32 (by decide)).trans h
  | 5, hf, h, _ => exact (hf 33 (by decide)).trans h
  | 6, hf, h, h8 =>
    exact ⟨(hf 34 (by decide)).trans h.1, h.2⟩
  | 7, hf, h, _ => exact (hf 35 (by decide)).trans h
  | 8, hf, h, h8 =>
    exact ((h8 rfl).block g (lt_of_block h)).trans h
  | _ + 9, _, _, _ => trivial
/-- what operation j of the region leaves -/
def lat5R (R g : Nat) (nv : Int) : Nat → (Nat → Value) → World → Prop
  | 0, f, _ => f 36 = .pointer (some ⟨R, 0, none⟩)
  | 1, f, _ => f 37 = .pointer (some ⟨R, 0, none⟩)
  | 2, f, _ => f 38 = .pointer (some ⟨R, 0, none⟩)
  | 3, f, _ => f 39 = .pointer (some ⟨g, 2, none⟩)
  | 4, f, _ => f 40 = .int .i64 nv
  | 5, f, _ => f 41 = .bool (!(nv == 0))
  | 6, _, _ => (!(nv == 0)) = true
  | _, _, _ => True
def lat5M : Nat → List Nat
  | 0 => [36]
  | 1 => [37]
  | 2 => [38]
  | 3 => [39]
  | 4 => [40]
  | 5 => [41]
  | 6 => []
  | _ => []
theorem lat5_stab {R g : Nat} {nv : Int} (j : Nat) {f f' : Nat → Value} {w w' : World}  (hf : ∀ t ∈ lat5M j, f' t = f t) (h : lat5R R g nv j f w) : lat5R R g nv j f' w' := by
  match j, hf, h with
  | 0, hf, h => exact (hf 36 (by decide)).trans h
  | 1, hf, h => exact (hf 37 (by decide)).trans h
  | 2, hf, h => exact (hf 38 (by decide)).trans h
  | 3, hf, h => exact (hf 39 (by decide)).trans h
  | 4, hf, h => exact (hf 40 (by decide)).trans h
  | 5, hf, h => exact (hf 41 (by decide)).trans h
  | 6, hf, h =>
    exact h
  | _ + 7, _, _ => trivial

theorem lat_counts {l : List UInt8} (h : wordsOk [2, 3] l = true) : (wordsL l).length = 2 ∨ (wordsL l).length = 3 := by
  unfold wordsOk at h
  simp only [Bool.and_eq_true, List.contains_cons, List.contains_nil, Bool.or_false, Bool.or_eq_true, beq_iff_eq] at h
  exact h.1
theorem formLat_no {l : List UInt8} (h : wordsOk [2, 3] l = false) : formLat l = none := by unfold formLat; rw [h]; rfl
theorem formLat_no0 {l : List UInt8} (h : numOk ((wordsL l).getD 0 []) = false) : formLat l = none := by unfold formLat; rw [h]; simp
theorem formLat_no1 {l : List UInt8} (h : numOk ((wordsL l).getD 1 []) = false) : formLat l = none := by unfold formLat; rw [h]; simp
theorem formLat_no2 {l : List UInt8} (h3 : (wordsL l).length = 3) (h : numOk ((wordsL l).getD 2 []) = false) : formLat l = none := by unfold formLat; rw [h3, h]; simp
theorem formLat_no3 {l : List UInt8} (h3 : (wordsL l).length = 3) (h : numV ((wordsL l).getD 2 []) = 0) : formLat l = none := by unfold formLat; rw [h3, h]; simp
theorem formLat_two {l : List UInt8} (h : wordsOk [2, 3] l = true) (h2 : (wordsL l).length = 2) (h0 : numOk ((wordsL l).getD 0 []) = true) (h1 : numOk ((wordsL l).getD 1 []) = true) : formLat l = some ⟨numV ((wordsL l).getD 0 []), numV ((wordsL l).getD 1 []), 0⟩ := by unfold formLat; rw [h, h2, h0, h1]; rfl
theorem formLat_three {l : List UInt8} (h : wordsOk [2, 3] l = true) (h2 : (wordsL l).length = 3) (h0 : numOk ((wordsL l).getD 0 []) = true) (h1 : numOk ((wordsL l).getD 1 []) = true) (h3 : numOk ((wordsL l).getD 2 []) = true) (h4 : numV ((wordsL l).getD 2 []) ≠ 0) : formLat l = some ⟨numV ((wordsL l).getD 0 []), numV ((wordsL l).getD 1 []), numV ((wordsL l).getD 2 [])⟩ := by unfold formLat; rw [h, h2, h0, h1, h3, decide_eq_true h4]; rfl
end Go.Proofs.YtpbggngeopjefaaDoor.Aag
