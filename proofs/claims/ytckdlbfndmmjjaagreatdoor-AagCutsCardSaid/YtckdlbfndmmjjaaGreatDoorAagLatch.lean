/- The walk of aag's reading of a latch's line; no condition. -/
import Derived.Test.YtckdlbfndmmjjaaGreatDoorAagHead
import Derived.Test.YtckdlbfndmmjjaaGreatDoorAagNameL
import Derived.Test.YtckdlbfndmmjjaaGreatDoorStore
namespace Go.Proofs.YtckdlbfndmmjjaaGreatDoor.Aag
open Go.ChangeShapes Go.WideShapes Go.ChangeAt Go.RowKit Dig Circ Cw

/-- how the reading of a word as a number ends -/
def NumE (a : Nat) (y : List UInt8) (w : World) (e : Ending) (w' : World) : Prop := Below w.heap.size w w' ∧ ((numOk y = true ∧ e = .returned (.int .i64 (numV y))) ∨ (numOk y = false ∧ e = .panicked (faultOf a eSyntax)))
theorem number_any {R : Nat} {A : Option Addr} {L : List (List UInt8)} {q wh a : Nat} (s : List UInt8) (w : World) (hS : Src R A L q wh a w) (hs : s.length ≤ 4194304) :
    Calls Tryz.prog 61 #[.pointer (some ⟨R, 0, none⟩), sv s] w (NumE a s w) := by
  cases h : numOk s
  · exact (number_fault s w hS hs h).mono fun e w' ⟨he, hb⟩ => ⟨hb, .inr ⟨h, he⟩⟩
  · exact (number_ok (R := R) s w hs h).mono fun e w' ⟨he, hb⟩ => ⟨hb, .inl ⟨h, he⟩⟩
theorem word_fit {L : List (List UInt8)} (h : ∀ l ∈ L, l.length ≤ 65536) (a k : Nat) : ((wordsL (L.getD a [])).getD k []).length ≤ 4194304 := by
  have h1 := getD_fit h a
  obtain ⟨_, h2⟩ := words_len (L.getD a [])
  rw [List.getD_eq_getElem?_getD]
  cases hq : (wordsL (L.getD a []))[k]? with
  | none => simp
  | some y =>
    have h3 := elem_le (wordsL (L.getD a [])) k (List.getElem?_eq_some_iff.1 hq).1
    rw [(List.getElem?_eq_some_iff.1 hq).2] at h3
    simp only [Option.getD_some]; omega

theorem need_any {R : Nat} {A : Option Addr} {L : List (List UInt8)} {q wh a : Nat} (b : Bool) (w : World) (hS : Src R A L q wh a w) :
    Calls Tryz.prog 60 #[.pointer (some ⟨R, 0, none⟩), .bool b] w fun e w' => Below w.heap.size w w' ∧ ((b = true ∧ e = .returned (.tuple #[])) ∨ (b = false ∧ e = .panicked (faultOf a eSyntax))) := by
  cases b
  · exact (need_fault w hS).mono fun e w' ⟨he, hb⟩ => ⟨hb, .inr ⟨rfl, he⟩⟩
  · exact (need_ok R w).mono fun e w' ⟨he, hb⟩ => ⟨hb ▸ Below.refl _ _, .inl ⟨rfl, he⟩⟩
theorem op_ne0 (a : Act) (w : World) (x : Int) (t : Nat) (h : a.tmps.getD t undef = .int .i64 x) (oo : Oper) (ho : oo.op = .binOp .neq 3 (.tmp t) (.const (.int .i64 0)) 3) : (execOp a.eval oo).run Tryz.prog w = .ok (.value (.bool (!(x == 0)))) w := by
  have h' : a.tmps[t]?.getD undef = .int .i64 x := by simpa using h
  unfold execOp
  rw [ho]
  go_simp
  rfl
theorem op_build_lat (a : Act) (w : World) (x y : Int) (i j : Nat) (h1 : a.tmps.getD i undef = .int .i64 x) (h2 : a.tmps.getD j undef = .int .i64 y) (oo : Oper) (ho : oo.op = .build 48 #[(0, .tmp i), (1, .tmp j)]) : (execOp a.eval oo).run Tryz.prog w = .ok (.value (.agg #[.int .i64 x, .int .i64 y, .int .i64 0])) w := by
  have h1' : a.tmps[i]?.getD undef = .int .i64 x := by simpa using h1
  have h2' : a.tmps[j]?.getD undef = .int .i64 y := by simpa using h2
  unfold execOp
  rw [ho]
  go_simp
theorem op_alloc_lat (a : Act) (w : World) (o : Oper) (ho : o.op = .alloc 48) : (execOp a.eval o).run Tryz.prog w = .ok (.value (.pointer (some ⟨w.heap.size, 0, none⟩))) (w.alloc (.cells #[.int .i64 0, .int .i64 0, .int .i64 0] 48)) := by
  unfold execOp
  rw [ho]
  go_simp
theorem op_store_lat (a : Act) (w : World) (g : Nat) (z : Array Value) (hg : w.heap[g]? = some (.cells z 48 (0, 0))) (hz : z.size = 3) (x y c : Int) (p s : Nat) (hp : a.tmps.getD p undef = .pointer (some ⟨g, 0, none⟩)) (hs : a.tmps.getD s undef = .agg #[.int .i64 x, .int .i64 y, .int .i64 c]) (o : Oper) (ho : o.op = .store 48 (.tmp p) (.tmp s)) : ∃ w', (execOp a.eval o).run Tryz.prog w = .ok .skip w' ∧ w'.heap[g]? = some (.cells #[.int .i64 x, .int .i64 y, .int .i64 c] 48 (0, 0)) ∧ But g w w' := by
  obtain ⟨Z1, Z2, Z3, u0, u1, u2, ⟨hS1, p0, t0⟩, ⟨hS2, p1, t1⟩, ⟨hS3, p2, t2⟩, E3, FF⟩ := store3 hg hz (.int .i64 x) (.int .i64 y) (.int .i64 c)
  refine ⟨Z3, ?_, E3, FF⟩
  unfold execOp
  rw [ho]
  have hp' : a.tmps[p]?.getD undef = .pointer (some ⟨g, 0, none⟩) := by simpa using hp
  have hs' : a.tmps[s]?.getD undef = .agg #[.int .i64 x, .int .i64 y, .int .i64 c] := by simpa using hs
  clear hp hs hg hz E3 FF
  go_simp
theorem op_store_int (a : Act) (w : World) (g k : Nat) (z : Array Value) (E : TypeId) (hg : w.heap[g]? = some (.cells z E (0, 0))) (hk : k < z.size) (x : Int) (p s : Nat) (hp : a.tmps.getD p undef = .pointer (some ⟨g, k, none⟩)) (hs : a.tmps.getD s undef = .int .i64 x) (o : Oper) (ho : o.op = .store 3 (.tmp p) (.tmp s)) : ∃ w', (execOp a.eval o).run Tryz.prog w = .ok .skip w' ∧ w'.heap[g]? = some (.cells (z.setIfInBounds k (.int .i64 x)) E (0, 0)) ∧ But g w w' := by
  obtain ⟨Z, u, ⟨hS1, p0, t0⟩, E3, FF⟩ := step_set w z k (.int .i64 x) hg hk
  refine ⟨Z, ?_, E3, FF⟩
  unfold execOp
  rw [ho]
  have hp' : a.tmps[p]?.getD undef = .pointer (some ⟨g, k, none⟩) := by simpa using hp
  have hs' : a.tmps[s]?.getD undef = .int .i64 x := by simpa using hs
  clear hp hs hg hk E3 FF
  go_simp
theorem op_field_aag_reader_0 (a : Act) (w : World) (b : Nat) (t : Nat) (h : a.tmps.getD t undef = .pointer (some ⟨b, 0, none⟩)) (oo : Oper) (ho : oo.op = .fieldAddr 66 (.tmp t) 0) : (execOp a.eval oo).run Tryz.prog w = .ok (.value (.pointer (some ⟨b, 0, none⟩))) w := by
  have h' : a.tmps[t]?.getD undef = .pointer (some ⟨b, 0, none⟩) := by simpa using h
  unfold execOp
  rw [ho]
  go_simp
theorem op_index_Lstring (a : Act) (w : World) (b o n q k : Nat) (t : Nat) (h : a.tmps.getD t undef = .slice (some ⟨b, o, none⟩) n q) (hk : k < n) (oo : Oper) (ho : oo.op = .indexAddr 53 (.tmp t) (.const (.int .i64 (k : Int)))) : (execOp a.eval oo).run Tryz.prog w = .ok (.value (.pointer (some ⟨b, o + k, none⟩))) w := by
  have h' : a.tmps[t]?.getD undef = .slice (some ⟨b, o, none⟩) n q := by simpa using h
  unfold execOp
  rw [ho]
  have h0 : (0 : Int) ≤ k := by omega
  have h1 : (k : Int) < n := by omega
  go_simp
theorem op_load_string (a : Act) (w : World) (A : Addr) (t : Nat) (v : Value) (h : a.tmps.getD t undef = .pointer (some A)) (hc : w.cell? A = some v) (oo : Oper) (ho : oo.op = .load 9 (.tmp t)) : (execOp a.eval oo).run Tryz.prog w = .ok (.value v) w := by
  have h' : a.tmps[t]?.getD undef = .pointer (some A) := by simpa using h
  unfold execOp
  rw [ho]
  go_simp
/-- what operation j of the region leaves -/
def lat2R (T : TypeId) (W : World) (R b o n q' : Nat) (y0 y1 : List UInt8) : Nat → (Nat → Value) → World → Prop
  | 0, f, _ => f 10 = .pointer (some ⟨R, 0, none⟩)
  | 1, f, _ => f 11 = .pointer (some ⟨R, 0, none⟩)
  | 2, f, _ => f 12 = .pointer (some ⟨R, 0, none⟩)
  | 3, f, _ => f 13 = .slice (some ⟨b, o, none⟩) n q'
  | 4, f, _ => f 14 = .pointer (some ⟨b, o + 0, none⟩)
  | 5, f, _ => f 15 = sv y0
  | 6, f, _ => f 16 = .int .i64 (numV y0) ∧ numOk y0 = true
  | 7, f, _ => f 17 = .pointer (some ⟨R, 0, none⟩)
  | 8, f, _ => f 18 = .pointer (some ⟨R, 0, none⟩)
  | 9, f, _ => f 19 = .pointer (some ⟨R, 0, none⟩)
  | 10, f, _ => f 20 = .slice (some ⟨b, o, none⟩) n q'
  | 11, f, _ => f 21 = .pointer (some ⟨b, o + 1, none⟩)
  | 12, f, _ => f 22 = sv y1
  | 13, f, _ => f 23 = .int .i64 (numV y1) ∧ numOk y1 = true
  | 14, f, _ => f 24 = .agg #[.int .i64 (numV y0), .int .i64 (numV y1), .int .i64 0]
  | 15, f, w => ∃ g, f 4 = .pointer (some ⟨g, 0, none⟩) ∧ W.heap.size ≤ g ∧ ∃ z : Array Value, w.heap[g]? = some (.cells z T (0, 0)) ∧ z.size = 3
  | 16, f, w => ∃ g, f 4 = .pointer (some ⟨g, 0, none⟩) ∧ W.heap.size ≤ g ∧ w.heap[g]? = some (.cells #[.int .i64 (numV y0), .int .i64 (numV y1), .int .i64 0] T (0, 0))
  | _, _, _ => True
def lat2M : Nat → List Nat
  | 0 => [10]
  | 1 => [11]
  | 2 => [12]
  | 3 => [13]
  | 4 => [14]
  | 5 => [15]
  | 6 => [16]
  | 7 => [17]
  | 8 => [18]
  | 9 => [19]
  | 10 => [20]
  | 11 => [21]
  | 12 => [22]
  | 13 => [23]
  | 14 => [24]
  | 15 => [4]
  | 16 => [4]
  | _ => []
theorem lat2_stab {T : TypeId} {W : World} {R b o n q' : Nat} {y0 y1 : List UInt8} (j : Nat) {f f' : Nat → Value} {w w' : World} (h15 : j = 15 → Below w.heap.size w w') (h16 : j = 16 → Below w.heap.size w w') (hf : ∀ t ∈ lat2M j, f' t = f t) (h : lat2R T W R b o n q' y0 y1 j f w) : lat2R T W R b o n q' y0 y1 j f' w' := by
  match j, hf, h, h15, h16 with
  | 0, hf, h, _, _ => exact (hf 10 (by decide)).trans h
  | 1, hf, h, _, _ => exact (hf 11 (by decide)).trans h
  | 2, hf, h, _, _ => exact (hf 12 (by decide)).trans h
  | 3, hf, h, _, _ => exact (hf 13 (by decide)).trans h
  | 4, hf, h, _, _ => exact (hf 14 (by decide)).trans h
  | 5, hf, h, _, _ => exact (hf 15 (by decide)).trans h
  | 6, hf, h, h15, h16 =>
    exact ⟨(hf 16 (by decide)).trans h.1, h.2⟩
  | 7, hf, h, _, _ => exact (hf 17 (by decide)).trans h
  | 8, hf, h, _, _ => exact (hf 18 (by decide)).trans h
  | 9, hf, h, _, _ => exact (hf 19 (by decide)).trans h
  | 10, hf, h, _, _ => exact (hf 20 (by decide)).trans h
  | 11, hf, h, _, _ => exact (hf 21 (by decide)).trans h
  | 12, hf, h, _, _ => exact (hf 22 (by decide)).trans h
  | 13, hf, h, h15, h16 =>
    exact ⟨(hf 23 (by decide)).trans h.1, h.2⟩
  | 14, hf, h, _, _ => exact (hf 24 (by decide)).trans h
  | 15, hf, h, h15, h16 =>
    obtain ⟨g, h1, h2, z, h3, h4⟩ := h
    exact ⟨g, (hf 4 (by decide)).trans h1, h2, z, ((h15 rfl).block g (lt_of_block h3)).trans h3, h4⟩
  | 16, hf, h, h15, h16 =>
    obtain ⟨g, h1, h2, h3⟩ := h
    exact ⟨g, (hf 4 (by decide)).trans h1, h2, ((h16 rfl).block g (lt_of_block h3)).trans h3⟩
  | _ + 17, _, _, _, _ => trivial
theorem op_field_api_Latch_2 (a : Act) (w : World) (b : Nat) (t : Nat) (h : a.tmps.getD t undef = .pointer (some ⟨b, 0, none⟩)) (oo : Oper) (ho : oo.op = .fieldAddr 48 (.tmp t) 2) : (execOp a.eval oo).run Tryz.prog w = .ok (.value (.pointer (some ⟨b, 2, none⟩))) w := by
  have h' : a.tmps[t]?.getD undef = .pointer (some ⟨b, 0, none⟩) := by simpa using h
  unfold execOp
  rw [ho]
  go_simp
/-- what operation j of the region leaves -/
def lat4R (T : TypeId) (R b o n q' g : Nat) (x y : Int) (y2 : List UInt8) : Nat → (Nat → Value) → World → Prop
  | 0, f, _ => f 28 = .pointer (some ⟨R, 0, none⟩)
  | 1, f, _ => f 29 = .pointer (some ⟨R, 0, none⟩)
  | 2, f, _ => f 30 = .pointer (some ⟨R, 0, none⟩)
  | 3, f, _ => f 31 = .slice (some ⟨b, o, none⟩) n q'
  | 4, f, _ => f 32 = .pointer (some ⟨b, o + 2, none⟩)
  | 5, f, _ => f 33 = sv y2
  | 6, f, _ => f 34 = .int .i64 (numV y2) ∧ numOk y2 = true
  | 7, f, _ => f 35 = .pointer (some ⟨g, 2, none⟩)
  | 8, _, w => w.heap[g]? = some (.cells #[.int .i64 x, .int .i64 y, .int .i64 (numV y2)] T (0, 0))
  | _, _, _ => True
def lat4M : Nat → List Nat
  | 0 => [28]
  | 1 => [29]
  | 2 => [30]
  | 3 => [31]
  | 4 => [32]
  | 5 => [33]
  | 6 => [34]
  | 7 => [35]
  | 8 => []
  | _ => []
theorem lat4_stab {T : TypeId} {R b o n q' g : Nat} {x y : Int} {y2 : List UInt8} (j : Nat) {f f' : Nat → Value} {w w' : World} (h8 : j = 8 → Below w.heap.size w w') (hf : ∀ t ∈ lat4M j, f' t = f t) (h : lat4R T R b o n q' g x y y2 j f w) : lat4R T R b o n q' g x y y2 j f' w' := by
  match j, hf, h, h8 with
  | 0, hf, h, _ => exact (hf 28 (by decide)).trans h
  | 1, hf, h, _ => exact (hf 29 (by decide)).trans h
  | 2, hf, h, _ => exact (hf 30 (by decide)).trans h
  | 3, hf, h, _ => exact (hf 31 (by decide)).trans h
  | 4, hf, h, _ => exact (hf 32 (by decide)).trans h
  | 5, hf, h, _ => exact (hf 33 (by decide)).trans h
  | 6, hf, h, h8 =>
    exact ⟨(hf 34 (by decide)).trans h.1, h.2⟩
  | 7, hf, h, _ => exact (hf 35 (by decide)).trans h
  | 8, hf, h, h8 =>
    exact ((h8 rfl).block g (lt_of_block h)).trans h
  | _ + 9, _, _, _ => trivial
/-- what operation j of the region leaves -/
def lat5R (R g : Nat) (nv : Int) : Nat → (Nat → Value) → World → Prop
  | 0, f, _ => f 36 = .pointer (some ⟨R, 0, none⟩)
  | 1, f, _ => f 37 = .pointer (some ⟨R, 0, none⟩)
  | 2, f, _ => f 38 = .pointer (some ⟨R, 0, none⟩)
  | 3, f, _ => f 39 = .pointer (some ⟨g, 2, none⟩)
  | 4, f, _ => f 40 = .int .i64 nv
  | 5, f, _ => f 41 = .bool (!(nv == 0))
  | 6, _, _ => (!(nv == 0)) = true
  | _, _, _ => True
def lat5M : Nat → List Nat
  | 0 => [36]
  | 1 => [37]
  | 2 => [38]
  | 3 => [39]
  | 4 => [40]
  | 5 => [41]
  | 6 => []
  | _ => []
theorem lat5_stab {R g : Nat} {nv : Int} (j : Nat) {f f' : Nat → Value} {w w' : World}  (hf : ∀ t ∈ lat5M j, f' t = f t) (h : lat5R R g nv j f w) : lat5R R g nv j f' w' := by
  match j, hf, h with
  | 0, hf, h => exact (hf 36 (by decide)).trans h
  | 1, hf, h => exact (hf 37 (by decide)).trans h
  | 2, hf, h => exact (hf 38 (by decide)).trans h
  | 3, hf, h => exact (hf 39 (by decide)).trans h
  | 4, hf, h => exact (hf 40 (by decide)).trans h
  | 5, hf, h => exact (hf 41 (by decide)).trans h
  | 6, hf, h =>
    exact h
  | _ + 7, _, _ => trivial

def LatP (R : Nat) (A : Option Addr) (L : List (List UInt8)) (q wh a : Nat) (w : World) (t : Tri) (e : Ending) (w' : World) : Prop :=
  e = .returned (.agg #[.int .i64 t.a, .int .i64 t.b, .int .i64 t.c]) ∧ Src R A L q wh (a + 1) w' ∧ Ext R w w'
theorem lat_counts {l : List UInt8} (h : wordsOk [2, 3] l = true) : (wordsL l).length = 2 ∨ (wordsL l).length = 3 := by
  unfold wordsOk at h
  simp only [Bool.and_eq_true, List.contains_cons, List.contains_nil, Bool.or_false, Bool.or_eq_true, beq_iff_eq] at h
  exact h.1
theorem formLat_no {l : List UInt8} (h : wordsOk [2, 3] l = false) : formLat l = none := by unfold formLat; rw [h]; rfl
theorem formLat_no0 {l : List UInt8} (h : numOk ((wordsL l).getD 0 []) = false) : formLat l = none := by unfold formLat; rw [h]; simp
theorem formLat_no1 {l : List UInt8} (h : numOk ((wordsL l).getD 1 []) = false) : formLat l = none := by unfold formLat; rw [h]; simp
theorem formLat_no2 {l : List UInt8} (h3 : (wordsL l).length = 3) (h : numOk ((wordsL l).getD 2 []) = false) : formLat l = none := by unfold formLat; rw [h3, h]; simp
theorem formLat_no3 {l : List UInt8} (h3 : (wordsL l).length = 3) (h : numV ((wordsL l).getD 2 []) = 0) : formLat l = none := by unfold formLat; rw [h3, h]; simp
theorem formLat_two {l : List UInt8} (h : wordsOk [2, 3] l = true) (h2 : (wordsL l).length = 2) (h0 : numOk ((wordsL l).getD 0 []) = true) (h1 : numOk ((wordsL l).getD 1 []) = true) : formLat l = some ⟨numV ((wordsL l).getD 0 []), numV ((wordsL l).getD 1 []), 0⟩ := by unfold formLat; rw [h, h2, h0, h1]; rfl
theorem formLat_three {l : List UInt8} (h : wordsOk [2, 3] l = true) (h2 : (wordsL l).length = 3) (h0 : numOk ((wordsL l).getD 0 []) = true) (h1 : numOk ((wordsL l).getD 1 []) = true) (h3 : numOk ((wordsL l).getD 2 []) = true) (h4 : numV ((wordsL l).getD 2 []) ≠ 0) : formLat l = some ⟨numV ((wordsL l).getD 0 []), numV ((wordsL l).getD 1 []), numV ((wordsL l).getD 2 [])⟩ := by unfold formLat; rw [h, h2, h0, h1, h3, decide_eq_true h4]; rfl
set_option maxRecDepth 100000 in
theorem latch_stop (R : Nat) (p : List PanicEntry) (w : World)
    (hW : Calls Tryz.prog 59 #[.pointer (some ⟨R, 0, none⟩), .slice (some ⟨w.heap.size + 1, 0, none⟩) 2 2] ((w.alloc (.cells #[.int .i64 0, .int .i64 0, .int .i64 0] 48)).alloc (.cells #[.int .i64 2, .int .i64 3] 3)) fun e w' => e = .panicked p ∧ Below w.heap.size w w') :
    Calls Tryz.prog 64 #[.pointer (some ⟨R, 0, none⟩)] w fun e w' => e = .panicked p ∧ Below w.heap.size w w' := by
  have HW := Lib.hid hW
  clear hW
  go_enter Tryz.func64, Tryz.ntmps64
  go_wp2_with fail
  refine HW.out.mono ?_
  rintro e w1 ⟨rfl, hb⟩
  exact ⟨rfl, rfl, hb⟩
set_option maxHeartbeats 4000000 in
set_option maxRecDepth 100000 in
theorem latch_run {R : Nat} {A : Option Addr} {L : List (List UInt8)} {q wh a : Nat} (w : World) (h : Src R A L q wh a w) :
    Calls Tryz.prog 64 #[.pointer (some ⟨R, 0, none⟩)] w (Runs R w (readAt L wh formLat a) (LatP R A L q wh a w)) := by
  have hb1 : Below w.heap.size w (w.alloc (.cells #[.int .i64 0, .int .i64 0, .int .i64 0] 48)) := (Below.refl _ _).alloc (Nat.le_refl _) _
  have hs1 : (w.alloc (.cells #[.int .i64 0, .int .i64 0, .int .i64 0] 48)).heap.size = w.heap.size + 1 := by simp
  have hb2 : Below w.heap.size w ((w.alloc (.cells #[.int .i64 0, .int .i64 0, .int .i64 0] 48)).alloc (.cells #[.int .i64 2, .int .i64 3] 3)) := hb1.alloc hb1.size _
  have hs2 : ((w.alloc (.cells #[.int .i64 0, .int .i64 0, .int .i64 0] 48)).alloc (.cells #[.int .i64 2, .int .i64 3] 3)).heap.size = w.heap.size + 2 := by simp
  have hrow : LRow ((w.alloc (.cells #[.int .i64 0, .int .i64 0, .int .i64 0] 48)).alloc (.cells #[.int .i64 2, .int .i64 3] 3)) (w.heap.size + 2) 1 (some ⟨w.heap.size + 1, 0, none⟩) (ints ([2, 3].map fun x : Nat => (x : Int))) := by
    have := ints_row (w.alloc (.cells #[.int .i64 0, .int .i64 0, .int .i64 0] 48)) [2, 3] #[.int .i64 2, .int .i64 3] 3 rfl
    rw [hs1] at this
    exact this
  by_cases ha : wh ≤ a
  · exact (latch_stop R _ w ((words_short _ _ (h.below hb2) ha).mono fun e w' ⟨he, hb⟩ => ⟨he, hb2.trans (hb.mono hb2.size)⟩)).mono fun e w' ⟨he, hb⟩ => runs_error (readAt_short ha) ⟨he, Ext.of hb⟩
  have ha : a < wh := by omega
  cases hw : wordsOk [2, 3] (L.getD a [])
  · exact (latch_stop R _ w ((words_fault [2, 3] _ 2 _ _ (h.below hb2) ha hrow (by rw [hs2]; exact Nat.le_refl _) (by simp) hw).mono fun e w' ⟨he, hb⟩ => ⟨he, hb2.trans (hb.mono hb2.size)⟩)).mono fun e w' ⟨he, hb⟩ => runs_error (readAt_none ha (formLat_no hw)) ⟨he, Ext.of hb⟩
  have WO := Lib.hid (words_ok [2, 3] _ 2 _ _ (h.below hb2) ha hrow (by rw [hs2]; exact Nat.le_refl _) (by simp) hw)
  have H := Lib.hid h
  have HWO := Lib.hid hw
  have HWF := Lib.hid (word_fit h.fit a)
  have HRW : Hid (R < w.heap.size) := h.lt
  have HLC := Lib.hid (lat_counts hw)
  have FA0 : Hid (numOk ((wordsL (L.getD a [])).getD 0 []) = false → ∀ x, Below w.heap.size w x → Runs R w (readAt L wh formLat a) (LatP R A L q wh a w) (.panicked (faultOf a eSyntax)) x) := fun hy x hb => runs_error (readAt_none ha (formLat_no0 hy)) ⟨rfl, Ext.of hb⟩
  have FA1 : Hid (numOk ((wordsL (L.getD a [])).getD 1 []) = false → ∀ x, Below w.heap.size w x → Runs R w (readAt L wh formLat a) (LatP R A L q wh a w) (.panicked (faultOf a eSyntax)) x) := fun hy x hb => runs_error (readAt_none ha (formLat_no1 hy)) ⟨rfl, Ext.of hb⟩
  have FA2 : Hid ((wordsL (L.getD a [])).length = 3 → numOk ((wordsL (L.getD a [])).getD 2 []) = false → ∀ x, Below w.heap.size w x → Runs R w (readAt L wh formLat a) (LatP R A L q wh a w) (.panicked (faultOf a eSyntax)) x) := fun h3 hy x hb => runs_error (readAt_none ha (formLat_no2 h3 hy)) ⟨rfl, Ext.of hb⟩
  have FA3 : Hid ((wordsL (L.getD a [])).length = 3 → numV ((wordsL (L.getD a [])).getD 2 []) = 0 → ∀ x, Below w.heap.size w x → Runs R w (readAt L wh formLat a) (LatP R A L q wh a w) (.panicked (faultOf a eSyntax)) x) := fun h3 hy x hb => runs_error (readAt_none ha (formLat_no3 h3 hy)) ⟨rfl, Ext.of hb⟩
  have OK2 : Hid ((wordsL (L.getD a [])).length = 2 → numOk ((wordsL (L.getD a [])).getD 0 []) = true → numOk ((wordsL (L.getD a [])).getD 1 []) = true → readAt L wh formLat a = .ok ⟨numV ((wordsL (L.getD a [])).getD 0 []), numV ((wordsL (L.getD a [])).getD 1 []), 0⟩) := fun h2 h0 h1 => readAt_some ha (formLat_two hw h2 h0 h1)
  have OK3 : Hid ((wordsL (L.getD a [])).length = 3 → numOk ((wordsL (L.getD a [])).getD 0 []) = true → numOk ((wordsL (L.getD a [])).getD 1 []) = true → numOk ((wordsL (L.getD a [])).getD 2 []) = true → numV ((wordsL (L.getD a [])).getD 2 []) ≠ 0 → readAt L wh formLat a = .ok ⟨numV ((wordsL (L.getD a [])).getD 0 []), numV ((wordsL (L.getD a [])).getD 1 []), numV ((wordsL (L.getD a [])).getD 2 [])⟩) := fun h2 h0 h1 h3 h4 => readAt_some ha (formLat_three hw h2 h0 h1 h3 h4)
  have EN : Hid (∀ args w, (callFunc 61 args).run Tryz.prog w = .ok (.enter 61 args) w) := enters_of Tryz.func61 (by kernel_rfl) rfl
  have HB2 := Lib.hid hb2
  have KZ0 : Hid (∀ x, Below (w.heap.size + 2) ((w.alloc (.cells #[.int .i64 0, .int .i64 0, .int .i64 0] 48)).alloc (.cells #[.int .i64 2, .int .i64 3] 3)) x → x.heap[w.heap.size]? = some (.cells #[.int .i64 0, .int .i64 0, .int .i64 0] 48 (0, 0))) := fun x hb => by
    rw [hb.block _ (by omega), Below.heap_alloc _ _ _ (by rw [hs1]; omega)]; exact Array.getElem?_push_size
  have HS2 := Lib.hid hs2
  clear h hw hb1 hb2 hs1 hs2 hrow
  obtain ⟨goal, hgoal⟩ : ∃ g, g = readAt L wh formLat a := ⟨_, rfl⟩
  rw [← hgoal] at FA0 FA1 FA2 FA3 OK2 OK3 ⊢
  clear hgoal HWO
  obtain ⟨ws, hws⟩ : ∃ ws, ws = wordsL (L.getD a []) := ⟨_, rfl⟩
  rw [← hws] at FA0 FA1 FA2 FA3 OK2 OK3 WO HWF HLC
  clear hws
  go_enter Tryz.func64, Tryz.ntmps64
  go_wp2_with fail
  refine WO.out.mono ?_
  rintro e w2 ⟨A1, q1, rfl, hr, hb⟩
  have B2 : Hid (Below w.heap.size w w2) := HB2.out.trans (hb.mono HB2.out.size)
  have KZ : Hid (∀ x, Below w2.heap.size w2 x → x.heap[w.heap.size]? = some (.cells #[.int .i64 0, .int .i64 0, .int .i64 0] 48 (0, 0))) := fun x hx => KZ0.out x ((hb.mono (by rw [HS2.out]; exact Nat.le_refl _)).trans (hx.mono (by have := hb.size; rw [HS2.out] at this; exact this)))
  have hl2 : 2 ≤ ws.length := by have := HLC.out; omega
  obtain ⟨b, o, hA1, hc0⟩ := reads_cellD hr 0 (by omega)
  obtain ⟨b1, o1, e1, hc1⟩ := reads_cellD hr 1 (by omega)
  rw [hA1] at e1
  injection e1 with e1; injection e1 with e1 e1'; subst e1; subst e1'
  subst hA1
  have HBB : Hid (b < w2.heap.size) := by
    rcases hr with h0 | ⟨g, off, hv, hg, _⟩
    · rw [h0] at hl2; simp at hl2
    · injection hv with hv; injection hv with hv _; subst hv; exact hg
  have HC0 : Hid (∀ x, Below w2.heap.size w2 x → x.cell? ⟨b, o + 0, none⟩ = some (sv (ws.getD 0 []))) := fun x hx => (hx.cell HBB.out).trans hc0
  have HC1 : Hid (∀ x, Below w2.heap.size w2 x → x.cell? ⟨b, o + 1, none⟩ = some (sv (ws.getD 1 []))) := fun x hx => (hx.cell HBB.out).trans hc1
  have HR := Lib.hid hr
  have NM : Hid (∀ k x, Below w2.heap.size w2 x → Calls Tryz.prog 61 #[.pointer (some ⟨R, 0, none⟩), sv (ws.getD k [])] x (NumE a (ws.getD k []) x)) := fun k x hx => number_any _ x (H.out.below (B2.out.trans (hx.mono B2.out.size))) (HWF.out k)
  have NM0 := Lib.hid (NM.out 0)
  have NM1 := Lib.hid (NM.out 1)
  clear hr hb hc0 hc1 WO KZ0 HB2 HS2
  go_wp2
  refine wp_region_valsD (by kernel_rfl) (by kernel_rfl) lat2M (by kernel_rfl) (by kernel_rfl)
    (fun _ w' => Below w2.heap.size w2 w') (lat2R 48 w2 R b o ws.length q1 (ws.getD 0 []) (ws.getD 1 [])) (Below.refl _ _).drew (fun j f f' w w' hb hf h => lat2_stab j (fun _ => hb) (fun _ => hb) hf h) ?_ ?_
  · intro i oo d a' w' ho hd hun hdf hok hD K hK hK0
    match i, ho, hd, hD, hK, hK0, hun with
    | 0, ho, hd, hD, hK, hK0, hun =>
      have e := (congrArg Oper.op (Option.some.inj ho)).symm
      obtain rfl := Option.some.inj ho
      exact wp_val (op_move a' w' 0 _ e) (hK _ _ (Below.refl _ _) hok (fun f h1 _ => (h1 _ rfl).trans (hun 0 (by kernel_rfl))))
    | 1, ho, hd, hD, hK, hK0, hun =>
      have e := (congrArg Oper.op (Option.some.inj ho)).symm
      obtain rfl := Option.some.inj ho
      exact wp_val (op_nil a' w' _ 10 (hD 0 (by kernel_rfl)) _ e) (hK _ _ (Below.refl _ _) hok (fun f h1 _ => h1 _ rfl))
    | 2, ho, hd, hD, hK, hK0, hun =>
      have e := (congrArg Oper.op (Option.some.inj ho)).symm
      obtain rfl := Option.some.inj ho
      exact wp_val (op_field_aag_reader_0 a' w' _ 11 (hD 1 (by kernel_rfl)) _ e) (hK _ _ (Below.refl _ _) hok (fun f h1 _ => h1 _ rfl))
    | 3, ho, hd, hD, hK, hK0, hun =>
      have e := (congrArg Oper.op (Option.some.inj ho)).symm
      obtain rfl := Option.some.inj ho
      exact wp_val (op_move a' w' 3 _ e) (hK _ _ (Below.refl _ _) hok (fun f h1 _ => (h1 _ rfl).trans (hun 3 (by kernel_rfl))))
    | 4, ho, hd, hD, hK, hK0, hun =>
      have e := (congrArg Oper.op (Option.some.inj ho)).symm
      obtain rfl := Option.some.inj ho
      exact wp_val (op_index_Lstring a' w' _ _ _ _ 0 13 (hD 3 (by kernel_rfl)) (by first | decide | omega) _ e) (hK _ _ (Below.refl _ _) hok (fun f h1 _ => h1 _ rfl))
    | 5, ho, hd, hD, hK, hK0, hun =>
      have e := (congrArg Oper.op (Option.some.inj ho)).symm
      obtain rfl := Option.some.inj ho
      exact wp_val (op_load_string a' w' _ 14 _ (hD 4 (by kernel_rfl)) (HC0.out _ hok) _ e) (hK _ _ (Below.refl _ _) hok (fun f h1 _ => h1 _ rfl))
    | 6, ho, hd, hD, hK, hK0, hun =>
      have e := (congrArg Oper.op (Option.some.inj ho)).symm
      obtain rfl := Option.some.inj ho
      refine wp_enter (op_call2 a' w' _ 12 15 _ _ EN.out _ e) ?_
      rw [show a'.tmps.getD 12 undef = .pointer (some ⟨R, 0, none⟩) from hD 2 (by kernel_rfl), show a'.tmps.getD 15 undef = sv (ws.getD 0 []) from hD 5 (by kernel_rfl)]
      refine (NM0.out _ hok).mono ?_
      rintro e w'' ⟨hb, ⟨hy, rfl⟩ | ⟨hy, rfl⟩⟩
      · exact .inl ⟨_, rfl, hK _ _ hb (hok.trans (hb.mono hok.size)) (fun f h1 _ => ⟨h1 _ rfl, hy⟩)⟩
      · exact .inr ⟨_, rfl, hdf, FA0.out hy _ (B2.out.trans ((hok.trans (hb.mono hok.size)).mono B2.out.size))⟩
    | 7, ho, hd, hD, hK, hK0, hun =>
      have e := (congrArg Oper.op (Option.some.inj ho)).symm
      obtain rfl := Option.some.inj ho
      exact wp_val (op_move a' w' 0 _ e) (hK _ _ (Below.refl _ _) hok (fun f h1 _ => (h1 _ rfl).trans (hun 0 (by kernel_rfl))))
    | 8, ho, hd, hD, hK, hK0, hun =>
      have e := (congrArg Oper.op (Option.some.inj ho)).symm
      obtain rfl := Option.some.inj ho
      exact wp_val (op_nil a' w' _ 17 (hD 7 (by kernel_rfl)) _ e) (hK _ _ (Below.refl _ _) hok (fun f h1 _ => h1 _ rfl))
    | 9, ho, hd, hD, hK, hK0, hun =>
      have e := (congrArg Oper.op (Option.some.inj ho)).symm
      obtain rfl := Option.some.inj ho
      exact wp_val (op_field_aag_reader_0 a' w' _ 18 (hD 8 (by kernel_rfl)) _ e) (hK _ _ (Below.refl _ _) hok (fun f h1 _ => h1 _ rfl))
    | 10, ho, hd, hD, hK, hK0, hun =>
      have e := (congrArg Oper.op (Option.some.inj ho)).symm
      obtain rfl := Option.some.inj ho
      exact wp_val (op_move a' w' 3 _ e) (hK _ _ (Below.refl _ _) hok (fun f h1 _ => (h1 _ rfl).trans (hun 3 (by kernel_rfl))))
    | 11, ho, hd, hD, hK, hK0, hun =>
      have e := (congrArg Oper.op (Option.some.inj ho)).symm
      obtain rfl := Option.some.inj ho
      exact wp_val (op_index_Lstring a' w' _ _ _ _ 1 20 (hD 10 (by kernel_rfl)) (by first | decide | omega) _ e) (hK _ _ (Below.refl _ _) hok (fun f h1 _ => h1 _ rfl))
    | 12, ho, hd, hD, hK, hK0, hun =>
      have e := (congrArg Oper.op (Option.some.inj ho)).symm
      obtain rfl := Option.some.inj ho
      exact wp_val (op_load_string a' w' _ 21 _ (hD 11 (by kernel_rfl)) (HC1.out _ hok) _ e) (hK _ _ (Below.refl _ _) hok (fun f h1 _ => h1 _ rfl))
    | 13, ho, hd, hD, hK, hK0, hun =>
      have e := (congrArg Oper.op (Option.some.inj ho)).symm
      obtain rfl := Option.some.inj ho
      refine wp_enter (op_call2 a' w' _ 19 22 _ _ EN.out _ e) ?_
      rw [show a'.tmps.getD 19 undef = .pointer (some ⟨R, 0, none⟩) from hD 9 (by kernel_rfl), show a'.tmps.getD 22 undef = sv (ws.getD 1 []) from hD 12 (by kernel_rfl)]
      refine (NM1.out _ hok).mono ?_
      rintro e w'' ⟨hb, ⟨hy, rfl⟩ | ⟨hy, rfl⟩⟩
      · exact .inl ⟨_, rfl, hK _ _ hb (hok.trans (hb.mono hok.size)) (fun f h1 _ => ⟨h1 _ rfl, hy⟩)⟩
      · exact .inr ⟨_, rfl, hdf, FA1.out hy _ (B2.out.trans ((hok.trans (hb.mono hok.size)).mono B2.out.size))⟩
    | 14, ho, hd, hD, hK, hK0, hun =>
      have e := (congrArg Oper.op (Option.some.inj ho)).symm
      obtain rfl := Option.some.inj ho
      exact wp_val (op_build_lat a' w' _ _ 16 23 (hD 6 (by kernel_rfl)).1 (hD 13 (by kernel_rfl)).1 _ e) (hK _ _ (Below.refl _ _) hok (fun f h1 _ => h1 _ rfl))
    | 15, ho, hd, hD, hK, hK0, hun =>
      have e := (congrArg Oper.op (Option.some.inj ho)).symm
      obtain rfl := Option.some.inj ho
      exact wp_val (op_alloc_lat a' w' _ e) (hK _ _ ((Below.refl _ _).alloc (Nat.le_refl _) _) (hok.alloc hok.size _) (fun f h1 _ => ⟨w'.heap.size, h1 _ rfl, hok.size, _, Array.getElem?_push_size, rfl⟩))
    | 16, ho, hd, hD, hK, hK0, hun =>
      have e := (congrArg Oper.op (Option.some.inj ho)).symm
      obtain rfl := Option.some.inj ho
      obtain ⟨g, h4, hg, z, hgc, hz⟩ : ∃ g, vals a' 4 = .pointer (some ⟨g, 0, none⟩) ∧ w2.heap.size ≤ g ∧ ∃ z : Array Value, w'.heap[g]? = some (.cells z 48 (0, 0)) ∧ z.size = 3 := hD 15 (by kernel_rfl)
      obtain ⟨w'', hr, hgc2, hbut⟩ := op_store_lat a' w' g z hgc hz _ _ _ 4 24 h4 (hD 14 (by kernel_rfl)) _ e
      refine wp_skip' hr (hK0 _ _ (hbut.below hok hg) (fun f h1 h2 => ⟨g, (h2 4 (by decide)).trans h4, hg, hgc2⟩) (fun j f hj hf hq => ?_))
      by_cases h15 : j = 15
      · subst h15
        obtain ⟨g', h4', _, z', hgc', hz'⟩ := hq
        have e3 := h4'.symm.trans h4
        simp only [Value.pointer.injEq, Option.some.injEq, Addr.mk.injEq, and_true] at e3
        subst e3
        exact ⟨g', (hf 4 (by decide)).trans h4', hg, _, hgc2, rfl⟩
      · exact lat2_stab j (fun e2 => absurd e2 h15) (fun e2 => absurd e2 hj) hf hq
    | i + 17, ho, _, _, _, _, _ => exact absurd ho (by simp)
  · intro a' w3 hsz hdf hkt hok hR
    have HF3 := frame_sets [4, 10, 11, 12, 13, 14, 15, 16, 17, 18, 19, 20, 21, 22, 23, 24] (by kernel_rfl) hsz hkt
    obtain ⟨d, hok⟩ := hok
    obtain ⟨g, h4, hg, hgc⟩ : ∃ g, vals a' 4 = .pointer (some ⟨g, 0, none⟩) ∧ w2.heap.size ≤ g ∧ w3.heap[g]? = some (.cells #[.int .i64 (numV (ws.getD 0 [])), .int .i64 (numV (ws.getD 1 [])), .int .i64 0] 48 (0, 0)) := hR 16 (by decide)
    have N0 := Lib.hid (hR 6 (by decide) : _ ∧ numOk (ws.getD 0 []) = true).2
    have N1 := Lib.hid (hR 13 (by decide) : _ ∧ numOk (ws.getD 1 []) = true).2
    obtain ⟨tm, df⟩ := a'
    obtain rfl : df = [] := hdf
    simp only [List.foldl_cons, List.foldl_nil] at HF3
    clear hkt hR hsz
    replace h4 : tm.getD 4 undef = _ := h4
    rw [h4] at HF3
    clear h4
    generalize tm.getD 10 undef = y10 at HF3
    generalize tm.getD 11 undef = y11 at HF3
    generalize tm.getD 12 undef = y12 at HF3
    generalize tm.getD 13 undef = y13 at HF3
    generalize tm.getD 14 undef = y14 at HF3
    generalize tm.getD 15 undef = y15 at HF3
    generalize tm.getD 16 undef = y16 at HF3
    generalize tm.getD 17 undef = y17 at HF3
    generalize tm.getD 18 undef = y18 at HF3
    generalize tm.getD 19 undef = y19 at HF3
    generalize tm.getD 20 undef = y20 at HF3
    generalize tm.getD 21 undef = y21 at HF3
    generalize tm.getD 22 undef = y22 at HF3
    generalize tm.getD 23 undef = y23 at HF3
    generalize tm.getD 24 undef = y24 at HF3
    simp only [List.setIfInBounds_toArray, List.set_cons_succ, List.set_cons_zero] at HF3
    subst HF3
    have GC := Lib.hid hgc
    have HG4 := Lib.hid hg
    have B3 := Lib.hid hok
    clear hgc hg hok NM0 NM1 HC0 HC1
    rcases HLC.out with h2 | h3
    · have h23 : ((ws.length : Int) == 3) = false := by rw [h2]; rfl
      have BZ9 : Hid (Below w2.heap.size w2 w3) := B3.out
      have B9 : Hid (Below w.heap.size w w3) := B2.out.trans (B3.out.mono B2.out.size)
      have GC9 := Lib.hid GC.out
      have OKG : Hid (goal = .ok ⟨numV (ws.getD 0 []), numV (ws.getD 1 []), 0⟩) := (OK2.out h2 N0.out N1.out)
      clear FA0 FA1 OK2 N0 N1
      generalize numV (ws.getD 0 []) = nx at *
      generalize numV (ws.getD 1 []) = ny at *
      have TK := Lib.hid (take_any w3 (H.out.below B9.out) ha)
      have CZ : Hid (w3.heap[w.heap.size]? = some (.cells #[.int .i64 0, .int .i64 0, .int .i64 0] 48 (0, 0))) := KZ.out _ BZ9.out
      go_wp2_with fail
      refine TK.out.mono ?_
      rintro e w8 ⟨rfl, hS, hE⟩
      have gne : g ≠ R := by have := HRW.out; have := B2.out.size; have := HG4.out; omega
      have G8 : w8.heap[g]? = some (.cells #[.int .i64 nx, .int .i64 ny, .int .i64 0] 48 (0, 0)) := (hE.block g (lt_of_block GC9.out) gne).trans GC9.out
      have Z8 : w8.heap[w.heap.size]? = some (.cells #[.int .i64 0, .int .i64 0, .int .i64 0] 48 (0, 0)) := (hE.block _ (lt_of_block CZ.out) (by have := HRW.out; omega)).trans CZ.out
      have c0 : w8.cell? ⟨g, 0, none⟩ = some (.int .i64 nx) := by simp [World.cell?, G8]
      have c1 : w8.cell? ⟨g, 1, none⟩ = some (.int .i64 ny) := by simp [World.cell?, G8]
      have c2 : w8.cell? ⟨g, 2, none⟩ = some (.int .i64 0) := by simp [World.cell?, G8]
      obtain ⟨Z1, Z2, Z3, u0, u1, u2, ⟨hS1, p0, t0⟩, ⟨hS2, p1, t1⟩, ⟨hS3, p2, t2⟩, E3, FF⟩ := store3 Z8 rfl (.int .i64 nx) (.int .i64 ny) (.int .i64 0)
      have r0 : Z3.cell? ⟨w.heap.size, 0, none⟩ = some (.int .i64 nx) := by simp [World.cell?, E3]
      have r1 : Z3.cell? ⟨w.heap.size, 1, none⟩ = some (.int .i64 ny) := by simp [World.cell?, E3]
      have r2 : Z3.cell? ⟨w.heap.size, 2, none⟩ = some (.int .i64 0) := by simp [World.cell?, E3]
      have HB : Below w.heap.size w8 Z3 := FF.below (Below.refl _ _) (Nat.le_refl _)
      have SF : Hid (Src R A L q wh (a + 1) Z3) := H.out.later hS ((Ext.of B9.out).trans hE) HB
      have EF : Hid (Ext R w Z3) := ((Ext.of B9.out).trans hE).then HB
      clear hS hE G8 Z8 E3 FF HB
      go_wp2
      (try simp only [Exit.inBlock, Exit.then])
      have hres : ∀ tmps : Array Value, tmps.getD 2 undef = .pointer (some ⟨w.heap.size, 0, none⟩) → (results Tryz.f64 tmps).run Tryz.prog Z3 = .ok (.agg #[.int .i64 nx, .int .i64 ny, .int .i64 0]) Z3 := fun tmps ht => by
        simp only [results, show Tryz.f64.results = #[ResultVar.cell 2 48] from rfl]
        have ht' : tmps[2]?.getD undef = .pointer (some ⟨w.heap.size, 0, none⟩) := by simpa using ht
        go_simp
      refine bodyPost_ret (hres _ rfl) rfl ?_
      exact runs_ok OKG.out ⟨rfl, SF.out, EF.out⟩
    · have h23 : ((ws.length : Int) == 3) = true := by rw [h3]; rfl
      have H3 := Lib.hid h3
      have hl3 : 3 ≤ ws.length := by omega
      obtain ⟨b2, o2, e2, hc2⟩ := reads_cellD HR.out 2 (by omega)
      injection e2 with e2; injection e2 with e2 e2'; subst e2; subst e2'
      have HC2 : Hid (∀ x, Below w3.heap.size w3 x → x.cell? ⟨b, o + 2, none⟩ = some (sv (ws.getD 2 []))) := fun x hx => by
        have hbx := B3.out.trans (hx.mono B3.out.size)
        exact (hbx.cell HBB.out).trans hc2
      have NM2 : Hid (∀ x, Below w3.heap.size w3 x → Calls Tryz.prog 61 #[.pointer (some ⟨R, 0, none⟩), sv (ws.getD 2 [])] x (NumE a (ws.getD 2 []) x)) := fun x hx => NM.out 2 x (B3.out.trans (hx.mono B3.out.size))
      have FA2' := Lib.hid (FA2.out H3.out)
      have FA3' := Lib.hid (FA3.out H3.out)
      have OK3' := Lib.hid (OK3.out H3.out N0.out N1.out)
      clear hc2 FA2 FA3 OK3 NM h3
      obtain ⟨FA2, hq2⟩ : ∃ X : Hid (numOk (ws.getD 2 []) = false → ∀ x, Below w.heap.size w x → Runs R w goal (LatP R A L q wh a w) (.panicked (faultOf a eSyntax)) x), X = FA2' := ⟨_, rfl⟩
      clear hq2
      go_wp2
      refine wp_region_valsD (by kernel_rfl) (by kernel_rfl) lat4M (by kernel_rfl) (by kernel_rfl)
        (fun d w' => (d 8 = false → Below w3.heap.size w3 w') ∧ Below w2.heap.size w3 w') (lat4R 48 R b o ws.length q1 g (numV (ws.getD 0 [])) (numV (ws.getD 1 [])) (ws.getD 2 [])) ⟨fun _ => (Below.refl _ _).drew, (Below.refl _ _).drew⟩ (fun j f f' w w' hb hf h => lat4_stab j (fun _ => hb) hf h) ?_ ?_
      · intro i oo d a' w' ho hd hun hdf hok hD K hK hK0
        match i, ho, hd, hD, hK, hK0, hun with
        | 0, ho, hd, hD, hK, hK0, hun =>
          have e := (congrArg Oper.op (Option.some.inj ho)).symm
          obtain rfl := Option.some.inj ho
          exact wp_val (op_move a' w' 0 _ e) (hK _ _ (Below.refl _ _) ⟨fun h => hok.1 (by simp only [Bool.or_eq_false_iff] at h; exact h.2), hok.2⟩ (fun f h1 _ => (h1 _ rfl).trans (hun 0 (by kernel_rfl))))
        | 1, ho, hd, hD, hK, hK0, hun =>
          have e := (congrArg Oper.op (Option.some.inj ho)).symm
          obtain rfl := Option.some.inj ho
          exact wp_val (op_nil a' w' _ 28 (hD 0 (by kernel_rfl)) _ e) (hK _ _ (Below.refl _ _) ⟨fun h => hok.1 (by simp only [Bool.or_eq_false_iff] at h; exact h.2), hok.2⟩ (fun f h1 _ => h1 _ rfl))
        | 2, ho, hd, hD, hK, hK0, hun =>
          have e := (congrArg Oper.op (Option.some.inj ho)).symm
          obtain rfl := Option.some.inj ho
          exact wp_val (op_field_aag_reader_0 a' w' _ 29 (hD 1 (by kernel_rfl)) _ e) (hK _ _ (Below.refl _ _) ⟨fun h => hok.1 (by simp only [Bool.or_eq_false_iff] at h; exact h.2), hok.2⟩ (fun f h1 _ => h1 _ rfl))
        | 3, ho, hd, hD, hK, hK0, hun =>
          have e := (congrArg Oper.op (Option.some.inj ho)).symm
          obtain rfl := Option.some.inj ho
          exact wp_val (op_move a' w' 3 _ e) (hK _ _ (Below.refl _ _) ⟨fun h => hok.1 (by simp only [Bool.or_eq_false_iff] at h; exact h.2), hok.2⟩ (fun f h1 _ => (h1 _ rfl).trans (hun 3 (by kernel_rfl))))
        | 4, ho, hd, hD, hK, hK0, hun =>
          have e := (congrArg Oper.op (Option.some.inj ho)).symm
          obtain rfl := Option.some.inj ho
          exact wp_val (op_index_Lstring a' w' _ _ _ _ 2 31 (hD 3 (by kernel_rfl)) (by first | decide | omega) _ e) (hK _ _ (Below.refl _ _) ⟨fun h => hok.1 (by simp only [Bool.or_eq_false_iff] at h; exact h.2), hok.2⟩ (fun f h1 _ => h1 _ rfl))
        | 5, ho, hd, hD, hK, hK0, hun =>
          have e := (congrArg Oper.op (Option.some.inj ho)).symm
          obtain rfl := Option.some.inj ho
          exact wp_val (op_load_string a' w' _ 32 _ (hD 4 (by kernel_rfl)) (HC2.out _ (hok.1 (hd 8 (by kernel_rfl)))) _ e) (hK _ _ (Below.refl _ _) ⟨fun h => hok.1 (by simp only [Bool.or_eq_false_iff] at h; exact h.2), hok.2⟩ (fun f h1 _ => h1 _ rfl))
        | 6, ho, hd, hD, hK, hK0, hun =>
          have e := (congrArg Oper.op (Option.some.inj ho)).symm
          obtain rfl := Option.some.inj ho
          have hb8 := hok.1 (hd 8 (by kernel_rfl))
          refine wp_enter (op_call2 a' w' _ 30 33 _ _ EN.out _ e) ?_
          rw [show a'.tmps.getD 30 undef = .pointer (some ⟨R, 0, none⟩) from hD 2 (by kernel_rfl), show a'.tmps.getD 33 undef = sv (ws.getD 2 []) from hD 5 (by kernel_rfl)]
          refine (NM2.out _ hb8).mono ?_
          rintro e w'' ⟨hb, ⟨hy, rfl⟩ | ⟨hy, rfl⟩⟩
          · exact .inl ⟨_, rfl, hK _ _ hb ⟨fun _ => hb8.trans (hb.mono hb8.size), hok.2.trans (hb.mono (Nat.le_trans B3.out.size hb8.size))⟩ (fun f h1 _ => ⟨h1 _ rfl, hy⟩)⟩
          · exact .inr ⟨_, rfl, hdf, FA2.out hy _ ((B2.out.trans (B3.out.mono B2.out.size)).trans ((hb8.trans (hb.mono hb8.size)).mono (Nat.le_trans B2.out.size B3.out.size)))⟩
        | 7, ho, hd, hD, hK, hK0, hun =>
          have e := (congrArg Oper.op (Option.some.inj ho)).symm
          obtain rfl := Option.some.inj ho
          exact wp_val (op_field_api_Latch_2 a' w' _ 4 (hun 4 (by kernel_rfl)) _ e) (hK _ _ (Below.refl _ _) ⟨fun h => hok.1 (by simp only [Bool.or_eq_false_iff] at h; exact h.2), hok.2⟩ (fun f h1 _ => h1 _ rfl))
        | 8, ho, hd, hD, hK, hK0, hun =>
          have e := (congrArg Oper.op (Option.some.inj ho)).symm
          obtain rfl := Option.some.inj ho
          have hb8 := hok.1 (hd 8 (by kernel_rfl))
          obtain ⟨w'', hr, hgc2, hbut⟩ := op_store_int a' w' g 2 _ _ ((hb8.block g (lt_of_block GC.out)).trans GC.out) (Nat.lt_succ_self 2) _ 35 34 (hD 7 (by kernel_rfl)) (hD 6 (by kernel_rfl)).1 _ e
          refine wp_skip' hr (hK0 _ _ ⟨fun h => by simp at h, hbut.below hok.2 HG4.out⟩ (fun f h1 h2 => hgc2) (fun j f hj hf hq => lat4_stab j (fun e2 => absurd e2 hj) hf hq))
        | i + 9, ho, _, _, _, _, _ => exact absurd ho (by simp)
      · intro a' w4 hsz hdf hkt hok hR
        have HF3 := frame_sets [28, 29, 30, 31, 32, 33, 34, 35] (by kernel_rfl) hsz hkt
        obtain ⟨d, hok⟩ := hok
        have GC9 : Hid (w4.heap[g]? = some (.cells #[.int .i64 (numV (ws.getD 0 [])), .int .i64 (numV (ws.getD 1 [])), .int .i64 (numV (ws.getD 2 []))] 48 (0, 0))) := hR 8 (by decide)
        have N2 := Lib.hid (hR 6 (by decide) : _ ∧ numOk (ws.getD 2 []) = true).2
        obtain ⟨tm, df⟩ := a'
        obtain rfl : df = [] := hdf
        simp only [List.foldl_cons, List.foldl_nil] at HF3
        clear hkt hR hsz
        generalize tm.getD 28 undef = y28 at HF3
        generalize tm.getD 29 undef = y29 at HF3
        generalize tm.getD 30 undef = y30 at HF3
        generalize tm.getD 31 undef = y31 at HF3
        generalize tm.getD 32 undef = y32 at HF3
        generalize tm.getD 33 undef = y33 at HF3
        generalize tm.getD 34 undef = y34 at HF3
        generalize tm.getD 35 undef = y35 at HF3
        simp only [List.setIfInBounds_toArray, List.set_cons_succ, List.set_cons_zero] at HF3
        subst HF3
        have BZ9 : Hid (Below w2.heap.size w2 w4) := B3.out.trans hok.2
        have B9 : Hid (Below w.heap.size w w4) := B2.out.trans (BZ9.out.mono B2.out.size)
        clear hok NM2 HC2
        have d2 : w4.cell? ⟨g, 2, none⟩ = some (.int .i64 (numV (ws.getD 2 []))) := by have := GC9.out; simp [World.cell?, this]
        have D2 : Hid (∀ x, Below w4.heap.size w4 x → x.cell? ⟨g, 2, none⟩ = some (.int .i64 (numV (ws.getD 2 [])))) := fun x hx => (hx.cell (lt_of_block GC9.out)).trans d2
        have ED : Hid (∀ args w, (callFunc 60 args).run Tryz.prog w = .ok (.enter 60 args) w) := enters_of Tryz.func60 (by kernel_rfl) rfl
        have OK3'' := Lib.hid (OK3'.out N2.out)
        clear d2 OK3' FA2'
        generalize hnv : numV (ws.getD 2 []) = nv at *
        clear hnv
        go_wp2
        refine wp_region_valsD (by kernel_rfl) (by kernel_rfl) lat5M (by kernel_rfl) (by kernel_rfl)
          (fun _ w' => Below w4.heap.size w4 w') (lat5R R g nv) (Below.refl _ _).drew (fun j f f' w w' hb hf h => lat5_stab j  hf h) ?_ ?_
        · intro i oo d a' w' ho hd hun hdf hok hD K hK hK0
          match i, ho, hd, hD, hK, hK0, hun with
          | 0, ho, hd, hD, hK, hK0, hun =>
            have e := (congrArg Oper.op (Option.some.inj ho)).symm
            obtain rfl := Option.some.inj ho
            exact wp_val (op_move a' w' 0 _ e) (hK _ _ (Below.refl _ _) hok (fun f h1 _ => (h1 _ rfl).trans (hun 0 (by kernel_rfl))))
          | 1, ho, hd, hD, hK, hK0, hun =>
            have e := (congrArg Oper.op (Option.some.inj ho)).symm
            obtain rfl := Option.some.inj ho
            exact wp_val (op_nil a' w' _ 36 (hD 0 (by kernel_rfl)) _ e) (hK _ _ (Below.refl _ _) hok (fun f h1 _ => h1 _ rfl))
          | 2, ho, hd, hD, hK, hK0, hun =>
            have e := (congrArg Oper.op (Option.some.inj ho)).symm
            obtain rfl := Option.some.inj ho
            exact wp_val (op_field_aag_reader_0 a' w' _ 37 (hD 1 (by kernel_rfl)) _ e) (hK _ _ (Below.refl _ _) hok (fun f h1 _ => h1 _ rfl))
          | 3, ho, hd, hD, hK, hK0, hun =>
            have e := (congrArg Oper.op (Option.some.inj ho)).symm
            obtain rfl := Option.some.inj ho
            exact wp_val (op_field_api_Latch_2 a' w' _ 4 (hun 4 (by kernel_rfl)) _ e) (hK _ _ (Below.refl _ _) hok (fun f h1 _ => h1 _ rfl))
          | 4, ho, hd, hD, hK, hK0, hun =>
            have e := (congrArg Oper.op (Option.some.inj ho)).symm
            obtain rfl := Option.some.inj ho
            exact wp_val (op_load_int a' w' _ 39 _ (hD 3 (by kernel_rfl)) (D2.out _ hok) _ e) (hK _ _ (Below.refl _ _) hok (fun f h1 _ => h1 _ rfl))
          | 5, ho, hd, hD, hK, hK0, hun =>
            have e := (congrArg Oper.op (Option.some.inj ho)).symm
            obtain rfl := Option.some.inj ho
            exact wp_val (op_ne0 a' w' _ 40 (hD 4 (by kernel_rfl)) _ e) (hK _ _ (Below.refl _ _) hok (fun f h1 _ => h1 _ rfl))
          | 6, ho, hd, hD, hK, hK0, hun =>
            have e := (congrArg Oper.op (Option.some.inj ho)).symm
            obtain rfl := Option.some.inj ho
            refine wp_enter (op_call2 a' w' _ 38 41 _ _ ED.out _ e) ?_
            rw [show a'.tmps.getD 38 undef = .pointer (some ⟨R, 0, none⟩) from hD 2 (by kernel_rfl), show a'.tmps.getD 41 undef = .bool (!(nv == 0)) from hD 5 (by kernel_rfl)]
            refine (need_any _ w' (H.out.below (B9.out.trans (hok.mono B9.out.size)))).mono ?_
            rintro e w'' ⟨hb, ⟨hy, rfl⟩ | ⟨hy, rfl⟩⟩
            · exact .inl ⟨_, rfl, hK _ _ hb (hok.trans (hb.mono hok.size)) (fun f h1 _ => hy)⟩
            · exact .inr ⟨_, rfl, hdf, FA3'.out (by simpa using hy) _ (B9.out.trans ((hok.trans (hb.mono hok.size)).mono B9.out.size))⟩
          | i + 7, ho, _, _, _, _, _ => exact absurd ho (by simp)
        · intro a' w5 hsz hdf hkt hok hR
          have HF3 := frame_sets [36, 37, 38, 39, 40, 41, 42] (by kernel_rfl) hsz hkt
          obtain ⟨d, hok⟩ := hok
          have hnz : (!(nv == 0)) = true := hR 6 (by decide)
          obtain ⟨tm, df⟩ := a'
          obtain rfl : df = [] := hdf
          simp only [List.foldl_cons, List.foldl_nil] at HF3
          clear hkt hR hsz
          generalize tm.getD 36 undef = y36 at HF3
          generalize tm.getD 37 undef = y37 at HF3
          generalize tm.getD 38 undef = y38 at HF3
          generalize tm.getD 39 undef = y39 at HF3
          generalize tm.getD 40 undef = y40 at HF3
          generalize tm.getD 41 undef = y41 at HF3
          generalize tm.getD 42 undef = y42 at HF3
          simp only [List.setIfInBounds_toArray, List.set_cons_succ, List.set_cons_zero] at HF3
          subst HF3
          have hz : nv ≠ 0 := by simpa using hnz
          have OKF := Lib.hid (OK3''.out hz)
          clear hz hnz D2
          have BZ9' : Hid (Below w2.heap.size w2 w5) := BZ9.out.trans (hok.mono BZ9.out.size)
          have B9' : Hid (Below w.heap.size w w5) := B9.out.trans (hok.mono B9.out.size)
          have GC9' : Hid (w5.heap[g]? = _) := (hok.block g (lt_of_block GC9.out)).trans GC9.out
          clear hok
          have OKG : Hid (goal = .ok ⟨numV (ws.getD 0 []), numV (ws.getD 1 []), nv⟩) := OKF.out
          clear FA0 FA1 OK2 N0 N1
          generalize numV (ws.getD 0 []) = nx at *
          generalize numV (ws.getD 1 []) = ny at *
          have TK := Lib.hid (take_any w5 (H.out.below B9'.out) ha)
          have CZ : Hid (w5.heap[w.heap.size]? = some (.cells #[.int .i64 0, .int .i64 0, .int .i64 0] 48 (0, 0))) := KZ.out _ BZ9'.out
          go_wp2_with fail
          refine TK.out.mono ?_
          rintro e w8 ⟨rfl, hS, hE⟩
          have gne : g ≠ R := by have := HRW.out; have := B2.out.size; have := HG4.out; omega
          have G8 : w8.heap[g]? = some (.cells #[.int .i64 nx, .int .i64 ny, .int .i64 nv] 48 (0, 0)) := (hE.block g (lt_of_block GC9'.out) gne).trans GC9'.out
          have Z8 : w8.heap[w.heap.size]? = some (.cells #[.int .i64 0, .int .i64 0, .int .i64 0] 48 (0, 0)) := (hE.block _ (lt_of_block CZ.out) (by have := HRW.out; omega)).trans CZ.out
          have c0 : w8.cell? ⟨g, 0, none⟩ = some (.int .i64 nx) := by simp [World.cell?, G8]
          have c1 : w8.cell? ⟨g, 1, none⟩ = some (.int .i64 ny) := by simp [World.cell?, G8]
          have c2 : w8.cell? ⟨g, 2, none⟩ = some (.int .i64 nv) := by simp [World.cell?, G8]
          obtain ⟨Z1, Z2, Z3, u0, u1, u2, ⟨hS1, p0, t0⟩, ⟨hS2, p1, t1⟩, ⟨hS3, p2, t2⟩, E3, FF⟩ := store3 Z8 rfl (.int .i64 nx) (.int .i64 ny) (.int .i64 nv)
          have r0 : Z3.cell? ⟨w.heap.size, 0, none⟩ = some (.int .i64 nx) := by simp [World.cell?, E3]
          have r1 : Z3.cell? ⟨w.heap.size, 1, none⟩ = some (.int .i64 ny) := by simp [World.cell?, E3]
          have r2 : Z3.cell? ⟨w.heap.size, 2, none⟩ = some (.int .i64 nv) := by simp [World.cell?, E3]
          have HB : Below w.heap.size w8 Z3 := FF.below (Below.refl _ _) (Nat.le_refl _)
          have SF : Hid (Src R A L q wh (a + 1) Z3) := H.out.later hS ((Ext.of B9'.out).trans hE) HB
          have EF : Hid (Ext R w Z3) := ((Ext.of B9'.out).trans hE).then HB
          clear hS hE G8 Z8 E3 FF HB
          go_wp2
          (try simp only [Exit.inBlock, Exit.then])
          have hres : ∀ tmps : Array Value, tmps.getD 2 undef = .pointer (some ⟨w.heap.size, 0, none⟩) → (results Tryz.f64 tmps).run Tryz.prog Z3 = .ok (.agg #[.int .i64 nx, .int .i64 ny, .int .i64 nv]) Z3 := fun tmps ht => by
            simp only [results, show Tryz.f64.results = #[ResultVar.cell 2 48] from rfl]
            have ht' : tmps[2]?.getD undef = .pointer (some ⟨w.heap.size, 0, none⟩) := by simpa using ht
            go_simp
          refine bodyPost_ret (hres _ rfl) rfl ?_
          exact runs_ok OKG.out ⟨rfl, SF.out, EF.out⟩
end Go.Proofs.YtckdlbfndmmjjaaGreatDoor.Aag
