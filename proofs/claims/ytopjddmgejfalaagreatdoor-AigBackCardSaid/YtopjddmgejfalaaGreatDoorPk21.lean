/- The walk of aig's reading of a header; no condition. -/
import Derived.Test.YtopjddmgejfalaaGreatDoorPk19
import Derived.Test.YtopjddmgejfalaaGreatDoorPk20
namespace Go.Proofs.YtopjddmgejfalaaGreatDoor.Aig
open Go.ChangeShapes Go.WideShapes Go.ChangeAt Go.RowKit Dig Circ Cw Aag

theorem op_eq_aig (a : Act) (w : World) (y : List UInt8) (t : Nat) (h : a.tmps.getD t undef = sv y) (oo : Oper) (ho : oo.op = .binOp .eql 9 (.tmp t) (.const (.string ⟨#[97, 105, 103]⟩)) 9) : (execOp a.eval oo).run Tryz.prog w = .ok (.value (.bool (y == [97, 105, 103]))) w := by
  have h' : a.tmps[t]?.getD undef = .string ⟨y.toArray⟩ := by simpa [sv] using h
  clear h
  unfold execOp
  rw [ho]
  go_simp
theorem op_leq_most (a : Act) (w : World) (x : Int) (t : Nat) (h : a.tmps.getD t undef = .int .i64 x) (oo : Oper) (ho : oo.op = .binOp .leq 3 (.tmp t) (.const (.int .i64 2048)) 3) : (execOp a.eval oo).run Tryz.prog w = .ok (.value (.bool (decide (x ≤ 2048)))) w := by
  have h' : a.tmps[t]?.getD undef = .int .i64 x := by simpa using h
  clear h
  unfold execOp
  rw [ho]
  go_simp
theorem op_add_small (a : Act) (w : World) (x y : Int) (s t : Nat) (h1 : a.tmps.getD s undef = .int .i64 x) (h2 : a.tmps.getD t undef = .int .i64 y) (h3 : -1000000000000000 ≤ x + y) (h4 : x + y ≤ 1000000000000000) (oo : Oper) (ho : oo.op = .binOp .add 3 (.tmp s) (.tmp t) 3) : (execOp a.eval oo).run Tryz.prog w = .ok (.value (.int .i64 (x + y))) w := by
  have h1' : a.tmps[s]?.getD undef = .int .i64 x := by simpa using h1
  have h2' : a.tmps[t]?.getD undef = .int .i64 y := by simpa using h2
  have h0 : IntKind.i64.wrap (x + y) = x + y := by rw [IntKind.wrap_i64]; omega
  clear h1 h2
  unfold execOp
  rw [ho]
  go_simp
theorem op_eq_int (a : Act) (w : World) (x y : Int) (s t : Nat) (h1 : a.tmps.getD s undef = .int .i64 x) (h2 : a.tmps.getD t undef = .int .i64 y) (oo : Oper) (ho : oo.op = .binOp .eql 3 (.tmp s) (.tmp t) 3) : (execOp a.eval oo).run Tryz.prog w = .ok (.value (.bool (x == y))) w := by
  have h1' : a.tmps[s]?.getD undef = .int .i64 x := by simpa using h1
  have h2' : a.tmps[t]?.getD undef = .int .i64 y := by simpa using h2
  clear h1 h2
  unfold execOp
  rw [ho]
  go_simp
theorem op_pick_and (a : Act) (w : World) (b c : Bool) (s t : Nat) (h1 : a.tmps.getD s undef = .bool b) (h2 : b = true → a.tmps.getD t undef = .bool c) (oo : Oper) (ho : oo.op = .pick (.tmp s) (.tmp t) (.const (.bool false))) : (execOp a.eval oo).run Tryz.prog w = .ok (.value (.bool (b && c))) w := by
  have h1' : a.tmps[s]?.getD undef = .bool b := by simpa using h1
  cases b with
  | false =>
    clear h1 h2
    unfold execOp
    rw [ho]
    go_simp
  | true =>
    have h2' : a.tmps[t]?.getD undef = .bool c := by simpa using h2 rfl
    clear h1 h2
    unfold execOp
    rw [ho]
    go_simp
theorem rhead_no {l : List UInt8} (h : rdLine (wl [8]) l = none) : rdLine formHead5 l = none := by
  unfold rdLine at h ⊢
  cases hc : lineCut l with
  | none => rfl
  | some x =>
    rw [hc] at h
    simp only [Option.bind_some, wl] at h ⊢
    split at h
    · cases h
    · rename_i hw
      unfold formHead5
      rw [show wordsOk [8] x.1 = false by simpa using hw]; rfl
theorem rhead_eq {l r : List UInt8} {ws : List (List UInt8)} (h : rdLine (wl [8]) l = some (ws, r)) : ws.length = 8 ∧ rdLine formHead5 l = if ((ws.getD 0 [] == [97, 105, 103]) && (ws.drop 1).all numOk) = true then (if headOk ((ws.drop 1).map numV) = true then some ((ws.drop 1).map numV, r) else none) else none := by
  obtain ⟨y, hc, rfl, hk⟩ := wl_get h
  refine ⟨head_counts hk, ?_⟩
  rw [rdLine_some hc]
  unfold formHead5
  rw [hk, Bool.true_and]
  split
  · split <;> rfl
  · rfl
theorem all_eight {ws : List (List UInt8)} (hl : ws.length = 8) (ho : ∀ j, 1 ≤ j → j < 8 → numOk (ws.getD j []) = true) : (ws.drop 1).all numOk = true ∧ (ws.drop 1).map numV = [numV (ws.getD 1 []), numV (ws.getD 2 []), numV (ws.getD 3 []), numV (ws.getD 4 []), numV (ws.getD 5 []), numV (ws.getD 6 []), numV (ws.getD 7 [])] := by
  rw [eight ws [] hl]
  refine ⟨?_, rfl⟩
  simp only [List.all_cons, List.all_nil, ho 1 (by omega) (by omega), ho 2 (by omega) (by omega), ho 3 (by omega) (by omega), ho 4 (by omega) (by omega), ho 5 (by omega) (by omega), ho 6 (by omega) (by omega), ho 7 (by omega) (by omega)]; rfl
theorem not_eight {ws : List (List UInt8)} (j : Nat) (h1 : 1 ≤ j) (h2 : j < ws.length) (h : numOk (ws.getD j []) = false) : (ws.drop 1).all numOk = false := by
  rw [List.all_eq_false]
  refine ⟨ws.getD j [], ?_, by rw [h]; simp⟩
  rw [List.getD_eq_getElem?_getD, List.getElem?_eq_getElem h2]
  rw [List.mem_iff_getElem?]
  exact ⟨j - 1, by rw [List.getElem?_drop, show 1 + (j - 1) = j by omega, List.getElem?_eq_getElem h2]; rfl⟩
/-- what operation j of the region leaves -/
def ahdr2R (R b o n q' : Nat) (y0 : List UInt8) : Nat → (Nat → Value) → World → Prop
  | 0, f, _ => f 12 = .pointer (some ⟨R, 0, none⟩)
  | 1, f, _ => f 13 = .pointer (some ⟨R, 0, none⟩)
  | 2, f, _ => f 14 = .pointer (some ⟨R, 0, none⟩)
  | 3, f, _ => f 15 = .slice (some ⟨b, o, none⟩) n q'
  | 4, f, _ => f 16 = .pointer (some ⟨b, o + 0, none⟩)
  | 5, f, _ => f 17 = sv y0
  | 6, f, _ => f 18 = .bool (y0 == [97, 105, 103])
  | 7, _, _ => (y0 == [97, 105, 103]) = true
  | _, _, _ => True
def ahdr2M : Nat → List Nat
  | 0 => [12]
  | 1 => [13]
  | 2 => [14]
  | 3 => [15]
  | 4 => [16]
  | 5 => [17]
  | 6 => [18]
  | 7 => []
  | _ => []
theorem ahdr2_stab {R b o n q' : Nat} {y0 : List UInt8} (jj : Nat) {f f' : Nat → Value} {w w' : World}  (hf : ∀ t ∈ ahdr2M jj, f' t = f t) (h : ahdr2R R b o n q' y0 jj f w) : ahdr2R R b o n q' y0 jj f' w' := by
  match jj, hf, h with
  | 0, hf, h => exact (hf 12 (by decide)).trans h
  | 1, hf, h => exact (hf 13 (by decide)).trans h
  | 2, hf, h => exact (hf 14 (by decide)).trans h
  | 3, hf, h => exact (hf 15 (by decide)).trans h
  | 4, hf, h => exact (hf 16 (by decide)).trans h
  | 5, hf, h => exact (hf 17 (by decide)).trans h
  | 6, hf, h => exact (hf 18 (by decide)).trans h
  | 7, hf, h =>
    exact h
  | _ + 8, _, _ => trivial
/-- what operation j of the region leaves -/
def ahdr7R (T : TypeId) (R b o n q' g j : Nat) (z : Array Value) (y : List UInt8) : Nat → (Nat → Value) → World → Prop
  | 0, f, _ => f 23 = .int .i64 (j : Int)
  | 1, f, _ => f 24 = .pointer (some ⟨R, 0, none⟩)
  | 2, f, _ => f 25 = .pointer (some ⟨R, 0, none⟩)
  | 3, f, _ => f 26 = .pointer (some ⟨R, 0, none⟩)
  | 4, f, _ => f 27 = .slice (some ⟨b, o, none⟩) n q'
  | 5, f, _ => f 28 = .int .i64 (j : Int)
  | 6, f, _ => f 29 = .int .i64 ((1 + j : Nat) : Int)
  | 7, f, _ => f 30 = .pointer (some ⟨b, o + (1 + j), none⟩)
  | 8, f, _ => f 31 = sv y
  | 9, f, _ => f 32 = .int .i64 (numV y) ∧ numOk y = true
  | 10, f, _ => f 33 = .pointer (some ⟨g, j, none⟩)
  | 11, _, w => w.heap[g]? = some (.cells (z.setIfInBounds j (.int .i64 (numV y))) T (0, 0))
  | _, _, _ => True
def ahdr7M : Nat → List Nat
  | 0 => [23]
  | 1 => [24]
  | 2 => [25]
  | 3 => [26]
  | 4 => [27]
  | 5 => [28]
  | 6 => [29]
  | 7 => [30]
  | 8 => [31]
  | 9 => [32]
  | 10 => [33]
  | 11 => []
  | _ => []
theorem ahdr7_stab {T : TypeId} {R b o n q' g j : Nat} {z : Array Value} {y : List UInt8} (jj : Nat) {f f' : Nat → Value} {w w' : World} (h11 : jj = 11 → Below w.heap.size w w') (hf : ∀ t ∈ ahdr7M jj, f' t = f t) (h : ahdr7R T R b o n q' g j z y jj f w) : ahdr7R T R b o n q' g j z y jj f' w' := by
  match jj, hf, h, h11 with
  | 0, hf, h, _ => exact (hf 23 (by decide)).trans h
  | 1, hf, h, _ => exact (hf 24 (by decide)).trans h
  | 2, hf, h, _ => exact (hf 25 (by decide)).trans h
  | 3, hf, h, _ => exact (hf 26 (by decide)).trans h
  | 4, hf, h, _ => exact (hf 27 (by decide)).trans h
  | 5, hf, h, _ => exact (hf 28 (by decide)).trans h
  | 6, hf, h, _ => exact (hf 29 (by decide)).trans h
  | 7, hf, h, _ => exact (hf 30 (by decide)).trans h
  | 8, hf, h, _ => exact (hf 31 (by decide)).trans h
  | 9, hf, h, h11 =>
    exact ⟨(hf 32 (by decide)).trans h.1, h.2⟩
  | 10, hf, h, _ => exact (hf 33 (by decide)).trans h
  | 11, hf, h, h11 =>
    exact ((h11 rfl).block g (lt_of_block h)).trans h
  | _ + 12, _, _, _ => trivial
theorem op_field_aig_sizes_0 (a : Act) (w : World) (b : Nat) (t : Nat) (h : a.tmps.getD t undef = .pointer (some ⟨b, 0, none⟩)) (oo : Oper) (ho : oo.op = .fieldAddr 83 (.tmp t) 0) : (execOp a.eval oo).run Tryz.prog w = .ok (.value (.pointer (some ⟨b, 0, none⟩))) w := by
  have h' : a.tmps[t]?.getD undef = .pointer (some ⟨b, 0, none⟩) := by simpa using h
  unfold execOp
  rw [ho]
  go_simp
theorem op_field_aig_sizes_1 (a : Act) (w : World) (b : Nat) (t : Nat) (h : a.tmps.getD t undef = .pointer (some ⟨b, 0, none⟩)) (oo : Oper) (ho : oo.op = .fieldAddr 83 (.tmp t) 1) : (execOp a.eval oo).run Tryz.prog w = .ok (.value (.pointer (some ⟨b, 1, none⟩))) w := by
  have h' : a.tmps[t]?.getD undef = .pointer (some ⟨b, 0, none⟩) := by simpa using h
  unfold execOp
  rw [ho]
  go_simp
theorem op_field_aig_sizes_2 (a : Act) (w : World) (b : Nat) (t : Nat) (h : a.tmps.getD t undef = .pointer (some ⟨b, 0, none⟩)) (oo : Oper) (ho : oo.op = .fieldAddr 83 (.tmp t) 2) : (execOp a.eval oo).run Tryz.prog w = .ok (.value (.pointer (some ⟨b, 2, none⟩))) w := by
  have h' : a.tmps[t]?.getD undef = .pointer (some ⟨b, 0, none⟩) := by simpa using h
  unfold execOp
  rw [ho]
  go_simp
theorem op_field_aig_sizes_4 (a : Act) (w : World) (b : Nat) (t : Nat) (h : a.tmps.getD t undef = .pointer (some ⟨b, 0, none⟩)) (oo : Oper) (ho : oo.op = .fieldAddr 83 (.tmp t) 4) : (execOp a.eval oo).run Tryz.prog w = .ok (.value (.pointer (some ⟨b, 4, none⟩))) w := by
  have h' : a.tmps[t]?.getD undef = .pointer (some ⟨b, 0, none⟩) := by simpa using h
  unfold execOp
  rw [ho]
  go_simp
/-- what operation j of the region leaves -/
def ahdr10R (R m : Nat) (x0 x1 x2 x4 : Int) (b : Bool) : Nat → (Nat → Value) → World → Prop
  | 0, f, _ => f 50 = .pointer (some ⟨R, 0, none⟩)
  | 1, f, _ => f 51 = .pointer (some ⟨R, 0, none⟩)
  | 2, f, _ => f 52 = .pointer (some ⟨R, 0, none⟩)
  | 3, f, _ => f 53 = .pointer (some ⟨m, 0, none⟩)
  | 4, f, _ => f 54 = .int .i64 x0
  | 5, f, _ => f 55 = .bool b
  | 6, f, _ => f 56 = .bool b
  | 7, f, _ => b = true → f 57 = .pointer (some ⟨m, 0, none⟩)
  | 8, f, _ => b = true → f 58 = .int .i64 x0
  | 9, f, _ => b = true → f 59 = .pointer (some ⟨m, 1, none⟩)
  | 10, f, _ => b = true → f 60 = .int .i64 x1
  | 11, f, _ => b = true → f 61 = .pointer (some ⟨m, 2, none⟩)
  | 12, f, _ => b = true → f 62 = .int .i64 x2
  | 13, f, _ => b = true → f 63 = .int .i64 (x1 + x2)
  | 14, f, _ => b = true → f 64 = .pointer (some ⟨m, 4, none⟩)
  | 15, f, _ => b = true → f 65 = .int .i64 x4
  | 16, f, _ => b = true → f 66 = .int .i64 (x1 + x2 + x4)
  | 17, f, _ => b = true → f 67 = .bool (x0 == x1 + x2 + x4)
  | 18, f, _ => f 68 = .bool (b && (x0 == x1 + x2 + x4))
  | 19, _, _ => (b && (x0 == x1 + x2 + x4)) = true
  | _, _, _ => True
def ahdr10M : Nat → List Nat
  | 0 => [50]
  | 1 => [51]
  | 2 => [52]
  | 3 => [53]
  | 4 => [54]
  | 5 => [55]
  | 6 => [56]
  | 7 => [57]
  | 8 => [58]
  | 9 => [59]
  | 10 => [60]
  | 11 => [61]
  | 12 => [62]
  | 13 => [63]
  | 14 => [64]
  | 15 => [65]
  | 16 => [66]
  | 17 => [67]
  | 18 => [68]
  | 19 => []
  | _ => []
theorem ahdr10_stab {R m : Nat} {x0 x1 x2 x4 : Int} {b : Bool} (jj : Nat) {f f' : Nat → Value} {w w' : World}  (hf : ∀ t ∈ ahdr10M jj, f' t = f t) (h : ahdr10R R m x0 x1 x2 x4 b jj f w) : ahdr10R R m x0 x1 x2 x4 b jj f' w' := by
  match jj, hf, h with
  | 0, hf, h => exact (hf 50 (by decide)).trans h
  | 1, hf, h => exact (hf 51 (by decide)).trans h
  | 2, hf, h => exact (hf 52 (by decide)).trans h
  | 3, hf, h => exact (hf 53 (by decide)).trans h
  | 4, hf, h => exact (hf 54 (by decide)).trans h
  | 5, hf, h => exact (hf 55 (by decide)).trans h
  | 6, hf, h => exact (hf 56 (by decide)).trans h
  | 7, hf, h => exact fun hb => (hf 57 (by decide)).trans (h hb)
  | 8, hf, h => exact fun hb => (hf 58 (by decide)).trans (h hb)
  | 9, hf, h => exact fun hb => (hf 59 (by decide)).trans (h hb)
  | 10, hf, h => exact fun hb => (hf 60 (by decide)).trans (h hb)
  | 11, hf, h => exact fun hb => (hf 61 (by decide)).trans (h hb)
  | 12, hf, h => exact fun hb => (hf 62 (by decide)).trans (h hb)
  | 13, hf, h => exact fun hb => (hf 63 (by decide)).trans (h hb)
  | 14, hf, h => exact fun hb => (hf 64 (by decide)).trans (h hb)
  | 15, hf, h => exact fun hb => (hf 65 (by decide)).trans (h hb)
  | 16, hf, h => exact fun hb => (hf 66 (by decide)).trans (h hb)
  | 17, hf, h => exact fun hb => (hf 67 (by decide)).trans (h hb)
  | 18, hf, h => exact (hf 68 (by decide)).trans h
  | 19, hf, h =>
    exact h
  | _ + 20, _, _ => trivial
set_option maxHeartbeats 8000000 in
set_option maxRecDepth 100000 in
theorem header_run {S R : Nat} (l : List UInt8) (w : World) (h : Src S R l w) :
    Calls Tryz.prog 33 #[.pointer (some ⟨R, 0, none⟩)] w (Runs5 S R w (rdLine formHead5 l) (fun ns e _ => ∃ x0 x1 x2 x3 x4 x5 x6 : Int, ns = [x0, x1, x2, x3, x4, x5, x6] ∧ e = .returned (.agg #[.int .i64 x0, .int .i64 x1, .int .i64 x2, .int .i64 x3, .int .i64 x4, .int .i64 x5, .int .i64 x6]))) := by
  have hb1 : Below w.heap.size w (w.alloc (.cells #[.int .i64 0, .int .i64 0, .int .i64 0, .int .i64 0, .int .i64 0, .int .i64 0, .int .i64 0] 83)) := (Below.refl _ _).alloc (Nat.le_refl _) _
  have hs1 : (w.alloc (.cells #[.int .i64 0, .int .i64 0, .int .i64 0, .int .i64 0, .int .i64 0, .int .i64 0, .int .i64 0] 83)).heap.size = w.heap.size + 1 := by simp
  have hb2 : Below w.heap.size w ((w.alloc (.cells #[.int .i64 0, .int .i64 0, .int .i64 0, .int .i64 0, .int .i64 0, .int .i64 0, .int .i64 0] 83)).alloc (.cells #[.int .i64 8] 3)) := hb1.alloc hb1.size _
  have hs2 : ((w.alloc (.cells #[.int .i64 0, .int .i64 0, .int .i64 0, .int .i64 0, .int .i64 0, .int .i64 0, .int .i64 0] 83)).alloc (.cells #[.int .i64 8] 3)).heap.size = w.heap.size + 2 := by simp
  have hrow : LRow ((w.alloc (.cells #[.int .i64 0, .int .i64 0, .int .i64 0, .int .i64 0, .int .i64 0, .int .i64 0, .int .i64 0] 83)).alloc (.cells #[.int .i64 8] 3)) (w.heap.size + 2) 1 (some ⟨w.heap.size + 1, 0, none⟩) (ints ([8].map fun x : Nat => (x : Int))) := by
    have := ints_row (w.alloc (.cells #[.int .i64 0, .int .i64 0, .int .i64 0, .int .i64 0, .int .i64 0, .int .i64 0, .int .i64 0] 83)) [8] #[.int .i64 8] 3 rfl
    rw [hs1] at this
    exact this
  have HRW : Hid (R < w.heap.size) := Nat.lt_of_lt_of_le h.ins h.bd
  have HSW : Hid (S ≤ w.heap.size) := h.bd
  have hlen := h.len
  have WO := Lib.hid (reader_words [8] _ 1 _ _ (h.below hb2) hrow (by rw [hs2]; exact Nat.le_refl _) (fun p hp => by cases hp; exact Nat.ne_of_gt (Nat.lt_succ_of_lt HRW.out)) (by simp))
  have HB2 := Lib.hid hb2
  have KZ0 : Hid (((w.alloc (.cells #[.int .i64 0, .int .i64 0, .int .i64 0, .int .i64 0, .int .i64 0, .int .i64 0, .int .i64 0] 83)).alloc (.cells #[.int .i64 8] 3)).heap[w.heap.size]? = some (.cells #[.int .i64 0, .int .i64 0, .int .i64 0, .int .i64 0, .int .i64 0, .int .i64 0, .int .i64 0] 83 (0, 0))) := by
    unfold Hid
    rw [Below.heap_alloc _ _ _ (by rw [hs1]; omega)]; exact Array.getElem?_push_size
  have EN : Hid (∀ args w, (callFunc 60 args).run Tryz.prog w = .ok (.enter 60 args) w) := enters_of Tryz.func60 (by kernel_rfl) rfl
  have ED : Hid (∀ args w, (callFunc 21 args).run Tryz.prog w = .ok (.enter 21 args) w) := enters_of Tryz.func21 (by kernel_rfl) rfl
  clear h hb1 hb2 hs1 hs2 hrow
  obtain ⟨goal, hgoal⟩ : ∃ g, g = rdLine formHead5 l := ⟨_, rfl⟩
  have HG := Lib.hid hgoal
  rw [← hgoal]
  clear hgoal
  go_enter Tryz.func33, Tryz.ntmps33
  go_wp2_with fail
  refine WO.out.mono ?_
  intro e w2 hr
  cases hq : rdLine (wl [8]) l with
  | none =>
    rw [hq] at hr
    obtain ⟨rfl, hE⟩ := hr
    exact ⟨rfl, runs5_none (HG.out.trans (rhead_no hq)) ⟨rfl, (Ext.of HB2.out).trans hE⟩⟩
  | some x =>
  obtain ⟨ws, r⟩ := x
  obtain ⟨hl8, heq⟩ := rhead_eq hq
  rw [← HG.out] at heq
  rw [hq] at hr
  obtain ⟨⟨A1, q1, rfl, hrd, -⟩, hS, hE⟩ := hr
  replace hrd : ReadsAt A1 ws w2 := hrd
  replace hS : Src S R r w2 := hS
  have E2 : Hid (Ext R w w2) := (Ext.of HB2.out).trans hE
  have KZ1 : Hid (w2.heap[w.heap.size]? = some (.cells #[.int .i64 0, .int .i64 0, .int .i64 0, .int .i64 0, .int .i64 0, .int .i64 0, .int .i64 0] 83 (0, 0))) := (hE.block _ (lt_of_block KZ0.out) (by have := HRW.out; omega)).trans KZ0.out
  have KZ : Hid (∀ x, Below w2.heap.size w2 x → x.heap[w.heap.size]? = some (.cells #[.int .i64 0, .int .i64 0, .int .i64 0, .int .i64 0, .int .i64 0, .int .i64 0, .int .i64 0] 83 (0, 0))) := fun x hx => (hx.block _ (lt_of_block KZ1.out)).trans KZ1.out
  have HS2 := Lib.hid hS
  have HWF := Lib.hid (wl_fit4 hq hlen)
  have HL9 := Lib.hid hl8
  have HL8 : Hid (0 < ws.length ∧ 8 ≤ ws.length) := by unfold Hid; omega
  have FA0 : Hid ((ws.getD 0 [] == [97, 105, 103]) = false → ∀ x, Ext R w x → Runs5 S R w goal (fun ns e _ => ∃ x0 x1 x2 x3 x4 x5 x6 : Int, ns = [x0, x1, x2, x3, x4, x5, x6] ∧ e = .returned (.agg #[.int .i64 x0, .int .i64 x1, .int .i64 x2, .int .i64 x3, .int .i64 x4, .int .i64 x5, .int .i64 x6])) (.panicked fault5) x) := fun hy x hx => runs5_none (by rw [heq, hy]; rfl) ⟨rfl, hx⟩
  have FA1 : Hid (∀ j, 1 ≤ j → j < ws.length → numOk (ws.getD j []) = false → ∀ x, Ext R w x → Runs5 S R w goal (fun ns e _ => ∃ x0 x1 x2 x3 x4 x5 x6 : Int, ns = [x0, x1, x2, x3, x4, x5, x6] ∧ e = .returned (.agg #[.int .i64 x0, .int .i64 x1, .int .i64 x2, .int .i64 x3, .int .i64 x4, .int .i64 x5, .int .i64 x6])) (.panicked fault5) x) := fun j h1 h2 hy x hx => runs5_none (by rw [heq, not_eight j h1 h2 hy, Bool.and_false]; rfl) ⟨rfl, hx⟩
  have OKH : Hid ((ws.getD 0 [] == [97, 105, 103]) = true → (∀ j, 1 ≤ j → j < 8 → numOk (ws.getD j []) = true) → goal = if headOk [numV (ws.getD 1 []), numV (ws.getD 2 []), numV (ws.getD 3 []), numV (ws.getD 4 []), numV (ws.getD 5 []), numV (ws.getD 6 []), numV (ws.getD 7 [])] = true then some ([numV (ws.getD 1 []), numV (ws.getD 2 []), numV (ws.getD 3 []), numV (ws.getD 4 []), numV (ws.getD 5 []), numV (ws.getD 6 []), numV (ws.getD 7 [])], r) else none) := fun h0 h1 => by
    obtain ⟨h2, h3⟩ := all_eight hl8 h1
    rw [heq, h0, h2, h3]; rfl
  obtain ⟨b, o, rfl, hc0⟩ := reads_cellD hrd 0 (by omega)
  have HBB : Hid (b < w2.heap.size) := World.block_lt_of_cell? _ _ hc0
  have HC : Hid (∀ k, k < ws.length → ∀ x, Below w2.heap.size w2 x → x.cell? ⟨b, o + k, none⟩ = some (sv (ws.getD k []))) := fun k hk x hx => by
    obtain ⟨b1, o1, e1, hc1⟩ := reads_cellD hrd k hk
    injection e1 with e1; injection e1 with e1 e1'; subst e1; subst e1'
    exact (hx.cell HBB.out).trans hc1
  have hl0 : 0 < ws.length := by omega
  clear hrd hS hE hc0 heq hq WO KZ0 KZ1 HB2 HG hl8
  go_wp2
  refine wp_region_valsD (by kernel_rfl) (by kernel_rfl) ahdr2M (by kernel_rfl) (by kernel_rfl)
    (fun _ w' => Below w2.heap.size w2 w') (ahdr2R R b o ws.length q1 (ws.getD 0 [])) (Below.refl _ _).drew (fun jj f f' w w' hb hf h => ahdr2_stab jj  hf h) ?_ ?_
  · intro i oo d a' w' ho hd hun hdf hok hD K hK hK0
    match i, ho, hd, hD, hK, hK0, hun with
    | 0, ho, hd, hD, hK, hK0, hun =>
      have e := (congrArg Oper.op (Option.some.inj ho)).symm
      obtain rfl := Option.some.inj ho
      exact wp_val (op_move a' w' 0 _ e) (hK _ _ (Below.refl _ _) hok (fun f h1 _ => (h1 _ rfl).trans (hun 0 (by kernel_rfl))))
    | 1, ho, hd, hD, hK, hK0, hun =>
      have e := (congrArg Oper.op (Option.some.inj ho)).symm
      obtain rfl := Option.some.inj ho
      exact wp_val (op_nil a' w' _ 12 (hD 0 (by kernel_rfl)) _ e) (hK _ _ (Below.refl _ _) hok (fun f h1 _ => h1 _ rfl))
    | 2, ho, hd, hD, hK, hK0, hun =>
      have e := (congrArg Oper.op (Option.some.inj ho)).symm
      obtain rfl := Option.some.inj ho
      exact wp_val (op_field_aig_reader_0 a' w' _ 13 (hD 1 (by kernel_rfl)) _ e) (hK _ _ (Below.refl _ _) hok (fun f h1 _ => h1 _ rfl))
    | 3, ho, hd, hD, hK, hK0, hun =>
      have e := (congrArg Oper.op (Option.some.inj ho)).symm
      obtain rfl := Option.some.inj ho
      exact wp_val (op_move a' w' 3 _ e) (hK _ _ (Below.refl _ _) hok (fun f h1 _ => (h1 _ rfl).trans (hun 3 (by kernel_rfl))))
    | 4, ho, hd, hD, hK, hK0, hun =>
      have e := (congrArg Oper.op (Option.some.inj ho)).symm
      obtain rfl := Option.some.inj ho
      exact wp_val (op_index_Lstring a' w' _ _ _ _ 0 15 (hD 3 (by kernel_rfl)) (by first | decide | omega) _ e) (hK _ _ (Below.refl _ _) hok (fun f h1 _ => h1 _ rfl))
    | 5, ho, hd, hD, hK, hK0, hun =>
      have e := (congrArg Oper.op (Option.some.inj ho)).symm
      obtain rfl := Option.some.inj ho
      exact wp_val (op_load_string a' w' _ 16 _ (hD 4 (by kernel_rfl)) (HC.out 0 HL8.out.1 _ hok) _ e) (hK _ _ (Below.refl _ _) hok (fun f h1 _ => h1 _ rfl))
    | 6, ho, hd, hD, hK, hK0, hun =>
      have e := (congrArg Oper.op (Option.some.inj ho)).symm
      obtain rfl := Option.some.inj ho
      exact wp_val (op_eq_aig a' w' _ 17 (hD 5 (by kernel_rfl)) _ e) (hK _ _ (Below.refl _ _) hok (fun f h1 _ => h1 _ rfl))
    | 7, ho, hd, hD, hK, hK0, hun =>
      have e := (congrArg Oper.op (Option.some.inj ho)).symm
      obtain rfl := Option.some.inj ho
      refine wp_enter (op_call2 a' w' _ 14 18 _ _ ED.out _ e) ?_
      rw [show a'.tmps.getD 14 undef = .pointer (some ⟨R, 0, none⟩) from hD 2 (by kernel_rfl), show a'.tmps.getD 18 undef = .bool (ws.getD 0 [] == [97, 105, 103]) from hD 6 (by kernel_rfl)]
      refine (need_any _ _ w').mono ?_
      rintro e w'' ⟨⟨hy, rfl⟩ | ⟨hy, rfl⟩, rfl⟩
      · exact .inl ⟨_, rfl, hK _ _ (Below.refl _ _) hok (fun f h1 _ => hy)⟩
      · exact .inr ⟨_, rfl, hdf, FA0.out hy _ (E2.out.trans (Ext.of hok))⟩
    | i + 8, ho, _, _, _, _, _ => exact absurd ho (by simp)
  · intro a' w3 hsz hdf hkt hok hR
    have HF3 := frame_sets [12, 13, 14, 15, 16, 17, 18, 19] (by kernel_rfl) hsz hkt
    obtain ⟨d, hok⟩ := hok
    have N0 := Lib.hid (hR 7 (by decide) : (ws.getD 0 [] == [97, 105, 103]) = true)
    obtain ⟨tm, df⟩ := a'
    obtain rfl : df = _ := hdf
    simp only [List.foldl_cons, List.foldl_nil] at HF3
    clear hkt hR hsz
    generalize tm.getD 12 undef = y12 at HF3
    generalize tm.getD 13 undef = y13 at HF3
    generalize tm.getD 14 undef = y14 at HF3
    generalize tm.getD 15 undef = y15 at HF3
    generalize tm.getD 16 undef = y16 at HF3
    generalize tm.getD 17 undef = y17 at HF3
    generalize tm.getD 18 undef = y18 at HF3
    generalize tm.getD 19 undef = y19 at HF3
    simp only [List.setIfInBounds_toArray, List.set_cons_succ, List.set_cons_zero] at HF3
    subst HF3
    have B3 := Lib.hid hok
    clear hok FA0
    have HG4 : Hid (w2.heap.size ≤ w3.heap.size) := B3.out.size
    have LP : Hid (Below w2.heap.size w2 (w3.alloc (.cells #[.int .i64 0, .int .i64 0, .int .i64 0, .int .i64 0, .int .i64 0, .int .i64 0, .int .i64 0] 111))) := B3.out.alloc B3.out.size _
    have GA : Hid ((w3.alloc (.cells #[.int .i64 0, .int .i64 0, .int .i64 0, .int .i64 0, .int .i64 0, .int .i64 0, .int .i64 0] 111)).heap[w3.heap.size]? = some (.cells #[.int .i64 0, .int .i64 0, .int .i64 0, .int .i64 0, .int .i64 0, .int .i64 0, .int .i64 0] 111 (0, 0))) := Array.getElem?_push_size
    go_wp2
    obtain ⟨g, hgg⟩ : ∃ g, g = w3.heap.size := ⟨_, rfl⟩
    rw [← hgg] at GA HG4 ⊢
    clear hgg
    generalize w3.alloc (.cells #[.int .i64 0, .int .i64 0, .int .i64 0, .int .i64 0, .int .i64 0, .int .i64 0, .int .i64 0] 111) = wa at *
    go_loopw [20, 5] (fun i _ wr => ∃ (j : Nat) (z : Array Value), j ≤ 7 ∧ i = .int .i64 j ∧ z.size = 7 ∧ (∀ k, k < j → numOk (ws.getD (1 + k) []) = true ∧ z[k]? = some (.int .i64 (numV (ws.getD (1 + k) [])))) ∧ wr.heap[g]? = some (.cells z 111 (0, 0)) ∧ Below w2.heap.size w2 wr) (fun i _ _ => 7 - (intOf i).toNat)
    case atStart => exact ⟨0, _, Nat.zero_le _, rfl, rfl, fun k hk => absurd hk (Nat.not_lt_zero _), GA.out, LP.out⟩
    case round =>
      obtain ⟨j, z, hj, rfl, hzs, hzk, hgc, hbr⟩ := hrel
      have ZS := Lib.hid hzs
      have ZK := Lib.hid hzk
      have GC := Lib.hid hgc
      have BR := Lib.hid hbr
      clear hzs hzk hgc hbr
      by_cases hlt : j < 7
      · have HCJ : Hid (∀ x, Below wr.heap.size wr x → x.cell? ⟨b, o + (1 + j), none⟩ = some (sv (ws.getD (1 + j) []))) := fun x hx => HC.out (1 + j) (by have := HL8.out; omega) x (BR.out.trans (hx.mono BR.out.size))
        go_wp2
        refine wp_region_valsD (by kernel_rfl) (by kernel_rfl) ahdr7M (by kernel_rfl) (by kernel_rfl)
          (fun d w' => (d 11 = false → Below wr.heap.size wr w') ∧ Below w2.heap.size wr w') (ahdr7R 111 R b o ws.length q1 g j z (ws.getD (1 + j) [])) ⟨fun _ => (Below.refl _ _).drew, (Below.refl _ _).drew⟩ (fun jj f f' w w' hb hf h => ahdr7_stab jj (fun _ => hb) hf h) ?_ ?_
        · intro i oo d a' w' ho hd hun hdf hok hD K hK hK0
          match i, ho, hd, hD, hK, hK0, hun with
          | 0, ho, hd, hD, hK, hK0, hun =>
            have e := (congrArg Oper.op (Option.some.inj ho)).symm
            obtain rfl := Option.some.inj ho
            exact wp_val (op_move a' w' 5 _ e) (hK _ _ (Below.refl _ _) ⟨fun h => hok.1 (by simp only [Bool.or_eq_false_iff] at h; exact h.2), hok.2⟩ (fun f h1 _ => (h1 _ rfl).trans (hun 5 (by kernel_rfl))))
          | 1, ho, hd, hD, hK, hK0, hun =>
            have e := (congrArg Oper.op (Option.some.inj ho)).symm
            obtain rfl := Option.some.inj ho
            exact wp_val (op_move a' w' 0 _ e) (hK _ _ (Below.refl _ _) ⟨fun h => hok.1 (by simp only [Bool.or_eq_false_iff] at h; exact h.2), hok.2⟩ (fun f h1 _ => (h1 _ rfl).trans (hun 0 (by kernel_rfl))))
          | 2, ho, hd, hD, hK, hK0, hun =>
            have e := (congrArg Oper.op (Option.some.inj ho)).symm
            obtain rfl := Option.some.inj ho
            exact wp_val (op_nil a' w' _ 24 (hD 1 (by kernel_rfl)) _ e) (hK _ _ (Below.refl _ _) ⟨fun h => hok.1 (by simp only [Bool.or_eq_false_iff] at h; exact h.2), hok.2⟩ (fun f h1 _ => h1 _ rfl))
          | 3, ho, hd, hD, hK, hK0, hun =>
            have e := (congrArg Oper.op (Option.some.inj ho)).symm
            obtain rfl := Option.some.inj ho
            exact wp_val (op_field_aig_reader_0 a' w' _ 25 (hD 2 (by kernel_rfl)) _ e) (hK _ _ (Below.refl _ _) ⟨fun h => hok.1 (by simp only [Bool.or_eq_false_iff] at h; exact h.2), hok.2⟩ (fun f h1 _ => h1 _ rfl))
          | 4, ho, hd, hD, hK, hK0, hun =>
            have e := (congrArg Oper.op (Option.some.inj ho)).symm
            obtain rfl := Option.some.inj ho
            exact wp_val (op_move a' w' 3 _ e) (hK _ _ (Below.refl _ _) ⟨fun h => hok.1 (by simp only [Bool.or_eq_false_iff] at h; exact h.2), hok.2⟩ (fun f h1 _ => (h1 _ rfl).trans (hun 3 (by kernel_rfl))))
          | 5, ho, hd, hD, hK, hK0, hun =>
            have e := (congrArg Oper.op (Option.some.inj ho)).symm
            obtain rfl := Option.some.inj ho
            exact wp_val (op_move a' w' 5 _ e) (hK _ _ (Below.refl _ _) ⟨fun h => hok.1 (by simp only [Bool.or_eq_false_iff] at h; exact h.2), hok.2⟩ (fun f h1 _ => (h1 _ rfl).trans (hun 5 (by kernel_rfl))))
          | 6, ho, hd, hD, hK, hK0, hun =>
            have e := (congrArg Oper.op (Option.some.inj ho)).symm
            obtain rfl := Option.some.inj ho
            exact wp_val (op_one_more a' w' j 28 (by omega) (hD 5 (by kernel_rfl)) _ e) (hK _ _ (Below.refl _ _) ⟨fun h => hok.1 (by simp only [Bool.or_eq_false_iff] at h; exact h.2), hok.2⟩ (fun f h1 _ => h1 _ rfl))
          | 7, ho, hd, hD, hK, hK0, hun =>
            have e := (congrArg Oper.op (Option.some.inj ho)).symm
            obtain rfl := Option.some.inj ho
            exact wp_val (op_index_lstr_at a' w' _ _ _ _ (1 + j) 27 29 (hD 4 (by kernel_rfl)) (hD 6 (by kernel_rfl)) (by have := HL8.out; omega) _ e) (hK _ _ (Below.refl _ _) ⟨fun h => hok.1 (by simp only [Bool.or_eq_false_iff] at h; exact h.2), hok.2⟩ (fun f h1 _ => h1 _ rfl))
          | 8, ho, hd, hD, hK, hK0, hun =>
            have e := (congrArg Oper.op (Option.some.inj ho)).symm
            obtain rfl := Option.some.inj ho
            exact wp_val (op_load_string a' w' _ 30 _ (hD 7 (by kernel_rfl)) (HCJ.out _ (hok.1 (hd 11 (by kernel_rfl)))) _ e) (hK _ _ (Below.refl _ _) ⟨fun h => hok.1 (by simp only [Bool.or_eq_false_iff] at h; exact h.2), hok.2⟩ (fun f h1 _ => h1 _ rfl))
          | 9, ho, hd, hD, hK, hK0, hun =>
            have e := (congrArg Oper.op (Option.some.inj ho)).symm
            obtain rfl := Option.some.inj ho
            have hb8 := hok.1 (hd 11 (by kernel_rfl))
            refine wp_enter (op_call2 a' w' _ 26 31 _ _ EN.out _ e) ?_
            rw [show a'.tmps.getD 26 undef = .pointer (some ⟨R, 0, none⟩) from hD 3 (by kernel_rfl), show a'.tmps.getD 31 undef = sv (ws.getD (1 + j) []) from hD 8 (by kernel_rfl)]
            refine (parsed_any (R := R) _ w' (HWF.out _)).mono ?_
            rintro e w'' ⟨hb, ⟨hy, rfl⟩ | ⟨hy, rfl⟩⟩
            · exact .inl ⟨_, rfl, hK _ _ hb ⟨fun _ => hb8.trans (hb.mono hb8.size), hok.2.trans (hb.mono (Nat.le_trans BR.out.size hb8.size))⟩ (fun f h1 _ => ⟨h1 _ rfl, hy⟩)⟩
            · exact .inr ⟨_, rfl, hdf, FA1.out (1 + j) (by omega) (by have := HL8.out; omega) hy _ (E2.out.trans ((Ext.of BR.out).trans (Ext.of (hb8.trans (hb.mono hb8.size)))))⟩
          | 10, ho, hd, hD, hK, hK0, hun =>
            have e := (congrArg Oper.op (Option.some.inj ho)).symm
            obtain rfl := Option.some.inj ho
            exact wp_val (op_index_arr7 a' w' _ j 4 23 (hun 4 (by kernel_rfl)) (hD 0 (by kernel_rfl)) (by omega) _ e) (hK _ _ (Below.refl _ _) ⟨fun h => hok.1 (by simp only [Bool.or_eq_false_iff] at h; exact h.2), hok.2⟩ (fun f h1 _ => h1 _ rfl))
          | 11, ho, hd, hD, hK, hK0, hun =>
            have e := (congrArg Oper.op (Option.some.inj ho)).symm
            obtain rfl := Option.some.inj ho
            have hb8 := hok.1 (hd 11 (by kernel_rfl))
            obtain ⟨w'', hr, hgc2, hbut⟩ := op_store_int a' w' g j _ _ ((hb8.block g (lt_of_block GC.out)).trans GC.out) (by rw [ZS.out]; omega) _ 33 32 (hD 10 (by kernel_rfl)) (hD 9 (by kernel_rfl)).1 _ e
            refine wp_skip' hr (hK0 _ _ ⟨fun h => by simp at h, hbut.below hok.2 HG4.out⟩ (fun f h1 h2 => hgc2) (fun j f hj hf hq => ahdr7_stab j (fun e2 => absurd e2 hj) hf hq))
          | i + 12, ho, _, _, _, _, _ => exact absurd ho (by simp)
        · intro a' w4 hsz hdf hkt hok hR
          have HF3 := frame_sets [23, 24, 25, 26, 27, 28, 29, 30, 31, 32, 33] (by kernel_rfl) hsz hkt
          obtain ⟨d, hok⟩ := hok
          have GC9 : w4.heap[g]? = some (.cells (z.setIfInBounds j (.int .i64 (numV (ws.getD (1 + j) [])))) 111 (0, 0)) := hR 11 (by decide)
          have N1 : numOk (ws.getD (1 + j) []) = true := (hR 9 (by decide) : _ ∧ numOk (ws.getD (1 + j) []) = true).2
          obtain ⟨tm, df⟩ := a'
          obtain rfl : df = _ := hdf
          simp only [List.foldl_cons, List.foldl_nil] at HF3
          clear hkt hR hsz
          generalize tm.getD 23 undef = y23 at HF3
          generalize tm.getD 24 undef = y24 at HF3
          generalize tm.getD 25 undef = y25 at HF3
          generalize tm.getD 26 undef = y26 at HF3
          generalize tm.getD 27 undef = y27 at HF3
          generalize tm.getD 28 undef = y28 at HF3
          generalize tm.getD 29 undef = y29 at HF3
          generalize tm.getD 30 undef = y30 at HF3
          generalize tm.getD 31 undef = y31 at HF3
          generalize tm.getD 32 undef = y32 at HF3
          generalize tm.getD 33 undef = y33 at HF3
          simp only [List.setIfInBounds_toArray, List.set_cons_succ, List.set_cons_zero] at HF3
          subst HF3
          have REL : Hid (∃ (j' : Nat) (z' : Array Value), j' ≤ 7 ∧ ((j + 1 : Nat) : Int) = (j' : Int) ∧ z'.size = 7 ∧ (∀ k, k < j' → numOk (ws.getD (1 + k) []) = true ∧ z'[k]? = some (.int .i64 (numV (ws.getD (1 + k) [])))) ∧ w4.heap[g]? = some (.cells z' 111 (0, 0)) ∧ Below w2.heap.size w2 w4) := by
            refine ⟨j + 1, _, by omega, rfl, ?_, fun k hk => ?_, GC9, BR.out.trans hok.2⟩
            · rw [Array.size_setIfInBounds]; exact ZS.out
            · by_cases hkj : k = j
              · subst hkj
                refine ⟨N1, ?_⟩
                rw [Array.getElem?_setIfInBounds, if_pos rfl, if_pos (by rw [ZS.out]; omega)]
              · refine ⟨(ZK.out k (by omega)).1, ?_⟩
                rw [Array.getElem?_setIfInBounds, if_neg (Ne.symm hkj)]
                exact (ZK.out k (by omega)).2
          clear hok GC9 N1 HCJ
          go_wp2
          go_roundw
          case rel =>
            obtain ⟨j', z', h1, h2, h3⟩ := REL.out
            obtain rfl : j' = j + 1 := by omega
            exact ⟨j + 1, z', h1, by go_num, h3⟩
          case measure => simp [intOf]; omega
      · obtain rfl : j = 7 := by omega
        have hz7 := row7 ws z ZS.out (fun k hk => (ZK.out k hk).2)
        have hnum : ∀ j, 1 ≤ j → j < 8 → numOk (ws.getD j []) = true := fun j h1 h2 => by have := (ZK.out (j - 1) (by omega)).1; rwa [show 1 + (j - 1) = j by omega] at this
        have OKH1 := OKH.out N0.out hnum
        have bnd : ∀ j, 1 ≤ j → j < 8 → 0 ≤ numV (ws.getD j []) ∧ numV (ws.getD j []) ≤ 1099511627776 := fun j h1 h2 => numV_ok (hnum j h1 h2)
        have y1 := bnd 2 (by decide) (by decide)
        have y2 := bnd 3 (by decide) (by decide)
        have y4 := bnd 5 (by decide) (by decide)
        subst hz7
        clear N0 ZK ZS HC FA1 OKH HWF HL8 HL9 HBB hnum bnd
        generalize hx0 : numV (ws.getD 1 []) = x0 at *
        generalize hx1 : numV (ws.getD 2 []) = x1 at *
        generalize hx2 : numV (ws.getD 3 []) = x2 at *
        generalize hx3 : numV (ws.getD 4 []) = x3 at *
        generalize hx4 : numV (ws.getD 5 []) = x4 at *
        generalize hx5 : numV (ws.getD 6 []) = x5 at *
        generalize hx6 : numV (ws.getD 7 []) = x6 at *
        clear hx0 hx1 hx2 hx3 hx4 hx5 hx6
        have FA2 : Hid ((decide (x0 ≤ 2048) && (x0 == x1 + x2 + x4)) = false → ∀ x, Ext R w x → Runs5 S R w goal (fun ns e _ => ∃ x0 x1 x2 x3 x4 x5 x6 : Int, ns = [x0, x1, x2, x3, x4, x5, x6] ∧ e = .returned (.agg #[.int .i64 x0, .int .i64 x1, .int .i64 x2, .int .i64 x3, .int .i64 x4, .int .i64 x5, .int .i64 x6])) (.panicked fault5) x) := fun hy x hx => runs5_none (by rw [OKH1]; exact if_neg (by rw [show headOk [x0, x1, x2, x3, x4, x5, x6] = (decide (x0 ≤ 2048) && (x0 == x1 + x2 + x4)) from rfl, hy]; simp)) ⟨rfl, hx⟩
        have OKH2 : Hid ((decide (x0 ≤ 2048) && (x0 == x1 + x2 + x4)) = true → goal = some ([x0, x1, x2, x3, x4, x5, x6], r)) := fun hy => by rw [OKH1]; exact if_pos (by rw [show headOk [x0, x1, x2, x3, x4, x5, x6] = (decide (x0 ≤ 2048) && (x0 == x1 + x2 + x4)) from rfl, hy])
        have ZA : (wr.alloc (.cells #[.int .i64 0, .int .i64 0, .int .i64 0, .int .i64 0, .int .i64 0, .int .i64 0, .int .i64 0] 83)).heap[wr.heap.size]? = some (.cells #[.int .i64 0, .int .i64 0, .int .i64 0, .int .i64 0, .int .i64 0, .int .i64 0, .int .i64 0] 83 (0, 0)) := Array.getElem?_push_size
        have c0 : wr.cell? ⟨g, 0, none⟩ = some (.int .i64 x0) := by have := GC.out; simp [World.cell?, this]
        have c1 : wr.cell? ⟨g, 1, none⟩ = some (.int .i64 x1) := by have := GC.out; simp [World.cell?, this]
        have c2 : wr.cell? ⟨g, 2, none⟩ = some (.int .i64 x2) := by have := GC.out; simp [World.cell?, this]
        have c3 : wr.cell? ⟨g, 3, none⟩ = some (.int .i64 x3) := by have := GC.out; simp [World.cell?, this]
        have c4 : wr.cell? ⟨g, 4, none⟩ = some (.int .i64 x4) := by have := GC.out; simp [World.cell?, this]
        have c5 : wr.cell? ⟨g, 5, none⟩ = some (.int .i64 x5) := by have := GC.out; simp [World.cell?, this]
        have c6 : wr.cell? ⟨g, 6, none⟩ = some (.int .i64 x6) := by have := GC.out; simp [World.cell?, this]
        obtain ⟨V1, V2, V3, V4, V5, V6, V7, ua0, ua1, ua2, ua3, ua4, ua5, ua6, ⟨hSa0, pa0, ta0⟩, ⟨hSa1, pa1, ta1⟩, ⟨hSa2, pa2, ta2⟩, ⟨hSa3, pa3, ta3⟩, ⟨hSa4, pa4, ta4⟩, ⟨hSa5, pa5, ta5⟩, ⟨hSa6, pa6, ta6⟩, E7a, FFa⟩ := store7 ZA rfl (.int .i64 x0) (.int .i64 x1) (.int .i64 x2) (.int .i64 x3) (.int .i64 x4) (.int .i64 x5) (.int .i64 x6)
        have BZ : Hid (Below w2.heap.size w2 V7) := FFa.below (BR.out.alloc BR.out.size _) BR.out.size
        have E9 : Hid (Ext R w V7) := E2.out.trans (Ext.of BZ.out)
        have GZ : Hid (V7.heap[wr.heap.size]? = some (.cells #[.int .i64 x0, .int .i64 x1, .int .i64 x2, .int .i64 x3, .int .i64 x4, .int .i64 x5, .int .i64 x6] 83 (0, 0))) := E7a
        have CL0 : Hid (∀ x, Below V7.heap.size V7 x → x.cell? ⟨wr.heap.size, 0, none⟩ = some (.int .i64 x0)) := fun x hx => by
          have h1 := (hx.block _ (lt_of_block GZ.out)).trans GZ.out
          simp [World.cell?, h1]
        have CL1 : Hid (∀ x, Below V7.heap.size V7 x → x.cell? ⟨wr.heap.size, 1, none⟩ = some (.int .i64 x1)) := fun x hx => by
          have h1 := (hx.block _ (lt_of_block GZ.out)).trans GZ.out
          simp [World.cell?, h1]
        have CL2 : Hid (∀ x, Below V7.heap.size V7 x → x.cell? ⟨wr.heap.size, 2, none⟩ = some (.int .i64 x2)) := fun x hx => by
          have h1 := (hx.block _ (lt_of_block GZ.out)).trans GZ.out
          simp [World.cell?, h1]
        have CL4 : Hid (∀ x, Below V7.heap.size V7 x → x.cell? ⟨wr.heap.size, 4, none⟩ = some (.int .i64 x4)) := fun x hx => by
          have h1 := (hx.block _ (lt_of_block GZ.out)).trans GZ.out
          simp [World.cell?, h1]
        clear OKH1 ZA E7a FFa
        go_wp2
        clear c0 c1 c2 c3 c4 c5 c6
        refine wp_region_guards (by kernel_rfl) (by kernel_rfl) ahdr10M (by kernel_rfl) (by kernel_rfl)
          (fun _ w' => Below V7.heap.size V7 w') (ahdr10R R wr.heap.size x0 x1 x2 x4 (decide (x0 ≤ 2048))) (Below.refl _ _).drew (fun jj f f' w w' hb hf h => ahdr10_stab jj  hf h) ?_ ?_ ?_
        · intro i oo d a' w' ho hw hok hD
          match i, ho, hD, hw with
          | 0, ho, hD, hw =>
            obtain rfl := Option.some.inj ho
            exact Bool.noConfusion (show true = false from hw)
          | 1, ho, hD, hw =>
            obtain rfl := Option.some.inj ho
            exact Bool.noConfusion (show true = false from hw)
          | 2, ho, hD, hw =>
            obtain rfl := Option.some.inj ho
            exact Bool.noConfusion (show true = false from hw)
          | 3, ho, hD, hw =>
            obtain rfl := Option.some.inj ho
            exact Bool.noConfusion (show true = false from hw)
          | 4, ho, hD, hw =>
            obtain rfl := Option.some.inj ho
            exact Bool.noConfusion (show true = false from hw)
          | 5, ho, hD, hw =>
            obtain rfl := Option.some.inj ho
            exact Bool.noConfusion (show true = false from hw)
          | 6, ho, hD, hw =>
            obtain rfl := Option.some.inj ho
            exact Bool.noConfusion (show true = false from hw)
          | 7, ho, hD, hw =>
            obtain rfl := Option.some.inj ho
            have hy : a'.tmps.getD 56 undef = .bool (decide (x0 ≤ 2048)) := hD 6 (by kernel_rfl)
            rw [wanted_of (t := 56) rfl rfl hy] at hw
            exact ⟨hok, fun f _ _ hb => by rw [hb] at hw; cases hw⟩
          | 8, ho, hD, hw =>
            obtain rfl := Option.some.inj ho
            have hy : a'.tmps.getD 56 undef = .bool (decide (x0 ≤ 2048)) := hD 6 (by kernel_rfl)
            rw [wanted_of (t := 56) rfl rfl hy] at hw
            exact ⟨hok, fun f _ _ hb => by rw [hb] at hw; cases hw⟩
          | 9, ho, hD, hw =>
            obtain rfl := Option.some.inj ho
            have hy : a'.tmps.getD 56 undef = .bool (decide (x0 ≤ 2048)) := hD 6 (by kernel_rfl)
            rw [wanted_of (t := 56) rfl rfl hy] at hw
            exact ⟨hok, fun f _ _ hb => by rw [hb] at hw; cases hw⟩
          | 10, ho, hD, hw =>
            obtain rfl := Option.some.inj ho
            have hy : a'.tmps.getD 56 undef = .bool (decide (x0 ≤ 2048)) := hD 6 (by kernel_rfl)
            rw [wanted_of (t := 56) rfl rfl hy] at hw
            exact ⟨hok, fun f _ _ hb => by rw [hb] at hw; cases hw⟩
          | 11, ho, hD, hw =>
            obtain rfl := Option.some.inj ho
            have hy : a'.tmps.getD 56 undef = .bool (decide (x0 ≤ 2048)) := hD 6 (by kernel_rfl)
            rw [wanted_of (t := 56) rfl rfl hy] at hw
            exact ⟨hok, fun f _ _ hb => by rw [hb] at hw; cases hw⟩
          | 12, ho, hD, hw =>
            obtain rfl := Option.some.inj ho
            have hy : a'.tmps.getD 56 undef = .bool (decide (x0 ≤ 2048)) := hD 6 (by kernel_rfl)
            rw [wanted_of (t := 56) rfl rfl hy] at hw
            exact ⟨hok, fun f _ _ hb => by rw [hb] at hw; cases hw⟩
          | 13, ho, hD, hw =>
            obtain rfl := Option.some.inj ho
            have hy : a'.tmps.getD 56 undef = .bool (decide (x0 ≤ 2048)) := hD 6 (by kernel_rfl)
            rw [wanted_of (t := 56) rfl rfl hy] at hw
            exact ⟨hok, fun f _ _ hb => by rw [hb] at hw; cases hw⟩
          | 14, ho, hD, hw =>
            obtain rfl := Option.some.inj ho
            have hy : a'.tmps.getD 56 undef = .bool (decide (x0 ≤ 2048)) := hD 6 (by kernel_rfl)
            rw [wanted_of (t := 56) rfl rfl hy] at hw
            exact ⟨hok, fun f _ _ hb => by rw [hb] at hw; cases hw⟩
          | 15, ho, hD, hw =>
            obtain rfl := Option.some.inj ho
            have hy : a'.tmps.getD 56 undef = .bool (decide (x0 ≤ 2048)) := hD 6 (by kernel_rfl)
            rw [wanted_of (t := 56) rfl rfl hy] at hw
            exact ⟨hok, fun f _ _ hb => by rw [hb] at hw; cases hw⟩
          | 16, ho, hD, hw =>
            obtain rfl := Option.some.inj ho
            have hy : a'.tmps.getD 56 undef = .bool (decide (x0 ≤ 2048)) := hD 6 (by kernel_rfl)
            rw [wanted_of (t := 56) rfl rfl hy] at hw
            exact ⟨hok, fun f _ _ hb => by rw [hb] at hw; cases hw⟩
          | 17, ho, hD, hw =>
            obtain rfl := Option.some.inj ho
            have hy : a'.tmps.getD 56 undef = .bool (decide (x0 ≤ 2048)) := hD 6 (by kernel_rfl)
            rw [wanted_of (t := 56) rfl rfl hy] at hw
            exact ⟨hok, fun f _ _ hb => by rw [hb] at hw; cases hw⟩
          | 18, ho, hD, hw =>
            obtain rfl := Option.some.inj ho
            exact Bool.noConfusion (show true = false from hw)
          | 19, ho, hD, hw =>
            obtain rfl := Option.some.inj ho
            exact Bool.noConfusion (show true = false from hw)
          | i + 20, ho, _, _ => exact absurd ho (by simp)
        · intro i oo d a' w' ho hwt hd hun hdf hok hD K hK hK0
          match i, ho, hd, hD, hK, hK0, hun, hwt with
          | 0, ho, hd, hD, hK, hK0, hun, hwt =>
            have e := (congrArg Oper.op (Option.some.inj ho)).symm
            obtain rfl := Option.some.inj ho
            exact wp_val (op_move a' w' 0 _ e) (hK _ _ (Below.refl _ _) hok (fun f h1 _ => (h1 _ rfl).trans (hun 0 (by kernel_rfl))))
          | 1, ho, hd, hD, hK, hK0, hun, hwt =>
            have e := (congrArg Oper.op (Option.some.inj ho)).symm
            obtain rfl := Option.some.inj ho
            exact wp_val (op_nil a' w' _ 50 (hD 0 (by kernel_rfl)) _ e) (hK _ _ (Below.refl _ _) hok (fun f h1 _ => h1 _ rfl))
          | 2, ho, hd, hD, hK, hK0, hun, hwt =>
            have e := (congrArg Oper.op (Option.some.inj ho)).symm
            obtain rfl := Option.some.inj ho
            exact wp_val (op_field_aig_reader_0 a' w' _ 51 (hD 1 (by kernel_rfl)) _ e) (hK _ _ (Below.refl _ _) hok (fun f h1 _ => h1 _ rfl))
          | 3, ho, hd, hD, hK, hK0, hun, hwt =>
            have e := (congrArg Oper.op (Option.some.inj ho)).symm
            obtain rfl := Option.some.inj ho
            exact wp_val (op_field_aig_sizes_0 a' w' _ 6 (hun 6 (by kernel_rfl)) _ e) (hK _ _ (Below.refl _ _) hok (fun f h1 _ => h1 _ rfl))
          | 4, ho, hd, hD, hK, hK0, hun, hwt =>
            have e := (congrArg Oper.op (Option.some.inj ho)).symm
            obtain rfl := Option.some.inj ho
            exact wp_val (op_load_int a' w' _ 53 _ (hD 3 (by kernel_rfl)) (CL0.out _ hok) _ e) (hK _ _ (Below.refl _ _) hok (fun f h1 _ => h1 _ rfl))
          | 5, ho, hd, hD, hK, hK0, hun, hwt =>
            have e := (congrArg Oper.op (Option.some.inj ho)).symm
            obtain rfl := Option.some.inj ho
            exact wp_val (op_leq_most a' w' _ 54 (hD 4 (by kernel_rfl)) _ e) (hK _ _ (Below.refl _ _) hok (fun f h1 _ => h1 _ rfl))
          | 6, ho, hd, hD, hK, hK0, hun, hwt =>
            have e := (congrArg Oper.op (Option.some.inj ho)).symm
            obtain rfl := Option.some.inj ho
            exact wp_val (op_move a' w' 55 _ e) (hK _ _ (Below.refl _ _) hok (fun f h1 _ => (h1 _ rfl).trans (hD 5 (by kernel_rfl))))
          | 7, ho, hd, hD, hK, hK0, hun, hwt =>
            have e := (congrArg Oper.op (Option.some.inj ho)).symm
            obtain rfl := Option.some.inj ho
            have hy : a'.tmps.getD 56 undef = .bool (decide (x0 ≤ 2048)) := hD 6 (by kernel_rfl)
            have hb : (decide (x0 ≤ 2048)) = true := by
              rw [wanted_of (t := 56) rfl rfl hy] at hwt
              exact eq_of_beq hwt
            exact wp_val (op_field_aig_sizes_0 a' w' _ 6 (hun 6 (by kernel_rfl)) _ e) (hK _ _ (Below.refl _ _) hok (fun f h1 _ _ => h1 _ rfl))
          | 8, ho, hd, hD, hK, hK0, hun, hwt =>
            have e := (congrArg Oper.op (Option.some.inj ho)).symm
            obtain rfl := Option.some.inj ho
            have hy : a'.tmps.getD 56 undef = .bool (decide (x0 ≤ 2048)) := hD 6 (by kernel_rfl)
            have hb : (decide (x0 ≤ 2048)) = true := by
              rw [wanted_of (t := 56) rfl rfl hy] at hwt
              exact eq_of_beq hwt
            exact wp_val (op_load_int a' w' _ 57 _ (hD 7 (by kernel_rfl) hb) (CL0.out _ hok) _ e) (hK _ _ (Below.refl _ _) hok (fun f h1 _ _ => h1 _ rfl))
          | 9, ho, hd, hD, hK, hK0, hun, hwt =>
            have e := (congrArg Oper.op (Option.some.inj ho)).symm
            obtain rfl := Option.some.inj ho
            have hy : a'.tmps.getD 56 undef = .bool (decide (x0 ≤ 2048)) := hD 6 (by kernel_rfl)
            have hb : (decide (x0 ≤ 2048)) = true := by
              rw [wanted_of (t := 56) rfl rfl hy] at hwt
              exact eq_of_beq hwt
            exact wp_val (op_field_aig_sizes_1 a' w' _ 6 (hun 6 (by kernel_rfl)) _ e) (hK _ _ (Below.refl _ _) hok (fun f h1 _ _ => h1 _ rfl))
          | 10, ho, hd, hD, hK, hK0, hun, hwt =>
            have e := (congrArg Oper.op (Option.some.inj ho)).symm
            obtain rfl := Option.some.inj ho
            have hy : a'.tmps.getD 56 undef = .bool (decide (x0 ≤ 2048)) := hD 6 (by kernel_rfl)
            have hb : (decide (x0 ≤ 2048)) = true := by
              rw [wanted_of (t := 56) rfl rfl hy] at hwt
              exact eq_of_beq hwt
            exact wp_val (op_load_int a' w' _ 59 _ (hD 9 (by kernel_rfl) hb) (CL1.out _ hok) _ e) (hK _ _ (Below.refl _ _) hok (fun f h1 _ _ => h1 _ rfl))
          | 11, ho, hd, hD, hK, hK0, hun, hwt =>
            have e := (congrArg Oper.op (Option.some.inj ho)).symm
            obtain rfl := Option.some.inj ho
            have hy : a'.tmps.getD 56 undef = .bool (decide (x0 ≤ 2048)) := hD 6 (by kernel_rfl)
            have hb : (decide (x0 ≤ 2048)) = true := by
              rw [wanted_of (t := 56) rfl rfl hy] at hwt
              exact eq_of_beq hwt
            exact wp_val (op_field_aig_sizes_2 a' w' _ 6 (hun 6 (by kernel_rfl)) _ e) (hK _ _ (Below.refl _ _) hok (fun f h1 _ _ => h1 _ rfl))
          | 12, ho, hd, hD, hK, hK0, hun, hwt =>
            have e := (congrArg Oper.op (Option.some.inj ho)).symm
            obtain rfl := Option.some.inj ho
            have hy : a'.tmps.getD 56 undef = .bool (decide (x0 ≤ 2048)) := hD 6 (by kernel_rfl)
            have hb : (decide (x0 ≤ 2048)) = true := by
              rw [wanted_of (t := 56) rfl rfl hy] at hwt
              exact eq_of_beq hwt
            exact wp_val (op_load_int a' w' _ 61 _ (hD 11 (by kernel_rfl) hb) (CL2.out _ hok) _ e) (hK _ _ (Below.refl _ _) hok (fun f h1 _ _ => h1 _ rfl))
          | 13, ho, hd, hD, hK, hK0, hun, hwt =>
            have e := (congrArg Oper.op (Option.some.inj ho)).symm
            obtain rfl := Option.some.inj ho
            have hy : a'.tmps.getD 56 undef = .bool (decide (x0 ≤ 2048)) := hD 6 (by kernel_rfl)
            have hb : (decide (x0 ≤ 2048)) = true := by
              rw [wanted_of (t := 56) rfl rfl hy] at hwt
              exact eq_of_beq hwt
            exact wp_val (op_add_small a' w' _ _ 60 62 (hD 10 (by kernel_rfl) hb) (hD 12 (by kernel_rfl) hb) (by omega) (by omega) _ e) (hK _ _ (Below.refl _ _) hok (fun f h1 _ _ => h1 _ rfl))
          | 14, ho, hd, hD, hK, hK0, hun, hwt =>
            have e := (congrArg Oper.op (Option.some.inj ho)).symm
            obtain rfl := Option.some.inj ho
            have hy : a'.tmps.getD 56 undef = .bool (decide (x0 ≤ 2048)) := hD 6 (by kernel_rfl)
            have hb : (decide (x0 ≤ 2048)) = true := by
              rw [wanted_of (t := 56) rfl rfl hy] at hwt
              exact eq_of_beq hwt
            exact wp_val (op_field_aig_sizes_4 a' w' _ 6 (hun 6 (by kernel_rfl)) _ e) (hK _ _ (Below.refl _ _) hok (fun f h1 _ _ => h1 _ rfl))
          | 15, ho, hd, hD, hK, hK0, hun, hwt =>
            have e := (congrArg Oper.op (Option.some.inj ho)).symm
            obtain rfl := Option.some.inj ho
            have hy : a'.tmps.getD 56 undef = .bool (decide (x0 ≤ 2048)) := hD 6 (by kernel_rfl)
            have hb : (decide (x0 ≤ 2048)) = true := by
              rw [wanted_of (t := 56) rfl rfl hy] at hwt
              exact eq_of_beq hwt
            exact wp_val (op_load_int a' w' _ 64 _ (hD 14 (by kernel_rfl) hb) (CL4.out _ hok) _ e) (hK _ _ (Below.refl _ _) hok (fun f h1 _ _ => h1 _ rfl))
          | 16, ho, hd, hD, hK, hK0, hun, hwt =>
            have e := (congrArg Oper.op (Option.some.inj ho)).symm
            obtain rfl := Option.some.inj ho
            have hy : a'.tmps.getD 56 undef = .bool (decide (x0 ≤ 2048)) := hD 6 (by kernel_rfl)
            have hb : (decide (x0 ≤ 2048)) = true := by
              rw [wanted_of (t := 56) rfl rfl hy] at hwt
              exact eq_of_beq hwt
            exact wp_val (op_add_small a' w' _ _ 63 65 (hD 13 (by kernel_rfl) hb) (hD 15 (by kernel_rfl) hb) (by omega) (by omega) _ e) (hK _ _ (Below.refl _ _) hok (fun f h1 _ _ => h1 _ rfl))
          | 17, ho, hd, hD, hK, hK0, hun, hwt =>
            have e := (congrArg Oper.op (Option.some.inj ho)).symm
            obtain rfl := Option.some.inj ho
            have hy : a'.tmps.getD 56 undef = .bool (decide (x0 ≤ 2048)) := hD 6 (by kernel_rfl)
            have hb : (decide (x0 ≤ 2048)) = true := by
              rw [wanted_of (t := 56) rfl rfl hy] at hwt
              exact eq_of_beq hwt
            exact wp_val (op_eq_int a' w' _ _ 58 66 (hD 8 (by kernel_rfl) hb) (hD 16 (by kernel_rfl) hb) _ e) (hK _ _ (Below.refl _ _) hok (fun f h1 _ _ => h1 _ rfl))
          | 18, ho, hd, hD, hK, hK0, hun, hwt =>
            have e := (congrArg Oper.op (Option.some.inj ho)).symm
            obtain rfl := Option.some.inj ho
            exact wp_val (op_pick_and a' w' _ _ 56 67 (hD 6 (by kernel_rfl)) (fun hb => hD 17 (by kernel_rfl) hb) _ e) (hK _ _ (Below.refl _ _) hok (fun f h1 _ => h1 _ rfl))
          | 19, ho, hd, hD, hK, hK0, hun, hwt =>
            have e := (congrArg Oper.op (Option.some.inj ho)).symm
            obtain rfl := Option.some.inj ho
            refine wp_enter (op_call2 a' w' _ 52 68 _ _ ED.out _ e) ?_
            rw [show a'.tmps.getD 52 undef = .pointer (some ⟨R, 0, none⟩) from hD 2 (by kernel_rfl), show a'.tmps.getD 68 undef = .bool (decide (x0 ≤ 2048) && (x0 == x1 + x2 + x4)) from hD 18 (by kernel_rfl)]
            refine (need_any _ _ w').mono ?_
            rintro e w'' ⟨⟨hy, rfl⟩ | ⟨hy, rfl⟩, rfl⟩
            · exact .inl ⟨_, rfl, hK _ _ (Below.refl _ _) hok (fun f h1 _ => hy)⟩
            · exact .inr ⟨_, rfl, hdf, FA2.out hy _ (E9.out.trans (Ext.of hok))⟩
          | i + 20, ho, _, _, _, _, _, _ => exact absurd ho (by simp)
        · intro a' w9 hsz hdf hkt hok hR
          have HF3 := frame_sets [50, 51, 52, 53, 54, 55, 56, 57, 58, 59, 60, 61, 62, 63, 64, 65, 66, 67, 68, 69] (by kernel_rfl) hsz hkt
          obtain ⟨d, hok⟩ := hok
          have hnz : (decide (x0 ≤ 2048) && (x0 == x1 + x2 + x4)) = true := hR 19 (by decide)
          obtain ⟨tm, df⟩ := a'
          obtain rfl : df = _ := hdf
          simp only [List.foldl_cons, List.foldl_nil] at HF3
          clear hkt hR hsz
          generalize tm.getD 50 undef = y50 at HF3
          generalize tm.getD 51 undef = y51 at HF3
          generalize tm.getD 52 undef = y52 at HF3
          generalize tm.getD 53 undef = y53 at HF3
          generalize tm.getD 54 undef = y54 at HF3
          generalize tm.getD 55 undef = y55 at HF3
          generalize tm.getD 56 undef = y56 at HF3
          generalize tm.getD 57 undef = y57 at HF3
          generalize tm.getD 58 undef = y58 at HF3
          generalize tm.getD 59 undef = y59 at HF3
          generalize tm.getD 60 undef = y60 at HF3
          generalize tm.getD 61 undef = y61 at HF3
          generalize tm.getD 62 undef = y62 at HF3
          generalize tm.getD 63 undef = y63 at HF3
          generalize tm.getD 64 undef = y64 at HF3
          generalize tm.getD 65 undef = y65 at HF3
          generalize tm.getD 66 undef = y66 at HF3
          generalize tm.getD 67 undef = y67 at HF3
          generalize tm.getD 68 undef = y68 at HF3
          generalize tm.getD 69 undef = y69 at HF3
          simp only [List.setIfInBounds_toArray, List.set_cons_succ, List.set_cons_zero] at HF3
          subst HF3
          have OKG : Hid (goal = some ([x0, x1, x2, x3, x4, x5, x6], r)) := OKH2.out hnz
          have B9 : Hid (Below w2.heap.size w2 w9) := BZ.out.trans (hok.mono BZ.out.size)
          have G9 : w9.heap[wr.heap.size]? = some (.cells #[.int .i64 x0, .int .i64 x1, .int .i64 x2, .int .i64 x3, .int .i64 x4, .int .i64 x5, .int .i64 x6] 83 (0, 0)) := (hok.block _ (lt_of_block GZ.out)).trans GZ.out
          have Z9 : w9.heap[w.heap.size]? = some (.cells #[.int .i64 0, .int .i64 0, .int .i64 0, .int .i64 0, .int .i64 0, .int .i64 0, .int .i64 0] 83 (0, 0)) := KZ.out _ B9.out
          have c0 : w9.cell? ⟨wr.heap.size, 0, none⟩ = some (.int .i64 x0) := by have := G9; simp [World.cell?, this]
          have c1 : w9.cell? ⟨wr.heap.size, 1, none⟩ = some (.int .i64 x1) := by have := G9; simp [World.cell?, this]
          have c2 : w9.cell? ⟨wr.heap.size, 2, none⟩ = some (.int .i64 x2) := by have := G9; simp [World.cell?, this]
          have c3 : w9.cell? ⟨wr.heap.size, 3, none⟩ = some (.int .i64 x3) := by have := G9; simp [World.cell?, this]
          have c4 : w9.cell? ⟨wr.heap.size, 4, none⟩ = some (.int .i64 x4) := by have := G9; simp [World.cell?, this]
          have c5 : w9.cell? ⟨wr.heap.size, 5, none⟩ = some (.int .i64 x5) := by have := G9; simp [World.cell?, this]
          have c6 : w9.cell? ⟨wr.heap.size, 6, none⟩ = some (.int .i64 x6) := by have := G9; simp [World.cell?, this]
          obtain ⟨Y1, Y2, Y3, Y4, Y5, Y6, Y7, ub0, ub1, ub2, ub3, ub4, ub5, ub6, ⟨hSb0, pb0, tb0⟩, ⟨hSb1, pb1, tb1⟩, ⟨hSb2, pb2, tb2⟩, ⟨hSb3, pb3, tb3⟩, ⟨hSb4, pb4, tb4⟩, ⟨hSb5, pb5, tb5⟩, ⟨hSb6, pb6, tb6⟩, E7b, FFb⟩ := store7 Z9 rfl (.int .i64 x0) (.int .i64 x1) (.int .i64 x2) (.int .i64 x3) (.int .i64 x4) (.int .i64 x5) (.int .i64 x6)
          have r0 : Y7.cell? ⟨w.heap.size, 0, none⟩ = some (.int .i64 x0) := by simp [World.cell?, E7b]
          have r1 : Y7.cell? ⟨w.heap.size, 1, none⟩ = some (.int .i64 x1) := by simp [World.cell?, E7b]
          have r2 : Y7.cell? ⟨w.heap.size, 2, none⟩ = some (.int .i64 x2) := by simp [World.cell?, E7b]
          have r3 : Y7.cell? ⟨w.heap.size, 3, none⟩ = some (.int .i64 x3) := by simp [World.cell?, E7b]
          have r4 : Y7.cell? ⟨w.heap.size, 4, none⟩ = some (.int .i64 x4) := by simp [World.cell?, E7b]
          have r5 : Y7.cell? ⟨w.heap.size, 5, none⟩ = some (.int .i64 x5) := by simp [World.cell?, E7b]
          have r6 : Y7.cell? ⟨w.heap.size, 6, none⟩ = some (.int .i64 x6) := by simp [World.cell?, E7b]
          have HB : Below w.heap.size w9 Y7 := FFb.below (Below.refl _ _) (Nat.le_refl _)
          have SF : Hid (Src S R r Y7) := (HS2.out.below B9.out).later (HB.mono HSW.out)
          have EF : Hid (Ext R w Y7) := (E2.out.trans (Ext.of B9.out)).then HB
          clear hok hnz G9 Z9 E7b FFb HB CL0 CL1 CL2 CL4 FA2 OKH2
          go_wp2
          (try simp only [Exit.inBlock, Exit.then])
          have hres : ∀ tmps : Array Value, tmps.getD 2 undef = .pointer (some ⟨w.heap.size, 0, none⟩) → (results Tryz.f33 tmps).run Tryz.prog Y7 = .ok (.agg #[.int .i64 x0, .int .i64 x1, .int .i64 x2, .int .i64 x3, .int .i64 x4, .int .i64 x5, .int .i64 x6]) Y7 := fun tmps ht => by
            simp only [results, show Tryz.f33.results = #[ResultVar.cell 2 83] from rfl]
            have ht' : tmps[2]?.getD undef = .pointer (some ⟨w.heap.size, 0, none⟩) := by simpa using ht
            go_simp
          refine bodyPost_ret (hres _ rfl) rfl ?_
          exact runs5_some OKG.out ⟨⟨_, _, _, _, _, _, _, rfl, rfl⟩, SF.out, EF.out⟩
end Go.Proofs.YtopjddmgejfalaaGreatDoor.Aig
