/- The walk of the region in which aag prints a name's line; conditions: the table of powers of ten is as it is laid, sizes as stated. -/
import Derived.Test.YtckdlbfndmmjjaaGreatDoorAagHead
namespace Go.Proofs.YtckdlbfndmmjjaaGreatDoor.Aag
open Go.ChangeShapes Go.WideShapes Go.ChangeAt Go.RowKit Dig Circ Cw

theorem op_field_name (a : Act) (w : World) (X k : Nat) (t : Nat) (hk : k = 0 ∨ k = 1 ∨ k = 2) (h : a.tmps.getD t undef = .pointer (some ⟨X, 0, none⟩)) (oo : Oper) (ho : oo.op = .fieldAddr 56 (.tmp t) k) : (execOp a.eval oo).run Tryz.prog w = .ok (.value (.pointer (some ⟨X, k, none⟩))) w := by
  have h' : a.tmps[t]?.getD undef = .pointer (some ⟨X, 0, none⟩) := by simpa using h
  unfold execOp
  rw [ho]
  rcases hk with rfl | rfl | rfl <;> go_simp
theorem op_load_str (a : Act) (w : World) (A : Addr) (t : Nat) (v : Value) (h : a.tmps.getD t undef = .pointer (some A)) (hc : w.cell? A = some v) (oo : Oper) (ho : oo.op = .load 9 (.tmp t)) : (execOp a.eval oo).run Tryz.prog w = .ok (.value v) w := by
  have h' : a.tmps[t]?.getD undef = .pointer (some A) := by simpa using h
  unfold execOp
  rw [ho]
  go_simp
theorem op_cat (a : Act) (w : World) (x y : ByteArray) (t s : Nat) (h1 : a.tmps.getD t undef = .string x) (h2 : a.tmps.getD s undef = .string y) (hl : x.size + y.size ≤ 140737488355328) (oo : Oper) (ho : oo.op = .binOp .add 9 (.tmp t) (.tmp s) 9) : (execOp a.eval oo).run Tryz.prog w = .ok (.value (.string (x ++ y))) w := by
  have h1' : a.tmps[t]?.getD undef = .string x := by simpa using h1
  have h2' : a.tmps[s]?.getD undef = .string y := by simpa using h2
  unfold execOp
  rw [ho]
  have hl2 : x.size + y.size ≤ 9223372036854775807 := by omega
  go_simp
theorem op_slice_two (a : Act) (w : World) (x y : ByteArray) (t s : Nat) (h1 : a.tmps.getD t undef = .string x) (h2 : a.tmps.getD s undef = .string y) (oo : Oper) (ho : oo.op = .buildSlice 53 2 #[(0, .tmp t), (1, .tmp s)]) : (execOp a.eval oo).run Tryz.prog w = .ok (.value (.slice (some ⟨w.heap.size, 0, none⟩) 2 2)) (w.alloc (.cells #[.string x, .string y] 9)) := by
  have h1' : a.tmps[t]?.getD undef = .string x := by simpa using h1
  have h2' : a.tmps[s]?.getD undef = .string y := by simpa using h2
  unfold execOp
  rw [ho]
  go_simp

theorem cat_eq (x : ByteArray) (l : List UInt8) : (x ++ ⟨l.toArray⟩ : ByteArray) = ⟨(x.data.toList ++ l).toArray⟩ := by
  have : (x ++ (⟨l.toArray⟩ : ByteArray)).data.toList = x.data.toList ++ l := by simp
  cases h : (x ++ (⟨l.toArray⟩ : ByteArray)) with
  | mk d => rw [h] at this; simp only at this; rw [← this]
theorem text_eq (x : ByteArray) : sv x.data.toList = .string x := by cases x; rfl
def catV (x : Nam) : ByteArray := x.kind ++ ⟨(Lib.itoa x.num).toArray⟩
theorem catV_eq (x : Nam) : Value.string (catV x) = sv (x.kind.data.toList ++ Lib.itoa x.num) := by unfold catV sv; rw [cat_eq]
/-- what operation j of a name's region leaves -/
def nlR (B b X : Nat) (x : Nam) (l : List UInt8) : Nat → (Nat → Value) → World → Prop
  | 0, f, _ => f 65 = .pointer (some ⟨X, 0, none⟩)
  | 1, f, _ => f 66 = .string x.kind
  | 2, f, _ => f 67 = .pointer (some ⟨X, 1, none⟩)
  | 3, f, _ => f 68 = .int .i64 x.num
  | 4, f, _ => f 69 = .string ⟨(Lib.itoa x.num).toArray⟩
  | 5, f, _ => f 70 = .string (catV x)
  | 6, f, _ => f 71 = .pointer (some ⟨X, 2, none⟩)
  | 7, f, _ => f 72 = .string x.text
  | 8, f, w => ∃ g, f 73 = .slice (some ⟨g, 0, none⟩) 2 2 ∧ w.heap[g]? = some (.cells #[.string (catV x), .string x.text] 9 (0, 0))
  | 9, _, w => WS B b (l ++ (namL x ++ [10])) w
  | _, _, _ => True
def nlM (j : Nat) : List Nat := if j < 9 then [65 + j] else []
theorem nl_stab {B b X : Nat} {x : Nam} {l : List UInt8} (j : Nat) {f f' : Nat → Value} {w w' : World} (h8 : j = 8 → ∀ g : Nat, w.heap[g]? = some (Obj.cells #[.string (catV x), .string x.text] 9 (0, 0)) → w'.heap[g]? = w.heap[g]?) (h9 : j = 9 → Below w.heap.size w w') (hf : ∀ t ∈ nlM j, f' t = f t) (h : nlR B b X x l j f w) : nlR B b X x l j f' w' := by
  match j, h8, h9, hf, h with
  | 0, _, _, hf, h => exact (hf 65 (by decide)).trans h
  | 1, _, _, hf, h => exact (hf 66 (by decide)).trans h
  | 2, _, _, hf, h => exact (hf 67 (by decide)).trans h
  | 3, _, _, hf, h => exact (hf 68 (by decide)).trans h
  | 4, _, _, hf, h => exact (hf 69 (by decide)).trans h
  | 5, _, _, hf, h => exact (hf 70 (by decide)).trans h
  | 6, _, _, hf, h => exact (hf 71 (by decide)).trans h
  | 7, _, _, hf, h => exact (hf 72 (by decide)).trans h
  | 8, h8, _, hf, h =>
    obtain ⟨g, h1, h2⟩ := h
    exact ⟨g, (hf 73 (by decide)).trans h1, (h8 rfl g h2).trans h2⟩
  | 9, _, h9, _, h => exact WS.below h (h9 rfl)
  | _ + 10, _, _, _, _ => trivial
theorem two_texts {w : World} {g : Nat} {x : Nam} (h : w.heap[g]? = some (.cells #[.string (catV x), .string x.text] 9 (0, 0))) : ReadsTexts (.slice (some ⟨g, 0, none⟩) 2 2) [x.kind.data.toList ++ Lib.itoa x.num, x.text.data.toList] w :=
  .inr ⟨g, 0, 2, rfl, lt_of_block h, fun i hi => by
    have hi2 : i < 2 := hi
    have e : w.cell? ⟨g, 0 + i, none⟩ = (#[.string (catV x), .string x.text] : Array Value)[i]? := by simp [World.cell?, h]
    rw [e]
    match i, hi2 with
    | 0, _ => exact congrArg some (catV_eq x)
    | 1, _ => exact congrArg some (text_eq x.text).symm⟩
end Go.Proofs.YtckdlbfndmmjjaaGreatDoor.Aag
