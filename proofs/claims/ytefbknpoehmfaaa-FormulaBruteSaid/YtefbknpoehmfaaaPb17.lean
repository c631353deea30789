/- Single operations of the setter's regions; no condition but what each states. -/
import Derived.Test.YtefbknpoehmfaaaPb05
import Derived.Test.YtefbknpoehmfaaaPb16
import Derived.RangeFuncSeq
namespace Go.Proofs.Ytefbknpoehmfaaa.For
open Go.ChangeShapes Go.WideShapes Go.ChangeAt Go.RowKit Go.Maps Circ Cw Cla Rep

theorem op_mv (a : Act) (w : World) (t : Nat) (oo : Oper) (ho : oo.op = .move (.tmp t)) : (execOp a.eval oo).run Try.prog w = .ok (.value (a.tmps.getD t undef)) w := by
  unfold execOp
  rw [ho]
  go_simp
theorem op_nilc (a : Act) (w : World) (A : Addr) (t : Nat) (h : a.tmps.getD t undef = .pointer (some A)) (oo : Oper) (ho : oo.op = .nilCheck (.tmp t)) : (execOp a.eval oo).run Try.prog w = .ok (.value (.pointer (some A))) w := by
  have h' : a.tmps[t]?.getD undef = .pointer (some A) := by simpa using h
  unfold execOp
  rw [ho]
  go_simp
theorem op_cell_setter (a : Act) (w : World) (A : Addr) (t : Nat) (v : Value) (h : a.tmps.getD t undef = .pointer (some A)) (hc : w.cell? A = some v) (oo : Oper) (ho : oo.op = .load 79 (.tmp t)) : (execOp a.eval oo).run Try.prog w = .ok (.value v) w := by
  have h' : a.tmps[t]?.getD undef = .pointer (some A) := by simpa using h
  unfold execOp
  rw [ho]
  go_simp
theorem op_cell_waiting (a : Act) (w : World) (A : Addr) (t : Nat) (v : Value) (h : a.tmps.getD t undef = .pointer (some A)) (hc : w.cell? A = some v) (oo : Oper) (ho : oo.op = .load 81 (.tmp t)) : (execOp a.eval oo).run Try.prog w = .ok (.value v) w := by
  have h' : a.tmps[t]?.getD undef = .pointer (some A) := by simpa using h
  unfold execOp
  rw [ho]
  go_simp
theorem op_cell_ints (a : Act) (w : World) (A : Addr) (t : Nat) (v : Value) (h : a.tmps.getD t undef = .pointer (some A)) (hc : w.cell? A = some v) (oo : Oper) (ho : oo.op = .load 25 (.tmp t)) : (execOp a.eval oo).run Try.prog w = .ok (.value v) w := by
  have h' : a.tmps[t]?.getD undef = .pointer (some A) := by simpa using h
  unfold execOp
  rw [ho]
  go_simp
theorem op_cell_lists (a : Act) (w : World) (A : Addr) (t : Nat) (v : Value) (h : a.tmps.getD t undef = .pointer (some A)) (hc : w.cell? A = some v) (oo : Oper) (ho : oo.op = .load 57 (.tmp t)) : (execOp a.eval oo).run Try.prog w = .ok (.value v) w := by
  have h' : a.tmps[t]?.getD undef = .pointer (some A) := by simpa using h
  unfold execOp
  rw [ho]
  go_simp
theorem op_cell_list (a : Act) (w : World) (A : Addr) (t : Nat) (v : Value) (h : a.tmps.getD t undef = .pointer (some A)) (hc : w.cell? A = some v) (oo : Oper) (ho : oo.op = .load 85 (.tmp t)) : (execOp a.eval oo).run Try.prog w = .ok (.value v) w := by
  have h' : a.tmps[t]?.getD undef = .pointer (some A) := by simpa using h
  unfold execOp
  rw [ho]
  go_simp
theorem op_cell_int (a : Act) (w : World) (A : Addr) (t : Nat) (v : Value) (h : a.tmps.getD t undef = .pointer (some A)) (hc : w.cell? A = some v) (oo : Oper) (ho : oo.op = .load 3 (.tmp t)) : (execOp a.eval oo).run Try.prog w = .ok (.value v) w := by
  have h' : a.tmps[t]?.getD undef = .pointer (some A) := by simpa using h
  unfold execOp
  rw [ho]
  go_simp
theorem op_at_ints (a : Act) (w : World) (b o n q k : Nat) (t s : Nat) (h : a.tmps.getD t undef = .slice (some ⟨b, o, none⟩) n q) (h2 : a.tmps.getD s undef = .int .i64 (k : Int)) (hk : k < n) (oo : Oper) (ho : oo.op = .indexAddr 25 (.tmp t) (.tmp s)) : (execOp a.eval oo).run Try.prog w = .ok (.value (.pointer (some ⟨b, o + k, none⟩))) w := by
  have h' : a.tmps[t]?.getD undef = .slice (some ⟨b, o, none⟩) n q := by simpa using h
  have h2' : a.tmps[s]?.getD undef = .int .i64 (k : Int) := by simpa using h2
  unfold execOp
  rw [ho]
  have h0 : (0 : Int) ≤ k := by omega
  have h1 : (k : Int) < n := by omega
  go_simp
theorem op_at_lists (a : Act) (w : World) (b o n q k : Nat) (t s : Nat) (h : a.tmps.getD t undef = .slice (some ⟨b, o, none⟩) n q) (h2 : a.tmps.getD s undef = .int .i64 (k : Int)) (hk : k < n) (oo : Oper) (ho : oo.op = .indexAddr 57 (.tmp t) (.tmp s)) : (execOp a.eval oo).run Try.prog w = .ok (.value (.pointer (some ⟨b, o + k, none⟩))) w := by
  have h' : a.tmps[t]?.getD undef = .slice (some ⟨b, o, none⟩) n q := by simpa using h
  have h2' : a.tmps[s]?.getD undef = .int .i64 (k : Int) := by simpa using h2
  unfold execOp
  rw [ho]
  have h0 : (0 : Int) ≤ k := by omega
  have h1 : (k : Int) < n := by omega
  go_simp
theorem op_neg (a : Act) (w : World) (x : Int) (t : Nat) (h : a.tmps.getD t undef = .int .i64 x) (hx : IntKind.i64.wrap (-x) = -x) (oo : Oper) (ho : oo.op = .unOp .neg 3 (.tmp t)) : (execOp a.eval oo).run Try.prog w = .ok (.value (.int .i64 (-x))) w := by
  have h' : a.tmps[t]?.getD undef = .int .i64 x := by simpa using h
  unfold execOp
  rw [ho]
  go_simp

theorem op_ne (a : Act) (w : World) (x y : Int) (t s : Nat) (h : a.tmps.getD t undef = .int .i64 x) (h2 : a.tmps.getD s undef = .int .i64 y) (oo : Oper) (ho : oo.op = .binOp .neq 3 (.tmp t) (.tmp s) 3) : (execOp a.eval oo).run Try.prog w = .ok (.value (.bool (x != y))) w := by
  have h' : a.tmps[t]?.getD undef = .int .i64 x := by simpa using h
  have h2' : a.tmps[s]?.getD undef = .int .i64 y := by simpa using h2
  unfold execOp
  rw [ho]
  go_simp
theorem op_not (a : Act) (w : World) (b : Bool) (t : Nat) (h : a.tmps.getD t undef = .bool b) (oo : Oper) (ho : oo.op = .unOp .not 4 (.tmp t)) : (execOp a.eval oo).run Try.prog w = .ok (.value (.bool (!b))) w := by
  have h' : a.tmps[t]?.getD undef = .bool b := by simpa using h
  unfold execOp
  rw [ho]
  go_simp
theorem op_pick (a : Act) (w : World) (b c : Bool) (t s : Nat) (h : a.tmps.getD t undef = .bool b) (h2 : a.tmps.getD s undef = .bool c) (oo : Oper) (ho : oo.op = .pick (.tmp t) (.tmp s) (.const (.bool false))) : (execOp a.eval oo).run Try.prog w = .ok (.value (.bool (b && c))) w := by
  have h' : a.tmps[t]?.getD undef = .bool b := by simpa using h
  have h2' : a.tmps[s]?.getD undef = .bool c := by simpa using h2
  unfold execOp
  rw [ho]
  cases b <;> go_simp
theorem op_pick_no (a : Act) (w : World) (t s : Nat) (h : a.tmps.getD t undef = .bool false) (oo : Oper) (ho : oo.op = .pick (.tmp t) (.tmp s) (.const (.bool false))) : (execOp a.eval oo).run Try.prog w = .ok (.value (.bool false)) w := by
  have h' : a.tmps[t]?.getD undef = .bool false := by simpa using h
  unfold execOp
  rw [ho]
  go_simp
theorem op_plus1 (a : Act) (w : World) (x : Int) (t : Nat) (h : a.tmps.getD t undef = .int .i64 x) (hx : IntKind.i64.wrap (x + 1) = x + 1) (oo : Oper) (ho : oo.op = .binOp .add 3 (.tmp t) (.const (.int .i64 1)) 3) : (execOp a.eval oo).run Try.prog w = .ok (.value (.int .i64 (x + 1))) w := by
  have h' : a.tmps[t]?.getD undef = .int .i64 x := by simpa using h
  unfold execOp
  rw [ho]
  go_simp

/-- a value handed to the loop: the round's own word -/
theorem op_yield2 {n : Nat} {K : Act → World → Prop} {Q : Exit → Act → World → Prop} (a : Act) (w : World) (y : Nat) (u v : Value) (t s r : Nat) (T1 T2 : TypeId) (h : a.tmps.getD t undef = .func (.yield y) #[] #[]) (h1 : a.tmps.getD s undef = u) (h2 : a.tmps.getD r undef = v) (oo : Oper)
    (ho : oo.op = .call { callee := .value (.tmp t), args := #[.tmp s, .tmp r], argTypes := #[T1, T2] }) (hy : YieldAt Fence.wide (n - 1) Try.prog y #[u, v] w fun e w' => ∃ z, e = .returned z ∧ K (a.put oo.dst z) w') : oo.wpIn Fence.wide n Try.prog a w K Q := by
  have h' : a.tmps[t]?.getD undef = .func (.yield y) #[] #[] := by simpa using h
  have h1' : a.tmps[s]?.getD undef = u := by simpa using h1
  have h2' : a.tmps[r]?.getD undef = v := by simpa using h2
  obtain ⟨fn, tmps, assign, body, hr, hR⟩ := hy
  refine ⟨fun f _ => trivial, ?_⟩
  show oo.uponIn Fence.wide n Try.prog a K Q ((execOp a.eval oo).run Try.prog w)
  have e : (execOp a.eval oo).run Try.prog w = .ok (.round y fn tmps assign body) w := by
    unfold execOp
    rw [ho]
    go_simp
  rw [e]
  exact ⟨fun h => (by cases h), hR.mono fun e w' ⟨z, h1, h2⟩ => by subst h1; exact h2⟩
end Go.Proofs.Ytefbknpoehmfaaa.For
