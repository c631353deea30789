/- What is being hashed, as it lies in memory; no condition. -/
import Derived.Test.YtefbknpoehmfaaaPb21
import Derived.Test.YtefbknpoehmfaaaPb06
import Derived.Test.YtefbknpoehmfaaaPb04
namespace Go.Proofs.Ytefbknpoehmfaaa.Str
open Go.ChangeShapes Go.WideShapes Go.ChangeAt Go.RowKit Go.Maps Circ Cw

/- one operation changes the world -/
structure Sole (k : Nat) (W0 W1 : World) (d : Nat → Bool) (w : World) : Prop where
  c0 : d k = false → w = W0
  c1 : d k = true → w = W1
theorem Sole.start (k : Nat) (W0 W1 : World) : Sole k W0 W1 (fun _ => false) W0 := ⟨fun _ => rfl, fun h => by cases h⟩
theorem Sole.read {k : Nat} {W0 W1 : World} {d : Nat → Bool} {w : World} (h : Sole k W0 W1 d w) {i : Nat} (hi : k ≠ i) : Sole k W0 W1 (fun j => decide (j = i) || d j) w := by
  obtain ⟨a, b⟩ := h
  constructor <;> simp only [hi, decide_false, Bool.false_or] <;> assumption
theorem Sole.did (k : Nat) (W0 W1 : World) (d : Nat → Bool) : Sole k W0 W1 (fun j => decide (j = k) || d j) W1 := by
  constructor <;> simp
/- three operations change it, one after the other -/
structure Chain (i j k : Nat) (W0 W1 W2 W3 : World) (d : Nat → Bool) (w : World) : Prop where
  c0 : d i = false → w = W0
  c1 : d i = true → d j = false → w = W1
  c2 : d j = true → d k = false → w = W2
  c3 : d k = true → w = W3
  oj : d j = true → d i = true
  ok : d k = true → d j = true
section
variable {i j k : Nat} {W0 W1 W2 W3 : World} {d : Nat → Bool} {w : World}
theorem Chain.start : Chain i j k W0 W1 W2 W3 (fun _ => false) W0 := ⟨fun _ => rfl, (fun h => by cases h), (fun h => by cases h), (fun h => by cases h), (fun h => by cases h), (fun h => by cases h)⟩
theorem Chain.read (h : Chain i j k W0 W1 W2 W3 d w) {x : Nat} (hi : i ≠ x) (hj : j ≠ x) (hk : k ≠ x) : Chain i j k W0 W1 W2 W3 (fun y => decide (y = x) || d y) w := by
  obtain ⟨a, b, c, e, f, g⟩ := h
  constructor <;> simp only [hi, hj, hk, decide_false, Bool.false_or] <;> assumption
theorem Chain.first (hj : d j = false) (hk : d k = false) (e1 : j ≠ i) (e2 : k ≠ i) : Chain i j k W0 W1 W2 W3 (fun y => decide (y = i) || d y) W1 := by
  constructor <;> simp [hj, hk, e1, e2]
theorem Chain.second (hi : d i = true) (hk : d k = false) (e1 : k ≠ j) : Chain i j k W0 W1 W2 W3 (fun y => decide (y = j) || d y) W2 := by
  constructor <;> simp [hi, hk, e1]
theorem Chain.third (h : Chain i j k W0 W1 W2 W3 d w) (hj : d j = true) : Chain i j k W0 W1 W2 W3 (fun y => decide (y = k) || d y) W3 := by
  constructor <;> simp [hj, h.oj hj]
end
/- operations -/
theorem op_move (a : Act) (w : World) (t : Nat) (oo : Oper) (ho : oo.op = .move (.tmp t)) : (execOp a.eval oo).run Try.prog w = .ok (.value (a.tmps.getD t undef)) w := by
  unfold execOp
  rw [ho]
  go_simp
theorem op_assign (a : Act) (w : World) (t : Nat) (oo : Oper) (ho : oo.op = .assign (.tmp t)) : (execOp a.eval oo).run Try.prog w = .ok (.value (a.tmps.getD t undef)) w := by
  unfold execOp
  rw [ho]
  go_simp
theorem op_call1 (a : Act) (w : World) (f t T : Nat) (hf : ∀ args w, (callFunc f args).run Try.prog w = .ok (.enter f args) w) (oo : Oper) (ho : oo.op = .call { callee := .value (.func f), args := #[.tmp t], argTypes := #[T] }) : (execOp a.eval oo).run Try.prog w = .ok (.enter f #[a.tmps.getD t undef]) w := by
  unfold execOp
  rw [ho]
  go_simp
theorem op_apps (a : Act) (w w' : World) (T : TypeId) (t s : Nat) (v v' x : Value) (h1 : a.tmps.getD t undef = v) (h2 : a.tmps.getD s undef = x) (oo : Oper) (hr : ∀ ty, (Builtin.append_ #[T, T] ty #[v, x]).run Try.prog w = .ok v' w') (ho : oo.op = .call { callee := .builtin .append, args := #[.tmp t, .tmp s], argTypes := #[T, T] }) :
    (execOp a.eval oo).run Try.prog w = .ok (.value v') w' := by
  have hs : a.eval (.tmp t) = v := h1
  have hx : a.eval (.tmp s) = x := h2
  unfold execOp
  simp only [ho, resolve, invoke, builtin, Sem.run_bind, Sem.run_pure, Result.andThen_ok, List.map_toArray, List.map_cons, List.map_nil, hs, hx, hr]
end Go.Proofs.Ytefbknpoehmfaaa.Str
