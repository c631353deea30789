/- Arguments that are clauses, opened; the cores of ClauseParts, ClauseSound, ClauseNorm. Condition of the ..U forms: bulk at most 1048576. -/
import Derived.Test.YtefbknpoehmfaaaPt07
import Derived.Test.YtefbknpoehmfaaaRows
import Derived.Test.YtefbknpoehmfaaaPt08
namespace Go.Proofs.Ytefbknpoehmfaaa.Cla
open Go.ChangeShapes Go.WideShapes Go.ChangeAt Go.RowKit Go.Maps Go.Deep Circ Cw
section
variable {H : Type} {enc : TypeId × Value → H} {W : World}
set_option maxRecDepth 100000 in
/-- an argument that is a clause -/
theorem open_ints {r : Reach} {b0 : Nat} {v : Value} {d : DataW H} {p : List MemPlace} (hv : Value.okWide Try.prog W r b0 25 v) (h : DataW.Trod enc Try.prog W 0 (fun _ => true) true 25 v d p)
    (hw : ∀ n ∈ DataW.weights Try.prog 25 d, n ≤ reachBytes) : ∃ (A : Option Addr) (l : List Int) (q : Nat), v = .slice A l.length q ∧ ILies W W.heap.size A l ∧ l.length * 8 ≤ 140737488355328 ∧ (l = [] ∨ ∃ es sp : List (DataW H), d = .slice es sp ∧ es.length = l.length) := by
  obtain ⟨fuel, ht⟩ := h
  obtain ⟨A1, cl, q1, e1, r1, f1, k1, z1⟩ := open_rows 1 (by decide) (fun x : Int => [Value.int .i64 x]) I64 (fun _ => rfl) Try.underlying25 c3 (fun n cs' y h => el_int h) ht
  have hv1 : v = .slice A1 cl.length q1 := by
    obtain ⟨a0, len, cap, rfl⟩ := okWide_slice Try.underlying25 hv
    simpa [Value.cells] using e1
  have hbl : cl.length * 8 ≤ 140737488355328 := row_bytes (l := cl) 8 (by kernel_rfl) Try.underlying25 z1 hw
  have hlen : cl.length ≤ 9223372036854775807 := by omega
  exact ⟨A1, cl, q1, hv1, ⟨r1, f1, hlen⟩, hbl, z1⟩
theorem of_weights {ts : List TypeId} {ds : List (DataW H)} (hsz : (DataW.weightsEach Try.prog ts ds).all (· ≤ reachBytes) = true) (j : Nat) {t : TypeId} {d : DataW H} (ht : ts[j]? = some t) (hd : ds[j]? = some d) : ∀ n ∈ DataW.weights Try.prog t d, n ≤ reachBytes := fun n hn => by
  have := List.all_eq_true.1 hsz n (DataW.weights_mem_each (j := j) ht hd n hn)
  simpa using this
theorem bulk_len : ∀ es : List (DataW H), es.length ≤ Rows.uptoBulkAll es
  | [] => Nat.le_refl _
  | x :: r => by
    have h := bulk_len r
    have h1 : 1 ≤ Rows.uptoBulk x := by
      cases x with
      | lit y => cases y <;> simp [Rows.uptoBulk]
      | _ => simp [Rows.uptoBulk]
    simp only [Rows.uptoBulkAll, List.length_cons]
    omega
end
end Go.Proofs.Ytefbknpoehmfaaa.Cla
