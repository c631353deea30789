/- An argument that is a list of calls of a heap, opened; the core of HeapRuns. No condition. -/
import Derived.Test.YtclbbpmofifigaaPt12
import Derived.Test.YtclbbpmofifigaaPt13
namespace Go.Proofs.Ytclbbpmofifigaa.Hep
open Go.ChangeShapes Go.WideShapes Go.ChangeAt Go.RowKit Go.Maps Go.Deep Circ Cw Cla
section
variable {H : Type} {enc : TypeId × Value → H} {W : World}
theorem weights_of {ts : List TypeId} {ds : List (DataW H)} (hsz : (DataW.weightsEach Try.prog ts ds).all (· ≤ reachBytes) = true) (j : Nat) {t : TypeId} {d : DataW H} (ht : ts[j]? = some t) (hd : ds[j]? = some d) : ∀ n ∈ DataW.weights Try.prog t d, n ≤ reachBytes := fun n hn => by
  have := List.all_eq_true.1 hsz n (DataW.weights_mem_each (j := j) ht hd n hn)
  simpa using this
set_option maxRecDepth 100000 in
/-- an argument that is a list of calls -/
theorem open_ops {r : Reach} {b0 : Nat} {v : Value} {d : DataW H} {p : List MemPlace} (hv : Value.okWide Try.prog W r b0 22 v) (h : DataW.Trod enc Try.prog W 0 (fun _ => true) true 22 v d p)
    (hw : ∀ n ∈ DataW.weights Try.prog 22 d, n ≤ reachBytes) : ∃ (A : Option Addr) (l : List Tri) (q : Nat), v = .slice A l.length q ∧ LRow W W.heap.size 3 A (tris l) ∧ (∀ t ∈ l, I64 t.a ∧ I64 t.b ∧ I64 t.c) ∧ l.length ≤ 9223372036854775807 := by
  obtain ⟨fuel, ht⟩ := h
  have cop : Try.prog.cellsOf 28 = 3 := by kernel_rfl
  obtain ⟨A1, l, q1, e1, r1, f1, k1, z1⟩ := open_rows 3 (by decide) Tri.cells Tri.fits tri_len Try.underlying22 cop (fun n cs' y h => el_tri _ _ _ ⟨rfl, rfl⟩ ⟨rfl, rfl⟩ ⟨rfl, rfl⟩ Try.underlying28 cop h) ht
  have hv1 : v = .slice A1 l.length q1 := by
    obtain ⟨a0, len, cap, rfl⟩ := okWide_slice Try.underlying22 hv
    simpa [Value.cells] using e1
  have hbl : l.length * 24 ≤ 140737488355328 := row_bytes (l := l) 24 (by kernel_rfl) Try.underlying22 z1 hw
  exact ⟨A1, l, q1, hv1, r1, f1, by omega⟩
end
set_option maxRecDepth 100000 in
theorem runs_core {I : HeapI} (P : Prog14 I) {H : Type} {enc : TypeId × Value → H} (W : World)
    (x0 : Int) (lo0 : -9223372036854775808 ≤ x0) (hi0 : x0 ≤ 9223372036854775807)
    (v1 : Value) (d1 : DataW H) (p1 : List MemPlace) {r1 : Reach} {b1 : Nat} (hv1 : Value.okWide Try.prog W r1 b1 22 v1) (h1 : DataW.Trod enc Try.prog W 0 (fun _ => true) true 22 v1 d1 p1)
    {d0 : DataW H} {ts : List TypeId} {ds : List (DataW H)} (hsz : (DataW.weightsEach Try.prog (3 :: 22 :: ts) (d0 :: d1 :: ds)).all (· ≤ reachBytes) = true) :
    Calls Try.prog 3 #[.int .i64 x0, v1] W fun e W' => e = .returned (.bool true) ∧ Below W.heap.size W W' := by
  obtain ⟨A1, l1, q1, rfl, a1, f1, k1⟩ := open_ops hv1 h1 (weights_of hsz 1 rfl rfl)
  exact runs_walk P x0 l1 A1 q1 W ⟨lo0, hi0⟩ a1 f1 k1
end Go.Proofs.Ytclbbpmofifigaa.Hep
