/- Arguments that are a list of calls of a trail, or numbers, opened; the cores of TrailRuns and TrailBack. No condition. -/
import Derived.Test.YtomkdegajhijjaaPt10
import Derived.Test.YtomkdegajhijjaaPt12
namespace Go.Proofs.Ytomkdegajhijjaa.Tra
open Go.ChangeShapes Go.WideShapes Go.ChangeAt Go.RowKit Go.Maps Go.Deep Circ Cw Cla
section
variable {H : Type} {enc : TypeId × Value → H} {W : World}
theorem weights_of {ts : List TypeId} {ds : List (DataW H)} (hsz : (DataW.weightsEach Try.prog ts ds).all (· ≤ reachBytes) = true) (j : Nat) {t : TypeId} {d : DataW H} (ht : ts[j]? = some t) (hd : ds[j]? = some d) : ∀ n ∈ DataW.weights Try.prog t d, n ≤ reachBytes := fun n hn => by
  have := List.all_eq_true.1 hsz n (DataW.weights_mem_each (j := j) ht hd n hn)
  simpa using this
set_option maxRecDepth 100000 in
/-- an argument that is a list of calls -/
theorem open_ops {r : Reach} {b0 : Nat} {v : Value} {d : DataW H} {p : List MemPlace} (hv : Value.okWide Try.prog W r b0 22 v) (h : DataW.Trod enc Try.prog W 0 (fun _ => true) true 22 v d p)
    (hw : ∀ n ∈ DataW.weights Try.prog 22 d, n ≤ reachBytes) : ∃ (A : Option Addr) (l : List Tri) (q : Nat), v = .slice A l.length q ∧ LRow W W.heap.size 3 A (tris l) ∧ (∀ t ∈ l, t.fits) ∧ l.length ≤ 9223372036854775807 := by
  obtain ⟨fuel, ht⟩ := h
  have cop : Try.prog.cellsOf 28 = 3 := by kernel_rfl
  obtain ⟨A1, l, q1, e1, r1, f1, k1, z1⟩ := open_rows 3 (by decide) Tri.cells Tri.fits tri_len Try.underlying22 cop (fun n cs' y h => el_tri _ _ _ ⟨rfl, rfl⟩ ⟨rfl, rfl⟩ ⟨rfl, rfl⟩ Try.underlying28 cop h) ht
  have hv1 : v = .slice A1 l.length q1 := by
    obtain ⟨a0, len, cap, rfl⟩ := okWide_slice Try.underlying22 hv
    simpa [Value.cells] using e1
  have hbl : l.length * 24 ≤ 140737488355328 := row_bytes (l := l) 24 (by kernel_rfl) Try.underlying22 z1 hw
  exact ⟨A1, l, q1, hv1, r1, f1, by omega⟩
set_option maxRecDepth 100000 in
theorem open_nums {r : Reach} {b0 : Nat} {v : Value} {d : DataW H} {p : List MemPlace} (hv : Value.okWide Try.prog W r b0 37 v) (h : DataW.Trod enc Try.prog W 0 (fun _ => true) true 37 v d p)
    (hw : ∀ n ∈ DataW.weights Try.prog 37 d, n ≤ reachBytes) : ∃ (A : Option Addr) (l : List Int) (q : Nat), v = .slice A l.length q ∧ ILies W W.heap.size A l ∧ l.length * 8 ≤ 140737488355328 ∧ l.length ≤ q := by
  obtain ⟨fuel, ht⟩ := h
  obtain ⟨A2, cl, q2, e2, r2, f2, k2, z2⟩ := open_rows 1 (by decide) (fun x : Int => [Value.int .i64 x]) I64 (fun _ => rfl) Try.underlying37 c3 (fun n cs' y h => el_int h) ht
  have hv1 : v = .slice A2 cl.length q2 := by
    obtain ⟨a0, len, cap, rfl⟩ := okWide_slice Try.underlying37 hv
    simpa [Value.cells] using e2
  have hbl : cl.length * 8 ≤ 140737488355328 := row_bytes (l := cl) 8 (by kernel_rfl) Try.underlying37 z2 hw
  exact ⟨A2, cl, q2, hv1, ⟨r2, f2, by omega⟩, hbl, k2⟩
end
set_option maxRecDepth 100000 in
theorem runs_core {I : TrailI} (P : Prog15 I) {H : Type} {enc : TypeId × Value → H} (W : World)
    (x0 : Int) (lo0 : -9223372036854775808 ≤ x0) (hi0 : x0 ≤ 9223372036854775807)
    (v1 : Value) (d1 : DataW H) (p1 : List MemPlace) {r1 : Reach} {b1 : Nat} (hv1 : Value.okWide Try.prog W r1 b1 22 v1) (h1 : DataW.Trod enc Try.prog W 0 (fun _ => true) true 22 v1 d1 p1)
    {d0 : DataW H} {ts : List TypeId} {ds : List (DataW H)} (hsz : (DataW.weightsEach Try.prog (3 :: 22 :: ts) (d0 :: d1 :: ds)).all (· ≤ reachBytes) = true) :
    Calls Try.prog 3 #[.int .i64 x0, v1] W fun e W' => e = .returned (.bool true) ∧ Below W.heap.size W W' := by
  obtain ⟨A1, l1, q1, rfl, a1, f1, k1⟩ := open_ops hv1 h1 (weights_of hsz 1 rfl rfl)
  exact runs_walk P x0 l1 A1 q1 W ⟨lo0, hi0⟩ a1 f1 k1
set_option maxRecDepth 100000 in
theorem back_core {I : TrailI} (P : Prog15 I) {H : Type} {enc : TypeId × Value → H} (W : World)
    (v0 : Value) (d0 : DataW H) (p0 : List MemPlace) {r0 : Reach} {b0 : Nat} (hv0 : Value.okWide Try.prog W r0 b0 37 v0) (h0 : DataW.Trod enc Try.prog W 0 (fun _ => true) true 37 v0 d0 p0)
    (v1 : Value) (d1 : DataW H) (p1 : List MemPlace) {r1 : Reach} {b1 : Nat} (hv1 : Value.okWide Try.prog W r1 b1 37 v1) (h1 : DataW.Trod enc Try.prog W 0 (fun _ => true) true 37 v1 d1 p1)
    {ts : List TypeId} {ds : List (DataW H)} (hsz : (DataW.weightsEach Try.prog (37 :: 37 :: ts) (d0 :: d1 :: ds)).all (· ≤ reachBytes) = true) :
    Calls Try.prog 5 #[v0, v1] W fun e W' => e = .returned (.bool true) ∧ Below W.heap.size W W' := by
  obtain ⟨A0, l0, q0, rfl, a0, f0, k0⟩ := open_nums hv0 h0 (weights_of hsz 0 rfl rfl)
  obtain ⟨A1, l1, q1, rfl, a1, f1, k1⟩ := open_nums hv1 h1 (weights_of hsz 1 rfl rfl)
  exact back_walk P l0 l1 A0 A1 q0 q1 W a0 a1 (by omega)
end Go.Proofs.Ytomkdegajhijjaa.Tra
