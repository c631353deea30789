/- Arguments that are clauses, opened; the cores of ClauseParts, ClauseSound, ClauseNorm. Condition of the ..U forms: bulk at most 1048576. -/
import Derived.Test.YtoifogbfhlnlaaaPt01
import Derived.Test.YtoifogbfhlnlaaaRows
import Derived.Test.YtoifogbfhlnlaaaPt06
namespace Go.Proofs.Ytoifogbfhlnlaaa.Cla
open Go.ChangeShapes Go.WideShapes Go.ChangeAt Go.RowKit Go.Maps Go.Deep Circ Cw
section
variable {H : Type} {enc : TypeId × Value → H} {W : World}
set_option maxRecDepth 100000 in
/-- an argument that is a clause -/
theorem open_ints {r : Reach} {b0 : Nat} {v : Value} {d : DataW H} {p : List MemPlace} (hv : Value.okWide Try.prog W r b0 22 v) (h : DataW.Trod enc Try.prog W 0 (fun _ => true) true 22 v d p)
    (hw : ∀ n ∈ DataW.weights Try.prog 22 d, n ≤ reachBytes) : ∃ (A : Option Addr) (l : List Int) (q : Nat), v = .slice A l.length q ∧ ILies W W.heap.size A l ∧ l.length * 8 ≤ 140737488355328 ∧ (l = [] ∨ ∃ es sp : List (DataW H), d = .slice es sp ∧ es.length = l.length) := by
  obtain ⟨fuel, ht⟩ := h
  obtain ⟨A1, cl, q1, e1, r1, f1, k1, z1⟩ := open_rows 1 (by decide) (fun x : Int => [Value.int .i64 x]) I64 (fun _ => rfl) Try.underlying22 c3 (fun n cs' y h => el_int h) ht
  have hv1 : v = .slice A1 cl.length q1 := by
    obtain ⟨a0, len, cap, rfl⟩ := okWide_slice Try.underlying22 hv
    simpa [Value.cells] using e1
  have hbl : cl.length * 8 ≤ 140737488355328 := row_bytes (l := cl) 8 (by kernel_rfl) Try.underlying22 z1 hw
  have hlen : cl.length ≤ 9223372036854775807 := by omega
  exact ⟨A1, cl, q1, hv1, ⟨r1, f1, hlen⟩, hbl, z1⟩
theorem of_weights {ts : List TypeId} {ds : List (DataW H)} (hsz : (DataW.weightsEach Try.prog ts ds).all (· ≤ reachBytes) = true) (j : Nat) {t : TypeId} {d : DataW H} (ht : ts[j]? = some t) (hd : ds[j]? = some d) : ∀ n ∈ DataW.weights Try.prog t d, n ≤ reachBytes := fun n hn => by
  have := List.all_eq_true.1 hsz n (DataW.weights_mem_each (j := j) ht hd n hn)
  simpa using this
theorem bulk_len : ∀ es : List (DataW H), es.length ≤ Rows.uptoBulkAll es
  | [] => Nat.le_refl _
  | x :: r => by
    have h := bulk_len r
    have h1 : 1 ≤ Rows.uptoBulk x := by
      cases x with
      | lit y => cases y <;> simp [Rows.uptoBulk]
      | _ => simp [Rows.uptoBulk]
    simp only [Rows.uptoBulkAll, List.length_cons]
    omega
/-- so long is a clause at most as its reading's bulk -/
theorem ints_bulk {l : List Int} {d : DataW H} (h : l = [] ∨ ∃ es sp : List (DataW H), d = .slice es sp ∧ es.length = l.length) : l.length ≤ Rows.uptoBulk d := by
  rcases h with rfl | ⟨es, sp, rfl, e⟩
  · exact Nat.zero_le _
  · have := bulk_len es
    simp only [Rows.uptoBulk]
    omega
end
set_option maxRecDepth 100000 in
theorem parts_core (P : Prog10 17592186044416) {H : Type} {enc : TypeId × Value → H} (W : World)
    (v0 : Value) (d0 : DataW H) (p0 : List MemPlace) {r0 : Reach} {b0 : Nat} (hv0 : Value.okWide Try.prog W r0 b0 22 v0) (h0 : DataW.Trod enc Try.prog W 0 (fun _ => true) true 22 v0 d0 p0)
    (v1 : Value) (d1 : DataW H) (p1 : List MemPlace) {r1 : Reach} {b1 : Nat} (hv1 : Value.okWide Try.prog W r1 b1 22 v1) (h1 : DataW.Trod enc Try.prog W 0 (fun _ => true) true 22 v1 d1 p1)
    (v2 : Value) (d2 : DataW H) (p2 : List MemPlace) {r2 : Reach} {b2 : Nat} (hv2 : Value.okWide Try.prog W r2 b2 22 v2) (h2 : DataW.Trod enc Try.prog W 0 (fun _ => true) true 22 v2 d2 p2)
    {ts : List TypeId} {ds : List (DataW H)} (hsz : (DataW.weightsEach Try.prog (22 :: 22 :: 22 :: ts) (d0 :: d1 :: d2 :: ds)).all (· ≤ reachBytes) = true) :
    Calls Try.prog 5 #[v0, v1, v2] W fun e W' => e = .returned (.bool true) ∧ Below W.heap.size W W' := by
  obtain ⟨A0, l0, q0, rfl, a0, z0, y0⟩ := open_ints hv0 h0 (of_weights hsz 0 rfl rfl)
  obtain ⟨A1, l1, q1, rfl, a1, z1, y1⟩ := open_ints hv1 h1 (of_weights hsz 1 rfl rfl)
  obtain ⟨A2, l2, q2, rfl, a2, z2, y2⟩ := open_ints hv2 h2 (of_weights hsz 2 rfl rfl)
  exact parts_walk P (by decide) l0 l1 l2 A0 A1 A2 q0 q1 q2 W a0 a1 a2 (by omega) (by omega) (by omega)
set_option maxRecDepth 100000 in
theorem sound_coreU (P : Prog10 17592186044416) {H : Type} {enc : TypeId × Value → H} (W : World)
    (v0 : Value) (d0 : DataW H) (p0 : List MemPlace) {r0 : Reach} {b0 : Nat} (hv0 : Value.okWide Try.prog W r0 b0 22 v0) (h0 : DataW.Trod enc Try.prog W 0 (fun _ => true) true 22 v0 d0 p0)
    (v1 : Value) (d1 : DataW H) (p1 : List MemPlace) {r1 : Reach} {b1 : Nat} (hv1 : Value.okWide Try.prog W r1 b1 22 v1) (h1 : DataW.Trod enc Try.prog W 0 (fun _ => true) true 22 v1 d1 p1)
    (x2 : Int) (lo2 : -9223372036854775808 ≤ x2) (hi2 : x2 ≤ 9223372036854775807)
    (s3 : ByteArray) (hs3 : s3.size ≤ maxLen)
    {d2 d3 : DataW H}
    (hbulk : Rows.uptoBulkAll [d0, d1, d2, d3] ≤ 1048576)
    {ts : List TypeId} {ds : List (DataW H)} (hsz : (DataW.weightsEach Try.prog (22 :: 22 :: 3 :: 9 :: ts) (d0 :: d1 :: d2 :: d3 :: ds)).all (· ≤ reachBytes) = true) :
    Calls Try.prog 3 #[v0, v1, .int .i64 x2, .string s3] W fun e W' => e = .returned (.bool true) ∧ Below W.heap.size W W' := by
  obtain ⟨A0, l0, q0, rfl, a0, z0, y0⟩ := open_ints hv0 h0 (of_weights hsz 0 rfl rfl)
  have u0 := ints_bulk y0
  obtain ⟨A1, l1, q1, rfl, a1, z1, y1⟩ := open_ints hv1 h1 (of_weights hsz 1 rfl rfl)
  have u1 := ints_bulk y1
  unfold maxLen at hs3
  simp only [Rows.uptoBulkAll] at hbulk
  exact sound_walk P (by decide) l0 l1 A0 A1 q0 q1 x2 s3 W a0 a1 ⟨lo2, hi2⟩ hs3 (by omega)
set_option maxRecDepth 100000 in
theorem norm_core (P : Prog10 17592186044416) {H : Type} {enc : TypeId × Value → H} (W : World)
    (v0 : Value) (d0 : DataW H) (p0 : List MemPlace) {r0 : Reach} {b0 : Nat} (hv0 : Value.okWide Try.prog W r0 b0 22 v0) (h0 : DataW.Trod enc Try.prog W 0 (fun _ => true) true 22 v0 d0 p0)
    {ts : List TypeId} {ds : List (DataW H)} (hsz : (DataW.weightsEach Try.prog (22 :: ts) (d0 :: ds)).all (· ≤ reachBytes) = true) :
    Calls Try.prog 4 #[v0] W fun e W' => e = .returned (.bool true) ∧ Below W.heap.size W W' := by
  obtain ⟨A0, l0, q0, rfl, a0, z0, y0⟩ := open_ints hv0 h0 (of_weights hsz 0 rfl rfl)
  exact norm_walk P (by decide) l0 A0 q0 W a0 (by omega)
end Go.Proofs.Ytoifogbfhlnlaaa.Cla
