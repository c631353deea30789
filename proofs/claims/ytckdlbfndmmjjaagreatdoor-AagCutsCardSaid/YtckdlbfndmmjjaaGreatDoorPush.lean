/- Appending to a list of any elements that a call makes itself; no condition. -/
import Derived.Test.YtckdlbfndmmjjaaGreatDoorOwnC
namespace Go.Proofs.YtckdlbfndmmjjaaGreatDoor.Cw
open Go.ChangeShapes Go.WideShapes Go.ChangeAt Go.RowKit Go.Maps Circ

theorem wpList_push {ops : Array Oper} {rest : List Oper} {o : Oper} {a : Act} {Q : Exit → Act → World → Prop} (w : World) (hgd : o.guard = none) (s x : Operand) (T : TypeId)
    (ho : o.op = .call { callee := .builtin .append, args := #[s, x], argTypes := #[T, T] })
    (e m bytes : Nat) (z : Value) (hT : Tryz.prog.underlying T = some (.slice e)) (hi : (Tryz.prog.info? e).map (fun i => (i.zero, i.size, i.bytes)) = some (some z, m, bytes)) (hzs : z.cells.size = m) (hm : 0 < m)
    (base : Nat) (v : Value) (xs : List (List Value)) (hown : OwnC w base e m v xs) (hs : a.eval s = v) (g : Nat) (c : Nat) (hx : a.eval x = .slice (some ⟨g, 0, none⟩) 1 c) (y : List Value) (hy : ∀ j u, y[j]? = some u → w.cell? ⟨g, j, none⟩ = some u)
    (hlen : y.length = m) (hone : ∀ u ∈ y, u.oneCell' = true) (hbytes : (xs.length + 1) * bytes ≤ 140737488355328) (hmax : xs.length + 1 ≤ 9223372036854775807) (hbase : base ≤ w.heap.size)
    (h : ∀ v' w', OwnC w' base e m v' (xs ++ [y]) → Below base w w' → (∀ k, k < w.heap.size → some k ≠ v.ownBlock → w'.heap[k]? = w.heap[k]?) → wpList Tryz.prog ops Q rest (a.put o.dst v') w') : wpList Tryz.prog ops Q (o :: rest) a w := by
  obtain ⟨i0, hi0, hz0, hz1, hz2⟩ := info_parts hi
  obtain ⟨v', w', h1, h2, h3, _, h5⟩ := run_append_own_at (P := Tryz.prog) w base T o.type e i0 z m bytes hT hi0 hz0 hz1 hz2 hzs hm v xs.length xs.flatten hown ⟨g, 0, none⟩ 1 c y (by rw [Nat.one_mul]; exact hlen) (fun j u hj => by
    have e : (⟨g, 0, none⟩ : Addr).add j = ⟨g, j, none⟩ := by unfold Addr.add; by_cases hz : j = 0 <;> simp [hz]
    rw [e]; exact hy j u hj) hone (by unfold maxLen; omega) hbytes hbase
  refine wpList_plain hgd fun K hK => ?_
  unfold Oper.wp execOp
  simp only [ho, resolve, invoke, builtin, Sem.run_bind, Sem.run_pure, Result.andThen_ok, List.map_toArray, List.map_cons, List.map_nil, hs, hx, h1]
  refine hK _ _ (h v' w' ?_ ?_ ?_)
  · unfold OwnC
    simpa using h2
  · exact ⟨h3.os, h3.tape, h3.output, h3.size, fun k hk => h3.block k (by omega) (fun e => by have := hown.block_lt k e.symm; omega)⟩
  · exact fun k hk hne => h3.block k hk hne
theorem step_push {o : Oper} {a : Act} {K : Act → World → Prop} {Q : Exit → Act → World → Prop} (w : World) (s x : Operand) (T : TypeId)
    (ho : o.op = .call { callee := .builtin .append, args := #[s, x], argTypes := #[T, T] })
    (e m bytes : Nat) (z : Value) (hT : Tryz.prog.underlying T = some (.slice e)) (hi : (Tryz.prog.info? e).map (fun i => (i.zero, i.size, i.bytes)) = some (some z, m, bytes)) (hzs : z.cells.size = m) (hm : 0 < m)
    (base : Nat) (v : Value) (xs : List (List Value)) (hown : OwnC w base e m v xs) (hs : a.eval s = v) (g : Nat) (c : Nat) (hx : a.eval x = .slice (some ⟨g, 0, none⟩) 1 c) (y : List Value) (hy : ∀ j u, y[j]? = some u → w.cell? ⟨g, j, none⟩ = some u)
    (hlen : y.length = m) (hone : ∀ u ∈ y, u.oneCell' = true) (hbytes : (xs.length + 1) * bytes ≤ 140737488355328) (hmax : xs.length + 1 ≤ 9223372036854775807) (hbase : base ≤ w.heap.size)
    (h : ∀ v' w', OwnC w' base e m v' (xs ++ [y]) → Below base w w' → (∀ k, k < w.heap.size → some k ≠ v.ownBlock → w'.heap[k]? = w.heap[k]?) → K (a.put o.dst v') w') : o.wp Tryz.prog a w K Q := by
  obtain ⟨i0, hi0, hz0, hz1, hz2⟩ := info_parts hi
  obtain ⟨v', w', h1, h2, h3, _, h5⟩ := run_append_own_at (P := Tryz.prog) w base T o.type e i0 z m bytes hT hi0 hz0 hz1 hz2 hzs hm v xs.length xs.flatten hown ⟨g, 0, none⟩ 1 c y (by rw [Nat.one_mul]; exact hlen) (fun j u hj => by
    have e : (⟨g, 0, none⟩ : Addr).add j = ⟨g, j, none⟩ := by unfold Addr.add; by_cases hz : j = 0 <;> simp [hz]
    rw [e]; exact hy j u hj) hone (by unfold maxLen; omega) hbytes hbase
  unfold Oper.wp execOp
  simp only [ho, resolve, invoke, builtin, Sem.run_bind, Sem.run_pure, Result.andThen_ok, List.map_toArray, List.map_cons, List.map_nil, hs, hx, h1]
  refine h v' w' ?_ ?_ ?_
  · unfold OwnC
    simpa using h2
  · exact ⟨h3.os, h3.tape, h3.output, h3.size, fun k hk => h3.block k (by omega) (fun e => by have := hown.block_lt k e.symm; omega)⟩
  · exact fun k hk hne => h3.block k hk hne
end Go.Proofs.YtckdlbfndmmjjaaGreatDoor.Cw
