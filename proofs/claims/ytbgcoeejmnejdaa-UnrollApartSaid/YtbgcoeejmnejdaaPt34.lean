/- append(x, y...) of lists of any elements, the first one made by the call itself; no condition. -/
import Derived.Test.YtbgcoeejmnejdaaPt11
import Derived.Deep.DeepAppendWide
namespace Go.Proofs.Ytbgcoeejmnejdaa.Cw
open Go.ChangeShapes Go.WideShapes Go.ChangeAt Go.RowKit Go.Maps Circ

/-- nothing, appended to a list that the call made -/
theorem run_append_none (w : World) (base : Nat) (T e ty : TypeId) (m bytes : Nat) (z : Value) (hT : Try.prog.underlying T = some (.slice e)) (hi : (Try.prog.info? e).map (fun i => (i.zero, i.size, i.bytes)) = some (some z, m, bytes)) (v : Value) (xs : List (List Value)) (hown : OwnC w base e m v xs) (c : Nat) :
    (Builtin.append_ #[T, T] ty #[v, .slice none 0 c]).run Try.prog w = .ok v w := by
  obtain ⟨i0, hi0, hz0, hz1, hz2⟩ := info_parts hi
  rcases hown.2 with ⟨rfl, _⟩ | ⟨g, cap, cur, rfl, _, _, hnc, _⟩
  · simp [Builtin.append_, run_underlying hT, sizeOf, typeInfo, hi0, Builtin.lenOf, Builtin.firstCells]
  · simp [Builtin.append_, run_underlying hT, sizeOf, typeInfo, hi0, Builtin.lenOf, Builtin.firstCells, hnc, storeCells]
theorem run_append_row (w : World) (base B : Nat) (T e ty : TypeId) (m bytes : Nat) (z : Value) (hT : Try.prog.underlying T = some (.slice e)) (hi : (Try.prog.info? e).map (fun i => (i.zero, i.size, i.bytes)) = some (some z, m, bytes)) (hzs : z.cells.size = m) (hm : 0 < m)
    (v : Value) (xs l : List (List Value)) (hown : OwnC w base e m v xs) (A : Option Addr) (c : Nat) (hr : LRow w B m A l) (hlen : ∀ y ∈ l, y.length = m) (hone : ∀ y ∈ l, ∀ u ∈ y, u.oneCell' = true) (hbytes : (xs.length + l.length) * bytes ≤ 140737488355328) (hmax : xs.length + l.length ≤ 9223372036854775807) (hbase : base ≤ w.heap.size) :
    ∃ v' w', (Builtin.append_ #[T, T] ty #[v, .slice A l.length c]).run Try.prog w = .ok v' w' ∧ OwnC w' base e m v' (xs ++ l) ∧ Below base w w' ∧ (∀ k, k < w.heap.size → some k ≠ v.ownBlock → w'.heap[k]? = w.heap[k]?) := by
  obtain ⟨i0, hi0, hz0, hz1, hz2⟩ := info_parts hi
  have go : ∀ ad : Addr, A = some ad → (∀ j u, l.flatten[j]? = some u → w.cell? (ad.add j) = some u) → ∃ v' w', (Builtin.append_ #[T, T] ty #[v, .slice A l.length c]).run Try.prog w = .ok v' w' ∧ OwnC w' base e m v' (xs ++ l) ∧ Below base w w' ∧ (∀ k, k < w.heap.size → some k ≠ v.ownBlock → w'.heap[k]? = w.heap[k]?) := fun ad hA hc => by
    obtain ⟨v', w', h1, h2, h3, _, h5⟩ := run_append_own_at (P := Try.prog) w base T ty e i0 z m bytes hT hi0 hz0 hz1 hz2 hzs hm v xs.length xs.flatten hown ad l.length c l.flatten (flatten_len m l hlen) hc (fun u hu => by
      obtain ⟨y, hy, hu'⟩ := List.mem_flatten.1 hu
      exact hone y hy u hu') (by unfold maxLen; omega) hbytes hbase
    refine ⟨v', w', by rw [hA]; exact h1, ?_, ⟨h3.os, h3.tape, h3.output, h3.size, fun k hk => h3.block k (by omega) (fun e => by have := hown.block_lt k e.symm; omega)⟩, fun k hk hne => h3.block k hk hne⟩
    unfold OwnC
    rw [List.length_append, List.flatten_append]
    exact h2
  rcases hr with h0 | ⟨b', o', e', hb, hc⟩
  · subst h0
    rcases A with _ | ad
    · exact ⟨v, w, run_append_none w base T e ty m bytes z hT hi v xs hown c, by simpa using hown, Below.refl _ _, fun _ _ _ => rfl⟩
    · exact go ad rfl (fun j u hj => by simp at hj)
  · refine go _ e' (fun j u hj => ?_)
    rw [flatten_at m hm l hlen] at hj
    cases hq : l[j / m]? with
    | none => rw [hq] at hj; cases hj
    | some y =>
      rw [hq] at hj
      have h1 := hc (j / m) y hq (j % m) u hj
      have h3 : (⟨b', o', none⟩ : Addr).add j = ⟨b', o' + (j / m * m + j % m), none⟩ := by
        rw [show j / m * m + j % m = j by rw [Nat.mul_comm]; exact Nat.div_add_mod j m]
        unfold Addr.add
        by_cases hz : j = 0
        · simp [hz]
        · simp [hz]
      rw [h3]; exact h1
theorem wpList_append_row {ops : Array Oper} {rest : List Oper} {o : Oper} {a : Act} {Q : Exit → Act → World → Prop} (w : World) (hgd : o.guard = none) (s x : Operand) (T : TypeId)
    (ho : o.op = .call { callee := .builtin .append, args := #[s, x], argTypes := #[T, T] })
    (base B : Nat) (e : TypeId) (m bytes : Nat) (z : Value) (hT : Try.prog.underlying T = some (.slice e)) (hi : (Try.prog.info? e).map (fun i => (i.zero, i.size, i.bytes)) = some (some z, m, bytes)) (hzs : z.cells.size = m) (hm : 0 < m)
    (v : Value) (xs l : List (List Value)) (hs : a.eval s = v) (hown : OwnC w base e m v xs) (A : Option Addr) (n c : Nat) (hn : n = l.length) (hx : a.eval x = .slice A n c) (hr : LRow w B m A l) (hlen : ∀ y ∈ l, y.length = m) (hone : ∀ y ∈ l, ∀ u ∈ y, u.oneCell' = true) (hbytes : (xs.length + l.length) * bytes ≤ 140737488355328) (hmax : xs.length + l.length ≤ 9223372036854775807) (hbase : base ≤ w.heap.size)
    (h : ∀ v' w', OwnC w' base e m v' (xs ++ l) → Below base w w' → (∀ k, k < w.heap.size → some k ≠ v.ownBlock → w'.heap[k]? = w.heap[k]?) → wpList Try.prog ops Q rest (a.put o.dst v') w') : wpList Try.prog ops Q (o :: rest) a w := by
  subst hn
  obtain ⟨v', w', hr', h2, h3, h4⟩ := run_append_row w base B T e o.type m bytes z hT hi hzs hm v xs l hown A c hr hlen hone hbytes hmax hbase
  refine wpList_plain hgd fun K hK => ?_
  unfold Oper.wp execOp
  simp only [ho, resolve, invoke, builtin, Sem.run_bind, Sem.run_pure, Result.andThen_ok, List.map_toArray, List.map_cons, List.map_nil, hs, hx, hr']
  exact hK _ _ (h v' w' h2 h3 h4)
end Go.Proofs.Ytbgcoeejmnejdaa.Cw
