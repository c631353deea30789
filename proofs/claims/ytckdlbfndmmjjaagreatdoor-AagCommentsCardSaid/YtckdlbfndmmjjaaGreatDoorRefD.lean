/- The pages' own look at a circuit, walked: whether it may be; no condition. -/
import Derived.Test.YtckdlbfndmmjjaaGreatDoorApp
namespace Go.Proofs.YtckdlbfndmmjjaaGreatDoor.Cw
open Go.ChangeShapes Go.WideShapes Go.ChangeAt Go.RowKit Go.Maps Circ

theorem OwnI.cell {w : World} {base : Nat} {v : Value} {xs : List Int} (h : OwnI w base v xs) {k : Nat} (hk : k < xs.length) : ∃ b o q, v = .slice (some ⟨b, o, none⟩) xs.length q ∧ xs.length ≤ q ∧ q ≤ 9223372036854775807 ∧ w.cell? ⟨b, o + k, none⟩ = some (.int .i64 xs[k]) ∧ LRow w w.heap.size 1 (some ⟨b, o, none⟩) (ints xs) := by
  obtain ⟨A, q, hv, hr, hq, hq2⟩ := h.row
  obtain ⟨b, o, rfl, hb, hc⟩ := hr.int hk
  exact ⟨b, o, q, hv, hq, hq2, hc, hr⟩
theorem LRow.take {w : World} {B : Nat} {A : Option Addr} {l : List Int} (h : LRow w B 1 A (ints l)) (i : Nat) : LRow w B 1 A (ints (l.take i)) := by
  rcases h with h | ⟨b, o, e, hb, hc⟩
  · left; simp [ints] at h; subst h; simp [ints]
  · refine .inr ⟨b, o, e, hb, fun j ys hj k u hk => ?_⟩
    refine hc j ys ?_ k u hk
    unfold ints at hj ⊢
    rw [List.map_take, List.getElem?_take] at hj
    split at hj
    · exact hj
    · cases hj

/-- the row of one number that a call lays for an append -/
theorem one_row (w : World) (x : Int) (t : TypeId) : LRow (w.alloc (.cells #[.int .i64 x] t)) (w.heap.size + 1) 1 (some ⟨w.heap.size, 0, none⟩) (ints [x]) :=
  .inr ⟨_, 0, rfl, Nat.lt_succ_self _, fun i ys hi j u hj => by
    match i, hi with
    | 0, hi =>
      obtain rfl : [Value.int .i64 x] = ys := by simpa [ints] using hi
      match j, hj with
      | 0, hj =>
        obtain rfl : Value.int .i64 x = u := by simpa using hj
        rw [new_cell]; rfl⟩
theorem own_below {w w' : World} {base : Nat} {v : Value} {xs : List Int} (h : OwnI w base v xs) (hg : w.grownBy w' v.ownBlock) (hb : base ≤ w.heap.size) : Below base w w' :=
  ⟨hg.os, hg.tape, hg.output, hg.size, fun k hk => hg.block k (by omega) (fun e => by have := h.block_lt k e.symm; omega)⟩
theorem own_cell {w w' : World} {base : Nat} {v : Value} {xs : List Int} (h : OwnI w base v xs) {w1 : World} (hg : w1.grownBy w' v.ownBlock) {p : Addr} {u : Value} (hc : w1.cell? p = some u) (hp : w.heap.size ≤ p.block) : w'.cell? p = some u :=
  (World.cell?_of_block (hg.block p.block (World.block_lt_of_cell? _ _ hc) (fun e => by have := h.block_lt p.block e.symm; omega))).trans hc
end Go.Proofs.YtckdlbfndmmjjaaGreatDoor.Cw
