/- The walks of circuit's looks at literals that are named, and at those that stand for what they are alone; no condition. The walk of circuit's look at all literals that stand for what they are alone; no condition. The walks of circuit's looks at latches and at ands; no condition. The walk of circuit's look at names; no condition. circuit.Check: what it tells of any circuit; no condition. Lists of numbers that a call makes itself: what appending leaves; no condition. -/
import Derived.Test.YtomkdegajhijjaaPt02
import Derived.Deep.RegionWith
import Derived.Deep.RegionHeld3
import Derived.BigRegion
import Derived.Deep.Draws
import Derived.Recover
import Derived.Maps.AppendAt
import Derived.OwnWalk
namespace Go.Proofs.Ytomkdegajhijjaa.Cw
open Go.ChangeShapes Go.WideShapes Go.ChangeAt Go.RowKit Go.Maps Circ

theorem IsSet.ne_ {w : World} {B g o : Nat} {S : List Int} {v : Value} (h : IsSet w B S) (hc : w.cell? ⟨g, o, none⟩ = some v) : g ≠ B := by
  rintro rfl
  obtain ⟨n, D, ⟨es, cl, h0, _⟩, _⟩ := h
  simp [World.cell?, h0] at hc
end Go.Proofs.Ytomkdegajhijjaa.Cw
namespace Go.Proofs.Ytomkdegajhijjaa.Cw
open Go.ChangeShapes Go.WideShapes Go.ChangeAt Go.RowKit Go.Maps Circ

theorem grow_cell {w w' : World} {B : Nat} (h : w.grownBy w' (some B)) {p : Addr} {v : Value} (hc : w.cell? p = some v) (hne : p.block ≠ B) : w'.cell? p = some v :=
  (World.cell?_of_block (h.block p.block (World.block_lt_of_cell? _ _ hc) (fun e => hne (Option.some.inj e)))).trans hc
theorem below_grown {w w' : World} (B : Nat) (h : Below w.heap.size w w') : w.grownBy w' (some B) := ⟨h.os, h.tape, h.output, h.size, fun k hk _ => h.block k hk⟩
theorem grown_below {w w' : World} {B C : Nat} (h : w.grownBy w' (some B)) (hC : C ≤ B) (hs : C ≤ w.heap.size) : Below C w w' := ⟨h.os, h.tape, h.output, h.size, fun k hk => h.block k (by omega) (fun e => by have := Option.some.inj e; omega)⟩

/-- what holds all through the look: the circuit's variable, the set's, and what was met -/
structure Met (c : Cir) (s : Places) (W : World) (gm B : Nat) (S : List Int) (w : World) : Prop where
  c0 : w.cell? ⟨W.heap.size, 0, none⟩ = some (.int .i64 c.max)
  c1 : w.cell? ⟨W.heap.size, 1, none⟩ = some (.slice s.ai c.ins.length s.ki)
  c2 : w.cell? ⟨W.heap.size, 2, none⟩ = some (.slice s.al c.lats.length s.kl)
  c6 : w.cell? ⟨W.heap.size, 6, none⟩ = some (.slice s.aa c.ands.length s.ka)
  cm : w.cell? ⟨gm, 0, none⟩ = some (.map (some B))
  hS : IsSet w B S
  hb : Below W.heap.size W w
  hB : W.heap.size < B
theorem Met.grow {c : Cir} {s : Places} {W : World} {gm B : Nat} {S T : List Int} {w w' : World} (h : Met c s W gm B S w) (hg : w.grownBy w' (some B)) (hT : IsSet w' B T) : Met c s W gm B T w' :=
  have n0 : W.heap.size ≠ B := by have := h.hB; omega
  ⟨grow_cell hg h.c0 n0, grow_cell hg h.c1 n0, grow_cell hg h.c2 n0, grow_cell hg h.c6 n0, grow_cell hg h.cm (h.hS.ne_ h.cm), hT, h.hb.trans (grown_below hg (by have := h.hB; omega) h.hb.size), h.hB⟩
theorem Met.alloc {c : Cir} {s : Places} {W : World} {gm B : Nat} {S : List Int} {w : World} (h : Met c s W gm B S w) (o : Obj) : Met c s W gm B S (w.alloc o) :=
  h.grow (below_grown B ((Below.refl _ _).alloc (Nat.le_refl _) o)) (h.hS.alloc o)

def own (c : Cir) : List Int := c.ins ++ (c.lats.map Tri.a ++ c.ands.map Tri.a)
end Go.Proofs.Ytomkdegajhijjaa.Cw
namespace Go.Proofs.Ytomkdegajhijjaa.Cw
open Go.ChangeShapes Go.WideShapes Go.ChangeAt Go.RowKit Go.Maps Circ

/-- a state that goes from element to element, as long as each may be there -/
def through {σ α : Type} (f : σ → α → Option σ) : σ → List α → Option σ
  | p, [] => some p
  | p, x :: l => (f p x).bind fun q => through f q l
def Box (w : World) (g : Nat) (c : Cir) (s : Places) : Prop := ∀ (i : Nat) v, (cirC c s)[i]? = some v → w.cell? ⟨g, i, none⟩ = some v
theorem Box.keep {w w' : World} {g C : Nat} {c : Cir} {s : Places} (h : Box w g c s) (hb : Below C w w') (hg : g < C) : Box w' g c s := fun i v hv => (hb.cell hg).trans (h i v hv)
theorem Box.cells {w : World} {g : Nat} {c : Cir} {s : Places} (h : Box w g c s) : w.cell? ⟨g, 0, none⟩ = some (.int .i64 c.max) ∧ w.cell? ⟨g, 1, none⟩ = some (.slice s.ai c.ins.length s.ki) ∧ w.cell? ⟨g, 2, none⟩ = some (.slice s.al c.lats.length s.kl) ∧
    w.cell? ⟨g, 3, none⟩ = some (.slice s.ao c.outs.length s.ko) ∧ w.cell? ⟨g, 4, none⟩ = some (.slice s.ab c.bads.length s.kb) ∧ w.cell? ⟨g, 5, none⟩ = some (.slice s.ac c.invs.length s.kc) ∧ w.cell? ⟨g, 6, none⟩ = some (.slice s.aa c.ands.length s.ka) ∧ w.cell? ⟨g, 7, none⟩ = some (.slice s.an c.names.length s.kn) :=
  ⟨h 0 _ rfl, h 1 _ rfl, h 2 _ rfl, h 3 _ rfl, h 4 _ rfl, h 5 _ rfl, h 6 _ rfl, h 7 _ rfl⟩

/-- the set that named looks into is there -/
structure Has (w : World) (g B : Nat) (S : List Int) : Prop where
  cm : w.cell? ⟨g, 0, none⟩ = some (.map (some B))
  hS : IsSet w B S
theorem Has.below {w w' : World} {g B C : Nat} {S : List Int} (h : Has w g B S) (hb : Below C w w') (hC : C = w.heap.size) : Has w' g B S := by
  subst hC; exact ⟨cell_later hb h.cm, h.hS.below hb h.hS.lt⟩

end Go.Proofs.Ytomkdegajhijjaa.Cw
namespace Go.Proofs.Ytomkdegajhijjaa.Cw
open Go.ChangeShapes Go.WideShapes Go.ChangeAt Go.RowKit Go.Maps Circ

theorem below_drewN {B : Nat} {a w : World} (h : Below B a w) (n : Nat) : Below B a (w.drewN n) := ⟨h.os, h.tape, h.output, h.size, h.block⟩

end Go.Proofs.Ytomkdegajhijjaa.Cw
namespace Go.Proofs.Ytomkdegajhijjaa.Cw
open Go.ChangeShapes Go.WideShapes Go.ChangeAt Go.RowKit Go.Maps Circ

end Go.Proofs.Ytomkdegajhijjaa.Cw
namespace Go.Proofs.Ytomkdegajhijjaa.Cw
open Go.ChangeShapes Go.WideShapes Go.ChangeAt Go.RowKit Go.Maps Circ

/-- the slice v, made from block base on, holds the numbers xs -/
def OwnI (w : World) (base : Nat) (v : Value) (xs : List Int) : Prop := w.ownsRow base 3 1 v xs.length (xs.map (Value.int .i64))
theorem OwnI.nil (w : World) (base : Nat) : OwnI w base (.slice none 0 0) [] := ⟨rfl, .inl ⟨rfl, rfl⟩⟩
theorem OwnI.row {w : World} {base : Nat} {v : Value} {xs : List Int} (h : OwnI w base v xs) : ∃ A q, v = .slice A xs.length q ∧ LRow w w.heap.size 1 A (ints xs) ∧ xs.length ≤ q ∧ q ≤ 9223372036854775807 := by
  obtain ⟨_, h⟩ := h
  rcases h with ⟨rfl, h0⟩ | ⟨g, cap, cur, rfl, _, hg, hn, hm, hs, ht⟩
  · have hx : xs = [] := List.eq_nil_of_length_eq_zero h0
    subst hx
    exact ⟨none, 0, rfl, .inl rfl, Nat.le_refl _, by decide⟩
  · refine ⟨_, cap, rfl, .inr ⟨g, 0, rfl, (Array.getElem?_eq_some_iff.1 hg).1, fun i ys hi j u hj => ?_⟩, hn, by unfold maxLen at hm; exact hm⟩
    obtain ⟨hi', rfl⟩ : ∃ h : i < xs.length, [Value.int .i64 xs[i]] = ys := by
      unfold ints at hi
      rw [List.getElem?_map] at hi
      cases hq : xs[i]? with
      | none => rw [hq] at hi; cases hi
      | some x =>
        rw [hq] at hi
        obtain ⟨h1, h2⟩ := List.getElem?_eq_some_iff.1 hq
        refine ⟨h1, ?_⟩
        rw [h2]; exact Option.some.inj hi
    match j, hj with
    | 0, hj =>
      obtain rfl : Value.int .i64 xs[i] = u := by simpa using hj
      have e := congrArg (fun l : List Value => l[i]?) ht
      simp only [List.getElem?_take] at e
      rw [if_pos (by omega), List.getElem?_map, List.getElem?_eq_getElem hi'] at e
      simp [World.cell?, hg]
      simpa using e
theorem OwnI.block_lt {w : World} {base : Nat} {v : Value} {xs : List Int} (h : OwnI w base v xs) (g : Nat) (hg : v.ownBlock = some g) : base ≤ g ∧ g < w.heap.size := by
  obtain ⟨_, h⟩ := h
  rcases h with ⟨rfl, h0⟩ | ⟨g', cap, cur, rfl, hb, hh, _⟩
  · simp [Value.ownBlock] at hg
  · have : g' = g := by simpa [Value.ownBlock] using hg
    subst this
    exact ⟨hb, (Array.getElem?_eq_some_iff.1 hh).1⟩
theorem OwnI.keep {w w' : World} {base : Nat} {v : Value} {xs : List Int} (h : OwnI w base v xs) (hb : Below w.heap.size w w') : OwnI w' base v xs := by
  obtain ⟨h0, h⟩ := h
  refine ⟨h0, ?_⟩
  rcases h with h | ⟨g, cap, cur, hv, hg, hh, r⟩
  · exact .inl h
  · exact .inr ⟨g, cap, cur, hv, hg, (hb.block g (Array.getElem?_eq_some_iff.1 hh).1).trans hh, r⟩

theorem info3 : (Try.prog.info? 3).map (fun i => (i.zero, i.size, i.bytes)) = some (some (.int .i64 0), 1, 8) := by kernel_rfl
theorem under22 : Try.prog.underlying 37 = some (.slice 3) := Try.underlying37

theorem run_append_nil (w : World) (base : Nat) (ty : TypeId) (v : Value) (xs : List Int) (hown : OwnI w base v xs) (c : Nat) : (Builtin.append_ #[37, 37] ty #[v, .slice none 0 c]).run Try.prog w = .ok v w := by
  obtain ⟨i0, hi0, hz0, hz1, hz2⟩ := info_parts info3
  rcases hown.2 with ⟨rfl, _⟩ | ⟨g, cap, cur, rfl, _, _, hnc, _⟩
  · simp [Builtin.append_, run_underlying under22, sizeOf, typeInfo, hi0, Builtin.lenOf, Builtin.firstCells]
  · simp [Builtin.append_, run_underlying under22, sizeOf, typeInfo, hi0, Builtin.lenOf, Builtin.firstCells, hnc, storeCells]

theorem run_append_ints (w : World) (base B : Nat) (ty : TypeId) (v : Value) (xs l : List Int) (hown : OwnI w base v xs) (A : Option Addr) (c : Nat) (hr : LRow w B 1 A (ints l))
    (hbytes : (xs.length + l.length) * 8 ≤ 140737488355328) (hbase : base ≤ w.heap.size) :
    ∃ v' w', (Builtin.append_ #[37, 37] ty #[v, .slice A l.length c]).run Try.prog w = .ok v' w' ∧ OwnI w' base v' (xs ++ l) ∧ w.grownBy w' v.ownBlock ∧ (v'.ownBlock = v.ownBlock ∨ v'.ownBlock = some w.heap.size) := by
  obtain ⟨i0, hi0, hz0, hz1, hz2⟩ := info_parts info3
  have go : ∀ ad : Addr, A = some ad → (∀ j u, (l.map (Value.int .i64))[j]? = some u → w.cell? (ad.add j) = some u) → ∃ v' w', (Builtin.append_ #[37, 37] ty #[v, .slice A l.length c]).run Try.prog w = .ok v' w' ∧ OwnI w' base v' (xs ++ l) ∧ w.grownBy w' v.ownBlock ∧ (v'.ownBlock = v.ownBlock ∨ v'.ownBlock = some w.heap.size) := fun ad hA hc => by
    obtain ⟨v', w', h1, h2, h3, _, h5⟩ := run_append_own_at (P := Try.prog) w base 37 ty 3 i0 (.int .i64 0) 1 8 under22 hi0 hz0 hz1 hz2 rfl (by decide) v xs.length (xs.map (Value.int .i64)) hown ad l.length c (l.map (Value.int .i64)) (by simp) hc (fun u hu => by
      obtain ⟨x, _, rfl⟩ := List.mem_map.1 hu; rfl) (by unfold maxLen; omega) hbytes hbase
    refine ⟨v', w', by rw [hA]; exact h1, ?_, h3, h5⟩
    unfold OwnI
    rw [List.length_append, List.map_append]
    exact h2
  rcases hr with h0 | ⟨b, o, e, hb, hc⟩
  · have hl : l = [] := by simpa [ints] using h0
    subst hl
    rcases A with _ | ad
    · exact ⟨v, w, run_append_nil w base ty v xs hown c, by simpa using hown, World.grownBy.refl w _, .inl rfl⟩
    · exact go ad rfl (fun j u hj => by simp at hj)
  · refine go _ e (fun j u hj => ?_)
    have hj' : j < l.length := by
      have := (List.getElem?_eq_some_iff.1 hj).1; simpa using this
    have h1 := hc j [Value.int .i64 l[j]] (by simp [ints, hj']) 0 _ rfl
    have h2 : u = Value.int .i64 l[j] := by
      rw [List.getElem?_map, List.getElem?_eq_getElem hj'] at hj
      exact (Option.some.inj hj).symm
    subst h2
    have h3 : (⟨b, o, none⟩ : Addr).add j = ⟨b, o + (j * 1 + 0), none⟩ := by
      unfold Addr.add
      by_cases hz : j = 0
      · simp [hz]
      · simp [hz]
    rw [h3]; exact h1

theorem wpList_app {ops : Array Oper} {rest : List Oper} {o : Oper} {a : Act} {Q : Exit → Act → World → Prop} (w : World) (hgd : o.guard = none) (s x : Operand)
    (ho : o.op = .call { callee := .builtin .append, args := #[s, x], argTypes := #[37, 37] })
    (base B : Nat) (v : Value) (xs l : List Int) (hs : a.eval s = v) (hown : OwnI w base v xs) (A : Option Addr) (m c : Nat) (hm : m = l.length) (hx : a.eval x = .slice A m c) (hr : LRow w B 1 A (ints l))
    (hbytes : (xs.length + l.length) * 8 ≤ 140737488355328) (hbase : base ≤ w.heap.size)
    (h : ∀ v' w', OwnI w' base v' (xs ++ l) → w.grownBy w' v.ownBlock → (v'.ownBlock = v.ownBlock ∨ v'.ownBlock = some w.heap.size) → wpList Try.prog ops Q rest (a.put o.dst v') w') : wpList Try.prog ops Q (o :: rest) a w := by
  subst hm
  obtain ⟨v', w', hr', h2, h3, h4⟩ := run_append_ints w base B o.type v xs l hown A c hr hbytes hbase
  refine wpList_plain hgd fun K hK => ?_
  unfold Oper.wp execOp
  simp only [ho, resolve, invoke, builtin, Sem.run_bind, Sem.run_pure, Result.andThen_ok, List.map_toArray, List.map_cons, List.map_nil, hs, hx, hr']
  exact hK _ _ (h v' w' h2 h3 h4)
end Go.Proofs.Ytomkdegajhijjaa.Cw
