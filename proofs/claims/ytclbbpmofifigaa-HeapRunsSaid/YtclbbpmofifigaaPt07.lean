/- The landed heap's tree in memory: a row of scores and places, an order; what stores and calls leave. No condition. -/
import Derived.Test.YtclbbpmofifigaaPt06
import Derived.Test.YtclbbpmofifigaaPt05
import Derived.Lib.AppendZerosOnto
namespace Go.Proofs.Ytclbbpmofifigaa.Hep
open Go.ChangeShapes Go.WideShapes Go.ChangeAt Go.RowKit Go.Maps Circ Cw Cla

/-- scores and places, cell by cell -/
def flat : List Int → List Int → List Value
  | s :: sc, p :: pl => .int .i64 s :: .int .i64 p :: flat sc pl
  | _, _ => []
theorem flat_len : ∀ (sc pl : List Int), pl.length = sc.length → (flat sc pl).length = sc.length * 2
  | [], [], _ => rfl
  | s :: sc, p :: pl, h => by
    have := flat_len sc pl (by simpa using h)
    simp only [flat, List.length_cons] at *
    omega
  | [], _ :: _, h => by cases h
  | _ :: _, [], h => by cases h
theorem flat_s : ∀ (sc pl : List Int) (x : Nat), pl.length = sc.length → x < sc.length → (flat sc pl)[x * 2]? = some (.int .i64 (at0 sc x))
  | s :: sc, p :: pl, 0, _, _ => rfl
  | s :: sc, p :: pl, x + 1, h, hx => by
    rw [show (x + 1) * 2 = (x * 2 + 1) + 1 by omega]
    exact flat_s sc pl x (by simpa using h) (by simpa using hx)
  | [], [], _, _, hx => by simp at hx
  | [], _ :: _, _, h, _ => by cases h
  | _ :: _, [], _, h, _ => by cases h
theorem flat_p : ∀ (sc pl : List Int) (x : Nat), pl.length = sc.length → x < sc.length → (flat sc pl)[x * 2 + 1]? = some (.int .i64 (at0 pl x))
  | s :: sc, p :: pl, 0, _, _ => rfl
  | s :: sc, p :: pl, x + 1, h, hx => by
    rw [show (x + 1) * 2 + 1 = (x * 2 + 1 + 1) + 1 by omega]
    exact flat_p sc pl x (by simpa using h) (by simpa using hx)
  | [], [], _, _, hx => by simp at hx
  | [], _ :: _, _, h, _ => by cases h
  | _ :: _, [], _, h, _ => by cases h
theorem flat_set_s : ∀ (sc pl : List Int) (x : Nat) (v : Int), pl.length = sc.length → (flat sc pl).set (x * 2) (.int .i64 v) = flat (sc.set x v) pl
  | s :: sc, p :: pl, 0, v, _ => rfl
  | s :: sc, p :: pl, x + 1, v, h => by
    rw [show (x + 1) * 2 = (x * 2 + 1) + 1 by omega]
    show _ :: _ :: (flat sc pl).set (x * 2) _ = _ :: _ :: flat (sc.set x v) pl
    rw [flat_set_s sc pl x v (by simpa using h)]
  | [], [], _, _, _ => rfl
  | [], _ :: _, _, _, h => by cases h
  | _ :: _, [], _, _, h => by cases h
theorem flat_set_p : ∀ (sc pl : List Int) (x : Nat) (v : Int), pl.length = sc.length → (flat sc pl).set (x * 2 + 1) (.int .i64 v) = flat sc (pl.set x v)
  | s :: sc, p :: pl, 0, v, _ => rfl
  | s :: sc, p :: pl, x + 1, v, h => by
    rw [show (x + 1) * 2 + 1 = (x * 2 + 1 + 1) + 1 by omega]
    show _ :: _ :: (flat sc pl).set (x * 2 + 1) _ = _ :: _ :: flat sc (pl.set x v)
    rw [flat_set_p sc pl x v (by simpa using h)]
  | [], [], _, _, _ => rfl
  | [], _ :: _, _, _, h => by cases h
  | _ :: _, [], _, _, h => by cases h
theorem flat_app : ∀ (sc pl a b : List Int), pl.length = sc.length → flat (sc ++ a) (pl ++ b) = flat sc pl ++ flat a b
  | [], [], _, _, _ => rfl
  | s :: sc, p :: pl, a, b, h => by
    show _ :: _ :: flat (sc ++ a) (pl ++ b) = _ :: _ :: (flat sc pl ++ flat a b)
    rw [flat_app sc pl a b (by simpa using h)]
  | [], _ :: _, _, _, h => by cases h
  | _ :: _, [], _, _, h => by cases h
/-- a call turns no older block but those of S -/
structure Chg (S : Nat → Prop) (w w' : World) : Prop where
  os : w'.os = w.os
  tape : w'.tape = w.tape
  output : w'.output = w.output
  size : w.heap.size ≤ w'.heap.size
  other : ∀ k, k < w.heap.size → ¬ S k → w'.heap[k]? = w.heap[k]?
section
variable {S S' : Nat → Prop} {w w' w'' : World}
theorem Chg.refl (S : Nat → Prop) (w : World) : Chg S w w := ⟨rfl, rfl, rfl, Nat.le_refl _, fun _ _ _ => rfl⟩
theorem Chg.trans (h : Chg S w w') (k : Chg S' w' w'') (hs : ∀ i, S' i → S i ∨ w.heap.size ≤ i) : Chg S w w'' :=
  ⟨k.os.trans h.os, k.tape.trans h.tape, k.output.trans h.output, Nat.le_trans h.size k.size, fun i hi hn => (k.other i (Nat.lt_of_lt_of_le hi h.size) (fun e => (hs i e).elim hn (by omega))).trans (h.other i hi hn)⟩
theorem Chg.mono (h : Chg S w w') (hs : ∀ i, S i → S' i) : Chg S' w w' := ⟨h.os, h.tape, h.output, h.size, fun i hi hn => h.other i hi fun e => hn (hs i e)⟩
theorem Chg.of_below (h : Below w.heap.size w w') : Chg S w w' := ⟨h.os, h.tape, h.output, h.size, fun k hk _ => h.block k hk⟩
theorem Chg.of_but {g : Nat} (h : But g w w') (hs : S g) : Chg S w w' := ⟨h.os, h.tape, h.output, Nat.le_of_eq h.z.symm, fun k _ hn => h.b k fun e => hn (e ▸ hs)⟩
theorem Chg.of_grown {row : Option Nat} (h : w.grownBy w' row) (hs : ∀ g, row = some g → S g) : Chg S w w' := ⟨h.os, h.tape, h.output, h.size, fun k hk hn => h.block k hk fun e => hn (hs k e.symm)⟩
end
/-- the blocks of a tree -/
def TOwn (t : Nat) (vc vo : Value) (k : Nat) : Prop := k = t ∨ vc.ownBlock = some k ∨ vo.ownBlock = some k
/-- the tree in block t: its row of scores and places, its order -/
structure Tree (w : World) (t : Nat) (vc vo : Value) (sc pl od : List Int) : Prop where
  box : w.heap[t]? = some (.cells #[vc, vo] 49 (0, 0))
  len : pl.length = sc.length
  oc : w.ownsRow 0 46 2 vc sc.length (flat sc pl)
  oo : OwnI w 0 vo od
theorem own_type {w : World} {base m n : Nat} {e : TypeId} {v : Value} {xs : List Value} (h : w.ownsRow base e m v n xs) {g : Nat} (hg : v.ownBlock = some g) : ∃ cur, w.heap[g]? = some (.cells cur e (0, 0)) := by
  rcases h.2 with ⟨rfl, _⟩ | ⟨g', cap, cur, rfl, _, hh, _⟩
  · simp [Value.ownBlock] at hg
  · have : g' = g := by simpa [Value.ownBlock] using hg
    subst this
    exact ⟨cur, hh⟩
theorem types_apart {w : World} {i j : Nat} {a b : Array Value} {T S : TypeId} (ha : w.heap[i]? = some (.cells a T (0, 0))) (hb : w.heap[j]? = some (.cells b S (0, 0))) (h : T ≠ S) : i ≠ j := fun e => by
  subst e
  rw [ha] at hb
  injection hb with hb
  injection hb with h1 h2
  exact h h2
section
variable {w w' : World} {t g q : Nat} {vc vo : Value} {sc pl od : List Int}
theorem Tree.nc (h : Tree w t vc vo sc pl od) {g : Nat} (hg : vc.ownBlock = some g) : g ≠ t := by
  obtain ⟨cur, hc⟩ := own_type h.oc hg
  exact types_apart hc h.box (by decide)
theorem Tree.no (h : Tree w t vc vo sc pl od) {g : Nat} (hg : vo.ownBlock = some g) : g ≠ t := by
  obtain ⟨cur, hc⟩ := own_type h.oo hg
  exact types_apart hc h.box (by decide)
theorem Tree.ne (h : Tree w t vc vo sc pl od) {g k : Nat} (hg : vc.ownBlock = some g) (hk : vo.ownBlock = some k) : g ≠ k := by
  obtain ⟨cur, hc⟩ := own_type h.oc hg
  obtain ⟨cur2, hc2⟩ := own_type h.oo hk
  exact types_apart hc hc2 (by decide)
theorem Tree.lt (h : Tree w t vc vo sc pl od) : ∀ k, TOwn t vc vo k → k < w.heap.size := fun k hk => by
  rcases hk with rfl | hk | hk
  · exact (Array.getElem?_eq_some_iff.1 h.box).1
  · obtain ⟨cur, hc⟩ := own_type h.oc hk
    exact (Array.getElem?_eq_some_iff.1 hc).1
  · obtain ⟨cur, hc⟩ := own_type h.oo hk
    exact (Array.getElem?_eq_some_iff.1 hc).1
theorem row_keep {base m n : Nat} {e : TypeId} {v : Value} {xs : List Value} (h : w.ownsRow base e m v n xs) (hk : ∀ g, v.ownBlock = some g → w'.heap[g]? = w.heap[g]?) : w'.ownsRow base e m v n xs := by
  refine ⟨h.1, ?_⟩
  rcases h.2 with hn | ⟨g, cap, cur, rfl, hb, hgg, rest⟩
  · exact .inl hn
  · exact .inr ⟨g, cap, cur, rfl, hb, (hk g rfl).trans hgg, rest⟩
theorem Tree.keep (h : Tree w t vc vo sc pl od) (hk : ∀ k, TOwn t vc vo k → w'.heap[k]? = w.heap[k]?) : Tree w' t vc vo sc pl od :=
  ⟨(hk t (.inl rfl)).trans h.box, h.len, row_keep h.oc fun g hg => hk g (.inr (.inl hg)), row_keep h.oo fun g hg => hk g (.inr (.inr hg))⟩
theorem Tree.below (h : Tree w t vc vo sc pl od) (hb : Below w.heap.size w w') : Tree w' t vc vo sc pl od := h.keep fun k hk => hb.block k (h.lt k hk)
theorem Tree.drew (h : Tree w t vc vo sc pl od) : Tree w.drew t vc vo sc pl od := h.keep fun _ _ => rfl
theorem Tree.cells (h : Tree w t vc vo sc pl od) : w.cell? ⟨t, 0, none⟩ = some vc ∧ w.cell? ⟨t, 1, none⟩ = some vo := by
  constructor <;> · rw [Lib.cell_of_heap h.box]; rfl
theorem Tree.frozen (h : Tree w t vc vo sc pl od) (i : Nat) : w.frozen? ⟨t, i, none⟩ = false := by simp [World.frozen?, h.box]
/-- the row of scores and places -/
theorem Tree.row (h : Tree w t vc vo sc pl od) : ∃ A q, vc = .slice A sc.length q ∧ q ≤ maxLen ∧ sc.length ≤ q ∧ (0 < sc.length → ∃ g, A = some ⟨g, 0, none⟩ ∧ (∀ x, x < sc.length → w.cell? ⟨g, x * 2, none⟩ = some (.int .i64 (at0 sc x)) ∧ w.cell? ⟨g, x * 2 + 1, none⟩ = some (.int .i64 (at0 pl x))) ∧ ∀ i, w.frozen? ⟨g, i, none⟩ = false) := by
  have hl := flat_len sc pl h.len
  rcases h.oc.2 with ⟨rfl, h0⟩ | ⟨g, cap, cur, rfl, _, hh, h1, h2, h3, h4⟩
  · exact ⟨none, 0, by rw [h0], by decide, by omega, fun hp => by omega⟩
  · refine ⟨_, cap, rfl, h2, h1, fun _ => ⟨g, rfl, fun x hx => ⟨?_, ?_⟩, fun i => by simp [World.frozen?, hh]⟩⟩
    · rw [World.ownsRow.cellAt h.oc (x * 2) (by omega)]
      exact flat_s sc pl x h.len hx
    · rw [World.ownsRow.cellAt h.oc (x * 2 + 1) (by omega)]
      exact flat_p sc pl x h.len hx
/-- the order's row -/
theorem Tree.ord (h : Tree w t vc vo sc pl od) (hp : 0 < od.length) : ∃ g q, vo = .slice (some ⟨g, 0, none⟩) od.length q ∧ q ≤ maxLen ∧ od.length ≤ q ∧ (∀ i, i < od.length → w.cell? ⟨g, i, none⟩ = some (.int .i64 (at0 od i))) ∧ ∀ i, w.frozen? ⟨g, i, none⟩ = false := by
  rcases h.oo.2 with ⟨rfl, h0⟩ | ⟨g, cap, cur, rfl, _, hh, h1, h2, h3, h4⟩
  · omega
  · refine ⟨g, cap, rfl, h2, h1, fun i hi => ?_, fun i => by simp [World.frozen?, hh]⟩
    have := World.ownsRow.cellAt (show w.ownsRow 0 3 1 _ _ _ from h.oo) i (by omega)
    rw [this, List.getElem?_map, List.getElem?_eq_getElem hi, at0_get hi]; rfl
theorem Tree.putO (h : Tree w t vc (.slice (some ⟨g, 0, none⟩) od.length q) sc pl od) (i : Nat) (x : Int) : Tree (w.setCell ⟨g, i, none⟩ (.int .i64 x)) t vc (.slice (some ⟨g, 0, none⟩) od.length q) sc pl (od.set i x) ∧ But g w (w.setCell ⟨g, i, none⟩ (.int .i64 x)) := by
  have hb := But.set w g i (.int .i64 x)
  refine ⟨⟨hb.block h.box (h.no rfl).symm, h.len, row_keep h.oc fun k hk => hb.b k (h.ne hk rfl), ?_⟩, hb⟩
  have := World.ownsRow.stored (show w.ownsRow 0 3 1 _ _ _ from h.oo) i (.int .i64 x)
  unfold OwnI
  rw [List.length_set, List.map_set]
  exact this.1
theorem Tree.putP (h : Tree w t (.slice (some ⟨g, 0, none⟩) sc.length q) vo sc pl od) (x : Nat) (v : Int) : Tree (w.setCell ⟨g, x * 2 + 1, none⟩ (.int .i64 v)) t (.slice (some ⟨g, 0, none⟩) sc.length q) vo sc (pl.set x v) od ∧ But g w (w.setCell ⟨g, x * 2 + 1, none⟩ (.int .i64 v)) := by
  have hb := But.set w g (x * 2 + 1) (.int .i64 v)
  refine ⟨⟨hb.block h.box (h.nc rfl).symm, by rw [List.length_set]; exact h.len, ?_, row_keep h.oo fun k hk => hb.b k (h.ne rfl hk).symm⟩, hb⟩
  have := World.ownsRow.stored h.oc (x * 2 + 1) (.int .i64 v)
  rw [flat_set_p sc pl x v h.len] at this
  exact this.1
theorem Tree.putS (h : Tree w t (.slice (some ⟨g, 0, none⟩) sc.length q) vo sc pl od) (x : Nat) (v : Int) : Tree (w.setCell ⟨g, x * 2, none⟩ (.int .i64 v)) t (.slice (some ⟨g, 0, none⟩) sc.length q) vo (sc.set x v) pl od ∧ But g w (w.setCell ⟨g, x * 2, none⟩ (.int .i64 v)) := by
  have hb := But.set w g (x * 2) (.int .i64 v)
  refine ⟨⟨hb.block h.box (h.nc rfl).symm, by rw [List.length_set]; exact h.len, ?_, row_keep h.oo fun k hk => hb.b k (h.ne rfl hk).symm⟩, hb⟩
  have := World.ownsRow.stored h.oc (x * 2) (.int .i64 v)
  rw [flat_set_s sc pl x v h.len] at this
  rw [List.length_set]
  exact this.1
/-- an order cut behind its first m, stored in the box -/
theorem Tree.cutO (h : Tree w t vc (.slice (some ⟨g, 0, none⟩) od.length q) sc pl od) {m : Nat} (hm : m ≤ od.length) : Tree (w.setCell ⟨t, 1, none⟩ (.slice (some ⟨g, 0, none⟩) m q)) t vc (.slice (some ⟨g, 0, none⟩) m q) sc pl (od.take m) ∧ But t w (w.setCell ⟨t, 1, none⟩ (.slice (some ⟨g, 0, none⟩) m q)) := by
  obtain ⟨Z, u, ⟨hZ, -, -⟩, h2, hb⟩ := step_set w _ 1 (.slice (some ⟨g, 0, none⟩) m q) h.box (by show 1 < 2; decide)
  rw [hZ]
  refine ⟨⟨h2, h.len, row_keep h.oc fun k hk => hb.b k (h.nc hk), ?_⟩, hb⟩
  rcases h.oo.2 with ⟨h0, _⟩ | ⟨g', cap, cur, h0, hbs, hh, h3, h4, h5, h6⟩
  · injection h0 with h0; cases h0
  · injection h0 with h0 _ hq
    injection h0 with h0
    injection h0 with h0
    subst h0 hq
    have tl : (od.take m).length = m := by rw [List.length_take]; omega
    refine ⟨by rw [List.length_map, Nat.mul_one], .inr ⟨g, q, cur, by rw [tl], hbs, (hb.b g (h.no rfl)).trans hh, by omega, h4, h5, ?_⟩⟩
    rw [tl, List.map_take, ← h6, List.take_take]
    congr 1
    omega
/-- an order lengthened, stored in the box -/
theorem Tree.growO (h : Tree w t vc vo sc pl od) {v : Value} {od' : List Int} (ho : OwnI w' 0 v od') (hg : w.grownBy w' vo.ownBlock) (hl : v.ownBlock = vo.ownBlock ∨ v.ownBlock = some w.heap.size) :
    Tree (w'.setCell ⟨t, 1, none⟩ v) t vc v sc pl od' ∧ Chg (TOwn t vc vo) w (w'.setCell ⟨t, 1, none⟩ v) ∧ w'.cell? ⟨t, 1, none⟩ = some vo ∧ w'.frozen? ⟨t, 1, none⟩ = false := by
  have ht := (Array.getElem?_eq_some_iff.1 h.box).1
  have hbox : w'.heap[t]? = some (.cells #[vc, vo] 49 (0, 0)) := (hg.block t ht (fun e => h.no e.symm rfl)).trans h.box
  obtain ⟨Z, u, ⟨hZ, hu, hf⟩, h2, hb⟩ := step_set w' _ 1 v hbox (by show 1 < 2; decide)
  rw [hZ]
  have hvt : ∀ k, v.ownBlock = some k → k ≠ t := fun k hk => by
    rcases hl with e | e
    · exact h.no (e ▸ hk)
    · rw [e] at hk
      injection hk with hk
      omega
  refine ⟨⟨h2, h.len, row_keep h.oc fun k hk => (hb.b k (h.nc hk)).trans (hg.block k (h.lt k (.inr (.inl hk))) fun e => h.ne hk e.symm rfl), row_keep ho fun k hk => hb.b k (hvt k hk)⟩, ?_, by rw [Lib.cell_of_heap hbox]; rfl, hf⟩
  exact (Chg.of_grown hg (fun k hk => .inr (.inr hk))).trans (Chg.of_but hb (.inl rfl : TOwn t vc vo t)) fun i hi => .inl hi
/-- scores and places lengthened, stored in the box -/
theorem Tree.growC (h : Tree w t vc vo sc pl od) {v : Value} {sc' pl' : List Int} (hs : pl'.length = sc'.length) (ho : w'.ownsRow 0 46 2 v sc'.length (flat sc' pl')) (hg : w.grownBy w' vc.ownBlock) (hl : v.ownBlock = vc.ownBlock ∨ v.ownBlock = some w.heap.size) :
    Tree (w'.setCell ⟨t, 0, none⟩ v) t v vo sc' pl' od ∧ Chg (TOwn t vc vo) w (w'.setCell ⟨t, 0, none⟩ v) ∧ w'.cell? ⟨t, 0, none⟩ = some vc ∧ w'.frozen? ⟨t, 0, none⟩ = false := by
  have ht := (Array.getElem?_eq_some_iff.1 h.box).1
  have hbox : w'.heap[t]? = some (.cells #[vc, vo] 49 (0, 0)) := (hg.block t ht (fun e => h.nc e.symm rfl)).trans h.box
  obtain ⟨Z, u, ⟨hZ, hu, hf⟩, h2, hb⟩ := step_set w' _ 0 v hbox (by show 0 < 2; decide)
  rw [hZ]
  have hvt : ∀ k, v.ownBlock = some k → k ≠ t := fun k hk => by
    rcases hl with e | e
    · exact h.nc (e ▸ hk)
    · rw [e] at hk
      injection hk with hk
      omega
  refine ⟨⟨h2, hs, row_keep ho fun k hk => hb.b k (hvt k hk), row_keep h.oo fun k hk => (hb.b k (h.no hk)).trans (hg.block k (h.lt k (.inr (.inr hk))) fun e => h.ne e.symm hk rfl)⟩, ?_, by rw [Lib.cell_of_heap hbox]; rfl, hf⟩
  exact (Chg.of_grown hg (fun k hk => .inr (.inl hk))).trans (Chg.of_but hb (.inl rfl : TOwn t vc vo t)) fun i hi => .inl hi
end
/-- append(s, make([]T, k)...) onto a row that the call owns -/
theorem run_append_zeros_own {P : Program} (w : World) (k : Nat) (hk : 0 < k) (base : Nat) (t tn ty e : TypeId) (i : TypeInfo) (z : Value) (size bytes : Nat) (ht : P.underlying t = some (.slice e)) (kq kn : IntKind) (htn : P.underlying tn = some (.int kn)) (hi : P.info? e = some i) (hz : i.zero = some z)
    (hsize : i.size = size) (hby : i.bytes = bytes) (hzs : z.cells.size = size) (hsz : 0 < size) (hz1 : ∀ u ∈ (Builtin.zeroCells z.cells k).toList, u.oneCell' = true)
    (v : Value) (n : Nat) (xs : List Value) (hown : w.ownsRow base e size v n xs)
    (h63 : n + k ≤ maxLen) (hbytes : (n + k) * bytes ≤ 140737488355328) (hbase : base ≤ w.heap.size) :
    ∃ v' w', (Builtin.append_ #[t, tn] ty #[v, .int kq k]).run P w = .ok v' w' ∧ w'.ownsRow base e size v' (n + k) (xs ++ (Builtin.zeroCells z.cells k).toList) ∧ w.grownBy w' v.ownBlock ∧ (v'.ownBlock = v.ownBlock ∨ v'.ownBlock = some w.heap.size) := by
  subst hsize
  subst hby
  have hsmall : n + k ≤ 9223372036854775807 := by simp only [maxLen] at h63; omega
  have hzl : (Builtin.zeroCells z.cells k).toList.length = k * i.size := by rw [Array.length_toList, size_zeroCells, hzs]
  have hlen : (xs ++ (Builtin.zeroCells z.cells k).toList).length = (n + k) * i.size := by rw [List.length_append, hown.1, hzl, Nat.add_mul]
  have hkb : k * i.bytes ≤ 281474976710656 := by
    have : k * i.bytes ≤ (n + k) * i.bytes := Nat.mul_le_mul_right _ (by omega)
    omega
  have grown : ∀ (old : Nat), old < n + k → ∀ (row : Option Nat),
      (w.drew.alloc (.cells (xs.toArray ++ Builtin.zeroCells z.cells k ++ Builtin.zeroCells z.cells (grownCap w (n + k) old e - (n + k))) e)).ownsRow base e i.size
        (.slice (some ⟨w.heap.size, 0, none⟩) (n + k) (grownCap w (n + k) old e)) (n + k) (xs ++ (Builtin.zeroCells z.cells k).toList) ∧
      w.grownBy (w.drew.alloc (.cells (xs.toArray ++ Builtin.zeroCells z.cells k ++ Builtin.zeroCells z.cells (grownCap w (n + k) old e - (n + k))) e)) row := by
    intro old ho row
    have hge := grownCap_ge w (n + k) old e
    have hcm : grownCap w (n + k) old e ≤ maxLen := grownCap_le_maxLen w (n + k) old e h63
    refine ⟨⟨hlen, .inr ⟨w.heap.size, _, _, rfl, hbase, heap_alloc_new w.drew _, hge, hcm, ?_, ?_⟩⟩, ⟨rfl, rfl, rfl, by simp, fun j hj _ => heap_alloc_old w.drew _ hj⟩⟩
    · simp only [Array.size_append, List.size_toArray, size_zeroCells, hzs, hown.1, ← Nat.add_mul]
      congr 1
      omega
    · simp only [Array.toList_append]
      rw [← hlen]
      exact List.take_left
  rcases hown.2 with ⟨rfl, rfl⟩ | ⟨g, cap, cur, rfl, hbg, hg, hnc, hcm, hcs, htake⟩
  · have hx : xs = [] := List.eq_nil_of_length_eq_zero (by simpa using hown.1)
    subst hx
    have hr := Lib.run_append_nil_zeros (P := P) w t tn ty e i z kq kn ht htn hi hz k hk hsz (by omega) hkb
    have hgr := grown 0 (by omega) (Value.ownBlock (.slice none 0 0))
    simp only [Nat.zero_add, List.nil_append, Array.empty_append] at hgr ⊢
    exact ⟨_, _, hr, hgr.1, hgr.2, .inr rfl⟩
  · by_cases hroom : n + k ≤ cap
    · have hfit : n * i.size + (Builtin.zeroCells z.cells k).toList.length ≤ cur.size := by rw [hzl, hcs, ← Nat.add_mul]; exact Nat.mul_le_mul_right _ hroom
      have hst := run_storeCells_at P g (n * i.size) e (Builtin.zeroCells z.cells k).toList 0 cur w hg (by simpa using hfit) hz1
      simp only [Nat.add_zero] at hst
      have hr : (Builtin.append_ #[t, tn] ty #[.slice (some ⟨g, 0, none⟩) n cap, .int kq k]).run P w = .ok (.slice (some ⟨g, 0, none⟩) (n + k) cap) (w.setRow g (cur.toList.take (n * i.size) ++ (Builtin.zeroCells z.cells k).toList ++ cur.toList.drop (n * i.size + (Builtin.zeroCells z.cells k).toList.length)).toArray) := by
        have hw : IntKind.i64.wrap (k : Int) = k := by rw [IntKind.wrap_i64]; omega
        have h48i : ¬ (281474976710656 < (k : Int) * (i.bytes : Int)) := by
          rw [← Int.natCast_mul]
          omega
        have hneg : ¬ ((k : Int) < 0) := by omega
        have hns : ¬ (k * i.size = 0) := Nat.mul_ne_zero (by omega) (by omega)
        simp [Builtin.append_, run_underlying ht, run_underlying htn, sizeOf, typeInfo, zeroValue, hi, hz, asInt, asIntOf, hw, hneg, h48i, hns, hroom, Addr.add_lit, hst]
      refine ⟨_, _, hr, ⟨hlen, .inr ⟨g, cap, _, rfl, hbg, setRow_heap w g cur _ e _ hg, hroom, hcm, ?_, ?_⟩⟩, ⟨rfl, rfl, rfl, by simp, fun k _ hk => setRow_other w g k _ (fun e => hk (by simp [Value.ownBlock, e]))⟩, .inl rfl⟩
      · simp only [List.size_toArray, List.length_append, List.length_take, List.length_drop, Array.length_toList] at hfit ⊢
        omega
      · rw [htake, ← hlen]
        exact List.take_left
    · have holds : ∀ j u, xs[j]? = some u → w.cell? ((⟨g, 0, none⟩ : Addr).add j) = some u := hown.cells (g := g) rfl
      have hold : (Builtin.firstCells i.size n (.slice (some ⟨g, 0, none⟩) n cap)).run P w.drew = .ok xs.toArray w.drew := run_firstCells_some (P := P) w.drew i.size n ⟨g, 0, none⟩ n cap xs hown.1 holds
      have hr := Lib.run_append_grow_zeros (P := P) w t tn ty e i z kq kn ht htn hi hz (some ⟨g, 0, none⟩) n cap xs hold k hk hsz (by omega) (by omega) hkb (growslice_fits (by omega) hbytes)
      have hgr := grown cap (by omega) (Value.ownBlock (.slice (some ⟨g, 0, none⟩) n cap))
      exact ⟨_, _, hr, hgr.1, hgr.2, .inr rfl⟩
theorem zero_cells : ∀ k : Nat, (Builtin.zeroCells #[.int .i64 0, .int .i64 0] k).toList = flat (List.replicate k 0) (List.replicate k 0) := by
  intro k
  have h2 : (flat (List.replicate k 0) (List.replicate k 0)).length = k * 2 := by rw [flat_len _ _ (by simp), List.length_replicate]
  refine List.ext_getElem (by rw [Array.length_toList, size_zeroCells, h2]; rfl) fun j h3 h4 => ?_
  have h5 : ∀ j, j < k * 2 → (flat (List.replicate k 0) (List.replicate k 0))[j]? = some (.int .i64 0) := fun j hj => by
    rcases (show j = j / 2 * 2 ∨ j = j / 2 * 2 + 1 by omega) with e | e
    · rw [e, flat_s _ _ _ (by simp) (by simp; omega), at0_zeros]
    · rw [e, flat_p _ _ _ (by simp) (by simp; omega), at0_zeros]
  have h6 := h5 j (by omega)
  rw [List.getElem?_eq_getElem h4] at h6
  rw [Option.some.inj h6]
  simp only [Builtin.zeroCells, Array.getElem_toList, Array.getElem_map, Array.getElem_range]
  rcases (show j % 2 = 0 ∨ j % 2 = 1 by omega) with e | e
  · show (#[.int .i64 0, .int .i64 0] : Array Value)[j % 2]! = _
    rw [e]; rfl
  · show (#[.int .i64 0, .int .i64 0] : Array Value)[j % 2]! = _
    rw [e]; rfl
end Go.Proofs.Ytclbbpmofifigaa.Hep
