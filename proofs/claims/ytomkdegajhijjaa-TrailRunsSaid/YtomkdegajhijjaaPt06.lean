/- The landed trail's record in memory: a row of cells, an order, a level; what stores and calls leave. No condition. trail's variable, knows, of, set over a record in memory. Condition: numbers are in range. -/
import Derived.Test.YtomkdegajhijjaaPt05
import Derived.Test.YtomkdegajhijjaaPt04
import Derived.Lib.AppendZerosOnto
import Derived.BigQuiet
namespace Go.Proofs.Ytomkdegajhijjaa.Tra
open Go.ChangeShapes Go.WideShapes Go.ChangeAt Go.RowKit Go.Maps Circ Cw Cla

/-- cells of variables, cell by cell -/
def flat3 : List Tri → List Value
  | s :: C => .int .i64 s.a :: .int .i64 s.b :: .int .i64 s.c :: flat3 C
  | [] => []
theorem flat3_len : ∀ C : List Tri, (flat3 C).length = C.length * 3
  | [] => rfl
  | s :: C => by
    have := flat3_len C
    simp only [flat3, List.length_cons] at *
    omega
theorem flat3_a : ∀ (C : List Tri) (x : Nat), x < C.length → (flat3 C)[x * 3]? = some (.int .i64 (getT C x).a)
  | s :: C, 0, _ => rfl
  | s :: C, x + 1, hx => by
    rw [show (x + 1) * 3 = (x * 3 + 1 + 1) + 1 by omega]
    exact flat3_a C x (by simpa using hx)
  | [], _, hx => by simp at hx
theorem flat3_b : ∀ (C : List Tri) (x : Nat), x < C.length → (flat3 C)[x * 3 + 1]? = some (.int .i64 (getT C x).b)
  | s :: C, 0, _ => rfl
  | s :: C, x + 1, hx => by
    rw [show (x + 1) * 3 + 1 = (x * 3 + 1 + 1 + 1) + 1 by omega]
    exact flat3_b C x (by simpa using hx)
  | [], _, hx => by simp at hx
theorem flat3_c : ∀ (C : List Tri) (x : Nat), x < C.length → (flat3 C)[x * 3 + 2]? = some (.int .i64 (getT C x).c)
  | s :: C, 0, _ => rfl
  | s :: C, x + 1, hx => by
    rw [show (x + 1) * 3 + 2 = (x * 3 + 2 + 1 + 1) + 1 by omega]
    exact flat3_c C x (by simpa using hx)
  | [], _, hx => by simp at hx
theorem flat3_set : ∀ (C : List Tri) (x : Nat) (s : Tri), (((flat3 C).set (x * 3) (.int .i64 s.a)).set (x * 3 + 1) (.int .i64 s.b)).set (x * 3 + 2) (.int .i64 s.c) = flat3 (C.set x s)
  | r :: C, 0, s => rfl
  | r :: C, x + 1, s => by
    rw [show (x + 1) * 3 = (x * 3 + 1 + 1) + 1 by omega]
    show _ :: _ :: _ :: (((flat3 C).set (x * 3) _).set (x * 3 + 1) _).set (x * 3 + 2) _ = _ :: _ :: _ :: flat3 (C.set x s)
    rw [flat3_set C x s]
  | [], _, _ => rfl
theorem flat3_app : ∀ C D : List Tri, flat3 (C ++ D) = flat3 C ++ flat3 D
  | [], _ => rfl
  | s :: C, D => by
    show _ :: _ :: _ :: flat3 (C ++ D) = _ :: _ :: _ :: (flat3 C ++ flat3 D)
    rw [flat3_app C D]
/-- a call turns no older block but those of S -/
structure Chg (S : Nat → Prop) (w w' : World) : Prop where
  os : w'.os = w.os
  tape : w'.tape = w.tape
  output : w'.output = w.output
  size : w.heap.size ≤ w'.heap.size
  other : ∀ k, k < w.heap.size → ¬ S k → w'.heap[k]? = w.heap[k]?
section
variable {S S' : Nat → Prop} {w w' w'' : World}
theorem Chg.refl (S : Nat → Prop) (w : World) : Chg S w w := ⟨rfl, rfl, rfl, Nat.le_refl _, fun _ _ _ => rfl⟩
theorem Chg.trans (h : Chg S w w') (k : Chg S' w' w'') (hs : ∀ i, S' i → S i ∨ w.heap.size ≤ i) : Chg S w w'' :=
  ⟨k.os.trans h.os, k.tape.trans h.tape, k.output.trans h.output, Nat.le_trans h.size k.size, fun i hi hn => (k.other i (Nat.lt_of_lt_of_le hi h.size) (fun e => (hs i e).elim hn (by omega))).trans (h.other i hi hn)⟩
theorem Chg.mono (h : Chg S w w') (hs : ∀ i, S i → S' i) : Chg S' w w' := ⟨h.os, h.tape, h.output, h.size, fun i hi hn => h.other i hi fun e => hn (hs i e)⟩
theorem Chg.of_below (h : Below w.heap.size w w') : Chg S w w' := ⟨h.os, h.tape, h.output, h.size, fun k hk _ => h.block k hk⟩
theorem Chg.of_but {g : Nat} (h : But g w w') (hs : S g) : Chg S w w' := ⟨h.os, h.tape, h.output, Nat.le_of_eq h.z.symm, fun k _ hn => h.b k fun e => hn (e ▸ hs)⟩
theorem Chg.of_grown {row : Option Nat} (h : w.grownBy w' row) (hs : ∀ g, row = some g → S g) : Chg S w w' := ⟨h.os, h.tape, h.output, h.size, fun k hk hn => h.block k hk fun e => hn (hs k e.symm)⟩
end
/-- the blocks of a tree -/
def TOwn (t : Nat) (vc vo : Value) (k : Nat) : Prop := k = t ∨ vc.ownBlock = some k ∨ vo.ownBlock = some k
/-- the record in block t: its row of cells, its order, its level -/
structure Rec (w : World) (t : Nat) (vc vo : Value) (C : List Tri) (od : List Int) (d : Int) : Prop where
  box : w.heap[t]? = some (.cells #[vc, vo, .int .i64 d] 47 (0, 0))
  oc : w.ownsRow 0 51 3 vc C.length (flat3 C)
  oo : OwnI w 0 vo od
theorem own_type {w : World} {base m n : Nat} {e : TypeId} {v : Value} {xs : List Value} (h : w.ownsRow base e m v n xs) {g : Nat} (hg : v.ownBlock = some g) : ∃ cur, w.heap[g]? = some (.cells cur e (0, 0)) := by
  rcases h.2 with ⟨rfl, _⟩ | ⟨g', cap, cur, rfl, _, hh, _⟩
  · simp [Value.ownBlock] at hg
  · have : g' = g := by simpa [Value.ownBlock] using hg
    subst this
    exact ⟨cur, hh⟩
theorem types_apart {w : World} {i j : Nat} {a b : Array Value} {T S : TypeId} (ha : w.heap[i]? = some (.cells a T (0, 0))) (hb : w.heap[j]? = some (.cells b S (0, 0))) (h : T ≠ S) : i ≠ j := fun e => by
  subst e
  rw [ha] at hb
  injection hb with hb
  injection hb with h1 h2
  exact h h2
theorem row_keepR {w w' : World} {base m n : Nat} {e : TypeId} {v : Value} {xs : List Value} (h : w.ownsRow base e m v n xs) (hk : ∀ g, v.ownBlock = some g → w'.heap[g]? = w.heap[g]?) : w'.ownsRow base e m v n xs := by
  refine ⟨h.1, ?_⟩
  rcases h.2 with hn | ⟨g, cap, cur, rfl, hb, hgg, rest⟩
  · exact .inl hn
  · exact .inr ⟨g, cap, cur, rfl, hb, (hk g rfl).trans hgg, rest⟩
section
variable {w w' : World} {t g q : Nat} {vc vo : Value} {C : List Tri} {od : List Int} {d : Int}
theorem Rec.nc (h : Rec w t vc vo C od d) {g : Nat} (hg : vc.ownBlock = some g) : g ≠ t := by
  obtain ⟨cur, hc⟩ := own_type h.oc hg
  exact types_apart hc h.box (by decide)
theorem Rec.no (h : Rec w t vc vo C od d) {g : Nat} (hg : vo.ownBlock = some g) : g ≠ t := by
  obtain ⟨cur, hc⟩ := own_type h.oo hg
  exact types_apart hc h.box (by decide)
theorem Rec.ne (h : Rec w t vc vo C od d) {g k : Nat} (hg : vc.ownBlock = some g) (hk : vo.ownBlock = some k) : g ≠ k := by
  obtain ⟨cur, hc⟩ := own_type h.oc hg
  obtain ⟨cur2, hc2⟩ := own_type h.oo hk
  exact types_apart hc hc2 (by decide)
theorem Rec.lt (h : Rec w t vc vo C od d) : ∀ k, TOwn t vc vo k → k < w.heap.size := fun k hk => by
  rcases hk with rfl | hk | hk
  · exact (Array.getElem?_eq_some_iff.1 h.box).1
  · obtain ⟨cur, hc⟩ := own_type h.oc hk
    exact (Array.getElem?_eq_some_iff.1 hc).1
  · obtain ⟨cur, hc⟩ := own_type h.oo hk
    exact (Array.getElem?_eq_some_iff.1 hc).1
theorem Rec.keep (h : Rec w t vc vo C od d) (hk : ∀ k, TOwn t vc vo k → w'.heap[k]? = w.heap[k]?) : Rec w' t vc vo C od d :=
  ⟨(hk t (.inl rfl)).trans h.box, row_keepR h.oc fun g hg => hk g (.inr (.inl hg)), row_keepR h.oo fun g hg => hk g (.inr (.inr hg))⟩
theorem Rec.below (h : Rec w t vc vo C od d) (hb : Below w.heap.size w w') : Rec w' t vc vo C od d := h.keep fun k hk => hb.block k (h.lt k hk)
theorem Rec.cells (h : Rec w t vc vo C od d) : w.cell? ⟨t, 0, none⟩ = some vc ∧ w.cell? ⟨t, 1, none⟩ = some vo ∧ w.cell? ⟨t, 2, none⟩ = some (.int .i64 d) := by
  refine ⟨?_, ?_, ?_⟩ <;> · rw [Lib.cell_of_heap h.box]; rfl
theorem Rec.frozen (h : Rec w t vc vo C od d) (i : Nat) : w.frozen? ⟨t, i, none⟩ = false := by simp [World.frozen?, h.box]
/-- the row of cells -/
theorem Rec.row (h : Rec w t vc vo C od d) : ∃ A q, vc = .slice A C.length q ∧ q ≤ maxLen ∧ C.length ≤ q ∧ (0 < C.length → ∃ g, A = some ⟨g, 0, none⟩ ∧ (∀ x, x < C.length → w.cell? ⟨g, x * 3, none⟩ = some (.int .i64 (getT C x).a) ∧ w.cell? ⟨g, x * 3 + 1, none⟩ = some (.int .i64 (getT C x).b) ∧ w.cell? ⟨g, x * 3 + 2, none⟩ = some (.int .i64 (getT C x).c)) ∧ ∀ i, w.frozen? ⟨g, i, none⟩ = false) := by
  have hl := flat3_len C
  rcases h.oc.2 with ⟨rfl, h0⟩ | ⟨g, cap, cur, rfl, _, hh, h1, h2, h3, h4⟩
  · exact ⟨none, 0, by rw [h0], by decide, by omega, fun hp => by omega⟩
  · refine ⟨_, cap, rfl, h2, h1, fun _ => ⟨g, rfl, fun x hx => ⟨?_, ?_, ?_⟩, fun i => by simp [World.frozen?, hh]⟩⟩
    · rw [World.ownsRow.cellAt h.oc (x * 3) (by omega)]
      exact flat3_a C x hx
    · rw [World.ownsRow.cellAt h.oc (x * 3 + 1) (by omega)]
      exact flat3_b C x hx
    · rw [World.ownsRow.cellAt h.oc (x * 3 + 2) (by omega)]
      exact flat3_c C x hx
/-- the order's row -/
theorem Rec.ord (h : Rec w t vc vo C od d) : ∃ A q, vo = .slice A od.length q ∧ q ≤ maxLen ∧ od.length ≤ q ∧ (0 < od.length → ∃ g, A = some ⟨g, 0, none⟩ ∧ (∀ i, i < od.length → w.cell? ⟨g, i, none⟩ = some (.int .i64 (od.getD i 0))) ∧ ∀ i, w.frozen? ⟨g, i, none⟩ = false) := by
  rcases h.oo.2 with ⟨rfl, h0⟩ | ⟨g, cap, cur, rfl, _, hh, h1, h2, h3, h4⟩
  · exact ⟨none, 0, by rw [h0], by decide, by omega, fun hp => by omega⟩
  · refine ⟨_, cap, rfl, h2, h1, fun _ => ⟨g, rfl, fun i hi => ?_, fun i => by simp [World.frozen?, hh]⟩⟩
    have := World.ownsRow.cellAt (show w.ownsRow 0 3 1 _ _ _ from h.oo) i (by omega)
    rw [this, List.getElem?_map, List.getElem?_eq_getElem hi, List.getD_eq_getElem?_getD, List.getElem?_eq_getElem hi]; rfl
/-- a cell stored whole -/
theorem Rec.putC (h : Rec w t (.slice (some ⟨g, 0, none⟩) C.length q) vo C od d) (x : Nat) (s : Tri) : Rec (((w.setCell ⟨g, x * 3, none⟩ (.int .i64 s.a)).setCell ⟨g, x * 3 + 1, none⟩ (.int .i64 s.b)).setCell ⟨g, x * 3 + 2, none⟩ (.int .i64 s.c)) t (.slice (some ⟨g, 0, none⟩) C.length q) vo (C.set x s) od d ∧ But g w (((w.setCell ⟨g, x * 3, none⟩ (.int .i64 s.a)).setCell ⟨g, x * 3 + 1, none⟩ (.int .i64 s.b)).setCell ⟨g, x * 3 + 2, none⟩ (.int .i64 s.c)) := by
  have hb := ((But.set w g (x * 3) (.int .i64 s.a)).trans (But.set _ g (x * 3 + 1) (.int .i64 s.b))).trans (But.set _ g (x * 3 + 2) (.int .i64 s.c))
  refine ⟨⟨hb.block h.box (h.nc rfl).symm, ?_, row_keepR h.oo fun k hk => hb.b k (h.ne rfl hk).symm⟩, hb⟩
  have h1 := World.ownsRow.stored h.oc (x * 3) (.int .i64 s.a)
  have h2 := World.ownsRow.stored h1.1 (x * 3 + 1) (.int .i64 s.b)
  have h3 := World.ownsRow.stored h2.1 (x * 3 + 2) (.int .i64 s.c)
  rw [flat3_set C x s] at h3
  rw [List.length_set]
  exact h3.1
/-- the level, stored in the box -/
theorem Rec.putD (h : Rec w t vc vo C od d) (e : Int) : ∃ Z u, (w.setCell ⟨t, 2, none⟩ (.int .i64 e) = Z ∧ w.cell? ⟨t, 2, none⟩ = some u ∧ w.frozen? ⟨t, 2, none⟩ = false) ∧ Rec Z t vc vo C od e ∧ But t w Z := by
  obtain ⟨Z, u, h1, h2, hb⟩ := step_set w _ 2 (.int .i64 e) h.box (by show 2 < 3; decide)
  exact ⟨Z, u, h1, ⟨h2, row_keepR h.oc fun k hk => hb.b k (h.nc hk), row_keepR h.oo fun k hk => hb.b k (h.no hk)⟩, hb⟩
/-- an order cut behind its first m, stored in the box -/
theorem Rec.cutO (h : Rec w t vc (.slice (some ⟨g, 0, none⟩) od.length q) C od d) {m : Nat} (hm : m ≤ od.length) : ∃ Z u, (w.setCell ⟨t, 1, none⟩ (.slice (some ⟨g, 0, none⟩) m q) = Z ∧ w.cell? ⟨t, 1, none⟩ = some u ∧ w.frozen? ⟨t, 1, none⟩ = false) ∧ Rec Z t vc (.slice (some ⟨g, 0, none⟩) m q) C (od.take m) d ∧ But t w Z := by
  obtain ⟨Z, u, h1, h2, hb⟩ := step_set w _ 1 (.slice (some ⟨g, 0, none⟩) m q) h.box (by show 1 < 3; decide)
  refine ⟨Z, u, h1, ⟨h2, row_keepR h.oc fun k hk => hb.b k (h.nc hk), ?_⟩, hb⟩
  rcases h.oo.2 with ⟨h0, _⟩ | ⟨g', cap, cur, h0, hbs, hh, h3, h4, h5, h6⟩
  · injection h0 with h0; cases h0
  · injection h0 with h0 _ hq
    injection h0 with h0
    injection h0 with h0
    subst h0 hq
    have tl : (od.take m).length = m := by rw [List.length_take]; omega
    refine ⟨by rw [List.length_map, Nat.mul_one], .inr ⟨g, q, cur, by rw [tl], hbs, (hb.b g (h.no rfl)).trans hh, by omega, h4, h5, ?_⟩⟩
    rw [tl, List.map_take, ← h6, List.take_take]
    congr 1
    omega
/-- an order lengthened, stored in the box -/
theorem Rec.growO (h : Rec w t vc vo C od d) {v : Value} {od' : List Int} (ho : OwnI w' 0 v od') (hg : w.grownBy w' vo.ownBlock) (hl : v.ownBlock = vo.ownBlock ∨ v.ownBlock = some w.heap.size) :
    ∃ Z u, (w'.setCell ⟨t, 1, none⟩ v = Z ∧ w'.cell? ⟨t, 1, none⟩ = some u ∧ w'.frozen? ⟨t, 1, none⟩ = false) ∧ Rec Z t vc v C od' d ∧ Chg (TOwn t vc vo) w Z := by
  have ht := (Array.getElem?_eq_some_iff.1 h.box).1
  have hbox : w'.heap[t]? = some (.cells #[vc, vo, .int .i64 d] 47 (0, 0)) := (hg.block t ht (fun e => h.no e.symm rfl)).trans h.box
  obtain ⟨Z, u, h1, h2, hb⟩ := step_set w' _ 1 v hbox (by show 1 < 3; decide)
  have hvt : ∀ k, v.ownBlock = some k → k ≠ t := fun k hk => by
    rcases hl with e | e
    · exact h.no (e ▸ hk)
    · rw [e] at hk
      injection hk with hk
      omega
  refine ⟨Z, u, h1, ⟨h2, row_keepR h.oc fun k hk => (hb.b k (h.nc hk)).trans (hg.block k (h.lt k (.inr (.inl hk))) fun e => h.ne hk e.symm rfl), row_keepR ho fun k hk => hb.b k (hvt k hk)⟩, ?_⟩
  exact (Chg.of_grown hg (fun k hk => .inr (.inr hk))).trans (Chg.of_but hb (.inl rfl : TOwn t vc vo t)) fun i hi => .inl hi
/-- the cells lengthened, stored in the box -/
theorem Rec.growC (h : Rec w t vc vo C od d) {v : Value} {C' : List Tri} (ho : w'.ownsRow 0 51 3 v C'.length (flat3 C')) (hg : w.grownBy w' vc.ownBlock) (hl : v.ownBlock = vc.ownBlock ∨ v.ownBlock = some w.heap.size) :
    ∃ Z u, (w'.setCell ⟨t, 0, none⟩ v = Z ∧ w'.cell? ⟨t, 0, none⟩ = some u ∧ w'.frozen? ⟨t, 0, none⟩ = false) ∧ Rec Z t v vo C' od d ∧ Chg (TOwn t vc vo) w Z := by
  have ht := (Array.getElem?_eq_some_iff.1 h.box).1
  have hbox : w'.heap[t]? = some (.cells #[vc, vo, .int .i64 d] 47 (0, 0)) := (hg.block t ht (fun e => h.nc e.symm rfl)).trans h.box
  obtain ⟨Z, u, h1, h2, hb⟩ := step_set w' _ 0 v hbox (by show 0 < 3; decide)
  have hvt : ∀ k, v.ownBlock = some k → k ≠ t := fun k hk => by
    rcases hl with e | e
    · exact h.nc (e ▸ hk)
    · rw [e] at hk
      injection hk with hk
      omega
  refine ⟨Z, u, h1, ⟨h2, row_keepR ho fun k hk => hb.b k (hvt k hk), row_keepR h.oo fun k hk => (hb.b k (h.no hk)).trans (hg.block k (h.lt k (.inr (.inr hk))) fun e => h.ne e.symm hk rfl)⟩, ?_⟩
  exact (Chg.of_grown hg (fun k hk => .inr (.inl hk))).trans (Chg.of_but hb (.inl rfl : TOwn t vc vo t)) fun i hi => .inl hi
end
/-- append(s, make([]T, k)...) onto a row that the call owns -/
theorem run_append_zeros_own {P : Program} (w : World) (k : Nat) (hk : 0 < k) (base : Nat) (t tn ty e : TypeId) (i : TypeInfo) (z : Value) (size bytes : Nat) (ht : P.underlying t = some (.slice e)) (kq kn : IntKind) (htn : P.underlying tn = some (.int kn)) (hi : P.info? e = some i) (hz : i.zero = some z)
    (hsize : i.size = size) (hby : i.bytes = bytes) (hzs : z.cells.size = size) (hsz : 0 < size) (hz1 : ∀ u ∈ (Builtin.zeroCells z.cells k).toList, u.oneCell' = true)
    (v : Value) (n : Nat) (xs : List Value) (hown : w.ownsRow base e size v n xs)
    (h63 : n + k ≤ maxLen) (hbytes : (n + k) * bytes ≤ 140737488355328) (hbase : base ≤ w.heap.size) :
    ∃ v' w', (Builtin.append_ #[t, tn] ty #[v, .int kq k]).run P w = .ok v' w' ∧ w'.ownsRow base e size v' (n + k) (xs ++ (Builtin.zeroCells z.cells k).toList) ∧ w.grownBy w' v.ownBlock ∧ (v'.ownBlock = v.ownBlock ∨ v'.ownBlock = some w.heap.size) := by
  subst hsize
  subst hby
  have hsmall : n + k ≤ 9223372036854775807 := by simp only [maxLen] at h63; omega
  have hzl : (Builtin.zeroCells z.cells k).toList.length = k * i.size := by rw [Array.length_toList, size_zeroCells, hzs]
  have hlen : (xs ++ (Builtin.zeroCells z.cells k).toList).length = (n + k) * i.size := by rw [List.length_append, hown.1, hzl, Nat.add_mul]
  have hkb : k * i.bytes ≤ 281474976710656 := by
    have : k * i.bytes ≤ (n + k) * i.bytes := Nat.mul_le_mul_right _ (by omega)
    omega
  have grown : ∀ (old : Nat), old < n + k → ∀ (row : Option Nat),
      (w.drew.alloc (.cells (xs.toArray ++ Builtin.zeroCells z.cells k ++ Builtin.zeroCells z.cells (grownCap w (n + k) old e - (n + k))) e)).ownsRow base e i.size
        (.slice (some ⟨w.heap.size, 0, none⟩) (n + k) (grownCap w (n + k) old e)) (n + k) (xs ++ (Builtin.zeroCells z.cells k).toList) ∧
      w.grownBy (w.drew.alloc (.cells (xs.toArray ++ Builtin.zeroCells z.cells k ++ Builtin.zeroCells z.cells (grownCap w (n + k) old e - (n + k))) e)) row := by
    intro old ho row
    have hge := grownCap_ge w (n + k) old e
    have hcm : grownCap w (n + k) old e ≤ maxLen := grownCap_le_maxLen w (n + k) old e h63
    refine ⟨⟨hlen, .inr ⟨w.heap.size, _, _, rfl, hbase, heap_alloc_new w.drew _, hge, hcm, ?_, ?_⟩⟩, ⟨rfl, rfl, rfl, by simp, fun j hj _ => heap_alloc_old w.drew _ hj⟩⟩
    · simp only [Array.size_append, List.size_toArray, size_zeroCells, hzs, hown.1, ← Nat.add_mul]
      congr 1
      omega
    · simp only [Array.toList_append]
      rw [← hlen]
      exact List.take_left
  rcases hown.2 with ⟨rfl, rfl⟩ | ⟨g, cap, cur, rfl, hbg, hg, hnc, hcm, hcs, htake⟩
  · have hx : xs = [] := List.eq_nil_of_length_eq_zero (by simpa using hown.1)
    subst hx
    have hr := Lib.run_append_nil_zeros (P := P) w t tn ty e i z kq kn ht htn hi hz k hk hsz (by omega) hkb
    have hgr := grown 0 (by omega) (Value.ownBlock (.slice none 0 0))
    simp only [Nat.zero_add, List.nil_append, Array.empty_append] at hgr ⊢
    exact ⟨_, _, hr, hgr.1, hgr.2, .inr rfl⟩
  · by_cases hroom : n + k ≤ cap
    · have hfit : n * i.size + (Builtin.zeroCells z.cells k).toList.length ≤ cur.size := by rw [hzl, hcs, ← Nat.add_mul]; exact Nat.mul_le_mul_right _ hroom
      have hst := run_storeCells_at P g (n * i.size) e (Builtin.zeroCells z.cells k).toList 0 cur w hg (by simpa using hfit) hz1
      simp only [Nat.add_zero] at hst
      have hr : (Builtin.append_ #[t, tn] ty #[.slice (some ⟨g, 0, none⟩) n cap, .int kq k]).run P w = .ok (.slice (some ⟨g, 0, none⟩) (n + k) cap) (w.setRow g (cur.toList.take (n * i.size) ++ (Builtin.zeroCells z.cells k).toList ++ cur.toList.drop (n * i.size + (Builtin.zeroCells z.cells k).toList.length)).toArray) := by
        have hw : IntKind.i64.wrap (k : Int) = k := by rw [IntKind.wrap_i64]; omega
        have h48i : ¬ (281474976710656 < (k : Int) * (i.bytes : Int)) := by
          rw [← Int.natCast_mul]
          omega
        have hneg : ¬ ((k : Int) < 0) := by omega
        have hns : ¬ (k * i.size = 0) := Nat.mul_ne_zero (by omega) (by omega)
        simp [Builtin.append_, run_underlying ht, run_underlying htn, sizeOf, typeInfo, zeroValue, hi, hz, asInt, asIntOf, hw, hneg, h48i, hns, hroom, Addr.add_lit, hst]
      refine ⟨_, _, hr, ⟨hlen, .inr ⟨g, cap, _, rfl, hbg, setRow_heap w g cur _ e _ hg, hroom, hcm, ?_, ?_⟩⟩, ⟨rfl, rfl, rfl, by simp, fun k _ hk => setRow_other w g k _ (fun e => hk (by simp [Value.ownBlock, e]))⟩, .inl rfl⟩
      · simp only [List.size_toArray, List.length_append, List.length_take, List.length_drop, Array.length_toList] at hfit ⊢
        omega
      · rw [htake, ← hlen]
        exact List.take_left
    · have holds : ∀ j u, xs[j]? = some u → w.cell? ((⟨g, 0, none⟩ : Addr).add j) = some u := hown.cells (g := g) rfl
      have hold : (Builtin.firstCells i.size n (.slice (some ⟨g, 0, none⟩) n cap)).run P w.drew = .ok xs.toArray w.drew := run_firstCells_some (P := P) w.drew i.size n ⟨g, 0, none⟩ n cap xs hown.1 holds
      have hr := Lib.run_append_grow_zeros (P := P) w t tn ty e i z kq kn ht htn hi hz (some ⟨g, 0, none⟩) n cap xs hold k hk hsz (by omega) (by omega) hkb (growslice_fits (by omega) hbytes)
      have hgr := grown cap (by omega) (Value.ownBlock (.slice (some ⟨g, 0, none⟩) n cap))
      exact ⟨_, _, hr, hgr.1, hgr.2, .inr rfl⟩
theorem zero_cells3 : ∀ k : Nat, (Builtin.zeroCells #[.int .i64 0, .int .i64 0, .int .i64 0] k).toList = flat3 (List.replicate k zeroT) := by
  intro k
  have h2 : (flat3 (List.replicate k zeroT)).length = k * 3 := by rw [flat3_len, List.length_replicate]
  refine List.ext_getElem (by rw [Array.length_toList, size_zeroCells, h2]; rfl) fun j h3 h4 => ?_
  have hz : ∀ x, getT (List.replicate k zeroT) x = zeroT := fun x => by
    unfold getT
    rw [List.getD_eq_getElem?_getD, List.getElem?_replicate]
    split <;> rfl
  have h5 : ∀ j, j < k * 3 → (flat3 (List.replicate k zeroT))[j]? = some (.int .i64 0) := fun j hj => by
    rcases (show j = j / 3 * 3 ∨ j = j / 3 * 3 + 1 ∨ j = j / 3 * 3 + 2 by omega) with e | e | e
    · rw [e, flat3_a _ _ (by simp; omega), hz]; rfl
    · rw [e, flat3_b _ _ (by simp; omega), hz]; rfl
    · rw [e, flat3_c _ _ (by simp; omega), hz]; rfl
  have h6 := h5 j (by omega)
  rw [List.getElem?_eq_getElem h4] at h6
  rw [Option.some.inj h6]
  simp only [Builtin.zeroCells, Array.getElem_toList, Array.getElem_map, Array.getElem_range]
  rcases (show j % 3 = 0 ∨ j % 3 = 1 ∨ j % 3 = 2 by omega) with e | e | e
  · show (#[.int .i64 0, .int .i64 0, .int .i64 0] : Array Value)[j % 3]! = _
    rw [e]; rfl
  · show (#[.int .i64 0, .int .i64 0, .int .i64 0] : Array Value)[j % 3]! = _
    rw [e]; rfl
  · show (#[.int .i64 0, .int .i64 0, .int .i64 0] : Array Value)[j % 3]! = _
    rw [e]; rfl
end Go.Proofs.Ytomkdegajhijjaa.Tra
namespace Go.Proofs.Ytomkdegajhijjaa.Tra
open Go.ChangeShapes Go.WideShapes Go.ChangeAt Go.RowKit Go.Maps Circ Cw Cla

set_option maxHeartbeats 4000000 in
set_option maxRecDepth 100000 in
theorem var_any (x : Int) (w : World) (hx : I64 x) : Calls Try.prog 23 #[.int .i64 x] w fun e w' => e = .returned (.int .i64 (absW x)) ∧ w' = w := by
  obtain ⟨x0, x1⟩ := hx
  have hn : IntKind.i64.wrap (-x) = negW x := by
    rw [IntKind.wrap_i64]
    unfold negW
    split <;> omega
  have HA : Hid (absW x = if negW x < x then x else negW x) := rfl
  obtain ⟨y, hy⟩ : ∃ y, absW x = y := ⟨_, rfl⟩
  rw [hy] at HA ⊢
  generalize negW x = z at *
  clear hy
  by_cases h : z < x
  · have HR : Hid (y = x) := by have := HA.out; rw [if_pos h] at this; exact this
    clear HA
    go_enter Try.func23, Try.ntmps23
    go_wp2
    all_goals
      go_ret
      exact ⟨by have := HR.out; subst this; first | rfl | (congr 2; omega), rfl⟩
  · have HR : Hid (y = z) := by have := HA.out; rw [if_neg h] at this; exact this
    clear HA
    go_enter Try.func23, Try.ntmps23
    go_wp2
    all_goals
      go_ret
      exact ⟨by have := HR.out; subst this; first | rfl | (simp; omega), rfl⟩
set_option maxHeartbeats 4000000 in
set_option maxRecDepth 100000 in
theorem knows_any (t n q : Nat) (A : Option Addr) (x : Int) (w : World) (hc : w.cell? ⟨t, 0, none⟩ = some (.slice A n q)) :
    Calls Try.prog 24 #[.pointer (some ⟨t, 0, none⟩), .int .i64 x] w fun e w' => e = .returned (.bool (decide (1 ≤ x) && decide (x ≤ (n : Int)))) ∧ w' = w := by
  by_cases h0 : 1 ≤ x
  · have d0 : decide (1 ≤ x) = true := decide_eq_true h0
    by_cases h1 : x ≤ (n : Int)
    · have d1 : decide (x ≤ (n : Int)) = true := decide_eq_true h1
      rw [d0, d1]
      go_enter Try.func24, Try.ntmps24
      go_wp2
      go_ret
      exact ⟨rfl, rfl⟩
    · have d1 : decide (x ≤ (n : Int)) = false := decide_eq_false h1
      rw [d0, d1]
      go_enter Try.func24, Try.ntmps24
      go_wp2
      go_ret
      exact ⟨rfl, rfl⟩
  · have d0 : decide (1 ≤ x) = false := decide_eq_false h0
    rw [d0, Bool.false_and]
    go_enter Try.func24, Try.ntmps24
    go_wp2
    go_ret
    exact ⟨rfl, rfl⟩
theorem not_known {x : Int} {n : Nat} (h : ¬ (1 ≤ x ∧ x ≤ (n : Int))) : (decide (1 ≤ x) && decide (x ≤ (n : Int))) = false := by
  rw [Bool.and_eq_false_iff, decide_eq_false_iff_not, decide_eq_false_iff_not]; omega
theorem res_of {Z : World} {b : Nat} {x y z : Int} (h0 : Z.cell? ⟨b, 0, none⟩ = some (.int .i64 x)) (h1 : Z.cell? ⟨b, 1, none⟩ = some (.int .i64 y)) (h2 : Z.cell? ⟨b, 2, none⟩ = some (.int .i64 z)) : ∀ tmps : Array Value, tmps.getD 4 undef = .pointer (some ⟨b, 0, none⟩) → (results Try.f25 tmps).run Try.prog Z = .ok (.agg #[.int .i64 x, .int .i64 y, .int .i64 z]) Z := fun tmps ht => by
  simp only [results, show Try.f25.results = #[ResultVar.cell 4 51] from rfl]
  have ht' : tmps[4]?.getD undef = .pointer (some ⟨b, 0, none⟩) := by simpa using ht
  go_simp
section
variable {w : World} {t : Nat} {vc vo : Value} {C : List Tri} {od : List Int} {d : Int}
def aggT (s : Tri) : Value := .agg #[.int .i64 s.a, .int .i64 s.b, .int .i64 s.c]
theorem stored3 (w : World) (s : Tri) : ∃ W0 Z1 Z2 Z3 u0 u1 u2, w.alloc (.cells #[.int .i64 0, .int .i64 0, .int .i64 0] 51) = W0 ∧ Below w.heap.size w W0 ∧ (W0.setCell ⟨w.heap.size, 0, none⟩ (.int .i64 s.a) = Z1 ∧ W0.cell? ⟨w.heap.size, 0, none⟩ = some u0 ∧ W0.frozen? ⟨w.heap.size, 0, none⟩ = false) ∧ (Z1.setCell ⟨w.heap.size, 1, none⟩ (.int .i64 s.b) = Z2 ∧ Z1.cell? ⟨w.heap.size, 1, none⟩ = some u1 ∧ Z1.frozen? ⟨w.heap.size, 1, none⟩ = false) ∧ (Z2.setCell ⟨w.heap.size, 2, none⟩ (.int .i64 s.c) = Z3 ∧ Z2.cell? ⟨w.heap.size, 2, none⟩ = some u2 ∧ Z2.frozen? ⟨w.heap.size, 2, none⟩ = false) ∧ Z3.heap[w.heap.size]? = some (.cells #[.int .i64 s.a, .int .i64 s.b, .int .i64 s.c] 51 (0, 0)) ∧ Below w.heap.size w Z3 := by
  obtain ⟨W0, hW0⟩ : ∃ x, w.alloc (.cells #[.int .i64 0, .int .i64 0, .int .i64 0] 51) = x := ⟨_, rfl⟩
  have HZ : W0.heap[w.heap.size]? = some (.cells #[.int .i64 0, .int .i64 0, .int .i64 0] 51 (0, 0)) := by rw [← hW0]; exact zero3
  have b0 : Below w.heap.size w W0 := by rw [← hW0]; exact (Below.refl _ _).alloc (Nat.le_refl _) _
  obtain ⟨Z1, u0, a1, g1, f1⟩ := step_set W0 _ 0 (.int .i64 s.a) HZ (by decide)
  obtain ⟨Z2, u1, a2, g2, f2⟩ := step_set Z1 _ 1 (.int .i64 s.b) g1 (by simp)
  obtain ⟨Z3, u2, a3, g3, f3⟩ := step_set Z2 _ 2 (.int .i64 s.c) g2 (by simp)
  exact ⟨W0, Z1, Z2, Z3, u0, u1, u2, hW0, b0, a1, a2, a3, g3, f3.below (f2.below (f1.below b0 (Nat.le_refl _)) (Nat.le_refl _)) (Nat.le_refl _)⟩
set_option maxHeartbeats 4000000 in
set_option maxRecDepth 100000 in
theorem of_out (h : Rec w t vc vo C od d) (v : Int) (hv : ¬ (1 ≤ v ∧ v ≤ (C.length : Int))) :
    Calls Try.prog 25 #[.pointer (some ⟨t, 0, none⟩), .int .i64 v] w fun e w' => e = .returned (aggT zeroT) ∧ Below w.heap.size w w' := by
  obtain ⟨W0, Z1, Z2, Z3, u0, u1, u2, hW0, b0, ⟨h1, p1, q1⟩, ⟨h2, p2, q2⟩, ⟨h3, p3, q3⟩, GE, BE⟩ := stored3 w zeroT
  obtain ⟨r0, r1, r2⟩ := three GE
  have RS := Lib.hid (res_of r0 r1 r2)
  obtain ⟨A, q, hvc, -, -, -⟩ := h.row
  have c0 := (h.below b0).cells.1
  rw [hvc] at c0
  have KN := Lib.hid (knows_any t C.length q A v W0 c0)
  rw [not_known hv] at KN
  have BE2 := Lib.hid BE
  clear GE BE r0 r1 r2 b0 h c0 hvc hv
  simp only [zeroT] at h1 h2 h3 RS
  go_enter Try.func25, Try.ntmps25
  go_wp2_with fail
  refine KN.out.mono ?_
  rintro e w' ⟨rfl, rfl⟩
  clear KN
  go_wp2
  refine bodyPost_ret (RS.out _ rfl) rfl ?_
  exact ⟨rfl, BE2.out⟩
set_option maxHeartbeats 4000000 in
set_option maxRecDepth 100000 in
theorem of_in (h : Rec w t vc vo C od d) (x : Nat) (hx : x < C.length) (hl : C.length ≤ 262144) :
    Calls Try.prog 25 #[.pointer (some ⟨t, 0, none⟩), .int .i64 ((x : Int) + 1)] w fun e w' => e = .returned (aggT (getT C x)) ∧ Below w.heap.size w w' := by
  obtain ⟨W0, Z1, Z2, Z3, u0, u1, u2, hW0, b0, ⟨h1, p1, q1⟩, ⟨h2, p2, q2⟩, ⟨h3, p3, q3⟩, GE, BE⟩ := stored3 w (getT C x)
  obtain ⟨r0, r1, r2⟩ := three GE
  have RS := Lib.hid (res_of r0 r1 r2)
  have h' := h.below b0
  obtain ⟨A, q, hvc, -, -, hrow⟩ := h'.row
  obtain ⟨g, rfl, cc, -⟩ := hrow (by omega)
  obtain ⟨ca, cb, ccc⟩ := cc x hx
  have c0 := h'.cells.1
  rw [hvc] at c0
  have KN := Lib.hid (knows_any t C.length q (some ⟨g, 0, none⟩) ((x : Int) + 1) W0 c0)
  rw [decide_eq_true (show (1 : Int) ≤ (x : Int) + 1 by omega), decide_eq_true (show (x : Int) + 1 ≤ (C.length : Int) by omega), Bool.and_self] at KN
  have BE2 := Lib.hid BE
  have x0 : (0 : Int) ≤ (x : Int) := by omega
  have x1 : (x : Int) < (C.length : Int) := by omega
  have x2 : (x : Int) ≤ 262144 := by omega
  generalize getT C x = s at *
  clear GE BE r0 r1 r2 b0 h h' hvc hrow cc hx hl
  go_enter Try.func25, Try.ntmps25
  go_wp2_with fail
  refine KN.out.mono ?_
  rintro e w' ⟨rfl, rfl⟩
  clear KN
  go_wp2
  refine bodyPost_ret (RS.out _ rfl) rfl ?_
  exact ⟨rfl, BE2.out⟩
end
set_option maxHeartbeats 4000000 in
set_option maxRecDepth 100000 in
theorem set_any (s : Tri) (w : World) : Calls Try.prog 26 #[aggT s] w fun e w' => e = .returned (.bool (!decide (s.a = 0 ∧ s.b = 0 ∧ s.c = 0))) ∧ Below w.heap.size w w' := by
  obtain ⟨W1, hW1⟩ : ∃ y, w.alloc (.cells #[.int .i64 s.a, .int .i64 s.b, .int .i64 s.c] 51) = y := ⟨_, rfl⟩
  have g1 : W1.heap[w.heap.size]? = some (.cells #[.int .i64 s.a, .int .i64 s.b, .int .i64 s.c] 51 (0, 0)) := by rw [← hW1]; exact Array.getElem?_push_size
  have B1 : Hid (Below w.heap.size w W1) := by unfold Hid; rw [← hW1]; exact (Below.refl _ _).alloc (Nat.le_refl _) _
  obtain ⟨r0, r1, r2⟩ := three g1
  clear g1
  unfold aggT
  obtain ⟨a, b, c⟩ := s
  go_enter Try.func26, Try.ntmps26
  go_wp2
  all_goals
    go_ret
    exact ⟨by simp_all, B1.out⟩
end Go.Proofs.Ytomkdegajhijjaa.Tra
