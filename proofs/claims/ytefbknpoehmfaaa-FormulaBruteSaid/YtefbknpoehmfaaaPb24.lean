/- The setter in memory: its box, the literals by their variables, the queue, the lists of clauses that wait, the waiting clauses; what a store or an append leaves of it. No condition but what each states. -/
import Derived.Test.YtefbknpoehmfaaaPb19
import Derived.Test.YtefbknpoehmfaaaPb04
import Derived.Test.YtefbknpoehmfaaaPb06
import Derived.RangeFuncFrom
namespace Go.Proofs.Ytefbknpoehmfaaa.For
open Go.ChangeShapes Go.WideShapes Go.ChangeAt Go.RowKit Go.Maps Circ Cw Cla Rep

/-- where the setter lies: R its box, bs the literals by variables, qv the queue's slice, bw the lists' block, vs the lists' slices, bl the waiting clauses' blocks -/
structure Mem where
  R : Nat
  bs : Nat
  bw : Nat
  qv : Value
  vs : List Value
  bl : List Nat
def ptrs (bl : List Nat) (is : List Nat) : List (List Value) := is.map fun i => [.pointer (some ⟨bl.getD i 0, 0, none⟩)]
def numsA (l : List Int) : Array Value := (l.map (Value.int .i64)).toArray
structure WtAt (W : World) (B b : Nat) (w : Wt) : Prop where
  box : ∃ A q, W.heap[b]? = some (.cells #[.int .i64 w.kept, .int .i64 w.other, .slice A w.rest.length q] 83 (0, 0)) ∧ ILies W B A w.rest ∧ w.rest.length ≤ q
structure Mat (W : World) (B : Nat) (M : Mem) (s : St) : Prop where
  box : W.heap[M.R]? = some (.cells #[.slice (some ⟨M.bs, 0, none⟩) s.set.length s.set.length, M.qv, .slice (some ⟨M.bw, 0, none⟩) s.waits.length s.waits.length] 60 (0, 0))
  set : W.heap[M.bs]? = some (.cells (numsA s.set) 3 (0, 0))
  que : OwnI W B M.qv s.queue
  qs : M.qv.ownBlock ≠ some M.bs
  wts : W.heap[M.bw]? = some (.cells M.vs.toArray 85 (0, 0))
  vl : M.vs.length = s.waits.length
  row : ∀ p v, M.vs[p]? = some v → OwnC W B 81 1 v (ptrs M.bl (s.waits.getD p []))
  apart : ∀ (p q : Nat) (v u : Value), p ≠ q → M.vs[p]? = some v → M.vs[q]? = some u → ∀ g, v.ownBlock = some g → u.ownBlock ≠ some g
  bll : M.bl.length = s.ws.length
  wat : ∀ i w, s.ws[i]? = some w → WtAt W B (M.bl.getD i 0) w
  nd : M.bl.Nodup
  inb : ∀ p, ∀ i ∈ s.waits.getD p [], i < M.bl.length
  geR : B ≤ M.R
  ges : B ≤ M.bs
  gew : B ≤ M.bw
  geb : ∀ b ∈ M.bl, B ≤ b

theorem ne_type {W : World} {a b : Nat} {c c' : Array Value} {T T' : TypeId} {z z' : Nat × Nat} (h1 : W.heap[a]? = some (.cells c T z)) (h2 : W.heap[b]? = some (.cells c' T' z')) (hT : T ≠ T') : a ≠ b := fun e => by
  subst e
  have := h1.symm.trans h2
  simp only [Option.some.injEq, Obj.cells.injEq] at this
  exact hT this.2.1
theorem _root_.Go.Proofs.Ytefbknpoehmfaaa.Cw.OwnC.ne_block {W : World} {B : Nat} {e : TypeId} {m : Nat} {v : Value} {xs : List (List Value)} (h : OwnC W B e m v xs) {b : Nat} {c : Array Value} {T : TypeId} {z : Nat × Nat} (hb : W.heap[b]? = some (.cells c T z)) (hT : T ≠ e) : v.ownBlock ≠ some b := fun hg => by
  obtain ⟨_, h⟩ := h
  rcases h with ⟨rfl, h0⟩ | ⟨g', cap, cur, rfl, _, hh, _⟩
  · simp [Value.ownBlock] at hg
  · have : g' = b := by simpa [Value.ownBlock] using hg
    subst this
    have := hb.symm.trans hh
    simp only [Option.some.injEq, Obj.cells.injEq] at this
    exact hT this.2.1
theorem ownI_C {W : World} {B : Nat} {v : Value} {xs : List Int} : OwnI W B v xs ↔ OwnC W B 3 1 v (ints xs) := by
  unfold OwnI OwnC
  have h1 : (ints xs).length = xs.length := by unfold ints; simp
  have h2 : (ints xs).flatten = xs.map (Value.int .i64) := by
    unfold ints
    induction xs with
    | nil => rfl
    | cons a l ih =>
      have := ih (by unfold ints; simp)
      simp only [List.map_cons, List.flatten_cons, List.singleton_append, this]
  rw [h1, h2]
/-- blocks that hold cells stay, older ones too -/
theorem Mat.keepC {W W' : World} {B : Nat} {M : Mem} {s : St} (h : Mat W B M s) (hk : ∀ (k : Nat) (c : Array Value) (T : TypeId) (z : Nat × Nat), W.heap[k]? = some (Obj.cells c T z) → W'.heap[k]? = W.heap[k]?) (hb : Below B W W') : Mat W' B M s := by
  have hO : ∀ {e : TypeId} {m : Nat} {v : Value} {xs : List (List Value)}, OwnC W B e m v xs → OwnC W' B e m v xs := fun {e m v xs} ho => by
    obtain ⟨h0, h1⟩ := ho
    refine ⟨h0, ?_⟩
    rcases h1 with h1 | ⟨g, cap, cur, hv, hg, hh, r⟩
    · exact .inl h1
    · exact .inr ⟨g, cap, cur, hv, hg, (hk _ _ _ _ hh).trans hh, r⟩
  refine ⟨(hk _ _ _ _ h.box).trans h.box, (hk _ _ _ _ h.set).trans h.set, ownI_C.2 (hO (ownI_C.1 h.que)), h.qs, (hk _ _ _ _ h.wts).trans h.wts, h.vl, fun p v hp => hO (h.row p v hp), h.apart, h.bll, fun i w hi => ?_, h.nd, h.inb, h.geR, h.ges, h.gew, h.geb⟩
  obtain ⟨A, q, h1, h2⟩ := (h.wat i w hi).box
  exact ⟨A, q, (hk _ _ _ _ h1).trans h1, h2.1.below hb, h2.2⟩
theorem Mat.keep {W W' : World} {B : Nat} {M : Mem} {s : St} (h : Mat W B M s) (hB : B ≤ W.heap.size) (hb : Below W.heap.size W W') : Mat W' B M s :=
  h.keepC (fun k _ _ _ hk => hb.block k (Array.getElem?_eq_some_iff.1 hk).1) (hb.mono hB)
theorem set_cells {W : World} {b : Nat} {c : Array Value} {T : TypeId} (h : W.heap[b]? = some (.cells c T (0, 0))) (k : Nat) (v : Value) : (W.setCell ⟨b, k, none⟩ v).heap[b]? = some (.cells (c.setIfInBounds k v) T (0, 0)) := by
  obtain ⟨hlt, hk⟩ := Array.getElem?_eq_some_iff.1 h
  show (W.heap.modify b _)[b]? = _
  rw [Array.getElem?_eq_getElem (by rw [Array.size_modify]; exact hlt), Array.getElem_modify_self, hk]
  rfl
theorem set_others (W : World) (b k : Nat) (v : Value) (j : Nat) (hj : j ≠ b) : (W.setCell ⟨b, k, none⟩ v).heap[j]? = W.heap[j]? := Below.heap_setCell _ _ _ j (fun e => hj e)
/-- one block has changed: what is left of the others -/
theorem Mat.but {W W' : World} {B : Nat} {M : Mem} {s : St} (_h : Mat W B M s) (x : Nat) (hk : ∀ k, k < W.heap.size → k ≠ x → W'.heap[k]? = W.heap[k]?) {e : TypeId} {m : Nat} {v : Value} {xs : List (List Value)} (ho : OwnC W B e m v xs) (hv : v.ownBlock ≠ some x) : OwnC W' B e m v xs :=
  ho.keep_at fun g _ hg => hk g (ho.block_lt g hg).2 fun e => hv (e ▸ hg)
theorem at_heap {W : World} {k : Nat} {o : Obj} (h : W.heap[k]? = some o) : k < W.heap.size := (Array.getElem?_eq_some_iff.1 h).1
theorem cells3 {w : World} {p : Nat} {a b c : Value} {T : TypeId} (h : w.heap[p]? = some (.cells #[a, b, c] T (0, 0))) : w.cell? ⟨p, 0, none⟩ = some a ∧ w.cell? ⟨p, 1, none⟩ = some b ∧ w.cell? ⟨p, 2, none⟩ = some c := by
  simp [World.cell?, h]
theorem thaw3 {w : World} {p : Nat} {c : Array Value} {T : TypeId} (h : w.heap[p]? = some (.cells c T (0, 0))) (k : Nat) : w.frozen? ⟨p, k, none⟩ = false := by
  simp [World.frozen?, h]
theorem bl_at {l : List Nat} {i : Nat} (h : i < l.length) : l.getD i 0 ∈ l ∧ l.getD i 0 = l[i] := by
  have : l.getD i 0 = l[i] := by rw [List.getD_eq_getElem?_getD, List.getElem?_eq_getElem h]; rfl
  exact ⟨this ▸ List.getElem_mem h, this⟩
theorem bl_ne {l : List Nat} (hn : l.Nodup) {i j : Nat} (hi : i < l.length) (hj : j < l.length) (h : i ≠ j) : l.getD i 0 ≠ l.getD j 0 := by
  rw [(bl_at hi).2, (bl_at hj).2]
  intro e
  exact h ((List.getElem_inj hn).1 e)
/-- a literal is set: the store -/
theorem Mat.put {W : World} {B : Nat} {M : Mem} {s : St} (h : Mat W B M s) (v : Nat) (x : Int) : Mat (W.setCell ⟨M.bs, v, none⟩ (.int .i64 x)) B M { s with set := s.set.set v x } ∧ Below B W (W.setCell ⟨M.bs, v, none⟩ (.int .i64 x)) := by
  have hb : Below B W (W.setCell ⟨M.bs, v, none⟩ (.int .i64 x)) := (Below.refl _ _).setCell (by exact h.ges) _
  have ho := set_others W M.bs v (.int .i64 x)
  refine ⟨⟨?_, ?_, ownI_C.2 (h.but M.bs (fun k _ hk => ho k hk) (ownI_C.1 h.que) h.qs), h.qs, ?_, h.vl, fun p u hp => h.but M.bs (fun k _ hk => ho k hk) (h.row p u hp) ((h.row p u hp).ne_block h.set (by decide)), h.apart, h.bll, fun i w hi => ?_, h.nd, h.inb, h.geR, h.ges, h.gew, h.geb⟩, hb⟩
  · rw [ho _ (ne_type h.box h.set (by decide))]; simpa using h.box
  · rw [set_cells h.set]
    congr 2
    unfold numsA
    simp
  · rw [ho _ (ne_type h.wts h.set (by decide))]; exact h.wts
  · obtain ⟨A, q, h1, h2⟩ := (h.wat i w hi).box
    exact ⟨A, q, (ho _ (ne_type h1 h.set (by decide))).trans h1, h2.1.below hb, h2.2⟩
/-- the queue has grown, and its new slice is stored -/
theorem Mat.pushQ {W W1 : World} {B : Nat} {M : Mem} {s : St} {tmp : Obj} {v' : Value} (h : Mat W B M s) (hB : B ≤ W.heap.size) (x : Int) (ho : OwnI W1 B v' (s.queue ++ [x])) (hg : (W.alloc tmp).grownBy W1 M.qv.ownBlock) (hv : v'.ownBlock = M.qv.ownBlock ∨ v'.ownBlock = some (W.alloc tmp).heap.size) :
    Mat (W1.setCell ⟨M.R, 1, none⟩ v') B { M with qv := v' } { s with queue := s.queue ++ [x] } ∧ Below B W (W1.setCell ⟨M.R, 1, none⟩ v') ∧ W1.cell? ⟨M.R, 1, none⟩ = some M.qv ∧ W1.frozen? ⟨M.R, 1, none⟩ = false := by
  have hq := ownI_C.1 h.que
  have hk1 : ∀ k, k < W.heap.size → M.qv.ownBlock ≠ some k → W1.heap[k]? = W.heap[k]? := fun k hk hne => (hg.block k (by rw [World.size_alloc]; omega) (fun e => hne e.symm)).trans (Below.heap_alloc W _ k (by omega))
  have hb1 : Below B W W1 := ((Below.refl _ W).alloc hB tmp).grown hg (by rw [World.size_alloc]; omega) (fun j hj => (hq.block_lt j hj).1)
  have hRq : M.qv.ownBlock ≠ some M.R := hq.ne_block h.box (by decide)
  have hR1 := (hk1 M.R (at_heap h.box) hRq).trans h.box
  have ho2 := set_others W1 M.R 1 v'
  have hk2 : ∀ k, k < W.heap.size → M.qv.ownBlock ≠ some k → k ≠ M.R → (W1.setCell ⟨M.R, 1, none⟩ v').heap[k]? = W.heap[k]? := fun k hk h1 h2 => (ho2 k h2).trans (hk1 k hk h1)
  have hb : Below B W (W1.setCell ⟨M.R, 1, none⟩ v') := hb1.setCell (by exact h.geR) _
  have hO : ∀ {e : TypeId} {m : Nat} {v : Value} {xs : List (List Value)}, OwnC W B e m v xs → e ≠ 3 → e ≠ 60 → OwnC (W1.setCell ⟨M.R, 1, none⟩ v') B e m v xs := fun {e m v xs} hoc he1 he2 =>
    hoc.keep_at fun g _ hgg => hk2 g (hoc.block_lt g hgg).2 (fun e1 => by
      rcases hoc.2 with ⟨rfl, _⟩ | ⟨g1, _, cur, rfl, _, hh, _⟩
      · simp [Value.ownBlock] at hgg
      · obtain rfl : g1 = g := by simpa [Value.ownBlock] using hgg
        exact hq.ne_block hh he1 e1) (fun e1 => (hoc.ne_block h.box (Ne.symm he2)) (e1 ▸ hgg))
  refine ⟨⟨?_, ?_, ?_, ?_, ?_, h.vl, fun p u hp => hO (h.row p u hp) (by decide) (by decide), h.apart, h.bll, fun i w hi => ?_, h.nd, h.inb, h.geR, h.ges, h.gew, h.geb⟩, hb, (cells3 hR1).2.1, thaw3 hR1 1⟩
  · simp only
    rw [set_cells hR1]
    rfl
  · exact (hk2 _ (at_heap h.set) h.qs (ne_type h.set h.box (by decide))).trans h.set
  · exact ownI_C.2 ((ownI_C.1 ho).keep_at fun g _ hgg => ho2 g fun e => ((ownI_C.1 ho).ne_block hR1 (by decide)) (e ▸ hgg))
  · rcases hv with e | e
    · simp only; rw [e]; exact h.qs
    · simp only
      rw [e]
      intro e2
      have := at_heap h.set
      have e3 := Option.some.inj e2
      rw [World.size_alloc] at e3
      omega
  · exact (hk2 _ (at_heap h.wts) (hq.ne_block h.wts (by decide)) (ne_type h.wts h.box (by decide))).trans h.wts
  · obtain ⟨A, q, h1, h2⟩ := (h.wat i w hi).box
    exact ⟨A, q, (hk2 _ (at_heap h1) (hq.ne_block h1 (by decide)) (ne_type h1 h.box (by decide))).trans h1, h2.1.below hb, h2.2⟩
/-- a waiting clause's cells have changed -/
theorem Mat.turn {W W' : World} {B : Nat} {M : Mem} {s : St} (h : Mat W B M s) {i : Nat} (hi : i < s.ws.length) (w : Wt) (hk : ∀ k, k ≠ M.bl.getD i 0 → W'.heap[k]? = W.heap[k]?) (hb : Below B W W') (hw : WtAt W' B (M.bl.getD i 0) w) : Mat W' B M { s with ws := s.ws.set i w } := by
  obtain ⟨A0, q0, hx, -⟩ := (h.wat i s.ws[i] (List.getElem?_eq_getElem hi)).box
  refine ⟨(hk _ (ne_type h.box hx (by decide))).trans h.box, (hk _ (ne_type h.set hx (by decide))).trans h.set, ownI_C.2 (h.but _ (fun k _ h1 => hk k h1) (ownI_C.1 h.que) ((ownI_C.1 h.que).ne_block hx (by decide))), h.qs, (hk _ (ne_type h.wts hx (by decide))).trans h.wts, h.vl, fun p u hp => h.but _ (fun k _ h1 => hk k h1) (h.row p u hp) ((h.row p u hp).ne_block hx (by decide)), h.apart, by simp only [List.length_set]; exact h.bll, fun j v hj => ?_, h.nd, h.inb, h.geR, h.ges, h.gew, h.geb⟩
  simp only at hj
  by_cases hji : j = i
  · subst hji
    rw [List.getElem?_set_self hi] at hj
    obtain rfl := Option.some.inj hj
    exact hw
  · rw [List.getElem?_set_ne (Ne.symm hji)] at hj
    obtain ⟨A, q, h1, h2⟩ := (h.wat j v hj).box
    have hjl := at_heap h1
    have hjw : j < s.ws.length := (List.getElem?_eq_some_iff.1 hj).1
    exact ⟨A, q, (hk _ (bl_ne h.nd (by rw [h.bll]; exact hjw) (by rw [h.bll]; exact hi) hji)).trans h1, h2.1.below hb, h2.2⟩
/-- a new waiting clause -/
theorem Mat.fresh {W : World} {B : Nat} {M : Mem} {s : St} (h : Mat W B M s) (hB : B ≤ W.heap.size) (c : List Int) (A : Option Addr) (q : Nat) (hc : ILies W B A c) (hq : c.length ≤ q) :
    Mat (W.alloc (.cells #[.int .i64 0, .int .i64 0, .slice A c.length q] 83)) B { M with bl := M.bl ++ [W.heap.size] } (newP s c) := by
  have hb : Below W.heap.size W (W.alloc (.cells #[.int .i64 0, .int .i64 0, .slice A c.length q] 83)) := (Below.refl _ _).alloc (Nat.le_refl _) _
  have h' := h.keep hB hb
  have hlt : ∀ b ∈ M.bl, b < W.heap.size := fun b hb => by
    obtain ⟨i, hi, rfl⟩ := List.getElem_of_mem hb
    have hiw : i < s.ws.length := by rw [← h.bll]; exact hi
    obtain ⟨A0, q0, hx, -⟩ := (h.wat i s.ws[i] (List.getElem?_eq_getElem hiw)).box
    rw [(bl_at hi).2] at hx
    exact at_heap hx
  have hg : ∀ i, i < M.bl.length → (M.bl ++ [W.heap.size]).getD i 0 = M.bl.getD i 0 := fun i hi => by
    rw [List.getD_eq_getElem?_getD, List.getElem?_append_left hi, List.getD_eq_getElem?_getD]
  refine ⟨h'.box, h'.set, h'.que, h'.qs, h'.wts, h'.vl, fun p v hp => ?_, h'.apart, by simp [newP, h.bll], fun i w hi => ?_, ?_, fun p i hi => by have := h.inb p i hi; simp only [List.length_append]; omega, h.geR, h.ges, h.gew, fun b hb => ?_⟩
  · have e : ptrs (M.bl ++ [W.heap.size]) (s.waits.getD p []) = ptrs M.bl (s.waits.getD p []) := List.map_congr_left fun i hi => by rw [hg i (h.inb p i hi)]
    show OwnC _ B _ 1 v (ptrs (M.bl ++ [W.heap.size]) (s.waits.getD p []))
    rw [e]
    exact h'.row p v hp
  · by_cases hil : i < s.ws.length
    · have hi' : s.ws[i]? = some w := by
        unfold newP at hi
        simp only at hi
        rwa [List.getElem?_append_left hil] at hi
      simp only
      rw [hg i (by rw [h.bll]; exact hil)]
      exact h'.wat i w hi'
    · have hle : i = s.ws.length := by
        have := (List.getElem?_eq_some_iff.1 hi).1
        simp [newP] at this
        omega
      subst hle
      have hw : w = ⟨0, 0, c⟩ := by
        unfold newP at hi
        simp at hi
        exact hi.symm
      subst hw
      simp only
      rw [← h.bll, List.getD_eq_getElem?_getD, List.getElem?_append_right (Nat.le_refl _)]
      simp only [Nat.sub_self, List.getElem?_cons_zero, Option.getD_some]
      exact ⟨A, q, Array.getElem?_push_size, hc.below (hb.mono hB), hq⟩
  · simp only
    rw [List.nodup_append]
    refine ⟨h.nd, by simp, fun a ha b hb => ?_⟩
    rw [List.mem_singleton] at hb
    subst hb
    have := hlt a ha
    omega
  · simp only at hb
    rcases List.mem_append.1 hb with hb | hb
    · exact h.geb b hb
    · rw [List.mem_singleton.1 hb]; exact hB
/-- a list has grown, and its new slice is stored -/
theorem Mat.pushW {W W1 : World} {B : Nat} {M : Mem} {s : St} {tmp : Obj} {v v' : Value} {p i : Nat} (h : Mat W B M s) (hB : B ≤ W.heap.size) (hp : M.vs[p]? = some v) (hi : i < M.bl.length) (ho : OwnC W1 B 81 1 v' (ptrs M.bl (s.waits.getD p [] ++ [i]))) (hg : (W.alloc tmp).grownBy W1 v.ownBlock) (hv : v'.ownBlock = v.ownBlock ∨ v'.ownBlock = some (W.alloc tmp).heap.size) :
    Mat (W1.setCell ⟨M.bw, p, none⟩ v') B { M with vs := M.vs.set p v' } { s with waits := s.waits.set p (s.waits.getD p [] ++ [i]) } ∧ Below B W (W1.setCell ⟨M.bw, p, none⟩ v') ∧ (∀ j, j < W.heap.size → (∀ c, W.heap[j]? ≠ some (.cells c 81 (0, 0))) → W1.heap[j]? = W.heap[j]?) := by
  have hr := h.row p v hp
  have hpl : p < M.vs.length := (List.getElem?_eq_some_iff.1 hp).1
  have hk1 : ∀ k, k < W.heap.size → v.ownBlock ≠ some k → W1.heap[k]? = W.heap[k]? := fun k hk hne => (hg.block k (by rw [World.size_alloc]; omega) (fun e => hne e.symm)).trans (Below.heap_alloc W _ k (by omega))
  have hb1 : Below B W W1 := ((Below.refl _ W).alloc hB tmp).grown hg (by rw [World.size_alloc]; omega) (fun j hj => (hr.block_lt j hj).1)
  have hown : ∀ g, v.ownBlock = some g → ∃ c, W.heap[g]? = some (.cells c 81 (0, 0)) := fun g hgg => by
    rcases hr.2 with ⟨rfl, _⟩ | ⟨g1, _, cur, rfl, _, hh, _⟩
    · simp [Value.ownBlock] at hgg
    · obtain rfl : g1 = g := by simpa [Value.ownBlock] using hgg
      exact ⟨cur, hh⟩
  have hw1 := (hk1 M.bw (at_heap h.wts) (hr.ne_block h.wts (by decide))).trans h.wts
  have ho2 := set_others W1 M.bw p v'
  have hk2 : ∀ (k : Nat) (c : Array Value) (T : TypeId) (z : Nat × Nat), W.heap[k]? = some (Obj.cells c T z) → T ≠ 81 → k ≠ M.bw → (W1.setCell ⟨M.bw, p, none⟩ v').heap[k]? = W.heap[k]? := fun k c T z hk hT hn => (ho2 k hn).trans (hk1 k (at_heap hk) (hr.ne_block hk hT))
  have hb : Below B W (W1.setCell ⟨M.bw, p, none⟩ v') := hb1.setCell (by exact h.gew) _
  have hkeep : ∀ {e : TypeId} {m : Nat} {u : Value} {xs : List (List Value)}, OwnC W B e m u xs → (∀ g, v.ownBlock = some g → u.ownBlock ≠ some g) → e ≠ 85 → OwnC (W1.setCell ⟨M.bw, p, none⟩ v') B e m u xs := fun {e m u xs} hoc hne he =>
    hoc.keep_at fun g _ hgg => (ho2 g (fun e1 => hoc.ne_block h.wts (Ne.symm he) (e1 ▸ hgg))).trans (hk1 g (hoc.block_lt g hgg).2 fun e1 => hne g e1 hgg)
  have hplw : p < s.waits.length := by rw [← h.vl]; exact hpl
  refine ⟨⟨?_, ?_, ?_, h.qs, ?_, by simp only [List.length_set]; exact h.vl, fun q u hq => ?_, fun q r u t hqr hq ht g hgu => ?_, h.bll, fun j w hj => ?_, h.nd, fun q j hj => ?_, h.geR, h.ges, h.gew, h.geb⟩, hb, fun j hj hn => hk1 j hj fun e => (hown j e).elim fun c hc => hn c hc⟩
  · simp only [List.length_set]
    exact (hk2 _ _ _ _ h.box (by decide) (ne_type h.box h.wts (by decide))).trans h.box
  · exact (hk2 _ _ _ _ h.set (by decide) (ne_type h.set h.wts (by decide))).trans h.set
  · refine ownI_C.2 (hkeep (ownI_C.1 h.que) (fun g hgg e => ?_) (by decide))
    obtain ⟨c, hc⟩ := hown g hgg
    exact (ownI_C.1 h.que).ne_block hc (by decide) e
  · simp only
    rw [set_cells hw1]
    simp
  · simp only at hq ⊢
    by_cases hqp : p = q
    · subst hqp
      rw [List.getElem?_set_self hpl] at hq
      obtain rfl := Option.some.inj hq
      rw [getD_set_self _ _ hplw]
      exact ho.keep_at fun g _ hgg => ho2 g fun e => ho.ne_block hw1 (by decide) (e ▸ hgg)
    · rw [List.getElem?_set_ne hqp] at hq
      rw [getD_set_ne _ _ hqp]
      exact hkeep (h.row q u hq) (fun g h1 h2 => h.apart p q v u hqp hp hq g h1 h2) (by decide)
  · simp only at hq ht
    have hnew : ∀ r t, r ≠ p → M.vs[r]? = some t → ∀ g, t.ownBlock = some g → v'.ownBlock ≠ some g := fun r t hr2 ht g hgt e => by
      rcases hv with h1 | h1
      · rw [h1] at e
        exact h.apart p r v t (Ne.symm hr2) hp ht g e hgt
      · rw [h1] at e
        have := (h.row r t ht).block_lt g hgt
        have e3 := Option.some.inj e
        rw [World.size_alloc] at e3
        omega
    by_cases hqp : p = q
    · subst hqp
      rw [List.getElem?_set_self hpl] at hq
      obtain rfl := Option.some.inj hq
      rw [List.getElem?_set_ne hqr] at ht
      intro e
      exact hnew r t (Ne.symm hqr) ht g e hgu
    · rw [List.getElem?_set_ne hqp] at hq
      by_cases hrp : p = r
      · subst hrp
        rw [List.getElem?_set_self hpl] at ht
        obtain rfl := Option.some.inj ht
        exact hnew q u (Ne.symm hqp) hq g hgu
      · rw [List.getElem?_set_ne hrp] at ht
        exact h.apart q r u t hqr hq ht g hgu
  · obtain ⟨A, q, h1, h2⟩ := (h.wat j w hj).box
    exact ⟨A, q, (hk2 _ _ _ _ h1 (by decide) (ne_type h1 h.wts (by decide))).trans h1, h2.1.below hb, h2.2⟩
  · simp only at hj
    by_cases hqp : p = q
    · subst hqp
      rw [getD_set_self _ _ hplw] at hj
      rcases List.mem_append.1 hj with hj | hj
      · exact h.inb p j hj
      · rw [List.mem_singleton.1 hj]; exact hi
    · rw [getD_set_ne _ _ hqp] at hj
      exact h.inb q j hj
end Go.Proofs.Ytefbknpoehmfaaa.For
