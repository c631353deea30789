/- Sorting a list of a call's own, and what is written down while what literals hang on is sought; no condition. -/
import Derived.Test.YtefhhldfelmnkaaReach
import Derived.Test.YtefhhldfelmnkaaShelf
namespace Go.Proofs.Ytefhhldfelmnkaa.Cw
open Go.ChangeShapes Go.WideShapes Go.ChangeAt Go.RowKit Go.Maps Circ

/-- the numbers, rising -/
def rise (T : List Int) : List Int := T.mergeSort fun x y => decide (x ≤ y)
theorem rise_perm (T : List Int) : (rise T).Perm T := List.mergeSort_perm T _
theorem rise_mem (T : List Int) (x : Int) : x ∈ rise T ↔ x ∈ T := (rise_perm T).mem_iff
theorem rise_len (T : List Int) : (rise T).length = T.length := (rise_perm T).length_eq
theorem rise_rising (T : List Int) (h : T.Nodup) : (rise T).Pairwise (· < ·) := by
  have h1 : (rise T).Pairwise fun x y => decide (x ≤ y) = true := List.pairwise_mergeSort (fun a b c hab hbc => by simp at *; omega) (fun a b => by simp; omega) T
  have h2 : (rise T).Nodup := (rise_perm T).nodup_iff.2 h
  have := h1.and h2
  exact this.imp fun ⟨a, b⟩ => by simp at a; omega

theorem putCells_take (T R : List Int) (cur : Array Value) (hl : R.length = T.length) (hs : T.length ≤ cur.size) :
    (Sort.putCells (Value.int .i64) 0 R.toArray cur).toList.take T.length = R.map (Value.int .i64) := by
  apply List.ext_getElem?
  intro i
  rw [List.getElem?_take]
  by_cases hi : i < T.length
  · rw [if_pos hi, Array.getElem?_toList]
    unfold Sort.putCells
    rw [Array.getElem?_mapIdx, Array.getElem?_eq_getElem (show i < cur.size by omega), Option.map_some, if_pos ⟨by omega, by simp; omega⟩, List.getElem?_map, List.getElem?_eq_getElem (show i < R.length by omega)]
    simp [getElem!_pos, hl, hi]
  · rw [if_neg hi, List.getElem?_map, List.getElem?_eq_none (by omega)]
    rfl

theorem OwnI.mono {w : World} {base C : Nat} {v : Value} {xs : List Int} (h : OwnI w base v xs) (hC : C ≤ base) : OwnI w C v xs := by
  obtain ⟨h0, h⟩ := h
  refine ⟨h0, ?_⟩
  rcases h with h | ⟨g, cap, cur, hv, hg, r⟩
  · exact .inl h
  · exact .inr ⟨g, cap, cur, hv, by omega, r⟩

theorem sort_own (v : Value) (T : List Int) (base : Nat) (w : World) (h : OwnI w base v T) (hT : T.length * 8 ≤ 140737488355328) (hb : base ≤ w.heap.size) :
    Calls Try.prog 39 #[v] w fun e w' => e = .returned (.tuple #[]) ∧ OwnI w' base v (rise T) ∧ Below base w w' ∧ (∀ k, k < w.heap.size → v.ownBlock ≠ some k → w'.heap[k]? = w.heap[k]?) := by
  obtain ⟨h0, h1⟩ := h
  rcases h1 with ⟨rfl, hz⟩ | ⟨g, cap, cur, rfl, hg, hh, hn, hm, hsz, htk⟩
  · have hT0 : T = [] := List.eq_nil_of_length_eq_zero hz
    subst hT0
    refine (Try.slices_Sort_int_none none 0 w).mono ?_
    rintro e w' ⟨rfl, rfl⟩
    exact ⟨rfl, by rw [show rise [] = [] from by simp [rise]]; exact OwnI.nil _ _, Below.refl _ _, fun _ _ _ => rfl⟩
  · have hgl : g < w.heap.size := (Array.getElem?_eq_some_iff.1 hh).1
    have hH : Sort.Holds (Value.int .i64) w g 0 T.toArray := fun j hj => by
      have hj' : j < T.length := by simpa using hj
      refine ⟨?_, by simp [World.frozen?, hh]⟩
      have e := congrArg (fun l : List Value => l[j]?) htk
      simp only [List.getElem?_take] at e
      rw [if_pos (by omega), List.getElem?_map, List.getElem?_eq_getElem hj'] at e
      simp [World.cell?, hh, getElem!_pos, hj']
      simpa using e
    refine (Try.slices_Sort_int g 0 cap T w hH hgl (by omega)).mono ?_
    rintro e w' ⟨rfl, n, os, rfl⟩
    have hblk : ∀ k, k < w.heap.size → (Sort.grow (Sort.putRow (Value.int .i64) (Sort.ahead w n) g 0 (T.mergeSort fun x y => decide (x ≤ y)).toArray) os).heap[k]? = if k = g then some (.cells (Sort.putCells (Value.int .i64) 0 (rise T).toArray cur) 3 (0, 0)) else w.heap[k]? := fun k hk => by
      have e1 : (Sort.grow (Sort.putRow (Value.int .i64) (Sort.ahead w n) g 0 (T.mergeSort fun x y => decide (x ≤ y)).toArray) os).heap[k]? = (w.heap.modify g (Sort.onCells (Sort.putCells (Value.int .i64) 0 (rise T).toArray)))[k]? := by
        unfold Sort.grow Sort.putRow Sort.mapBlock Sort.ahead
        simp only []
        rw [Array.getElem?_append_left (by simpa using hk)]
        rfl
      rw [e1, Array.getElem?_modify]
      by_cases e : k = g
      · subst e; rw [if_pos rfl, if_pos rfl, hh]; rfl
      · rw [if_neg (Ne.symm e), if_neg e]
    have hsize : w.heap.size ≤ (Sort.grow (Sort.putRow (Value.int .i64) (Sort.ahead w n) g 0 (T.mergeSort fun x y => decide (x ≤ y)).toArray) os).heap.size := by
      unfold Sort.grow Sort.putRow Sort.mapBlock Sort.ahead
      simp
    refine ⟨rfl, ⟨by simp [rise_len], .inr ⟨g, cap, Sort.putCells (Value.int .i64) 0 (rise T).toArray cur, by rw [rise_len], hg, by rw [hblk g hgl, if_pos rfl], by rw [rise_len]; exact hn, hm, by simp [Sort.putCells, hsz], ?_⟩⟩, ⟨rfl, rfl, rfl, hsize, fun k hk => by rw [hblk k (by omega), if_neg (by omega)]⟩, fun k hk hne => by
      rw [hblk k hk, if_neg (fun e => hne (by rw [e]; rfl))]⟩
    rw [rise_len, Nat.mul_one]
    exact putCells_take T (rise T) cur (rise_len T) (by omega)

/-- what is written down behind k of the literals -/
def Got (ands : List Tri) (l : List Int) (k : Nat) (T : List Int) : Prop := T.Nodup ∧ (∀ u ∈ T, Hangs ands l u) ∧ ∀ x ∈ l.take k, cnt x / 2 = 0 ∨ cnt x / 2 ∈ T
def inn (T : List Int) (x : Int) : Prop := cnt x / 2 = 0 ∨ cnt x / 2 ∈ T
theorem inn_put (T : List Int) (x y : Int) (h : inn T y) : inn (put T x) y := by
  rcases h with h | h
  · exact .inl h
  · exact .inr ((mem_put T x _).2 (.inl h))
theorem inn_self (T : List Int) (x : Int) : inn (put T x) x := by
  by_cases h : cnt x / 2 = 0
  · exact .inl h
  · exact .inr ((mem_put T x _).2 (.inr ⟨rfl, h⟩))
theorem Got.zero (ands : List Tri) (l : List Int) : Got ands l 0 [] := ⟨List.nodup_nil, by simp, by simp⟩
theorem Got.put {ands : List Tri} {l : List Int} {k : Nat} {T : List Int} (h : Got ands l k T) (x : Int) (hx : cnt x / 2 ≠ 0 → Hangs ands l (cnt x / 2)) : Got ands l k (put T x) := by
  refine ⟨put_nodup T x h.1, fun u hu => ?_, fun y hy => inn_put T x y (h.2.2 y hy)⟩
  rcases (mem_put T x u).1 hu with h1 | ⟨rfl, h2⟩
  · exact h.2.1 u h1
  · exact hx h2
theorem Got.step {ands : List Tri} {l : List Int} {k : Nat} {T : List Int} (h : Got ands l k T) (hk : k < l.length) : Got ands l (k + 1) (Cw.put T l[k]) := by
  have h1 := h.put l[k] (fun h0 => .start _ (List.getElem_mem _) h0)
  refine ⟨h1.1, h1.2.1, fun y hy => ?_⟩
  rw [List.take_succ_eq_append_getElem hk, List.mem_append, List.mem_singleton] at hy
  rcases hy with hy | rfl
  · exact h1.2.2 y hy
  · exact inn_self T _
theorem Got.len {ands : List Tri} {l : List Int} {k : Nat} {T : List Int} (h : Got ands l k T) : T.length ≤ l.length + 2 * ands.length := hangs_len h.1 h.2.1
/-- the first j of them have been gone through -/
def Clo (ands : List Tri) (j : Nat) (T : List Int) : Prop := ∀ (i : Nat) (h : i < T.length), i < j → ∀ t, andOf ands T[i] = some t → inn T t.b ∧ inn T t.c
theorem Clo.zero (ands : List Tri) (T : List Int) : Clo ands 0 T := fun _ _ h => by omega
theorem Clo.put {ands : List Tri} {j : Nat} {T : List Int} (h : Clo ands j T) (hj : j ≤ T.length) (x : Int) : Clo ands j (Cw.put T x) := fun i hi hij t ht => by
  obtain ⟨_, e⟩ := put_get T x i (by omega)
  rw [e] at ht
  obtain ⟨a, b⟩ := h i (by omega) hij t ht
  exact ⟨inn_put T x _ a, inn_put T x _ b⟩
theorem Clo.skip {ands : List Tri} {j : Nat} {T : List Int} (h : Clo ands j T) (hj : j < T.length) (hn : andOf ands T[j] = none) : Clo ands (j + 1) T := fun i hi hij t ht => by
  by_cases e : i = j
  · subst e; rw [hn] at ht; cases ht
  · exact h i hi (by omega) t ht
theorem Clo.more {ands : List Tri} {j : Nat} {T : List Int} (h : Clo ands j T) (hj : j < T.length) (t : Tri) (hn : andOf ands T[j] = some t) : Clo ands (j + 1) (Cw.put (Cw.put T t.b) t.c) := fun i hi hij t' ht => by
  have h2 := (h.put (by omega) t.b).put (by have := put_len T t.b; omega) t.c
  by_cases e : i = j
  · subst e
    obtain ⟨h3, e1⟩ := put_get T t.b i hj
    obtain ⟨_, e2⟩ := put_get (Cw.put T t.b) t.c i h3
    rw [e2, e1, hn] at ht
    obtain rfl := Option.some.inj ht
    exact ⟨inn_put _ _ _ (inn_self T _), inn_self _ _⟩
  · exact h2 i hi (by omega) t' ht
theorem Clo.done {ands : List Tri} {l T : List Int} (h : Clo ands T.length T) (g : Got ands l l.length T) (u : Int) : u ∈ T ↔ Hangs ands l u := by
  refine ⟨g.2.1 u, fun hu => ?_⟩
  have key : ∀ v ∈ T, ∀ t, andOf ands v = some t → inn T t.b ∧ inn T t.c := fun v hv t ht => by
    obtain ⟨i, hi, rfl⟩ := List.getElem_of_mem hv
    exact h i hi hi t ht
  induction hu with
  | start x hx h0 =>
    rcases g.2.2 x (by rwa [List.take_of_length_le (Nat.le_refl _)]) with h1 | h1
    · exact absurd h1 h0
    · exact h1
  | left v t _ ht h0 ih =>
    rcases (key v ih t ht).1 with h1 | h1
    · exact absurd h1 h0
    · exact h1
  | right v t _ ht h0 ih =>
    rcases (key v ih t ht).2 with h1 | h1
    · exact absurd h1 h0
    · exact h1
end Go.Proofs.Ytefhhldfelmnkaa.Cw
