/- Hashed, a circuit may be, does what it did, and hashed again it stays; no program is named here, no condition. The walk of the closure that writes a variable down once; no condition. Sorting a list of a call's own, and what is written down while what literals hang on is sought; no condition. The walk of circuit's Cone; no condition. -/
import Derived.Test.YtpaneggajjgdlaaPk13
import Derived.Test.YtpaneggajjgdlaaPk03
import Derived.Test.YtpaneggajjgdlaaPk08
import Derived.Test.YtpaneggajjgdlaaPk04
namespace Go.Proofs.Ytpaneggajjgdlaa.Str
open Circ Cw

section
variable {c : Cir}
end
end Go.Proofs.Ytpaneggajjgdlaa.Str
namespace Go.Proofs.Ytpaneggajjgdlaa.Cw
open Go.ChangeShapes Go.WideShapes Go.ChangeAt Go.RowKit Go.Maps Circ

theorem OwnI.keep_at {w w' : World} {base : Nat} {v : Value} {xs : List Int} (h : OwnI w base v xs) (hb : ∀ g, base ≤ g → v.ownBlock = some g → w'.heap[g]? = w.heap[g]?) : OwnI w' base v xs := by
  obtain ⟨h0, h⟩ := h
  refine ⟨h0, ?_⟩
  rcases h with h | ⟨g, cap, cur, hv, hg, hh, r⟩
  · exact .inl h
  · exact .inr ⟨g, cap, cur, hv, hg, (hb g hg (by rw [hv]; rfl)).trans hh, r⟩

/-- what is written down in T: the set in block M, named by the cell in block M + 1, and the list that the cell in block M + 2 names -/
structure Down (M Ba N : Nat) (ands : List Tri) (v : Value) (T : List Int) (w : World) : Prop where
  cm : w.cell? ⟨M + 1, 0, none⟩ = some (.map (some M))
  hv : w.heap[M + 2]? = some (.cells #[v] 22 (0, 0))
  own : OwnI w (M + 3) v T
  set : IsSet w M T.reverse
  gates : IsAnds w Ba (andOf ands) N
  lt : Ba < M
  sz : M + 3 ≤ w.heap.size

theorem one_block {w : World} {b : Nat} {v : Value} (h : w.heap[b]? = some (.cells #[v] 22 (0, 0))) : w.cell? ⟨b, 0, none⟩ = some v ∧ w.frozen? ⟨b, 0, none⟩ = false := by
  simp [World.cell?, World.frozen?, h]
theorem set_block {w : World} {b : Nat} {v : Value} (u : Value) (h : w.heap[b]? = some (.cells #[v] 22 (0, 0))) : (w.setCell ⟨b, 0, none⟩ u).heap[b]? = some (.cells #[u] 22 (0, 0)) := by
  simp [World.setCell, Array.getElem?_modify, h]
theorem set_other {w : World} {b : Nat} (u : Value) {k : Nat} (h : k ≠ b) : (w.setCell ⟨b, 0, none⟩ u).heap[k]? = w.heap[k]? := by
  simp [World.setCell, Array.getElem?_modify, Ne.symm h]
theorem Down.cv {M Ba N : Nat} {ands : List Tri} {v : Value} {T : List Int} {w : World} (h : Down M Ba N ands v T w) : w.cell? ⟨M + 2, 0, none⟩ = some v := (one_block h.hv).1
theorem Down.alloc {M Ba N : Nat} {ands : List Tri} {v : Value} {T : List Int} {w : World} (h : Down M Ba N ands v T w) (o : Obj) : Down M Ba N ands v T (w.alloc o) :=
  have hb : Below w.heap.size w (w.alloc o) := (Below.refl _ _).alloc (Nat.le_refl _) o
  ⟨cell_later hb h.cm, (hb.block _ (by have := h.sz; omega)).trans h.hv, h.own.keep hb, h.set.alloc o, h.gates.alloc o, h.lt, Nat.le_trans h.sz hb.size⟩

def ReachP (M Ba N : Nat) (ands : List Tri) (v : Value) (T : List Int) (x : Int) (w : World) (e : Ending) (w' : World) : Prop :=
  e = .returned (.tuple #[]) ∧ (∃ v', Down M Ba N ands v' (put T x) w') ∧ Below M w w' ∧ ∀ p u, w.cell? p = some u → M + 3 ≤ p.block → v.ownBlock ≠ some p.block → w'.cell? p = some u

set_option maxHeartbeats 2000000 in
set_option maxRecDepth 100000 in
theorem reach_any (M Ba N : Nat) (ands : List Tri) (v : Value) (T : List Int) (x : Int) (w : World) (h : Down M Ba N ands v T w) (hx : I64 x) (hT : T.length * 8 + 8 ≤ 140737488355328) :
    Calls Try.prog 99 #[.int .i64 x, .pointer (some ⟨M + 1, 0, none⟩), .pointer (some ⟨M + 2, 0, none⟩)] w (ReachP M Ba N ands v T x w) := by
  obtain ⟨x0, x1⟩ := hx
  have hk : I64 (cnt x / 2) := by obtain ⟨b0, b1⟩ := cnt_bd x x1; unfold I64; omega
  have V := Lib.hid (fun w => var_any x w x1)
  have hl := h.set.look hk
  have hcon : T.reverse.contains (cnt x / 2) = T.contains (cnt x / 2) := by simp
  rw [hcon] at hl
  have cm := h.cm
  have HW := Lib.hid (h.alloc (.cells #[] 121))
  have HBw : Hid (Below M w (w.alloc (.cells #[] 121))) := (Below.refl M w).alloc (by have := h.sz; omega) _
  have HAl : Hid (∀ p u, w.cell? p = some u → (w.alloc (.cells #[] 121)).cell? p = some u) := fun p u hc => cell_later ((Below.refl _ _).alloc (Nat.le_refl _) _) hc
  have H := Lib.hid h
  clear h hcon
  cases hq : T.contains (cnt x / 2)
  case true =>
    have HP : Hid (put T x = T) := by unfold Hid put; rw [hq]; rfl
    rw [hq] at hl
    clear hq
    generalize cnt x / 2 = r at *
    go_enter Try.func99, Try.ntmps99
    go_wp2_with (go_at_call 46; refine (V.out _).mono ?_; rintro e w' ⟨rfl, rfl⟩)
    go_end0
    exact ⟨rfl, ⟨v, by rw [HP.out]; exact HW.out⟩, HBw.out, fun p u hc _ _ => HAl.out p u hc⟩
  case false =>
  by_cases h0 : cnt x / 2 = 0
  · have HP : Hid (put T x = T) := by unfold Hid put; rw [hq, h0]; rfl
    rw [hq] at hl
    rw [h0] at hl V
    clear hq h0
    go_enter Try.func99, Try.ntmps99
    go_wp2_with (go_at_call 46; refine (V.out _).mono ?_; rintro e w' ⟨rfl, rfl⟩)
    go_end0
    exact ⟨rfl, ⟨v, by rw [HP.out]; exact HW.out⟩, HBw.out, fun p u hc _ _ => HAl.out p u hc⟩
  · have HP : Hid (put T x = T ++ [cnt x / 2]) := by unfold Hid put; rw [hq]; simp [h0]
    rw [hq] at hl
    have h0' : (cnt x / 2 == 0) = false := by simpa using h0
    clear hq
    generalize cnt x / 2 = r at *
    obtain ⟨w2, hst, hS2, hg2⟩ := HW.out.set.store hk (by simp; omega)
    have n1 : M + 1 ≠ M := by omega
    have n2 : M + 2 ≠ M := by omega
    have cm2 := grow_cell hg2 HW.out.cm n1
    have hv2 := (hg2.block (M + 2) (by have := HW.out.sz; omega) (fun e => n2 (Option.some.inj e))).trans HW.out.hv
    have cv2 := (one_block hv2).1
    have hsz := H.out.sz
    have HO2 : Hid (OwnI w2 (M + 3) v T) := HW.out.own.keep_at fun g hg hv => hg2.block g (by have := (HW.out.own.block_lt g hv).2; exact this) (fun e => by have := Option.some.inj e; omega)
    have HB2 : Hid (Below M w w2) := HBw.out.trans (grown_below hg2 (Nat.le_refl _) (by have := HBw.out.size; omega))
    have cm1 := HW.out.cm
    have hone := one_row w2 r 3
    have hbo : Below w2.heap.size w2 (w2.alloc (.cells #[.int .i64 r] 3)) := (Below.refl _ _).alloc (Nat.le_refl _) _
    have hv3 := (hbo.block (M + 2) (by have := hg2.size; have := HBw.out.size; omega)).trans hv2
    have cv3 := (one_block hv3).1
    have HBO := Lib.hid hbo
    have hz2 : M + 3 ≤ (w2.alloc (.cells #[.int .i64 r] 3)).heap.size := by have := hg2.size; have := hbo.size; have := HBw.out.size; omega
    have HG2 := Lib.hid hg2
    have HS2 := Lib.hid hS2
    clear hbo hg2 hS2
    go_enter Try.func99, Try.ntmps99
    go_wp2_with (first | (go_at_call 46; refine (V.out _).mono ?_; rintro e w' ⟨rfl, rfl⟩) | (at_builtin; refine wpList_app _ rfl (.tmp 23) (.tmp 25) rfl (M + 3) _ v T [r] rfl (HO2.out.keep HBO.out) _ 1 1 rfl rfl hone ?_ hz2 ?_))
    · simp; omega
    intro v' w3 hown3 hg3 hloc3
    have HOW3 := Lib.hid hown3
    have HG3 := Lib.hid hg3
    have hv4 := (hg3.block (M + 2) (by omega) (fun e => by have := (HO2.out.keep HBO.out).block_lt _ e.symm; omega)).trans hv3
    obtain ⟨cv4, fz4⟩ := one_block hv4
    have HV4 := Lib.hid hv4
    obtain ⟨A', q', rfl, _⟩ := HOW3.out.row
    clear hown3 hg3 hloc3
    go_wp2
    go_end0
    have hsz3 : (w2.alloc (.cells #[.int .i64 r] 3)).heap.size ≤ w3.heap.size := HG3.out.size
    have hoth : ∀ k, k < w2.heap.size → v.ownBlock ≠ some k → k ≠ M + 2 → (w3.setCell ⟨M + 2, 0, none⟩ (.slice A' (T.length + 1) q')).heap[k]? = w2.heap[k]? := fun k hk1 hk2 hk3 => by
      rw [set_other _ hk3, HG3.out.block k (by have := HBO.out.size; omega) (fun e => hk2 e.symm)]
      exact HBO.out.block k hk1
    have hlow : ∀ k, k < M + 3 → v.ownBlock ≠ some k := fun k hk e => by have := HO2.out.block_lt k e; omega
    have hs2 : M + 3 ≤ w2.heap.size := by have := HG2.out.size; have := HBw.out.size; omega
    have hS4 : w3.setCell ⟨M + 2, 0, none⟩ (.slice A' (T.length + 1) q') = w3.setCell ⟨M + 2, 0, none⟩ (.slice A' (T.length + 1) q') := rfl
    refine ⟨rfl, ⟨.slice A' (T.length + 1) q', ?_⟩, ?_, ?_⟩
    · rw [HP.out]
      refine ⟨?_, set_block _ HV4.out, ?_, ?_, ?_, HW.out.lt, ?_⟩
      · rw [World.cell?_of_block (hoth (M + 1) (by omega) (hlow _ (by omega)) (by omega))]; exact cm2
      · refine OwnI.keep_at (by simpa using HOW3.out) fun g hg _ => set_other _ (by omega)
      · rw [List.reverse_append]
        exact HS2.out.keep (hoth M (by omega) (hlow _ (by omega)) (by omega))
      · have hlt := HW.out.lt
        exact HW.out.gates.keep ((hoth Ba (by omega) (hlow _ (by omega)) (by omega)).trans (HG2.out.block Ba (by have := HW.out.sz; omega) (fun e => by have := Option.some.inj e; omega)))
      · simp; omega
    · refine ⟨?_, ?_, ?_, ?_, fun k hk => (hoth k (by omega) (hlow _ (by omega)) (by omega)).trans (HB2.out.block k hk)⟩
      · exact HG3.out.os.trans (HBO.out.os.trans HB2.out.os)
      · exact HG3.out.tape.trans (HBO.out.tape.trans HB2.out.tape)
      · exact HG3.out.output.trans (HBO.out.output.trans HB2.out.output)
      · simp; have := HB2.out.size; have := HBO.out.size; omega
    · intro p u hc hp hv
      have hpl := World.block_lt_of_cell? _ _ hc
      have hsw := HBw.out.size
      have hsg := HG2.out.size
      rw [World.cell?_of_block (hoth p.block (by omega) hv (by omega)), World.cell?_of_block (HG2.out.block p.block (by omega) (fun e => by have := Option.some.inj e; omega))]
      exact HAl.out p u hc
end Go.Proofs.Ytpaneggajjgdlaa.Cw
namespace Go.Proofs.Ytpaneggajjgdlaa.Cw
open Go.ChangeShapes Go.WideShapes Go.ChangeAt Go.RowKit Go.Maps Circ

/-- the numbers, rising -/
def rise (T : List Int) : List Int := T.mergeSort fun x y => decide (x ≤ y)
theorem rise_perm (T : List Int) : (rise T).Perm T := List.mergeSort_perm T _
theorem rise_mem (T : List Int) (x : Int) : x ∈ rise T ↔ x ∈ T := (rise_perm T).mem_iff
theorem rise_len (T : List Int) : (rise T).length = T.length := (rise_perm T).length_eq
theorem rise_rising (T : List Int) (h : T.Nodup) : (rise T).Pairwise (· < ·) := by
  have h1 : (rise T).Pairwise fun x y => decide (x ≤ y) = true := List.pairwise_mergeSort (fun a b c hab hbc => by simp at *; omega) (fun a b => by simp; omega) T
  have h2 : (rise T).Nodup := (rise_perm T).nodup_iff.2 h
  have := h1.and h2
  exact this.imp fun ⟨a, b⟩ => by simp at a; omega

theorem putCells_take (T R : List Int) (cur : Array Value) (hl : R.length = T.length) (hs : T.length ≤ cur.size) :
    (Sort.putCells (Value.int .i64) 0 R.toArray cur).toList.take T.length = R.map (Value.int .i64) := by
  apply List.ext_getElem?
  intro i
  rw [List.getElem?_take]
  by_cases hi : i < T.length
  · rw [if_pos hi, Array.getElem?_toList]
    unfold Sort.putCells
    rw [Array.getElem?_mapIdx, Array.getElem?_eq_getElem (show i < cur.size by omega), Option.map_some, if_pos ⟨by omega, by simp; omega⟩, List.getElem?_map, List.getElem?_eq_getElem (show i < R.length by omega)]
    simp [getElem!_pos, hl, hi]
  · rw [if_neg hi, List.getElem?_map, List.getElem?_eq_none (by omega)]
    rfl

theorem OwnI.mono {w : World} {base C : Nat} {v : Value} {xs : List Int} (h : OwnI w base v xs) (hC : C ≤ base) : OwnI w C v xs := by
  obtain ⟨h0, h⟩ := h
  refine ⟨h0, ?_⟩
  rcases h with h | ⟨g, cap, cur, hv, hg, r⟩
  · exact .inl h
  · exact .inr ⟨g, cap, cur, hv, by omega, r⟩

theorem sort_own (v : Value) (T : List Int) (base : Nat) (w : World) (h : OwnI w base v T) (hT : T.length * 8 ≤ 140737488355328) (hb : base ≤ w.heap.size) :
    Calls Try.prog 100 #[v] w fun e w' => e = .returned (.tuple #[]) ∧ OwnI w' base v (rise T) ∧ Below base w w' ∧ (∀ k, k < w.heap.size → v.ownBlock ≠ some k → w'.heap[k]? = w.heap[k]?) := by
  obtain ⟨h0, h1⟩ := h
  rcases h1 with ⟨rfl, hz⟩ | ⟨g, cap, cur, rfl, hg, hh, hn, hm, hsz, htk⟩
  · have hT0 : T = [] := List.eq_nil_of_length_eq_zero hz
    subst hT0
    refine (Try.slices_Sort_int_none none 0 w).mono ?_
    rintro e w' ⟨rfl, rfl⟩
    exact ⟨rfl, by rw [show rise [] = [] from by simp [rise]]; exact OwnI.nil _ _, Below.refl _ _, fun _ _ _ => rfl⟩
  · have hgl : g < w.heap.size := (Array.getElem?_eq_some_iff.1 hh).1
    have hH : Sort.Holds (Value.int .i64) w g 0 T.toArray := fun j hj => by
      have hj' : j < T.length := by simpa using hj
      refine ⟨?_, by simp [World.frozen?, hh]⟩
      have e := congrArg (fun l : List Value => l[j]?) htk
      simp only [List.getElem?_take] at e
      rw [if_pos (by omega), List.getElem?_map, List.getElem?_eq_getElem hj'] at e
      simp [World.cell?, hh, getElem!_pos, hj']
      simpa using e
    refine (Try.slices_Sort_int g 0 cap T w hH hgl (by omega)).mono ?_
    rintro e w' ⟨rfl, n, os, rfl⟩
    have hblk : ∀ k, k < w.heap.size → (Sort.grow (Sort.putRow (Value.int .i64) (Sort.ahead w n) g 0 (T.mergeSort fun x y => decide (x ≤ y)).toArray) os).heap[k]? = if k = g then some (.cells (Sort.putCells (Value.int .i64) 0 (rise T).toArray cur) 3 (0, 0)) else w.heap[k]? := fun k hk => by
      have e1 : (Sort.grow (Sort.putRow (Value.int .i64) (Sort.ahead w n) g 0 (T.mergeSort fun x y => decide (x ≤ y)).toArray) os).heap[k]? = (w.heap.modify g (Sort.onCells (Sort.putCells (Value.int .i64) 0 (rise T).toArray)))[k]? := by
        unfold Sort.grow Sort.putRow Sort.mapBlock Sort.ahead
        simp only []
        rw [Array.getElem?_append_left (by simpa using hk)]
        rfl
      rw [e1, Array.getElem?_modify]
      by_cases e : k = g
      · subst e; rw [if_pos rfl, if_pos rfl, hh]; rfl
      · rw [if_neg (Ne.symm e), if_neg e]
    have hsize : w.heap.size ≤ (Sort.grow (Sort.putRow (Value.int .i64) (Sort.ahead w n) g 0 (T.mergeSort fun x y => decide (x ≤ y)).toArray) os).heap.size := by
      unfold Sort.grow Sort.putRow Sort.mapBlock Sort.ahead
      simp
    refine ⟨rfl, ⟨by simp [rise_len], .inr ⟨g, cap, Sort.putCells (Value.int .i64) 0 (rise T).toArray cur, by rw [rise_len], hg, by rw [hblk g hgl, if_pos rfl], by rw [rise_len]; exact hn, hm, by simp [Sort.putCells, hsz], ?_⟩⟩, ⟨rfl, rfl, rfl, hsize, fun k hk => by rw [hblk k (by omega), if_neg (by omega)]⟩, fun k hk hne => by
      rw [hblk k hk, if_neg (fun e => hne (by rw [e]; rfl))]⟩
    rw [rise_len, Nat.mul_one]
    exact putCells_take T (rise T) cur (rise_len T) (by omega)

/-- what is written down behind k of the literals -/
def Got (ands : List Tri) (l : List Int) (k : Nat) (T : List Int) : Prop := T.Nodup ∧ (∀ u ∈ T, Hangs ands l u) ∧ ∀ x ∈ l.take k, cnt x / 2 = 0 ∨ cnt x / 2 ∈ T
def inn (T : List Int) (x : Int) : Prop := cnt x / 2 = 0 ∨ cnt x / 2 ∈ T
theorem inn_put (T : List Int) (x y : Int) (h : inn T y) : inn (put T x) y := by
  rcases h with h | h
  · exact .inl h
  · exact .inr ((mem_put T x _).2 (.inl h))
theorem inn_self (T : List Int) (x : Int) : inn (put T x) x := by
  by_cases h : cnt x / 2 = 0
  · exact .inl h
  · exact .inr ((mem_put T x _).2 (.inr ⟨rfl, h⟩))
theorem Got.zero (ands : List Tri) (l : List Int) : Got ands l 0 [] := ⟨List.nodup_nil, by simp, by simp⟩
theorem Got.put {ands : List Tri} {l : List Int} {k : Nat} {T : List Int} (h : Got ands l k T) (x : Int) (hx : cnt x / 2 ≠ 0 → Hangs ands l (cnt x / 2)) : Got ands l k (put T x) := by
  refine ⟨put_nodup T x h.1, fun u hu => ?_, fun y hy => inn_put T x y (h.2.2 y hy)⟩
  rcases (mem_put T x u).1 hu with h1 | ⟨rfl, h2⟩
  · exact h.2.1 u h1
  · exact hx h2
theorem Got.step {ands : List Tri} {l : List Int} {k : Nat} {T : List Int} (h : Got ands l k T) (hk : k < l.length) : Got ands l (k + 1) (Cw.put T l[k]) := by
  have h1 := h.put l[k] (fun h0 => .start _ (List.getElem_mem _) h0)
  refine ⟨h1.1, h1.2.1, fun y hy => ?_⟩
  rw [List.take_succ_eq_append_getElem hk, List.mem_append, List.mem_singleton] at hy
  rcases hy with hy | rfl
  · exact h1.2.2 y hy
  · exact inn_self T _
theorem Got.len {ands : List Tri} {l : List Int} {k : Nat} {T : List Int} (h : Got ands l k T) : T.length ≤ l.length + 2 * ands.length := hangs_len h.1 h.2.1
/-- the first j of them have been gone through -/
def Clo (ands : List Tri) (j : Nat) (T : List Int) : Prop := ∀ (i : Nat) (h : i < T.length), i < j → ∀ t, andOf ands T[i] = some t → inn T t.b ∧ inn T t.c
theorem Clo.zero (ands : List Tri) (T : List Int) : Clo ands 0 T := fun _ _ h => by omega
theorem Clo.put {ands : List Tri} {j : Nat} {T : List Int} (h : Clo ands j T) (hj : j ≤ T.length) (x : Int) : Clo ands j (Cw.put T x) := fun i hi hij t ht => by
  obtain ⟨_, e⟩ := put_get T x i (by omega)
  rw [e] at ht
  obtain ⟨a, b⟩ := h i (by omega) hij t ht
  exact ⟨inn_put T x _ a, inn_put T x _ b⟩
theorem Clo.skip {ands : List Tri} {j : Nat} {T : List Int} (h : Clo ands j T) (hj : j < T.length) (hn : andOf ands T[j] = none) : Clo ands (j + 1) T := fun i hi hij t ht => by
  by_cases e : i = j
  · subst e; rw [hn] at ht; cases ht
  · exact h i hi (by omega) t ht
theorem Clo.more {ands : List Tri} {j : Nat} {T : List Int} (h : Clo ands j T) (hj : j < T.length) (t : Tri) (hn : andOf ands T[j] = some t) : Clo ands (j + 1) (Cw.put (Cw.put T t.b) t.c) := fun i hi hij t' ht => by
  have h2 := (h.put (by omega) t.b).put (by have := put_len T t.b; omega) t.c
  by_cases e : i = j
  · subst e
    obtain ⟨h3, e1⟩ := put_get T t.b i hj
    obtain ⟨_, e2⟩ := put_get (Cw.put T t.b) t.c i h3
    rw [e2, e1, hn] at ht
    obtain rfl := Option.some.inj ht
    exact ⟨inn_put _ _ _ (inn_self T _), inn_self _ _⟩
  · exact h2 i hi (by omega) t' ht
theorem Clo.done {ands : List Tri} {l T : List Int} (h : Clo ands T.length T) (g : Got ands l l.length T) (u : Int) : u ∈ T ↔ Hangs ands l u := by
  refine ⟨g.2.1 u, fun hu => ?_⟩
  have key : ∀ v ∈ T, ∀ t, andOf ands v = some t → inn T t.b ∧ inn T t.c := fun v hv t ht => by
    obtain ⟨i, hi, rfl⟩ := List.getElem_of_mem hv
    exact h i hi hi t ht
  induction hu with
  | start x hx h0 =>
    rcases g.2.2 x (by rwa [List.take_of_length_le (Nat.le_refl _)]) with h1 | h1
    · exact absurd h1 h0
    · exact h1
  | left v t _ ht h0 ih =>
    rcases (key v ih t ht).1 with h1 | h1
    · exact absurd h1 h0
    · exact h1
  | right v t _ ht h0 ih =>
    rcases (key v ih t ht).2 with h1 | h1
    · exact absurd h1 h0
    · exact h1
end Go.Proofs.Ytpaneggajjgdlaa.Cw
namespace Go.Proofs.Ytpaneggajjgdlaa.Cw
open Go.ChangeShapes Go.WideShapes Go.ChangeAt Go.RowKit Go.Maps Circ

def ConeP (N : Nat) (ands : List Tri) (l : List Int) (w : World) (e : Ending) (w' : World) : Prop :=
  (∃ v R, e = .returned v ∧ OwnI w' w.heap.size v R ∧ R.Pairwise (· < ·) ∧ (∀ u, u ∈ R ↔ Hangs ands l u) ∧ R.length ≤ N) ∧ Below w.heap.size w w'

theorem down_start (w2 : World) (B N : Nat) (ands : List Tri) (hA : IsAnds w2 B (andOf ands) N) :
    Down w2.heap.size B N ands (.slice none 0 0) [] (((w2.alloc (.map #[] 0)).alloc (.cells #[.map (some w2.heap.size)] 92)).alloc (.cells #[.slice none 0 0] 22)) := by
  have s1 : (w2.alloc (.map #[] 0)).heap.size = w2.heap.size + 1 := by simp
  have s2 : ((w2.alloc (.map #[] 0)).alloc (.cells #[.map (some w2.heap.size)] 92)).heap.size = w2.heap.size + 2 := by simp
  refine ⟨?_, ?_, OwnI.nil _ _, (IsSet.made w2).alloc _ |>.alloc _, ((hA.alloc _).alloc _).alloc _, hA.lt, by simp⟩
  · rw [World.cell?_alloc_lt _ _ _ (by rw [s2]; exact Nat.lt_succ_self _)]
    have := new_cell (w2.alloc (.map #[] 0)) #[.map (some w2.heap.size)] 92 0
    rw [s1] at this
    rw [this]; rfl
  · rw [← s2]
    exact Array.getElem?_push_size

set_option maxHeartbeats 2000000 in
set_option maxRecDepth 100000 in
theorem cone_any (c : Cir) (s : Places) (l : List Int) (A : Option Addr) (q : Nat) (w : World) (h : CLies w w.heap.size c s) (hf : CFits c s) (hr : LRow w w.heap.size 1 A (ints l)) (hl : ∀ x ∈ l, I64 x) (hll : l.length ≤ 17592186044416)
    (N : Nat) (hN : ∀ T : List Int, T.Nodup → (∀ u ∈ T, Hangs c.ands l u) → T.length ≤ N) (hlen : N * 8 + 16 ≤ 140737488355328) :
    Calls Try.prog 76 #[cirV c s, .slice A l.length q] w (ConeP N c.ands l w) := by
  have hmm := @run_makeMap Try.prog
  have hmf : ∀ (fn : Fn) (first cap : Array Value) (w : World), (Instr.makeFunc fn first cap).run Try.prog w = .ok (.func fn first cap) w := fun _ _ _ _ => rfl
  have hb1 : Below w.heap.size w (w.alloc (.cells (cirC c s) 27)) := (Below.refl _ _).alloc (Nat.le_refl _) _
  have hs1 : (w.alloc (.cells (cirC c s) 27)).heap.size = w.heap.size + 1 := by simp
  have FA := Lib.hid (first_any c s (w.alloc (.cells (cirC c s) 27)) ((h.below hb1).more (by rw [hs1]; omega)) hf)
  have HR := Lib.hid hr
  have HLI := Lib.hid hl
  have HF := Lib.hid hf
  have HB1 := Lib.hid hb1
  obtain ⟨e0, e1, e2, e3, e4, e5, e6, e7⟩ := (Box.made w c s).cells
  have la := hf.la
  have HNN := Lib.hid hN
  clear h hr hl hf hb1 hN
  unfold cirV cirC at *
  go_enter Try.func76, Try.ntmps76
  go_wp2_with fail
  refine FA.out.mono ?_
  rintro e w2 ⟨⟨B, rfl, hB, hAn⟩, hb2⟩
  rw [hs1] at hB
  have HD0 := Lib.hid (down_start w2 B c.ands.length c.ands hAn)
  have hz2 : w.heap.size + 1 ≤ w2.heap.size := by rw [← hs1]; exact hb2.size
  have HBw : Hid (Below w.heap.size w (((w2.alloc (.map #[] 0)).alloc (.cells #[.map (some w2.heap.size)] 92)).alloc (.cells #[.slice none 0 0] 22))) :=
    (((HB1.out.trans (hb2.mono (by rw [hs1]; omega))).alloc (by omega) _).alloc (by simp; omega) _).alloc (by simp; omega) _
  clear hAn hb2 HB1 FA
  clear e0 e1 e2 e3 e4 e5 e6 e7
  go_wp2
  go_loopw [20] (fun i wr => ∃ (k : Nat) (T : List Int) (v : Value), k ≤ l.length ∧ i = .int .i64 k ∧ Got c.ands l k T ∧ Down w2.heap.size B c.ands.length c.ands v T wr ∧ Below w.heap.size w wr) (fun i _ => l.length - (intOf i).toNat)
  case atStart => exact ⟨0, [], _, Nat.zero_le _, rfl, Got.zero _ _, HD0.out, HBw.out⟩
  case round =>
    obtain ⟨k, T, v, hk, rfl, hg, hd, hb⟩ := hrel
    have HG := Lib.hid hg; clear hg
    have HD := Lib.hid hd; clear hd
    have HBn := Lib.hid hb; clear hb
    by_cases hlt : k < l.length
    · obtain ⟨b, o, rfl, hbb, hx⟩ := (HR.out.below HBn.out).int hlt
      have HI := Lib.hid (HLI.out l[k] (List.getElem_mem _))
      have HS := Lib.hid (HG.out.step hlt)
      have hbd := HNN.out T HG.out.1 HG.out.2.1
      have HL := Lib.hid (show T.length * 8 + 8 ≤ 140737488355328 by omega)
      clear hbd
      generalize l[k] = x at *
      go_wp2_with fail
      refine (reach_any w2.heap.size B c.ands.length c.ands v T x _ HD.out HI.out HL.out).mono ?_
      rintro e w' ⟨rfl, ⟨v', hd'⟩, hb', hfr⟩
      have HD' := Lib.hid hd'
      have HB' : Hid (Below w.heap.size w w') := HBn.out.trans (hb'.mono (by omega))
      clear hd' hb' hfr
      go_wp2
      go_roundw
      case rel => exact ⟨k + 1, _, _, by omega, by go_num, HS.out, HD'.out, HB'.out⟩
      case measure => simp [intOf]; omega
    · obtain rfl : k = l.length := by omega
      obtain ⟨wr0, rfl⟩ : ∃ x, x = wr := ⟨_, rfl⟩
      go_wp2
      go_loopw [11] (fun i wr => ∃ (k : Nat) (T : List Int) (v : Value), k ≤ T.length ∧ i = .int .i64 k ∧ Got c.ands l l.length T ∧ Clo c.ands k T ∧ Down w2.heap.size B c.ands.length c.ands v T wr ∧ Below w.heap.size w wr) (fun i _ => N + 1 - (intOf i).toNat)
      case atStart => exact ⟨0, T, v, Nat.zero_le _, rfl, HG.out, Clo.zero _ _, HD.out, HBn.out⟩
      case round =>
        clear HG HD HBn HD0 HBw
        obtain ⟨k, T, v, hk, rfl, hg, hc, hd, hb⟩ := hrel
        have hbd := HNN.out T hg.1 hg.2.1
        have HG := Lib.hid hg; clear hg
        have HC := Lib.hid hc; clear hc
        have HD := Lib.hid hd; clear hd
        have HBn := Lib.hid hb; clear hb
        have cv := HD.out.cv
        by_cases hlt : k < T.length
        · obtain ⟨b, o, q', hv, hq', hq2, hcell, hrow⟩ := HD.out.own.cell hlt
          have hT : I64 T[k] := by
            obtain ⟨b0, b1⟩ := hangs_bd HLI.out HF.out.ands (HG.out.2.1 T[k] (List.getElem_mem _))
            unfold I64; omega
          obtain ⟨u, hl, hu⟩ := HD.out.gates.look hT
          have hown := HD.out.own
          have hsz := HD.out.sz
          subst hv
          have HCm : Hid (∀ t, andOf c.ands T[k] = some t → Clo c.ands (k + 1) (put (put T t.b) t.c)) := fun t ht => HC.out.more hlt t ht
          have HCs : Hid (andOf c.ands T[k] = none → Clo c.ands (k + 1) T) := fun hn => HC.out.skip hlt hn
          have HGm : Hid (∀ t, andOf c.ands T[k] = some t → Got c.ands l l.length (put T t.b) ∧ Got c.ands l l.length (put (put T t.b) t.c)) := fun t ht => by
            have hh := HG.out.2.1 T[k] (List.getElem_mem _)
            have g1 := HG.out.put t.b (fun h0 => .left _ t hh ht h0)
            exact ⟨g1, g1.put t.c (fun h0 => .right _ t hh ht h0)⟩
          have HFm : Hid (∀ t, andOf c.ands T[k] = some t → t.fits) := fun t ht => HF.out.ands t (andOf_mem ht)
          generalize T[k] = y at *
          cases hq : andOf c.ands y
          case none =>
            have HC2 := Lib.hid (HCs.out hq)
            rw [hq] at hl
            obtain ⟨ux, uy, uz⟩ := u
            simp only [triV, Option.isSome_none] at hl
            have HD2 := Lib.hid (HD.out.alloc (.cells #[.int .i64 ux, .int .i64 uy, .int .i64 uz] 43))
            have HB2 := Lib.hid (HBn.out.alloc HBn.out.size (.cells #[.int .i64 ux, .int .i64 uy, .int .i64 uz] 43))
            clear hq hu HCm HGm HFm HCs
            go_wp2
            go_roundw
            case rel => exact ⟨k + 1, T, _, by omega, by go_num, HG.out, HC2.out, HD2.out, HB2.out⟩
            case measure => simp [intOf]; omega
          case some t =>
            obtain rfl := hu t hq
            obtain ⟨hg1, hg2⟩ := HGm.out u hq
            have hl1 := HNN.out _ hg1.1 hg1.2.1
            have HG2 := Lib.hid hg2
            have HC2 := Lib.hid (HCm.out u hq)
            have hfit := HFm.out u hq
            rw [hq] at hl
            obtain ⟨ux, uy, uz⟩ := u
            simp only [triV, Option.isSome_some] at hl
            simp only [] at hl1
            have HY := Lib.hid (show I64 uy from hfit.2.1)
            have HZ := Lib.hid (show I64 uz from hfit.2.2)
            have HD2 := Lib.hid (HD.out.alloc (.cells #[.int .i64 ux, .int .i64 uy, .int .i64 uz] 43))
            have HB2 := Lib.hid (HBn.out.alloc HBn.out.size (.cells #[.int .i64 ux, .int .i64 uy, .int .i64 uz] 43))
            obtain ⟨n0, n1, n2⟩ := tri_cells wr ux uy uz 43 _ (Below.refl _ _)
            have HLa := Lib.hid (show T.length * 8 + 8 ≤ 140737488355328 by omega)
            have HLb := Lib.hid (show (put T uy).length * 8 + 8 ≤ 140737488355328 by omega)
            have HK : Hid (k + 1 ≤ (put (put T uy) uz).length) := by
              have e1 := put_len T uy
              have e2 := put_len (put T uy) uz
              unfold Hid; omega
            have HBl : Hid (∀ g, (Value.slice (some ⟨b, o, none⟩) T.length q').ownBlock = some g → g < wr.heap.size) := fun g hg => (hown.block_lt g hg).2
            clear hq hu HCm HGm HFm HCs hg1 hg2 hfit hown
            go_wp2_with fail
            refine (reach_any w2.heap.size B c.ands.length c.ands _ T uy _ HD2.out HY.out HLa.out).mono ?_
            rintro e w3 ⟨rfl, ⟨v3, hd3⟩, hb3, hfr3⟩
            have m2 := hfr3 _ _ n2 hsz (fun e => by have := HBl.out _ e; simp at this)
            have HD3 := Lib.hid hd3
            have HB3 : Hid (Below w.heap.size w w3) := HB2.out.trans (hb3.mono (by omega))
            clear hd3 hb3 hfr3
            go_wp2_with fail
            refine (reach_any w2.heap.size B c.ands.length c.ands v3 (put T uy) uz _ HD3.out HZ.out HLb.out).mono ?_
            rintro e w4 ⟨rfl, ⟨v4, hd4⟩, hb4, hfr4⟩
            have HD4 := Lib.hid hd4
            have HB4 : Hid (Below w.heap.size w w4) := HB3.out.trans (hb4.mono (by omega))
            clear hd4 hb4 hfr4
            go_wp2
            go_roundw
            case rel => exact ⟨k + 1, _, _, HK.out, by go_num, HG2.out, HC2.out, HD4.out, HB4.out⟩
            case measure => simp [intOf]; omega
        · obtain rfl : k = T.length := by omega
          obtain ⟨A', q', hv, hrow, hq', hq2⟩ := HD.out.own.row
          have HO := Lib.hid HD.out.own
          have hsz := HD.out.sz
          have HRi := Lib.hid (HC.out.done HG.out)
          have HRr := Lib.hid (rise_rising T HG.out.1)
          have HHv := Lib.hid HD.out.hv
          have HLT := Lib.hid (show T.length * 8 ≤ 140737488355328 by omega)
          subst hv
          clear hrow
          go_wp2_with fail
          refine (sort_own _ T (w2.heap.size + 3) _ HO.out HLT.out hsz).mono ?_
          rintro e w5 ⟨rfl, ho5, hb5, hk5⟩
          have hv5 := (hk5 (w2.heap.size + 2) (by omega) (fun e => by have := HO.out.block_lt _ e; omega)).trans HHv.out
          obtain ⟨cv5, _⟩ := one_block hv5
          have HP : Hid (ConeP N c.ands l w (.returned (.slice A' T.length q')) w5) := ⟨⟨_, rise T, rfl, ho5.mono (by omega), HRr.out, fun u => (rise_mem T u).trans (HRi.out u), by rw [rise_len]; exact hbd⟩, HBn.out.trans (hb5.mono (by omega))⟩
          clear ho5 hb5 hk5 hv5
          go_wp2
          go_ret
          exact HP.out
end Go.Proofs.Ytpaneggajjgdlaa.Cw
