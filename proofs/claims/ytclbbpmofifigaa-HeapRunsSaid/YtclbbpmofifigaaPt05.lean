/- A binary heap in a list: what sifting up and down keeps; the root is the best; no program is named here; no condition. Lists of any elements that a call makes itself: what appending leaves; no condition. A region that draws its order, by what each operation leaves in its own slot, whatever came before it; no condition. Stores of whole values, cell by cell, into one block: the worlds between, and what is as it was; no condition. HeapNobody from what it asks of a heap that nobody made. #[.pointer none]: the struct's zero cells, as the program lays it. -/
import Derived.Test.YtclbbpmofifigaaPt04
import Derived.BigQuiet
namespace Go.Proofs.Ytclbbpmofifigaa.Hep
open Circ Cw Cla

/-- is a ahead of b? -/
def bet (sc : List Int) (a b : Int) : Prop := scoreM sc b < scoreM sc a ∨ (scoreM sc a = scoreM sc b ∧ a < b)
instance (sc : List Int) (a b : Int) : Decidable (bet sc a b) := by unfold bet; infer_instance
theorem bet_asym {sc : List Int} {a b : Int} (h : bet sc a b) : ¬ bet sc b a := by unfold bet at *; omega
theorem bet_trans {sc : List Int} {a b c : Int} (h : ¬ bet sc a b) (k : ¬ bet sc b c) : ¬ bet sc a c := by unfold bet at *; omega
theorem bet_one {sc : List Int} {a b : Int} (h : ¬ bet sc a b) (k : ¬ bet sc b a) : a = b := by unfold bet at *; omega
theorem better_bet {sc : List Int} {b x : Int} (hb : 0 ≤ b) : betterM sc b x = decide (bet sc x b) := by
  unfold betterM
  rw [decide_eq_false (by omega), Bool.false_or, Bool.eq_iff_iff, Bool.or_eq_true, Bool.and_eq_true]
  simp only [decide_eq_true_eq]
  exact Iff.rfl
theorem fold_best (sc : List Int) : ∀ (l : List Int) (b : Int), 0 ≤ b → (∀ x ∈ l, 0 ≤ x) → (l.foldl (fun b x => if betterM sc b x = true then x else b) b = b ∨ l.foldl (fun b x => if betterM sc b x = true then x else b) b ∈ l) ∧ ¬ bet sc b (l.foldl (fun b x => if betterM sc b x = true then x else b) b) ∧ ∀ x ∈ l, ¬ bet sc x (l.foldl (fun b x => if betterM sc b x = true then x else b) b)
  | [], b, _, _ => ⟨.inl rfl, by unfold bet; simp, fun _ h => (List.not_mem_nil h).elim⟩
  | x :: l, b, hb, hl => by
    rw [List.foldl_cons]
    have hx := hl x List.mem_cons_self
    have hr := fun y hy => hl y (List.mem_cons_of_mem _ hy)
    rw [better_bet hb]
    by_cases h : bet sc x b
    · rw [if_pos (decide_eq_true h)]
      obtain ⟨h1, h2, h3⟩ := fold_best sc l x hx hr
      refine ⟨.inr (h1.elim (fun e => by rw [e]; exact List.mem_cons_self) fun e => List.mem_cons_of_mem _ e), bet_trans (bet_asym h) h2, fun y hy => ?_⟩
      rcases List.mem_cons.1 hy with rfl | hy
      · exact h2
      · exact h3 y hy
    · rw [if_neg (by rw [decide_eq_false h]; decide)]
      obtain ⟨h1, h2, h3⟩ := fold_best sc l b hb hr
      refine ⟨h1.elim .inl fun e => .inr (List.mem_cons_of_mem _ e), h2, fun y hy => ?_⟩
      rcases List.mem_cons.1 hy with rfl | hy
      · exact bet_trans h h2
      · exact h3 y hy
/-- the law's best is the one that none is ahead of -/
theorem best_is {sc l : List Int} {b : Int} (hl : ∀ x ∈ l, 0 ≤ x) (hb : b ∈ l) (h : ∀ x ∈ l, ¬ bet sc x b) : bestM sc l = b := by
  cases l with
  | nil => exact (List.not_mem_nil hb).elim
  | cons x l =>
    have hx := hl x List.mem_cons_self
    unfold bestM
    rw [List.foldl_cons, show betterM sc (-1) x = true from by unfold betterM; rw [decide_eq_true (by decide)]; rfl, if_pos rfl]
    obtain ⟨h1, h2, h3⟩ := fold_best sc l x hx fun y hy => hl y (List.mem_cons_of_mem _ hy)
    generalize l.foldl (fun b x => if betterM sc b x = true then x else b) x = r at *
    have hr : r ∈ x :: l := h1.elim (fun e => by rw [e]; exact List.mem_cons_self) fun e => List.mem_cons_of_mem _ e
    refine bet_one (h r hr) ?_
    rcases List.mem_cons.1 hb with rfl | hb
    · exact h2
    · exact h3 b hb
/-- two places changed about -/
def at0 (h : List Int) (i : Nat) : Int := h.getD i 0
def swapL (h : List Int) (i j : Nat) : List Int := (h.set i (at0 h j)).set j (at0 h i)
def par (i : Nat) : Nat := (i - 1) / 2
theorem swap_len (h : List Int) (i j : Nat) : (swapL h i j).length = h.length := by unfold swapL; simp
theorem at0_get {h : List Int} {i : Nat} (hi : i < h.length) : at0 h i = h[i] := by unfold at0; rw [List.getD_eq_getElem?_getD, List.getElem?_eq_getElem hi]; rfl
theorem swap_at {h : List Int} {i j : Nat} (hi : i < h.length) (hj : j < h.length) (k : Nat) : at0 (swapL h i j) k = if k = j then at0 h i else if k = i then at0 h j else at0 h k := by
  unfold swapL
  show ((h.set i (at0 h j)).set j (at0 h i)).getD k 0 = _
  rw [List.getD_eq_getElem?_getD, List.getElem?_set]
  by_cases h1 : k = j
  · subst h1
    rw [if_pos rfl, if_pos (by rw [List.length_set]; exact hj), if_pos rfl]; rfl
  · rw [if_neg (fun e => h1 e.symm), if_neg h1, List.getElem?_set]
    by_cases h2 : k = i
    · subst h2
      rw [if_pos rfl, if_pos hi, if_pos rfl]; rfl
    · rw [if_neg (fun e => h2 e.symm), if_neg h2]
      unfold at0
      rw [List.getD_eq_getElem?_getD]
theorem swap_perm {h : List Int} {i j : Nat} (hi : i < h.length) (hj : j < h.length) : (swapL h i j).Perm h := by
  have e : swapL h i j = (h.toArray.swap i j (by simpa using hi) (by simpa using hj)).toList := by
    unfold swapL
    rw [at0_get hi, at0_get hj, Array.swap_def]
    simp
  rw [e]
  exact (Array.swap_perm (xs := h.toArray) (by simpa using hi) (by simpa using hj)).toList
/-- none is ahead of the one above it -/
def Ord (sc h : List Int) : Prop := ∀ j, 0 < j → j < h.length → ¬ bet sc (at0 h j) (at0 h (par j))
/-- all in order, but that i might be ahead of the one above it -/
structure Up (sc h : List Int) (i : Nat) : Prop where
  o : ∀ j, 0 < j → j < h.length → j ≠ i → ¬ bet sc (at0 h j) (at0 h (par j))
  c : ∀ j, 0 < j → j < h.length → par j = i → 0 < i → ¬ bet sc (at0 h j) (at0 h (par i))
/-- all in order, but that those below i might be ahead of it -/
structure Down (sc h : List Int) (i : Nat) : Prop where
  o : ∀ j, 0 < j → j < h.length → par j ≠ i → ¬ bet sc (at0 h j) (at0 h (par j))
  c : ∀ j, 0 < j → j < h.length → par j = i → 0 < i → ¬ bet sc (at0 h j) (at0 h (par i))
section
variable {sc h : List Int} {i : Nat}
theorem par_lt {j : Nat} (hj : 0 < j) : par j < j := by unfold par; omega
theorem Up.done (u : Up sc h i) (k : i = 0 ∨ ¬ bet sc (at0 h i) (at0 h (par i))) : Ord sc h := fun j h0 h1 => by
  by_cases e : j = i
  · subst e
    rcases k with k | k
    · omega
    · exact k
  · exact u.o j h0 h1 e
theorem Up.swap (u : Up sc h i) (h0 : 0 < i) (hi : i < h.length) (hb : bet sc (at0 h i) (at0 h (par i))) : Up sc (swapL h i (par i)) (par i) := by
  have hp := par_lt h0
  have hpl : par i < h.length := by omega
  have at' := fun k => swap_at (h := h) hi hpl k
  constructor
  · intro j j0 jl jp
    rw [swap_len] at jl
    rw [at' j, at' (par j), if_neg jp]
    by_cases e : j = i
    · subst e
      rw [if_pos rfl, if_pos rfl]
      exact bet_asym hb
    · rw [if_neg e]
      by_cases e1 : par j = par i
      · rw [if_pos e1]
        have := u.o j j0 jl e
        rw [e1] at this
        exact bet_trans this (bet_asym hb)
      · rw [if_neg e1]
        by_cases e2 : par j = i
        · rw [if_pos e2]
          exact u.c j j0 jl e2 h0
        · rw [if_neg e2]
          exact u.o j j0 jl e
  · intro j j0 jl jp p0
    rw [swap_len] at jl
    have hpp := par_lt p0
    have hjp : j ≠ par i := fun e => by
      have h2 := par_lt j0
      rw [e] at jp
      have h3 := par_lt p0
      omega
    rw [at' j, at' (par (par i)), if_neg hjp, if_neg (show ¬ par (par i) = par i by omega), if_neg (show ¬ par (par i) = i by omega)]
    have hpo := u.o (par i) p0 hpl (by omega)
    by_cases e : j = i
    · rw [if_pos e]
      exact hpo
    · rw [if_neg e]
      have := u.o j j0 jl e
      rw [jp] at this
      exact bet_trans this hpo
theorem Down.done (d : Down sc h i) (k : ∀ j, 0 < j → j < h.length → par j = i → ¬ bet sc (at0 h j) (at0 h i)) : Ord sc h := fun j h0 h1 => by
  by_cases e : par j = i
  · rw [e]; exact k j h0 h1 e
  · exact d.o j h0 h1 e
theorem Down.swap (d : Down sc h i) {c : Nat} (c0 : 0 < c) (cl : c < h.length) (cp : par c = i) (hbest : ∀ j, 0 < j → j < h.length → par j = i → ¬ bet sc (at0 h j) (at0 h c)) (hb : bet sc (at0 h c) (at0 h i)) : Down sc (swapL h i c) c := by
  have hci := par_lt c0
  have hi : i < h.length := by omega
  have at' := fun k => swap_at (h := h) hi cl k
  constructor
  · intro j j0 jl jp
    rw [swap_len] at jl
    rw [at' j, at' (par j), if_neg jp]
    by_cases e : j = c
    · subst e
      rw [if_pos rfl, if_pos cp]
      exact bet_asym hb
    · rw [if_neg e]
      by_cases e1 : par j = i
      · rw [if_pos e1]
        have hji : j ≠ i := fun e2 => by have := par_lt j0; omega
        rw [if_neg hji]
        exact hbest j j0 jl e1
      · rw [if_neg e1]
        by_cases e2 : j = i
        · rw [if_pos e2, e2]
          exact d.c c c0 cl cp (by omega)
        · rw [if_neg e2]
          exact d.o j j0 jl e1
  · intro j j0 jl jp _
    rw [swap_len] at jl
    have hjc := par_lt j0
    rw [cp, at' j, at' i, if_neg (by omega), if_neg (by omega), if_neg (by omega), if_pos rfl]
    have := d.o j j0 jl (by omega)
    rw [jp] at this
    exact this
/-- none is ahead of the root -/
theorem Ord.root (o : Ord sc h) : ∀ j, j < h.length → ¬ bet sc (at0 h j) (at0 h 0) := by
  intro j
  induction j using Nat.strongRecOn with
  | _ j ih =>
    intro hj
    by_cases h0 : j = 0
    · rw [h0]; unfold bet; simp
    · have hp := par_lt (Nat.pos_of_ne_zero h0)
      exact bet_trans (o j (Nat.pos_of_ne_zero h0) hj) (ih (par j) hp (by omega))
/-- the root is the law's best of the same numbers in any order -/
theorem root_best {ins : List Int} (o : Ord sc h) (hp : h.Perm ins) (hn : ∀ x ∈ ins, 0 ≤ x) (h0 : 0 < h.length) : bestM sc ins = at0 h 0 := by
  refine best_is hn (hp.mem_iff.1 (by rw [at0_get h0]; exact List.getElem_mem h0)) fun x hx => ?_
  obtain ⟨j, hj, rfl⟩ := List.getElem_of_mem (hp.mem_iff.2 hx)
  rw [← at0_get hj]
  exact o.root j hj
/-- one more at the end -/
theorem push_up (o : Ord sc h) (x : Int) : Up sc (h ++ [x]) h.length := by
  have e : ∀ k, k < h.length → at0 (h ++ [x]) k = at0 h k := fun k hk => by
    unfold at0
    rw [List.getD_eq_getElem?_getD, List.getElem?_append_left hk, ← List.getD_eq_getElem?_getD]
  constructor
  · intro j j0 jl jn
    rw [List.length_append, List.length_singleton] at jl
    have := par_lt j0
    rw [e j (by omega), e (par j) (by omega)]
    exact o j j0 (by omega)
  · intro j j0 jl jp _
    rw [List.length_append, List.length_singleton] at jl
    have := par_lt j0
    omega
/-- the last one put in the root's place, and the end cut off -/
theorem pop_down (o : Ord sc h) (h1 : 1 < h.length) : Down sc ((h.set 0 (at0 h (h.length - 1))).take (h.length - 1)) 0 := by
  have e : ∀ k, 0 < k → k < h.length - 1 → at0 ((h.set 0 (at0 h (h.length - 1))).take (h.length - 1)) k = at0 h k := fun k k0 hk => by
    unfold at0
    rw [List.getD_eq_getElem?_getD, List.getElem?_take, if_pos hk, List.getElem?_set, if_neg (by omega), ← List.getD_eq_getElem?_getD]
  have hl : ((h.set 0 (at0 h (h.length - 1))).take (h.length - 1)).length = h.length - 1 := by rw [List.length_take, List.length_set]; omega
  constructor
  · intro j j0 jl jp
    rw [hl] at jl
    have := par_lt j0
    rw [e j j0 jl, e (par j) (by omega) (by omega)]
    exact o j j0 (by omega)
  · intro j j0 jl jp h2
    omega
/-- a score that went up: only its own place may be ahead of the one above it -/
theorem raise_up {sc' : List Int} (o : Ord sc h) {p : Nat} (hp : p < h.length) (hs : ∀ j, j < h.length → j ≠ p → scoreM sc' (at0 h j) = scoreM sc (at0 h j)) (hg : scoreM sc (at0 h p) ≤ scoreM sc' (at0 h p)) : Up sc' h p := by
  have key : ∀ a b, a < h.length → b < h.length → a ≠ p → ¬ bet sc (at0 h a) (at0 h b) → ¬ bet sc' (at0 h a) (at0 h b) := fun a b ha hb hap hn => by
    have h1 := hs a ha hap
    by_cases e : b = p
    · subst e
      unfold bet at *
      omega
    · have h2 := hs b hb e
      unfold bet at *
      omega
  constructor
  · intro j j0 jl jp
    have := par_lt j0
    exact key j (par j) jl (by omega) jp (o j j0 jl)
  · intro j j0 jl jp p0
    have h1 := par_lt j0
    have h2 := par_lt p0
    refine key j (par p) jl (by omega) (by omega) ?_
    have h3 := o j j0 jl
    rw [jp] at h3
    exact bet_trans h3 (o p p0 hp)
end
end Go.Proofs.Ytclbbpmofifigaa.Hep
namespace Go.Proofs.Ytclbbpmofifigaa.Cw
open Go.ChangeShapes Go.WideShapes Go.ChangeAt Go.RowKit Go.Maps Circ

theorem flatten_at {α : Type} (m : Nat) (hm : 0 < m) : ∀ (xs : List (List α)) (_ : ∀ y ∈ xs, y.length = m) (j : Nat), xs.flatten[j]? = (xs[j / m]?).bind (·[j % m]?)
  | [], _, j => by simp
  | y :: ys, h, j => by
    have hy : y.length = m := h y List.mem_cons_self
    rw [List.flatten_cons]
    by_cases hj : j < m
    · rw [List.getElem?_append_left (by omega), Nat.div_eq_of_lt hj, Nat.mod_eq_of_lt hj]; rfl
    · rw [List.getElem?_append_right (by omega), hy, flatten_at m hm ys (fun z hz => h z (List.mem_cons_of_mem _ hz)) (j - m)]
      obtain ⟨k, rfl⟩ : ∃ k, j = k + m := ⟨j - m, by omega⟩
      rw [Nat.add_sub_cancel, Nat.add_div_right _ hm, Nat.add_mod_right]
      rfl
/-- the slice v, made from block base on, holds the elements xs of m cells each -/
def OwnC (w : World) (base : Nat) (e : TypeId) (m : Nat) (v : Value) (xs : List (List Value)) : Prop := w.ownsRow base e m v xs.length xs.flatten
theorem OwnC.nil (w : World) (base : Nat) (e : TypeId) (m : Nat) : OwnC w base e m (.slice none 0 0) [] := ⟨by simp, .inl ⟨rfl, rfl⟩⟩
theorem OwnC.row {w : World} {base : Nat} {e : TypeId} {m : Nat} {v : Value} {xs : List (List Value)} (h : OwnC w base e m v xs) (hm : 0 < m) (hx : ∀ y ∈ xs, y.length = m) : ∃ A q, v = .slice A xs.length q ∧ LRow w w.heap.size m A xs ∧ xs.length ≤ q ∧ q ≤ 9223372036854775807 := by
  obtain ⟨_, h⟩ := h
  rcases h with ⟨rfl, h0⟩ | ⟨g, cap, cur, rfl, _, hg, hn, hmx, hs, ht⟩
  · have hx0 : xs = [] := List.eq_nil_of_length_eq_zero h0
    subst hx0
    exact ⟨none, 0, rfl, .inl rfl, Nat.le_refl _, by decide⟩
  · refine ⟨_, cap, rfl, .inr ⟨g, 0, rfl, (Array.getElem?_eq_some_iff.1 hg).1, fun i ys hi j u hj => ?_⟩, hn, by unfold maxLen at hmx; exact hmx⟩
    have hil : i < xs.length := (List.getElem?_eq_some_iff.1 hi).1
    have hjl : j < m := by
      have h1 := (List.getElem?_eq_some_iff.1 hj).1
      have h2 := hx ys (List.mem_of_getElem? hi)
      omega
    have hlt : i * m + j < xs.length * m := by
      have : (i + 1) * m ≤ xs.length * m := Nat.mul_le_mul_right _ hil
      rw [Nat.add_mul] at this; omega
    have e := congrArg (fun l : List Value => l[i * m + j]?) ht
    simp only [List.getElem?_take] at e
    rw [if_pos hlt, flatten_at m hm xs hx, show (i * m + j) / m = i by rw [Nat.mul_comm, Nat.mul_add_div hm, Nat.div_eq_of_lt hjl, Nat.add_zero], show (i * m + j) % m = j by rw [Nat.mul_comm, Nat.mul_add_mod, Nat.mod_eq_of_lt hjl], hi] at e
    simp only [Option.bind_some] at e
    rw [hj] at e
    simp [World.cell?, hg]
    simpa using e
theorem OwnC.block_lt {w : World} {base : Nat} {e : TypeId} {m : Nat} {v : Value} {xs : List (List Value)} (h : OwnC w base e m v xs) (g : Nat) (hg : v.ownBlock = some g) : base ≤ g ∧ g < w.heap.size := by
  obtain ⟨_, h⟩ := h
  rcases h with ⟨rfl, h0⟩ | ⟨g', cap, cur, rfl, hb, hh, _⟩
  · simp [Value.ownBlock] at hg
  · have : g' = g := by simpa [Value.ownBlock] using hg
    subst this
    exact ⟨hb, (Array.getElem?_eq_some_iff.1 hh).1⟩
theorem OwnC.keep_at {w w' : World} {base : Nat} {e : TypeId} {m : Nat} {v : Value} {xs : List (List Value)} (h : OwnC w base e m v xs) (hb : ∀ g, base ≤ g → v.ownBlock = some g → w'.heap[g]? = w.heap[g]?) : OwnC w' base e m v xs := by
  obtain ⟨h0, h⟩ := h
  refine ⟨h0, ?_⟩
  rcases h with h | ⟨g, cap, cur, hv, hg, hh, r⟩
  · exact .inl h
  · exact .inr ⟨g, cap, cur, hv, hg, (hb g hg (by rw [hv]; rfl)).trans hh, r⟩
theorem OwnC.keep {w w' : World} {base : Nat} {e : TypeId} {m : Nat} {v : Value} {xs : List (List Value)} (h : OwnC w base e m v xs) (hb : Below w.heap.size w w') : OwnC w' base e m v xs := h.keep_at fun g _ hg => hb.block g (h.block_lt g hg).2

end Go.Proofs.Ytclbbpmofifigaa.Cw
namespace Go.Proofs.Ytclbbpmofifigaa.Cw
open Go.ChangeShapes Go.WideShapes Go.ChangeAt Go.RowKit

end Go.Proofs.Ytclbbpmofifigaa.Cw
namespace Go.Proofs.Ytclbbpmofifigaa.Cw
open Go.ChangeShapes Go.WideShapes Go.ChangeAt Go.RowKit

/-- w' is w but for block g -/
structure But (g : Nat) (w w' : World) : Prop where
  b : ∀ k, k ≠ g → w'.heap[k]? = w.heap[k]?
  z : w'.heap.size = w.heap.size
  os : w'.os = w.os
  tape : w'.tape = w.tape
  output : w'.output = w.output
theorem But.refl (g : Nat) (w : World) : But g w w := ⟨fun _ _ => rfl, rfl, rfl, rfl, rfl⟩
theorem But.trans {g : Nat} {a b c : World} (h : But g a b) (k : But g b c) : But g a c := ⟨fun i hi => (k.b i hi).trans (h.b i hi), k.z.trans h.z, k.os.trans h.os, k.tape.trans h.tape, k.output.trans h.output⟩
theorem But.set (w : World) (g i : Nat) (v : Value) : But g w (w.setCell ⟨g, i, none⟩ v) := ⟨fun _ hk => Below.heap_setCell _ _ _ _ hk, by simp [World.setCell], rfl, rfl, rfl⟩
theorem But.below {g B : Nat} {W w w' : World} (h : But g w w') (hb : Below B W w) (hg : B ≤ g) : Below B W w' :=
  ⟨h.os.trans hb.os, h.tape.trans hb.tape, h.output.trans hb.output, by rw [h.z]; exact hb.size, fun k hk => (h.b k (by omega)).trans (hb.block k hk)⟩
theorem But.block {g k : Nat} {w w' : World} (h : But g w w') {x : Option Obj} (hx : w.heap[k]? = x) (hk : k ≠ g) : w'.heap[k]? = x := (h.b k hk).trans hx
theorem step_set {g : Nat} {e : TypeId} (w : World) (z : Array Value) (i : Nat) (v : Value) (hg : w.heap[g]? = some (.cells z e (0, 0))) (hi : i < z.size) : ∃ Z u, (w.setCell ⟨g, i, none⟩ v = Z ∧ w.cell? ⟨g, i, none⟩ = some u ∧ w.frozen? ⟨g, i, none⟩ = false) ∧ Z.heap[g]? = some (.cells (z.setIfInBounds i v) e (0, 0)) ∧ But g w Z :=
  ⟨_, z[i], ⟨rfl, by simp [World.cell?, hg, hi], by simp [World.frozen?, hg]⟩, by simp [World.setCell, Array.getElem?_modify, hg], But.set w g i v⟩
end Go.Proofs.Ytclbbpmofifigaa.Cw
namespace Go.Proofs.Ytclbbpmofifigaa.Hep
open Go.ChangeShapes Go.WideShapes Go.ChangeAt Go.RowKit Go.Maps Circ Cw

/-- nobody's heap: none, or a struct of zeros -/
def Nob (w : World) (p : Value) : Prop := p = .pointer none ∨ ∃ g, p = .pointer (some ⟨g, 0, none⟩) ∧ w.heap[g]? = some (.cells #[.pointer none] 42 (0, 0))
theorem Nob.below {w w' : World} {p : Value} (h : Nob w p) (hb : Below w.heap.size w w') : Nob w' p := by
  rcases h with h | ⟨g, h1, h2⟩
  · exact .inl h
  · exact .inr ⟨g, h1, (hb.block g (Array.getElem?_eq_some_iff.1 h2).1).trans h2⟩
/-- what the law asks of it -/
structure Nob14 : Prop where
  grow : ∀ (p : Value) (w : World), Nob w p → Calls Try.prog 13 #[p, .int .i64 3] w fun e w' => e = .returned (.tuple #[]) ∧ Below w.heap.size w w'
  raise : ∀ (p : Value) (x : Int) (w : World), Nob w p → I64 x → Calls Try.prog 12 #[p, .int .i64 x, .int .i64 1] w fun e w' => e = .returned (.tuple #[]) ∧ Below w.heap.size w w'
  pop : ∀ (p : Value) (w : World), Nob w p → Calls Try.prog 10 #[p] w fun e w' => e = .returned (.tuple #[.int .i64 0, .bool false]) ∧ Below w.heap.size w w'
  push : ∀ (p : Value) (x : Int) (w : World), Nob w p → I64 x → Calls Try.prog 8 #[p, .int .i64 x] w fun e w' => e = .returned (.bool false) ∧ Below w.heap.size w w'
  len : ∀ (p : Value) (w : World), Nob w p → Calls Try.prog 14 #[p] w fun e w' => e = .returned (.int .i64 0) ∧ Below w.heap.size w w'
  has : ∀ (p : Value) (x : Int) (w : World), Nob w p → I64 x → Calls Try.prog 15 #[p, .int .i64 x] w fun e w' => e = .returned (.bool false) ∧ Below w.heap.size w w'
  score : ∀ (p : Value) (x : Int) (w : World), Nob w p → I64 x → Calls Try.prog 16 #[p, .int .i64 x] w fun e w' => e = .returned (.int .i64 0) ∧ Below w.heap.size w w'
set_option maxHeartbeats 16000000 in
set_option maxRecDepth 100000 in
theorem nobody_walk (P : Nob14) (AL : ∀ w : World, Calls Try.prog 5 #[] w fun e w' => e = .returned (.bool true) ∧ Below w.heap.size w w') (x : Int) (w : World) (h64 : I64 x) :
    Calls Try.prog 4 #[.int .i64 x] w fun e w' => e = .returned (.bool true) ∧ Below w.heap.size w w' := by
  obtain ⟨W1, hW1⟩ : ∃ y, w.alloc (.cells #[.pointer none] 42) = y := ⟨_, rfl⟩
  have g1 : W1.heap[w.heap.size]? = some (.cells #[.pointer none] 42 (0, 0)) := by rw [← hW1]; exact Array.getElem?_push_size
  have b1 : Below w.heap.size w W1 := by rw [← hW1]; exact (Below.refl _ _).alloc (Nat.le_refl _) _
  obtain ⟨W2, hW2⟩ : ∃ y, W1.alloc (.cells #[.pointer none, .pointer (some ⟨w.heap.size, 0, none⟩)] 24) = y := ⟨_, rfl⟩
  have g2 : W2.heap[W1.heap.size]? = some (.cells #[.pointer none, .pointer (some ⟨w.heap.size, 0, none⟩)] 24 (0, 0)) := by rw [← hW2]; exact Array.getElem?_push_size
  have b2 : Below W1.heap.size W1 W2 := by rw [← hW2]; exact (Below.refl _ _).alloc (Nat.le_refl _) _
  have G1 : Hid (W2.heap[w.heap.size]? = some (.cells #[.pointer none] 42 (0, 0))) := (b2.block _ (Array.getElem?_eq_some_iff.1 g1).1).trans g1
  have G2 := Lib.hid g2
  have B2 : Hid (Below w.heap.size w W2) := b1.trans (b2.mono b1.size)
  have HX := Lib.hid h64
  have AV := Lib.hid AL
  clear g1 g2 b1 b2 AL
  go_enter Try.func4, Try.ntmps4
  go_wp2
  clear hW1 hW2
  go_loopw [5] (fun i wr => ∃ k : Nat, k ≤ 2 ∧ i = .int .i64 k ∧ Below W2.heap.size W2 wr) (fun i _ => 2 - (intOf i).toNat)
  case atStart => exact ⟨0, by decide, rfl, Below.refl _ _⟩
  case round =>
    obtain ⟨k, hk, rfl, hb⟩ := hrel
    have BK := Lib.hid hb
    clear hb
    by_cases hk2 : k < 2
    · obtain ⟨p, hp⟩ : ∃ p : Value, (if k = 0 then Value.pointer none else Value.pointer (some ⟨w.heap.size, 0, none⟩)) = p := ⟨_, rfl⟩
      have c2 : wr.cell? ⟨W1.heap.size, k, none⟩ = some p := by
        rw [Lib.cell_of_heap ((BK.out.block _ (Array.getElem?_eq_some_iff.1 G2.out).1).trans G2.out), ← hp]
        match k, hk2 with
        | 0, _ => rfl
        | 1, _ => rfl
      have HN : Hid (Nob W2 p) := by
        unfold Hid Nob
        rw [← hp]
        split
        · exact .inl rfl
        · exact .inr ⟨_, rfl, G1.out⟩
      have hk0 : (0 : Int) ≤ (k : Int) := by omega
      have hk1 : (k : Int) < 2 := by omega
      clear hp
      have N0 := Lib.hid (P.grow p wr (HN.out.below BK.out))
      go_wp2_with fail
      refine N0.out.mono ?_
      rintro e w3 ⟨rfl, hb⟩
      have B3 : Hid (Below W2.heap.size W2 w3) := BK.out.trans (hb.mono BK.out.size)
      clear hb N0 c2
      have N0 := Lib.hid (P.raise p x w3 (HN.out.below B3.out) HX.out)
      go_wp2_with fail
      refine N0.out.mono ?_
      rintro e w4 ⟨rfl, hb⟩
      have B4 : Hid (Below W2.heap.size W2 w4) := B3.out.trans (hb.mono B3.out.size)
      clear hb N0
      have N0 := Lib.hid (P.pop p w4 (HN.out.below B4.out))
      go_wp2_with fail
      refine N0.out.mono ?_
      rintro e w5 ⟨rfl, hb⟩
      have B5 : Hid (Below W2.heap.size W2 w5) := B4.out.trans (hb.mono B4.out.size)
      clear hb N0
      have N0 := Lib.hid (P.push p x w5 (HN.out.below B5.out) HX.out)
      go_wp2_with fail
      refine N0.out.mono ?_
      rintro e w6 ⟨rfl, hb⟩
      have B6 : Hid (Below W2.heap.size W2 w6) := B5.out.trans (hb.mono B5.out.size)
      clear hb N0
      have N0 := Lib.hid (P.len p w6 (HN.out.below B6.out))
      go_wp2_with fail
      refine N0.out.mono ?_
      rintro e w7 ⟨rfl, hb⟩
      have B7 : Hid (Below W2.heap.size W2 w7) := B6.out.trans (hb.mono B6.out.size)
      clear hb N0
      have N0 := Lib.hid (P.has p x w7 (HN.out.below B7.out) HX.out)
      go_wp2_with fail
      refine N0.out.mono ?_
      rintro e w8 ⟨rfl, hb⟩
      have B8 : Hid (Below W2.heap.size W2 w8) := B7.out.trans (hb.mono B7.out.size)
      clear hb N0
      have N0 := Lib.hid (P.score p x w8 (HN.out.below B8.out) HX.out)
      go_wp2_with fail
      refine N0.out.mono ?_
      rintro e w9 ⟨rfl, hb⟩
      have B9 : Hid (Below W2.heap.size W2 w9) := B8.out.trans (hb.mono B8.out.size)
      clear hb N0
      go_wp2
      go_roundw
      case rel => exact ⟨k + 1, by omega, by go_num, B9.out⟩
      case measure => simp [intOf]; omega
    · obtain rfl : k = 2 := by omega
      have AW := Lib.hid (AV.out wr)
      have B3 : Hid (Below w.heap.size w wr) := B2.out.trans (BK.out.mono B2.out.size)
      go_wp2_with fail
      refine AW.out.mono ?_
      rintro e w9 ⟨rfl, hb⟩
      have B9 : Hid (Below w.heap.size w w9) := B3.out.trans (hb.mono B3.out.size)
      clear hb AW
      go_wp2
      go_ret
      exact ⟨rfl, B9.out⟩
end Go.Proofs.Ytclbbpmofifigaa.Hep
