/- What literals hang on within one step, purely: which variables there are, and that a rising list of them is one. No program is named here. Ands hashed on plain lists, and what they do; no program is named here, no condition. What hangs on what is told, of ands in order; hashed again they stay; no program is named here, no condition. -/
import Derived.Test.YtjlnffkieocihaaPt02
namespace Go.Proofs.Ytjlnffkieocihaa.Cw
open Circ

/-- the first gate of a variable -/
def andOf (ands : List Tri) (v : Int) : Option Tri := ands.find? fun t => decide (cnt t.a / 2 = v)
theorem andOf_mem {ands : List Tri} {v : Int} {t : Tri} (h : andOf ands v = some t) : t ∈ ands := List.mem_of_find?_eq_some h
/-- the variables that the literals hang on -/
inductive Hangs (ands : List Tri) (l : List Int) : Int → Prop
  | start (x : Int) : x ∈ l → cnt x / 2 ≠ 0 → Hangs ands l (cnt x / 2)
  | left (v : Int) (t : Tri) : Hangs ands l v → andOf ands v = some t → cnt t.b / 2 ≠ 0 → Hangs ands l (cnt t.b / 2)
  | right (v : Int) (t : Tri) : Hangs ands l v → andOf ands v = some t → cnt t.c / 2 ≠ 0 → Hangs ands l (cnt t.c / 2)

/-- one more variable, if it is not there -/
def put (T : List Int) (x : Int) : List Int := if T.contains (cnt x / 2) || decide (cnt x / 2 = 0) then T else T ++ [cnt x / 2]
theorem mem_put (T : List Int) (x v : Int) : v ∈ put T x ↔ v ∈ T ∨ (v = cnt x / 2 ∧ v ≠ 0) := by
  unfold put
  split
  · rename_i h
    simp only [Bool.or_eq_true, List.contains_iff_mem, decide_eq_true_eq] at h
    constructor
    · exact .inl
    · rintro (h1 | ⟨rfl, h2⟩)
      · exact h1
      · rcases h with h | h
        · exact h
        · exact absurd h h2
  · rename_i h
    simp only [Bool.or_eq_true, List.contains_iff_mem, decide_eq_true_eq, not_or] at h
    simp only [List.mem_append, List.mem_singleton]
    constructor
    · rintro (h1 | rfl)
      · exact .inl h1
      · exact .inr ⟨rfl, h.2⟩
    · rintro (h1 | ⟨rfl, _⟩)
      · exact .inl h1
      · exact .inr rfl
theorem put_nodup (T : List Int) (x : Int) (h : T.Nodup) : (put T x).Nodup := by
  unfold put
  split
  · exact h
  · rename_i h2
    simp only [Bool.or_eq_true, List.contains_iff_mem, decide_eq_true_eq, not_or] at h2
    rw [List.nodup_append]
    refine ⟨h, by simp, ?_⟩
    intro a ha b hb
    simp at hb
    subst hb
    rintro rfl
    exact h2.1 ha
theorem put_get (T : List Int) (x : Int) (k : Nat) (hk : k < T.length) : ∃ h : k < (put T x).length, (put T x)[k] = T[k] := by
  unfold put
  split
  · exact ⟨hk, rfl⟩
  · exact ⟨by simp; omega, by rw [List.getElem_append_left hk]⟩
theorem put_len (T : List Int) (x : Int) : T.length ≤ (put T x).length := by
  unfold put; split
  · exact Nat.le_refl _
  · simp

theorem nodup_len : ∀ (a b : List Int), a.Nodup → (∀ x ∈ a, x ∈ b) → a.length ≤ b.length
  | [], _, _, _ => Nat.zero_le _
  | x :: a, b, h, hs => by
    rw [List.nodup_cons] at h
    have hx : x ∈ b := hs x (List.mem_cons_self)
    have := nodup_len a (b.erase x) h.2 (fun y hy => by
      have hne : y ≠ x := by rintro rfl; exact h.1 hy
      exact (List.mem_erase_of_ne hne).2 (hs y (List.mem_cons_of_mem _ hy)))
    rw [List.length_erase_of_mem hx] at this
    have hp : 0 < b.length := List.length_pos_of_mem hx
    simp only [List.length_cons]
    omega

def pool (ands : List Tri) (l : List Int) : List Int := l.map (fun x => cnt x / 2) ++ (ands.map (fun t => cnt t.b / 2) ++ ands.map (fun t => cnt t.c / 2))
theorem pool_len (ands : List Tri) (l : List Int) : (pool ands l).length = l.length + 2 * ands.length := by simp [pool]; omega
theorem hangs_pool {ands : List Tri} {l : List Int} {v : Int} (h : Hangs ands l v) : v ∈ pool ands l := by
  unfold pool
  cases h with
  | start x hx _ => exact List.mem_append_left _ (List.mem_map.2 ⟨x, hx, rfl⟩)
  | left u t _ ht _ => exact List.mem_append_right _ (List.mem_append_left _ (List.mem_map.2 ⟨t, andOf_mem ht, rfl⟩))
  | right u t _ ht _ => exact List.mem_append_right _ (List.mem_append_right _ (List.mem_map.2 ⟨t, andOf_mem ht, rfl⟩))
theorem hangs_len {ands : List Tri} {l T : List Int} (hn : T.Nodup) (h : ∀ v ∈ T, Hangs ands l v) : T.length ≤ l.length + 2 * ands.length := by
  rw [← pool_len ands l]
  exact nodup_len _ _ hn fun x hx => hangs_pool (h x hx)
end Go.Proofs.Ytjlnffkieocihaa.Cw
namespace Go.Proofs.Ytjlnffkieocihaa.Str
open Circ Cw

/- what is hashed -/
def opp (x : Int) : Int := if x % 2 = 0 then x + 1 else x - 1
def plainM (a b : Int) : Option Int :=
  if cnt a = 0 ∨ cnt b = 0 ∨ cnt a = opp (cnt b) then some 0
  else if cnt a = 1 ∨ cnt a = cnt b then some (cnt b)
  else if cnt b = 1 then some (cnt a) else none
def ofM (F : Int → Option Int) (l : Int) : Int := match F (cnt l / 2) with
  | none => l
  | some s => if cnt l % 2 = 1 then opp (cnt s) else s
def pairM (b c : Int) : Int × Int := (min b c, max b c)
structure Hs where
  F : Int → Option Int
  G : Int × Int → Option Int
  st : List Tri
def goneM (h : Hs) (b c : Int) : Option Int := (plainM b c).or (h.G (pairM b c))
def stepM (h : Hs) (t : Tri) : Hs := match goneM h (ofM h.F t.b) (ofM h.F t.c) with
  | some s => ⟨fun v => if v = cnt t.a / 2 then some s else h.F v, h.G, h.st⟩
  | none => ⟨h.F, fun p => if p = pairM (ofM h.F t.b) (ofM h.F t.c) then some t.a else h.G p, h.st ++ [⟨t.a, ofM h.F t.b, ofM h.F t.c⟩]⟩
def hs0 : Hs := ⟨fun _ => none, fun _ => none, []⟩
/- ands in order, of what is known ahead of them -/
def Seen (B : Int → Prop) (l : List Tri) (v : Int) : Prop := B v ∨ ∃ u ∈ l, u.a = 2 * v
theorem Seen.more {B : Int → Prop} {l : List Tri} {v : Int} (h : Seen B l v) (m : List Tri) : Seen B (l ++ m) v := by
  rcases h with h | ⟨u, hu, e⟩
  · exact .inl h
  · exact .inr ⟨u, List.mem_append_left _ hu, e⟩
inductive Good (B : Int → Prop) : List Tri → Prop
  | nil : Good B []
  | snoc (l : List Tri) (t : Tri) : Good B l → 2 ≤ t.a → t.a % 2 = 0 → (∀ u ∈ l, u.a < t.a) → 0 ≤ t.b → t.b < t.a → 0 ≤ t.c → t.c < t.a → Seen B l (t.b / 2) → Seen B l (t.c / 2) → ¬ B (t.a / 2) → Good B (l ++ [t])
theorem Good.mem {B : Int → Prop} : ∀ {l : List Tri}, Good B l → ∀ t ∈ l, 2 ≤ t.a ∧ t.a % 2 = 0 ∧ 0 ≤ t.b ∧ t.b < t.a ∧ 0 ≤ t.c ∧ t.c < t.a ∧ Seen B l (t.b / 2) ∧ Seen B l (t.c / 2) ∧ ¬ B (t.a / 2) := by
  intro l h
  induction h with
  | nil => simp
  | snoc l t _ h2 h3 _ h5 h6 h7 h8 h9 h10 h11 ih =>
    intro u hu
    rcases List.mem_append.1 hu with hu | hu
    · obtain ⟨a, b, c, d, e, f, g, i, j⟩ := ih u hu
      exact ⟨a, b, c, d, e, f, g.more _, i.more _, j⟩
    · rw [List.mem_singleton.1 hu]
      exact ⟨h2, h3, h5, h6, h7, h8, h9.more _, h10.more _, h11⟩

/- what hashing keeps -/
structure Inv (B : Int → Prop) (l : List Tri) (h : Hs) : Prop where
  sub : (h.st.map Tri.a).Sublist (l.map Tri.a)
  dom : ∀ v s, h.F v = some s → 0 ≤ s ∧ s < 2 * v ∧ (∃ t ∈ l, t.a = 2 * v) ∧ Seen B h.st (s / 2)
  seen : ∀ t ∈ l, (h.F (t.a / 2)).isSome ∨ ∃ u ∈ h.st, u.a = t.a
  good : Good B h.st
  plain : ∀ t ∈ h.st, plainM t.b t.c = none
  pairs : ∀ p x, h.G p = some x → ∃ t ∈ h.st, t.a = x ∧ p = pairM t.b t.c
  found : ∀ t ∈ h.st, (h.G (pairM t.b t.c)).isSome
  dist : h.st.Pairwise fun s t => pairM s.b s.c ≠ pairM t.b t.c
/- values -/
def bitM (V : Int → Bool) (l : Int) : Bool := V (l / 2) != decide (l % 2 = 1)
def setM (V : Int → Bool) (v : Int) (b : Bool) : Int → Bool := fun x => if x = v then b else V x
def evalM (V : Int → Bool) (l : List Tri) : Int → Bool := l.foldl (fun V t => setM V (t.a / 2) (bitM V t.b && bitM V t.c)) V
theorem eval_snoc (V : Int → Bool) (l : List Tri) (t : Tri) : evalM V (l ++ [t]) = setM (evalM V l) (t.a / 2) (bitM (evalM V l) t.b && bitM (evalM V l) t.c) := by unfold evalM; rw [List.foldl_append]; rfl
theorem bit_set_other {V : Int → Bool} {v x : Int} {b : Bool} (h : x / 2 ≠ v) : bitM (setM V v b) x = bitM V x := by unfold bitM setM; rw [if_neg h]
theorem seen_lt {B : Int → Prop} {l : List Tri} {t : Tri} (h3 : ∀ u ∈ l, u.a < t.a) (hB : ¬ B (t.a / 2)) (he : t.a % 2 = 0) {v : Int} (hs : Seen B l v) : v ≠ t.a / 2 := by
  rintro rfl
  rcases hs with hs | ⟨u, hu, e⟩
  · exact hB hs
  · have := h3 u hu; omega
/-- each and is the and of its two -/
theorem eval_and {B : Int → Prop} (V : Int → Bool) {l : List Tri} (hg : Good B l) : ∀ t ∈ l, evalM V l (t.a / 2) = (bitM (evalM V l) t.b && bitM (evalM V l) t.c) := by
  induction hg with
  | nil => simp
  | snoc l t h1 h2 h3 h4 h5 h6 h7 h8 h9 h10 h11 ih =>
    intro u hu
    rw [eval_snoc]
    rcases List.mem_append.1 hu with hu | hu
    · obtain ⟨a, b, c, d, e, f, g, i, j⟩ := h1.mem u hu
      have hl := h4 u hu
      rw [bit_set_other (by omega), bit_set_other (by omega), ← ih u hu]
      unfold setM
      rw [if_neg (by omega)]
    · rw [List.mem_singleton.1 hu]
      rw [bit_set_other (seen_lt h4 h11 h3 h9), bit_set_other (seen_lt h4 h11 h3 h10)]
      unfold setM
      rw [if_pos rfl]
theorem eval_low {B : Int → Prop} (V : Int → Bool) {l : List Tri} (hg : Good B l) {v : Int} (hv : B v) : evalM V l v = V v := by
  induction hg with
  | nil => rfl
  | snoc l t h1 h2 h3 h4 h5 h6 h7 h8 h9 h10 h11 ih =>
    rw [eval_snoc]
    unfold setM
    rw [if_neg (fun e => h11 (by rw [← e]; exact hv)), ih]
end Go.Proofs.Ytjlnffkieocihaa.Str
namespace Go.Proofs.Ytjlnffkieocihaa.Str
open Circ Cw

/-- the ands whose variables P tells -/
def those (P : Int → Prop) [DecidablePred P] (l : List Tri) : List Tri := l.filter fun t => decide (P (cnt t.a / 2))
/- the first and of a variable is the only one -/
end Go.Proofs.Ytjlnffkieocihaa.Str
