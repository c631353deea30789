/- Ands hashed on plain lists, and what they do; no program is named here, no condition. What hangs on what is told, of ands in order; hashed again they stay; no program is named here, no condition. -/
import Derived.Test.YtpaneggajjgdlaaPc03
namespace Go.Proofs.Ytpaneggajjgdlaa.Str
open Circ Cw

/- what is hashed -/
def opp (x : Int) : Int := if x % 2 = 0 then x + 1 else x - 1
def plainM (a b : Int) : Option Int :=
  if cnt a = 0 ∨ cnt b = 0 ∨ cnt a = opp (cnt b) then some 0
  else if cnt a = 1 ∨ cnt a = cnt b then some (cnt b)
  else if cnt b = 1 then some (cnt a) else none
def pairM (b c : Int) : Int × Int := (min b c, max b c)
structure Hs where
  F : Int → Option Int
  G : Int × Int → Option Int
  st : List Tri
/- ands in order, of what is known ahead of them -/
def Seen (B : Int → Prop) (l : List Tri) (v : Int) : Prop := B v ∨ ∃ u ∈ l, u.a = 2 * v
theorem Seen.more {B : Int → Prop} {l : List Tri} {v : Int} (h : Seen B l v) (m : List Tri) : Seen B (l ++ m) v := by
  rcases h with h | ⟨u, hu, e⟩
  · exact .inl h
  · exact .inr ⟨u, List.mem_append_left _ hu, e⟩
inductive Good (B : Int → Prop) : List Tri → Prop
  | nil : Good B []
  | snoc (l : List Tri) (t : Tri) : Good B l → 2 ≤ t.a → t.a % 2 = 0 → (∀ u ∈ l, u.a < t.a) → 0 ≤ t.b → t.b < t.a → 0 ≤ t.c → t.c < t.a → Seen B l (t.b / 2) → Seen B l (t.c / 2) → ¬ B (t.a / 2) → Good B (l ++ [t])
theorem Good.mem {B : Int → Prop} : ∀ {l : List Tri}, Good B l → ∀ t ∈ l, 2 ≤ t.a ∧ t.a % 2 = 0 ∧ 0 ≤ t.b ∧ t.b < t.a ∧ 0 ≤ t.c ∧ t.c < t.a ∧ Seen B l (t.b / 2) ∧ Seen B l (t.c / 2) ∧ ¬ B (t.a / 2) := by
  intro l h
  induction h with
  | nil => simp
  | snoc l t _ h2 h3 _ h5 h6 h7 h8 h9 h10 h11 ih =>
    intro u hu
    rcases List.mem_append.1 hu with hu | hu
    · obtain ⟨a, b, c, d, e, f, g, i, j⟩ := ih u hu
      exact ⟨a, b, c, d, e, f, g.more _, i.more _, j⟩
    · rw [List.mem_singleton.1 hu]
      exact ⟨h2, h3, h5, h6, h7, h8, h9.more _, h10.more _, h11⟩

/- what hashing keeps -/
structure Inv (B : Int → Prop) (l : List Tri) (h : Hs) : Prop where
  sub : (h.st.map Tri.a).Sublist (l.map Tri.a)
  dom : ∀ v s, h.F v = some s → 0 ≤ s ∧ s < 2 * v ∧ (∃ t ∈ l, t.a = 2 * v) ∧ Seen B h.st (s / 2)
  seen : ∀ t ∈ l, (h.F (t.a / 2)).isSome ∨ ∃ u ∈ h.st, u.a = t.a
  good : Good B h.st
  plain : ∀ t ∈ h.st, plainM t.b t.c = none
  pairs : ∀ p x, h.G p = some x → ∃ t ∈ h.st, t.a = x ∧ p = pairM t.b t.c
  found : ∀ t ∈ h.st, (h.G (pairM t.b t.c)).isSome
  dist : h.st.Pairwise fun s t => pairM s.b s.c ≠ pairM t.b t.c
/- values -/
def bitM (V : Int → Bool) (l : Int) : Bool := V (l / 2) != decide (l % 2 = 1)
def setM (V : Int → Bool) (v : Int) (b : Bool) : Int → Bool := fun x => if x = v then b else V x
def evalM (V : Int → Bool) (l : List Tri) : Int → Bool := l.foldl (fun V t => setM V (t.a / 2) (bitM V t.b && bitM V t.c)) V
theorem eval_snoc (V : Int → Bool) (l : List Tri) (t : Tri) : evalM V (l ++ [t]) = setM (evalM V l) (t.a / 2) (bitM (evalM V l) t.b && bitM (evalM V l) t.c) := by unfold evalM; rw [List.foldl_append]; rfl
end Go.Proofs.Ytpaneggajjgdlaa.Str
namespace Go.Proofs.Ytpaneggajjgdlaa.Str
open Circ Cw

/-- the ands whose variables P tells -/
def those (P : Int → Prop) [DecidablePred P] (l : List Tri) : List Tri := l.filter fun t => decide (P (cnt t.a / 2))
def Closed (P : Int → Prop) (l : List Tri) : Prop := ∀ t ∈ l, P (t.a / 2) → (t.b / 2 = 0 ∨ P (t.b / 2)) ∧ (t.c / 2 = 0 ∨ P (t.c / 2))
/- the first and of a variable is the only one -/
end Go.Proofs.Ytpaneggajjgdlaa.Str
