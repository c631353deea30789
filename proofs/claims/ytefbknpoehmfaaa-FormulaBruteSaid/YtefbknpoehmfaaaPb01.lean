/- The walks of package lits' functions as circuits use them, and of slices' search for the first number of a kind; no condition. The walks of circuit's looks at sizes and texts, and of what panics where a circuit may not be; no condition. The walks of circuit's looks at kinds and texts of names, and at what pins there are; of the pages' own count and rank; no condition. What literals hang on within one step, purely: which variables there are, and that a rising list of them is one. No program is named here. Ands hashed on plain lists, and what they do; no program is named here, no condition. -/
import Derived.Test.YtefbknpoehmfaaaChecked
import Derived.Test.YtefbknpoehmfaaaPb00
import Derived.WalkKit
import Derived.ProofKit
import Derived.WalkSpells
import Derived.WalkLawsBesides
import Derived.Outline
import Derived.Lib.Hide
import Derived.LoopTactic
import Derived.OneCell
import Derived.Deep.QuietTactic
import Derived.BigQuiet
import Derived.Shelf.Abstract
namespace Go.Proofs.Ytefbknpoehmfaaa.Cw
open Go.ChangeShapes Go.WideShapes Go.ChangeAt Go.RowKit Circ

/-- what a number counts as in the place of a literal -/
def cnt (x : Int) : Int := if x < 0 then 0 else x
/-- the greatest literal of variables up to m -/
def great (m : Int) : Int := if m < 0 ∨ 2048 < m then -1 else 2 * m + 1
/-- a number that is no literal of a variable up to m -/
def outside (m x : Int) : Bool := decide (x < 0) || decide (great m < x)
end Go.Proofs.Ytefbknpoehmfaaa.Cw
namespace Go.Proofs.Ytefbknpoehmfaaa.Cw
open Go.ChangeShapes Go.WideShapes Go.ChangeAt Go.RowKit Circ

def lens (c : Cir) : List Int := [c.ins.length, c.lats.length, c.outs.length, c.bads.length, c.invs.length]
def sizesOk (c : Cir) : Bool := decide (0 ≤ c.max) && decide (c.max ≤ 2048) && (lens c).all fun n => decide (n ≤ 64)

theorem all_take {α : Type} (l : List α) (p : α → Bool) (k : Nat) (hk : k < l.length) : (l.take (k + 1)).all p = ((l.take k).all p && p l[k]) := by
  rw [List.take_succ_eq_append_getElem hk, List.all_append]; simp
theorem all_not {α : Type} (l : List α) (p : α → Bool) (k : Nat) (hk : k < l.length) (h : p l[k] = false) : l.all p = false := by
  rw [List.all_eq_false]; exact ⟨l[k], List.getElem_mem _, by simp [h]⟩

theorem new_cell (w : World) (cs : Array Value) (t : TypeId) (k : Nat) : (w.alloc (.cells cs t)).cell? ⟨w.heap.size, k, none⟩ = cs[k]? := by simp

end Go.Proofs.Ytefbknpoehmfaaa.Cw
namespace Go.Proofs.Ytefbknpoehmfaaa.Cw
open Go.ChangeShapes Go.WideShapes Go.ChangeAt Go.RowKit Circ

def kinds : List ByteArray := [⟨#[105]⟩, ⟨#[108]⟩, ⟨#[111]⟩, ⟨#[98]⟩, ⟨#[99]⟩]
/-- where names of a kind stand among those of others; -1: nowhere -/
def rankV (t : ByteArray) : Int := match kinds.findIdx? fun x => x.toList == t.toList with
  | some k => k
  | none => -1

theorem find_none {α : Type} (l : List α) (p : α → Bool) (h0 : l.any p = false) : l.findIdx? p = none := by
  rw [List.findIdx?_eq_none_iff]
  rw [List.any_eq_false] at h0
  intro x hx; simpa using h0 x hx
/-- the literals of a kind's pins; a kind that is no other's is the invars' -/
def kindLits (c : Cir) (t : ByteArray) : List Int :=
  if (t.toList == [105]) = true then c.ins else if (t.toList == [108]) = true then c.lats.map Tri.a else if (t.toList == [111]) = true then c.outs
  else if (t.toList == [98]) = true then c.bads else c.invs
end Go.Proofs.Ytefbknpoehmfaaa.Cw
namespace Go.Proofs.Ytefbknpoehmfaaa.Cw
open Circ

/-- the first gate of a variable -/
def andOf (ands : List Tri) (v : Int) : Option Tri := ands.find? fun t => decide (cnt t.a / 2 = v)
/-- the variables that the literals hang on -/
inductive Hangs (ands : List Tri) (l : List Int) : Int → Prop
  | start (x : Int) : x ∈ l → cnt x / 2 ≠ 0 → Hangs ands l (cnt x / 2)
  | left (v : Int) (t : Tri) : Hangs ands l v → andOf ands v = some t → cnt t.b / 2 ≠ 0 → Hangs ands l (cnt t.b / 2)
  | right (v : Int) (t : Tri) : Hangs ands l v → andOf ands v = some t → cnt t.c / 2 ≠ 0 → Hangs ands l (cnt t.c / 2)

/-- one more variable, if it is not there -/
def put (T : List Int) (x : Int) : List Int := if T.contains (cnt x / 2) || decide (cnt x / 2 = 0) then T else T ++ [cnt x / 2]
end Go.Proofs.Ytefbknpoehmfaaa.Cw
namespace Go.Proofs.Ytefbknpoehmfaaa.Str
open Circ Cw

/- what is hashed -/
def opp (x : Int) : Int := if x % 2 = 0 then x + 1 else x - 1
def plainM (a b : Int) : Option Int :=
  if cnt a = 0 ∨ cnt b = 0 ∨ cnt a = opp (cnt b) then some 0
  else if cnt a = 1 ∨ cnt a = cnt b then some (cnt b)
  else if cnt b = 1 then some (cnt a) else none
def ofM (F : Int → Option Int) (l : Int) : Int := match F (cnt l / 2) with
  | none => l
  | some s => if cnt l % 2 = 1 then opp (cnt s) else s
def pairM (b c : Int) : Int × Int := (min b c, max b c)
structure Hs where
  F : Int → Option Int
  G : Int × Int → Option Int
  st : List Tri
def goneM (h : Hs) (b c : Int) : Option Int := (plainM b c).or (h.G (pairM b c))
def stepM (h : Hs) (t : Tri) : Hs := match goneM h (ofM h.F t.b) (ofM h.F t.c) with
  | some s => ⟨fun v => if v = cnt t.a / 2 then some s else h.F v, h.G, h.st⟩
  | none => ⟨h.F, fun p => if p = pairM (ofM h.F t.b) (ofM h.F t.c) then some t.a else h.G p, h.st ++ [⟨t.a, ofM h.F t.b, ofM h.F t.c⟩]⟩
def hs0 : Hs := ⟨fun _ => none, fun _ => none, []⟩
def runM (l : List Tri) : Hs := l.foldl stepM hs0
/- ands in order, of what is known ahead of them -/
def Seen (B : Int → Prop) (l : List Tri) (v : Int) : Prop := B v ∨ ∃ u ∈ l, u.a = 2 * v
theorem Seen.more {B : Int → Prop} {l : List Tri} {v : Int} (h : Seen B l v) (m : List Tri) : Seen B (l ++ m) v := by
  rcases h with h | ⟨u, hu, e⟩
  · exact .inl h
  · exact .inr ⟨u, List.mem_append_left _ hu, e⟩
inductive Good (B : Int → Prop) : List Tri → Prop
  | nil : Good B []
  | snoc (l : List Tri) (t : Tri) : Good B l → 2 ≤ t.a → t.a % 2 = 0 → (∀ u ∈ l, u.a < t.a) → 0 ≤ t.b → t.b < t.a → 0 ≤ t.c → t.c < t.a → Seen B l (t.b / 2) → Seen B l (t.c / 2) → ¬ B (t.a / 2) → Good B (l ++ [t])
/- what hashing keeps -/
structure Inv (B : Int → Prop) (l : List Tri) (h : Hs) : Prop where
  sub : (h.st.map Tri.a).Sublist (l.map Tri.a)
  dom : ∀ v s, h.F v = some s → 0 ≤ s ∧ s < 2 * v ∧ (∃ t ∈ l, t.a = 2 * v) ∧ Seen B h.st (s / 2)
  seen : ∀ t ∈ l, (h.F (t.a / 2)).isSome ∨ ∃ u ∈ h.st, u.a = t.a
  good : Good B h.st
  plain : ∀ t ∈ h.st, plainM t.b t.c = none
  pairs : ∀ p x, h.G p = some x → ∃ t ∈ h.st, t.a = x ∧ p = pairM t.b t.c
  found : ∀ t ∈ h.st, (h.G (pairM t.b t.c)).isSome
  dist : h.st.Pairwise fun s t => pairM s.b s.c ≠ pairM t.b t.c
/- values -/
def setM (V : Int → Bool) (v : Int) (b : Bool) : Int → Bool := fun x => if x = v then b else V x
end Go.Proofs.Ytefbknpoehmfaaa.Str
