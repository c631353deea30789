/- Words for circuits in memory: lists of numbers, of triples, of names; no program is named here. Clauses of numbers: in order, subsumed, resolved; no program is named here, no condition. Formulas: which may be, models, what follows by units; no program is named here, no condition. -/
import Derived.Below
import Derived.Laws.OwnMore
import Derived.Lib.Hide
namespace Go.Proofs.Ytbgcoeejmnejdaa.Circ
open Go.RowKit

structure Tri where
  a : Int
  b : Int
  c : Int
structure Nam where
  kind : ByteArray
  num : Int
  text : ByteArray
structure Cir where
  max : Int
  ins : List Int
  lats : List Tri
  outs : List Int
  bads : List Int
  invs : List Int
  ands : List Tri
  names : List Nam

def I64 (x : Int) : Prop := -9223372036854775808 ≤ x ∧ x ≤ 9223372036854775807
def Tri.fits (t : Tri) : Prop := I64 t.a ∧ I64 t.b ∧ I64 t.c
def Nam.fits (t : Nam) : Prop := t.kind.size ≤ 9223372036854775807 ∧ I64 t.num ∧ t.text.size ≤ 9223372036854775807

def Tri.cells (t : Tri) : List Value := [.int .i64 t.a, .int .i64 t.b, .int .i64 t.c]
def Nam.cells (t : Nam) : List Value := [.string t.kind, .int .i64 t.num, .string t.text]

/-- Element number i of a row of elements of m cells each lies at off + i * m. -/
def LRow (w : World) (B m : Nat) (A : Option Addr) (xs : List (List Value)) : Prop :=
  xs = [] ∨ ∃ b o, A = some ⟨b, o, none⟩ ∧ b < B ∧ ∀ (i : Nat) ys, xs[i]? = some ys → ∀ (j : Nat) u, ys[j]? = some u → w.cell? ⟨b, o + (i * m + j), none⟩ = some u

def ints (l : List Int) : List (List Value) := l.map fun x => [.int .i64 x]
def tris (l : List Tri) : List (List Value) := l.map Tri.cells
def nams (l : List Nam) : List (List Value) := l.map Nam.cells

section
variable {w w' : World} {B B' m : Nat} {A : Option Addr} {xs : List (List Value)}
theorem LRow.keep (h : LRow w B m A xs) (hk : ∀ p : Addr, p.block < B → w'.cell? p = w.cell? p) : LRow w' B m A xs := by
  rcases h with h | ⟨b, o, e, hb, hc⟩
  · exact .inl h
  · exact .inr ⟨b, o, e, hb, fun i ys hi j u hj => (hk _ hb).trans (hc i ys hi j u hj)⟩
theorem LRow.more (h : LRow w B m A xs) (hB : B ≤ B') : LRow w B' m A xs := by
  rcases h with h | ⟨b, o, e, hb, hc⟩
  · exact .inl h
  · exact .inr ⟨b, o, e, by omega, hc⟩
theorem LRow.below (h : LRow w B m A xs) (hb : Below B w w') : LRow w' B m A xs := h.keep fun _ hp => hb.cell hp

theorem LRow.int {l : List Int} (h : LRow w B 1 A (ints l)) {k : Nat} (hk : k < l.length) :
    ∃ b o, A = some ⟨b, o, none⟩ ∧ b < B ∧ w.cell? ⟨b, o + k, none⟩ = some (.int .i64 l[k]) := by
  rcases h with h | ⟨b, o, e, hb, hc⟩
  · simp [ints] at h; subst h; simp at hk
  · refine ⟨b, o, e, hb, ?_⟩
    have := hc k [.int .i64 l[k]] (by simp [ints, hk]) 0 _ rfl
    simpa using this
theorem LRow.tri {l : List Tri} (h : LRow w B 3 A (tris l)) {k : Nat} (hk : k < l.length) :
    ∃ b o, A = some ⟨b, o, none⟩ ∧ b < B ∧ w.cell? ⟨b, o + k * 3, none⟩ = some (.int .i64 l[k].a) ∧ w.cell? ⟨b, o + k * 3 + 1, none⟩ = some (.int .i64 l[k].b) ∧ w.cell? ⟨b, o + k * 3 + 2, none⟩ = some (.int .i64 l[k].c) := by
  rcases h with h | ⟨b, o, e, hb, hc⟩
  · simp [tris] at h; subst h; simp at hk
  · refine ⟨b, o, e, hb, ?_, ?_, ?_⟩
    · simpa using hc k l[k].cells (by simp [tris, hk]) 0 _ rfl
    · simpa [Nat.add_assoc] using hc k l[k].cells (by simp [tris, hk]) 1 _ rfl
    · simpa [Nat.add_assoc] using hc k l[k].cells (by simp [tris, hk]) 2 _ rfl
theorem LRow.nam {l : List Nam} (h : LRow w B 3 A (nams l)) {k : Nat} (hk : k < l.length) :
    ∃ b o, A = some ⟨b, o, none⟩ ∧ b < B ∧ w.cell? ⟨b, o + k * 3, none⟩ = some (.string l[k].kind) ∧ w.cell? ⟨b, o + k * 3 + 1, none⟩ = some (.int .i64 l[k].num) ∧ w.cell? ⟨b, o + k * 3 + 2, none⟩ = some (.string l[k].text) := by
  rcases h with h | ⟨b, o, e, hb, hc⟩
  · simp [nams] at h; subst h; simp at hk
  · refine ⟨b, o, e, hb, ?_, ?_, ?_⟩
    · simpa using hc k l[k].cells (by simp [nams, hk]) 0 _ rfl
    · simpa [Nat.add_assoc] using hc k l[k].cells (by simp [nams, hk]) 1 _ rfl
    · simpa [Nat.add_assoc] using hc k l[k].cells (by simp [nams, hk]) 2 _ rfl
end

/-- where a circuit's lists lie, and what they could hold -/
structure Places where
  ai : Option Addr
  al : Option Addr
  ao : Option Addr
  ab : Option Addr
  ac : Option Addr
  aa : Option Addr
  an : Option Addr
  ki : Nat
  kl : Nat
  ko : Nat
  kb : Nat
  kc : Nat
  ka : Nat
  kn : Nat

def cirC (c : Cir) (s : Places) : Array Value := #[.int .i64 c.max, .slice s.ai c.ins.length s.ki, .slice s.al c.lats.length s.kl, .slice s.ao c.outs.length s.ko, .slice s.ab c.bads.length s.kb, .slice s.ac c.invs.length s.kc, .slice s.aa c.ands.length s.ka, .slice s.an c.names.length s.kn]
def cirV (c : Cir) (s : Places) : Value := .agg (cirC c s)

structure CLies (w : World) (B : Nat) (c : Cir) (s : Places) : Prop where
  ins : LRow w B 1 s.ai (ints c.ins)
  lats : LRow w B 3 s.al (tris c.lats)
  outs : LRow w B 1 s.ao (ints c.outs)
  bads : LRow w B 1 s.ab (ints c.bads)
  invs : LRow w B 1 s.ac (ints c.invs)
  ands : LRow w B 3 s.aa (tris c.ands)
  names : LRow w B 3 s.an (nams c.names)

theorem CLies.below {w w' : World} {B : Nat} {c : Cir} {s : Places} (h : CLies w B c s) (hb : Below B w w') : CLies w' B c s :=
  ⟨h.ins.below hb, h.lats.below hb, h.outs.below hb, h.bads.below hb, h.invs.below hb, h.ands.below hb, h.names.below hb⟩
theorem CLies.more {w : World} {B B' : Nat} {c : Cir} {s : Places} (h : CLies w B c s) (hb : B ≤ B') : CLies w B' c s :=
  ⟨h.ins.more hb, h.lats.more hb, h.outs.more hb, h.bads.more hb, h.invs.more hb, h.ands.more hb, h.names.more hb⟩

/-- each number fits; each list takes at most 2^47 bytes -/
structure CFits (c : Cir) (s : Places) : Prop where
  max : I64 c.max
  ins : ∀ x ∈ c.ins, I64 x
  outs : ∀ x ∈ c.outs, I64 x
  bads : ∀ x ∈ c.bads, I64 x
  invs : ∀ x ∈ c.invs, I64 x
  lats : ∀ x ∈ c.lats, x.fits
  ands : ∀ x ∈ c.ands, x.fits
  names : ∀ x ∈ c.names, x.fits
  li : c.ins.length * 8 ≤ 140737488355328
  lo : c.outs.length * 8 ≤ 140737488355328
  lb : c.bads.length * 8 ≤ 140737488355328
  lc : c.invs.length * 8 ≤ 140737488355328
  ll : c.lats.length * 24 ≤ 140737488355328
  la : c.ands.length * 24 ≤ 140737488355328
  ln : c.names.length * 40 ≤ 140737488355328
  ki : c.ins.length ≤ s.ki
  ko : c.outs.length ≤ s.ko
  kb : c.bads.length ≤ s.kb
  kc : c.invs.length ≤ s.kc
  kl : c.lats.length ≤ s.kl
  ka : c.ands.length ≤ s.ka
  kn : c.names.length ≤ s.kn

/-- is a number of the list a literal of variable v? -/
def hasVar (l : List Int) (v : Int) : Bool := l.any fun x => decide (0 ≤ x) && decide (x / 2 = v)
def hasTri (l : List Tri) (v : Int) : Bool := hasVar (l.map Tri.a) v
def kindOf (c : Cir) (v : Int) : ByteArray :=
  if v = 0 then ⟨#[48]⟩ else if hasVar c.ins v = true then ⟨#[105]⟩ else if hasTri c.lats v = true then ⟨#[108]⟩ else if hasTri c.ands v = true then ⟨#[97]⟩ else ⟨#[]⟩

theorem hasVar_take (l : List Int) (v : Int) (k : Nat) (hk : k < l.length) : hasVar (l.take (k + 1)) v = (hasVar (l.take k) v || (decide (0 ≤ l[k]) && decide (l[k] / 2 = v))) := by
  unfold hasVar; rw [List.take_succ_eq_append_getElem hk, List.any_append]; simp
theorem hasTri_take (l : List Tri) (v : Int) (k : Nat) (hk : k < l.length) : hasTri (l.take (k + 1)) v = (hasTri (l.take k) v || (decide (0 ≤ l[k].a) && decide (l[k].a / 2 = v))) := by
  unfold hasTri hasVar; rw [List.take_succ_eq_append_getElem hk, List.map_append, List.any_append]; simp
theorem hasVar_some (l : List Int) (v : Int) (k : Nat) (hk : k < l.length) (h0 : 0 ≤ l[k]) (h1 : l[k] / 2 = v) : hasVar l v = true := by
  unfold hasVar; rw [List.any_eq_true]; exact ⟨l[k], List.getElem_mem _, by simp [h0, h1]⟩
theorem hasTri_some (l : List Tri) (v : Int) (k : Nat) (hk : k < l.length) (h0 : 0 ≤ l[k].a) (h1 : l[k].a / 2 = v) : hasTri l v = true := by
  unfold hasTri; exact hasVar_some _ v k (by simpa using hk) (by simpa using h0) (by simpa using h1)
end Go.Proofs.Ytbgcoeejmnejdaa.Circ
namespace Go.Proofs.Ytbgcoeejmnejdaa.Cla
open Circ

/-- Go's -x: the least int is its own opposite -/
def negW (x : Int) : Int := if x = -9223372036854775808 then x else -x
/-- a literal's variable, as the pages' own function answers it -/
def absW (x : Int) : Int := if negW x < x then x else negW x
/-- in order: by their variables, of both the one below 0 first -/
def lt (x y : Int) : Prop := absW x < absW y ∨ (absW x = absW y ∧ x < y)
instance (x y : Int) : Decidable (lt x y) := by unfold lt; infer_instance
/-- is a literal true in a model? -/
def isM (m : ByteArray) (x : Int) : Bool := decide (1 ≤ absW x) && (decide (absW x ≤ (m.size : Int)) && (decide ((m.data.toList.getD (absW x - 1).toNat 0).toNat = 49) == decide (0 < x)))
def oneM (m : ByteArray) (l : List Int) : Bool := l.any (isM m)
theorem one_iff (m : ByteArray) (l : List Int) : oneM m l = true ↔ ∃ x, x ∈ l ∧ isM m x = true := by
  unfold oneM
  rw [List.any_eq_true]
/-- of a variable of the model one literal is true, not both -/
theorem is_both {m : ByteArray} {v : Int} (h0 : 1 ≤ v) (h1 : v ≤ (m.size : Int)) (hb : v ≤ 9223372036854775807) : isM m (-v) = !isM m v := by
  have a1 : absW v = v := by unfold absW negW; split <;> split <;> omega
  have a2 : absW (-v) = v := by unfold absW negW; split <;> split <;> omega
  unfold isM
  rw [a1, a2, decide_eq_true h0, decide_eq_true h1, decide_eq_true (show 0 < v from by omega), decide_eq_false (show ¬ 0 < -v from by omega)]
  cases decide ((m.data.toList.getD (v - 1).toNat 0).toNat = 49) <;> rfl
end Go.Proofs.Ytbgcoeejmnejdaa.Cla
namespace Go.Proofs.Ytbgcoeejmnejdaa.For
open Circ Cla

/-- a literal of one of so many variables -/
def litOk (vars x : Int) : Bool := decide (1 ≤ absW x) && decide (absW x ≤ vars)
def chk (vars : Int) (l : List Int) : Int := if 1024 < l.length then 5 else if l.all (litOk vars) then 0 else 4
def isB (c : UInt8) : Bool := decide (c.toNat = 48) || decide (c.toNat = 49)
def trueM (vars : Int) (L : List (List Int)) (m : ByteArray) : Bool :=
  m.data.toList.all isB && (L.all (oneM m) && decide ((m.size : Int) = vars))
/-- a literal's value among those that are set -/
def valM (set : List Int) (x : Int) : Int := if set.contains x then 1 else if set.contains (negW x) then -1 else 0
/-- the one literal that a clause leaves -/
def leftGo (set : List Int) : List Int → Int → Bool → Int × Bool
  | [], f, many => if many then (0, true) else (f, f != 0)
  | x :: r, f, many => if valM set x = 1 then (0, true) else if valM set x = 0 then leftGo set r x (many || (f != 0 && f != x)) else leftGo set r f many
def leftM (l set : List Int) : Int × Bool := leftGo set l 0 false
/-- once through the clauses -/
def passM : List (List Int) → List Int → Option (List Int)
  | [], set => some set
  | l :: L, set => if (leftM l set).2 then passM L (if (leftM l set).1 = 0 then set else set ++ [(leftM l set).1]) else none
def runM (L : List (List Int)) : Nat → List Int → Option (List Int)
  | 0, set => some set
  | n + 1, set => match passM L set with
    | none => none
    | some s => if s.length = set.length then some s else runM L n s
def setM : List Int → List Int → Option (List Int)
  | [], s => some s
  | x :: l, s => if valM s x < 0 then none else if valM s x = 0 then setM l (s ++ [x]) else setM l s
/-- all bits of so many variables, in order -/
def bitsM : Nat → List (List UInt8)
  | 0 => [[]]
  | n + 1 => (bitsM n).flatMap fun s => [s ++ [48], s ++ [49]]
theorem lit_iff (vars x : Int) : litOk vars x = true ↔ 1 ≤ absW x ∧ absW x ≤ vars := by
  unfold litOk; simp
end Go.Proofs.Ytbgcoeejmnejdaa.For
