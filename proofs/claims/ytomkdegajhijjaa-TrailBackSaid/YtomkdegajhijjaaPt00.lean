/- Words for circuits in memory: lists of numbers, of triples, of names; no program is named here. Clauses of numbers: in order, subsumed, resolved; no program is named here, no condition. -/
import Derived.Below
import Derived.Laws.OwnMore
import Derived.Lib.Hide
namespace Go.Proofs.Ytomkdegajhijjaa.Circ
open Go.RowKit

structure Tri where
  a : Int
  b : Int
  c : Int
structure Nam where
  kind : ByteArray
  num : Int
  text : ByteArray
structure Cir where
  max : Int
  ins : List Int
  lats : List Tri
  outs : List Int
  bads : List Int
  invs : List Int
  ands : List Tri
  names : List Nam

def I64 (x : Int) : Prop := -9223372036854775808 ≤ x ∧ x ≤ 9223372036854775807
def Tri.fits (t : Tri) : Prop := I64 t.a ∧ I64 t.b ∧ I64 t.c
def Nam.fits (t : Nam) : Prop := t.kind.size ≤ 9223372036854775807 ∧ I64 t.num ∧ t.text.size ≤ 9223372036854775807

def Tri.cells (t : Tri) : List Value := [.int .i64 t.a, .int .i64 t.b, .int .i64 t.c]
def Nam.cells (t : Nam) : List Value := [.string t.kind, .int .i64 t.num, .string t.text]

/-- Element number i of a row of elements of m cells each lies at off + i * m. -/
def LRow (w : World) (B m : Nat) (A : Option Addr) (xs : List (List Value)) : Prop :=
  xs = [] ∨ ∃ b o, A = some ⟨b, o, none⟩ ∧ b < B ∧ ∀ (i : Nat) ys, xs[i]? = some ys → ∀ (j : Nat) u, ys[j]? = some u → w.cell? ⟨b, o + (i * m + j), none⟩ = some u

def ints (l : List Int) : List (List Value) := l.map fun x => [.int .i64 x]
def tris (l : List Tri) : List (List Value) := l.map Tri.cells
def nams (l : List Nam) : List (List Value) := l.map Nam.cells

section
variable {w w' : World} {B B' m : Nat} {A : Option Addr} {xs : List (List Value)}
theorem LRow.keep (h : LRow w B m A xs) (hk : ∀ p : Addr, p.block < B → w'.cell? p = w.cell? p) : LRow w' B m A xs := by
  rcases h with h | ⟨b, o, e, hb, hc⟩
  · exact .inl h
  · exact .inr ⟨b, o, e, hb, fun i ys hi j u hj => (hk _ hb).trans (hc i ys hi j u hj)⟩
theorem LRow.more (h : LRow w B m A xs) (hB : B ≤ B') : LRow w B' m A xs := by
  rcases h with h | ⟨b, o, e, hb, hc⟩
  · exact .inl h
  · exact .inr ⟨b, o, e, by omega, hc⟩
theorem LRow.below (h : LRow w B m A xs) (hb : Below B w w') : LRow w' B m A xs := h.keep fun _ hp => hb.cell hp

theorem LRow.int {l : List Int} (h : LRow w B 1 A (ints l)) {k : Nat} (hk : k < l.length) :
    ∃ b o, A = some ⟨b, o, none⟩ ∧ b < B ∧ w.cell? ⟨b, o + k, none⟩ = some (.int .i64 l[k]) := by
  rcases h with h | ⟨b, o, e, hb, hc⟩
  · simp [ints] at h; subst h; simp at hk
  · refine ⟨b, o, e, hb, ?_⟩
    have := hc k [.int .i64 l[k]] (by simp [ints, hk]) 0 _ rfl
    simpa using this
theorem LRow.tri {l : List Tri} (h : LRow w B 3 A (tris l)) {k : Nat} (hk : k < l.length) :
    ∃ b o, A = some ⟨b, o, none⟩ ∧ b < B ∧ w.cell? ⟨b, o + k * 3, none⟩ = some (.int .i64 l[k].a) ∧ w.cell? ⟨b, o + k * 3 + 1, none⟩ = some (.int .i64 l[k].b) ∧ w.cell? ⟨b, o + k * 3 + 2, none⟩ = some (.int .i64 l[k].c) := by
  rcases h with h | ⟨b, o, e, hb, hc⟩
  · simp [tris] at h; subst h; simp at hk
  · refine ⟨b, o, e, hb, ?_, ?_, ?_⟩
    · simpa using hc k l[k].cells (by simp [tris, hk]) 0 _ rfl
    · simpa [Nat.add_assoc] using hc k l[k].cells (by simp [tris, hk]) 1 _ rfl
    · simpa [Nat.add_assoc] using hc k l[k].cells (by simp [tris, hk]) 2 _ rfl
end

/-- where a circuit's lists lie, and what they could hold -/
structure Places where
  ai : Option Addr
  al : Option Addr
  ao : Option Addr
  ab : Option Addr
  ac : Option Addr
  aa : Option Addr
  an : Option Addr
  ki : Nat
  kl : Nat
  ko : Nat
  kb : Nat
  kc : Nat
  ka : Nat
  kn : Nat

def cirC (c : Cir) (s : Places) : Array Value := #[.int .i64 c.max, .slice s.ai c.ins.length s.ki, .slice s.al c.lats.length s.kl, .slice s.ao c.outs.length s.ko, .slice s.ab c.bads.length s.kb, .slice s.ac c.invs.length s.kc, .slice s.aa c.ands.length s.ka, .slice s.an c.names.length s.kn]
structure CLies (w : World) (B : Nat) (c : Cir) (s : Places) : Prop where
  ins : LRow w B 1 s.ai (ints c.ins)
  lats : LRow w B 3 s.al (tris c.lats)
  outs : LRow w B 1 s.ao (ints c.outs)
  bads : LRow w B 1 s.ab (ints c.bads)
  invs : LRow w B 1 s.ac (ints c.invs)
  ands : LRow w B 3 s.aa (tris c.ands)
  names : LRow w B 3 s.an (nams c.names)

theorem CLies.below {w w' : World} {B : Nat} {c : Cir} {s : Places} (h : CLies w B c s) (hb : Below B w w') : CLies w' B c s :=
  ⟨h.ins.below hb, h.lats.below hb, h.outs.below hb, h.bads.below hb, h.invs.below hb, h.ands.below hb, h.names.below hb⟩
theorem CLies.more {w : World} {B B' : Nat} {c : Cir} {s : Places} (h : CLies w B c s) (hb : B ≤ B') : CLies w B' c s :=
  ⟨h.ins.more hb, h.lats.more hb, h.outs.more hb, h.bads.more hb, h.invs.more hb, h.ands.more hb, h.names.more hb⟩

/-- each number fits; each list takes at most 2^47 bytes -/
structure CFits (c : Cir) (s : Places) : Prop where
  max : I64 c.max
  ins : ∀ x ∈ c.ins, I64 x
  outs : ∀ x ∈ c.outs, I64 x
  bads : ∀ x ∈ c.bads, I64 x
  invs : ∀ x ∈ c.invs, I64 x
  lats : ∀ x ∈ c.lats, x.fits
  ands : ∀ x ∈ c.ands, x.fits
  names : ∀ x ∈ c.names, x.fits
  li : c.ins.length * 8 ≤ 140737488355328
  lo : c.outs.length * 8 ≤ 140737488355328
  lb : c.bads.length * 8 ≤ 140737488355328
  lc : c.invs.length * 8 ≤ 140737488355328
  ll : c.lats.length * 24 ≤ 140737488355328
  la : c.ands.length * 24 ≤ 140737488355328
  ln : c.names.length * 40 ≤ 140737488355328
  ki : c.ins.length ≤ s.ki
  ko : c.outs.length ≤ s.ko
  kb : c.bads.length ≤ s.kb
  kc : c.invs.length ≤ s.kc
  kl : c.lats.length ≤ s.kl
  ka : c.ands.length ≤ s.ka
  kn : c.names.length ≤ s.kn

end Go.Proofs.Ytomkdegajhijjaa.Circ
namespace Go.Proofs.Ytomkdegajhijjaa.Cla
open Circ

/-- Go's -x: the least int is its own opposite -/
def negW (x : Int) : Int := if x = -9223372036854775808 then x else -x
/-- a literal's variable, as the pages' own function answers it -/
def absW (x : Int) : Int := if negW x < x then x else negW x
/-- in order: by their variables, of both the one below 0 first -/
def lt (x y : Int) : Prop := absW x < absW y ∨ (absW x = absW y ∧ x < y)
instance (x y : Int) : Decidable (lt x y) := by unfold lt; infer_instance
end Go.Proofs.Ytomkdegajhijjaa.Cla
