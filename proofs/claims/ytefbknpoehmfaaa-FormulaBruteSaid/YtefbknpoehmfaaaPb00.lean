/- Words for circuits in memory: lists of numbers, of triples, of names; no program is named here. Clauses of numbers: in order, subsumed, resolved; no program is named here, no condition. Formulas: which may be, models, what follows by units; no program is named here, no condition. -/
import Derived.Below
import Derived.Laws.OwnMore
import Derived.Lib.Hide
namespace Go.Proofs.Ytefbknpoehmfaaa.Circ
open Go.RowKit

structure Tri where
  a : Int
  b : Int
  c : Int
structure Nam where
  kind : ByteArray
  num : Int
  text : ByteArray
structure Cir where
  max : Int
  ins : List Int
  lats : List Tri
  outs : List Int
  bads : List Int
  invs : List Int
  ands : List Tri
  names : List Nam

def I64 (x : Int) : Prop := -9223372036854775808 ≤ x ∧ x ≤ 9223372036854775807
def Tri.fits (t : Tri) : Prop := I64 t.a ∧ I64 t.b ∧ I64 t.c
def Nam.fits (t : Nam) : Prop := t.kind.size ≤ 9223372036854775807 ∧ I64 t.num ∧ t.text.size ≤ 9223372036854775807

def Tri.cells (t : Tri) : List Value := [.int .i64 t.a, .int .i64 t.b, .int .i64 t.c]
def Nam.cells (t : Nam) : List Value := [.string t.kind, .int .i64 t.num, .string t.text]

/-- Element number i of a row of elements of m cells each lies at off + i * m. -/
def LRow (w : World) (B m : Nat) (A : Option Addr) (xs : List (List Value)) : Prop :=
  xs = [] ∨ ∃ b o, A = some ⟨b, o, none⟩ ∧ b < B ∧ ∀ (i : Nat) ys, xs[i]? = some ys → ∀ (j : Nat) u, ys[j]? = some u → w.cell? ⟨b, o + (i * m + j), none⟩ = some u

def ints (l : List Int) : List (List Value) := l.map fun x => [.int .i64 x]
def tris (l : List Tri) : List (List Value) := l.map Tri.cells
def nams (l : List Nam) : List (List Value) := l.map Nam.cells

section
variable {w w' : World} {B B' m : Nat} {A : Option Addr} {xs : List (List Value)}
theorem LRow.keep (h : LRow w B m A xs) (hk : ∀ p : Addr, p.block < B → w'.cell? p = w.cell? p) : LRow w' B m A xs := by
  rcases h with h | ⟨b, o, e, hb, hc⟩
  · exact .inl h
  · exact .inr ⟨b, o, e, hb, fun i ys hi j u hj => (hk _ hb).trans (hc i ys hi j u hj)⟩
theorem LRow.more (h : LRow w B m A xs) (hB : B ≤ B') : LRow w B' m A xs := by
  rcases h with h | ⟨b, o, e, hb, hc⟩
  · exact .inl h
  · exact .inr ⟨b, o, e, by omega, hc⟩
theorem LRow.below (h : LRow w B m A xs) (hb : Below B w w') : LRow w' B m A xs := h.keep fun _ hp => hb.cell hp

theorem LRow.int {l : List Int} (h : LRow w B 1 A (ints l)) {k : Nat} (hk : k < l.length) :
    ∃ b o, A = some ⟨b, o, none⟩ ∧ b < B ∧ w.cell? ⟨b, o + k, none⟩ = some (.int .i64 l[k]) := by
  rcases h with h | ⟨b, o, e, hb, hc⟩
  · simp [ints] at h; subst h; simp at hk
  · refine ⟨b, o, e, hb, ?_⟩
    have := hc k [.int .i64 l[k]] (by simp [ints, hk]) 0 _ rfl
    simpa using this
theorem LRow.tri {l : List Tri} (h : LRow w B 3 A (tris l)) {k : Nat} (hk : k < l.length) :
    ∃ b o, A = some ⟨b, o, none⟩ ∧ b < B ∧ w.cell? ⟨b, o + k * 3, none⟩ = some (.int .i64 l[k].a) ∧ w.cell? ⟨b, o + k * 3 + 1, none⟩ = some (.int .i64 l[k].b) ∧ w.cell? ⟨b, o + k * 3 + 2, none⟩ = some (.int .i64 l[k].c) := by
  rcases h with h | ⟨b, o, e, hb, hc⟩
  · simp [tris] at h; subst h; simp at hk
  · refine ⟨b, o, e, hb, ?_, ?_, ?_⟩
    · simpa using hc k l[k].cells (by simp [tris, hk]) 0 _ rfl
    · simpa [Nat.add_assoc] using hc k l[k].cells (by simp [tris, hk]) 1 _ rfl
    · simpa [Nat.add_assoc] using hc k l[k].cells (by simp [tris, hk]) 2 _ rfl
end

/-- where a circuit's lists lie, and what they could hold -/
structure Places where
  ai : Option Addr
  al : Option Addr
  ao : Option Addr
  ab : Option Addr
  ac : Option Addr
  aa : Option Addr
  an : Option Addr
  ki : Nat
  kl : Nat
  ko : Nat
  kb : Nat
  kc : Nat
  ka : Nat
  kn : Nat

def cirC (c : Cir) (s : Places) : Array Value := #[.int .i64 c.max, .slice s.ai c.ins.length s.ki, .slice s.al c.lats.length s.kl, .slice s.ao c.outs.length s.ko, .slice s.ab c.bads.length s.kb, .slice s.ac c.invs.length s.kc, .slice s.aa c.ands.length s.ka, .slice s.an c.names.length s.kn]
structure CLies (w : World) (B : Nat) (c : Cir) (s : Places) : Prop where
  ins : LRow w B 1 s.ai (ints c.ins)
  lats : LRow w B 3 s.al (tris c.lats)
  outs : LRow w B 1 s.ao (ints c.outs)
  bads : LRow w B 1 s.ab (ints c.bads)
  invs : LRow w B 1 s.ac (ints c.invs)
  ands : LRow w B 3 s.aa (tris c.ands)
  names : LRow w B 3 s.an (nams c.names)

theorem CLies.below {w w' : World} {B : Nat} {c : Cir} {s : Places} (h : CLies w B c s) (hb : Below B w w') : CLies w' B c s :=
  ⟨h.ins.below hb, h.lats.below hb, h.outs.below hb, h.bads.below hb, h.invs.below hb, h.ands.below hb, h.names.below hb⟩
theorem CLies.more {w : World} {B B' : Nat} {c : Cir} {s : Places} (h : CLies w B c s) (hb : B ≤ B') : CLies w B' c s :=
  ⟨h.ins.more hb, h.lats.more hb, h.outs.more hb, h.bads.more hb, h.invs.more hb, h.ands.more hb, h.names.more hb⟩

/-- each number fits; each list takes at most 2^47 bytes -/
structure CFits (c : Cir) (s : Places) : Prop where
  max : I64 c.max
  ins : ∀ x ∈ c.ins, I64 x
  outs : ∀ x ∈ c.outs, I64 x
  bads : ∀ x ∈ c.bads, I64 x
  invs : ∀ x ∈ c.invs, I64 x
  lats : ∀ x ∈ c.lats, x.fits
  ands : ∀ x ∈ c.ands, x.fits
  names : ∀ x ∈ c.names, x.fits
  li : c.ins.length * 8 ≤ 140737488355328
  lo : c.outs.length * 8 ≤ 140737488355328
  lb : c.bads.length * 8 ≤ 140737488355328
  lc : c.invs.length * 8 ≤ 140737488355328
  ll : c.lats.length * 24 ≤ 140737488355328
  la : c.ands.length * 24 ≤ 140737488355328
  ln : c.names.length * 40 ≤ 140737488355328
  ki : c.ins.length ≤ s.ki
  ko : c.outs.length ≤ s.ko
  kb : c.bads.length ≤ s.kb
  kc : c.invs.length ≤ s.kc
  kl : c.lats.length ≤ s.kl
  ka : c.ands.length ≤ s.ka
  kn : c.names.length ≤ s.kn

end Go.Proofs.Ytefbknpoehmfaaa.Circ
namespace Go.Proofs.Ytefbknpoehmfaaa.Cla
open Circ

/-- Go's -x: the least int is its own opposite -/
def negW (x : Int) : Int := if x = -9223372036854775808 then x else -x
/-- a literal's variable, as the pages' own function answers it -/
def absW (x : Int) : Int := if negW x < x then x else negW x
/-- in order: by their variables, of both the one below 0 first -/
def lt (x y : Int) : Prop := absW x < absW y ∨ (absW x = absW y ∧ x < y)
instance (x y : Int) : Decidable (lt x y) := by unfold lt; infer_instance
theorem lt_irrefl (x : Int) : ¬ lt x x := by rintro (h | h) <;> omega
theorem lt_trans {x y z : Int} (h : lt x y) (k : lt y z) : lt x z := by
  unfold lt at *; omega
theorem lt_total (x y : Int) : lt x y ∨ x = y ∨ lt y x := by
  unfold lt; omega
/-- a literal put into clauses that are in order -/
def insM (x : Int) : List Int → List Int
  | [] => [x]
  | y :: r => if y = x then y :: r else if lt x y then x :: y :: r else y :: insM x r
/-- a clause in order -/
def normM (a : List Int) : List Int := a.foldl (fun o x => if x = 0 then o else insM x o) []
theorem mem_ins (x z : Int) : ∀ l, z ∈ insM x l ↔ z = x ∨ z ∈ l
  | [] => by unfold insM; simp
  | y :: r => by
    unfold insM
    split
    · rename_i h; subst h; simp
    · split
      · simp
      · rw [List.mem_cons, mem_ins x z r, List.mem_cons]
        constructor
        · rintro (h | h | h)
          · exact .inr (.inl h)
          · exact .inl h
          · exact .inr (.inr h)
        · rintro (h | h | h)
          · exact .inr (.inl h)
          · exact .inl h
          · exact .inr (.inr h)
theorem sorted_ins (x : Int) : ∀ l : List Int, l.Pairwise lt → (insM x l).Pairwise lt
  | [], _ => by unfold insM; simp
  | y :: r, h => by
    obtain ⟨h1, h2⟩ := List.pairwise_cons.1 h
    unfold insM
    split
    · exact h
    · split
      · rename_i hx
        refine List.pairwise_cons.2 ⟨fun z hz => ?_, h⟩
        rcases List.mem_cons.1 hz with rfl | hz
        · exact hx
        · exact lt_trans hx (h1 z hz)
      · rename_i hne hx
        refine List.pairwise_cons.2 ⟨fun z hz => ?_, sorted_ins x r h2⟩
        rcases (mem_ins x z r).1 hz with rfl | hz
        · rcases lt_total y z with h | h | h
          · exact h
          · exact absurd h hne
          · exact absurd h hx
        · exact h1 z hz
theorem fold_mem (a : List Int) : ∀ (o : List Int) (z : Int), z ∈ a.foldl (fun o x => if x = 0 then o else insM x o) o ↔ z ∈ o ∨ (z ∈ a ∧ z ≠ 0) := by
  induction a with
  | nil => intro o z; simp
  | cons x a ih =>
    intro o z
    rw [List.foldl_cons, ih]
    by_cases h : x = 0
    · rw [if_pos h, List.mem_cons]
      constructor
      · rintro (k | k)
        · exact .inl k
        · exact .inr ⟨.inr k.1, k.2⟩
      · rintro (k | ⟨k | k, k2⟩)
        · exact .inl k
        · exact absurd (k.trans h) k2
        · exact .inr ⟨k, k2⟩
    · rw [if_neg h, mem_ins, List.mem_cons]
      constructor
      · rintro ((k | k) | k)
        · exact .inr ⟨.inl k, by rw [k]; exact h⟩
        · exact .inl k
        · exact .inr ⟨.inr k.1, k.2⟩
      · rintro (k | ⟨k | k, k2⟩)
        · exact .inl (.inr k)
        · exact .inl (.inl k)
        · exact .inr ⟨k, k2⟩
theorem fold_sorted (a : List Int) : ∀ (o : List Int), o.Pairwise lt → (a.foldl (fun o x => if x = 0 then o else insM x o) o).Pairwise lt := by
  induction a with
  | nil => intro o h; exact h
  | cons x a ih =>
    intro o h
    rw [List.foldl_cons]
    refine ih _ ?_
    split
    · exact h
    · exact sorted_ins x o h
theorem mem_norm (a : List Int) (z : Int) : z ∈ normM a ↔ z ∈ a ∧ z ≠ 0 := by
  unfold normM
  rw [fold_mem]; simp
theorem sorted_norm (a : List Int) : (normM a).Pairwise lt := fold_sorted a [] List.Pairwise.nil
theorem sorted_unique : ∀ (l m : List Int), l.Pairwise lt → m.Pairwise lt → (∀ z, z ∈ l ↔ z ∈ m) → l = m
  | [], [], _, _, _ => rfl
  | [], y :: m, _, _, h => absurd ((h y).2 List.mem_cons_self) List.not_mem_nil
  | x :: l, [], _, _, h => absurd ((h x).1 List.mem_cons_self) List.not_mem_nil
  | x :: l, y :: m, hl, hm, h => by
    obtain ⟨l1, l2⟩ := List.pairwise_cons.1 hl
    obtain ⟨m1, m2⟩ := List.pairwise_cons.1 hm
    have e : x = y := by
      rcases List.mem_cons.1 ((h x).1 List.mem_cons_self) with e | hx
      · exact e
      · rcases List.mem_cons.1 ((h y).2 List.mem_cons_self) with e | hy
        · exact e.symm
        · exact absurd (lt_trans (m1 x hx) (l1 y hy)) (lt_irrefl _)
    subst e
    rw [sorted_unique l m l2 m2 (fun z => ?_)]
    constructor
    · intro hz
      rcases List.mem_cons.1 ((h z).1 (List.mem_cons_of_mem _ hz)) with rfl | hz'
      · exact absurd (l1 _ hz) (lt_irrefl _)
      · exact hz'
    · intro hz
      rcases List.mem_cons.1 ((h z).2 (List.mem_cons_of_mem _ hz)) with rfl | hz'
      · exact absurd (m1 _ hz) (lt_irrefl _)
      · exact hz'
/-- is a literal true in a model? -/
def isM (m : ByteArray) (x : Int) : Bool := decide (1 ≤ absW x) && (decide (absW x ≤ (m.size : Int)) && (decide ((m.data.toList.getD (absW x - 1).toNat 0).toNat = 49) == decide (0 < x)))
def oneM (m : ByteArray) (l : List Int) : Bool := l.any (isM m)
theorem one_iff (m : ByteArray) (l : List Int) : oneM m l = true ↔ ∃ x, x ∈ l ∧ isM m x = true := by
  unfold oneM
  rw [List.any_eq_true]
/-- is each literal of a one of b's? -/
def subsM (a b : List Int) : Bool := a.all fun x => b.contains x
end Go.Proofs.Ytefbknpoehmfaaa.Cla
namespace Go.Proofs.Ytefbknpoehmfaaa.For
open Circ Cla

/-- a literal of one of so many variables -/
def litOk (vars x : Int) : Bool := decide (1 ≤ absW x) && decide (absW x ≤ vars)
def chk (vars : Int) (l : List Int) : Int := if 1024 < l.length then 5 else if l.all (litOk vars) then 0 else 4
def formM (vars : Int) (L : List (List Int)) : Int :=
  if vars < 0 then 9 else if 262144 < vars then 9 else if 1048576 < L.length then 9 else if L.all (fun l => chk vars l == 0) then 0 else 9
def isB (c : UInt8) : Bool := decide (c.toNat = 48) || decide (c.toNat = 49)
def trueM (vars : Int) (L : List (List Int)) (m : ByteArray) : Bool :=
  m.data.toList.all isB && (L.all (oneM m) && decide ((m.size : Int) = vars))
/-- a literal's value among those that are set -/
def valM (set : List Int) (x : Int) : Int := if set.contains x then 1 else if set.contains (negW x) then -1 else 0
/-- the one literal that a clause leaves -/
def leftGo (set : List Int) : List Int → Int → Bool → Int × Bool
  | [], f, many => if many then (0, true) else (f, f != 0)
  | x :: r, f, many => if valM set x = 1 then (0, true) else if valM set x = 0 then leftGo set r x (many || (f != 0 && f != x)) else leftGo set r f many
def leftM (l set : List Int) : Int × Bool := leftGo set l 0 false
/-- once through the clauses -/
def passM : List (List Int) → List Int → Option (List Int)
  | [], set => some set
  | l :: L, set => if (leftM l set).2 then passM L (if (leftM l set).1 = 0 then set else set ++ [(leftM l set).1]) else none
def runM (L : List (List Int)) : Nat → List Int → Option (List Int)
  | 0, set => some set
  | n + 1, set => match passM L set with
    | none => none
    | some s => if s.length = set.length then some s else runM L n s
def setM : List Int → List Int → Option (List Int)
  | [], s => some s
  | x :: l, s => if valM s x < 0 then none else if valM s x = 0 then setM l (s ++ [x]) else setM l s
def followM (vars : Int) (L : List (List Int)) (l : List Int) : Option (List Int) := (setM l []).bind (runM L (vars.toNat + 1))
/-- what follows by units: the literals, whether they may be, the error -/
def unitsM (vars : Int) (L : List (List Int)) (l : List Int) : List Int × Bool × Int :=
  if formM vars L ≠ 0 then ([], false, 9) else if l.all (litOk vars) then
    match followM vars L l with
    | none => ([], false, 0)
    | some s => (normM s, true, 0)
  else ([], false, 4)
/-- all bits of so many variables, in order -/
def bitsM : Nat → List (List UInt8)
  | 0 => [[]]
  | n + 1 => (bitsM n).flatMap fun s => [s ++ [48], s ++ [49]]
def modelsM (vars : Int) (L : List (List Int)) (as : List Int) : List ByteArray :=
  ((bitsM vars.toNat).map fun s => (⟨s.toArray⟩ : ByteArray)).filter fun s => trueM vars L s && as.all (isM s)

theorem lit_iff (vars x : Int) : litOk vars x = true ↔ 1 ≤ absW x ∧ absW x ≤ vars := by
  unfold litOk; simp
theorem val_cases (set : List Int) (x : Int) : valM set x = 1 ∨ valM set x = 0 ∨ valM set x = -1 := by
  unfold valM
  split
  · exact .inl rfl
  · split
    · exact .inr (.inr rfl)
    · exact .inr (.inl rfl)
theorem mem_models {vars : Int} {L : List (List Int)} {as : List Int} {m : ByteArray} (h : m ∈ modelsM vars L as) : trueM vars L m = true ∧ as.all (isM m) = true := by
  have := (List.mem_filter.1 h).2
  rwa [Bool.and_eq_true] at this
end Go.Proofs.Ytefbknpoehmfaaa.For
