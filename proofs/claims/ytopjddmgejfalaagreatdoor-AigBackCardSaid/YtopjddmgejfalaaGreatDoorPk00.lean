/- Words for circuits in memory: lists of numbers, of triples, of names; no program is named here. Plain lemmas on decimal numerals and on reading them; no condition. Plain lemmas on cutting texts at a byte, and joining them; no condition. -/
import Derived.Below
import Derived.Laws.OwnMore
import Derived.Lib.Hide
import Derived.Lib.ItoaMem
import Derived.Lib.Strings
import Derived.Lib.IndexMore
import Derived.Lib.IndexBytes
namespace Go.Proofs.YtopjddmgejfalaaGreatDoor.Circ
open Go.RowKit

structure Tri where
  a : Int
  b : Int
  c : Int
structure Nam where
  kind : ByteArray
  num : Int
  text : ByteArray
structure Cir where
  max : Int
  ins : List Int
  lats : List Tri
  outs : List Int
  bads : List Int
  invs : List Int
  ands : List Tri
  names : List Nam

def I64 (x : Int) : Prop := -9223372036854775808 ≤ x ∧ x ≤ 9223372036854775807
def Tri.fits (t : Tri) : Prop := I64 t.a ∧ I64 t.b ∧ I64 t.c
def Nam.fits (t : Nam) : Prop := t.kind.size ≤ 9223372036854775807 ∧ I64 t.num ∧ t.text.size ≤ 9223372036854775807

def Tri.cells (t : Tri) : List Value := [.int .i64 t.a, .int .i64 t.b, .int .i64 t.c]
def Nam.cells (t : Nam) : List Value := [.string t.kind, .int .i64 t.num, .string t.text]

/-- Element number i of a row of elements of m cells each lies at off + i * m. -/
def LRow (w : World) (B m : Nat) (A : Option Addr) (xs : List (List Value)) : Prop :=
  xs = [] ∨ ∃ b o, A = some ⟨b, o, none⟩ ∧ b < B ∧ ∀ (i : Nat) ys, xs[i]? = some ys → ∀ (j : Nat) u, ys[j]? = some u → w.cell? ⟨b, o + (i * m + j), none⟩ = some u

def ints (l : List Int) : List (List Value) := l.map fun x => [.int .i64 x]
def tris (l : List Tri) : List (List Value) := l.map Tri.cells
def nams (l : List Nam) : List (List Value) := l.map Nam.cells

section
variable {w w' : World} {B B' m : Nat} {A : Option Addr} {xs : List (List Value)}
theorem LRow.keep (h : LRow w B m A xs) (hk : ∀ p : Addr, p.block < B → w'.cell? p = w.cell? p) : LRow w' B m A xs := by
  rcases h with h | ⟨b, o, e, hb, hc⟩
  · exact .inl h
  · exact .inr ⟨b, o, e, hb, fun i ys hi j u hj => (hk _ hb).trans (hc i ys hi j u hj)⟩
theorem LRow.more (h : LRow w B m A xs) (hB : B ≤ B') : LRow w B' m A xs := by
  rcases h with h | ⟨b, o, e, hb, hc⟩
  · exact .inl h
  · exact .inr ⟨b, o, e, by omega, hc⟩
theorem LRow.below (h : LRow w B m A xs) (hb : Below B w w') : LRow w' B m A xs := h.keep fun _ hp => hb.cell hp

theorem LRow.int {l : List Int} (h : LRow w B 1 A (ints l)) {k : Nat} (hk : k < l.length) :
    ∃ b o, A = some ⟨b, o, none⟩ ∧ b < B ∧ w.cell? ⟨b, o + k, none⟩ = some (.int .i64 l[k]) := by
  rcases h with h | ⟨b, o, e, hb, hc⟩
  · simp [ints] at h; subst h; simp at hk
  · refine ⟨b, o, e, hb, ?_⟩
    have := hc k [.int .i64 l[k]] (by simp [ints, hk]) 0 _ rfl
    simpa using this
theorem LRow.tri {l : List Tri} (h : LRow w B 3 A (tris l)) {k : Nat} (hk : k < l.length) :
    ∃ b o, A = some ⟨b, o, none⟩ ∧ b < B ∧ w.cell? ⟨b, o + k * 3, none⟩ = some (.int .i64 l[k].a) ∧ w.cell? ⟨b, o + k * 3 + 1, none⟩ = some (.int .i64 l[k].b) ∧ w.cell? ⟨b, o + k * 3 + 2, none⟩ = some (.int .i64 l[k].c) := by
  rcases h with h | ⟨b, o, e, hb, hc⟩
  · simp [tris] at h; subst h; simp at hk
  · refine ⟨b, o, e, hb, ?_, ?_, ?_⟩
    · simpa using hc k l[k].cells (by simp [tris, hk]) 0 _ rfl
    · simpa [Nat.add_assoc] using hc k l[k].cells (by simp [tris, hk]) 1 _ rfl
    · simpa [Nat.add_assoc] using hc k l[k].cells (by simp [tris, hk]) 2 _ rfl
theorem LRow.nam {l : List Nam} (h : LRow w B 3 A (nams l)) {k : Nat} (hk : k < l.length) :
    ∃ b o, A = some ⟨b, o, none⟩ ∧ b < B ∧ w.cell? ⟨b, o + k * 3, none⟩ = some (.string l[k].kind) ∧ w.cell? ⟨b, o + k * 3 + 1, none⟩ = some (.int .i64 l[k].num) ∧ w.cell? ⟨b, o + k * 3 + 2, none⟩ = some (.string l[k].text) := by
  rcases h with h | ⟨b, o, e, hb, hc⟩
  · simp [nams] at h; subst h; simp at hk
  · refine ⟨b, o, e, hb, ?_, ?_, ?_⟩
    · simpa using hc k l[k].cells (by simp [nams, hk]) 0 _ rfl
    · simpa [Nat.add_assoc] using hc k l[k].cells (by simp [nams, hk]) 1 _ rfl
    · simpa [Nat.add_assoc] using hc k l[k].cells (by simp [nams, hk]) 2 _ rfl
end

/-- where a circuit's lists lie, and what they could hold -/
structure Places where
  ai : Option Addr
  al : Option Addr
  ao : Option Addr
  ab : Option Addr
  ac : Option Addr
  aa : Option Addr
  an : Option Addr
  ki : Nat
  kl : Nat
  ko : Nat
  kb : Nat
  kc : Nat
  ka : Nat
  kn : Nat

def cirC (c : Cir) (s : Places) : Array Value := #[.int .i64 c.max, .slice s.ai c.ins.length s.ki, .slice s.al c.lats.length s.kl, .slice s.ao c.outs.length s.ko, .slice s.ab c.bads.length s.kb, .slice s.ac c.invs.length s.kc, .slice s.aa c.ands.length s.ka, .slice s.an c.names.length s.kn]
def cirV (c : Cir) (s : Places) : Value := .agg (cirC c s)

structure CLies (w : World) (B : Nat) (c : Cir) (s : Places) : Prop where
  ins : LRow w B 1 s.ai (ints c.ins)
  lats : LRow w B 3 s.al (tris c.lats)
  outs : LRow w B 1 s.ao (ints c.outs)
  bads : LRow w B 1 s.ab (ints c.bads)
  invs : LRow w B 1 s.ac (ints c.invs)
  ands : LRow w B 3 s.aa (tris c.ands)
  names : LRow w B 3 s.an (nams c.names)

theorem CLies.below {w w' : World} {B : Nat} {c : Cir} {s : Places} (h : CLies w B c s) (hb : Below B w w') : CLies w' B c s :=
  ⟨h.ins.below hb, h.lats.below hb, h.outs.below hb, h.bads.below hb, h.invs.below hb, h.ands.below hb, h.names.below hb⟩
theorem CLies.more {w : World} {B B' : Nat} {c : Cir} {s : Places} (h : CLies w B c s) (hb : B ≤ B') : CLies w B' c s :=
  ⟨h.ins.more hb, h.lats.more hb, h.outs.more hb, h.bads.more hb, h.invs.more hb, h.ands.more hb, h.names.more hb⟩

/-- each number fits; each list takes at most 2^47 bytes -/
structure CFits (c : Cir) (s : Places) : Prop where
  max : I64 c.max
  ins : ∀ x ∈ c.ins, I64 x
  outs : ∀ x ∈ c.outs, I64 x
  bads : ∀ x ∈ c.bads, I64 x
  invs : ∀ x ∈ c.invs, I64 x
  lats : ∀ x ∈ c.lats, x.fits
  ands : ∀ x ∈ c.ands, x.fits
  names : ∀ x ∈ c.names, x.fits
  li : c.ins.length * 8 ≤ 140737488355328
  lo : c.outs.length * 8 ≤ 140737488355328
  lb : c.bads.length * 8 ≤ 140737488355328
  lc : c.invs.length * 8 ≤ 140737488355328
  ll : c.lats.length * 24 ≤ 140737488355328
  la : c.ands.length * 24 ≤ 140737488355328
  ln : c.names.length * 40 ≤ 140737488355328
  ki : c.ins.length ≤ s.ki
  ko : c.outs.length ≤ s.ko
  kb : c.bads.length ≤ s.kb
  kc : c.invs.length ≤ s.kc
  kl : c.lats.length ≤ s.kl
  ka : c.ands.length ≤ s.ka
  kn : c.names.length ≤ s.kn

/-- is a number of the list a literal of variable v? -/
def hasVar (l : List Int) (v : Int) : Bool := l.any fun x => decide (0 ≤ x) && decide (x / 2 = v)
def hasTri (l : List Tri) (v : Int) : Bool := hasVar (l.map Tri.a) v
def kindOf (c : Cir) (v : Int) : ByteArray :=
  if v = 0 then ⟨#[48]⟩ else if hasVar c.ins v = true then ⟨#[105]⟩ else if hasTri c.lats v = true then ⟨#[108]⟩ else if hasTri c.ands v = true then ⟨#[97]⟩ else ⟨#[]⟩

theorem hasVar_take (l : List Int) (v : Int) (k : Nat) (hk : k < l.length) : hasVar (l.take (k + 1)) v = (hasVar (l.take k) v || (decide (0 ≤ l[k]) && decide (l[k] / 2 = v))) := by
  unfold hasVar; rw [List.take_succ_eq_append_getElem hk, List.any_append]; simp
theorem hasTri_take (l : List Tri) (v : Int) (k : Nat) (hk : k < l.length) : hasTri (l.take (k + 1)) v = (hasTri (l.take k) v || (decide (0 ≤ l[k].a) && decide (l[k].a / 2 = v))) := by
  unfold hasTri hasVar; rw [List.take_succ_eq_append_getElem hk, List.map_append, List.any_append]; simp
theorem hasVar_some (l : List Int) (v : Int) (k : Nat) (hk : k < l.length) (h0 : 0 ≤ l[k]) (h1 : l[k] / 2 = v) : hasVar l v = true := by
  unfold hasVar; rw [List.any_eq_true]; exact ⟨l[k], List.getElem_mem _, by simp [h0, h1]⟩
theorem hasTri_some (l : List Tri) (v : Int) (k : Nat) (hk : k < l.length) (h0 : 0 ≤ l[k].a) (h1 : l[k].a / 2 = v) : hasTri l v = true := by
  unfold hasTri; exact hasVar_some _ v k (by simpa using hk) (by simpa using h0) (by simpa using h1)
end Go.Proofs.YtopjddmgejfalaaGreatDoor.Circ
namespace Go.Proofs.YtopjddmgejfalaaGreatDoor.Dig
open Go.Lib

/-- a byte is a digit -/
def isDig (b : UInt8) : Bool := decide (48 ≤ b.toNat) && decide (b.toNat ≤ 57)
/-- the text could have been printed -/
def canonB (l : List UInt8) (neg : Bool) : Bool := if l = [48] then !neg else if l = [] ∨ l.head? = some 48 then false else l.all isDig
/-- how far a number may lie from 0 -/
def far : Nat := 1099511627776
/-- the digits added up, none beyond the range -/
def val : Nat → List UInt8 → Option Nat
  | n, [] => some n
  | n, b :: l => if n * 10 + (b.toNat - 48) ≤ far then val (n * 10 + (b.toNat - 48)) l else none
def parseL (l : List UInt8) : Int × Int :=
  let neg := hasPrefix l [45]
  let d := trimPrefix l [45]
  if canonB d neg then
    match val 0 d with
    | some v => (if neg then -(v : Int) else v, 0)
    | none => (0, 4)
  else (0, 33)

theorem val_append (l m : List UInt8) : ∀ n, val n (l ++ m) = (val n l).bind fun k => val k m := by
  induction l with
  | nil => intro n; simp [val]
  | cons b l ih =>
    intro n
    simp only [List.cons_append, val]
    split
    · rw [ih]
    · rfl
theorem val_le (l : List UInt8) : ∀ n v, n ≤ far → val n l = some v → v ≤ far := by
  induction l with
  | nil => intro n v hn h; simp only [val, Option.some.injEq] at h; omega
  | cons b l ih =>
    intro n v hn h
    simp only [val] at h
    split at h
    · rename_i hc; exact ih _ _ hc h
    · cases h
theorem ofNat_dig (k : Nat) (h : k < 10) : (UInt8.ofNat (48 + k)).toNat = 48 + k := by
  rw [UInt8.toNat_ofNat']; omega
theorem isDig_ofNat (k : Nat) (h : k < 10) : isDig (UInt8.ofNat (48 + k)) = true := by
  unfold isDig; rw [ofNat_dig k h]; simp; omega

theorem dec_all (u : Nat) : (decDigits u).all isDig = true := by
  induction u using Nat.strongRecOn with
  | _ u ih =>
    by_cases h : u < 10
    · rw [decDigits, dif_pos h, List.all_cons, List.all_nil, isDig_ofNat u h]; rfl
    · rw [decDigits, dif_neg h, List.all_append, ih (u / 10) (by omega), List.all_cons, List.all_nil, isDig_ofNat (u % 10) (by omega)]; rfl
theorem dec_val (u : Nat) : val 0 (decDigits u) = if u ≤ far then some u else none := by
  induction u using Nat.strongRecOn with
  | _ u ih =>
    by_cases h : u < 10
    · rw [decDigits, dif_pos h]; simp only [val, ofNat_dig u h]
      have e : 0 * 10 + (48 + u - 48) = u := by omega
      rw [e]
    · rw [decDigits, dif_neg h, val_append, ih (u / 10) (by omega)]
      by_cases h2 : u / 10 ≤ far
      · rw [if_pos h2]
        simp only [Option.bind_some, val, ofNat_dig (u % 10) (by omega)]
        have e : u / 10 * 10 + (48 + u % 10 - 48) = u := by omega
        rw [e]
      · rw [if_neg h2, if_neg (by omega)]; rfl
theorem dec_ne_nil (u : Nat) : decDigits u ≠ [] := by
  intro h
  have := decDigits_length u
  have := nDigits_pos u
  rw [h] at *
  simp at *
  omega
theorem dec_head (u : Nat) (h0 : 0 < u) : (decDigits u).head? ≠ some 48 := by
  induction u using Nat.strongRecOn with
  | _ u ih =>
    by_cases h : u < 10
    · rw [decDigits, dif_pos h]
      simp only [List.head?_cons, ne_eq, Option.some.injEq]
      intro e
      have := congrArg UInt8.toNat e
      rw [ofNat_dig u h] at this
      have : (48 : UInt8).toNat = 48 := rfl
      omega
    · rw [decDigits, dif_neg h]
      have := ih (u / 10) (by omega) (by omega)
      have hn := dec_ne_nil (u / 10)
      cases hd : decDigits (u / 10) with
      | nil => exact absurd hd hn
      | cons a l => rw [hd] at this; simpa using this
theorem dec_zero : decDigits 0 = [48] := by rw [decDigits_one (by omega)]; rfl
theorem dec_head45 (u : Nat) : hasPrefix (decDigits u) [45] = false := by
  cases hd : decDigits u with
  | nil => rfl
  | cons a l =>
    have := dec_all u
    rw [hd] at this
    simp only [List.all_cons, Bool.and_eq_true] at this
    have h1 := this.1
    unfold isDig at h1
    simp only [Bool.and_eq_true, decide_eq_true_eq] at h1
    show List.isPrefixOf [45] (a :: l) = false
    simp only [List.isPrefixOf, Bool.and_true, beq_eq_false_iff_ne, ne_eq]
    intro e
    rw [← e] at h1
    have : (45 : UInt8).toNat = 45 := rfl
    omega
theorem canon_dec (u : Nat) (neg : Bool) (h : neg = true → 0 < u) : canonB (decDigits u) neg = true := by
  unfold canonB
  by_cases h0 : u = 0
  · subst h0
    rw [dec_zero, if_pos rfl]
    cases neg
    · rfl
    · exact absurd (h rfl) (by omega)
  · have hh := dec_head u (by omega)
    have hn := dec_ne_nil u
    rw [if_neg (by intro e; rw [e] at hh; exact hh rfl), if_neg (by intro e; rcases e with e | e; exact hn e; exact hh e)]
    exact dec_all u

/-- WHAT IS READ OF WHAT IS PRINTED -/
theorem parse_itoa (n : Int) : parseL (itoa n) = if -(far : Int) ≤ n ∧ n ≤ far then (n, 0) else (0, 4) := by
  unfold itoa
  by_cases hn : n < 0
  · rw [if_pos hn]
    unfold parseL
    have e1 : hasPrefix (45 :: decDigits n.natAbs) [45] = true := by simp [hasPrefix, List.isPrefixOf]
    have e2 : trimPrefix (45 :: decDigits n.natAbs) [45] = decDigits n.natAbs := by unfold trimPrefix; rw [if_pos e1]; rfl
    simp only [e1, e2]
    rw [if_pos (canon_dec n.natAbs true (fun _ => by omega)), dec_val]
    by_cases hf : n.natAbs ≤ far
    · rw [if_pos hf, if_pos (by omega)]; simp; omega
    · rw [if_neg hf, if_neg (by omega)]
  · rw [if_neg hn]
    unfold parseL
    have e1 := dec_head45 n.toNat
    have e2 : trimPrefix (decDigits n.toNat) [45] = decDigits n.toNat := by unfold trimPrefix; rw [e1]; rfl
    simp only [e1, e2]
    rw [if_pos (canon_dec n.toNat false (fun h => by cases h)), dec_val]
    by_cases hf : n.toNat ≤ far
    · rw [if_pos hf, if_pos (by omega)]; simp; omega
    · rw [if_neg hf, if_neg (by omega)]
end Go.Proofs.YtopjddmgejfalaaGreatDoor.Dig
namespace Go.Proofs.YtopjddmgejfalaaGreatDoor.Dig
open Go.Lib

/-- what stands between bytes c -/
def splitOn (c : UInt8) : List UInt8 → List (List UInt8)
  | [] => [[]]
  | b :: l => if b = c then [] :: splitOn c l else match splitOn c l with
    | [] => [[b]]
    | h :: t => (b :: h) :: t
theorem splitOn_ne (c : UInt8) (l : List UInt8) : splitOn c l ≠ [] := by
  cases l with
  | nil => simp [splitOn]
  | cons b l =>
    simp only [splitOn]
    split
    · simp
    · split <;> simp
theorem splitOn_none {c : UInt8} {l : List UInt8} (h : c ∉ l) : splitOn c l = [l] := by
  induction l with
  | nil => rfl
  | cons b l ih =>
    simp only [List.mem_cons, not_or] at h
    rw [splitOn, if_neg (fun e => h.1 e.symm), ih h.2]
theorem splitOn_some {c : UInt8} {p r : List UInt8} (h : c ∉ p) : splitOn c (p ++ c :: r) = p :: splitOn c r := by
  induction p with
  | nil => simp [splitOn]
  | cons b l ih =>
    simp only [List.mem_cons, not_or] at h
    rw [List.cons_append, splitOn, if_neg (fun e => h.1 e.symm), ih h.2]
theorem split_cases (c : UInt8) (l : List UInt8) : c ∉ l ∨ ∃ p r, l = p ++ c :: r ∧ c ∉ p := by
  induction l with
  | nil => left; simp
  | cons b l ih =>
    by_cases hb : b = c
    · right; exact ⟨[], l, by rw [hb]; rfl, by simp⟩
    · rcases ih with h | ⟨p, r, h1, h2⟩
      · left; simp only [List.mem_cons, not_or]; exact ⟨fun e => hb e.symm, h⟩
      · right; exact ⟨b :: p, r, by rw [h1]; rfl, by simp only [List.mem_cons, not_or]; exact ⟨fun e => hb e.symm, h2⟩⟩
theorem index_none1 {c : UInt8} {l : List UInt8} (h : c ∉ l) : index l [c] = -1 := by
  induction l with
  | nil => rfl
  | cons b l ih =>
    simp only [List.mem_cons, not_or] at h
    unfold index
    rw [ih h.2]
    have : List.isPrefixOf [c] (b :: l) = false := by
      simp only [List.isPrefixOf, Bool.and_true, beq_eq_false_iff_ne, ne_eq]; exact h.1
    rw [this]; rfl
theorem index_some1 {c : UInt8} {p r : List UInt8} (h : c ∉ p) : index (p ++ c :: r) [c] = p.length := by
  induction p with
  | nil => unfold index; simp [List.isPrefixOf]
  | cons b l ih =>
    simp only [List.mem_cons, not_or] at h
    rw [List.cons_append]
    unfold index
    rw [ih h.2]
    have : List.isPrefixOf [c] (b :: (l ++ c :: r)) = false := by
      simp only [List.isPrefixOf, Bool.and_true, beq_eq_false_iff_ne, ne_eq]; exact h.1
    rw [this]
    have h2 : ((l.length : Int) == -1) = false := by rw [beq_eq_false_iff_ne]; omega
    simp [h2]
theorem cut_none1 {c : UInt8} {l : List UInt8} (h : c ∉ l) : cut l [c] = (l, [], false) := by
  unfold cut; rw [index_none1 h]; rfl
theorem cut_some1 {c : UInt8} {p r : List UInt8} (h : c ∉ p) : cut (p ++ c :: r) [c] = (p, r, true) := by
  unfold cut
  rw [index_some1 h, if_pos (by omega)]
  simp

/-- the pieces that are wanted; the last one is told so -/
def piecesL (c : UInt8) (want : List UInt8 → Bool → Bool) (s : List UInt8) : List (List UInt8) :=
  ((splitOn c s).dropLast.filter fun p => want p false) ++ ((splitOn c s).getLast?.toList.filter fun p => want p true)
theorem piecesL_of {c : UInt8} {want : List UInt8 → Bool → Bool} {s r : List UInt8} {done : List (List UInt8)} (h : splitOn c s = done ++ [r]) :
    piecesL c want s = done.filter (fun p => want p false) ++ (if want r true then [r] else []) := by
  unfold piecesL
  rw [h]
  simp only [List.dropLast_concat, List.getLast?_concat, Option.toList_some]
  congr 1
  by_cases hw : want r true <;> simp [hw]

def wordsL (s : List UInt8) : List (List UInt8) := piecesL 32 (fun p _ => !p.isEmpty) s
/-- with one blank between -/
def joinL : List (List UInt8) → List UInt8
  | [] => []
  | [x] => x
  | x :: y :: l => x ++ 32 :: joinL (y :: l)

theorem splitOn_nomem (c : UInt8) (l : List UInt8) : ∀ p ∈ splitOn c l, c ∉ p := by
  induction l with
  | nil => intro p hp; simp only [splitOn, List.mem_singleton] at hp; subst hp; simp
  | cons b l ih =>
    intro p hp
    rw [splitOn] at hp
    split at hp
    · rcases List.mem_cons.1 hp with e | e
      · subst e; simp
      · exact ih p e
    · rename_i hb
      cases hs : splitOn c l with
      | nil => exact absurd hs (splitOn_ne c l)
      | cons h t =>
        rw [hs] at hp ih
        rcases List.mem_cons.1 hp with e | e
        · subst e
          simp only [List.mem_cons, not_or]
          exact ⟨fun e => hb e.symm, ih h (List.mem_cons_self ..)⟩
        · exact ih p (List.mem_cons_of_mem _ e)
theorem piecesL_sub (c : UInt8) (want : List UInt8 → Bool → Bool) (s : List UInt8) : ∀ p ∈ piecesL c want s, p ∈ splitOn c s := by
  intro p hp
  unfold piecesL at hp
  rcases List.mem_append.1 hp with h | h
  · exact List.dropLast_subset _ (List.mem_filter.1 h).1
  · have h1 := (List.mem_filter.1 h).1
    rw [Option.mem_toList] at h1
    exact List.mem_of_getLast? h1
theorem words_ne (s : List UInt8) : ∀ p ∈ wordsL s, p ≠ [] ∧ (32 : UInt8) ∉ p := by
  intro p hp
  refine ⟨?_, splitOn_nomem 32 s p (piecesL_sub _ _ _ p hp)⟩
  unfold wordsL piecesL at hp
  rcases List.mem_append.1 hp with h | h
  · have := (List.mem_filter.1 h).2; intro e; subst e; simp at this
  · have := (List.mem_filter.1 h).2; intro e; subst e; simp at this

theorem split_words (c : UInt8) (l : List (List UInt8)) : ∀ x, (∀ p ∈ x :: l, c ∉ p) → splitOn c (x ++ (l.map (fun p => c :: p)).flatten) = x :: l := by
  induction l with
  | nil => intro x h; simp only [List.map_nil, List.flatten_nil, List.append_nil]; exact splitOn_none (h x (List.mem_cons_self ..))
  | cons y l ih =>
    intro x h
    simp only [List.map_cons, List.flatten_cons, List.cons_append]
    rw [splitOn_some (h x (List.mem_cons_self ..)), ih y (fun p hp => h p (List.mem_cons_of_mem _ hp))]
theorem joinL_eq (x : List UInt8) (l : List (List UInt8)) : joinL (x :: l) = x ++ (l.map (fun p => 32 :: p)).flatten := by
  induction l generalizing x with
  | nil => simp [joinL]
  | cons y l ih => rw [joinL, ih y]; simp
theorem filter_pieces (l : List (List UInt8)) (hl : l ≠ []) (hw : ∀ p ∈ l, p ≠ []) : ((l.dropLast.filter fun p => !p.isEmpty) ++ (l.getLast?.toList.filter fun p => !p.isEmpty)) = l := by
  rw [← List.filter_append]
  have e : l.dropLast ++ l.getLast?.toList = l := by
    rw [List.getLast?_eq_some_getLast hl]; simpa using List.dropLast_concat_getLast hl
  rw [e, List.filter_eq_self]
  intro p hp
  have := hw p hp
  cases p with
  | nil => exact absurd rfl this
  | cons a t => rfl
/-- WORDS, PUT TOGETHER, ARE THE WORDS AGAIN -/
theorem words_join (l : List (List UInt8)) (h : ∀ p ∈ l, p ≠ [] ∧ (32 : UInt8) ∉ p) : wordsL (joinL l) = l := by
  cases l with
  | nil => rfl
  | cons x l =>
    unfold wordsL piecesL
    rw [joinL_eq, split_words 32 l x (fun p hp => (h p hp).2)]
    exact filter_pieces _ (by simp) (fun p hp => (h p hp).1)

/-- each with a newline behind it -/
def nlL (l : List (List UInt8)) : List UInt8 := (l.map (fun p => p ++ [10])).flatten
theorem nl_append (a b : List (List UInt8)) : nlL (a ++ b) = nlL a ++ nlL b := by unfold nlL; simp
theorem splitOn_flat (c : UInt8) (l : List UInt8) : (splitOn c l).flatten.length + (splitOn c l).length = l.length + 1 := by
  induction l with
  | nil => rfl
  | cons b l ih =>
    rw [splitOn]
    split
    · simp only [List.flatten_cons, List.length_append, List.length_cons, List.length_nil] at ih ⊢; omega
    · cases hs : splitOn c l with
      | nil => exact absurd hs (splitOn_ne c l)
      | cons h t => rw [hs] at ih; simp only [List.flatten_cons, List.length_append, List.length_cons] at ih ⊢; omega
theorem flat_filter_le (f : List UInt8 → Bool) (l : List (List UInt8)) : (l.filter f).flatten.length ≤ l.flatten.length ∧ (l.filter f).length ≤ l.length := by
  induction l with
  | nil => exact ⟨Nat.le_refl _, Nat.le_refl _⟩
  | cons x l ih =>
    rw [List.filter_cons]
    split
    · simp only [List.flatten_cons, List.length_append, List.length_cons]; omega
    · simp only [List.flatten_cons, List.length_append, List.length_cons]; omega
theorem pieces_size (c : UInt8) (want : List UInt8 → Bool → Bool) (s : List UInt8) : (piecesL c want s).flatten.length + (piecesL c want s).length ≤ s.length + 1 := by
  have h := splitOn_flat c s
  have e : splitOn c s = (splitOn c s).dropLast ++ (splitOn c s).getLast?.toList := by
    rw [List.getLast?_eq_some_getLast (splitOn_ne c s)]; simpa using (List.dropLast_concat_getLast (splitOn_ne c s)).symm
  rw [e] at h
  have h1 := flat_filter_le (fun p => want p false) (splitOn c s).dropLast
  have h2 := flat_filter_le (fun p => want p true) (splitOn c s).getLast?.toList
  unfold piecesL
  simp only [List.flatten_append, List.length_append] at h ⊢
  omega
theorem nl_size (l : List (List UInt8)) : (nlL l).length = l.flatten.length + l.length := by
  unfold nlL
  induction l with
  | nil => rfl
  | cons x l ih => simp only [List.map_cons, List.flatten_cons, List.length_append, List.length_cons, List.length_nil] at ih ⊢; omega
theorem join_size (l : List (List UInt8)) : (joinL l).length ≤ l.flatten.length + l.length := by
  cases l with
  | nil => exact Nat.le_refl _
  | cons x l =>
    rw [joinL_eq]
    have : ∀ l : List (List UInt8), (l.map (fun p => (32 : UInt8) :: p)).flatten.length = l.flatten.length + l.length := by
      intro l
      induction l with
      | nil => rfl
      | cons y l ih => simp only [List.map_cons, List.flatten_cons, List.length_append, List.length_cons] at ih ⊢; omega
    simp only [List.length_append, List.flatten_cons, List.length_cons, this l]
    omega
end Go.Proofs.YtopjddmgejfalaaGreatDoor.Dig
