/- Plain lemmas on decimal numerals and on reading them; no condition. Plain lemmas on cutting texts at a byte, and joining them; no condition. Plain words for circuits as texts, and for texts as circuits; no program is named here, no condition. Circuits come back from their texts, and texts from their circuits, on plain lists; no program is named here, no condition. What is read of a text, whole, on plain lists; no program is named here, no condition. What a circuit that is read is like: its numbers, lists and texts are small; no program is named here, no condition. What circuit.Check asks makes a circuit's text readable: numbers, texts and counts within bounds; no condition. Plain words for circuits as octets, and for octets as circuits; no program is named here, no condition. -/
import Derived.Lib.ItoaMem
import Derived.Lib.Strings
import Derived.Lib.IndexMore
import Derived.Lib.IndexBytes
import Derived.Test.YtopjddmgejfalaaDoorPk00
import Derived.Test.YtopjddmgejfalaaDoorPk04
namespace Go.Proofs.YtopjddmgejfalaaDoor.Dig
open Go.Lib

/-- a byte is a digit -/
def isDig (b : UInt8) : Bool := decide (48 ≤ b.toNat) && decide (b.toNat ≤ 57)
/-- the text could have been printed -/
def canonB (l : List UInt8) (neg : Bool) : Bool := if l = [48] then !neg else if l = [] ∨ l.head? = some 48 then false else l.all isDig
/-- how far a number may lie from 0 -/
def far : Nat := 1099511627776
/-- the digits added up, none beyond the range -/
def val : Nat → List UInt8 → Option Nat
  | n, [] => some n
  | n, b :: l => if n * 10 + (b.toNat - 48) ≤ far then val (n * 10 + (b.toNat - 48)) l else none
def parseL (l : List UInt8) : Int × Int :=
  let neg := hasPrefix l [45]
  let d := trimPrefix l [45]
  if canonB d neg then
    match val 0 d with
    | some v => (if neg then -(v : Int) else v, 0)
    | none => (0, 4)
  else (0, 33)

theorem dec_zero : decDigits 0 = [48] := by rw [decDigits_one (by omega)]; rfl
end Go.Proofs.YtopjddmgejfalaaDoor.Dig
namespace Go.Proofs.YtopjddmgejfalaaDoor.Dig
open Go.Lib

/-- what stands between bytes c -/
def splitOn (c : UInt8) : List UInt8 → List (List UInt8)
  | [] => [[]]
  | b :: l => if b = c then [] :: splitOn c l else match splitOn c l with
    | [] => [[b]]
    | h :: t => (b :: h) :: t
/-- the pieces that are wanted; the last one is told so -/
def piecesL (c : UInt8) (want : List UInt8 → Bool → Bool) (s : List UInt8) : List (List UInt8) :=
  ((splitOn c s).dropLast.filter fun p => want p false) ++ ((splitOn c s).getLast?.toList.filter fun p => want p true)
def wordsL (s : List UInt8) : List (List UInt8) := piecesL 32 (fun p _ => !p.isEmpty) s
/-- with one blank between -/
def joinL : List (List UInt8) → List UInt8
  | [] => []
  | [x] => x
  | x :: y :: l => x ++ 32 :: joinL (y :: l)

theorem joinL_eq (x : List UInt8) (l : List (List UInt8)) : joinL (x :: l) = x ++ (l.map (fun p => 32 :: p)).flatten := by
  induction l generalizing x with
  | nil => simp [joinL]
  | cons y l ih => rw [joinL, ih y]; simp
/-- each with a newline behind it -/
def nlL (l : List (List UInt8)) : List UInt8 := (l.map (fun p => p ++ [10])).flatten
theorem nl_append (a b : List (List UInt8)) : nlL (a ++ b) = nlL a ++ nlL b := by unfold nlL; simp
theorem join_size (l : List (List UInt8)) : (joinL l).length ≤ l.flatten.length + l.length := by
  cases l with
  | nil => exact Nat.le_refl _
  | cons x l =>
    rw [joinL_eq]
    have : ∀ l : List (List UInt8), (l.map (fun p => (32 : UInt8) :: p)).flatten.length = l.flatten.length + l.length := by
      intro l
      induction l with
      | nil => rfl
      | cons y l ih => simp only [List.map_cons, List.flatten_cons, List.length_append, List.length_cons] at ih ⊢; omega
    simp only [List.length_append, List.flatten_cons, List.length_cons, this l]
    omega
end Go.Proofs.YtopjddmgejfalaaDoor.Dig
namespace Go.Proofs.YtopjddmgejfalaaDoor.Aag
open Go.Lib Dig Circ

/- numerals that are read are those that are printed -/
/-- is the word a number that is not below 0? -/
def numOk (w : List UInt8) : Bool := decide ((parseL w).2 = 0) && decide (0 ≤ (parseL w).1)
def numV (w : List UInt8) : Int := (parseL w).1
/- what is printed -/
def nums (l : List Int) : List (List UInt8) := l.map itoa
def litL (x : Int) : List UInt8 := joinL (nums [x])
def namL (x : Nam) : List UInt8 := joinL [x.kind.data.toList ++ itoa x.num, x.text.data.toList]
/- what is read -/
def eShort : Int := 8
def eSyntax : Int := 33
abbrev Got (α : Type) := Except (Nat × Int) α
def readAt {α : Type} (L : List (List UInt8)) (whole : Nat) (form : List UInt8 → Option α) (at_ : Nat) : Got α :=
  if whole ≤ at_ then .error (at_, eShort) else match form (L.getD at_ []) with
    | some a => .ok a
    | none => .error (at_, eSyntax)
def manyGo {α : Type} (L : List (List UInt8)) (whole : Nat) (form : List UInt8 → Option α) : Nat → Nat → List α → Got (List α × Nat)
  | 0, at_, acc => .ok (acc, at_)
  | n + 1, at_, acc => match readAt L whole form at_ with
    | .error e => .error e
    | .ok a => manyGo L whole form n (at_ + 1) (acc ++ [a])
/-- the words of a line whose form is one of so many words with one blank between -/
def wordsOk (counts : List Nat) (l : List UInt8) : Bool := counts.contains (wordsL l).length && (joinL (wordsL l) == l)
def formNums (k : Nat) (l : List UInt8) : Option (List Int) := if wordsOk [k] l && (wordsL l).all numOk then some ((wordsL l).map numV) else none
def formLit (l : List UInt8) : Option Int := (formNums 1 l).map fun ns => ns.getD 0 0
def formAnd (l : List UInt8) : Option Tri := (formNums 3 l).map fun ns => ⟨ns.getD 0 0, ns.getD 1 0, ns.getD 2 0⟩
def formLat (l : List UInt8) : Option Tri :=
  if wordsOk [2, 3] l && (numOk ((wordsL l).getD 0 []) && numOk ((wordsL l).getD 1 [])) then
    if (wordsL l).length = 3 then
      if numOk ((wordsL l).getD 2 []) && decide (numV ((wordsL l).getD 2 []) ≠ 0) then some ⟨numV ((wordsL l).getD 0 []), numV ((wordsL l).getD 1 []), numV ((wordsL l).getD 2 [])⟩ else none
    else some ⟨numV ((wordsL l).getD 0 []), numV ((wordsL l).getD 1 []), 0⟩
  else none
def kindsL : List UInt8 := [105, 108, 111, 98, 99]
def formNam (l : List UInt8) : Option Nam :=
  if wordsOk [2] l && (kindsL.contains (((wordsL l).getD 0 []).getD 0 0) && numOk (((wordsL l).getD 0 []).drop 1)) then
    some ⟨⟨(((wordsL l).getD 0 []).take 1).toArray⟩, numV (((wordsL l).getD 0 []).drop 1), ⟨((wordsL l).getD 1 []).toArray⟩⟩
  else none
/-- the names, to the end or to a single c -/
def namesGo (L : List (List UInt8)) (whole : Nat) : Nat → Nat → List Nam → Got (List Nam × Nat)
  | 0, at_, acc => .ok (acc, at_)
  | n + 1, at_, acc => if whole ≤ at_ then .error (at_, eShort) else if L.getD at_ [] = [99] then .ok (acc, at_) else match formNam (L.getD at_ []) with
    | none => .error (at_, eSyntax)
    | some a => namesGo L whole n (at_ + 1) (acc ++ [a])
def bindG {α β : Type} (x : Got α) (f : α → Got β) : Got β := match x with
  | .error e => .error e
  | .ok a => f a
/- reading many lines -/
end Go.Proofs.YtopjddmgejfalaaDoor.Aag
namespace Go.Proofs.YtopjddmgejfalaaDoor.Aag
open Go.Lib Dig Circ

def OkN (x : Int) : Prop := 0 ≤ x ∧ x ≤ 1099511627776
def Word (w : List UInt8) : Prop := w ≠ [] ∧ (32 : UInt8) ∉ w ∧ (10 : UInt8) ∉ w
def NamFine (x : Nam) : Prop := (∃ k ∈ kindsL, x.kind.data.toList = [k]) ∧ OkN x.num ∧ Word x.text.data.toList
def TriFine (t : Tri) : Prop := OkN t.a ∧ OkN t.b ∧ OkN t.c
structure Fine (c : Cir) : Prop where
  max : OkN c.max
  ins : ∀ x ∈ c.ins, OkN x
  lats : ∀ x ∈ c.lats, TriFine x
  outs : ∀ x ∈ c.outs, OkN x
  bads : ∀ x ∈ c.bads, OkN x
  invs : ∀ x ∈ c.invs, OkN x
  ands : ∀ x ∈ c.ands, TriFine x
  names : ∀ x ∈ c.names, NamFine x
  li : c.ins.length ≤ 1099511627776
  ll : c.lats.length ≤ 1099511627776
  lo : c.outs.length ≤ 1099511627776
  lb : c.bads.length ≤ 1099511627776
  lc : c.invs.length ≤ 1099511627776
  la : c.ands.length ≤ 1099511627776

/- where lines lie -/
/- a text that is read -/
/-- the lines from at_ on are those of xs -/
def Seg (L : List (List UInt8)) (at_ : Nat) (ls : List (List UInt8)) : Prop := ∀ (j : Nat) y, ls[j]? = some y → L.getD (at_ + j) [] = y
theorem Seg.append {L : List (List UInt8)} {at_ : Nat} {a b : List (List UInt8)} (h1 : Seg L at_ a) (h2 : Seg L (at_ + a.length) b) : Seg L at_ (a ++ b) := fun j y hj => by
  by_cases hl : j < a.length
  · rw [List.getElem?_append_left hl] at hj; exact h1 j y hj
  · rw [List.getElem?_append_right (by omega)] at hj
    have := h2 _ y hj
    rw [show at_ + a.length + (j - a.length) = at_ + j by omega] at this
    exact this
theorem Seg.all {L ls : List (List UInt8)} (h : Seg L 0 ls) (hl : ls.length ≤ L.length) : ∃ more, L = ls ++ more := by
  refine ⟨L.drop ls.length, ?_⟩
  have : L.take ls.length = ls := by
    apply List.ext_getElem?
    intro i
    by_cases hi : i < ls.length
    · rw [List.getElem?_take, if_pos hi]
      have := h i ls[i] (List.getElem?_eq_getElem hi)
      rw [Nat.zero_add, List.getD_eq_getElem?_getD, List.getElem?_eq_getElem (by omega)] at this
      rw [List.getElem?_eq_getElem (by omega), List.getElem?_eq_getElem hi]
      simpa using this
    · rw [List.getElem?_eq_none (by simp; omega), List.getElem?_eq_none (by omega)]
  rw [← List.take_append_drop ls.length L, this]
  simp

/- texts and their lines -/
end Go.Proofs.YtopjddmgejfalaaDoor.Aag
namespace Go.Proofs.YtopjddmgejfalaaDoor.Aag
open Go.Lib Dig Circ

end Go.Proofs.YtopjddmgejfalaaDoor.Aag
namespace Go.Proofs.YtopjddmgejfalaaDoor.Aag
open Go.Lib Dig Circ

/- the reading of a circuit, part by part -/
abbrev RL := List Int × Nat
abbrev RT := List Tri × Nat
def k7 (L : List (List UInt8)) (wh : Nat) (n : List Int) (r1 : RL) (r2 : RT) (r3 r4 r5 : RL) (r6 : RT) : Got (Cir × Nat) := bindG (namesGo L wh (L.length - r6.2) r6.2 []) fun r7 => .ok (⟨n.getD 0 0, r1.1, r2.1, r3.1, r4.1, r5.1, r6.1, r7.1⟩, r7.2)
def k6 (L : List (List UInt8)) (wh : Nat) (n : List Int) (r1 : RL) (r2 : RT) (r3 r4 r5 : RL) : Got (Cir × Nat) := bindG (manyGo L wh formAnd (n.getD 4 0).toNat r5.2 []) fun r6 => k7 L wh n r1 r2 r3 r4 r5 r6
def k5 (L : List (List UInt8)) (wh : Nat) (n : List Int) (r1 : RL) (r2 : RT) (r3 r4 : RL) : Got (Cir × Nat) := bindG (manyGo L wh formLit (n.getD 6 0).toNat r4.2 []) fun r5 => k6 L wh n r1 r2 r3 r4 r5
def k4 (L : List (List UInt8)) (wh : Nat) (n : List Int) (r1 : RL) (r2 : RT) (r3 : RL) : Got (Cir × Nat) := bindG (manyGo L wh formLit (n.getD 5 0).toNat r3.2 []) fun r4 => k5 L wh n r1 r2 r3 r4
def k3 (L : List (List UInt8)) (wh : Nat) (n : List Int) (r1 : RL) (r2 : RT) : Got (Cir × Nat) := bindG (manyGo L wh formLit (n.getD 3 0).toNat r2.2 []) fun r3 => k4 L wh n r1 r2 r3
def k2 (L : List (List UInt8)) (wh : Nat) (n : List Int) (r1 : RL) : Got (Cir × Nat) := bindG (manyGo L wh formLat (n.getD 2 0).toNat r1.2 []) fun r2 => k3 L wh n r1 r2
def k1 (L : List (List UInt8)) (wh : Nat) (n : List Int) : Got (Cir × Nat) := bindG (manyGo L wh formLit (n.getD 1 0).toNat 1 []) fun r1 => k2 L wh n r1
/-- a circuit that is read is small -/
structure Small (c : Cir) : Prop where
  max : OkN c.max
  ins : ∀ x ∈ c.ins, OkN x
  lats : ∀ x ∈ c.lats, TriFine x
  outs : ∀ x ∈ c.outs, OkN x
  bads : ∀ x ∈ c.bads, OkN x
  invs : ∀ x ∈ c.invs, OkN x
  ands : ∀ x ∈ c.ands, TriFine x
  names : ∀ x ∈ c.names, OkN x.num ∧ x.kind.size ≤ 65537 ∧ x.text.size ≤ 65537
  li : c.ins.length ≤ 65537
  ll : c.lats.length ≤ 65537
  lo : c.outs.length ≤ 65537
  lb : c.bads.length ≤ 65537
  lc : c.invs.length ≤ 65537
  la : c.ands.length ≤ 65537
  ln : c.names.length ≤ 65537
end Go.Proofs.YtopjddmgejfalaaDoor.Aag
namespace Go.Proofs.YtopjddmgejfalaaDoor.Aag
open Go.Lib Dig Circ Cw

theorem def_within (m : Int) (hm : 0 ≤ m ∧ m ≤ 2048) : ∀ (l S T : List Int), defAll m S l = some T → (∀ y ∈ S, 0 ≤ y ∧ y ≤ 2049) → (∀ x ∈ l, 0 ≤ x ∧ x ≤ 4097) ∧ ∀ y ∈ T, 0 ≤ y ∧ y ≤ 2049
  | [], S, T, h, hS => by
    simp only [defAll, Option.some.injEq] at h
    subst h
    exact ⟨by simp, hS⟩
  | x :: l, S, T, h, hS => by
    simp only [defAll] at h
    split at h
    · rename_i hd
      unfold defOk outside great at hd
      simp only [Bool.and_eq_true, Bool.not_eq_true', Bool.or_eq_false_iff, decide_eq_false_iff_not] at hd
      obtain ⟨⟨⟨h1, h2⟩, _⟩, _⟩ := hd
      have hx : 0 ≤ x ∧ x ≤ 4097 := by
        refine ⟨by omega, ?_⟩
        first | omega | (split at h2 <;> omega)
      have hc : cnt x = x := by unfold cnt; rw [if_neg (by omega)]
      obtain ⟨g1, g2⟩ := def_within m hm l (cnt x / 2 :: S) T h (fun y hy => by
        rcases List.mem_cons.1 hy with rfl | hy
        · rw [hc]; omega
        · exact hS y hy)
      exact ⟨fun y hy => by
        rcases List.mem_cons.1 hy with rfl | hy
        · exact hx
        · exact g1 y hy, g2⟩
    · cases h
theorem named_within (S : List Int) (hS : ∀ y ∈ S, 0 ≤ y ∧ y ≤ 2049) (x : Int) (h : namedOk S x = true) : OkN x := by
  unfold namedOk at h
  simp only [Bool.and_eq_true, decide_eq_true_eq] at h
  have hc : cnt x = x := by unfold cnt; rw [if_neg (by omega)]
  rw [hc] at h
  have := hS (x / 2) (by simpa using h.1)
  exact ⟨h.2, by omega⟩
theorem ands_step (S : List Int) (hS : ∀ y ∈ S, 0 ≤ y ∧ y ≤ 2049) : ∀ (l : List Tri) (p q : Int), 0 ≤ p → through (andStep S) p l = some q → p + l.length ≤ q ∧ (∀ t ∈ l, 0 ≤ t.a ∧ OkN t.b ∧ OkN t.c) ∧ (q = p ∨ ∃ t ∈ l, q = t.a)
  | [], p, q, _, h => by
    simp only [through, Option.some.injEq] at h
    subst h
    exact ⟨by simp, by simp, .inl rfl⟩
  | t :: l, p, q, hp, h => by
    simp only [through, andStep] at h
    split at h
    · rename_i hc
      simp only [Bool.and_eq_true, decide_eq_true_eq] at hc
      obtain ⟨⟨⟨⟨h1, h2⟩, h3⟩, h4⟩, h5⟩ := hc
      obtain ⟨g1, g2, g3⟩ := ands_step S hS l t.a q (by omega) h
      refine ⟨by rw [List.length_cons]; omega, fun u hu => ?_, ?_⟩
      · rcases List.mem_cons.1 hu with rfl | hu
        · exact ⟨by omega, named_within S hS _ h4, named_within S hS _ h5⟩
        · exact g2 u hu
      · rcases g3 with g3 | ⟨u, hu, g3⟩
        · exact .inr ⟨t, List.mem_cons_self, g3⟩
        · exact .inr ⟨u, List.mem_cons_of_mem _ hu, g3⟩
    · cases h
theorem rank_kind (t : ByteArray) (h : 0 ≤ rankV t) : (∃ k ∈ kindsL, t.data.toList = [k]) ∧ rankV t ≤ 4 := by
  unfold rankV at h ⊢
  cases hq : kinds.findIdx? (fun x => x.toList == t.toList) with
  | none => rw [hq] at h; simp at h
  | some k =>
    rw [List.findIdx?_eq_some_iff_getElem] at hq
    obtain ⟨hk, he, _⟩ := hq
    have he' : kinds[k].toList = t.toList := beq_iff_eq.1 he
    have e : t.toList = t.data.toList := toList_data t
    rw [e] at he'
    clear he e h
    simp only
    match k, hk, he' with
    | 0, _, he' => exact ⟨⟨105, by decide, he'.symm.trans (toList_data _)⟩, by omega⟩
    | 1, _, he' => exact ⟨⟨108, by decide, he'.symm.trans (toList_data _)⟩, by omega⟩
    | 2, _, he' => exact ⟨⟨111, by decide, he'.symm.trans (toList_data _)⟩, by omega⟩
    | 3, _, he' => exact ⟨⟨98, by decide, he'.symm.trans (toList_data _)⟩, by omega⟩
    | 4, _, he' => exact ⟨⟨99, by decide, he'.symm.trans (toList_data _)⟩, by omega⟩
    | k + 5, hk, _ => exact absurd hk (by unfold kinds; simp)
theorem text_word (s : ByteArray) (h : textOk s = true) : Word s.data.toList ∧ s.data.toList.length ≤ 32 := by
  unfold textOk at h
  simp only [Bool.and_eq_true, decide_eq_true_eq] at h
  obtain ⟨⟨h1, h2⟩, h3⟩ := h
  have hl : s.data.toList.length = s.size := by simp
  have no : ∀ c : UInt8, octetOk c = false → c ∉ s.data.toList := fun c hc hm => by
    have := List.all_eq_true.1 h3 c hm
    rw [hc] at this; cases this
  refine ⟨⟨fun e => ?_, no 32 (by decide), no 10 (by decide)⟩, by omega⟩
  rw [e] at hl
  simp at hl
  omega
theorem names_step (c : Cir) (hk : ∀ t, (kindLits c t).length ≤ 64) : ∀ (l : List Nam) (p q : Int × Int), 0 ≤ p.1 → -1 ≤ p.2 → p.2 ≤ 63 → p.1 ≤ 4 → through (nameStep c) p l = some q → 64 * p.1 + p.2 + l.length ≤ 64 * q.1 + q.2 ∧ q.1 ≤ 4 ∧ q.2 ≤ 63 ∧ ∀ n ∈ l, NamFine n ∧ n.text.data.toList.length ≤ 32 ∧ n.num ≤ 64
  | [], p, q, h0, h1, h2, h3, h => by
    simp only [through, Option.some.injEq] at h
    subst h
    exact ⟨by simp, h3, h2, by simp⟩
  | n :: l, p, q, h0, h1, h2, h3, h => by
    simp only [through, nameStep] at h
    split at h
    · rename_i hc
      simp only [Bool.and_eq_true, Bool.or_eq_true, decide_eq_true_eq] at hc
      obtain ⟨⟨c1, c2, c3⟩, c4⟩ := hc
      have hr0 : 0 ≤ rankV n.kind := by rcases c1 with c1 | c1 <;> omega
      obtain ⟨hk1, hk2⟩ := rank_kind n.kind hr0
      have hn := hk n.kind
      obtain ⟨g1, g2, g3, g4⟩ := names_step c hk l (rankV n.kind, n.num) q hr0 (by simp only; omega) (by simp only; omega) hk2 h
      simp only at g1
      obtain ⟨t1, t2⟩ := text_word n.text c4
      refine ⟨by rw [List.length_cons]; rcases c1 with c1 | c1 <;> omega, g2, g3, fun m hm => ?_⟩
      rcases List.mem_cons.1 hm with rfl | hm
      · exact ⟨⟨hk1, ⟨c2, by omega⟩, t1⟩, t2, by omega⟩
      · exact g4 m hm
    · cases h
theorem chk_fine (c : Cir) (h : chk c = true) : Fine c ∧ c.ins.length ≤ 64 ∧ c.lats.length ≤ 64 ∧ c.outs.length ≤ 64 ∧ c.bads.length ≤ 64 ∧ c.invs.length ≤ 64 ∧ c.ands.length ≤ 4097 ∧ c.names.length ≤ 320 ∧ ∀ n ∈ c.names, n.text.data.toList.length ≤ 32 := by
  unfold chk at h
  simp only [Bool.and_eq_true] at h
  obtain ⟨hs, h⟩ := h
  unfold sizesOk lens at hs
  simp only [Bool.and_eq_true, decide_eq_true_eq, List.all_cons, List.all_nil] at hs
  obtain ⟨⟨m0, m1⟩, s1, s2, s3, s4, s5, _⟩ := hs
  cases hd : defAll c.max [0] (own c) with
  | none => rw [hd] at h; cases h
  | some S =>
    rw [hd] at h
    simp only at h
    unfold chkIn at h
    simp only [Bool.and_eq_true, List.all_cons, List.all_nil] at h
    obtain ⟨⟨⟨hl, ha⟩, ho, hb, hv, _⟩, hn⟩ := h
    obtain ⟨hown, hS⟩ := def_within c.max ⟨m0, m1⟩ (own c) [0] S hd (fun y hy => by simp only [List.mem_singleton] at hy; subst hy; omega)
    have oin : ∀ x ∈ c.ins, OkN x := fun x hx => by have := hown x (by unfold own; simp [hx]); exact ⟨this.1, by omega⟩
    have olat : ∀ t ∈ c.lats, OkN t.a := fun t ht => by
      have := hown t.a (by unfold own; simp only [List.mem_append, List.mem_map]; exact .inr (.inl ⟨t, ht, rfl⟩))
      exact ⟨this.1, by omega⟩
    have oand : ∀ t ∈ c.ands, 0 ≤ t.a ∧ t.a ≤ 4097 := fun t ht => hown t.a (by unfold own; simp only [List.mem_append, List.mem_map]; exact .inr (.inr ⟨t, ht, rfl⟩))
    unfold andsOk at ha
    obtain ⟨qa, hqa⟩ := Option.isSome_iff_exists.1 ha
    obtain ⟨a1, a2, a3⟩ := ands_step S hS c.ands 0 qa (by omega) hqa
    unfold namesOk at hn
    obtain ⟨qn, hqn⟩ := Option.isSome_iff_exists.1 hn
    have hkl : ∀ t, (kindLits c t).length ≤ 64 := fun t => by
      unfold kindLits
      split
      · omega
      split
      · rw [List.length_map]; omega
      split
      · omega
      split <;> omega
    obtain ⟨n1, n2, n3, n4⟩ := names_step c hkl c.names (0, -1) qn (by simp) (by simp) (by simp) (by simp) hqn
    simp only at n1
    have hna : (c.ands.length : Int) ≤ 4097 := by
      rcases a3 with a3 | ⟨t, ht, a3⟩
      · omega
      · have := oand t ht; omega
    have lit : ∀ (l : List Int), l.all (namedOk S) = true → ∀ x ∈ l, OkN x := fun l hl x hx => named_within S hS x (List.all_eq_true.1 hl x hx)
    refine ⟨⟨⟨m0, by omega⟩, oin, fun t ht => ?_, lit _ ho, lit _ hb, lit _ hv, fun t ht => ?_, fun n hn => (n4 n hn).1, by omega, by omega, by omega, by omega, by omega, by omega⟩, by omega, by omega, by omega, by omega, by omega, by omega, by omega, fun n hn => (n4 n hn).2.1⟩
    · have h1 := List.all_eq_true.1 hl t ht
      unfold latOk at h1
      simp only [Bool.and_eq_true, Bool.or_eq_true, decide_eq_true_eq] at h1
      have h2 := olat t ht
      refine ⟨h2, named_within S hS _ h1.1, ?_⟩
      rcases h1.2 with (h | h) | h <;> rw [h]
      · exact ⟨by omega, by omega⟩
      · exact ⟨by omega, by omega⟩
      · exact h2
    · have h1 := oand t ht
      obtain ⟨_, b1, b2⟩ := a2 t ht
      exact ⟨⟨h1.1, by omega⟩, b1, b2⟩
end Go.Proofs.YtopjddmgejfalaaDoor.Aag
namespace Go.Proofs.YtopjddmgejfalaaDoor.Aig
open Go.Lib Dig Circ Cw Aag

/- what is written -/
def lit (k : Nat) : Int := 2 * ((k : Int) + 1)
def head5 (c : Cir) : List UInt8 := joinL ([97, 105, 103] :: nums [c.max, c.ins.length, c.lats.length, c.outs.length, c.ands.length, c.bads.length, c.invs.length])
def lat5 (t : Tri) : List UInt8 := joinL (if t.c = 0 then nums [t.b] else nums [t.b, t.c])
def grp (n : Nat) : List UInt8 := if n < 128 then [UInt8.ofNat n] else UInt8.ofNat (128 + n % 128) :: grp (n / 128)
def and5 (t : Tri) : List UInt8 := grp (t.a - t.b).toNat ++ grp (t.b - t.c).toNat
def lines5 (c : Cir) : List (List UInt8) := head5 c :: (c.lats.map lat5 ++ (c.outs.map litL ++ (c.bads.map litL ++ c.invs.map litL)))
def core5 (c : Cir) : List UInt8 := nlL (lines5 c) ++ (c.ands.map and5).flatten
def oct5 (c : Cir) : List UInt8 := core5 c ++ nlL (c.names.map namL)

/- what is read -/
def evens (n : Nat) : List Int := (List.range n).map lit
theorem evens_len (n : Nat) : (evens n).length = n := by unfold evens; simp
/- lines -/
/- a reading is of what was written: of what it takes it tells the one that is written so; what stands behind is no matter -/
structure Reads {α : Type} (p : List UInt8 → Option (α × List UInt8)) (f : α → List UInt8) (Q : α → Prop) : Prop where
  get : ∀ s a r, p s = some (a, r) → s = f a ++ r ∧ Q a
  more : ∀ s a r t, p s = some (a, r) → p (s ++ t) = some (a, r ++ t)
theorem grp_small (n : Nat) (h : n < 128) : grp n = [UInt8.ofNat n] := by rw [grp, if_pos h]
theorem grp_great (n : Nat) (h : ¬ n < 128) : grp n = UInt8.ofNat (128 + n % 128) :: grp (n / 128) := by rw [grp, if_neg h]
/- many, one behind the other -/
/- the forms of lines -/
theorem nl_map {α : Type} (f : α → List UInt8) (l : List α) : nlL (l.map f) = (l.map fun x => f x ++ [10]).flatten := by unfold nlL; rw [List.map_map]; rfl
end Go.Proofs.YtopjddmgejfalaaDoor.Aig
