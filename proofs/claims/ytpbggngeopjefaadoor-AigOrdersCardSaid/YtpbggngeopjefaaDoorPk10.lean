/- Plain lemmas on decimal numerals and on reading them; no condition. Plain lemmas on cutting texts at a byte, and joining them; no condition. -/
import Derived.Lib.ItoaMem
import Derived.Lib.Strings
import Derived.Lib.IndexMore
import Derived.Lib.IndexBytes
namespace Go.Proofs.YtpbggngeopjefaaDoor.Dig
open Go.Lib

/-- a byte is a digit -/
def isDig (b : UInt8) : Bool := decide (48 ≤ b.toNat) && decide (b.toNat ≤ 57)
/-- the text could have been printed -/
def canonB (l : List UInt8) (neg : Bool) : Bool := if l = [48] then !neg else if l = [] ∨ l.head? = some 48 then false else l.all isDig
/-- how far a number may lie from 0 -/
def far : Nat := 1099511627776
/-- the digits added up, none beyond the range -/
def val : Nat → List UInt8 → Option Nat
  | n, [] => some n
  | n, b :: l => if n * 10 + (b.toNat - 48) ≤ far then val (n * 10 + (b.toNat - 48)) l else none
def parseL (l : List UInt8) : Int × Int :=
  let neg := hasPrefix l [45]
  let d := trimPrefix l [45]
  if canonB d neg then
    match val 0 d with
    | some v => (if neg then -(v : Int) else v, 0)
    | none => (0, 4)
  else (0, 33)

theorem val_append (l m : List UInt8) : ∀ n, val n (l ++ m) = (val n l).bind fun k => val k m := by
  induction l with
  | nil => intro n; simp [val]
  | cons b l ih =>
    intro n
    simp only [List.cons_append, val]
    split
    · rw [ih]
    · rfl
theorem val_le (l : List UInt8) : ∀ n v, n ≤ far → val n l = some v → v ≤ far := by
  induction l with
  | nil => intro n v hn h; simp only [val, Option.some.injEq] at h; omega
  | cons b l ih =>
    intro n v hn h
    simp only [val] at h
    split at h
    · rename_i hc; exact ih _ _ hc h
    · cases h
theorem ofNat_dig (k : Nat) (h : k < 10) : (UInt8.ofNat (48 + k)).toNat = 48 + k := by
  rw [UInt8.toNat_ofNat']; omega
theorem isDig_ofNat (k : Nat) (h : k < 10) : isDig (UInt8.ofNat (48 + k)) = true := by
  unfold isDig; rw [ofNat_dig k h]; simp; omega

theorem dec_all (u : Nat) : (decDigits u).all isDig = true := by
  induction u using Nat.strongRecOn with
  | _ u ih =>
    by_cases h : u < 10
    · rw [decDigits, dif_pos h, List.all_cons, List.all_nil, isDig_ofNat u h]; rfl
    · rw [decDigits, dif_neg h, List.all_append, ih (u / 10) (by omega), List.all_cons, List.all_nil, isDig_ofNat (u % 10) (by omega)]; rfl
theorem dec_val (u : Nat) : val 0 (decDigits u) = if u ≤ far then some u else none := by
  induction u using Nat.strongRecOn with
  | _ u ih =>
    by_cases h : u < 10
    · rw [decDigits, dif_pos h]; simp only [val, ofNat_dig u h]
      have e : 0 * 10 + (48 + u - 48) = u := by omega
      rw [e]
    · rw [decDigits, dif_neg h, val_append, ih (u / 10) (by omega)]
      by_cases h2 : u / 10 ≤ far
      · rw [if_pos h2]
        simp only [Option.bind_some, val, ofNat_dig (u % 10) (by omega)]
        have e : u / 10 * 10 + (48 + u % 10 - 48) = u := by omega
        rw [e]
      · rw [if_neg h2, if_neg (by omega)]; rfl
theorem dec_ne_nil (u : Nat) : decDigits u ≠ [] := by
  intro h
  have := decDigits_length u
  have := nDigits_pos u
  rw [h] at *
  simp at *
  omega
theorem dec_head (u : Nat) (h0 : 0 < u) : (decDigits u).head? ≠ some 48 := by
  induction u using Nat.strongRecOn with
  | _ u ih =>
    by_cases h : u < 10
    · rw [decDigits, dif_pos h]
      simp only [List.head?_cons, ne_eq, Option.some.injEq]
      intro e
      have := congrArg UInt8.toNat e
      rw [ofNat_dig u h] at this
      have : (48 : UInt8).toNat = 48 := rfl
      omega
    · rw [decDigits, dif_neg h]
      have := ih (u / 10) (by omega) (by omega)
      have hn := dec_ne_nil (u / 10)
      cases hd : decDigits (u / 10) with
      | nil => exact absurd hd hn
      | cons a l => rw [hd] at this; simpa using this
theorem dec_zero : decDigits 0 = [48] := by rw [decDigits_one (by omega)]; rfl
theorem dec_head45 (u : Nat) : hasPrefix (decDigits u) [45] = false := by
  cases hd : decDigits u with
  | nil => rfl
  | cons a l =>
    have := dec_all u
    rw [hd] at this
    simp only [List.all_cons, Bool.and_eq_true] at this
    have h1 := this.1
    unfold isDig at h1
    simp only [Bool.and_eq_true, decide_eq_true_eq] at h1
    show List.isPrefixOf [45] (a :: l) = false
    simp only [List.isPrefixOf, Bool.and_true, beq_eq_false_iff_ne, ne_eq]
    intro e
    rw [← e] at h1
    have : (45 : UInt8).toNat = 45 := rfl
    omega
theorem canon_dec (u : Nat) (neg : Bool) (h : neg = true → 0 < u) : canonB (decDigits u) neg = true := by
  unfold canonB
  by_cases h0 : u = 0
  · subst h0
    rw [dec_zero, if_pos rfl]
    cases neg
    · rfl
    · exact absurd (h rfl) (by omega)
  · have hh := dec_head u (by omega)
    have hn := dec_ne_nil u
    rw [if_neg (by intro e; rw [e] at hh; exact hh rfl), if_neg (by intro e; rcases e with e | e; exact hn e; exact hh e)]
    exact dec_all u

/-- WHAT IS READ OF WHAT IS PRINTED -/
theorem parse_itoa (n : Int) : parseL (itoa n) = if -(far : Int) ≤ n ∧ n ≤ far then (n, 0) else (0, 4) := by
  unfold itoa
  by_cases hn : n < 0
  · rw [if_pos hn]
    unfold parseL
    have e1 : hasPrefix (45 :: decDigits n.natAbs) [45] = true := by simp [hasPrefix, List.isPrefixOf]
    have e2 : trimPrefix (45 :: decDigits n.natAbs) [45] = decDigits n.natAbs := by unfold trimPrefix; rw [if_pos e1]; rfl
    simp only [e1, e2]
    rw [if_pos (canon_dec n.natAbs true (fun _ => by omega)), dec_val]
    by_cases hf : n.natAbs ≤ far
    · rw [if_pos hf, if_pos (by omega)]; simp; omega
    · rw [if_neg hf, if_neg (by omega)]
  · rw [if_neg hn]
    unfold parseL
    have e1 := dec_head45 n.toNat
    have e2 : trimPrefix (decDigits n.toNat) [45] = decDigits n.toNat := by unfold trimPrefix; rw [e1]; rfl
    simp only [e1, e2]
    rw [if_pos (canon_dec n.toNat false (fun h => by cases h)), dec_val]
    by_cases hf : n.toNat ≤ far
    · rw [if_pos hf, if_pos (by omega)]; simp; omega
    · rw [if_neg hf, if_neg (by omega)]
theorem parse_07 : parseL [48, 55] = (0, 33) := by decide
end Go.Proofs.YtpbggngeopjefaaDoor.Dig
namespace Go.Proofs.YtpbggngeopjefaaDoor.Dig
open Go.Lib

/-- what stands between bytes c -/
def splitOn (c : UInt8) : List UInt8 → List (List UInt8)
  | [] => [[]]
  | b :: l => if b = c then [] :: splitOn c l else match splitOn c l with
    | [] => [[b]]
    | h :: t => (b :: h) :: t
theorem splitOn_ne (c : UInt8) (l : List UInt8) : splitOn c l ≠ [] := by
  cases l with
  | nil => simp [splitOn]
  | cons b l =>
    simp only [splitOn]
    split
    · simp
    · split <;> simp
theorem splitOn_none {c : UInt8} {l : List UInt8} (h : c ∉ l) : splitOn c l = [l] := by
  induction l with
  | nil => rfl
  | cons b l ih =>
    simp only [List.mem_cons, not_or] at h
    rw [splitOn, if_neg (fun e => h.1 e.symm), ih h.2]
theorem splitOn_some {c : UInt8} {p r : List UInt8} (h : c ∉ p) : splitOn c (p ++ c :: r) = p :: splitOn c r := by
  induction p with
  | nil => simp [splitOn]
  | cons b l ih =>
    simp only [List.mem_cons, not_or] at h
    rw [List.cons_append, splitOn, if_neg (fun e => h.1 e.symm), ih h.2]
theorem split_cases (c : UInt8) (l : List UInt8) : c ∉ l ∨ ∃ p r, l = p ++ c :: r ∧ c ∉ p := by
  induction l with
  | nil => left; simp
  | cons b l ih =>
    by_cases hb : b = c
    · right; exact ⟨[], l, by rw [hb]; rfl, by simp⟩
    · rcases ih with h | ⟨p, r, h1, h2⟩
      · left; simp only [List.mem_cons, not_or]; exact ⟨fun e => hb e.symm, h⟩
      · right; exact ⟨b :: p, r, by rw [h1]; rfl, by simp only [List.mem_cons, not_or]; exact ⟨fun e => hb e.symm, h2⟩⟩
theorem index_none1 {c : UInt8} {l : List UInt8} (h : c ∉ l) : index l [c] = -1 := by
  induction l with
  | nil => rfl
  | cons b l ih =>
    simp only [List.mem_cons, not_or] at h
    unfold index
    rw [ih h.2]
    have : List.isPrefixOf [c] (b :: l) = false := by
      simp only [List.isPrefixOf, Bool.and_true, beq_eq_false_iff_ne, ne_eq]; exact h.1
    rw [this]; rfl
theorem index_some1 {c : UInt8} {p r : List UInt8} (h : c ∉ p) : index (p ++ c :: r) [c] = p.length := by
  induction p with
  | nil => unfold index; simp [List.isPrefixOf]
  | cons b l ih =>
    simp only [List.mem_cons, not_or] at h
    rw [List.cons_append]
    unfold index
    rw [ih h.2]
    have : List.isPrefixOf [c] (b :: (l ++ c :: r)) = false := by
      simp only [List.isPrefixOf, Bool.and_true, beq_eq_false_iff_ne, ne_eq]; exact h.1
    rw [this]
    have h2 : ((l.length : Int) == -1) = false := by rw [beq_eq_false_iff_ne]; omega
    simp [h2]
theorem cut_none1 {c : UInt8} {l : List UInt8} (h : c ∉ l) : cut l [c] = (l, [], false) := by
  unfold cut; rw [index_none1 h]; rfl
theorem cut_some1 {c : UInt8} {p r : List UInt8} (h : c ∉ p) : cut (p ++ c :: r) [c] = (p, r, true) := by
  unfold cut
  rw [index_some1 h, if_pos (by omega)]
  simp

/-- the pieces that are wanted; the last one is told so -/
def piecesL (c : UInt8) (want : List UInt8 → Bool → Bool) (s : List UInt8) : List (List UInt8) :=
  ((splitOn c s).dropLast.filter fun p => want p false) ++ ((splitOn c s).getLast?.toList.filter fun p => want p true)
theorem piecesL_of {c : UInt8} {want : List UInt8 → Bool → Bool} {s r : List UInt8} {done : List (List UInt8)} (h : splitOn c s = done ++ [r]) :
    piecesL c want s = done.filter (fun p => want p false) ++ (if want r true then [r] else []) := by
  unfold piecesL
  rw [h]
  simp only [List.dropLast_concat, List.getLast?_concat, Option.toList_some]
  congr 1
  by_cases hw : want r true <;> simp [hw]

def wordsL (s : List UInt8) : List (List UInt8) := piecesL 32 (fun p _ => !p.isEmpty) s
def linesL (s : List UInt8) : List (List UInt8) := piecesL 10 (fun p last => !p.isEmpty || !last) s
/-- with one blank between -/
def joinL : List (List UInt8) → List UInt8
  | [] => []
  | [x] => x
  | x :: y :: l => x ++ 32 :: joinL (y :: l)

theorem splitOn_nomem (c : UInt8) (l : List UInt8) : ∀ p ∈ splitOn c l, c ∉ p := by
  induction l with
  | nil => intro p hp; simp only [splitOn, List.mem_singleton] at hp; subst hp; simp
  | cons b l ih =>
    intro p hp
    rw [splitOn] at hp
    split at hp
    · rcases List.mem_cons.1 hp with e | e
      · subst e; simp
      · exact ih p e
    · rename_i hb
      cases hs : splitOn c l with
      | nil => exact absurd hs (splitOn_ne c l)
      | cons h t =>
        rw [hs] at hp ih
        rcases List.mem_cons.1 hp with e | e
        · subst e
          simp only [List.mem_cons, not_or]
          exact ⟨fun e => hb e.symm, ih h (List.mem_cons_self ..)⟩
        · exact ih p (List.mem_cons_of_mem _ e)
theorem piecesL_sub (c : UInt8) (want : List UInt8 → Bool → Bool) (s : List UInt8) : ∀ p ∈ piecesL c want s, p ∈ splitOn c s := by
  intro p hp
  unfold piecesL at hp
  rcases List.mem_append.1 hp with h | h
  · exact List.dropLast_subset _ (List.mem_filter.1 h).1
  · have h1 := (List.mem_filter.1 h).1
    rw [Option.mem_toList] at h1
    exact List.mem_of_getLast? h1
theorem words_ne (s : List UInt8) : ∀ p ∈ wordsL s, p ≠ [] ∧ (32 : UInt8) ∉ p := by
  intro p hp
  refine ⟨?_, splitOn_nomem 32 s p (piecesL_sub _ _ _ p hp)⟩
  unfold wordsL piecesL at hp
  rcases List.mem_append.1 hp with h | h
  · have := (List.mem_filter.1 h).2; intro e; subst e; simp at this
  · have := (List.mem_filter.1 h).2; intro e; subst e; simp at this

theorem split_words (c : UInt8) (l : List (List UInt8)) : ∀ x, (∀ p ∈ x :: l, c ∉ p) → splitOn c (x ++ (l.map (fun p => c :: p)).flatten) = x :: l := by
  induction l with
  | nil => intro x h; simp only [List.map_nil, List.flatten_nil, List.append_nil]; exact splitOn_none (h x (List.mem_cons_self ..))
  | cons y l ih =>
    intro x h
    simp only [List.map_cons, List.flatten_cons, List.cons_append]
    rw [splitOn_some (h x (List.mem_cons_self ..)), ih y (fun p hp => h p (List.mem_cons_of_mem _ hp))]
theorem joinL_eq (x : List UInt8) (l : List (List UInt8)) : joinL (x :: l) = x ++ (l.map (fun p => 32 :: p)).flatten := by
  induction l generalizing x with
  | nil => simp [joinL]
  | cons y l ih => rw [joinL, ih y]; simp
theorem filter_pieces (l : List (List UInt8)) (hl : l ≠ []) (hw : ∀ p ∈ l, p ≠ []) : ((l.dropLast.filter fun p => !p.isEmpty) ++ (l.getLast?.toList.filter fun p => !p.isEmpty)) = l := by
  rw [← List.filter_append]
  have e : l.dropLast ++ l.getLast?.toList = l := by
    rw [List.getLast?_eq_some_getLast hl]; simpa using List.dropLast_concat_getLast hl
  rw [e, List.filter_eq_self]
  intro p hp
  have := hw p hp
  cases p with
  | nil => exact absurd rfl this
  | cons a t => rfl
/-- WORDS, PUT TOGETHER, ARE THE WORDS AGAIN -/
theorem words_join (l : List (List UInt8)) (h : ∀ p ∈ l, p ≠ [] ∧ (32 : UInt8) ∉ p) : wordsL (joinL l) = l := by
  cases l with
  | nil => rfl
  | cons x l =>
    unfold wordsL piecesL
    rw [joinL_eq, split_words 32 l x (fun p hp => (h p hp).2)]
    exact filter_pieces _ (by simp) (fun p hp => (h p hp).1)

/-- each with a newline behind it -/
def nlL (l : List (List UInt8)) : List UInt8 := (l.map (fun p => p ++ [10])).flatten
theorem nl_split (s : List UInt8) : nlL (splitOn 10 s) = s ++ [10] := by
  induction s with
  | nil => rfl
  | cons b l ih =>
    rw [splitOn]
    split
    · rename_i hb
      subst hb
      show nlL ([] :: splitOn 10 l) = _
      unfold nlL at ih ⊢
      rw [List.map_cons, List.flatten_cons, ih]; rfl
    · cases hs : splitOn 10 l with
      | nil => exact absurd hs (splitOn_ne 10 l)
      | cons h t =>
        rw [hs] at ih
        unfold nlL at ih ⊢
        simp only [List.map_cons, List.flatten_cons, List.cons_append] at ih ⊢
        rw [ih]
theorem nl_append (a b : List (List UInt8)) : nlL (a ++ b) = nlL a ++ nlL b := by unfold nlL; simp
/-- LINES, EACH WITH A NEWLINE BEHIND IT, ARE THE TEXT AGAIN -/
theorem nl_lines (s : List UInt8) : nlL (linesL s) = s ∨ nlL (linesL s) = s ++ [10] := by
  obtain ⟨done, r, h⟩ : ∃ done r, splitOn 10 s = done ++ [r] := ⟨_, _, (List.dropLast_concat_getLast (splitOn_ne 10 s)).symm⟩
  have hn := nl_split s
  rw [h, nl_append] at hn
  unfold linesL
  rw [piecesL_of h]
  have hf : done.filter (fun p => !p.isEmpty || !false) = done := by rw [List.filter_eq_self]; intro p _; simp
  rw [hf]
  by_cases hr : r = []
  · subst hr
    left
    have e : nlL [([] : List UInt8)] = [10] := rfl
    rw [e] at hn
    simpa using List.append_cancel_right hn
  · right
    have : (!r.isEmpty || !true) = true := by cases r with | nil => exact absurd rfl hr | cons a t => rfl
    rw [this, if_pos rfl, nl_append, hn]

theorem splitOn_flat (c : UInt8) (l : List UInt8) : (splitOn c l).flatten.length + (splitOn c l).length = l.length + 1 := by
  induction l with
  | nil => rfl
  | cons b l ih =>
    rw [splitOn]
    split
    · simp only [List.flatten_cons, List.length_append, List.length_cons, List.length_nil] at ih ⊢; omega
    · cases hs : splitOn c l with
      | nil => exact absurd hs (splitOn_ne c l)
      | cons h t => rw [hs] at ih; simp only [List.flatten_cons, List.length_append, List.length_cons] at ih ⊢; omega
theorem flat_filter_le (f : List UInt8 → Bool) (l : List (List UInt8)) : (l.filter f).flatten.length ≤ l.flatten.length ∧ (l.filter f).length ≤ l.length := by
  induction l with
  | nil => exact ⟨Nat.le_refl _, Nat.le_refl _⟩
  | cons x l ih =>
    rw [List.filter_cons]
    split
    · simp only [List.flatten_cons, List.length_append, List.length_cons]; omega
    · simp only [List.flatten_cons, List.length_append, List.length_cons]; omega
theorem pieces_size (c : UInt8) (want : List UInt8 → Bool → Bool) (s : List UInt8) : (piecesL c want s).flatten.length + (piecesL c want s).length ≤ s.length + 1 := by
  have h := splitOn_flat c s
  have e : splitOn c s = (splitOn c s).dropLast ++ (splitOn c s).getLast?.toList := by
    rw [List.getLast?_eq_some_getLast (splitOn_ne c s)]; simpa using (List.dropLast_concat_getLast (splitOn_ne c s)).symm
  rw [e] at h
  have h1 := flat_filter_le (fun p => want p false) (splitOn c s).dropLast
  have h2 := flat_filter_le (fun p => want p true) (splitOn c s).getLast?.toList
  unfold piecesL
  simp only [List.flatten_append, List.length_append] at h ⊢
  omega
theorem nl_size (l : List (List UInt8)) : (nlL l).length = l.flatten.length + l.length := by
  unfold nlL
  induction l with
  | nil => rfl
  | cons x l ih => simp only [List.map_cons, List.flatten_cons, List.length_append, List.length_cons, List.length_nil] at ih ⊢; omega
theorem join_size (l : List (List UInt8)) : (joinL l).length ≤ l.flatten.length + l.length := by
  cases l with
  | nil => exact Nat.le_refl _
  | cons x l =>
    rw [joinL_eq]
    have : ∀ l : List (List UInt8), (l.map (fun p => (32 : UInt8) :: p)).flatten.length = l.flatten.length + l.length := by
      intro l
      induction l with
      | nil => rfl
      | cons y l ih => simp only [List.map_cons, List.flatten_cons, List.length_append, List.length_cons] at ih ⊢; omega
    simp only [List.length_append, List.flatten_cons, List.length_cons, this l]
    omega
end Go.Proofs.YtpbggngeopjefaaDoor.Dig
