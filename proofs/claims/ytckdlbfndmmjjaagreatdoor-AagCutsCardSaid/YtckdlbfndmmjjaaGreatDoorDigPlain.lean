/- Plain lemmas on decimal numerals and on reading them; no condition. -/
import Derived.Lib.ItoaMem
import Derived.Lib.Strings
namespace Go.Proofs.YtckdlbfndmmjjaaGreatDoor.Dig
open Go.Lib

/-- a byte is a digit -/
def isDig (b : UInt8) : Bool := decide (48 ≤ b.toNat) && decide (b.toNat ≤ 57)
/-- the text could have been printed -/
def canonB (l : List UInt8) (neg : Bool) : Bool := if l = [48] then !neg else if l = [] ∨ l.head? = some 48 then false else l.all isDig
/-- how far a number may lie from 0 -/
def far : Nat := 1099511627776
/-- the digits added up, none beyond the range -/
def val : Nat → List UInt8 → Option Nat
  | n, [] => some n
  | n, b :: l => if n * 10 + (b.toNat - 48) ≤ far then val (n * 10 + (b.toNat - 48)) l else none
def parseL (l : List UInt8) : Int × Int :=
  let neg := hasPrefix l [45]
  let d := trimPrefix l [45]
  if canonB d neg then
    match val 0 d with
    | some v => (if neg then -(v : Int) else v, 0)
    | none => (0, 4)
  else (0, 33)

theorem val_append (l m : List UInt8) : ∀ n, val n (l ++ m) = (val n l).bind fun k => val k m := by
  induction l with
  | nil => intro n; simp [val]
  | cons b l ih =>
    intro n
    simp only [List.cons_append, val]
    split
    · rw [ih]
    · rfl
theorem val_le (l : List UInt8) : ∀ n v, n ≤ far → val n l = some v → v ≤ far := by
  induction l with
  | nil => intro n v hn h; simp only [val, Option.some.injEq] at h; omega
  | cons b l ih =>
    intro n v hn h
    simp only [val] at h
    split at h
    · rename_i hc; exact ih _ _ hc h
    · cases h
theorem ofNat_dig (k : Nat) (h : k < 10) : (UInt8.ofNat (48 + k)).toNat = 48 + k := by
  rw [UInt8.toNat_ofNat']; omega
theorem isDig_ofNat (k : Nat) (h : k < 10) : isDig (UInt8.ofNat (48 + k)) = true := by
  unfold isDig; rw [ofNat_dig k h]; simp; omega

theorem dec_all (u : Nat) : (decDigits u).all isDig = true := by
  induction u using Nat.strongRecOn with
  | _ u ih =>
    by_cases h : u < 10
    · rw [decDigits, dif_pos h, List.all_cons, List.all_nil, isDig_ofNat u h]; rfl
    · rw [decDigits, dif_neg h, List.all_append, ih (u / 10) (by omega), List.all_cons, List.all_nil, isDig_ofNat (u % 10) (by omega)]; rfl
theorem dec_val (u : Nat) : val 0 (decDigits u) = if u ≤ far then some u else none := by
  induction u using Nat.strongRecOn with
  | _ u ih =>
    by_cases h : u < 10
    · rw [decDigits, dif_pos h]; simp only [val, ofNat_dig u h]
      have e : 0 * 10 + (48 + u - 48) = u := by omega
      rw [e]
    · rw [decDigits, dif_neg h, val_append, ih (u / 10) (by omega)]
      by_cases h2 : u / 10 ≤ far
      · rw [if_pos h2]
        simp only [Option.bind_some, val, ofNat_dig (u % 10) (by omega)]
        have e : u / 10 * 10 + (48 + u % 10 - 48) = u := by omega
        rw [e]
      · rw [if_neg h2, if_neg (by omega)]; rfl
theorem dec_ne_nil (u : Nat) : decDigits u ≠ [] := by
  intro h
  have := decDigits_length u
  have := nDigits_pos u
  rw [h] at *
  simp at *
  omega
theorem dec_head (u : Nat) (h0 : 0 < u) : (decDigits u).head? ≠ some 48 := by
  induction u using Nat.strongRecOn with
  | _ u ih =>
    by_cases h : u < 10
    · rw [decDigits, dif_pos h]
      simp only [List.head?_cons, ne_eq, Option.some.injEq]
      intro e
      have := congrArg UInt8.toNat e
      rw [ofNat_dig u h] at this
      have : (48 : UInt8).toNat = 48 := rfl
      omega
    · rw [decDigits, dif_neg h]
      have := ih (u / 10) (by omega) (by omega)
      have hn := dec_ne_nil (u / 10)
      cases hd : decDigits (u / 10) with
      | nil => exact absurd hd hn
      | cons a l => rw [hd] at this; simpa using this
theorem dec_zero : decDigits 0 = [48] := by rw [decDigits_one (by omega)]; rfl
theorem dec_head45 (u : Nat) : hasPrefix (decDigits u) [45] = false := by
  cases hd : decDigits u with
  | nil => rfl
  | cons a l =>
    have := dec_all u
    rw [hd] at this
    simp only [List.all_cons, Bool.and_eq_true] at this
    have h1 := this.1
    unfold isDig at h1
    simp only [Bool.and_eq_true, decide_eq_true_eq] at h1
    show List.isPrefixOf [45] (a :: l) = false
    simp only [List.isPrefixOf, Bool.and_true, beq_eq_false_iff_ne, ne_eq]
    intro e
    rw [← e] at h1
    have : (45 : UInt8).toNat = 45 := rfl
    omega
theorem canon_dec (u : Nat) (neg : Bool) (h : neg = true → 0 < u) : canonB (decDigits u) neg = true := by
  unfold canonB
  by_cases h0 : u = 0
  · subst h0
    rw [dec_zero, if_pos rfl]
    cases neg
    · rfl
    · exact absurd (h rfl) (by omega)
  · have hh := dec_head u (by omega)
    have hn := dec_ne_nil u
    rw [if_neg (by intro e; rw [e] at hh; exact hh rfl), if_neg (by intro e; rcases e with e | e; exact hn e; exact hh e)]
    exact dec_all u

/-- WHAT IS READ OF WHAT IS PRINTED -/
theorem parse_itoa (n : Int) : parseL (itoa n) = if -(far : Int) ≤ n ∧ n ≤ far then (n, 0) else (0, 4) := by
  unfold itoa
  by_cases hn : n < 0
  · rw [if_pos hn]
    unfold parseL
    have e1 : hasPrefix (45 :: decDigits n.natAbs) [45] = true := by simp [hasPrefix, List.isPrefixOf]
    have e2 : trimPrefix (45 :: decDigits n.natAbs) [45] = decDigits n.natAbs := by unfold trimPrefix; rw [if_pos e1]; rfl
    simp only [e1, e2]
    rw [if_pos (canon_dec n.natAbs true (fun _ => by omega)), dec_val]
    by_cases hf : n.natAbs ≤ far
    · rw [if_pos hf, if_pos (by omega)]; simp; omega
    · rw [if_neg hf, if_neg (by omega)]
  · rw [if_neg hn]
    unfold parseL
    have e1 := dec_head45 n.toNat
    have e2 : trimPrefix (decDigits n.toNat) [45] = decDigits n.toNat := by unfold trimPrefix; rw [e1]; rfl
    simp only [e1, e2]
    rw [if_pos (canon_dec n.toNat false (fun h => by cases h)), dec_val]
    by_cases hf : n.toNat ≤ far
    · rw [if_pos hf, if_pos (by omega)]; simp; omega
    · rw [if_neg hf, if_neg (by omega)]
theorem parse_07 : parseL [48, 55] = (0, 33) := by decide
end Go.Proofs.YtckdlbfndmmjjaaGreatDoor.Dig
