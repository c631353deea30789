/- Plain words for circuits as texts, and for texts as circuits; no program is named here, no condition. -/
import Derived.Test.YtpbggngeopjefaaDoorPk00
import Derived.Test.YtpbggngeopjefaaDoorPk10
namespace Go.Proofs.YtpbggngeopjefaaDoor.Aag
open Go.Lib Dig Circ

/- numerals that are read are those that are printed -/
theorem byte_dig (b : UInt8) (h : isDig b = true) : UInt8.ofNat (48 + (b.toNat - 48)) = b := by
  unfold isDig at h
  simp only [Bool.and_eq_true, decide_eq_true_eq] at h
  apply UInt8.toNat_inj.1
  rw [UInt8.toNat_ofNat']; omega
theorem val_canon : ∀ (n : Nat) (l : List UInt8) (v : Nat), l.length = n → l ≠ [] → l.head? ≠ some 48 → l.all isDig = true → val 0 l = some v → decDigits v = l ∧ 0 < v := by
  intro n
  induction n with
  | zero => intro l v hl hn; exact absurd (List.eq_nil_of_length_eq_zero hl) hn
  | succ n ih =>
    intro l v hl hn hh hd hv
    obtain ⟨m, b, rfl⟩ : ∃ m b, l = m ++ [b] := ⟨l.dropLast, l.getLast hn, (List.dropLast_concat_getLast hn).symm⟩
    rw [List.all_append, Bool.and_eq_true] at hd
    have hb : isDig b = true := by simpa using hd.2
    have hb' := hb
    unfold isDig at hb'
    simp only [Bool.and_eq_true, decide_eq_true_eq] at hb'
    rw [val_append] at hv
    by_cases hm : m = []
    · subst hm
      simp only [val, Option.bind_some] at hv
      split at hv
      · simp only [Option.some.injEq] at hv
        have hne : b ≠ 48 := by intro e; subst e; exact hh rfl
        have h48 : b.toNat ≠ 48 := by intro e; exact hne (UInt8.toNat_inj.1 e)
        have e : v = b.toNat - 48 := by omega
        subst e
        refine ⟨?_, by omega⟩
        rw [decDigits, dif_pos (by omega), byte_dig b hb]; rfl
      · cases hv
    · cases hw : val 0 m with
      | none => rw [hw] at hv; cases hv
      | some u =>
        rw [hw] at hv
        simp only [val, Option.bind_some] at hv
        split at hv
        · simp only [Option.some.injEq] at hv
          have hhm : m.head? ≠ some 48 := by
            cases m with
            | nil => exact absurd rfl hm
            | cons a t => simpa using hh
          obtain ⟨h1, h2⟩ := ih m u (by simpa using hl) hm hhm hd.1 hw
          have e1 : v / 10 = u := by omega
          have e2 : v % 10 = b.toNat - 48 := by omega
          refine ⟨?_, by omega⟩
          rw [decDigits, dif_neg (by omega), e1, e2, h1, byte_dig b hb]
        · cases hv
/-- is the word a number that is not below 0? -/
def numOk (w : List UInt8) : Bool := decide ((parseL w).2 = 0) && decide (0 ≤ (parseL w).1)
def numV (w : List UInt8) : Int := (parseL w).1
theorem num_canon (w : List UInt8) (h : numOk w = true) : itoa (numV w) = w := by
  unfold numOk at h
  simp only [Bool.and_eq_true, decide_eq_true_eq] at h
  obtain ⟨h1, h2⟩ := h
  unfold numV
  unfold parseL at h1 h2 ⊢
  by_cases hp : hasPrefix w [45] = true
  · simp only [hp, if_true] at h1 h2 ⊢
    by_cases hc : canonB (trimPrefix w [45]) true = true
    · rw [if_pos hc] at h1 h2 ⊢
      unfold canonB at hc
      split at hc
      · simp at hc
      · split at hc
        · cases hc
        · rename_i h3 h4
          cases hv : val 0 (trimPrefix w [45]) with
          | none => rw [hv] at h1; simp at h1
          | some v =>
            rw [hv] at h2
            simp only at h2
            have h4' : ¬ trimPrefix w [45] = [] ∧ ¬ (trimPrefix w [45]).head? = some 48 := by
              constructor
              · intro e; exact h4 (.inl e)
              · intro e; exact h4 (.inr e)
            have := (val_canon _ _ v rfl h4'.1 h4'.2 hc hv).2
            omega
    · rw [if_neg hc] at h1; simp at h1
  · simp only [Bool.not_eq_true] at hp
    have ht : trimPrefix w [45] = w := by unfold trimPrefix; rw [hp]; rfl
    simp only [hp, ht, Bool.false_eq_true, if_false] at h1 h2 ⊢
    by_cases hc : canonB w false = true
    · rw [if_pos hc] at h1 h2 ⊢
      unfold canonB at hc
      cases hv : val 0 w with
      | none => rw [hv] at h1; simp at h1
      | some v =>
        simp only
        split at hc
        · rename_i h3
          subst h3
          have : val 0 [48] = some 0 := by decide
          rw [this] at hv
          simp only [Option.some.injEq] at hv
          subst hv
          unfold itoa
          rw [if_neg (by decide)]
          exact dec_zero
        · split at hc
          · cases hc
          · rename_i h3 h4
            have h4' : ¬ w = [] ∧ ¬ w.head? = some 48 := by
              constructor
              · intro e; exact h4 (.inl e)
              · intro e; exact h4 (.inr e)
            have := (val_canon _ _ v rfl h4'.1 h4'.2 hc hv).1
            unfold itoa
            rw [if_neg (by omega)]
            simpa using this
    · rw [if_neg hc] at h1; simp at h1
theorem num_itoa (n : Int) (h0 : 0 ≤ n) (h1 : n ≤ 1099511627776) : numOk (itoa n) = true ∧ numV (itoa n) = n := by
  unfold numOk numV
  rw [parse_itoa, if_pos (by unfold far; omega)]
  simp [h0]

/- what is printed -/
def nums (l : List Int) : List (List UInt8) := l.map itoa
def headL (c : Cir) : List UInt8 := joinL ([97, 97, 103] :: nums [c.max, c.ins.length, c.lats.length, c.outs.length, c.ands.length, c.bads.length, c.invs.length])
def litL (x : Int) : List UInt8 := joinL (nums [x])
def latL (t : Tri) : List UInt8 := joinL (if t.c = 0 then nums [t.a, t.b] else nums [t.a, t.b, t.c])
def andL (t : Tri) : List UInt8 := joinL (nums [t.a, t.b, t.c])
def namL (x : Nam) : List UInt8 := joinL [x.kind.data.toList ++ itoa x.num, x.text.data.toList]
def linesOf (c : Cir) : List (List UInt8) := headL c :: (c.ins.map litL ++ (c.lats.map latL ++ (c.outs.map litL ++ (c.bads.map litL ++ (c.invs.map litL ++ (c.ands.map andL ++ c.names.map namL))))))
def textL (c : Cir) : List UInt8 := nlL (linesOf c)

/- what is read -/
def eShort : Int := 8
def eSyntax : Int := 33
abbrev Got (α : Type) := Except (Nat × Int) α
def readAt {α : Type} (L : List (List UInt8)) (whole : Nat) (form : List UInt8 → Option α) (at_ : Nat) : Got α :=
  if whole ≤ at_ then .error (at_, eShort) else match form (L.getD at_ []) with
    | some a => .ok a
    | none => .error (at_, eSyntax)
def manyGo {α : Type} (L : List (List UInt8)) (whole : Nat) (form : List UInt8 → Option α) : Nat → Nat → List α → Got (List α × Nat)
  | 0, at_, acc => .ok (acc, at_)
  | n + 1, at_, acc => match readAt L whole form at_ with
    | .error e => .error e
    | .ok a => manyGo L whole form n (at_ + 1) (acc ++ [a])
/-- the words of a line whose form is one of so many words with one blank between -/
def wordsOk (counts : List Nat) (l : List UInt8) : Bool := counts.contains (wordsL l).length && (joinL (wordsL l) == l)
def formNums (k : Nat) (l : List UInt8) : Option (List Int) := if wordsOk [k] l && (wordsL l).all numOk then some ((wordsL l).map numV) else none
def formLit (l : List UInt8) : Option Int := (formNums 1 l).map fun ns => ns.getD 0 0
def formAnd (l : List UInt8) : Option Tri := (formNums 3 l).map fun ns => ⟨ns.getD 0 0, ns.getD 1 0, ns.getD 2 0⟩
def formLat (l : List UInt8) : Option Tri :=
  if wordsOk [2, 3] l && (numOk ((wordsL l).getD 0 []) && numOk ((wordsL l).getD 1 [])) then
    if (wordsL l).length = 3 then
      if numOk ((wordsL l).getD 2 []) && decide (numV ((wordsL l).getD 2 []) ≠ 0) then some ⟨numV ((wordsL l).getD 0 []), numV ((wordsL l).getD 1 []), numV ((wordsL l).getD 2 [])⟩ else none
    else some ⟨numV ((wordsL l).getD 0 []), numV ((wordsL l).getD 1 []), 0⟩
  else none
def formHead (l : List UInt8) : Option (List Int) :=
  if wordsOk [8] l && (((wordsL l).getD 0 [] == [97, 97, 103]) && ((wordsL l).drop 1).all numOk) then some (((wordsL l).drop 1).map numV) else none
def kindsL : List UInt8 := [105, 108, 111, 98, 99]
def formNam (l : List UInt8) : Option Nam :=
  if wordsOk [2] l && (kindsL.contains (((wordsL l).getD 0 []).getD 0 0) && numOk (((wordsL l).getD 0 []).drop 1)) then
    some ⟨⟨(((wordsL l).getD 0 []).take 1).toArray⟩, numV (((wordsL l).getD 0 []).drop 1), ⟨((wordsL l).getD 1 []).toArray⟩⟩
  else none
/-- the names, to the end or to a single c -/
def namesGo (L : List (List UInt8)) (whole : Nat) : Nat → Nat → List Nam → Got (List Nam × Nat)
  | 0, at_, acc => .ok (acc, at_)
  | n + 1, at_, acc => if whole ≤ at_ then .error (at_, eShort) else if L.getD at_ [] = [99] then .ok (acc, at_) else match formNam (L.getD at_ []) with
    | none => .error (at_, eSyntax)
    | some a => namesGo L whole n (at_ + 1) (acc ++ [a])
def bindG {α β : Type} (x : Got α) (f : α → Got β) : Got β := match x with
  | .error e => .error e
  | .ok a => f a
def circM (L : List (List UInt8)) (whole : Nat) : Got (Cir × Nat) :=
  bindG (readAt L whole formHead 0) fun n =>
  bindG (manyGo L whole formLit (n.getD 1 0).toNat 1 []) fun r1 =>
  bindG (manyGo L whole formLat (n.getD 2 0).toNat r1.2 []) fun r2 =>
  bindG (manyGo L whole formLit (n.getD 3 0).toNat r2.2 []) fun r3 =>
  bindG (manyGo L whole formLit (n.getD 5 0).toNat r3.2 []) fun r4 =>
  bindG (manyGo L whole formLit (n.getD 6 0).toNat r4.2 []) fun r5 =>
  bindG (manyGo L whole formAnd (n.getD 4 0).toNat r5.2 []) fun r6 =>
  bindG (namesGo L whole (L.length - r6.2) r6.2 []) fun r7 =>
  .ok (⟨n.getD 0 0, r1.1, r2.1, r3.1, r4.1, r5.1, r6.1, r7.1⟩, r7.2)

/- reading many lines -/
theorem many_ok {α : Type} (L : List (List UInt8)) (whole : Nat) (form : List UInt8 → Option α) : ∀ (xs : List α) (at_ : Nat) (acc : List α), at_ + xs.length ≤ whole → (∀ (j : Nat) x, xs[j]? = some x → form (L.getD (at_ + j) []) = some x) →
    manyGo L whole form xs.length at_ acc = .ok (acc ++ xs, at_ + xs.length)
  | [], at_, acc, _, _ => by simp [manyGo]
  | x :: xs, at_, acc, h, hf => by
    have h0 := hf 0 x rfl
    rw [List.length_cons] at h ⊢
    rw [manyGo]
    have hr : readAt L whole form at_ = .ok x := by
      unfold readAt
      rw [if_neg (by omega)]
      simp only [Nat.add_zero] at h0
      rw [h0]
    rw [hr]
    simp only
    rw [many_ok L whole form xs (at_ + 1) (acc ++ [x]) (by omega) (fun j y hj => by rw [Nat.add_assoc, Nat.add_comm 1 j]; exact hf (j + 1) y (by simpa using hj))]
    simp [Nat.add_assoc, Nat.add_comm 1]
theorem many_get {α : Type} (L : List (List UInt8)) (whole : Nat) (form : List UInt8 → Option α) : ∀ (n at_ : Nat) (acc : List α) (r : List α × Nat), manyGo L whole form n at_ acc = .ok r →
    ∃ xs, r = (acc ++ xs, at_ + n) ∧ xs.length = n ∧ (n = 0 ∨ at_ + n ≤ whole) ∧ ∀ (j : Nat) x, xs[j]? = some x → form (L.getD (at_ + j) []) = some x
  | 0, at_, acc, r, h => by
    simp only [manyGo, Except.ok.injEq] at h
    exact ⟨[], by rw [← h]; simp, rfl, .inl rfl, fun j x hj => by simp at hj⟩
  | n + 1, at_, acc, r, h => by
    rw [manyGo] at h
    cases hr : readAt L whole form at_ with
    | error e => rw [hr] at h; cases h
    | ok a =>
      rw [hr] at h
      simp only at h
      obtain ⟨xs, hx, hl, hw, hf⟩ := many_get L whole form n (at_ + 1) (acc ++ [a]) r h
      unfold readAt at hr
      split at hr
      · cases hr
      · rename_i hle
        refine ⟨a :: xs, ?_, by simp [hl], ?_, fun j x hj => ?_⟩
        · rw [hx]; simp [Nat.add_assoc, Nat.add_comm 1]
        · right; rcases hw with hw | hw <;> omega
        · cases j with
          | zero =>
            simp only [List.getElem?_cons_zero, Option.some.injEq] at hj
            subst hj
            rw [Nat.add_zero]
            split at hr
            · rename_i q
              simp only [Except.ok.injEq] at hr
              rw [q, hr]
            · cases hr
          | succ j =>
            have := hf j x (by simpa using hj)
            rw [Nat.add_assoc, Nat.add_comm 1 j] at this
            exact this
theorem names_ok (L : List (List UInt8)) (whole : Nat) : ∀ (xs : List Nam) (n at_ : Nat) (acc : List Nam), at_ + xs.length ≤ whole → (∀ (j : Nat) x, xs[j]? = some x → formNam (L.getD (at_ + j) []) = some x ∧ L.getD (at_ + j) [] ≠ [99]) →
    (n = xs.length ∨ (xs.length < n ∧ at_ + xs.length < whole ∧ L.getD (at_ + xs.length) [] = [99])) → namesGo L whole n at_ acc = .ok (acc ++ xs, at_ + xs.length)
  | [], n, at_, acc, _, _, hn => by
    rcases hn with rfl | ⟨h1, h2, h3⟩
    · simp [namesGo]
    · obtain ⟨m, rfl⟩ : ∃ m, n = m + 1 := ⟨n - 1, by simp at h1; omega⟩
      rw [namesGo]
      simp only [List.length_nil, Nat.add_zero] at h2 h3
      rw [if_neg (by omega), if_pos h3]
      simp
  | x :: xs, n, at_, acc, h, hf, hn => by
    rw [List.length_cons] at h hn ⊢
    obtain ⟨m, rfl⟩ : ∃ m, n = m + 1 := ⟨n - 1, by rcases hn with hn | ⟨hn, _⟩ <;> omega⟩
    obtain ⟨h0, h1⟩ := hf 0 x rfl
    simp only [Nat.add_zero] at h0 h1
    rw [namesGo, if_neg (by omega), if_neg h1, h0]
    simp only
    rw [names_ok L whole xs m (at_ + 1) (acc ++ [x]) (by omega) (fun j y hj => by rw [Nat.add_assoc, Nat.add_comm 1 j]; exact hf (j + 1) y (by simpa using hj)) (by
      rcases hn with hn | ⟨hn, h2, h3⟩
      · left; omega
      · right; exact ⟨by omega, by omega, by rw [Nat.add_assoc, Nat.add_comm 1]; exact h3⟩)]
    simp [Nat.add_assoc, Nat.add_comm 1]
theorem names_get (L : List (List UInt8)) (whole : Nat) : ∀ (n at_ : Nat) (acc : List Nam) (r : List Nam × Nat), namesGo L whole n at_ acc = .ok r →
    ∃ xs, r = (acc ++ xs, at_ + xs.length) ∧ (xs = [] ∨ at_ + xs.length ≤ whole) ∧ (∀ (j : Nat) x, xs[j]? = some x → formNam (L.getD (at_ + j) []) = some x) ∧ (n = xs.length ∨ (xs.length < n ∧ at_ + xs.length < whole ∧ L.getD (at_ + xs.length) [] = [99]))
  | 0, at_, acc, r, h => by
    simp only [namesGo, Except.ok.injEq] at h
    exact ⟨[], by rw [← h]; simp, .inl rfl, fun j x hj => by simp at hj, .inl rfl⟩
  | n + 1, at_, acc, r, h => by
    rw [namesGo] at h
    split at h
    · cases h
    · rename_i hle
      split at h
      · rename_i hc
        simp only [Except.ok.injEq] at h
        exact ⟨[], by rw [← h]; simp, .inl rfl, fun j x hj => by simp at hj, .inr ⟨by simp, by simp; omega, by simpa using hc⟩⟩
      · split at h
        · cases h
        · rename_i a q
          obtain ⟨xs, hx, hw, hf, hn⟩ := names_get L whole n (at_ + 1) (acc ++ [a]) r h
          refine ⟨a :: xs, by rw [hx]; simp [Nat.add_assoc, Nat.add_comm 1], ?_, fun j x hj => ?_, ?_⟩
          · right; rw [List.length_cons]
            rcases hw with rfl | hw
            · simp; omega
            · omega
          · cases j with
            | zero =>
              simp only [List.getElem?_cons_zero, Option.some.injEq] at hj
              subst hj; rw [Nat.add_zero]; exact q
            | succ j =>
              have := hf j x (by simpa using hj)
              rw [Nat.add_assoc, Nat.add_comm 1 j] at this
              exact this
          · rw [List.length_cons]
            rcases hn with hn | ⟨h1, h2, h3⟩
            · left; omega
            · right; refine ⟨by omega, by omega, ?_⟩
              rw [Nat.add_assoc, Nat.add_comm 1] at h3; exact h3
end Go.Proofs.YtpbggngeopjefaaDoor.Aag
