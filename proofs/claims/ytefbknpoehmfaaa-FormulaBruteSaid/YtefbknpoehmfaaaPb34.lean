/- Bits: what of a clause is harmed; the models that it makes false, one after the other. No program is named here; no condition but what each states. -/
import Derived.Test.YtefbknpoehmfaaaPb18
import Derived.Test.YtefbknpoehmfaaaPb04
import Derived.WalkKit
namespace Go.Proofs.Ytefbknpoehmfaaa.For
open Circ Cla

theorem sub_le {o x : Nat} (h : x &&& o = x) : x ≤ o := by rw [← h]; exact Nat.and_le_right
theorem and_half (a b : Nat) : (a &&& b) / 2 = a / 2 &&& b / 2 := by
  apply Nat.eq_of_testBit_eq
  intro i
  simp only [Nat.testBit_and, Nat.testBit_div_two]
theorem and_low (a b : Nat) : (a &&& b) % 2 = (a % 2) * (b % 2) := by
  have h := Nat.testBit_and a b 0
  simp only [Nat.testBit_zero] at h
  have h1 := Nat.mod_two_eq_zero_or_one a
  have h2 := Nat.mod_two_eq_zero_or_one b
  have h3 := Nat.mod_two_eq_zero_or_one (a &&& b)
  rcases h1 with h1 | h1 <;> rcases h2 with h2 | h2 <;> rcases h3 with h3 | h3 <;> simp [h1, h2, h3] at h ⊢
/-- the next part of o below r -/
theorem sub_next : ∀ (n r o x : Nat), r ≤ n → r &&& o = r → x &&& o = x → x < r → x ≤ (r - 1) &&& o
  | 0, r, o, x, hn, _, _, hx => by omega
  | n + 1, r, o, x, hn, hr, hxo, hx => by
    have hr2 := congrArg (· / 2) hr
    have hx2 := congrArg (· / 2) hxo
    have hr0 := congrArg (· % 2) hr
    have hx0 := congrArg (· % 2) hxo
    simp only [and_half] at hr2 hx2
    simp only [and_low] at hr0 hx0
    have e1 := and_half (r - 1) o
    have e2 := and_low (r - 1) o
    rcases Nat.mod_two_eq_zero_or_one r with hm | hm
    · have ih := sub_next n (r / 2) (o / 2) (x / 2) (by omega) hr2 hx2 (by omega)
      have a1 : (r - 1) / 2 = r / 2 - 1 := by omega
      have a2 : (r - 1) % 2 = 1 := by omega
      rw [a1] at e1
      rw [a2, Nat.one_mul] at e2
      have hb : x % 2 ≤ o % 2 := by
        rcases Nat.mod_two_eq_zero_or_one x with h | h
        · omega
        · rw [h, Nat.one_mul] at hx0; omega
      omega
    · have ho : o % 2 = 1 := by rw [hm, Nat.one_mul] at hr0; omega
      have a1 : (r - 1) / 2 = r / 2 := by omega
      have a2 : (r - 1) % 2 = 0 := by omega
      rw [a1, hr2] at e1
      rw [a2, Nat.zero_mul] at e2
      omega
theorem and_again (a o : Nat) : (a &&& o) &&& o = a &&& o := by rw [Nat.and_assoc, Nat.and_self]
/-- the parts of o, from r down -/
def subsM (o : Nat) : Nat → Nat → List Nat
  | 0, r => [r]
  | n + 1, r => r :: if r = 0 then [] else subsM o n ((r - 1) &&& o)
theorem mem_subs (o : Nat) : ∀ (n r x : Nat), r ≤ n → r &&& o = r → (x ∈ subsM o n r ↔ x &&& o = x ∧ x ≤ r)
  | 0, r, x, hn, hr => by
    obtain rfl : r = 0 := by omega
    unfold subsM
    rw [List.mem_singleton]
    constructor
    · rintro rfl; exact ⟨by simp, Nat.le_refl _⟩
    · intro h; omega
  | n + 1, r, x, hn, hr => by
    unfold subsM
    rw [List.mem_cons]
    by_cases h0 : r = 0
    · subst h0
      rw [if_pos rfl]
      constructor
      · rintro (rfl | h)
        · exact ⟨by simp, Nat.le_refl _⟩
        · exact absurd h List.not_mem_nil
      · intro h; left; omega
    · rw [if_neg h0]
      have hle : (r - 1) &&& o ≤ r - 1 := Nat.and_le_left
      rw [mem_subs o n _ x (by omega) (and_again _ _)]
      constructor
      · rintro (rfl | ⟨h1, h2⟩)
        · exact ⟨hr, Nat.le_refl _⟩
        · exact ⟨h1, by omega⟩
      · rintro ⟨h1, h2⟩
        by_cases e : x = r
        · exact .inl e
        · exact .inr ⟨h1, sub_next r r o x (Nat.le_refl _) hr h1 (by omega)⟩
/-- the bit of a variable -/
def bitV (V : Nat) (x : Int) : Nat := 1 <<< (V - x.natAbs)
def isB2 (V : Nat) (l : List Int) : Nat := l.foldl (fun a x => if 0 < x then a ||| bitV V x else a) 0
def notB (V : Nat) (l : List Int) : Nat := l.foldl (fun a x => if 0 < x then a else a ||| bitV V x) 0
theorem bit_test (V : Nat) (x : Int) (i : Nat) : (bitV V x).testBit i = decide (V - x.natAbs = i) := by
  unfold bitV
  rw [Nat.one_shiftLeft, Nat.testBit_two_pow]
theorem fold_is (V i : Nat) : ∀ (l : List Int) (a : Nat), (l.foldl (fun a x => if 0 < x then a ||| bitV V x else a) a).testBit i = true ↔ a.testBit i = true ∨ ∃ x ∈ l, 0 < x ∧ V - x.natAbs = i
  | [], a => by simp
  | x :: l, a => by
    rw [List.foldl_cons, fold_is V i l]
    by_cases h : 0 < x
    · rw [if_pos h, Nat.testBit_or, bit_test, Bool.or_eq_true, decide_eq_true_eq]
      constructor
      · rintro ((h1 | h1) | ⟨y, hy, h1⟩)
        · exact .inl h1
        · exact .inr ⟨x, List.mem_cons_self, h, h1⟩
        · exact .inr ⟨y, List.mem_cons_of_mem _ hy, h1⟩
      · rintro (h1 | ⟨y, hy, h1⟩)
        · exact .inl (.inl h1)
        · rcases List.mem_cons.1 hy with rfl | hy
          · exact .inl (.inr h1.2)
          · exact .inr ⟨y, hy, h1⟩
    · rw [if_neg h]
      constructor
      · rintro (h1 | ⟨y, hy, h1⟩)
        · exact .inl h1
        · exact .inr ⟨y, List.mem_cons_of_mem _ hy, h1⟩
      · rintro (h1 | ⟨y, hy, h1⟩)
        · exact .inl h1
        · rcases List.mem_cons.1 hy with rfl | hy
          · exact absurd h1.1 h
          · exact .inr ⟨y, hy, h1⟩
theorem fold_not (V i : Nat) : ∀ (l : List Int) (a : Nat), (l.foldl (fun a x => if 0 < x then a else a ||| bitV V x) a).testBit i = true ↔ a.testBit i = true ∨ ∃ x ∈ l, ¬ 0 < x ∧ V - x.natAbs = i
  | [], a => by simp
  | x :: l, a => by
    rw [List.foldl_cons, fold_not V i l]
    by_cases h : 0 < x
    · rw [if_pos h]
      constructor
      · rintro (h1 | ⟨y, hy, h1⟩)
        · exact .inl h1
        · exact .inr ⟨y, List.mem_cons_of_mem _ hy, h1⟩
      · rintro (h1 | ⟨y, hy, h1⟩)
        · exact .inl h1
        · rcases List.mem_cons.1 hy with rfl | hy
          · exact absurd h h1.1
          · exact .inr ⟨y, hy, h1⟩
    · rw [if_neg h, Nat.testBit_or, bit_test, Bool.or_eq_true, decide_eq_true_eq]
      constructor
      · rintro ((h1 | h1) | ⟨y, hy, h1⟩)
        · exact .inl h1
        · exact .inr ⟨x, List.mem_cons_self, h, h1⟩
        · exact .inr ⟨y, List.mem_cons_of_mem _ hy, h1⟩
      · rintro (h1 | ⟨y, hy, h1⟩)
        · exact .inl (.inl h1)
        · rcases List.mem_cons.1 hy with rfl | hy
          · exact .inl (.inr h1.2)
          · exact .inr ⟨y, hy, h1⟩
/-- does model m make the clause false? -/
def harmB (V : Nat) (l : List Int) (m : Nat) : Bool := l.all fun x => m.testBit (V - x.natAbs) == decide (x < 0)
def othersM (V a b : Nat) : Nat := (2 ^ V - 1) &&& ((2 ^ V - 1) ^^^ (a ||| b))
def harmed (V a b : Nat) : List Nat := if a &&& b ≠ 0 then [] else (subsM (othersM V a b) (othersM V a b) (othersM V a b)).map (b ||| ·)
theorem others_test (V a b i : Nat) : (othersM V a b).testBit i = (decide (i < V) && !(a.testBit i || b.testBit i)) := by
  unfold othersM
  rw [Nat.testBit_and, Nat.testBit_xor, Nat.testBit_two_pow_sub_one, Nat.testBit_or]
  cases decide (i < V) <;> simp
theorem and_zero_iff (a b : Nat) : a &&& b = 0 ↔ ∀ i, ¬ (a.testBit i = true ∧ b.testBit i = true) := by
  constructor
  · intro h i ⟨h1, h2⟩
    have := Nat.testBit_and a b i
    rw [h, h1, h2] at this
    simp at this
  · intro h
    apply Nat.eq_of_testBit_eq
    intro i
    rw [Nat.testBit_and, Nat.zero_testBit]
    have := h i
    cases h1 : a.testBit i <;> cases h2 : b.testBit i <;> simp_all
theorem harm_iff {V m : Nat} (hm : m < 2 ^ V) {l : List Int} (hl : ∀ x ∈ l, litN V x) : m ∈ harmed V (isB2 V l) (notB V l) ↔ harmB V l m = true := by
  have hA : ∀ i, (isB2 V l).testBit i = true ↔ ∃ x ∈ l, 0 < x ∧ V - x.natAbs = i := fun i => by
    unfold isB2
    rw [fold_is]
    simp
  have hB : ∀ i, (notB V l).testBit i = true ↔ ∃ x ∈ l, ¬ 0 < x ∧ V - x.natAbs = i := fun i => by
    unfold notB
    rw [fold_not]
    simp
  have hbV : ∀ x ∈ l, V - x.natAbs < V := fun x hx => by have := hl x hx; unfold litN at this; omega
  have hharm : harmB V l m = true ↔ (∀ i, (isB2 V l).testBit i = true → m.testBit i = false) ∧ ∀ i, (notB V l).testBit i = true → m.testBit i = true := by
    unfold harmB
    rw [List.all_eq_true]
    constructor
    · intro h
      refine ⟨fun i hi => ?_, fun i hi => ?_⟩
      · obtain ⟨x, hx, h0, rfl⟩ := (hA i).1 hi
        have := h x hx
        rw [beq_iff_eq, decide_eq_false (by omega)] at this
        exact this
      · obtain ⟨x, hx, h0, rfl⟩ := (hB i).1 hi
        have := h x hx
        have hl0 := hl x hx
        unfold litN at hl0
        rw [beq_iff_eq, decide_eq_true (by omega)] at this
        exact this
    · rintro ⟨h1, h2⟩ x hx
      rw [beq_iff_eq]
      have hl0 := hl x hx
      unfold litN at hl0
      by_cases h0 : 0 < x
      · rw [decide_eq_false (by omega)]
        exact h1 _ ((hA _).2 ⟨x, hx, h0, rfl⟩)
      · rw [decide_eq_true (by omega)]
        exact h2 _ ((hB _).2 ⟨x, hx, h0, rfl⟩)
  rw [hharm]
  generalize isB2 V l = a at *
  generalize notB V l = b at *
  have hbl : ∀ i, b.testBit i = true → i < V := fun i hi => by
    obtain ⟨x, hx, _, rfl⟩ := (hB i).1 hi
    exact hbV x hx
  have hml : ∀ i, m.testBit i = true → i < V := fun i hi => by
    rcases Nat.lt_or_ge i V with h | h
    · exact h
    · have : m < 2 ^ i := Nat.lt_of_lt_of_le hm (Nat.pow_le_pow_right (by decide) h)
      rw [Nat.testBit_lt_two_pow this] at hi
      cases hi
  unfold harmed
  by_cases hab : a &&& b = 0
  · rw [if_neg (by simpa using hab), List.mem_map]
    have hdis := (and_zero_iff a b).1 hab
    constructor
    · rintro ⟨r, hr, rfl⟩
      have hr' := ((mem_subs _ _ _ r (Nat.le_refl _) (Nat.and_self _)).1 hr).1
      have hrt : ∀ i, r.testBit i = true → (othersM V a b).testBit i = true := fun i hi => by
        have := Nat.testBit_and r (othersM V a b) i
        rw [hr', hi] at this
        simpa using this.symm
      refine ⟨fun i hi => ?_, fun i hi => by rw [Nat.testBit_or, hi]; rfl⟩
      rw [Nat.testBit_or, Bool.or_eq_false_iff]
      refine ⟨?_, ?_⟩
      · cases h : b.testBit i with
        | false => rfl
        | true => exact absurd ⟨hi, h⟩ (hdis i)
      · cases h : r.testBit i with
        | false => rfl
        | true =>
          have := hrt i h
          rw [others_test, hi] at this
          simp at this
    · rintro ⟨h1, h2⟩
      refine ⟨m &&& othersM V a b, (mem_subs _ _ _ _ (Nat.le_refl _) (Nat.and_self _)).2 ⟨and_again _ _, Nat.and_le_right⟩, ?_⟩
      apply Nat.eq_of_testBit_eq
      intro i
      rw [Nat.testBit_or, Nat.testBit_and, others_test]
      cases hb : b.testBit i with
      | true => rw [h2 i hb]; rfl
      | false =>
        cases hmi : m.testBit i with
        | false => rfl
        | true =>
          have h3 := hml i hmi
          have h4 : a.testBit i = false := by
            cases h : a.testBit i with
            | false => rfl
            | true => rw [h1 i h] at hmi; cases hmi
          rw [h4, decide_eq_true h3]; rfl
  · rw [if_pos hab]
    constructor
    · intro h; exact absurd h List.not_mem_nil
    · rintro ⟨h1, h2⟩
      exfalso
      refine hab ((and_zero_iff a b).2 fun i ⟨ha, hb⟩ => ?_)
      exact absurd ((h1 i ha).symm.trans (h2 i hb)) (by decide)
theorem harm_lt {V : Nat} {l : List Int} (hl : ∀ x ∈ l, litN V x) : ∀ m ∈ harmed V (isB2 V l) (notB V l), m < 2 ^ V := fun m hm => by
  unfold harmed at hm
  split at hm
  · exact absurd hm List.not_mem_nil
  · obtain ⟨r, hr, rfl⟩ := List.mem_map.1 hm
    have h1 := sub_le ((mem_subs _ _ _ r (Nat.le_refl _) (Nat.and_self _)).1 hr).1
    have h2 : othersM V (isB2 V l) (notB V l) ≤ 2 ^ V - 1 := Nat.and_le_left
    have h3 : 0 < 2 ^ V := Nat.pow_pos (by decide)
    apply Nat.lt_of_not_le
    intro hge
    apply Nat.or_lt_two_pow (x := notB V l) (y := r) (n := V) ?_ (by omega) |> fun h => absurd h (by omega)
    apply Nat.lt_pow_two_of_testBit
    intro i hi
    cases h : (notB V l).testBit i with
    | false => rfl
    | true =>
      unfold notB at h
      rw [fold_not] at h
      rcases h with h | ⟨x, hx, _, rfl⟩
      · simp at h
      · have := hl x hx
        unfold litN at this
        omega
end Go.Proofs.Ytefbknpoehmfaaa.For
