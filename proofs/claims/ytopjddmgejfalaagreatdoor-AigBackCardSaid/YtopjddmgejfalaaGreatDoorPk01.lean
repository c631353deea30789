/- Plain words for circuits as texts, and for texts as circuits; no program is named here, no condition. Circuits come back from their texts, and texts from their circuits, on plain lists; no program is named here, no condition. What is read of a text, whole, on plain lists; no program is named here, no condition. What a circuit that is read is like: its numbers, lists and texts are small; no program is named here, no condition. -/
import Derived.Test.YtopjddmgejfalaaGreatDoorPk00
namespace Go.Proofs.YtopjddmgejfalaaGreatDoor.Aag
open Go.Lib Dig Circ

/- numerals that are read are those that are printed -/
theorem byte_dig (b : UInt8) (h : isDig b = true) : UInt8.ofNat (48 + (b.toNat - 48)) = b := by
  unfold isDig at h
  simp only [Bool.and_eq_true, decide_eq_true_eq] at h
  apply UInt8.toNat_inj.1
  rw [UInt8.toNat_ofNat']; omega
theorem val_canon : ∀ (n : Nat) (l : List UInt8) (v : Nat), l.length = n → l ≠ [] → l.head? ≠ some 48 → l.all isDig = true → val 0 l = some v → decDigits v = l ∧ 0 < v := by
  intro n
  induction n with
  | zero => intro l v hl hn; exact absurd (List.eq_nil_of_length_eq_zero hl) hn
  | succ n ih =>
    intro l v hl hn hh hd hv
    obtain ⟨m, b, rfl⟩ : ∃ m b, l = m ++ [b] := ⟨l.dropLast, l.getLast hn, (List.dropLast_concat_getLast hn).symm⟩
    rw [List.all_append, Bool.and_eq_true] at hd
    have hb : isDig b = true := by simpa using hd.2
    have hb' := hb
    unfold isDig at hb'
    simp only [Bool.and_eq_true, decide_eq_true_eq] at hb'
    rw [val_append] at hv
    by_cases hm : m = []
    · subst hm
      simp only [val, Option.bind_some] at hv
      split at hv
      · simp only [Option.some.injEq] at hv
        have hne : b ≠ 48 := by intro e; subst e; exact hh rfl
        have h48 : b.toNat ≠ 48 := by intro e; exact hne (UInt8.toNat_inj.1 e)
        have e : v = b.toNat - 48 := by omega
        subst e
        refine ⟨?_, by omega⟩
        rw [decDigits, dif_pos (by omega), byte_dig b hb]; rfl
      · cases hv
    · cases hw : val 0 m with
      | none => rw [hw] at hv; cases hv
      | some u =>
        rw [hw] at hv
        simp only [val, Option.bind_some] at hv
        split at hv
        · simp only [Option.some.injEq] at hv
          have hhm : m.head? ≠ some 48 := by
            cases m with
            | nil => exact absurd rfl hm
            | cons a t => simpa using hh
          obtain ⟨h1, h2⟩ := ih m u (by simpa using hl) hm hhm hd.1 hw
          have e1 : v / 10 = u := by omega
          have e2 : v % 10 = b.toNat - 48 := by omega
          refine ⟨?_, by omega⟩
          rw [decDigits, dif_neg (by omega), e1, e2, h1, byte_dig b hb]
        · cases hv
/-- is the word a number that is not below 0? -/
def numOk (w : List UInt8) : Bool := decide ((parseL w).2 = 0) && decide (0 ≤ (parseL w).1)
def numV (w : List UInt8) : Int := (parseL w).1
theorem num_canon (w : List UInt8) (h : numOk w = true) : itoa (numV w) = w := by
  unfold numOk at h
  simp only [Bool.and_eq_true, decide_eq_true_eq] at h
  obtain ⟨h1, h2⟩ := h
  unfold numV
  unfold parseL at h1 h2 ⊢
  by_cases hp : hasPrefix w [45] = true
  · simp only [hp, if_true] at h1 h2 ⊢
    by_cases hc : canonB (trimPrefix w [45]) true = true
    · rw [if_pos hc] at h1 h2 ⊢
      unfold canonB at hc
      split at hc
      · simp at hc
      · split at hc
        · cases hc
        · rename_i h3 h4
          cases hv : val 0 (trimPrefix w [45]) with
          | none => rw [hv] at h1; simp at h1
          | some v =>
            rw [hv] at h2
            simp only at h2
            have h4' : ¬ trimPrefix w [45] = [] ∧ ¬ (trimPrefix w [45]).head? = some 48 := by
              constructor
              · intro e; exact h4 (.inl e)
              · intro e; exact h4 (.inr e)
            have := (val_canon _ _ v rfl h4'.1 h4'.2 hc hv).2
            omega
    · rw [if_neg hc] at h1; simp at h1
  · simp only [Bool.not_eq_true] at hp
    have ht : trimPrefix w [45] = w := by unfold trimPrefix; rw [hp]; rfl
    simp only [hp, ht, Bool.false_eq_true, if_false] at h1 h2 ⊢
    by_cases hc : canonB w false = true
    · rw [if_pos hc] at h1 h2 ⊢
      unfold canonB at hc
      cases hv : val 0 w with
      | none => rw [hv] at h1; simp at h1
      | some v =>
        simp only
        split at hc
        · rename_i h3
          subst h3
          have : val 0 [48] = some 0 := by decide
          rw [this] at hv
          simp only [Option.some.injEq] at hv
          subst hv
          unfold itoa
          rw [if_neg (by decide)]
          exact dec_zero
        · split at hc
          · cases hc
          · rename_i h3 h4
            have h4' : ¬ w = [] ∧ ¬ w.head? = some 48 := by
              constructor
              · intro e; exact h4 (.inl e)
              · intro e; exact h4 (.inr e)
            have := (val_canon _ _ v rfl h4'.1 h4'.2 hc hv).1
            unfold itoa
            rw [if_neg (by omega)]
            simpa using this
    · rw [if_neg hc] at h1; simp at h1
theorem num_itoa (n : Int) (h0 : 0 ≤ n) (h1 : n ≤ 1099511627776) : numOk (itoa n) = true ∧ numV (itoa n) = n := by
  unfold numOk numV
  rw [parse_itoa, if_pos (by unfold far; omega)]
  simp [h0]

/- what is printed -/
def nums (l : List Int) : List (List UInt8) := l.map itoa
def litL (x : Int) : List UInt8 := joinL (nums [x])
def namL (x : Nam) : List UInt8 := joinL [x.kind.data.toList ++ itoa x.num, x.text.data.toList]
/- what is read -/
def eShort : Int := 8
def eSyntax : Int := 33
abbrev Got (α : Type) := Except (Nat × Int) α
def readAt {α : Type} (L : List (List UInt8)) (whole : Nat) (form : List UInt8 → Option α) (at_ : Nat) : Got α :=
  if whole ≤ at_ then .error (at_, eShort) else match form (L.getD at_ []) with
    | some a => .ok a
    | none => .error (at_, eSyntax)
def manyGo {α : Type} (L : List (List UInt8)) (whole : Nat) (form : List UInt8 → Option α) : Nat → Nat → List α → Got (List α × Nat)
  | 0, at_, acc => .ok (acc, at_)
  | n + 1, at_, acc => match readAt L whole form at_ with
    | .error e => .error e
    | .ok a => manyGo L whole form n (at_ + 1) (acc ++ [a])
/-- the words of a line whose form is one of so many words with one blank between -/
def wordsOk (counts : List Nat) (l : List UInt8) : Bool := counts.contains (wordsL l).length && (joinL (wordsL l) == l)
def formNums (k : Nat) (l : List UInt8) : Option (List Int) := if wordsOk [k] l && (wordsL l).all numOk then some ((wordsL l).map numV) else none
def formLit (l : List UInt8) : Option Int := (formNums 1 l).map fun ns => ns.getD 0 0
def formAnd (l : List UInt8) : Option Tri := (formNums 3 l).map fun ns => ⟨ns.getD 0 0, ns.getD 1 0, ns.getD 2 0⟩
def formLat (l : List UInt8) : Option Tri :=
  if wordsOk [2, 3] l && (numOk ((wordsL l).getD 0 []) && numOk ((wordsL l).getD 1 [])) then
    if (wordsL l).length = 3 then
      if numOk ((wordsL l).getD 2 []) && decide (numV ((wordsL l).getD 2 []) ≠ 0) then some ⟨numV ((wordsL l).getD 0 []), numV ((wordsL l).getD 1 []), numV ((wordsL l).getD 2 [])⟩ else none
    else some ⟨numV ((wordsL l).getD 0 []), numV ((wordsL l).getD 1 []), 0⟩
  else none
def kindsL : List UInt8 := [105, 108, 111, 98, 99]
def formNam (l : List UInt8) : Option Nam :=
  if wordsOk [2] l && (kindsL.contains (((wordsL l).getD 0 []).getD 0 0) && numOk (((wordsL l).getD 0 []).drop 1)) then
    some ⟨⟨(((wordsL l).getD 0 []).take 1).toArray⟩, numV (((wordsL l).getD 0 []).drop 1), ⟨((wordsL l).getD 1 []).toArray⟩⟩
  else none
/-- the names, to the end or to a single c -/
def namesGo (L : List (List UInt8)) (whole : Nat) : Nat → Nat → List Nam → Got (List Nam × Nat)
  | 0, at_, acc => .ok (acc, at_)
  | n + 1, at_, acc => if whole ≤ at_ then .error (at_, eShort) else if L.getD at_ [] = [99] then .ok (acc, at_) else match formNam (L.getD at_ []) with
    | none => .error (at_, eSyntax)
    | some a => namesGo L whole n (at_ + 1) (acc ++ [a])
def bindG {α β : Type} (x : Got α) (f : α → Got β) : Got β := match x with
  | .error e => .error e
  | .ok a => f a
/- reading many lines -/
theorem many_get {α : Type} (L : List (List UInt8)) (whole : Nat) (form : List UInt8 → Option α) : ∀ (n at_ : Nat) (acc : List α) (r : List α × Nat), manyGo L whole form n at_ acc = .ok r →
    ∃ xs, r = (acc ++ xs, at_ + n) ∧ xs.length = n ∧ (n = 0 ∨ at_ + n ≤ whole) ∧ ∀ (j : Nat) x, xs[j]? = some x → form (L.getD (at_ + j) []) = some x
  | 0, at_, acc, r, h => by
    simp only [manyGo, Except.ok.injEq] at h
    exact ⟨[], by rw [← h]; simp, rfl, .inl rfl, fun j x hj => by simp at hj⟩
  | n + 1, at_, acc, r, h => by
    rw [manyGo] at h
    cases hr : readAt L whole form at_ with
    | error e => rw [hr] at h; cases h
    | ok a =>
      rw [hr] at h
      simp only at h
      obtain ⟨xs, hx, hl, hw, hf⟩ := many_get L whole form n (at_ + 1) (acc ++ [a]) r h
      unfold readAt at hr
      split at hr
      · cases hr
      · rename_i hle
        refine ⟨a :: xs, ?_, by simp [hl], ?_, fun j x hj => ?_⟩
        · rw [hx]; simp [Nat.add_assoc, Nat.add_comm 1]
        · right; rcases hw with hw | hw <;> omega
        · cases j with
          | zero =>
            simp only [List.getElem?_cons_zero, Option.some.injEq] at hj
            subst hj
            rw [Nat.add_zero]
            split at hr
            · rename_i q
              simp only [Except.ok.injEq] at hr
              rw [q, hr]
            · cases hr
          | succ j =>
            have := hf j x (by simpa using hj)
            rw [Nat.add_assoc, Nat.add_comm 1 j] at this
            exact this
end Go.Proofs.YtopjddmgejfalaaGreatDoor.Aag
namespace Go.Proofs.YtopjddmgejfalaaGreatDoor.Aag
open Go.Lib Dig Circ

def OkN (x : Int) : Prop := 0 ≤ x ∧ x ≤ 1099511627776
def Word (w : List UInt8) : Prop := w ≠ [] ∧ (32 : UInt8) ∉ w ∧ (10 : UInt8) ∉ w
def NamFine (x : Nam) : Prop := (∃ k ∈ kindsL, x.kind.data.toList = [k]) ∧ OkN x.num ∧ Word x.text.data.toList
def TriFine (t : Tri) : Prop := OkN t.a ∧ OkN t.b ∧ OkN t.c
structure Fine (c : Cir) : Prop where
  max : OkN c.max
  ins : ∀ x ∈ c.ins, OkN x
  lats : ∀ x ∈ c.lats, TriFine x
  outs : ∀ x ∈ c.outs, OkN x
  bads : ∀ x ∈ c.bads, OkN x
  invs : ∀ x ∈ c.invs, OkN x
  ands : ∀ x ∈ c.ands, TriFine x
  names : ∀ x ∈ c.names, NamFine x
  li : c.ins.length ≤ 1099511627776
  ll : c.lats.length ≤ 1099511627776
  lo : c.outs.length ≤ 1099511627776
  lb : c.bads.length ≤ 1099511627776
  lc : c.invs.length ≤ 1099511627776
  la : c.ands.length ≤ 1099511627776

theorem dig_no (c : UInt8) (hc : isDig c = false) (l : List UInt8) (h : l.all isDig = true) : c ∉ l := fun hm => by
  rw [List.all_eq_true] at h
  have := h c hm
  rw [hc] at this; cases this
theorem itoa_dec (n : Int) (h : 0 ≤ n) : itoa n = decDigits n.toNat := by unfold itoa; rw [if_neg (by omega)]
theorem itoa_word (n : Int) (h : 0 ≤ n) : Word (itoa n) := by
  rw [itoa_dec n h]
  exact ⟨dec_ne_nil _, dig_no 32 (by decide) _ (dec_all _), dig_no 10 (by decide) _ (dec_all _)⟩
theorem nums_words (l : List Int) (h : ∀ x ∈ l, 0 ≤ x) : ∀ w ∈ nums l, Word w := fun w hw => by
  obtain ⟨x, hx, rfl⟩ := List.mem_map.1 hw
  exact itoa_word x (h x hx)
theorem words_of (ws : List (List UInt8)) (h : ∀ w ∈ ws, Word w) : wordsL (joinL ws) = ws := words_join ws fun p hp => ⟨(h p hp).1, (h p hp).2.1⟩
theorem wordsOk_of (counts : List Nat) (ws : List (List UInt8)) (h : ∀ w ∈ ws, Word w) : wordsOk counts (joinL ws) = counts.contains ws.length := by
  unfold wordsOk; rw [words_of ws h]; simp
theorem nums_all (l : List Int) (h : ∀ x ∈ l, OkN x) : (nums l).all numOk = true ∧ (nums l).map numV = l := by
  induction l with
  | nil => exact ⟨rfl, rfl⟩
  | cons x l ih =>
    obtain ⟨h1, h2⟩ := ih fun y hy => h y (List.mem_cons_of_mem _ hy)
    obtain ⟨g1, g2⟩ := num_itoa x (h x List.mem_cons_self).1 (h x List.mem_cons_self).2
    unfold nums at h1 h2 ⊢
    simp only [List.map_cons, List.all_cons, g1, g2, h2]
    exact ⟨by simpa using h1, trivial⟩
theorem formNums_of (l : List Int) (h : ∀ x ∈ l, OkN x) : formNums l.length (joinL (nums l)) = some l := by
  have hw := nums_words l fun x hx => (h x hx).1
  obtain ⟨h1, h2⟩ := nums_all l h
  unfold formNums
  rw [wordsOk_of _ _ hw, words_of _ hw, h1, h2]
  simp [nums]
theorem nums_back (ws : List (List UInt8)) (h : ws.all numOk = true) : nums (ws.map numV) = ws := by
  induction ws with
  | nil => rfl
  | cons w ws ih =>
    simp only [List.all_cons, Bool.and_eq_true] at h
    have := ih h.2
    unfold nums at this ⊢
    simp only [List.map_cons, num_canon w h.1]
    rw [this]
theorem formNums_get (k : Nat) (l : List UInt8) (ns : List Int) (h : formNums k l = some ns) : ns.length = k ∧ l = joinL (nums ns) ∧ ∀ x ∈ ns, 0 ≤ x := by
  unfold formNums at h
  split at h
  · rename_i q
    simp only [Bool.and_eq_true] at q
    simp only [Option.some.injEq] at h
    subst h
    unfold wordsOk at q
    simp only [Bool.and_eq_true, beq_iff_eq] at q
    refine ⟨?_, ?_, fun x hx => ?_⟩
    · have := q.1.1; simpa using this
    · rw [nums_back _ q.2]; exact q.1.2.symm
    · obtain ⟨w, hw, rfl⟩ := List.mem_map.1 hx
      have := List.all_eq_true.1 q.2 w hw
      unfold numOk at this
      simp only [Bool.and_eq_true, decide_eq_true_eq] at this
      exact this.2
  · cases h
theorem formLit_of (x : Int) (h : OkN x) : formLit (litL x) = some x := by
  unfold formLit litL
  rw [show formNums 1 (joinL (nums [x])) = some [x] from formNums_of [x] (by simpa using h)]; rfl
theorem formLit_get (l : List UInt8) (x : Int) (h : formLit l = some x) : l = litL x := by
  unfold formLit at h
  cases hq : formNums 1 l with
  | none => rw [hq] at h; cases h
  | some ns =>
    rw [hq] at h
    obtain ⟨h1, h2, _⟩ := formNums_get 1 l ns hq
    match ns, h1 with
    | [y], _ =>
      simp only [Option.map_some, List.getD_cons_zero, Option.some.injEq] at h
      subst h; exact h2
theorem kind_plain (k : UInt8) (h : k ∈ kindsL) : k ≠ 32 ∧ k ≠ 10 := by
  unfold kindsL at h
  simp only [List.mem_cons, List.not_mem_nil, or_false] at h
  rcases h with rfl | rfl | rfl | rfl | rfl <;> decide
theorem nam_words (x : Nam) (h : NamFine x) : ∀ w ∈ [x.kind.data.toList ++ itoa x.num, x.text.data.toList], Word w := fun w hw => by
  obtain ⟨⟨k, hk, hkk⟩, hn, ht⟩ := h
  obtain ⟨k1, k2⟩ := kind_plain k hk
  have hi := itoa_word x.num hn.1
  simp only [List.mem_cons, List.not_mem_nil, or_false] at hw
  rcases hw with rfl | rfl
  · rw [hkk]
    refine ⟨by simp, ?_, ?_⟩
    · intro hm
      rcases List.mem_cons.1 hm with e | e
      · exact k1 e.symm
      · exact hi.2.1 e
    · intro hm
      rcases List.mem_cons.1 hm with e | e
      · exact k2 e.symm
      · exact hi.2.2 e
  · exact ht
theorem formNam_of (x : Nam) (h : NamFine x) : formNam (namL x) = some x := by
  have hw := nam_words x h
  obtain ⟨⟨k, hk, hkk⟩, hn, ht⟩ := h
  obtain ⟨n1, n2⟩ := num_itoa x.num hn.1 hn.2
  unfold formNam namL
  rw [wordsOk_of _ _ hw, words_of _ hw, hkk]
  have hc : kindsL.contains k = true := by simpa using hk
  simp only [List.singleton_append, List.getD_cons_zero, List.getD_cons_succ, List.drop_succ_cons, List.drop_zero, List.take_succ_cons, List.take_zero, n1, n2, hc]
  obtain ⟨⟨⟨kl⟩⟩, nu, ⟨⟨tl⟩⟩⟩ := x
  simp only at hkk
  subst hkk
  simp
theorem formNam_get (l : List UInt8) (x : Nam) (h : formNam l = some x) : l = namL x := by
  unfold formNam at h
  split at h
  · rename_i q
    simp only [Bool.and_eq_true] at q
    obtain ⟨q0, q1, q2⟩ := q
    simp only [Option.some.injEq] at h
    subst h
    unfold wordsOk at q0
    simp only [Bool.and_eq_true, beq_iff_eq] at q0
    have hl : (wordsL l).length = 2 := by simpa using q0.1
    have hw1 := words_ne l
    unfold namL
    match hw : wordsL l, hl with
    | [w0, w1], _ =>
      rw [hw] at q0 q1 q2 hw1
      simp only [List.getD_cons_zero, List.getD_cons_succ] at q1 q2 ⊢
      rw [num_canon _ q2]
      have h0 := (hw1 w0 List.mem_cons_self).1
      cases w0 with
      | nil => exact absurd rfl h0
      | cons a t => simpa using q0.2.symm
  · cases h

/- where lines lie -/
theorem nonneg_len (n : Nat) (h : n ≤ 1099511627776) : OkN (n : Int) := ⟨by omega, by omega⟩

/- a text that is read -/
/-- the lines from at_ on are those of xs -/
def Seg (L : List (List UInt8)) (at_ : Nat) (ls : List (List UInt8)) : Prop := ∀ (j : Nat) y, ls[j]? = some y → L.getD (at_ + j) [] = y
theorem Seg.append {L : List (List UInt8)} {at_ : Nat} {a b : List (List UInt8)} (h1 : Seg L at_ a) (h2 : Seg L (at_ + a.length) b) : Seg L at_ (a ++ b) := fun j y hj => by
  by_cases hl : j < a.length
  · rw [List.getElem?_append_left hl] at hj; exact h1 j y hj
  · rw [List.getElem?_append_right (by omega)] at hj
    have := h2 _ y hj
    rw [show at_ + a.length + (j - a.length) = at_ + j by omega] at this
    exact this
theorem Seg.all {L ls : List (List UInt8)} (h : Seg L 0 ls) (hl : ls.length ≤ L.length) : ∃ more, L = ls ++ more := by
  refine ⟨L.drop ls.length, ?_⟩
  have : L.take ls.length = ls := by
    apply List.ext_getElem?
    intro i
    by_cases hi : i < ls.length
    · rw [List.getElem?_take, if_pos hi]
      have := h i ls[i] (List.getElem?_eq_getElem hi)
      rw [Nat.zero_add, List.getD_eq_getElem?_getD, List.getElem?_eq_getElem (by omega)] at this
      rw [List.getElem?_eq_getElem (by omega), List.getElem?_eq_getElem hi]
      simpa using this
    · rw [List.getElem?_eq_none (by simp; omega), List.getElem?_eq_none (by omega)]
  rw [← List.take_append_drop ls.length L, this]
  simp

/- texts and their lines -/
theorem join_no10 (ws : List (List UInt8)) (h : ∀ w ∈ ws, Word w) : (10 : UInt8) ∉ joinL ws := by
  cases ws with
  | nil => simp [joinL]
  | cons x l =>
    rw [joinL_eq]
    intro hm
    rcases List.mem_append.1 hm with h1 | h1
    · exact (h x List.mem_cons_self).2.2 h1
    · obtain ⟨p, hp, hq⟩ := List.mem_flatten.1 h1
      obtain ⟨q, hq1, rfl⟩ := List.mem_map.1 hp
      rcases List.mem_cons.1 hq with e | e
      · cases e
      · exact (h q (List.mem_cons_of_mem _ hq1)).2.2 e
end Go.Proofs.YtopjddmgejfalaaGreatDoor.Aag
namespace Go.Proofs.YtopjddmgejfalaaGreatDoor.Aag
open Go.Lib Dig Circ

def eLong : Int := 5
end Go.Proofs.YtopjddmgejfalaaGreatDoor.Aag
namespace Go.Proofs.YtopjddmgejfalaaGreatDoor.Aag
open Go.Lib Dig Circ

theorem val_far : ∀ (l : List UInt8) (n v : Nat), n ≤ 1099511627776 → val n l = some v → v ≤ 1099511627776
  | [], n, v, hn, h => by simp only [val, Option.some.injEq] at h; omega
  | b :: l, n, v, hn, h => by
    simp only [val] at h
    split at h
    · rename_i hle
      unfold far at hle
      exact val_far l _ v hle h
    · cases h
theorem numV_ok {w : List UInt8} (h : numOk w = true) : OkN (numV w) := by
  unfold numOk at h
  simp only [Bool.and_eq_true, decide_eq_true_eq] at h
  obtain ⟨h1, h2⟩ := h
  refine ⟨h2, ?_⟩
  unfold numV
  unfold parseL at h2 ⊢
  simp only at h2 ⊢
  split
  · split
    · rename_i v hv
      have := val_far _ 0 v (by omega) hv
      split <;> omega
    · simp
  · simp
theorem map_ok {ws : List (List UInt8)} (h : ws.all numOk = true) : ∀ x ∈ ws.map numV, OkN x := fun x hx => by
  obtain ⟨w, hw, rfl⟩ := List.mem_map.1 hx
  exact numV_ok (List.all_eq_true.1 h w hw)
theorem formNums_ok {k : Nat} {l : List UInt8} {ns : List Int} (h : formNums k l = some ns) : ∀ x ∈ ns, OkN x := by
  unfold formNums at h
  split at h
  · rename_i q
    simp only [Bool.and_eq_true] at q
    simp only [Option.some.injEq] at h
    subst h
    exact map_ok q.2
  · cases h
theorem ok_zero : OkN 0 := ⟨by omega, by omega⟩
theorem getD_ok {ns : List Int} (h : ∀ x ∈ ns, OkN x) (k : Nat) : OkN (ns.getD k 0) := by
  rw [List.getD_eq_getElem?_getD]
  cases hq : ns[k]? with
  | none => exact ok_zero
  | some y => exact h y (List.mem_of_getElem? hq)
theorem formLit_ok {l : List UInt8} {x : Int} (h : formLit l = some x) : OkN x := by
  unfold formLit at h
  cases hf : formNums 1 l with
  | none => rw [hf] at h; cases h
  | some ns =>
    rw [hf] at h
    simp only [Option.map_some, Option.some.injEq] at h
    rw [← h]; exact getD_ok (formNums_ok hf) 0
theorem word_le (l : List UInt8) (k : Nat) : ((wordsL l).getD k []).length ≤ l.length + 1 := by
  have h2 := pieces_size 32 (fun p _ => !p.isEmpty) l
  have h2' : (wordsL l).flatten.length + (wordsL l).length ≤ l.length + 1 := h2
  rw [List.getD_eq_getElem?_getD]
  cases hq : (wordsL l)[k]? with
  | none => simp
  | some y =>
    have h3 : y.length ≤ (wordsL l).flatten.length := by
      have hm := List.mem_of_getElem? hq
      obtain ⟨s, t, e⟩ := List.append_of_mem hm
      rw [e]; simp; omega
    simp only [Option.getD_some]; omega
theorem formNam_ok {l : List UInt8} {x : Nam} (h : formNam l = some x) : OkN x.num ∧ x.kind.size ≤ l.length + 1 ∧ x.text.size ≤ l.length + 1 := by
  unfold formNam at h
  split at h
  · rename_i q
    simp only [Bool.and_eq_true] at q
    simp only [Option.some.injEq] at h
    subst h
    have h0 := word_le l 0
    have h1 := word_le l 1
    refine ⟨numV_ok q.2.2, ?_, ?_⟩
    · simp only [ByteArray.size, List.size_toArray, List.length_take]; omega
    · simp only [ByteArray.size, List.size_toArray]; exact h1
  · cases h
theorem many_all {α : Type} {L : List (List UInt8)} {whole : Nat} {form : List UInt8 → Option α} {n at_ : Nat} {r : List α × Nat} (h : manyGo L whole form n at_ [] = .ok r) : (∀ x ∈ r.1, ∃ k, form (L.getD k []) = some x) ∧ (r.1.length = 0 ∨ at_ + r.1.length ≤ whole) ∧ r.2 = at_ + r.1.length := by
  obtain ⟨xs, hr, hl, hw, hf⟩ := many_get L whole form n at_ [] r h
  subst hr
  simp only [List.nil_append]
  refine ⟨fun x hx => ?_, by rw [hl]; exact hw, by rw [hl]⟩
  obtain ⟨j, hj⟩ := List.mem_iff_getElem?.1 hx
  exact ⟨_, hf j x hj⟩
/- the reading of a circuit, part by part -/
abbrev RL := List Int × Nat
abbrev RT := List Tri × Nat
def k7 (L : List (List UInt8)) (wh : Nat) (n : List Int) (r1 : RL) (r2 : RT) (r3 r4 r5 : RL) (r6 : RT) : Got (Cir × Nat) := bindG (namesGo L wh (L.length - r6.2) r6.2 []) fun r7 => .ok (⟨n.getD 0 0, r1.1, r2.1, r3.1, r4.1, r5.1, r6.1, r7.1⟩, r7.2)
def k6 (L : List (List UInt8)) (wh : Nat) (n : List Int) (r1 : RL) (r2 : RT) (r3 r4 r5 : RL) : Got (Cir × Nat) := bindG (manyGo L wh formAnd (n.getD 4 0).toNat r5.2 []) fun r6 => k7 L wh n r1 r2 r3 r4 r5 r6
def k5 (L : List (List UInt8)) (wh : Nat) (n : List Int) (r1 : RL) (r2 : RT) (r3 r4 : RL) : Got (Cir × Nat) := bindG (manyGo L wh formLit (n.getD 6 0).toNat r4.2 []) fun r5 => k6 L wh n r1 r2 r3 r4 r5
def k4 (L : List (List UInt8)) (wh : Nat) (n : List Int) (r1 : RL) (r2 : RT) (r3 : RL) : Got (Cir × Nat) := bindG (manyGo L wh formLit (n.getD 5 0).toNat r3.2 []) fun r4 => k5 L wh n r1 r2 r3 r4
def k3 (L : List (List UInt8)) (wh : Nat) (n : List Int) (r1 : RL) (r2 : RT) : Got (Cir × Nat) := bindG (manyGo L wh formLit (n.getD 3 0).toNat r2.2 []) fun r3 => k4 L wh n r1 r2 r3
def k2 (L : List (List UInt8)) (wh : Nat) (n : List Int) (r1 : RL) : Got (Cir × Nat) := bindG (manyGo L wh formLat (n.getD 2 0).toNat r1.2 []) fun r2 => k3 L wh n r1 r2
def k1 (L : List (List UInt8)) (wh : Nat) (n : List Int) : Got (Cir × Nat) := bindG (manyGo L wh formLit (n.getD 1 0).toNat 1 []) fun r1 => k2 L wh n r1
/-- a circuit that is read is small -/
structure Small (c : Cir) : Prop where
  max : OkN c.max
  ins : ∀ x ∈ c.ins, OkN x
  lats : ∀ x ∈ c.lats, TriFine x
  outs : ∀ x ∈ c.outs, OkN x
  bads : ∀ x ∈ c.bads, OkN x
  invs : ∀ x ∈ c.invs, OkN x
  ands : ∀ x ∈ c.ands, TriFine x
  names : ∀ x ∈ c.names, OkN x.num ∧ x.kind.size ≤ 65537 ∧ x.text.size ≤ 65537
  li : c.ins.length ≤ 65537
  ll : c.lats.length ≤ 65537
  lo : c.outs.length ≤ 65537
  lb : c.bads.length ≤ 65537
  lc : c.invs.length ≤ 65537
  la : c.ands.length ≤ 65537
  ln : c.names.length ≤ 65537
end Go.Proofs.YtopjddmgejfalaaGreatDoor.Aag
