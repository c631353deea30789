/- Circuits come back from their texts, and texts from their circuits, on plain lists; no program is named here, no condition. -/
import Derived.Test.YtpbggngeopjefaaDoorPk11
namespace Go.Proofs.YtpbggngeopjefaaDoor.Aag
open Go.Lib Dig Circ

def OkN (x : Int) : Prop := 0 ≤ x ∧ x ≤ 1099511627776
def Word (w : List UInt8) : Prop := w ≠ [] ∧ (32 : UInt8) ∉ w ∧ (10 : UInt8) ∉ w
def NamFine (x : Nam) : Prop := (∃ k ∈ kindsL, x.kind.data.toList = [k]) ∧ OkN x.num ∧ Word x.text.data.toList
def TriFine (t : Tri) : Prop := OkN t.a ∧ OkN t.b ∧ OkN t.c
structure Fine (c : Cir) : Prop where
  max : OkN c.max
  ins : ∀ x ∈ c.ins, OkN x
  lats : ∀ x ∈ c.lats, TriFine x
  outs : ∀ x ∈ c.outs, OkN x
  bads : ∀ x ∈ c.bads, OkN x
  invs : ∀ x ∈ c.invs, OkN x
  ands : ∀ x ∈ c.ands, TriFine x
  names : ∀ x ∈ c.names, NamFine x
  li : c.ins.length ≤ 1099511627776
  ll : c.lats.length ≤ 1099511627776
  lo : c.outs.length ≤ 1099511627776
  lb : c.bads.length ≤ 1099511627776
  lc : c.invs.length ≤ 1099511627776
  la : c.ands.length ≤ 1099511627776

theorem dig_no (c : UInt8) (hc : isDig c = false) (l : List UInt8) (h : l.all isDig = true) : c ∉ l := fun hm => by
  rw [List.all_eq_true] at h
  have := h c hm
  rw [hc] at this; cases this
theorem itoa_dec (n : Int) (h : 0 ≤ n) : itoa n = decDigits n.toNat := by unfold itoa; rw [if_neg (by omega)]
theorem itoa_word (n : Int) (h : 0 ≤ n) : Word (itoa n) := by
  rw [itoa_dec n h]
  exact ⟨dec_ne_nil _, dig_no 32 (by decide) _ (dec_all _), dig_no 10 (by decide) _ (dec_all _)⟩
theorem nums_words (l : List Int) (h : ∀ x ∈ l, 0 ≤ x) : ∀ w ∈ nums l, Word w := fun w hw => by
  obtain ⟨x, hx, rfl⟩ := List.mem_map.1 hw
  exact itoa_word x (h x hx)
theorem words_of (ws : List (List UInt8)) (h : ∀ w ∈ ws, Word w) : wordsL (joinL ws) = ws := words_join ws fun p hp => ⟨(h p hp).1, (h p hp).2.1⟩
theorem wordsOk_of (counts : List Nat) (ws : List (List UInt8)) (h : ∀ w ∈ ws, Word w) : wordsOk counts (joinL ws) = counts.contains ws.length := by
  unfold wordsOk; rw [words_of ws h]; simp
theorem nums_all (l : List Int) (h : ∀ x ∈ l, OkN x) : (nums l).all numOk = true ∧ (nums l).map numV = l := by
  induction l with
  | nil => exact ⟨rfl, rfl⟩
  | cons x l ih =>
    obtain ⟨h1, h2⟩ := ih fun y hy => h y (List.mem_cons_of_mem _ hy)
    obtain ⟨g1, g2⟩ := num_itoa x (h x List.mem_cons_self).1 (h x List.mem_cons_self).2
    unfold nums at h1 h2 ⊢
    simp only [List.map_cons, List.all_cons, g1, g2, h2]
    exact ⟨by simpa using h1, trivial⟩
theorem formNums_of (l : List Int) (h : ∀ x ∈ l, OkN x) : formNums l.length (joinL (nums l)) = some l := by
  have hw := nums_words l fun x hx => (h x hx).1
  obtain ⟨h1, h2⟩ := nums_all l h
  unfold formNums
  rw [wordsOk_of _ _ hw, words_of _ hw, h1, h2]
  simp [nums]
theorem nums_back (ws : List (List UInt8)) (h : ws.all numOk = true) : nums (ws.map numV) = ws := by
  induction ws with
  | nil => rfl
  | cons w ws ih =>
    simp only [List.all_cons, Bool.and_eq_true] at h
    have := ih h.2
    unfold nums at this ⊢
    simp only [List.map_cons, num_canon w h.1]
    rw [this]
theorem formNums_get (k : Nat) (l : List UInt8) (ns : List Int) (h : formNums k l = some ns) : ns.length = k ∧ l = joinL (nums ns) ∧ ∀ x ∈ ns, 0 ≤ x := by
  unfold formNums at h
  split at h
  · rename_i q
    simp only [Bool.and_eq_true] at q
    simp only [Option.some.injEq] at h
    subst h
    unfold wordsOk at q
    simp only [Bool.and_eq_true, beq_iff_eq] at q
    refine ⟨?_, ?_, fun x hx => ?_⟩
    · have := q.1.1; simpa using this
    · rw [nums_back _ q.2]; exact q.1.2.symm
    · obtain ⟨w, hw, rfl⟩ := List.mem_map.1 hx
      have := List.all_eq_true.1 q.2 w hw
      unfold numOk at this
      simp only [Bool.and_eq_true, decide_eq_true_eq] at this
      exact this.2
  · cases h
theorem formLit_of (x : Int) (h : OkN x) : formLit (litL x) = some x := by
  unfold formLit litL
  rw [show formNums 1 (joinL (nums [x])) = some [x] from formNums_of [x] (by simpa using h)]; rfl
theorem formLit_get (l : List UInt8) (x : Int) (h : formLit l = some x) : l = litL x := by
  unfold formLit at h
  cases hq : formNums 1 l with
  | none => rw [hq] at h; cases h
  | some ns =>
    rw [hq] at h
    obtain ⟨h1, h2, _⟩ := formNums_get 1 l ns hq
    match ns, h1 with
    | [y], _ =>
      simp only [Option.map_some, List.getD_cons_zero, Option.some.injEq] at h
      subst h; exact h2
theorem formAnd_of (t : Tri) (h : TriFine t) : formAnd (andL t) = some t := by
  unfold formAnd andL
  rw [show formNums 3 (joinL (nums [t.a, t.b, t.c])) = some [t.a, t.b, t.c] from formNums_of [t.a, t.b, t.c] (by simpa using ⟨h.1, h.2.1, h.2.2⟩)]; rfl
theorem formAnd_get (l : List UInt8) (t : Tri) (h : formAnd l = some t) : l = andL t := by
  unfold formAnd at h
  cases hq : formNums 3 l with
  | none => rw [hq] at h; cases h
  | some ns =>
    rw [hq] at h
    obtain ⟨h1, h2, _⟩ := formNums_get 3 l ns hq
    match ns, h1 with
    | [x, y, z], _ =>
      simp only [Option.map_some, Option.some.injEq] at h
      subst h; exact h2
theorem formLat_of (t : Tri) (h : TriFine t) : formLat (latL t) = some t := by
  obtain ⟨a, b, c⟩ := t
  obtain ⟨h1, h2, h3⟩ := h
  obtain ⟨a1, a2⟩ := num_itoa a h1.1 h1.2
  obtain ⟨b1, b2⟩ := num_itoa b h2.1 h2.2
  obtain ⟨c1, c2⟩ := num_itoa c h3.1 h3.2
  unfold formLat latL
  by_cases hc : c = 0
  · subst hc
    have hw := nums_words [a, b] (by simpa using ⟨h1.1, h2.1⟩)
    simp only [if_true]
    rw [wordsOk_of _ _ hw, words_of _ hw]
    simp [nums, a1, a2, b1, b2]
  · have hw := nums_words [a, b, c] (by simpa using ⟨h1.1, h2.1, h3.1⟩)
    simp only [if_neg hc]
    rw [wordsOk_of _ _ hw, words_of _ hw]
    simp [nums, a1, a2, b1, b2, c1, c2, hc]
theorem formLat_get (l : List UInt8) (t : Tri) (h : formLat l = some t) : l = latL t := by
  unfold formLat at h
  split at h
  · rename_i q
    unfold wordsOk at q
    simp only [Bool.and_eq_true, beq_iff_eq] at q
    obtain ⟨⟨q0, q1⟩, q2, q3⟩ := q
    split at h
    · rename_i h3
      split at h
      · rename_i h4
        simp only [Bool.and_eq_true, decide_eq_true_eq] at h4
        simp only [Option.some.injEq] at h
        subst h
        unfold latL
        simp only [if_neg h4.2]
        match hw : wordsL l, h3 with
        | [x, y, z], _ =>
          rw [hw] at q1 q2 q3 h4
          simp only [List.getD_cons_zero, List.getD_cons_succ] at q2 q3 h4 ⊢
          unfold nums
          simp only [List.map_cons, List.map_nil, num_canon x q2, num_canon y q3, num_canon z h4.1]
          exact q1.symm
      · cases h
    · rename_i h3
      simp only [Option.some.injEq] at h
      subst h
      unfold latL
      simp only [if_true]
      have h2 : (wordsL l).length = 2 := by
        have : (wordsL l).length = 2 ∨ (wordsL l).length = 3 := by simpa using q0
        rcases this with h | h
        · exact h
        · exact absurd h h3
      match hw : wordsL l, h2 with
      | [x, y], _ =>
        rw [hw] at q1 q2 q3
        simp only [List.getD_cons_zero, List.getD_cons_succ] at q2 q3 ⊢
        unfold nums
        simp only [List.map_cons, List.map_nil, num_canon x q2, num_canon y q3]
        exact q1.symm
  · cases h
theorem aag_word : Word [97, 97, 103] := by unfold Word; decide
theorem formHead_of (ns : List Int) (hl : ns.length = 7) (h : ∀ x ∈ ns, OkN x) : formHead (joinL ([97, 97, 103] :: nums ns)) = some ns := by
  have hw : ∀ w ∈ [97, 97, 103] :: nums ns, Word w := fun w hw => by
    rcases List.mem_cons.1 hw with rfl | hw
    · exact aag_word
    · exact nums_words ns (fun x hx => (h x hx).1) w hw
  obtain ⟨h1, h2⟩ := nums_all ns h
  unfold formHead
  rw [wordsOk_of _ _ hw, words_of _ hw]
  simp only [List.drop_one, List.tail_cons, h1, h2, List.getD_cons_zero]
  simp [nums, hl]
theorem formHead_get (l : List UInt8) (ns : List Int) (h : formHead l = some ns) : ns.length = 7 ∧ l = joinL ([97, 97, 103] :: nums ns) ∧ ∀ x ∈ ns, 0 ≤ x := by
  unfold formHead at h
  split at h
  · rename_i q
    simp only [Bool.and_eq_true] at q
    obtain ⟨q0, q1, q2⟩ := q
    simp only [Option.some.injEq] at h
    subst h
    unfold wordsOk at q0
    simp only [Bool.and_eq_true, beq_iff_eq] at q0 q1
    have hl : (wordsL l).length = 8 := by simpa using q0.1
    refine ⟨by simp [hl], ?_, fun x hx => ?_⟩
    · rw [nums_back _ q2]
      have : wordsL l = [97, 97, 103] :: (wordsL l).drop 1 := by
        cases hw : wordsL l with
        | nil => rw [hw] at hl; cases hl
        | cons a t => rw [hw] at q1; simp only [List.getD_cons_zero] at q1; subst q1; rfl
      rw [← this]; exact q0.2.symm
    · obtain ⟨w, hw, rfl⟩ := List.mem_map.1 hx
      have := List.all_eq_true.1 q2 w hw
      unfold numOk at this
      simp only [Bool.and_eq_true, decide_eq_true_eq] at this
      exact this.2
  · cases h
theorem kind_plain (k : UInt8) (h : k ∈ kindsL) : k ≠ 32 ∧ k ≠ 10 := by
  unfold kindsL at h
  simp only [List.mem_cons, List.not_mem_nil, or_false] at h
  rcases h with rfl | rfl | rfl | rfl | rfl <;> decide
theorem nam_words (x : Nam) (h : NamFine x) : ∀ w ∈ [x.kind.data.toList ++ itoa x.num, x.text.data.toList], Word w := fun w hw => by
  obtain ⟨⟨k, hk, hkk⟩, hn, ht⟩ := h
  obtain ⟨k1, k2⟩ := kind_plain k hk
  have hi := itoa_word x.num hn.1
  simp only [List.mem_cons, List.not_mem_nil, or_false] at hw
  rcases hw with rfl | rfl
  · rw [hkk]
    refine ⟨by simp, ?_, ?_⟩
    · intro hm
      rcases List.mem_cons.1 hm with e | e
      · exact k1 e.symm
      · exact hi.2.1 e
    · intro hm
      rcases List.mem_cons.1 hm with e | e
      · exact k2 e.symm
      · exact hi.2.2 e
  · exact ht
theorem formNam_of (x : Nam) (h : NamFine x) : formNam (namL x) = some x := by
  have hw := nam_words x h
  obtain ⟨⟨k, hk, hkk⟩, hn, ht⟩ := h
  obtain ⟨n1, n2⟩ := num_itoa x.num hn.1 hn.2
  unfold formNam namL
  rw [wordsOk_of _ _ hw, words_of _ hw, hkk]
  have hc : kindsL.contains k = true := by simpa using hk
  simp only [List.singleton_append, List.getD_cons_zero, List.getD_cons_succ, List.drop_succ_cons, List.drop_zero, List.take_succ_cons, List.take_zero, n1, n2, hc]
  obtain ⟨⟨⟨kl⟩⟩, nu, ⟨⟨tl⟩⟩⟩ := x
  simp only at hkk
  subst hkk
  simp
theorem formNam_get (l : List UInt8) (x : Nam) (h : formNam l = some x) : l = namL x := by
  unfold formNam at h
  split at h
  · rename_i q
    simp only [Bool.and_eq_true] at q
    obtain ⟨q0, q1, q2⟩ := q
    simp only [Option.some.injEq] at h
    subst h
    unfold wordsOk at q0
    simp only [Bool.and_eq_true, beq_iff_eq] at q0
    have hl : (wordsL l).length = 2 := by simpa using q0.1
    have hw1 := words_ne l
    unfold namL
    match hw : wordsL l, hl with
    | [w0, w1], _ =>
      rw [hw] at q0 q1 q2 hw1
      simp only [List.getD_cons_zero, List.getD_cons_succ] at q1 q2 ⊢
      rw [num_canon _ q2]
      have h0 := (hw1 w0 List.mem_cons_self).1
      cases w0 with
      | nil => exact absurd rfl h0
      | cons a t => simpa using q0.2.symm
  · cases h

/- where lines lie -/
theorem seg_get {α : Type} (L P Q : List (List UInt8)) (f : α → List UInt8) (xs : List α) (at_ : Nat) (hL : L = P ++ (xs.map f ++ Q)) (hat : at_ = P.length) (j : Nat) (x : α) (hj : xs[j]? = some x) : L.getD (at_ + j) [] = f x := by
  subst hL; subst hat
  have hl := (List.getElem?_eq_some_iff.1 hj).1
  rw [List.getD_eq_getElem?_getD, List.getElem?_append_right (by omega), Nat.add_sub_cancel_left, List.getElem?_append_left (by simpa using hl), List.getElem?_map, hj]
  rfl
theorem nonneg_len (n : Nat) (h : n ≤ 1099511627776) : OkN (n : Int) := ⟨by omega, by omega⟩

/-- A CIRCUIT COMES BACK FROM ITS LINES -/
theorem circ_back (c : Cir) (hf : Fine c) (more : List (List UInt8)) (whole : Nat) (hw : (linesOf c).length ≤ whole) (hm : more = [] ∨ (more.getD 0 [] = [99] ∧ more ≠ [] ∧ (linesOf c).length < whole)) (hc : ∀ x ∈ c.names, namL x ≠ [99]) :
    circM (linesOf c ++ more) whole = .ok (c, (linesOf c).length) := by
  have hlen : (linesOf c).length = 1 + (c.ins.length + (c.lats.length + (c.outs.length + (c.bads.length + (c.invs.length + (c.ands.length + c.names.length)))))) := by
    unfold linesOf; simp; omega
  obtain ⟨L, hL⟩ : ∃ L, L = linesOf c ++ more := ⟨_, rfl⟩
  rw [← hL]
  have hLl : L.length = (linesOf c).length + more.length := by rw [hL]; simp
  have l0 : L = [] ++ ([()].map (fun _ => headL c) ++ (linesOf c).tail ++ more) := by rw [hL]; unfold linesOf; simp
  have l1 : L = [headL c] ++ (c.ins.map litL ++ (c.lats.map latL ++ (c.outs.map litL ++ (c.bads.map litL ++ (c.invs.map litL ++ (c.ands.map andL ++ (c.names.map namL ++ more))))))) := by rw [hL]; unfold linesOf; simp
  have l2 : L = ([headL c] ++ c.ins.map litL) ++ (c.lats.map latL ++ (c.outs.map litL ++ (c.bads.map litL ++ (c.invs.map litL ++ (c.ands.map andL ++ (c.names.map namL ++ more)))))) := by rw [l1]; simp
  have l3 : L = ([headL c] ++ c.ins.map litL ++ c.lats.map latL) ++ (c.outs.map litL ++ (c.bads.map litL ++ (c.invs.map litL ++ (c.ands.map andL ++ (c.names.map namL ++ more))))) := by rw [l1]; simp
  have l4 : L = ([headL c] ++ c.ins.map litL ++ c.lats.map latL ++ c.outs.map litL) ++ (c.bads.map litL ++ (c.invs.map litL ++ (c.ands.map andL ++ (c.names.map namL ++ more)))) := by rw [l1]; simp
  have l5 : L = ([headL c] ++ c.ins.map litL ++ c.lats.map latL ++ c.outs.map litL ++ c.bads.map litL) ++ (c.invs.map litL ++ (c.ands.map andL ++ (c.names.map namL ++ more))) := by rw [l1]; simp
  have l6 : L = ([headL c] ++ c.ins.map litL ++ c.lats.map latL ++ c.outs.map litL ++ c.bads.map litL ++ c.invs.map litL) ++ (c.ands.map andL ++ (c.names.map namL ++ more)) := by rw [l1]; simp
  have l7 : L = ([headL c] ++ c.ins.map litL ++ c.lats.map latL ++ c.outs.map litL ++ c.bads.map litL ++ c.invs.map litL ++ c.ands.map andL) ++ (c.names.map namL ++ more) := by rw [l1]; simp
  have l8 : L = ([headL c] ++ c.ins.map litL ++ c.lats.map latL ++ c.outs.map litL ++ c.bads.map litL ++ c.invs.map litL ++ c.ands.map andL ++ c.names.map namL) ++ ([()].map (fun _ => more.getD 0 []) ++ more.tail) ∨ more = [] := by
    cases more with
    | nil => right; rfl
    | cons a t => left; rw [l1]; simp
  have hh : readAt L whole formHead 0 = .ok [c.max, c.ins.length, c.lats.length, c.outs.length, c.ands.length, c.bads.length, c.invs.length] := by
    unfold readAt
    rw [if_neg (by omega)]
    have : L.getD 0 [] = headL c := by rw [l1]; rfl
    rw [this]
    unfold headL
    rw [formHead_of _ rfl (by
      intro x hx
      simp only [List.mem_cons, List.not_mem_nil, or_false] at hx
      rcases hx with rfl | rfl | rfl | rfl | rfl | rfl | rfl
      · exact hf.max
      · exact nonneg_len _ hf.li
      · exact nonneg_len _ hf.ll
      · exact nonneg_len _ hf.lo
      · exact nonneg_len _ hf.la
      · exact nonneg_len _ hf.lb
      · exact nonneg_len _ hf.lc)]
  unfold circM
  rw [hh]
  simp only [bindG, List.getD_cons_zero, List.getD_cons_succ, Int.toNat_natCast]
  rw [many_ok L whole formLit c.ins 1 [] (by omega) (fun j x hj => by rw [seg_get L _ _ litL c.ins 1 l1 (by simp) j x hj]; exact formLit_of x (hf.ins x (List.mem_of_getElem? hj)))]
  simp only [List.nil_append]
  rw [many_ok L whole formLat c.lats _ [] (by omega) (fun j x hj => by rw [seg_get L _ _ latL c.lats (1 + c.ins.length) l2 (by simp; omega) j x hj]; exact formLat_of x (hf.lats x (List.mem_of_getElem? hj)))]
  simp only [List.nil_append]
  rw [many_ok L whole formLit c.outs _ [] (by omega) (fun j x hj => by rw [seg_get L _ _ litL c.outs (1 + c.ins.length + c.lats.length) l3 (by simp; omega) j x hj]; exact formLit_of x (hf.outs x (List.mem_of_getElem? hj)))]
  simp only [List.nil_append]
  rw [many_ok L whole formLit c.bads _ [] (by omega) (fun j x hj => by rw [seg_get L _ _ litL c.bads (1 + c.ins.length + c.lats.length + c.outs.length) l4 (by simp; omega) j x hj]; exact formLit_of x (hf.bads x (List.mem_of_getElem? hj)))]
  simp only [List.nil_append]
  rw [many_ok L whole formLit c.invs _ [] (by omega) (fun j x hj => by rw [seg_get L _ _ litL c.invs (1 + c.ins.length + c.lats.length + c.outs.length + c.bads.length) l5 (by simp; omega) j x hj]; exact formLit_of x (hf.invs x (List.mem_of_getElem? hj)))]
  simp only [List.nil_append]
  rw [many_ok L whole formAnd c.ands _ [] (by omega) (fun j x hj => by rw [seg_get L _ _ andL c.ands (1 + c.ins.length + c.lats.length + c.outs.length + c.bads.length + c.invs.length) l6 (by simp; omega) j x hj]; exact formAnd_of x (hf.ands x (List.mem_of_getElem? hj)))]
  simp only [List.nil_append]
  rw [names_ok L whole c.names _ _ [] (by omega) (fun j x hj => by
      rw [seg_get L _ _ namL c.names (1 + c.ins.length + c.lats.length + c.outs.length + c.bads.length + c.invs.length + c.ands.length) l7 (by simp; omega) j x hj]
      exact ⟨formNam_of x (hf.names x (List.mem_of_getElem? hj)), hc x (List.mem_of_getElem? hj)⟩) (by
      rcases hm with rfl | ⟨hm, hm1, hm2⟩
      · left; simp at hLl; omega
      · right
        have : 0 < more.length := List.length_pos_iff.2 hm1
        refine ⟨by omega, by omega, ?_⟩
        rcases l8 with l8 | l8
        · have := seg_get L _ _ (fun _ => more.getD 0 []) [()] (1 + c.ins.length + c.lats.length + c.outs.length + c.bads.length + c.invs.length + c.ands.length + c.names.length) l8 (by simp; omega) 0 () rfl
          rw [Nat.add_zero] at this
          rw [this]; exact hm
        · exact absurd l8 hm1)]
  simp only [List.nil_append]
  rw [hlen]
  congr 2
  omega

/- a text that is read -/
theorem bindG_ok {α β : Type} {x : Got α} {f : α → Got β} {b : β} (h : bindG x f = .ok b) : ∃ a, x = .ok a ∧ f a = .ok b := by
  cases x with
  | error e => cases h
  | ok a => exact ⟨a, rfl, h⟩
theorem read_get {α : Type} {L : List (List UInt8)} {whole : Nat} {form : List UInt8 → Option α} {at_ : Nat} {a : α} (h : readAt L whole form at_ = .ok a) : at_ < whole ∧ form (L.getD at_ []) = some a := by
  unfold readAt at h
  split at h
  · cases h
  · rename_i hle
    refine ⟨by omega, ?_⟩
    split at h
    · rename_i q
      simp only [Except.ok.injEq] at h
      rw [q, h]
    · cases h
/-- the lines from at_ on are those of xs -/
def Seg (L : List (List UInt8)) (at_ : Nat) (ls : List (List UInt8)) : Prop := ∀ (j : Nat) y, ls[j]? = some y → L.getD (at_ + j) [] = y
theorem seg_of {α : Type} {L : List (List UInt8)} {at_ : Nat} {form : List UInt8 → Option α} {f : α → List UInt8} (hfg : ∀ l x, form l = some x → l = f x) {xs : List α} (h : ∀ (j : Nat) x, xs[j]? = some x → form (L.getD (at_ + j) []) = some x) : Seg L at_ (xs.map f) := fun j y hj => by
  rw [List.getElem?_map] at hj
  cases hx : xs[j]? with
  | none => rw [hx] at hj; cases hj
  | some x =>
    rw [hx] at hj
    simp only [Option.map_some, Option.some.injEq] at hj
    rw [← hj]; exact hfg _ _ (h j x hx)
theorem Seg.append {L : List (List UInt8)} {at_ : Nat} {a b : List (List UInt8)} (h1 : Seg L at_ a) (h2 : Seg L (at_ + a.length) b) : Seg L at_ (a ++ b) := fun j y hj => by
  by_cases hl : j < a.length
  · rw [List.getElem?_append_left hl] at hj; exact h1 j y hj
  · rw [List.getElem?_append_right (by omega)] at hj
    have := h2 _ y hj
    rw [show at_ + a.length + (j - a.length) = at_ + j by omega] at this
    exact this
theorem Seg.all {L ls : List (List UInt8)} (h : Seg L 0 ls) (hl : ls.length ≤ L.length) : ∃ more, L = ls ++ more := by
  refine ⟨L.drop ls.length, ?_⟩
  have : L.take ls.length = ls := by
    apply List.ext_getElem?
    intro i
    by_cases hi : i < ls.length
    · rw [List.getElem?_take, if_pos hi]
      have := h i ls[i] (List.getElem?_eq_getElem hi)
      rw [Nat.zero_add, List.getD_eq_getElem?_getD, List.getElem?_eq_getElem (by omega)] at this
      rw [List.getElem?_eq_getElem (by omega), List.getElem?_eq_getElem hi]
      simpa using this
    · rw [List.getElem?_eq_none (by simp; omega), List.getElem?_eq_none (by omega)]
  rw [← List.take_append_drop ls.length L, this]
  simp

/-- A TEXT THAT IS READ IS ITS CIRCUIT'S -/
theorem circ_get (L : List (List UInt8)) (whole : Nat) (hwL : whole ≤ L.length) (c : Cir) (at_ : Nat) (h : circM L whole = .ok (c, at_)) :
    ∃ more, L = linesOf c ++ more ∧ at_ = (linesOf c).length ∧ at_ ≤ whole ∧ (more = [] ∨ (more.getD 0 [] = [99] ∧ more ≠ [] ∧ at_ < whole)) := by
  unfold circM at h
  obtain ⟨n, hn, h⟩ := bindG_ok h
  obtain ⟨⟨r1, a1⟩, h1, h⟩ := bindG_ok h
  obtain ⟨⟨r2, a2⟩, h2, h⟩ := bindG_ok h
  obtain ⟨⟨r3, a3⟩, h3, h⟩ := bindG_ok h
  obtain ⟨⟨r4, a4⟩, h4, h⟩ := bindG_ok h
  obtain ⟨⟨r5, a5⟩, h5, h⟩ := bindG_ok h
  obtain ⟨⟨r6, a6⟩, h6, h⟩ := bindG_ok h
  obtain ⟨⟨r7, a7⟩, h7, h⟩ := bindG_ok h
  simp only at h1 h2 h3 h4 h5 h6 h7 h
  simp only [Except.ok.injEq, Prod.mk.injEq] at h
  obtain ⟨hc, hat⟩ := h
  subst hat
  obtain ⟨hw0, hh⟩ := read_get hn
  obtain ⟨hl7, hL0, hpos⟩ := formHead_get _ n hh
  match n, hl7 with
  | [m, ni, nl, no, na, nb, nc], _ =>
  simp only [List.getD_cons_zero, List.getD_cons_succ] at h1 h2 h3 h4 h5 h6 hc
  have p1 : 0 ≤ ni := hpos ni (by simp)
  have p2 : 0 ≤ nl := hpos nl (by simp)
  have p3 : 0 ≤ no := hpos no (by simp)
  have p4 : 0 ≤ na := hpos na (by simp)
  have p5 : 0 ≤ nb := hpos nb (by simp)
  have p6 : 0 ≤ nc := hpos nc (by simp)
  obtain ⟨x1, e1, l1, w1, f1⟩ := many_get _ _ _ _ _ _ _ h1
  simp only [List.nil_append, Prod.mk.injEq] at e1
  obtain ⟨rfl, rfl⟩ := e1
  obtain ⟨x2, e2, l2, w2, f2⟩ := many_get _ _ _ _ _ _ _ h2
  simp only [List.nil_append, Prod.mk.injEq] at e2
  obtain ⟨rfl, rfl⟩ := e2
  obtain ⟨x3, e3, l3, w3, f3⟩ := many_get _ _ _ _ _ _ _ h3
  simp only [List.nil_append, Prod.mk.injEq] at e3
  obtain ⟨rfl, rfl⟩ := e3
  obtain ⟨x4, e4, l4, w4, f4⟩ := many_get _ _ _ _ _ _ _ h4
  simp only [List.nil_append, Prod.mk.injEq] at e4
  obtain ⟨rfl, rfl⟩ := e4
  obtain ⟨x5, e5, l5, w5, f5⟩ := many_get _ _ _ _ _ _ _ h5
  simp only [List.nil_append, Prod.mk.injEq] at e5
  obtain ⟨rfl, rfl⟩ := e5
  obtain ⟨x6, e6, l6, w6, f6⟩ := many_get _ _ _ _ _ _ _ h6
  simp only [List.nil_append, Prod.mk.injEq] at e6
  obtain ⟨rfl, rfl⟩ := e6
  obtain ⟨x7, e7, w7, f7, g7⟩ := names_get _ _ _ _ _ _ h7
  simp only [List.nil_append, Prod.mk.injEq] at e7
  obtain ⟨rfl, rfl⟩ := e7
  subst hc
  have s0 : Seg L 0 [headL ⟨m, r1, r2, r3, r4, r5, r6, r7⟩] := fun j y hj => by
    match j, hj with
    | 0, hj =>
      simp only [List.getElem?_cons_zero, Option.some.injEq] at hj
      rw [← hj, Nat.add_zero, hL0]
      unfold headL
      simp only [l1, l2, l3, l4, l5, l6, Int.toNat_of_nonneg p1, Int.toNat_of_nonneg p2, Int.toNat_of_nonneg p3, Int.toNat_of_nonneg p4, Int.toNat_of_nonneg p5, Int.toNat_of_nonneg p6]
  have s1 := seg_of formLit_get f1
  have s2 := seg_of formLat_get f2
  have s3 := seg_of formLit_get f3
  have s4 := seg_of formLit_get f4
  have s5 := seg_of formLit_get f5
  have s6 := seg_of formAnd_get f6
  have s7 := seg_of formNam_get f7
  have hlen : (linesOf ⟨m, r1, r2, r3, r4, r5, r6, r7⟩).length = 1 + (r1.length + (r2.length + (r3.length + (r4.length + (r5.length + (r6.length + r7.length)))))) := by
    unfold linesOf; simp; omega
  have hS : Seg L 0 (linesOf ⟨m, r1, r2, r3, r4, r5, r6, r7⟩) := by
    have q : Seg L 0 ([headL ⟨m, r1, r2, r3, r4, r5, r6, r7⟩] ++ (r1.map litL ++ (r2.map latL ++ (r3.map litL ++ (r4.map litL ++ (r5.map litL ++ (r6.map andL ++ r7.map namL))))))) := by
      refine s0.append ?_
      simp only [List.length_cons, List.length_nil, Nat.zero_add]
      refine s1.append ?_
      rw [List.length_map, l1]
      refine s2.append ?_
      rw [List.length_map, l2]
      refine s3.append ?_
      rw [List.length_map, l3]
      refine s4.append ?_
      rw [List.length_map, l4]
      refine s5.append ?_
      rw [List.length_map, l5]
      refine s6.append ?_
      rw [List.length_map, l6]
      exact s7
    exact q
  have hat : 1 + ni.toNat + nl.toNat + no.toNat + nb.toNat + nc.toNat + na.toNat + r7.length = (linesOf ⟨m, r1, r2, r3, r4, r5, r6, r7⟩).length := by rw [hlen]; omega
  have hle : 1 + ni.toNat + nl.toNat + no.toNat + nb.toNat + nc.toNat + na.toNat + r7.length ≤ whole := by
    have z7 : r7 = [] → r7.length = 0 := fun e => by rw [e]; rfl
    rcases w7 with w7 | w7
    · have := z7 w7
      omega
    · omega
  obtain ⟨more, hm⟩ := hS.all (by omega)
  refine ⟨more, hm, hat, hle, ?_⟩
  have hLl : L.length = (linesOf ⟨m, r1, r2, r3, r4, r5, r6, r7⟩).length + more.length := by
    have := congrArg List.length hm
    rw [List.length_append] at this
    exact this
  rcases g7 with g7 | ⟨g7, g8, g9⟩
  · left; exact List.eq_nil_of_length_eq_zero (by omega)
  · right
    refine ⟨?_, ?_, g8⟩
    · rw [hat] at g9
      rw [hm, List.getD_eq_getElem?_getD, List.getElem?_append_right (Nat.le_refl _), Nat.sub_self] at g9
      rw [List.getD_eq_getElem?_getD]; exact g9
    · intro e
      rw [e] at hLl
      simp only [List.length_nil] at hLl
      omega

/- texts and their lines -/
def nlCount (s : List UInt8) : Nat := (splitOn 10 s).length - 1
theorem split_nl (ls : List (List UInt8)) (rest : List UInt8) (h : ∀ l ∈ ls, (10 : UInt8) ∉ l) : splitOn 10 (nlL ls ++ rest) = ls ++ splitOn 10 rest := by
  induction ls with
  | nil => rfl
  | cons l ls ih =>
    have e : nlL (l :: ls) ++ rest = l ++ 10 :: (nlL ls ++ rest) := by unfold nlL; simp
    rw [e, splitOn_some (h l List.mem_cons_self), ih fun x hx => h x (List.mem_cons_of_mem _ hx)]; rfl
theorem split_last (s : List UInt8) : ∃ done r, splitOn 10 s = done ++ [r] ∧ s = nlL done ++ r ∧ nlCount s = done.length ∧ linesL s = done ++ (if r = [] then [] else [r]) ∧ (∀ l ∈ done, (10 : UInt8) ∉ l) := by
  obtain ⟨done, r, h⟩ : ∃ done r, splitOn 10 s = done ++ [r] := ⟨_, _, (List.dropLast_concat_getLast (splitOn_ne 10 s)).symm⟩
  refine ⟨done, r, h, ?_, ?_, ?_, fun l hl => splitOn_nomem 10 s l (by rw [h]; exact List.mem_append_left _ hl)⟩
  · have hn := nl_split s
    rw [h, nl_append] at hn
    have e : nlL [r] = r ++ [10] := by unfold nlL; simp
    rw [e, ← List.append_assoc] at hn
    exact (List.append_cancel_right hn).symm
  · unfold nlCount; rw [h]; simp
  · unfold linesL
    rw [piecesL_of h]
    have hf : done.filter (fun p => !p.isEmpty || !false) = done := by rw [List.filter_eq_self]; intro p _; simp
    rw [hf]
    by_cases hr : r = []
    · subst hr; simp
    · have : (!r.isEmpty || !true) = true := by cases r with | nil => exact absurd rfl hr | cons a t => rfl
      rw [this, if_pos rfl, if_neg hr]
theorem lines_nl (ls : List (List UInt8)) (rest : List UInt8) (h : ∀ l ∈ ls, (10 : UInt8) ∉ l) : linesL (nlL ls ++ rest) = ls ++ linesL rest ∧ nlCount (nlL ls ++ rest) = ls.length + nlCount rest := by
  have hs := split_nl ls rest h
  obtain ⟨done, r, h1⟩ : ∃ done r, splitOn 10 rest = done ++ [r] := ⟨_, _, (List.dropLast_concat_getLast (splitOn_ne 10 rest)).symm⟩
  constructor
  · unfold linesL
    rw [piecesL_of (done := ls ++ done) (r := r) (by rw [hs, h1, List.append_assoc]), piecesL_of h1]
    have hf : ls.filter (fun p => !p.isEmpty || !false) = ls := by rw [List.filter_eq_self]; intro p _; simp
    rw [List.filter_append, hf, List.append_assoc]
  · unfold nlCount
    rw [hs, h1]
    simp
theorem count_le (s : List UInt8) : nlCount s ≤ (linesL s).length := by
  obtain ⟨done, r, _, _, h3, h4, _⟩ := split_last s
  rw [h3, h4]; simp
theorem join_no10 (ws : List (List UInt8)) (h : ∀ w ∈ ws, Word w) : (10 : UInt8) ∉ joinL ws := by
  cases ws with
  | nil => simp [joinL]
  | cons x l =>
    rw [joinL_eq]
    intro hm
    rcases List.mem_append.1 hm with h1 | h1
    · exact (h x List.mem_cons_self).2.2 h1
    · obtain ⟨p, hp, hq⟩ := List.mem_flatten.1 h1
      obtain ⟨q, hq1, rfl⟩ := List.mem_map.1 hp
      rcases List.mem_cons.1 hq with e | e
      · cases e
      · exact (h q (List.mem_cons_of_mem _ hq1)).2.2 e
theorem fine_lines (c : Cir) (hf : Fine c) : ∀ l ∈ linesOf c, (10 : UInt8) ∉ l := by
  intro l hl
  unfold linesOf at hl
  simp only [List.mem_cons, List.mem_append, List.mem_map] at hl
  have lit : ∀ x, OkN x → (10 : UInt8) ∉ litL x := fun x hx => join_no10 _ (nums_words [x] (by simpa using hx.1))
  rcases hl with rfl | ⟨x, hx, rfl⟩ | ⟨x, hx, rfl⟩ | ⟨x, hx, rfl⟩ | ⟨x, hx, rfl⟩ | ⟨x, hx, rfl⟩ | ⟨x, hx, rfl⟩ | ⟨x, hx, rfl⟩
  · refine join_no10 _ fun w hw => ?_
    rcases List.mem_cons.1 hw with rfl | hw
    · exact aag_word
    · refine nums_words _ (fun y hy => ?_) w hw
      simp only [List.mem_cons, List.not_mem_nil, or_false] at hy
      have := hf.max.1
      rcases hy with rfl | rfl | rfl | rfl | rfl | rfl | rfl <;> omega
  · exact lit x (hf.ins x hx)
  · have := hf.lats x hx
    unfold latL
    split
    · exact join_no10 _ (nums_words _ (by simpa using ⟨this.1.1, this.2.1.1⟩))
    · exact join_no10 _ (nums_words _ (by simpa using ⟨this.1.1, this.2.1.1, this.2.2.1⟩))
  · exact lit x (hf.outs x hx)
  · exact lit x (hf.bads x hx)
  · exact lit x (hf.invs x hx)
  · have := hf.ands x hx
    exact join_no10 _ (nums_words _ (by simpa using ⟨this.1.1, this.2.1.1, this.2.2.1⟩))
  · exact join_no10 _ (nam_words x (hf.names x hx))
theorem itoa_not99 (n : Int) (h : 0 ≤ n) : (99 : UInt8) ∉ itoa n := by rw [itoa_dec n h]; exact dig_no 99 (by decide) _ (dec_all _)
theorem nam_not99 (x : Nam) : namL x ≠ [99] := by
  unfold namL
  rw [joinL_eq]
  intro e
  have hm : (32 : UInt8) ∈ (x.kind.data.toList ++ itoa x.num) ++ (List.map (fun p => 32 :: p) [x.text.data.toList]).flatten := by simp
  rw [e] at hm
  simp at hm
theorem fine_not99 (c : Cir) (hf : Fine c) : ∀ l ∈ linesOf c, l ≠ [99] := by
  intro l hl e
  unfold linesOf at hl
  simp only [List.mem_cons, List.mem_append, List.mem_map] at hl
  have lit : ∀ x, OkN x → litL x ≠ [99] := fun x hx e => itoa_not99 x hx.1 (by
    have : litL x = itoa x := rfl
    rw [← this, e]; simp)
  have two : ∀ (a b : List UInt8) (l : List (List UInt8)), joinL (a :: b :: l) ≠ [99] := fun a b l e => by
    rw [joinL_eq] at e
    have hm : (32 : UInt8) ∈ a ++ ((b :: l).map (fun p => 32 :: p)).flatten := by simp
    rw [e] at hm
    simp at hm
  rcases hl with rfl | ⟨x, hx, rfl⟩ | ⟨x, hx, rfl⟩ | ⟨x, hx, rfl⟩ | ⟨x, hx, rfl⟩ | ⟨x, hx, rfl⟩ | ⟨x, hx, rfl⟩ | ⟨x, hx, rfl⟩
  · exact two _ _ _ e
  · exact lit x (hf.ins x hx) e
  · unfold latL at e
    split at e
    · exact two _ _ _ e
    · exact two _ _ _ e
  · exact lit x (hf.outs x hx) e
  · exact lit x (hf.bads x hx) e
  · exact lit x (hf.invs x hx) e
  · exact two _ _ _ e
  · exact nam_not99 x e
end Go.Proofs.YtpbggngeopjefaaDoor.Aag
