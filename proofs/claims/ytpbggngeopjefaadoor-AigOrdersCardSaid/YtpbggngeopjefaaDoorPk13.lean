/- What is read of a text, whole, on plain lists; no program is named here, no condition. What a circuit that is read is like: its numbers, lists and texts are small; no program is named here, no condition. -/
import Derived.Test.YtpbggngeopjefaaDoorPk12
namespace Go.Proofs.YtpbggngeopjefaaDoor.Aag
open Go.Lib Dig Circ

def eLong : Int := 5
/-- what is read of a text; good: may a circuit be? -/
def parseM (good : Cir → Bool) (s : List UInt8) : Got (Cir × Nat) :=
  if 65536 < s.length then .error (0, eLong) else bindG (circM (linesL s) (nlCount s)) fun r => if good r.1 then .ok r else .error (r.2, 9)
theorem parse_text (good : Cir → Bool) (c : Cir) (hf : Fine c) (hg : good c = true) (hs : (textL c).length ≤ 65536) : parseM good (textL c) = .ok (c, (linesOf c).length) := by
  unfold parseM
  rw [if_neg (by omega)]
  have h := lines_nl (linesOf c) [] (fine_lines c hf)
  simp only [List.append_nil] at h
  have e1 : linesL (textL c) = linesOf c ++ [] := by unfold textL; rw [h.1]; rfl
  have e2 : nlCount (textL c) = (linesOf c).length := by unfold textL; rw [h.2]; rfl
  rw [e1, e2, circ_back c hf [] _ (Nat.le_refl _) (.inl rfl) (fun x _ => nam_not99 x)]
  simp [bindG, hg]
theorem parse_comment (good : Cir → Bool) (c : Cir) (hf : Fine c) (hg : good c = true) (s : List UInt8) (hs : (textL c ++ 99 :: 10 :: s).length ≤ 65536) : parseM good (textL c ++ 99 :: 10 :: s) = .ok (c, (linesOf c).length) := by
  unfold parseM
  rw [if_neg (by omega)]
  have hc : ∀ l ∈ linesOf c ++ [[99]], (10 : UInt8) ∉ l := fun l hl => by
    rcases List.mem_append.1 hl with hl | hl
    · exact fine_lines c hf l hl
    · simp only [List.mem_singleton] at hl
      subst hl; decide
  have e : textL c ++ 99 :: 10 :: s = nlL (linesOf c ++ [[99]]) ++ s := by unfold textL nlL; simp
  have h := lines_nl (linesOf c ++ [[99]]) s hc
  rw [e, h.1, h.2, List.append_assoc, circ_back c hf ([[99]] ++ linesL s) _ (by simp; omega) (.inr ⟨rfl, by simp, by simp; omega⟩) (fun x _ => nam_not99 x)]
  simp [bindG, hg]
theorem parse_ok {good : Cir → Bool} {s : List UInt8} {d : Cir} {n : Nat} (h : parseM good s = .ok (d, n)) : s.length ≤ 65536 ∧ good d = true ∧ circM (linesL s) (nlCount s) = .ok (d, n) := by
  unfold parseM at h
  split at h
  · cases h
  · rename_i hl
    obtain ⟨⟨d', n'⟩, h1, h2⟩ := bindG_ok h
    split at h2
    · rename_i hg
      simp only [Except.ok.injEq, Prod.mk.injEq] at h2
      obtain ⟨rfl, rfl⟩ := h2
      exact ⟨by omega, hg, h1⟩
    · cases h2
theorem nl_take (a : List (List UInt8)) : ∀ (b : List (List UInt8)), nlL (a ++ b) = nlL a ++ nlL b := nl_append a
/-- a text that is read begins with its circuit's, and ends there, or with a c -/
theorem parse_begins {good : Cir → Bool} {s : List UInt8} {d : Cir} {n : Nat} (h : parseM good s = .ok (d, n)) : ∃ rest, s = textL d ++ rest ∧ (rest = [] ∨ rest.getD 0 0 = 99 ∧ rest ≠ []) := by
  obtain ⟨_, _, hc⟩ := parse_ok h
  obtain ⟨more, hm, hat, hle, hor⟩ := circ_get _ _ (count_le s) d n hc
  obtain ⟨done, r, _, hs, hcnt, hl, _⟩ := split_last s
  rw [hl] at hm
  rw [hcnt] at hle hor
  have hlen : (linesOf d).length ≤ done.length := by omega
  have htk : done.take (linesOf d).length = linesOf d := by
    have := congrArg (List.take (linesOf d).length) hm
    rw [List.take_append_of_le_length hlen, List.take_left'] at this
    · exact this
    · rfl
  obtain ⟨more', hmore⟩ : ∃ m, done = linesOf d ++ m := by
    have := List.take_append_drop (linesOf d).length done
    rw [htk] at this
    exact ⟨_, this.symm⟩
  refine ⟨nlL more' ++ r, ?_, ?_⟩
  · rw [hs, hmore, nl_append, List.append_assoc]; rfl
  · rcases hor with rfl | ⟨h1, h2, h3⟩
    · left
      rw [hmore, List.append_assoc, List.append_nil] at hm
      have hm' : more' ++ (if r = [] then [] else [r]) = [] := by
        have := List.append_right_eq_self.1 hm
        exact this
      have m0 : more' = [] := (List.append_eq_nil_iff.1 hm').1
      have r0 := (List.append_eq_nil_iff.1 hm').2
      have r1 : r = [] := by
        by_cases hr : r = []
        · exact hr
        · rw [if_neg hr] at r0; cases r0
      rw [m0, r1]; rfl
    · right
      rw [hmore, List.append_assoc] at hm
      have hm' : more' ++ (if r = [] then [] else [r]) = more := List.append_cancel_left hm
      rw [hmore, List.length_append] at h3
      cases more' with
      | nil => simp at h3; omega
      | cons x t =>
        rw [← hm'] at h1
        simp only [List.cons_append, List.getD_cons_zero] at h1
        subst h1
        refine ⟨?_, ?_⟩ <;> simp [nlL]
theorem parse_starts {good : Cir → Bool} {s : List UInt8} {d : Cir} {n : Nat} (h : parseM good s = .ok (d, n)) : s ≠ [] := by
  obtain ⟨rest, hs, _⟩ := parse_begins h
  intro e
  rw [e] at hs
  have : textL d = [] := (List.append_eq_nil_iff.1 hs.symm).1
  unfold textL linesOf nlL at this
  simp at this
/-- a text that was cut within a line is not read -/
theorem parse_cut (good : Cir → Bool) (c : Cir) (hf : Fine c) (k : Nat) (hk : k ≤ (textL c).length) (hcut : k = 0 ∨ (textL c).getD (k - 1) 0 ≠ 10) : ∀ r, parseM good ((textL c).take k) ≠ .ok r := by
  rintro ⟨d, n⟩ h
  rcases Nat.eq_zero_or_pos k with h0 | h0
  · subst h0
    exact parse_starts h rfl
  obtain ⟨_, _, hcc⟩ := parse_ok h
  obtain ⟨more, hm, hat, hle, hor⟩ := circ_get _ _ (count_le _) d n hcc
  obtain ⟨done, r, hsp, hs, hcnt, hl, _⟩ := split_last ((textL c).take k)
  have hr : r ≠ [] := by
    intro e
    subst e
    rcases hcut with hcut | hcut
    · omega
    · have hne : done ≠ [] := by
        intro e
        rw [e] at hs
        have := congrArg List.length hs
        rw [List.length_take] at this
        have h9 : (nlL ([] : List (List UInt8)) ++ ([] : List UInt8)).length = 0 := by simp [nlL]
        rw [h9] at this
        omega
      obtain ⟨ini, la, rfl⟩ : ∃ ini la, done = ini ++ [la] := ⟨done.dropLast, done.getLast hne, (List.dropLast_concat_getLast hne).symm⟩
      have e2 : (textL c).take k = (nlL ini ++ la) ++ [10] := by rw [hs, nl_append]; simp [nlL]
      have hk2 : (nlL ini ++ la).length + 1 = k := by
        have := congrArg List.length e2
        rw [List.length_take] at this
        rw [List.length_append (bs := [10])] at this
        simp only [List.length_cons, List.length_nil] at this
        omega
      apply hcut
      have e3 : ((textL c).take k).getD (k - 1) 0 = 10 := by
        rw [e2, ← hk2]; simp
      rw [List.getD_eq_getElem?_getD, List.getElem?_take, if_pos (by omega)] at e3
      rw [List.getD_eq_getElem?_getD]; exact e3
  rw [hl, if_neg hr] at hm
  have hlm := congrArg List.length hm
  rw [List.length_append, List.length_append] at hlm
  simp only [List.length_cons, List.length_nil] at hlm
  rw [hcnt] at hle hor
  rcases hor with rfl | ⟨h1, h2, h3⟩
  · simp only [List.length_nil] at hlm; omega
  · -- the line of a c is a whole line of the text's
    have hfull : done ++ [r] = linesOf d ++ more := hm
    have hq : done.getD n [] = [99] := by
      have : (done ++ [r]).getD n [] = [99] := by
        rw [hfull, hat, List.getD_eq_getElem?_getD, List.getElem?_append_right (Nat.le_refl _), Nat.sub_self]
        rw [List.getD_eq_getElem?_getD] at h1; exact h1
      rw [List.getD_eq_getElem?_getD, List.getElem?_append_left h3] at this
      rw [List.getD_eq_getElem?_getD]; exact this
    -- done is a beginning of the text's lines
    have hpre : ∃ z, linesOf c = done ++ z := by
      have e1 : textL c = nlL done ++ (r ++ (textL c).drop k) := by
        rw [← List.append_assoc, ← hs, List.take_append_drop]
      have e2 := split_nl (linesOf c) [] (fine_lines c hf)
      rw [List.append_nil] at e2
      have e3 := split_nl done (r ++ (textL c).drop k) (fun l hl => splitOn_nomem 10 _ l (by rw [hsp]; exact List.mem_append_left _ hl))
      rw [← e1] at e3
      have e4 : splitOn 10 (textL c) = linesOf c ++ [[]] := e2
      rw [e4] at e3
      have hne := splitOn_ne 10 (r ++ (textL c).drop k)
      refine ⟨(splitOn 10 (r ++ (textL c).drop k)).dropLast, ?_⟩
      have := congrArg List.dropLast e3
      rw [List.dropLast_concat, List.dropLast_append_of_ne_nil hne] at this
      exact this
    obtain ⟨z, hz⟩ := hpre
    have hmem : [99] ∈ linesOf c := by
      rw [hz]
      apply List.mem_append_left
      rw [List.getD_eq_getElem?_getD, List.getElem?_eq_getElem h3] at hq
      simp only [Option.getD_some] at hq
      rw [← hq]; exact List.getElem_mem _
    exact fine_not99 c hf _ hmem rfl
end Go.Proofs.YtpbggngeopjefaaDoor.Aag
namespace Go.Proofs.YtpbggngeopjefaaDoor.Aag
open Go.Lib Dig Circ

theorem val_far : ∀ (l : List UInt8) (n v : Nat), n ≤ 1099511627776 → val n l = some v → v ≤ 1099511627776
  | [], n, v, hn, h => by simp only [val, Option.some.injEq] at h; omega
  | b :: l, n, v, hn, h => by
    simp only [val] at h
    split at h
    · rename_i hle
      unfold far at hle
      exact val_far l _ v hle h
    · cases h
theorem numV_ok {w : List UInt8} (h : numOk w = true) : OkN (numV w) := by
  unfold numOk at h
  simp only [Bool.and_eq_true, decide_eq_true_eq] at h
  obtain ⟨h1, h2⟩ := h
  refine ⟨h2, ?_⟩
  unfold numV
  unfold parseL at h2 ⊢
  simp only at h2 ⊢
  split
  · split
    · rename_i v hv
      have := val_far _ 0 v (by omega) hv
      split <;> omega
    · simp
  · simp
theorem map_ok {ws : List (List UInt8)} (h : ws.all numOk = true) : ∀ x ∈ ws.map numV, OkN x := fun x hx => by
  obtain ⟨w, hw, rfl⟩ := List.mem_map.1 hx
  exact numV_ok (List.all_eq_true.1 h w hw)
theorem formNums_ok {k : Nat} {l : List UInt8} {ns : List Int} (h : formNums k l = some ns) : ∀ x ∈ ns, OkN x := by
  unfold formNums at h
  split at h
  · rename_i q
    simp only [Bool.and_eq_true] at q
    simp only [Option.some.injEq] at h
    subst h
    exact map_ok q.2
  · cases h
theorem ok_zero : OkN 0 := ⟨by omega, by omega⟩
theorem getD_ok {ns : List Int} (h : ∀ x ∈ ns, OkN x) (k : Nat) : OkN (ns.getD k 0) := by
  rw [List.getD_eq_getElem?_getD]
  cases hq : ns[k]? with
  | none => exact ok_zero
  | some y => exact h y (List.mem_of_getElem? hq)
theorem formLit_ok {l : List UInt8} {x : Int} (h : formLit l = some x) : OkN x := by
  unfold formLit at h
  cases hf : formNums 1 l with
  | none => rw [hf] at h; cases h
  | some ns =>
    rw [hf] at h
    simp only [Option.map_some, Option.some.injEq] at h
    rw [← h]; exact getD_ok (formNums_ok hf) 0
theorem formAnd_ok {l : List UInt8} {t : Tri} (h : formAnd l = some t) : TriFine t := by
  unfold formAnd at h
  cases hf : formNums 3 l with
  | none => rw [hf] at h; cases h
  | some ns =>
    rw [hf] at h
    simp only [Option.map_some, Option.some.injEq] at h
    rw [← h]; exact ⟨getD_ok (formNums_ok hf) 0, getD_ok (formNums_ok hf) 1, getD_ok (formNums_ok hf) 2⟩
theorem formLat_ok {l : List UInt8} {t : Tri} (h : formLat l = some t) : TriFine t := by
  unfold formLat at h
  split at h
  · rename_i q
    simp only [Bool.and_eq_true] at q
    split at h
    · split at h
      · rename_i q2
        simp only [Bool.and_eq_true] at q2
        simp only [Option.some.injEq] at h
        rw [← h]; exact ⟨numV_ok q.2.1, numV_ok q.2.2, numV_ok q2.1⟩
      · cases h
    · simp only [Option.some.injEq] at h
      rw [← h]; exact ⟨numV_ok q.2.1, numV_ok q.2.2, ok_zero⟩
  · cases h
theorem formHead_ok {l : List UInt8} {ns : List Int} (h : formHead l = some ns) : ∀ x ∈ ns, OkN x := by
  unfold formHead at h
  split at h
  · rename_i q
    simp only [Bool.and_eq_true] at q
    simp only [Option.some.injEq] at h
    subst h
    exact map_ok q.2.2
  · cases h
theorem word_le (l : List UInt8) (k : Nat) : ((wordsL l).getD k []).length ≤ l.length + 1 := by
  have h2 := pieces_size 32 (fun p _ => !p.isEmpty) l
  have h2' : (wordsL l).flatten.length + (wordsL l).length ≤ l.length + 1 := h2
  rw [List.getD_eq_getElem?_getD]
  cases hq : (wordsL l)[k]? with
  | none => simp
  | some y =>
    have h3 : y.length ≤ (wordsL l).flatten.length := by
      have hm := List.mem_of_getElem? hq
      obtain ⟨s, t, e⟩ := List.append_of_mem hm
      rw [e]; simp; omega
    simp only [Option.getD_some]; omega
theorem formNam_ok {l : List UInt8} {x : Nam} (h : formNam l = some x) : OkN x.num ∧ x.kind.size ≤ l.length + 1 ∧ x.text.size ≤ l.length + 1 := by
  unfold formNam at h
  split at h
  · rename_i q
    simp only [Bool.and_eq_true] at q
    simp only [Option.some.injEq] at h
    subst h
    have h0 := word_le l 0
    have h1 := word_le l 1
    refine ⟨numV_ok q.2.2, ?_, ?_⟩
    · simp only [ByteArray.size, List.size_toArray, List.length_take]; omega
    · simp only [ByteArray.size, List.size_toArray]; exact h1
  · cases h
theorem many_all {α : Type} {L : List (List UInt8)} {whole : Nat} {form : List UInt8 → Option α} {n at_ : Nat} {r : List α × Nat} (h : manyGo L whole form n at_ [] = .ok r) : (∀ x ∈ r.1, ∃ k, form (L.getD k []) = some x) ∧ (r.1.length = 0 ∨ at_ + r.1.length ≤ whole) ∧ r.2 = at_ + r.1.length := by
  obtain ⟨xs, hr, hl, hw, hf⟩ := many_get L whole form n at_ [] r h
  subst hr
  simp only [List.nil_append]
  refine ⟨fun x hx => ?_, by rw [hl]; exact hw, by rw [hl]⟩
  obtain ⟨j, hj⟩ := List.mem_iff_getElem?.1 hx
  exact ⟨_, hf j x hj⟩
theorem names_all {L : List (List UInt8)} {whole n at_ : Nat} {r : List Nam × Nat} (h : namesGo L whole n at_ [] = .ok r) : (∀ x ∈ r.1, ∃ k, formNam (L.getD k []) = some x) ∧ (r.1 = [] ∨ at_ + r.1.length ≤ whole) := by
  obtain ⟨xs, hr, hw, hf, _⟩ := names_get L whole n at_ [] r h
  subst hr
  simp only [List.nil_append]
  refine ⟨fun x hx => ?_, hw⟩
  obtain ⟨j, hj⟩ := List.mem_iff_getElem?.1 hx
  exact ⟨_, hf j x hj⟩

/- the reading of a circuit, part by part -/
abbrev RL := List Int × Nat
abbrev RT := List Tri × Nat
def k7 (L : List (List UInt8)) (wh : Nat) (n : List Int) (r1 : RL) (r2 : RT) (r3 r4 r5 : RL) (r6 : RT) : Got (Cir × Nat) := bindG (namesGo L wh (L.length - r6.2) r6.2 []) fun r7 => .ok (⟨n.getD 0 0, r1.1, r2.1, r3.1, r4.1, r5.1, r6.1, r7.1⟩, r7.2)
def k6 (L : List (List UInt8)) (wh : Nat) (n : List Int) (r1 : RL) (r2 : RT) (r3 r4 r5 : RL) : Got (Cir × Nat) := bindG (manyGo L wh formAnd (n.getD 4 0).toNat r5.2 []) fun r6 => k7 L wh n r1 r2 r3 r4 r5 r6
def k5 (L : List (List UInt8)) (wh : Nat) (n : List Int) (r1 : RL) (r2 : RT) (r3 r4 : RL) : Got (Cir × Nat) := bindG (manyGo L wh formLit (n.getD 6 0).toNat r4.2 []) fun r5 => k6 L wh n r1 r2 r3 r4 r5
def k4 (L : List (List UInt8)) (wh : Nat) (n : List Int) (r1 : RL) (r2 : RT) (r3 : RL) : Got (Cir × Nat) := bindG (manyGo L wh formLit (n.getD 5 0).toNat r3.2 []) fun r4 => k5 L wh n r1 r2 r3 r4
def k3 (L : List (List UInt8)) (wh : Nat) (n : List Int) (r1 : RL) (r2 : RT) : Got (Cir × Nat) := bindG (manyGo L wh formLit (n.getD 3 0).toNat r2.2 []) fun r3 => k4 L wh n r1 r2 r3
def k2 (L : List (List UInt8)) (wh : Nat) (n : List Int) (r1 : RL) : Got (Cir × Nat) := bindG (manyGo L wh formLat (n.getD 2 0).toNat r1.2 []) fun r2 => k3 L wh n r1 r2
def k1 (L : List (List UInt8)) (wh : Nat) (n : List Int) : Got (Cir × Nat) := bindG (manyGo L wh formLit (n.getD 1 0).toNat 1 []) fun r1 => k2 L wh n r1
theorem circM_k (L : List (List UInt8)) (wh : Nat) : circM L wh = bindG (readAt L wh formHead 0) fun n => k1 L wh n := rfl
theorem bind_ok {α β : Type} {x : Got α} {f : α → Got β} {a : α} (h : x = .ok a) : bindG x f = f a := by rw [h]; rfl
theorem bind_error {α β : Type} {x : Got α} {f : α → Got β} {b : Nat × Int} (h : x = .error b) : bindG x f = .error b := by rw [h]; rfl

/-- a circuit that is read is small -/
structure Small (c : Cir) : Prop where
  max : OkN c.max
  ins : ∀ x ∈ c.ins, OkN x
  lats : ∀ x ∈ c.lats, TriFine x
  outs : ∀ x ∈ c.outs, OkN x
  bads : ∀ x ∈ c.bads, OkN x
  invs : ∀ x ∈ c.invs, OkN x
  ands : ∀ x ∈ c.ands, TriFine x
  names : ∀ x ∈ c.names, OkN x.num ∧ x.kind.size ≤ 65537 ∧ x.text.size ≤ 65537
  li : c.ins.length ≤ 65537
  ll : c.lats.length ≤ 65537
  lo : c.outs.length ≤ 65537
  lb : c.bads.length ≤ 65537
  lc : c.invs.length ≤ 65537
  la : c.ands.length ≤ 65537
  ln : c.names.length ≤ 65537
theorem circ_small {L : List (List UInt8)} {wh : Nat} {c : Cir} {n : Nat} (h : circM L wh = .ok (c, n)) (hw : wh ≤ 65537) (hL : ∀ l ∈ L, l.length ≤ 65536) : Small c := by
  rw [circM_k] at h
  obtain ⟨ns, h0, h⟩ := bindG_ok h
  obtain ⟨r1, h1, h⟩ := bindG_ok h
  obtain ⟨r2, h2, h⟩ := bindG_ok h
  obtain ⟨r3, h3, h⟩ := bindG_ok h
  obtain ⟨r4, h4, h⟩ := bindG_ok h
  obtain ⟨r5, h5, h⟩ := bindG_ok h
  obtain ⟨r6, h6, h⟩ := bindG_ok h
  obtain ⟨r7, h7, h⟩ := bindG_ok h
  simp only [Except.ok.injEq, Prod.mk.injEq] at h
  obtain ⟨rfl, rfl⟩ := h
  obtain ⟨_, h0'⟩ := read_get h0
  obtain ⟨a1, b1, _⟩ := many_all h1
  obtain ⟨a2, b2, _⟩ := many_all h2
  obtain ⟨a3, b3, _⟩ := many_all h3
  obtain ⟨a4, b4, _⟩ := many_all h4
  obtain ⟨a5, b5, _⟩ := many_all h5
  obtain ⟨a6, b6, _⟩ := many_all h6
  obtain ⟨a7, b7⟩ := names_all h7
  refine ⟨getD_ok (formHead_ok h0') 0, fun x hx => ?_, fun x hx => ?_, fun x hx => ?_, fun x hx => ?_, fun x hx => ?_, fun x hx => ?_, fun x hx => ?_, ?_, ?_, ?_, ?_, ?_, ?_, ?_⟩
  · obtain ⟨k, hk⟩ := a1 x hx; exact formLit_ok hk
  · obtain ⟨k, hk⟩ := a2 x hx; exact formLat_ok hk
  · obtain ⟨k, hk⟩ := a3 x hx; exact formLit_ok hk
  · obtain ⟨k, hk⟩ := a4 x hx; exact formLit_ok hk
  · obtain ⟨k, hk⟩ := a5 x hx; exact formLit_ok hk
  · obtain ⟨k, hk⟩ := a6 x hx; exact formAnd_ok hk
  · obtain ⟨k, hk⟩ := a7 x hx
    obtain ⟨g1, g2, g3⟩ := formNam_ok hk
    have hl : (L.getD k []).length ≤ 65536 := by
      rw [List.getD_eq_getElem?_getD]
      cases hq : L[k]? with
      | none => simp
      | some y => exact hL y (List.mem_of_getElem? hq)
    exact ⟨g1, by omega, by omega⟩
  all_goals simp only
  · omega
  · omega
  · omega
  · omega
  · omega
  · omega
  · rcases b7 with b7 | b7
    · rw [b7]; simp
    · omega
end Go.Proofs.YtpbggngeopjefaaDoor.Aag
