/- What is read of a text, whole, on plain lists; no program is named here, no condition. -/
import Derived.Test.YtckdlbfndmmjjaaGreatDoorAagRound
namespace Go.Proofs.YtckdlbfndmmjjaaGreatDoor.Aag
open Go.Lib Dig Circ

def eLong : Int := 5
/-- what is read of a text; good: may a circuit be? -/
def parseM (good : Cir → Bool) (s : List UInt8) : Got (Cir × Nat) :=
  if 65536 < s.length then .error (0, eLong) else bindG (circM (linesL s) (nlCount s)) fun r => if good r.1 then .ok r else .error (r.2, 9)
theorem parse_text (good : Cir → Bool) (c : Cir) (hf : Fine c) (hg : good c = true) (hs : (textL c).length ≤ 65536) : parseM good (textL c) = .ok (c, (linesOf c).length) := by
  unfold parseM
  rw [if_neg (by omega)]
  have h := lines_nl (linesOf c) [] (fine_lines c hf)
  simp only [List.append_nil] at h
  have e1 : linesL (textL c) = linesOf c ++ [] := by unfold textL; rw [h.1]; rfl
  have e2 : nlCount (textL c) = (linesOf c).length := by unfold textL; rw [h.2]; rfl
  rw [e1, e2, circ_back c hf [] _ (Nat.le_refl _) (.inl rfl) (fun x _ => nam_not99 x)]
  simp [bindG, hg]
theorem parse_comment (good : Cir → Bool) (c : Cir) (hf : Fine c) (hg : good c = true) (s : List UInt8) (hs : (textL c ++ 99 :: 10 :: s).length ≤ 65536) : parseM good (textL c ++ 99 :: 10 :: s) = .ok (c, (linesOf c).length) := by
  unfold parseM
  rw [if_neg (by omega)]
  have hc : ∀ l ∈ linesOf c ++ [[99]], (10 : UInt8) ∉ l := fun l hl => by
    rcases List.mem_append.1 hl with hl | hl
    · exact fine_lines c hf l hl
    · simp only [List.mem_singleton] at hl
      subst hl; decide
  have e : textL c ++ 99 :: 10 :: s = nlL (linesOf c ++ [[99]]) ++ s := by unfold textL nlL; simp
  have h := lines_nl (linesOf c ++ [[99]]) s hc
  rw [e, h.1, h.2, List.append_assoc, circ_back c hf ([[99]] ++ linesL s) _ (by simp; omega) (.inr ⟨rfl, by simp, by simp; omega⟩) (fun x _ => nam_not99 x)]
  simp [bindG, hg]
theorem parse_ok {good : Cir → Bool} {s : List UInt8} {d : Cir} {n : Nat} (h : parseM good s = .ok (d, n)) : s.length ≤ 65536 ∧ good d = true ∧ circM (linesL s) (nlCount s) = .ok (d, n) := by
  unfold parseM at h
  split at h
  · cases h
  · rename_i hl
    obtain ⟨⟨d', n'⟩, h1, h2⟩ := bindG_ok h
    split at h2
    · rename_i hg
      simp only [Except.ok.injEq, Prod.mk.injEq] at h2
      obtain ⟨rfl, rfl⟩ := h2
      exact ⟨by omega, hg, h1⟩
    · cases h2
theorem nl_take (a : List (List UInt8)) : ∀ (b : List (List UInt8)), nlL (a ++ b) = nlL a ++ nlL b := nl_append a
/-- a text that is read begins with its circuit's, and ends there, or with a c -/
theorem parse_begins {good : Cir → Bool} {s : List UInt8} {d : Cir} {n : Nat} (h : parseM good s = .ok (d, n)) : ∃ rest, s = textL d ++ rest ∧ (rest = [] ∨ rest.getD 0 0 = 99 ∧ rest ≠ []) := by
  obtain ⟨_, _, hc⟩ := parse_ok h
  obtain ⟨more, hm, hat, hle, hor⟩ := circ_get _ _ (count_le s) d n hc
  obtain ⟨done, r, _, hs, hcnt, hl, _⟩ := split_last s
  rw [hl] at hm
  rw [hcnt] at hle hor
  have hlen : (linesOf d).length ≤ done.length := by omega
  have htk : done.take (linesOf d).length = linesOf d := by
    have := congrArg (List.take (linesOf d).length) hm
    rw [List.take_append_of_le_length hlen, List.take_left'] at this
    · exact this
    · rfl
  obtain ⟨more', hmore⟩ : ∃ m, done = linesOf d ++ m := by
    have := List.take_append_drop (linesOf d).length done
    rw [htk] at this
    exact ⟨_, this.symm⟩
  refine ⟨nlL more' ++ r, ?_, ?_⟩
  · rw [hs, hmore, nl_append, List.append_assoc]; rfl
  · rcases hor with rfl | ⟨h1, h2, h3⟩
    · left
      rw [hmore, List.append_assoc, List.append_nil] at hm
      have hm' : more' ++ (if r = [] then [] else [r]) = [] := by
        have := List.append_right_eq_self.1 hm
        exact this
      have m0 : more' = [] := (List.append_eq_nil_iff.1 hm').1
      have r0 := (List.append_eq_nil_iff.1 hm').2
      have r1 : r = [] := by
        by_cases hr : r = []
        · exact hr
        · rw [if_neg hr] at r0; cases r0
      rw [m0, r1]; rfl
    · right
      rw [hmore, List.append_assoc] at hm
      have hm' : more' ++ (if r = [] then [] else [r]) = more := List.append_cancel_left hm
      rw [hmore, List.length_append] at h3
      cases more' with
      | nil => simp at h3; omega
      | cons x t =>
        rw [← hm'] at h1
        simp only [List.cons_append, List.getD_cons_zero] at h1
        subst h1
        refine ⟨?_, ?_⟩ <;> simp [nlL]
theorem parse_starts {good : Cir → Bool} {s : List UInt8} {d : Cir} {n : Nat} (h : parseM good s = .ok (d, n)) : s ≠ [] := by
  obtain ⟨rest, hs, _⟩ := parse_begins h
  intro e
  rw [e] at hs
  have : textL d = [] := (List.append_eq_nil_iff.1 hs.symm).1
  unfold textL linesOf nlL at this
  simp at this
/-- a text that was cut within a line is not read -/
theorem parse_cut (good : Cir → Bool) (c : Cir) (hf : Fine c) (k : Nat) (hk : k ≤ (textL c).length) (hcut : k = 0 ∨ (textL c).getD (k - 1) 0 ≠ 10) : ∀ r, parseM good ((textL c).take k) ≠ .ok r := by
  rintro ⟨d, n⟩ h
  rcases Nat.eq_zero_or_pos k with h0 | h0
  · subst h0
    exact parse_starts h rfl
  obtain ⟨_, _, hcc⟩ := parse_ok h
  obtain ⟨more, hm, hat, hle, hor⟩ := circ_get _ _ (count_le _) d n hcc
  obtain ⟨done, r, hsp, hs, hcnt, hl, _⟩ := split_last ((textL c).take k)
  have hr : r ≠ [] := by
    intro e
    subst e
    rcases hcut with hcut | hcut
    · omega
    · have hne : done ≠ [] := by
        intro e
        rw [e] at hs
        have := congrArg List.length hs
        rw [List.length_take] at this
        have h9 : (nlL ([] : List (List UInt8)) ++ ([] : List UInt8)).length = 0 := by simp [nlL]
        rw [h9] at this
        omega
      obtain ⟨ini, la, rfl⟩ : ∃ ini la, done = ini ++ [la] := ⟨done.dropLast, done.getLast hne, (List.dropLast_concat_getLast hne).symm⟩
      have e2 : (textL c).take k = (nlL ini ++ la) ++ [10] := by rw [hs, nl_append]; simp [nlL]
      have hk2 : (nlL ini ++ la).length + 1 = k := by
        have := congrArg List.length e2
        rw [List.length_take] at this
        rw [List.length_append (bs := [10])] at this
        simp only [List.length_cons, List.length_nil] at this
        omega
      apply hcut
      have e3 : ((textL c).take k).getD (k - 1) 0 = 10 := by
        rw [e2, ← hk2]; simp
      rw [List.getD_eq_getElem?_getD, List.getElem?_take, if_pos (by omega)] at e3
      rw [List.getD_eq_getElem?_getD]; exact e3
  rw [hl, if_neg hr] at hm
  have hlm := congrArg List.length hm
  rw [List.length_append, List.length_append] at hlm
  simp only [List.length_cons, List.length_nil] at hlm
  rw [hcnt] at hle hor
  rcases hor with rfl | ⟨h1, h2, h3⟩
  · simp only [List.length_nil] at hlm; omega
  · -- the line of a c is a whole line of the text's
    have hfull : done ++ [r] = linesOf d ++ more := hm
    have hq : done.getD n [] = [99] := by
      have : (done ++ [r]).getD n [] = [99] := by
        rw [hfull, hat, List.getD_eq_getElem?_getD, List.getElem?_append_right (Nat.le_refl _), Nat.sub_self]
        rw [List.getD_eq_getElem?_getD] at h1; exact h1
      rw [List.getD_eq_getElem?_getD, List.getElem?_append_left h3] at this
      rw [List.getD_eq_getElem?_getD]; exact this
    -- done is a beginning of the text's lines
    have hpre : ∃ z, linesOf c = done ++ z := by
      have e1 : textL c = nlL done ++ (r ++ (textL c).drop k) := by
        rw [← List.append_assoc, ← hs, List.take_append_drop]
      have e2 := split_nl (linesOf c) [] (fine_lines c hf)
      rw [List.append_nil] at e2
      have e3 := split_nl done (r ++ (textL c).drop k) (fun l hl => splitOn_nomem 10 _ l (by rw [hsp]; exact List.mem_append_left _ hl))
      rw [← e1] at e3
      have e4 : splitOn 10 (textL c) = linesOf c ++ [[]] := e2
      rw [e4] at e3
      have hne := splitOn_ne 10 (r ++ (textL c).drop k)
      refine ⟨(splitOn 10 (r ++ (textL c).drop k)).dropLast, ?_⟩
      have := congrArg List.dropLast e3
      rw [List.dropLast_concat, List.dropLast_append_of_ne_nil hne] at this
      exact this
    obtain ⟨z, hz⟩ := hpre
    have hmem : [99] ∈ linesOf c := by
      rw [hz]
      apply List.mem_append_left
      rw [List.getD_eq_getElem?_getD, List.getElem?_eq_getElem h3] at hq
      simp only [Option.getD_some] at hq
      rw [← hq]; exact List.getElem_mem _
    exact fine_not99 c hf _ hmem rfl
end Go.Proofs.YtckdlbfndmmjjaaGreatDoor.Aag
