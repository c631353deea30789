/- The walks of the laws DigitsWords and DigitsLines; the text's length is bounded, and the cell of internal/bytealg.MaxLen holds some int. -/
import Derived.Test.YtmadlielncjgjaaDoorDigText
import Derived.Test.YtmadlielncjgjaaDoorDigBack
import Derived.Deep.QuietTactic
import Derived.BigQuiet
namespace Go.Proofs.YtmadlielncjgjaaDoor.Dig
open Go.ChangeShapes Go.WideShapes Go.ChangeAt Go.RowKit

theorem sv_list (l : List UInt8) : (ByteArray.mk l.toArray).toList = l := by rw [Lib.toList_data]

set_option maxHeartbeats 1000000 in
theorem texts_any (v u : Value) (L M : List (List UInt8)) (w : World) (h : ReadsTexts v L w) (h' : ReadsTexts u M w) (hs : L.length ≤ 1099511627776) (hs' : M.length ≤ 1099511627776) :
    Calls Tryd.prog 12 #[v, u] w fun e w' => e = .returned (.bool (decide (L = M))) ∧ Below w.heap.size w w' := by
  obtain ⟨a, cap, hv⟩ : ∃ a cap, v = .slice a L.length cap := by
    rcases h with ⟨hL, a, cap, hv⟩ | ⟨g, off, cap, hv, _⟩
    · exact ⟨a, cap, by rw [hv, hL]; rfl⟩
    · exact ⟨_, _, hv⟩
  obtain ⟨a', cap', hu⟩ : ∃ a cap, u = .slice a M.length cap := by
    rcases h' with ⟨hL, a, cap, hv⟩ | ⟨g, off, cap, hv, _⟩
    · exact ⟨a, cap, by rw [hv, hL]; rfl⟩
    · exact ⟨_, _, hv⟩
  by_cases hlen : L.length = M.length
  · have ht : ((L.length : Int) != (M.length : Int)) = false := by rw [hlen]; simp
    by_cases h0 : L.length = 0
    · have e1 : L = [] := List.length_eq_zero_iff.1 h0
      have e2 : M = [] := List.length_eq_zero_iff.1 (by omega)
      subst e1 e2 hv hu
      clear h h' h0 hlen ht
      have hfin : decide (([] : List (List UInt8)) = []) = true := rfl
      rw [hfin]
      clear hfin
      show Calls Tryd.prog 12 #[.slice a 0 cap, .slice a' 0 cap'] w _
      go_enter Tryd.func12, Tryd.ntmps12
      go_wp2
      refine wp_loop_rounds 1 ?_
      rw [rounds_succ]
      go_wp2_with fail
      go_ret
      exact ⟨rfl, Below.refl _ _⟩
    · obtain ⟨g, off, cap1, hv1, hg, hc⟩ : ∃ g off cap, v = .slice (some ⟨g, off, none⟩) L.length cap ∧ g < w.heap.size ∧ ∀ i, i < L.length → w.cell? ⟨g, off + i, none⟩ = some (sv (L.getD i [])) := by
        rcases h with ⟨hL, _⟩ | h
        · exact absurd (by rw [hL]; rfl) h0
        · exact h
      obtain ⟨g', off', cap1', hu1, hg', hc'⟩ : ∃ g off cap, u = .slice (some ⟨g, off, none⟩) M.length cap ∧ g < w.heap.size ∧ ∀ i, i < M.length → w.cell? ⟨g, off + i, none⟩ = some (sv (M.getD i [])) := by
        rcases h' with ⟨hL, _⟩ | h
        · exact absurd (by rw [hL] at hlen; exact hlen) h0
        · exact h
      clear h h' hv hu
      subst hv1 hu1
      have HC := Lib.hid hc
      have HC' := Lib.hid hc'
      have HL := Lib.hid hlen
      have hn1 : L.length ≤ M.length := by omega
      have hn2 : M.length ≤ L.length := by omega
      clear hc hc' hlen h0
      go_enter Tryd.func12, Tryd.ntmps12
      go_wp2
      go_loopw [5] (fun i wr => ∃ k : Nat, k ≤ L.length ∧ i = .int .i64 k ∧ L.take k = M.take k ∧ Below w.heap.size w wr) (fun i _ => L.length - (intOf i).toNat)
      case atStart => exact ⟨0, Nat.zero_le _, rfl, rfl, Below.refl _ _⟩
      case round =>
        obtain ⟨k, hk, rfl, htk, hbel⟩ := hrel
        have HT := Lib.hid htk
        clear htk
        by_cases hlt : k < L.length
        · have hlt2 : k < M.length := by omega
          have hcell : wr.cell? ⟨g, off + k, none⟩ = some (.string ⟨L[k].toArray⟩) := by rw [hbel.cell (p := ⟨g, off + k, none⟩) hg]; rw [HC.out k hlt]; simp [List.getD, sv, hlt]
          have hcell' : wr.cell? ⟨g', off' + k, none⟩ = some (.string ⟨M[k].toArray⟩) := by rw [hbel.cell (p := ⟨g', off' + k, none⟩) hg']; rw [HC'.out k hlt2]; simp [List.getD, sv, hlt2]
          have hi1 : (k : Int) < (L.length : Int) := by omega
          have hi2 : (k : Int) < (M.length : Int) := by omega
          go_wp2_with fail
          go_quiet (fail)
          go_wp2
          · have hb : (!L[k] == M[k]) = true := by assumption
            go_ret
            refine ⟨?_, below_drewN hbel _⟩
            rw [decide_eq_false (fun e => by subst e; simp at hb)]
            rfl
          · have hb : (!L[k] == M[k]) = false := by assumption
            have he : L[k] = M[k] := by simpa using hb
            refine ⟨⟨k + 1, by omega, by go_num, ?_, below_drewN hbel _⟩, by simp [intOf]; omega⟩
            rw [List.take_succ_eq_append_getElem hlt, List.take_succ_eq_append_getElem hlt2, HT.out, he]
        · go_wp2
          go_ret
          obtain rfl : k = L.length := by omega
          have hfin : L = M := by have := HT.out; rwa [List.take_length, HL.out, List.take_length] at this
          refine ⟨by rw [decide_eq_true hfin]; rfl, hbel⟩
  · have ht : ((L.length : Int) != (M.length : Int)) = true := by rw [bne_iff_ne]; omega
    have hne : decide (L = M) = false := decide_eq_false (fun e => hlen (by rw [e]))
    rw [hne]
    subst hv hu
    clear h h' hlen hne
    go_enter Tryd.func12, Tryd.ntmps12
    go_wp2_with fail
    go_ret
    exact ⟨rfl, Below.refl _ _⟩

/-- the reference's Cut of a text without the byte: one piece -/
theorem refcut_one (l : List UInt8) (w : World) (hs : l.length ≤ 4194304) (hc : (32 : UInt8) ∉ l) :
    Calls Tryd.prog 11 #[sv l, .int .u8 32] w fun e w' => ∃ v, e = .returned v ∧ Texts w.heap.size v [l] w' ∧ Below w.heap.size w w' := by
  obtain ⟨i0, hi, hz0, hz1, hz2⟩ := info_parts info9
  obtain ⟨s, hsl⟩ : ∃ s : ByteArray, s = ⟨l.toArray⟩ := ⟨_, rfl⟩
  have hsv : sv l = .string s := by rw [hsl]; rfl
  have hsz : s.size = l.length := by rw [hsl]; rfl
  rw [hsv]
  have hb : ∀ i (h : i < s.size), ((s[i].toNat : Int) == 32) = false := fun i h => by
    rw [beq_eq_false_iff_ne]
    intro e
    refine hc ?_
    have e1 : s[i] = 32 := UInt8.toNat_inj.1 (by have : (32 : UInt8).toNat = 32 := rfl; omega)
    have e2 : s[i] = l[i]'(by omega) := by subst hsl; rfl
    rw [← e1, e2]; exact List.getElem_mem _
  have HB := Lib.hid hb
  have HV := Lib.hid hsv
  have hsz1 : s.size ≤ 4194304 := by omega
  clear hb hsv hsz hsl
  go_enter Tryd.func11, Tryd.ntmps11
  go_wp2
  go_loop [5, 6, 7] (fun o f i => o = .slice none 0 0 ∧ f = .int .i64 0 ∧ ∃ k : Nat, k ≤ s.size ∧ i = .int .i64 k) (fun _ _ i => s.size - (intOf i).toNat)
  case atStart => exact ⟨rfl, rfl, 0, Nat.zero_le _, rfl⟩
  case round =>
    obtain ⟨rfl, rfl, k, hk, rfl⟩ := hrel
    by_cases hlt : k < s.size
    · have hbk := HB.out k hlt
      go_wp2
      go_round
      case rel => exact ⟨rfl, rfl, k + 1, by omega, by go_num⟩
      case measure => simp [intOf]; omega
    · go_wp2_with (at_builtin; refine wpList_append_own _ rfl _ _ 29 rfl w.heap.size 9 i0 (.string ⟨#[]⟩) 1 16 Tryd.underlying29 hi hz0 hz1 hz2 rfl (by decide) _ _ _ rfl ((World.ownsRow_nil _ _ _ _).alloc _) ⟨w.heap.size, 0, none⟩ 1 1 [.string s] rfl rfl ?c1 ?c2 ?c3 ?c4 ?c5 ?_)
      case c2 => first | rfl | (intro u hu; simp at hu; subst hu; rfl)
      case c3 => unfold maxLen; omega
      intro v' w1 hown' hgrow _
      have HO := Lib.hid hown'
      have hb1 : Below w.heap.size w w1 := ((Below.refl _ _).alloc (Nat.le_refl _) _).grown hgrow (by simp) (by intro k hk; simp [Value.ownBlock] at hk)
      clear hown' hgrow
      go_wp2
      go_ret
      refine ⟨_, rfl, ?_, hb1⟩
      have := HO.out
      rw [← HV.out] at this
      exact this

theorem nl_take_le (L : List (List UInt8)) (k : Nat) : (nlL (L.take k)).length ≤ L.flatten.length + L.length := by
  rw [nl_size]
  have h1 : L.flatten.length = (L.take k).flatten.length + (L.drop k).flatten.length := by
    rw [← List.length_append, ← List.flatten_append, List.take_append_drop]
  have h2 : (L.take k).length ≤ L.length := by rw [List.length_take]; omega
  omega
theorem nl_take_snoc (L : List (List UInt8)) (k : Nat) (h : k < L.length) : nlL (L.take (k + 1)) = nlL (L.take k) ++ L[k] ++ [10] := by
  rw [List.take_succ_eq_append_getElem h, nl_append, List.append_assoc]; congr 1
  unfold nlL; simp

theorem add_data (a b : ByteArray) : (a ++ b).data.toList = a.data.toList ++ b.data.toList := by simp
theorem bytes_ext (a b : ByteArray) (h : a.data.toList = b.data.toList) : a = b := by
  cases a; cases b; simpa using h
theorem sv_add (a b : List UInt8) : (⟨a.toArray⟩ : ByteArray) ++ ⟨b.toArray⟩ = ⟨(a ++ b).toArray⟩ := bytes_ext _ _ (by rw [add_data])
theorem sv_add2 (a : List UInt8) (b : Array UInt8) : (⟨a.toArray⟩ : ByteArray) ++ ⟨b⟩ = ⟨(a ++ b.toList).toArray⟩ := bytes_ext _ _ (by rw [add_data])

/-- THE LAW DigitsLines -/
def SVT (l : List UInt8) : Value := .string ⟨l.toArray⟩
set_option maxHeartbeats 800000 in
theorem lines_law (s : ByteArray) (w : World) (hs : s.size ≤ 1048576) (hm : MaxCell w) (htab : Tab w) :
    Calls Tryd.prog 5 #[.string s] w fun e w' => e = .returned (.bool true) ∧ Below w.heap.size w w' := by
  have hal := alive_any w htab
  have HA := Lib.hid hal
  have HM := Lib.hid hm
  have hmlt := hm.lt
  clear hal hm htab
  have hsize : (linesL s.data.toList).flatten.length + (linesL s.data.toList).length ≤ s.size + 1 := pieces_size _ _ _
  have hnl := nl_lines s.data.toList
  have HNL := Lib.hid hnl
  obtain ⟨L, hL⟩ : ∃ L, L = linesL s.data.toList := ⟨_, rfl⟩
  rw [← hL] at hsize
  have HL := Lib.hid hL
  clear hL hnl
  go_enter Tryd.func5, Tryd.ntmps5
  go_wp2_with fail
  refine HA.out.mono ?_
  rintro e w1 ⟨rfl, hb1⟩
  go_wp2_with fail
  refine (lines_at s w1 (by omega) (HM.out.below hmlt hb1)).mono ?_
  rw [← HL.out]
  rintro e w2 ⟨a, cap, rfl, hr, hb2⟩
  have hb12 : Below w.heap.size w w2 := hb1.trans (hb2.mono hb1.size)
  have HR := Lib.hid hr
  clear hr
  go_wp2
  go_loop [4, 5] (fun t i => ∃ k : Nat, k ≤ L.length ∧ i = .int .i64 k ∧ t = .string ⟨(nlL (L.take k)).toArray⟩) (fun _ i => L.length - (intOf i).toNat)
  case atStart => exact ⟨0, Nat.zero_le _, rfl, rfl⟩
  case round =>
    obtain ⟨k, hk, rfl, rfl⟩ := hrel
    have hnle := nl_take_le L k
    by_cases hlt : k < L.length
    · obtain ⟨g, off, rfl, hcell⟩ := HR.out.cell k hlt
      have hsn := nl_take_snoc L k hlt
      have hel := elem_le L k hlt
      have HSN := Lib.hid hsn
      clear hsn
      go_wp2
      refine ⟨⟨k + 1, by omega, by go_num, ?_⟩, by simp [intOf]; omega⟩
      rw [HSN.out, sv_add, sv_add2]
    · obtain rfl : k = L.length := by omega
      have hfin : (nlL L == s.toList || nlL L == (s ++ ⟨#[10]⟩).toList) = true := by
        have h := HNL.out
        rw [← HL.out] at h
        rw [Lib.toList_data, Lib.toList_data, add_data]
        rcases h with h | h
        · rw [h]; simp
        · rw [h]; simp
      have HF := Lib.hid hfin
      clear hfin
      go_wp2
      · go_ret
        exact ⟨rfl, hb12⟩
      · go_ret
        exact ⟨by rw [← HF.out]; rfl, hb12⟩

/-- THE LAW DigitsWords -/
theorem words_law (s : ByteArray) (w : World) (hs : s.size ≤ 1048576) (hm : MaxCell w) (htab : Tab w) :
    Calls Tryd.prog 4 #[.string s] w fun e w' => e = .returned (.bool true) ∧ Below w.heap.size w w' := by
  have hal := alive_any w htab
  have HA := Lib.hid hal
  have HM := Lib.hid hm
  have hmlt := hm.lt
  clear hal hm htab
  have hsize : (wordsL s.data.toList).flatten.length + (wordsL s.data.toList).length ≤ s.size + 1 := pieces_size _ _ _
  have hne := words_ne s.data.toList
  obtain ⟨L, hL⟩ : ∃ L, L = wordsL s.data.toList := ⟨_, rfl⟩
  rw [← hL] at hsize hne
  have hback := words_join L hne
  have hjs : (joinL L).length ≤ L.flatten.length + L.length := join_size L
  have HL := Lib.hid hL
  have HN := Lib.hid hne
  have HB := Lib.hid hback
  clear hL hne hback
  go_enter Tryd.func4, Tryd.ntmps4
  go_wp2_with fail
  refine HA.out.mono ?_
  rintro e w1 ⟨rfl, hb1⟩
  go_wp2_with fail
  refine (words_at s w1 (by omega) (HM.out.below hmlt hb1)).mono ?_
  rw [← HL.out]
  rintro e w2 ⟨a, cap, rfl, hr, hb2⟩
  have hb12 : Below w.heap.size w w2 := hb1.trans (hb2.mono hb1.size)
  have HR := Lib.hid hr
  clear hr
  go_wp2
  go_loopw [4] (fun i wr => ∃ k : Nat, k ≤ L.length ∧ i = .int .i64 k ∧ Below w2.heap.size w2 wr) (fun i _ => L.length - (intOf i).toNat)
  case atStart => exact ⟨0, Nat.zero_le _, rfl, Below.refl _ _⟩
  case round =>
    obtain ⟨k, hk, rfl, hbr⟩ := hrel
    have hb3 : Below w.heap.size w wr := hb12.trans (hbr.mono hb12.size)
    by_cases hlt : k < L.length
    · obtain ⟨g, off, rfl, hcell⟩ := (HR.out.below hbr).cell k hlt
      obtain ⟨hn1, hn2⟩ := HN.out L[k] (List.getElem_mem _)
      have hel := elem_le L k hlt
      have hcut : Calls Tryd.prog 11 #[.string ⟨L[k].toArray⟩, .int .u8 32] wr fun e w' => ∃ b cap, e = .returned (.slice b 1 cap) ∧ Below wr.heap.size wr w' :=
        (refcut_one L[k] wr (by omega) hn2).mono fun e w' ⟨v, he, hv, hb⟩ => by
          obtain ⟨b, cap', h1, _⟩ := hv.reads.at_
          exact ⟨b, cap', by rw [he, h1]; rfl, hb⟩
      have HC := Lib.hid hcut
      have t1 : ¬ L[k] = [] := hn1
      have t2 : L[k].isEmpty = false := by cases h : L[k] with | nil => exact absurd h hn1 | cons x y => rfl
      clear hn1 hn2 hcut
      go_wp2_with fail
      refine HC.out.mono ?_
      rintro e w3 ⟨b, cap', rfl, hb4⟩
      go_wp2
      go_roundw
      case rel => exact ⟨k + 1, by omega, by go_num, hbr.trans (hb4.mono hbr.size)⟩
      case measure => simp [intOf]; omega
    · have hsz := hbr.size
      have hsz12 := hb12.size
      have hjoin := join_any _ L wr ((HR.out.below hbr).texts (cap := cap)) (by omega)
      have HJ := Lib.hid hjoin
      have hmw : MaxCell wr := HM.out.below hmlt hb3
      have HMW := Lib.hid hmw
      clear hjoin hmw
      go_wp2_with fail
      refine HJ.out.mono ?_
      rintro e w3 ⟨rfl, hb4⟩
      have hmlt2 : 1 < wr.heap.size := by omega
      go_wp2_with fail
      refine (words_at ⟨(joinL L).toArray⟩ w3 (show (joinL L).length ≤ _ by omega) (HMW.out.below hmlt2 hb4)).mono ?_
      rintro e w4 ⟨a2, cap2, rfl, hr2, hb5⟩
      have hrr : ReadsAt a2 L w4 := by have := hr2; rw [show (⟨(joinL L).toArray⟩ : ByteArray).data.toList = joinL L from rfl, HB.out] at this; exact this
      have hll : (wordsL (⟨(joinL L).toArray⟩ : ByteArray).data.toList).length = L.length := by rw [show (⟨(joinL L).toArray⟩ : ByteArray).data.toList = joinL L from rfl, HB.out]
      rw [hll]
      have hold : ReadsAt a L w4 := ((HR.out.below hbr).below hb4).below hb5
      have htx := texts_any _ _ L L w4 (hrr.texts (cap := cap2)) (hold.texts (cap := cap)) (by omega) (by omega)
      rw [decide_eq_true (rfl : L = L)] at htx
      have HT := Lib.hid htx
      have HW45 : Below w.heap.size w w4 := (hb3.trans (hb4.mono hb3.size)).trans (hb5.mono (Nat.le_trans hb3.size hb4.size))
      clear htx hold hll hrr hr2
      go_wp2_with fail
      refine HT.out.mono ?_
      rintro e w5 ⟨rfl, hb6⟩
      go_wp2_with fail
      go_ret
      exact ⟨rfl, HW45.trans (hb6.mono HW45.size)⟩

theorem bulk_one {H : Type} (s : ByteArray) (h : Rows.uptoBulkAll [(.lit (.string s.data.toList) : DataW H)] ≤ 1048576) : s.size ≤ 1048576 := by
  simp only [Rows.uptoBulkAll, Rows.uptoBulk] at h
  have : s.size = s.data.toList.length := rfl
  omega
theorem words_core {H : Type} (W : World) (s : ByteArray) (_hs : s.size ≤ maxLen) (hbulk : Rows.uptoBulkAll [(.lit (.string s.data.toList) : DataW H)] ≤ 1048576)
    (hL : laidMetH Tryd.prog Rows.digitsWordsUptoRow.laid W) (hopen : W.ShapedOpen Tryd.prog) :
    Calls Tryd.prog 4 #[.string s] W fun e w' => e = .returned (.bool true) ∧ Below W.heap.size W w' :=
  words_law s W (bulk_one s hbulk) (Tryd.laysM145.s1_3 W hopen) (tab_of hL)
theorem lines_core {H : Type} (W : World) (s : ByteArray) (_hs : s.size ≤ maxLen) (hbulk : Rows.uptoBulkAll [(.lit (.string s.data.toList) : DataW H)] ≤ 1048576)
    (hL : laidMetH Tryd.prog Rows.digitsLinesUptoRow.laid W) (hopen : W.ShapedOpen Tryd.prog) :
    Calls Tryd.prog 5 #[.string s] W fun e w' => e = .returned (.bool true) ∧ Below W.heap.size W w' :=
  lines_law s W (bulk_one s hbulk) (Tryd.laysM145.s1_3 W hopen) (tab_of hL)
end Go.Proofs.YtmadlielncjgjaaDoor.Dig
