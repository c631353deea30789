/- What the pages say of bits, truth and clauses; no condition but that texts are as long as Go's may be. -/
import Derived.Test.YtbgcoeejmnejdaaPt28
import Derived.Test.YtbgcoeejmnejdaaPt27
import Derived.Laws.CopyOwn
namespace Go.Proofs.Ytbgcoeejmnejdaa.Sim
open Go.ChangeShapes Go.WideShapes Go.ChangeAt Go.RowKit Go.Maps Circ Cw

theorem take_all (s : ByteArray) (k : Nat) (h : k < s.size) : (s.data.toList.take (k + 1)).all isBit = ((s.data.toList.take k).all isBit && isBit (s[k]'h)) := by
  have hl : k < s.data.toList.length := by simpa using h
  rw [List.take_succ_eq_append_getElem hl, List.all_append]
  congr 1
  rw [List.all_cons, List.all_nil, Bool.and_true]
  congr 1
theorem refbits_any (s : ByteArray) (n : Int) (w : World) (hs : s.size ≤ 9223372036854775807) :
    Calls Try.prog 27 #[.string s, .int .i64 n] w fun e w' => e = .returned (.bool (bitsM s n)) ∧ w = w' := by
  go_enter Try.func27, Try.ntmps27
  go_wp2
  go_loop [5] (fun i => ∃ k : Nat, k ≤ s.size ∧ i = .int .i64 k ∧ (s.data.toList.take k).all isBit = true) (fun i => s.size - (intOf i).toNat)
  case atStart => exact ⟨0, Nat.zero_le _, rfl, rfl⟩
  case round =>
    obtain ⟨k, hk, rfl, ha⟩ := hrel
    have HA := Lib.hid ha
    clear ha
    by_cases hlt : k < s.size
    · have HT := Lib.hid (take_all s k hlt)
      rw [HA.out, Bool.true_and] at HT
      have hib : isBit (s[k]'hlt) = (decide ((s[k]'hlt).toNat = 48) || decide ((s[k]'hlt).toNat = 49)) := rfl
      rw [hib] at HT
      clear hib
      have hkl : k < s.data.toList.length := by simpa using hlt
      by_cases h0 : (s[k]'hlt).toNat = 48
      · have b0 : (((s[k]'hlt).toNat : Int) != 48) = false := by rw [bne_eq_false_iff_eq]; omega
        have HN : Hid ((s.data.toList.take (k + 1)).all isBit = true) := by have h := HT.out; rw [h0] at h; exact h
        clear HT
        go_wp2
        go_round
        case rel => exact ⟨k + 1, by omega, by go_num, HN.out⟩
        case measure => simp [intOf]; omega
      · have b0 : (((s[k]'hlt).toNat : Int) != 48) = true := by rw [bne_iff_ne]; omega
        by_cases h1 : (s[k]'hlt).toNat = 49
        · have b1 : (((s[k]'hlt).toNat : Int) != 49) = false := by rw [bne_eq_false_iff_eq]; omega
          have HN : Hid ((s.data.toList.take (k + 1)).all isBit = true) := by have h := HT.out; rw [h1] at h; exact h
          clear HT
          go_wp2
          go_round
          case rel => exact ⟨k + 1, by omega, by go_num, HN.out⟩
          case measure => simp [intOf]; omega
        · have b1 : (((s[k]'hlt).toNat : Int) != 49) = true := by rw [bne_iff_ne]; omega
          have HF : Hid (bitsM s n = false) := by
            have h := HT.out
            rw [show decide ((s[k]'hlt).toNat = 48) = false from decide_eq_false h0, show decide ((s[k]'hlt).toNat = 49) = false from decide_eq_false h1] at h
            unfold Hid bitsM
            rw [← List.take_append_drop (k + 1) s.data.toList, List.all_append, h]
            simp
          clear HT
          go_wp2
          go_ret
          exact ⟨by rw [HF.out]; rfl, rfl⟩
    · obtain rfl : k = s.size := by omega
      have HF : Hid (bitsM s n = ((s.size : Int) == n)) := by
        have h := HA.out
        rw [List.take_of_length_le (by simp)] at h
        unfold Hid bitsM
        rw [h, Bool.and_true]; rfl
      go_wp2
      go_ret
      exact ⟨by rw [HF.out]; rfl, rfl⟩
theorem rvar2_any (x : Int) (hx : x ≤ 9223372036854775807) (w : World) : Calls Try.prog 54 #[.int .i64 x] w fun e w' => e = .returned (.int .i64 (cnt x / 2)) ∧ w = w' := by
  by_cases h : x < 0
  · rw [cnt_neg x h]
    go_enter Try.func54, Try.ntmps54
    go_wp2
    go_ret
    exact ⟨rfl, rfl⟩
  · rw [cnt_pos x (by omega)]
    exact Str.rvar_any x (by omega) ⟨by omega, hx⟩ w
theorem rneg2_any (x : Int) (hx : x ≤ 9223372036854775807) (w : World) : Calls Try.prog 55 #[.int .i64 x] w fun e w' => e = .returned (.bool (decide (cnt x % 2 = 1))) ∧ w = w' := by
  by_cases h : x < 0
  · rw [cnt_neg x h]
    have hd : decide (0 < x) = false := decide_eq_false (by omega)
    go_enter Try.func55, Try.ntmps55
    go_wp2
    go_ret
    exact ⟨rfl, rfl⟩
  · rw [cnt_pos x (by omega)]
    exact Str.rneg_any x (by omega) ⟨by omega, hx⟩ w
theorem reftrue_any (s : ByteArray) (l : Int) (w : World) (_hs : s.size ≤ 9223372036854775807) (hl : l ≤ 9223372036854775807) :
    Calls Try.prog 29 #[.string s, .int .i64 l] w fun e w' => e = .returned (.bool (trueM s.data.toList l)) ∧ w = w' := by
  have RV := Lib.hid (rvar2_any l hl w)
  have RN := Lib.hid (fun w => rneg2_any l hl w)
  have h0 : 0 ≤ cnt l / 2 := by unfold cnt; split <;> omega
  obtain ⟨i, hi⟩ : ∃ i : Nat, cnt l / 2 = (i : Int) := ⟨(cnt l / 2).toNat, by omega⟩
  have hi2 : i ≤ 4611686018427387903 := by unfold cnt at hi; split at hi <;> omega
  unfold trueM
  rw [hi, Int.toNat_natCast]
  rw [hi] at RV
  clear h0 hi
  by_cases hlt : i < s.size
  · have hl' : i < s.data.toList.length := by simpa using hlt
    have HE : Hid (decide (s.data.toList[i]? = some 49) = ((((s[i]'hlt).toNat : Nat) : Int) == 49)) := by
      unfold Hid
      rw [List.getElem?_eq_getElem hl', u8_49, show s.data.toList[i] = s[i]'hlt from by rw [Array.getElem_toList]; rfl]
    rw [HE.out]
    clear HE
    go_enter Try.func29, Try.ntmps29
    go_wp2_with fail
    refine RV.out.mono ?_
    rintro e w' ⟨rfl, rfl⟩
    go_wp2_with fail
    refine (RN.out w).mono ?_
    rintro e w' ⟨rfl, rfl⟩
    go_wp2
    go_ret
    exact ⟨rfl, rfl⟩
  · have HE : Hid (decide (s.data.toList[i]? = some 49) = false) := by
      unfold Hid
      rw [List.getElem?_eq_none (by simp; omega)]; rfl
    rw [HE.out, show (false != decide (cnt l % 2 = 1)) = decide (cnt l % 2 = 1) from by cases decide (cnt l % 2 = 1) <;> rfl]
    clear HE
    go_enter Try.func29, Try.ntmps29
    go_wp2_with fail
    refine RV.out.mono ?_
    rintro e w' ⟨rfl, rfl⟩
    go_wp2_with fail
    refine (RN.out w).mono ?_
    rintro e w' ⟨rfl, rfl⟩
    go_wp2
    go_ret
    exact ⟨rfl, rfl⟩
theorem refholds_any (s : ByteArray) (l : List Int) (A : Option Addr) (q : Nat) (w : World) (hs : s.size ≤ 9223372036854775807) (hl : ∀ x ∈ l, I64 x) (hn : l.length ≤ 9223372036854775807) (hr : LRow w w.heap.size 1 A (ints l)) :
    Calls Try.prog 31 #[.string s, .slice A l.length q] w fun e w' => e = .returned (.bool (holdsM s.data.toList l)) ∧ w = w' := by
  have HL := Lib.hid hl
  have HR := Lib.hid hr
  clear hl hr
  go_enter Try.func31, Try.ntmps31
  go_wp2
  go_loop [5] (fun i => ∃ k : Nat, k ≤ l.length ∧ i = .int .i64 k ∧ (l.take k).any (trueM s.data.toList) = false) (fun i => l.length - (intOf i).toNat)
  case atStart => exact ⟨0, Nat.zero_le _, rfl, rfl⟩
  case round =>
    obtain ⟨k, hk, rfl, ha⟩ := hrel
    have HA := Lib.hid ha
    clear ha
    by_cases hlt : k < l.length
    · obtain ⟨b, o, rfl, -, hc⟩ := LRow.int HR.out hlt
      have RT := Lib.hid (reftrue_any s l[k] w hs (HL.out _ (List.getElem_mem hlt)).2)
      have HT : Hid ((l.take (k + 1)).any (trueM s.data.toList) = trueM s.data.toList l[k]) := by
        unfold Hid
        rw [List.take_succ_eq_append_getElem hlt, List.any_append, HA.out]; simp
      have HM := Lib.hid (List.getElem_mem hlt)
      generalize l[k] = x at *
      cases hq : trueM s.data.toList x with
      | true =>
        rw [hq] at RT HT
        have HF : Hid (holdsM s.data.toList l = true) := List.any_eq_true.2 ⟨x, HM.out, hq⟩
        clear hq HT
        go_wp2_with fail
        refine RT.out.mono ?_
        rintro e w' ⟨rfl, rfl⟩
        go_wp2
        go_ret
        exact ⟨by rw [HF.out]; rfl, rfl⟩
      | false =>
        rw [hq] at RT HT
        clear hq
        go_wp2_with fail
        refine RT.out.mono ?_
        rintro e w' ⟨rfl, rfl⟩
        go_wp2
        go_round
        case rel => exact ⟨k + 1, by omega, by go_num, HT.out⟩
        case measure => simp [intOf]; omega
    · obtain rfl : k = l.length := by omega
      have HF : Hid (holdsM s.data.toList l = false) := by have h := HA.out; rw [List.take_length] at h; exact h
      go_wp2
      go_ret
      exact ⟨by rw [HF.out]; rfl, rfl⟩
theorem conv1 (w : World) (g : Nat) (x : UInt8) (h : w.cell? ⟨g, 0, none⟩ = some (.int .u8 ((x.toNat : Nat) : Int))) : (convert 87 9 (.slice (some ⟨g, 0, none⟩) 1 1)).run Try.prog w = .ok (sv [x]) w := by
  have := run_convert_bytes_arg (P := Try.prog) (w := w) 87 5 Try.underlying87 Try.underlying5 g 0 1 1 [((x.toNat : Nat) : Int)] rfl (fun i hi => by
    obtain rfl : i = 0 := by simp at hi; omega
    exact h) 9 Try.underlying9
  have e : strOfNums [((x.toNat : Nat) : Int)] = ⟨[x].toArray⟩ := by
    unfold strOfNums
    rw [List.map_cons, List.map_nil, show UInt8.ofNat (((x.toNat : Nat) : Int).toNat) = x from by rw [Int.toNat_natCast]; exact UInt8.ofNat_toNat]
  rw [this, e]; rfl
theorem set_text (v : List UInt8) (k : Nat) (hk : k < v.length) (x : UInt8) : ((⟨v.toArray⟩ : ByteArray).extract 0 k ++ ⟨[x].toArray⟩) ++ (⟨v.toArray⟩ : ByteArray).extract (k + 1) v.length = ⟨(v.set k x).toArray⟩ := by
  apply ByteArray.ext
  rw [ByteArray.data_append, ByteArray.data_append, ByteArray.data_extract, ByteArray.data_extract]
  apply Array.toList_inj.1
  rw [List.set_eq_take_append_cons_drop, if_pos hk]
  simp
  rw [List.take_of_length_le (by simp)]
theorem sv_size (v : List UInt8) : (⟨v.toArray⟩ : ByteArray).size = v.length := by show v.toArray.size = _; simp
set_option maxHeartbeats 4000000 in
set_option maxRecDepth 100000 in
theorem refset_any (v : List UInt8) (k : Nat) (x : UInt8) (w : World) (hk : k < v.length) (hv : v.length ≤ 1048576) :
    Calls Try.prog 63 #[sv v, .int .i64 (k : Int), .int .u8 ((x.toNat : Nat) : Int)] w fun e w' => e = .returned (sv (v.set k x)) ∧ Below w.heap.size w w' := by
  have hsz := sv_size v
  have ST := Lib.hid (set_text v k hk x)
  unfold sv
  obtain ⟨s, hs⟩ : ∃ s, (⟨v.toArray⟩ : ByteArray) = s := ⟨_, rfl⟩
  rw [hs] at hsz ST ⊢
  have hcv := fun w : World => conv1 (w.alloc (.cells #[.int .u8 ((x.toNat : Nat) : Int)] 5)) w.heap.size x (by rw [World.cell?_alloc_new]; rfl)
  have hcd := fun w : World => conv1 ((w.alloc (.cells #[.int .u8 ((x.toNat : Nat) : Int)] 5)).drew) w.heap.size x (by
    have h : ((w.alloc (.cells #[.int .u8 ((x.toNat : Nat) : Int)] 5)).drew).heap[w.heap.size]? = some (.cells #[.int .u8 ((x.toNat : Nat) : Int)] 5 (0, 0)) := Array.getElem?_push_size
    rw [Lib.cell_of_heap h]; rfl)
  unfold sv at hcv hcd
  have hk2 : k ≤ s.size := by omega
  have hk3 : k + 1 ≤ s.size := by omega
  have hk4 : (k : Int) + 1 ≤ (s.size : Int) := by omega
  have hk5 : (k : Int) ≤ (s.size : Int) := by omega
  have hs2 : s.size ≤ 1048576 := by omega
  have VL := Lib.hid hsz
  clear hs hsz
  go_enter Try.func63, Try.ntmps63
  go_wp2
  go_region
  all_goals
    clear hcv hcd
    go_wp2
    go_ret
    refine ⟨?_, ?_⟩
    · show Ending.returned (Value.string _) = _
      rw [← ST.out, VL.out]
    · first | exact ((Below.refl _ _).alloc (Nat.le_refl _) _).drew | exact (Below.refl _ _).drew.alloc (Nat.le_refl _) _ | exact ((Below.refl _ _).alloc (Nat.le_refl _) _)
end Go.Proofs.Ytbgcoeejmnejdaa.Sim
