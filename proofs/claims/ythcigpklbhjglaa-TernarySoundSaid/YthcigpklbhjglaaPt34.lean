/- Trits and Covers; no condition but that texts are as long as Go's may be. interlockref07.Ternary; condition: the circuit lies in memory, texts are as long as Go's may be. -/
import Derived.Test.YthcigpklbhjglaaPt32
import Derived.Test.YthcigpklbhjglaaPt31
namespace Go.Proofs.Ythcigpklbhjglaa.Ter
open Go.ChangeShapes Go.WideShapes Go.ChangeAt Go.RowKit Go.Maps Circ Cw
open Str Sim

set_option maxRecDepth 100000 in
theorem ptrits_any (s : ByteArray) (n : Int) (w : World) (hs : s.size ≤ 9223372036854775807) :
    Calls Try.prog 42 #[.string s, .int .i64 n] w fun e w' => e = .returned (.bool (tritsM s n)) ∧ w = w' := by
  by_cases hn : (s.size : Int) = n
  · subst hn
    have hb : ((s.size : Int) != (s.size : Int)) = false := by simp
    go_enter Try.func42, Try.ntmps42
    go_wp2
    go_loop [11] (fun i => ∃ k : Nat, k ≤ s.size ∧ i = .int .i64 k ∧ (s.data.toList.take k).all isTrit = true) (fun i => s.size - (intOf i).toNat)
    case atStart => exact ⟨0, Nat.zero_le _, rfl, rfl⟩
    case round =>
      obtain ⟨k, hk, rfl, ha⟩ := hrel
      have HA := Lib.hid ha
      clear ha
      by_cases hlt : k < s.size
      · have HT := Lib.hid (take_trit s k hlt)
        rw [HA.out, Bool.true_and] at HT
        have KN := Lib.hid (known_any (s[k]'hlt) w)
        cases hq : isBit (s[k]'hlt) with
        | true =>
          have HN : Hid ((s.data.toList.take (k + 1)).all isTrit = true) := by
            unfold Hid; rw [HT.out]; unfold isTrit; rw [hq]; rfl
          rw [hq] at KN
          clear HT hq
          go_wp2_with fail
          refine KN.out.mono ?_
          rintro e w' ⟨rfl, rfl⟩
          clear KN
          go_wp2
          go_round
          case rel => exact ⟨k + 1, by omega, by go_num, HN.out⟩
          case measure => simp [intOf]; omega
        | false =>
          rw [hq] at KN
          by_cases h2 : (s[k]'hlt).toNat = 120
          · have b2 : (((s[k]'hlt).toNat : Int) != 120) = false := by rw [bne_eq_false_iff_eq]; omega
            have HN : Hid ((s.data.toList.take (k + 1)).all isTrit = true) := by
              unfold Hid; rw [HT.out]; unfold isTrit; rw [hq, decide_eq_true h2]; rfl
            clear HT hq h2
            go_wp2_with fail
            refine KN.out.mono ?_
            rintro e w' ⟨rfl, rfl⟩
            clear KN
            go_wp2
            go_round
            case rel => exact ⟨k + 1, by omega, by go_num, HN.out⟩
            case measure => simp [intOf]; omega
          · have b2 : (((s[k]'hlt).toNat : Int) != 120) = true := by rw [bne_iff_ne]; omega
            have HF : Hid (tritsM s (s.size : Int) = false) := by
              have h := HT.out
              unfold isTrit at h
              rw [hq, decide_eq_false h2] at h
              unfold Hid tritsM
              rw [← List.take_append_drop (k + 1) s.data.toList, List.all_append]
              unfold isTrit
              rw [h]
              simp
            clear HT hq h2
            go_wp2_with fail
            refine KN.out.mono ?_
            rintro e w' ⟨rfl, rfl⟩
            clear KN
            go_wp2
            go_ret
            exact ⟨by rw [HF.out]; rfl, rfl⟩
      · obtain rfl : k = s.size := by omega
        have HF : Hid (tritsM s (s.size : Int) = true) := by
          have h := HA.out
          rw [List.take_of_length_le (by simp)] at h
          unfold Hid tritsM
          rw [h, decide_eq_true rfl]; rfl
        go_wp2
        go_ret
        exact ⟨by rw [HF.out]; rfl, rfl⟩
  · have hb : ((s.size : Int) != n) = true := bne_iff_ne.2 hn
    have HF : Hid (tritsM s n = false) := by unfold Hid tritsM; rw [decide_eq_false hn]; rfl
    clear hn
    go_enter Try.func42, Try.ntmps42
    go_wp2
    go_ret
    exact ⟨by rw [HF.out]; rfl, rfl⟩
instance (x y : UInt8) : Decidable (cov x y) := by unfold cov; infer_instance
/-- may all that b might be be of a, too? -/
def covM (a b : ByteArray) : Bool := decide (a.size = b.size) && (List.range a.size).all fun i => decide (cov (a.data.toList.getD i 120) (b.data.toList.getD i 120))
theorem covM_iff (a b : ByteArray) : covM a b = true ↔ Cov a.data.toList b.data.toList := by
  unfold covM Cov
  rw [Bool.and_eq_true, decide_eq_true_eq, List.all_eq_true]
  have ha : a.data.toList.length = a.size := by simp
  have hb : b.data.toList.length = b.size := by simp
  constructor
  · rintro ⟨h1, h2⟩
    refine ⟨by omega, fun i => ?_⟩
    by_cases hi : i < a.size
    · exact of_decide_eq_true (h2 i (List.mem_range.2 hi))
    · rw [List.getD_eq_getElem?_getD, List.getElem?_eq_none (by omega)]; exact .inr rfl
  · rintro ⟨h1, h2⟩
    exact ⟨by omega, fun i _ => decide_eq_true (h2 i)⟩
theorem at_byte (s : ByteArray) {k : Nat} (h : k < s.size) (d : UInt8) : s.data.toList.getD k d = s[k]'h := by
  have hl : k < s.data.toList.length := by simpa using h
  rw [List.getD_eq_getElem?_getD, List.getElem?_eq_getElem hl, Option.getD_some, Array.getElem_toList]; rfl
set_option maxRecDepth 100000 in
theorem pcovers_any (a b : ByteArray) (w : World) (hs : a.size ≤ 9223372036854775807) :
    Calls Try.prog 41 #[.string a, .string b] w fun e w' => e = .returned (.bool (covM a b)) ∧ Below w.heap.size w w' := by
  by_cases hn : a.size = b.size
  · have hb : ((a.size : Int) != (b.size : Int)) = false := by rw [bne_eq_false_iff_eq]; omega
    have HN := Lib.hid hn
    go_enter Try.func41, Try.ntmps41
    go_wp2
    go_loopw [13] (fun i wr => ∃ k : Nat, k ≤ a.size ∧ i = .int .i64 k ∧ (∀ j, j < k → cov (a.data.toList.getD j 120) (b.data.toList.getD j 120)) ∧ Below w.heap.size w wr) (fun i _ => a.size - (intOf i).toNat)
    case atStart => exact ⟨0, Nat.zero_le _, rfl, fun j h => absurd h (Nat.not_lt_zero _), Below.refl _ _⟩
    case round =>
      obtain ⟨k, hk, rfl, ha, hbw⟩ := hrel
      have HA := Lib.hid ha
      have HB := Lib.hid hbw
      clear ha hbw
      by_cases hlt : k < a.size
      · have hlb : k < b.size := by omega
        have hz0 : (0 : Int) ≤ (k : Int) := by omega
        have hz : (k : Int) < (a.size : Int) := by omega
        have hz2 : (k : Int) < (b.size : Int) := by omega
        have NXT : cov (a[k]'hlt) (b[k]'hlb) → Hid (∀ j, j < k + 1 → cov (a.data.toList.getD j 120) (b.data.toList.getD j 120)) := fun h j hj => by
          by_cases e : j = k
          · subst e; rw [at_byte a hlt, at_byte b hlb]; exact h
          · exact HA.out j (by omega)
        have BAD : ¬ cov (a[k]'hlt) (b[k]'hlb) → Hid (covM a b = false) := fun h => by
          unfold Hid
          rw [Bool.eq_false_iff]
          intro hc
          have := ((covM_iff a b).1 hc).2 k
          rw [at_byte a hlt, at_byte b hlb] at this
          exact h this
        by_cases h1 : (a[k]'hlt) = (b[k]'hlb)
        · have b1 : (((a[k]'hlt).toNat : Int) != ((b[k]'hlb).toNat : Int)) = false := by rw [h1]; simp
          have HX := NXT (.inl h1)
          clear NXT BAD h1
          go_wp2
          refine wp_region_wd (by kernel_rfl) (by kernel_rfl) ?_
          repeat (first | go_big_quiet_skip | (go_big_quiet_want; go_big_quiet_op; go_big_quiet_on))
          refine wpQuiet_nil ?_
          intro wz9 hw'
          obtain ⟨⟨_, hb9⟩, hw''⟩ := hw'
          subst hw''
          have BN : Hid (Below w.heap.size w wz9) := HB.out.trans (hb9.mono HB.out.size)
          clear hb9
          go_wp2
          go_roundw
          case rel => exact ⟨k + 1, by omega, by go_num, HX.out, BN.out⟩
          case measure => simp [intOf]; omega
        · have b1 : (((a[k]'hlt).toNat : Int) != ((b[k]'hlb).toNat : Int)) = true := by
            rw [bne_iff_ne]
            exact fun e => h1 (UInt8.toNat_inj.1 (by omega))
          by_cases h2 : (a[k]'hlt) = 120
          · have b2 : (((a[k]'hlt).toNat : Int) != 120) = false := by rw [h2]; rfl
            have HX := NXT (.inr h2)
            clear NXT BAD h1 h2
            go_wp2
            refine wp_region_wd (by kernel_rfl) (by kernel_rfl) ?_
            repeat (first | go_big_quiet_skip | (go_big_quiet_want; go_big_quiet_op; go_big_quiet_on))
            refine wpQuiet_nil ?_
            intro wz9 hw'
            obtain ⟨⟨_, hb9⟩, hw''⟩ := hw'
            subst hw''
            have BN : Hid (Below w.heap.size w wz9) := HB.out.trans (hb9.mono HB.out.size)
            clear hb9
            go_wp2
            go_roundw
            case rel => exact ⟨k + 1, by omega, by go_num, HX.out, BN.out⟩
            case measure => simp [intOf]; omega
          · have b2 : (((a[k]'hlt).toNat : Int) != 120) = true := by
              rw [bne_iff_ne]
              exact fun e => h2 (UInt8.toNat_inj.1 (by have : (120 : UInt8).toNat = 120 := rfl; omega))
            have HX := BAD (by rintro (h | h); exact h1 h; exact h2 h)
            clear NXT BAD h1 h2
            go_wp2
            refine wp_region_wd (by kernel_rfl) (by kernel_rfl) ?_
            repeat (first | go_big_quiet_skip | (go_big_quiet_want; go_big_quiet_op; go_big_quiet_on))
            refine wpQuiet_nil ?_
            intro wz9 hw'
            obtain ⟨⟨_, hb9⟩, hw''⟩ := hw'
            subst hw''
            have BN : Hid (Below w.heap.size w wz9) := HB.out.trans (hb9.mono HB.out.size)
            clear hb9
            go_wp2
            go_ret
            exact ⟨by rw [HX.out]; rfl, BN.out⟩
      · obtain rfl : k = a.size := by omega
        have HF : Hid (covM a b = true) := by
          unfold Hid covM
          rw [decide_eq_true HN.out, Bool.true_and, List.all_eq_true]
          exact fun i hi => decide_eq_true (HA.out i (List.mem_range.1 hi))
        go_wp2
        go_ret
        exact ⟨by rw [HF.out]; rfl, HB.out⟩
  · have hb : ((a.size : Int) != (b.size : Int)) = true := by rw [bne_iff_ne]; omega
    have HF : Hid (covM a b = false) := by unfold Hid covM; rw [decide_eq_false hn]; rfl
    clear hn
    go_enter Try.func41, Try.ntmps41
    go_wp2
    go_ret
    exact ⟨by rw [HF.out]; rfl, Below.refl _ _⟩
end Go.Proofs.Ythcigpklbhjglaa.Ter
namespace Go.Proofs.Ythcigpklbhjglaa.Ter
open Go.ChangeShapes Go.WideShapes Go.ChangeAt Go.RowKit Go.Maps Circ Cw
open Str Sim

set_option maxHeartbeats 16000000 in
set_option maxRecDepth 100000 in
theorem reftern_no (c : Cir) (s : Places) (st inp : ByteArray) (w : World) (h : CLies w w.heap.size c s) (hf : CFits c s) (_hzs : st.size ≤ 9223372036854775807) (_hzi : inp.size ≤ 9223372036854775807) (hc : refOk c = false) :
    Calls Try.prog 37 #[cirV c s, .string st, .string inp] w fun e w' => e = .returned (.tuple #[sv [], .int .i64 9]) ∧ Below w.heap.size w w' := by
  obtain ⟨WA, hWA⟩ : ∃ x, w.alloc (.cells #[.int .i64 c.max, .slice s.ai c.ins.length s.ki, .slice s.al c.lats.length s.kl, .slice s.ao c.outs.length s.ko, .slice s.ab c.bads.length s.kb, .slice s.ac c.invs.length s.kc, .slice s.aa c.ands.length s.ka, .slice s.an c.names.length s.kn] 27) = x := ⟨_, rfl⟩
  have bA : Hid (Below w.heap.size w WA) := by unfold Hid; rw [← hWA]; exact (Below.refl _ _).alloc (Nat.le_refl _) _
  have GA : Hid (WA.heap[w.heap.size]? = some (.cells (cirC c s) 27 (0, 0))) := by unfold Hid; rw [← hWA]; exact Array.getElem?_push_size
  obtain ⟨e0, e1, e2, e3, e4, e5, e6, e7⟩ := cells8 GA.out
  have CK := Lib.hid (refcheck_any c s WA ((h.below bA.out).more bA.out.size) hf)
  rw [refV_no c hc] at CK
  clear h hf hc
  unfold cirV at CK ⊢
  rw [show cirC c s = #[.int .i64 c.max, .slice s.ai c.ins.length s.ki, .slice s.al c.lats.length s.kl, .slice s.ao c.outs.length s.ko, .slice s.ab c.bads.length s.kb, .slice s.ac c.invs.length s.kc, .slice s.aa c.ands.length s.ka, .slice s.an c.names.length s.kn] from rfl] at CK ⊢
  go_enter Try.func37, Try.ntmps37
  go_wp2_with fail
  refine CK.out.mono ?_
  rintro e w1 ⟨rfl, hb⟩
  have B1 : Hid (Below w.heap.size w w1) := bA.out.trans (hb.mono bA.out.size)
  have G1 : Hid (w1.heap[w.heap.size]? = some (.cells (cirC c s) 27 (0, 0))) := (hb.block _ (lt_of_block GA.out)).trans GA.out
  clear e0 e1 e2 e3 e4 e5 e6 e7 hWA CK hb
  go_wp2
  go_ret2
  exact ⟨rfl, B1.out⟩
set_option maxHeartbeats 16000000 in
set_option maxRecDepth 100000 in
theorem reftern_long1 (c : Cir) (s : Places) (st inp : ByteArray) (w : World) (h : CLies w w.heap.size c s) (hf : CFits c s) (hzs : st.size ≤ 9223372036854775807) (_hzi : inp.size ≤ 9223372036854775807) (hc : refOk c = true) (hs : tritsM st (c.lats.length : Int) = false) :
    Calls Try.prog 37 #[cirV c s, .string st, .string inp] w fun e w' => e = .returned (.tuple #[sv [], .int .i64 5]) ∧ Below w.heap.size w w' := by
  obtain ⟨WA, hWA⟩ : ∃ x, w.alloc (.cells #[.int .i64 c.max, .slice s.ai c.ins.length s.ki, .slice s.al c.lats.length s.kl, .slice s.ao c.outs.length s.ko, .slice s.ab c.bads.length s.kb, .slice s.ac c.invs.length s.kc, .slice s.aa c.ands.length s.ka, .slice s.an c.names.length s.kn] 27) = x := ⟨_, rfl⟩
  have bA : Hid (Below w.heap.size w WA) := by unfold Hid; rw [← hWA]; exact (Below.refl _ _).alloc (Nat.le_refl _) _
  have GA : Hid (WA.heap[w.heap.size]? = some (.cells (cirC c s) 27 (0, 0))) := by unfold Hid; rw [← hWA]; exact Array.getElem?_push_size
  obtain ⟨e0, e1, e2, e3, e4, e5, e6, e7⟩ := cells8 GA.out
  have CK := Lib.hid (refcheck_any c s WA ((h.below bA.out).more bA.out.size) hf)
  rw [refV_yes c hc] at CK
  have T1 : Hid (∀ w, Calls Try.prog 43 #[.string st, .int .i64 (c.lats.length : Int)] w fun e w' => e = .returned (.bool false) ∧ w = w') := fun w => by
    have := reftrits_any st c.lats.length w hzs
    rw [hs] at this
    exact this
  clear h hf hc hs
  unfold cirV at CK ⊢
  rw [show cirC c s = #[.int .i64 c.max, .slice s.ai c.ins.length s.ki, .slice s.al c.lats.length s.kl, .slice s.ao c.outs.length s.ko, .slice s.ab c.bads.length s.kb, .slice s.ac c.invs.length s.kc, .slice s.aa c.ands.length s.ka, .slice s.an c.names.length s.kn] from rfl] at CK ⊢
  go_enter Try.func37, Try.ntmps37
  go_wp2_with fail
  refine CK.out.mono ?_
  rintro e w1 ⟨rfl, hb⟩
  have B1 : Hid (Below w.heap.size w w1) := bA.out.trans (hb.mono bA.out.size)
  have G1 : Hid (w1.heap[w.heap.size]? = some (.cells (cirC c s) 27 (0, 0))) := (hb.block _ (lt_of_block GA.out)).trans GA.out
  clear e0 e1 e2 e3 e4 e5 e6 e7 hWA CK hb
  obtain ⟨e0, e1, e2, e3, e4, e5, e6, e7⟩ := cells8 G1.out
  go_wp2_with fail
  refine (T1.out w1).mono ?_
  rintro e w' ⟨rfl, rfl⟩
  clear e0 e1 e2 e3 e4 e5 e6 e7
  go_wp2
  go_ret2
  exact ⟨rfl, B1.out⟩
set_option maxHeartbeats 16000000 in
set_option maxRecDepth 100000 in
theorem reftern_long2 (c : Cir) (s : Places) (st inp : ByteArray) (w : World) (h : CLies w w.heap.size c s) (hf : CFits c s) (hzs : st.size ≤ 9223372036854775807) (hzi : inp.size ≤ 9223372036854775807) (hc : refOk c = true) (hs : tritsM st (c.lats.length : Int) = true) (hi : tritsM inp (c.ins.length : Int) = false) :
    Calls Try.prog 37 #[cirV c s, .string st, .string inp] w fun e w' => e = .returned (.tuple #[sv [], .int .i64 5]) ∧ Below w.heap.size w w' := by
  obtain ⟨WA, hWA⟩ : ∃ x, w.alloc (.cells #[.int .i64 c.max, .slice s.ai c.ins.length s.ki, .slice s.al c.lats.length s.kl, .slice s.ao c.outs.length s.ko, .slice s.ab c.bads.length s.kb, .slice s.ac c.invs.length s.kc, .slice s.aa c.ands.length s.ka, .slice s.an c.names.length s.kn] 27) = x := ⟨_, rfl⟩
  have bA : Hid (Below w.heap.size w WA) := by unfold Hid; rw [← hWA]; exact (Below.refl _ _).alloc (Nat.le_refl _) _
  have GA : Hid (WA.heap[w.heap.size]? = some (.cells (cirC c s) 27 (0, 0))) := by unfold Hid; rw [← hWA]; exact Array.getElem?_push_size
  obtain ⟨e0, e1, e2, e3, e4, e5, e6, e7⟩ := cells8 GA.out
  have CK := Lib.hid (refcheck_any c s WA ((h.below bA.out).more bA.out.size) hf)
  rw [refV_yes c hc] at CK
  have T1 : Hid (∀ w, Calls Try.prog 43 #[.string st, .int .i64 (c.lats.length : Int)] w fun e w' => e = .returned (.bool true) ∧ w = w') := fun w => by
    have := reftrits_any st c.lats.length w hzs
    rw [hs] at this
    exact this
  have T2 : Hid (∀ w, Calls Try.prog 43 #[.string inp, .int .i64 (c.ins.length : Int)] w fun e w' => e = .returned (.bool false) ∧ w = w') := fun w => by
    have := reftrits_any inp c.ins.length w hzi
    rw [hi] at this
    exact this
  clear h hf hc hs hi
  unfold cirV at CK ⊢
  rw [show cirC c s = #[.int .i64 c.max, .slice s.ai c.ins.length s.ki, .slice s.al c.lats.length s.kl, .slice s.ao c.outs.length s.ko, .slice s.ab c.bads.length s.kb, .slice s.ac c.invs.length s.kc, .slice s.aa c.ands.length s.ka, .slice s.an c.names.length s.kn] from rfl] at CK ⊢
  go_enter Try.func37, Try.ntmps37
  go_wp2_with fail
  refine CK.out.mono ?_
  rintro e w1 ⟨rfl, hb⟩
  have B1 : Hid (Below w.heap.size w w1) := bA.out.trans (hb.mono bA.out.size)
  have G1 : Hid (w1.heap[w.heap.size]? = some (.cells (cirC c s) 27 (0, 0))) := (hb.block _ (lt_of_block GA.out)).trans GA.out
  clear e0 e1 e2 e3 e4 e5 e6 e7 hWA CK hb
  obtain ⟨e0, e1, e2, e3, e4, e5, e6, e7⟩ := cells8 G1.out
  go_wp2_with fail
  refine (T1.out w1).mono ?_
  rintro e w' ⟨rfl, rfl⟩
  clear e0 e1 e2 e3 e4 e5 e6 e7
  obtain ⟨e0, e1, e2, e3, e4, e5, e6, e7⟩ := cells8 G1.out
  go_wp2_with fail
  refine (T2.out w1).mono ?_
  rintro e w' ⟨rfl, rfl⟩
  clear e0 e1 e2 e3 e4 e5 e6 e7
  go_wp2
  go_ret2
  exact ⟨rfl, B1.out⟩
set_option maxHeartbeats 16000000 in
set_option maxRecDepth 100000 in
theorem reftern_yes (c : Cir) (s : Places) (st inp : ByteArray) (w : World) (h : CLies w w.heap.size c s) (hf : CFits c s) (hzs : st.size ≤ 9223372036854775807) (hzi : inp.size ≤ 9223372036854775807) (hr : refOk c = true) (hs : tritsM st (c.lats.length : Int) = true) (hi : tritsM inp (c.ins.length : Int) = true) :
    Calls Try.prog 37 #[cirV c s, .string st, .string inp] w fun e w' => e = .returned (.tuple #[sv (valsT c st inp), .int .i64 0]) ∧ Below w.heap.size w w' := by
  obtain ⟨m, hm, hm1⟩ := max_nat hr
  obtain ⟨WA, hWA⟩ : ∃ x, w.alloc (.cells #[.int .i64 c.max, .slice s.ai c.ins.length s.ki, .slice s.al c.lats.length s.kl, .slice s.ao c.outs.length s.ko, .slice s.ab c.bads.length s.kb, .slice s.ac c.invs.length s.kc, .slice s.aa c.ands.length s.ka, .slice s.an c.names.length s.kn] 27) = x := ⟨_, rfl⟩
  have bA : Hid (Below w.heap.size w WA) := by unfold Hid; rw [← hWA]; exact (Below.refl _ _).alloc (Nat.le_refl _) _
  have GA : Hid (WA.heap[w.heap.size]? = some (.cells (cirC c s) 27 (0, 0))) := by unfold Hid; rw [← hWA]; exact Array.getElem?_push_size
  obtain ⟨e0, e1, e2, e3, e4, e5, e6, e7⟩ := cells8 GA.out
  have CK := Lib.hid (refcheck_any c s WA ((h.below bA.out).more bA.out.size) hf)
  rw [refV_yes c hr] at CK
  have T1 : Hid (∀ w, Calls Try.prog 43 #[.string st, .int .i64 (c.lats.length : Int)] w fun e w' => e = .returned (.bool true) ∧ w = w') := fun w => by
    have := reftrits_any st c.lats.length w hzs
    rw [hs] at this
    exact this
  have T2 : Hid (∀ w, Calls Try.prog 43 #[.string inp, .int .i64 (c.ins.length : Int)] w fun e w' => e = .returned (.bool true) ∧ w = w') := fun w => by
    have := reftrits_any inp c.ins.length w hzi
    rw [hi] at this
    exact this
  have HR := Lib.hid hr
  have HM := Lib.hid hm
  have HZ := Lib.hid (ref_sizes hr)
  have HST := Lib.hid (trits_parts hs).1
  have HIN := Lib.hid (trits_parts hi).1
  have LW : Hid (∀ x, Below w.heap.size w x → CLies x x.heap.size c s) := fun x hx => (h.below hx).more hx.size
  clear h hf hs hi hr hm
  unfold cirV at CK ⊢
  rw [show cirC c s = #[.int .i64 c.max, .slice s.ai c.ins.length s.ki, .slice s.al c.lats.length s.kl, .slice s.ao c.outs.length s.ko, .slice s.ab c.bads.length s.kb, .slice s.ac c.invs.length s.kc, .slice s.aa c.ands.length s.ka, .slice s.an c.names.length s.kn] from rfl] at CK ⊢
  go_enter Try.func37, Try.ntmps37
  go_wp2_with fail
  refine CK.out.mono ?_
  rintro e w1 ⟨rfl, hb⟩
  have B1 : Hid (Below w.heap.size w w1) := bA.out.trans (hb.mono bA.out.size)
  have G1 : Hid (w1.heap[w.heap.size]? = some (.cells (cirC c s) 27 (0, 0))) := (hb.block _ (lt_of_block GA.out)).trans GA.out
  clear e0 e1 e2 e3 e4 e5 e6 e7 hWA CK hb
  obtain ⟨e0, e1, e2, e3, e4, e5, e6, e7⟩ := cells8 G1.out
  go_wp2_with fail
  refine (T1.out w1).mono ?_
  rintro e w' ⟨rfl, rfl⟩
  clear e0 e1 e2 e3 e4 e5 e6 e7
  obtain ⟨e0, e1, e2, e3, e4, e5, e6, e7⟩ := cells8 G1.out
  go_wp2_with fail
  refine (T2.out w1).mono ?_
  rintro e w' ⟨rfl, rfl⟩
  clear e0 e1 e2 e3 e4 e5 e6 e7
  clear T1 T2 GA bA
  have G9 : Hid (∀ x, Below w1.heap.size w1 x → x.heap[w.heap.size]? = some (.cells (cirC c s) 27 (0, 0))) := fun x hx => (hx.block _ (lt_of_block G1.out)).trans G1.out
  have HZV : Hid (zeroV c = List.replicate (m + 1) 48) := by unfold Hid zeroV; rw [HM.out, Int.toNat_natCast]
  have HL0 : Hid ((zeroV c).length = m + 1) := by rw [HZV.out]; exact List.length_replicate
  obtain ⟨e0, e1, e2, e3, e4, e5, e6, e7⟩ := cells8 G1.out
  rw [HM.out] at e0
  go_wp2
  go_loop [8, 9] (fun t i => ∃ j : Nat, j ≤ m + 1 ∧ i = .int .i64 j ∧ t = .string ⟨(List.replicate j (48 : UInt8)).toArray⟩) (fun _ i => m + 1 - (intOf i).toNat)
  case atStart => exact ⟨0, Nat.zero_le _, rfl, rfl⟩
  case round =>
    obtain ⟨j, hj, rfl, rfl⟩ := hrel
    by_cases hlt : j < m + 1
    · have HA : Hid ((⟨(List.replicate j (48 : UInt8)).toArray⟩ : ByteArray) ++ ⟨#[48]⟩ = ⟨(List.replicate (j + 1) (48 : UInt8)).toArray⟩) := by
        unfold Hid
        apply ByteArray.ext
        rw [ByteArray.data_append]
        apply Array.toList_inj.1
        rw [List.replicate_succ']
        simp
      have hsz : (⟨(List.replicate j (48 : UInt8)).toArray⟩ : ByteArray).size ≤ 4096 := by rw [sv_size, List.length_replicate]; omega
      obtain ⟨sj, hsj⟩ : ∃ x, (⟨(List.replicate j (48 : UInt8)).toArray⟩ : ByteArray) = x := ⟨_, rfl⟩
      rw [hsj] at HA hsz ⊢
      have hle : (j : Int) ≤ (m : Int) := by omega
      clear hsj
      go_wp2
      go_round
      case rel => exact ⟨j + 1, by omega, by go_num, by rw [← HA.out]⟩
      case measure => simp [intOf]; omega
    · obtain rfl : j = m + 1 := by omega
      rw [← HZV.out]
      clear e0 e1 e2 e3 e4 e5 e6 e7
      obtain ⟨e0, e1, e2, e3, e4, e5, e6, e7⟩ := cells8 G1.out
      rw [HM.out] at e0
      have hgt : ¬ ((m : Int) + 1 ≤ (m : Int)) := by omega
      go_wp2
      clear e0 e1 e2 e3 e4 e5 e6 e7
      go_loopw [8, 10] (fun t i wr => ∃ j : Nat, j ≤ c.ins.length ∧ i = .int .i64 j ∧ t = .string ⟨(putsV (zeroV c) c.ins inp j).toArray⟩ ∧ Below w1.heap.size w1 wr) (fun _ i _ => c.ins.length - (intOf i).toNat)
      case atStart => exact ⟨0, Nat.zero_le _, rfl, rfl, Below.refl _ _⟩
      case round =>
        obtain ⟨j, hj, rfl, rfl, hbw⟩ := hrel
        have HB := Lib.hid hbw
        clear hbw
        have zi : c.ins.length ≤ 64 := HZ.out.1
        obtain ⟨e0, e1, e2, e3, e4, e5, e6, e7⟩ := cells8 (G9.out _ HB.out)
        by_cases hlt : j < c.ins.length
        · obtain ⟨b0, o, hA, -, hc⟩ := LRow.int (LW.out wr (B1.out.trans (HB.out.mono B1.out.size))).ins hlt
          rw [hA] at e1
          have hx := (Str.own_facts HR.out).2 c.ins[j] (by unfold own; simp)
          obtain ⟨vi, hvi⟩ : ∃ v : Nat, c.ins[j] / 2 = (v : Int) := ⟨(c.ins[j] / 2).toNat, by omega⟩
          have ht : c.ins[j].tdiv 2 = (vi : Int) := by rw [Int.tdiv_eq_ediv_of_nonneg (by omega)]; exact hvi
          have hx0 : 0 ≤ c.ins[j] := by omega
          have hx1 : c.ins[j] ≤ 9223372036854775807 := by have := HM.out; omega
          have hvb : vi ≤ 2048 := by have := HM.out; omega
          have HSJ : j < inp.size := by have := HIN.out; omega
          have hgd : inp.data.toList.getD j 0 = inp[j]'HSJ := by
            have hl : j < inp.data.toList.length := by simpa using HSJ
            rw [List.getD_eq_getElem?_getD, List.getElem?_eq_getElem hl, Option.getD_some, Array.getElem_toList]; rfl
          have HN : Hid ((putsV (zeroV c) c.ins inp j).set vi (inp[j]'HSJ) = putsV (zeroV c) c.ins inp (j + 1)) := by
            unfold Hid
            rw [← hgd]
            show _ = putV (putsV (zeroV c) c.ins inp j) (c.ins.getD j 0) _
            unfold putV
            rw [getD_at _ hlt, hvi, Int.toNat_natCast]
          have hvl : vi < (putsV (zeroV c) c.ins inp j).length := by have := HM.out; have := HL0.out; rw [putsV_len]; omega
          have hvl2 : (putsV (zeroV c) c.ins inp j).length ≤ 1048576 := by have := HM.out; have := HL0.out; rw [putsV_len]; omega
          have KS := Lib.hid (fun (u : Wd wr.heap.size wr) => Calls.in_wd u (refset_any (putsV (zeroV c) c.ins inp j) vi (inp[j]'HSJ) u.w hvl hvl2) (Nat.le_refl _))
          unfold sv at KS
          rw [HN.out] at KS
          clear hx hvi hvl hvl2 hgd HN hA
          generalize c.ins[j] = x at *
          obtain ⟨s0, hs0⟩ : ∃ q, (⟨(putsV (zeroV c) c.ins inp j).toArray⟩ : ByteArray) = q := ⟨_, rfl⟩
          rw [hs0] at KS ⊢
          obtain ⟨s1, hs1⟩ : ∃ q, (⟨(putsV (zeroV c) c.ins inp (j + 1)).toArray⟩ : ByteArray) = q := ⟨_, rfl⟩
          rw [hs1] at KS
          have HS1 := Lib.hid hs1
          clear hs0 hs1
          go_wp2
          have u1 := Wd.cell e1
          have uc := Wd.cell hc
          refine wp_region_wd (by kernel_rfl) (by kernel_rfl) ?_
          repeat (first | go_big_quiet_skip | (go_big_quiet_want; go_big_quiet_op; first | go_big_quiet_on | (apply Exists.intro; refine ⟨fun u => ?_, ?_⟩; (go_at_call 70; with_reducible exact KS.out u); go_big_quiet_on)))
          refine wpQuiet_nil ?_
          intro wz9 hw'
          obtain ⟨⟨_, hb9⟩, hw''⟩ := hw'
          subst hw''
          have BZ : Hid (Below w1.heap.size w1 wz9) := HB.out.trans (hb9.mono HB.out.size)
          clear KS hb9 hc e0 e1 e2 e3 e4 e5 e6 e7
          go_wp2
          go_roundw
          case rel => exact ⟨j + 1, by omega, by go_num, by rw [HS1.out], BZ.out⟩
          case measure => simp [intOf]; omega
        · obtain rfl : j = c.ins.length := by omega
          obtain ⟨wo, rfl⟩ : ∃ x, x = wr := ⟨_, rfl⟩
          obtain ⟨v1, hv1⟩ : ∃ v, putsV (zeroV c) c.ins inp c.ins.length = v := ⟨_, rfl⟩
          have HL1 : Hid (v1.length = m + 1) := by unfold Hid; rw [← hv1, putsV_len]; exact HL0.out
          have HV1 := Lib.hid hv1
          rw [hv1]
          clear hv1
          go_wp2
          clear e0 e1 e2 e3 e4 e5 e6 e7
          go_loopw [8, 11] (fun t i wr => ∃ j : Nat, j ≤ c.lats.length ∧ i = .int .i64 j ∧ t = .string ⟨(putsV v1 (c.lats.map Tri.a) st j).toArray⟩ ∧ Below w1.heap.size w1 wr) (fun _ i _ => c.lats.length - (intOf i).toNat)
          case atStart => exact ⟨0, Nat.zero_le _, rfl, rfl, HB.out⟩
          case round =>
            clear HB
            obtain ⟨j, hj, rfl, rfl, hbw⟩ := hrel
            have HB := Lib.hid hbw
            clear hbw
            have zl : c.lats.length ≤ 64 := HZ.out.2.1
            obtain ⟨e0, e1, e2, e3, e4, e5, e6, e7⟩ := cells8 (G9.out _ HB.out)
            by_cases hlt : j < c.lats.length
            · obtain ⟨b0, o, hA, -, c0, c1, c2⟩ := LRow.tri (LW.out wr (B1.out.trans (HB.out.mono B1.out.size))).lats hlt
              rw [hA] at e2
              have hx := (Str.own_facts HR.out).2 c.lats[j].a (List.mem_append.2 (.inr (List.mem_append.2 (.inl (List.mem_map_of_mem (List.getElem_mem hlt))))))
              obtain ⟨vi, hvi⟩ : ∃ v : Nat, c.lats[j].a / 2 = (v : Int) := ⟨(c.lats[j].a / 2).toNat, by omega⟩
              have ht : c.lats[j].a.tdiv 2 = (vi : Int) := by rw [Int.tdiv_eq_ediv_of_nonneg (by omega)]; exact hvi
              have hx0 : 0 ≤ c.lats[j].a := by omega
              have hx1 : c.lats[j].a ≤ 9223372036854775807 := by have := HM.out; omega
              have hvb : vi ≤ 2048 := by have := HM.out; omega
              have HSJ : j < st.size := by have := HST.out; omega
              have hgd : st.data.toList.getD j 0 = st[j]'HSJ := by
                have hl : j < st.data.toList.length := by simpa using HSJ
                rw [List.getD_eq_getElem?_getD, List.getElem?_eq_getElem hl, Option.getD_some, Array.getElem_toList]; rfl
              have HN : Hid ((putsV v1 (c.lats.map Tri.a) st j).set vi (st[j]'HSJ) = putsV v1 (c.lats.map Tri.a) st (j + 1)) := by
                unfold Hid
                rw [← hgd]
                show _ = putV (putsV v1 (c.lats.map Tri.a) st j) ((c.lats.map Tri.a).getD j 0) _
                unfold putV
                rw [getD_map_at _ hlt, hvi, Int.toNat_natCast]
              have hvl : vi < (putsV v1 (c.lats.map Tri.a) st j).length := by have := HM.out; have := HL1.out; rw [putsV_len]; omega
              have hvl2 : (putsV v1 (c.lats.map Tri.a) st j).length ≤ 1048576 := by have := HM.out; have := HL1.out; rw [putsV_len]; omega
              have KS := Lib.hid (fun (u : Wd wr.heap.size wr) => Calls.in_wd u (refset_any (putsV v1 (c.lats.map Tri.a) st j) vi (st[j]'HSJ) u.w hvl hvl2) (Nat.le_refl _))
              unfold sv at KS
              rw [HN.out] at KS
              clear hx hvi hvl hvl2 hgd HN hA
              generalize c.lats[j] = x at *
              obtain ⟨s0, hs0⟩ : ∃ q, (⟨(putsV v1 (c.lats.map Tri.a) st j).toArray⟩ : ByteArray) = q := ⟨_, rfl⟩
              rw [hs0] at KS ⊢
              obtain ⟨s1, hs1⟩ : ∃ q, (⟨(putsV v1 (c.lats.map Tri.a) st (j + 1)).toArray⟩ : ByteArray) = q := ⟨_, rfl⟩
              rw [hs1] at KS
              have HS1 := Lib.hid hs1
              clear hs0 hs1
              go_wp2
              have u1 := Wd.cell e2
              have uc := Wd.cell c0
              refine wp_region_wd (by kernel_rfl) (by kernel_rfl) ?_
              repeat (first | go_big_quiet_skip | (go_big_quiet_want; go_big_quiet_op; first | go_big_quiet_on | (apply Exists.intro; refine ⟨fun u => ?_, ?_⟩; (go_at_call 70; with_reducible exact KS.out u); go_big_quiet_on)))
              refine wpQuiet_nil ?_
              intro wz9 hw'
              obtain ⟨⟨_, hb9⟩, hw''⟩ := hw'
              subst hw''
              have BZ : Hid (Below w1.heap.size w1 wz9) := HB.out.trans (hb9.mono HB.out.size)
              clear KS hb9 c0 c1 c2 e0 e1 e2 e3 e4 e5 e6 e7
              go_wp2
              go_roundw
              case rel => exact ⟨j + 1, by omega, by go_num, by rw [HS1.out], BZ.out⟩
              case measure => simp [intOf]; omega
            · obtain rfl : j = c.lats.length := by omega
              obtain ⟨wq, rfl⟩ : ∃ x, x = wr := ⟨_, rfl⟩
              obtain ⟨v2, hv2⟩ : ∃ v, putsV v1 (c.lats.map Tri.a) st c.lats.length = v := ⟨_, rfl⟩
              have HL2 : Hid (v2.length = m + 1) := by unfold Hid; rw [← hv2, putsV_len]; exact HL1.out
              have HVE : Hid (valsT c st inp = gatesT v2 c.ands) := by unfold Hid valsT baseB; rw [HV1.out, hv2]
              rw [hv2]
              clear hv2 HV1
              go_wp2
              clear e0 e1 e2 e3 e4 e5 e6 e7
              go_loopw [8, 12] (fun t i wr => ∃ j : Nat, j ≤ c.ands.length ∧ i = .int .i64 j ∧ t = .string ⟨(gatesT v2 (c.ands.take j)).toArray⟩ ∧ Below w1.heap.size w1 wr) (fun _ i _ => c.ands.length - (intOf i).toNat)
              case atStart => exact ⟨0, Nat.zero_le _, rfl, rfl, HB.out⟩
              case round =>
                clear HB
                obtain ⟨j, hj, rfl, rfl, hbw⟩ := hrel
                have HB := Lib.hid hbw
                clear hbw
                have za : c.ands.length ≤ 4097 := HZ.out.2.2.2.2.2
                obtain ⟨e0, e1, e2, e3, e4, e5, e6, e7⟩ := cells8 (G9.out _ HB.out)
                by_cases hlt : j < c.ands.length
                · obtain ⟨b0, o, hA, -, c0, c1, c2⟩ := LRow.tri (LW.out wr (B1.out.trans (HB.out.mono B1.out.size))).ands hlt
                  rw [hA] at e6
                  have hx := (Str.own_facts HR.out).2 c.ands[j].a (List.mem_append.2 (.inr (List.mem_append.2 (.inr (List.mem_map_of_mem (List.getElem_mem hlt))))))
                  obtain ⟨-, -, k1, k2⟩ := Str.and_at HR.out j hlt
                  have hb1 := Str.lit_bound HR.out k1
                  have hb2 := Str.lit_bound HR.out k2
                  have HGS := Lib.hid (gatesT_snoc v2 c.ands j hlt)
                  obtain ⟨v, hvq⟩ : ∃ v, gatesT v2 (c.ands.take j) = v := ⟨_, rfl⟩
                  have hvl : v.length = m + 1 := by rw [← hvq, gatesT_len]; exact HL2.out
                  rw [hvq] at HGS ⊢
                  obtain ⟨vi, hvi⟩ : ∃ v : Nat, c.ands[j].a / 2 = (v : Int) := ⟨(c.ands[j].a / 2).toNat, by omega⟩
                  have ht : c.ands[j].a.tdiv 2 = (vi : Int) := by rw [Int.tdiv_eq_ediv_of_nonneg (by omega)]; exact hvi
                  have hx0 : 0 ≤ c.ands[j].a := by omega
                  have hx1 : c.ands[j].a ≤ 9223372036854775807 := by have := HM.out; omega
                  have hvb : vi ≤ 2048 := by have := HM.out; omega
                  have OFB := Lib.hid (fun w => refof_any ⟨v.toArray⟩ c.ands[j].b w (by rw [sv_size]; omega) (by have := HM.out; omega))
                  have OFC := Lib.hid (fun w => refof_any ⟨v.toArray⟩ c.ands[j].c w (by rw [sv_size]; omega) (by have := HM.out; omega))
                  rw [show (⟨v.toArray⟩ : ByteArray).data.toList = v from rfl] at OFB OFC
                  have HGE : Hid (gatesT v2 (c.ands.take (j + 1)) = v.set vi (andT (ofT v c.ands[j].b) (ofT v c.ands[j].c))) := by
                    have h := HGS.out
                    unfold gateT putV at h
                    rw [hvi, Int.toNat_natCast] at h
                    exact h
                  have HVT : Hid (vi < v.length) := by have := HM.out; unfold Hid; omega
                  clear hx k1 k2 hb1 hb2 hvq hvi HGS hA
                  generalize c.ands[j] = t at *
                  generalize ofT v t.b = x1 at *
                  generalize ofT v t.c = x2 at *
                  obtain ⟨v9, hv9⟩ : ∃ x, gatesT v2 (c.ands.take (j + 1)) = x := ⟨_, rfl⟩
                  rw [hv9] at HGE
                  have HV9 := Lib.hid hv9
                  clear hv9
                  have HGE : Hid (v9 = v.set vi (andT x1 x2)) := HGE.out
                  have K1 := Lib.hid (fun (u : Wd wr.heap.size wr) => Calls.in_wd u ((OFB.out u.w).mono fun e w' ⟨h1, h2⟩ => ⟨h1, h2 ▸ Below.refl _ _⟩) (Nat.le_refl _))
                  have K2 := Lib.hid (fun (u : Wd wr.heap.size wr) => Calls.in_wd u ((OFC.out u.w).mono fun e w' ⟨h1, h2⟩ => ⟨h1, h2 ▸ Below.refl _ _⟩) (Nat.le_refl _))
                  have u6 := Wd.cell e6
                  have ub := Wd.cell c1
                  have uc := Wd.cell c2
                  clear OFB OFC
                  by_cases hx148 : x1.toNat = 48
                  · have ex1 : x1 = 48 := UInt8.toNat_inj.1 hx148
                    have bx148 : (((x1).toNat : Int) == 48) = true := by rw [beq_iff_eq]; omega
                    have HE1 := Lib.hid ex1
                    clear ex1 hx148
                    have KS := Lib.hid (fun w => refset_any v vi 48 w HVT.out (by omega))
                    unfold sv at KS
                    have HVN : Hid (v.set vi 48 = v9) := by unfold Hid; rw [HGE.out]; unfold andT; rw [if_pos (.inl HE1.out)]
                    rw [HVN.out] at KS
                    clear HGE
                    go_wp2
                    refine wp_region_wd (by kernel_rfl) (by kernel_rfl) ?_
                    repeat (first | go_big_quiet_skip | (go_big_quiet_want; go_big_quiet_op; first | go_big_quiet_on | (apply Exists.intro; refine ⟨fun u => ?_, ?_⟩; (go_at_call 39; first | with_reducible exact K1.out u | with_reducible exact K2.out u); go_big_quiet_on)))
                    refine wpQuiet_nil ?_
                    intro wz9 hw'
                    obtain ⟨⟨_, hb9⟩, hw''⟩ := hw'
                    subst hw''
                    have BZ1 : Hid (Below w1.heap.size w1 wz9) := HB.out.trans (hb9.mono HB.out.size)
                    have d0 := cell_later hb9 c0
                    have d6 := cell_later hb9 e6
                    clear K1 K2 hb9 e0 e1 e2 e3 e4 e5 e6 e7 c0 c1 c2 u6 ub uc
                    go_wp2_with fail
                    refine (KS.out wz9).mono ?_
                    rintro e wz ⟨rfl, hb⟩
                    have BZ : Hid (Below w1.heap.size w1 wz) := BZ1.out.trans (hb.mono BZ1.out.size)
                    clear hb KS d0 d6
                    go_wp2
                    go_roundw
                    case rel => exact ⟨j + 1, by omega, by go_num, by rw [HV9.out], BZ.out⟩
                    case measure => simp [intOf]; omega
                  · by_cases hx248 : x2.toNat = 48
                    · have ex2 : x2 = 48 := UInt8.toNat_inj.1 hx248
                      have bx148 : (((x1).toNat : Int) == 48) = false := by rw [beq_eq_false_iff_ne]; omega
                      have bx248 : (((x2).toNat : Int) == 48) = true := by rw [beq_iff_eq]; omega
                      have HE2 := Lib.hid ex2
                      clear ex2 hx148 hx248
                      have KS := Lib.hid (fun w => refset_any v vi 48 w HVT.out (by omega))
                      unfold sv at KS
                      have HVN : Hid (v.set vi 48 = v9) := by unfold Hid; rw [HGE.out]; unfold andT; rw [if_pos (.inr HE2.out)]
                      rw [HVN.out] at KS
                      clear HGE
                      go_wp2
                      refine wp_region_wd (by kernel_rfl) (by kernel_rfl) ?_
                      repeat (first | go_big_quiet_skip | (go_big_quiet_want; go_big_quiet_op; first | go_big_quiet_on | (apply Exists.intro; refine ⟨fun u => ?_, ?_⟩; (go_at_call 39; first | with_reducible exact K1.out u | with_reducible exact K2.out u); go_big_quiet_on)))
                      refine wpQuiet_nil ?_
                      intro wz9 hw'
                      obtain ⟨⟨_, hb9⟩, hw''⟩ := hw'
                      subst hw''
                      have BZ1 : Hid (Below w1.heap.size w1 wz9) := HB.out.trans (hb9.mono HB.out.size)
                      have d0 := cell_later hb9 c0
                      have d6 := cell_later hb9 e6
                      clear K1 K2 hb9 e0 e1 e2 e3 e4 e5 e6 e7 c0 c1 c2 u6 ub uc
                      go_wp2_with fail
                      refine (KS.out wz9).mono ?_
                      rintro e wz ⟨rfl, hb⟩
                      have BZ : Hid (Below w1.heap.size w1 wz) := BZ1.out.trans (hb.mono BZ1.out.size)
                      clear hb KS d0 d6
                      go_wp2
                      go_roundw
                      case rel => exact ⟨j + 1, by omega, by go_num, by rw [HV9.out], BZ.out⟩
                      case measure => simp [intOf]; omega
                    · by_cases hx149 : x1.toNat = 49
                      · by_cases hx249 : x2.toNat = 49
                        · have ex3 : x1 = 49 ∧ x2 = 49 := ⟨UInt8.toNat_inj.1 hx149, UInt8.toNat_inj.1 hx249⟩
                          have bx148 : (((x1).toNat : Int) == 48) = false := by rw [beq_eq_false_iff_ne]; omega
                          have bx248 : (((x2).toNat : Int) == 48) = false := by rw [beq_eq_false_iff_ne]; omega
                          have bx149 : (((x1).toNat : Int) == 49) = true := by rw [beq_iff_eq]; omega
                          have bx249 : (((x2).toNat : Int) == 49) = true := by rw [beq_iff_eq]; omega
                          have HN1 : Hid (¬ (x1 = 48 ∨ x2 = 48)) := by
                            rintro (e | e)
                            · exact hx148 (by rw [e]; rfl)
                            · exact hx248 (by rw [e]; rfl)
                          have HE3 := Lib.hid ex3
                          clear ex3 hx148 hx248 hx149 hx249
                          have KS := Lib.hid (fun w => refset_any v vi 49 w HVT.out (by omega))
                          unfold sv at KS
                          have HVN : Hid (v.set vi 49 = v9) := by unfold Hid; rw [HGE.out]; unfold andT; rw [if_neg HN1.out, if_pos HE3.out]
                          rw [HVN.out] at KS
                          clear HGE
                          go_wp2
                          refine wp_region_wd (by kernel_rfl) (by kernel_rfl) ?_
                          repeat (first | go_big_quiet_skip | (go_big_quiet_want; go_big_quiet_op; first | go_big_quiet_on | (apply Exists.intro; refine ⟨fun u => ?_, ?_⟩; (go_at_call 39; first | with_reducible exact K1.out u | with_reducible exact K2.out u); go_big_quiet_on)))
                          refine wpQuiet_nil ?_
                          intro wz9 hw'
                          obtain ⟨⟨_, hb9⟩, hw''⟩ := hw'
                          subst hw''
                          have BZ1 : Hid (Below w1.heap.size w1 wz9) := HB.out.trans (hb9.mono HB.out.size)
                          have d0 := cell_later hb9 c0
                          have d6 := cell_later hb9 e6
                          clear K1 K2 hb9 e0 e1 e2 e3 e4 e5 e6 e7 c0 c1 c2 u6 ub uc
                          go_wp2_with fail
                          refine (KS.out wz9).mono ?_
                          rintro e wz ⟨rfl, hb⟩
                          have BZ : Hid (Below w1.heap.size w1 wz) := BZ1.out.trans (hb.mono BZ1.out.size)
                          clear hb KS d0 d6
                          go_wp2
                          go_roundw
                          case rel => exact ⟨j + 1, by omega, by go_num, by rw [HV9.out], BZ.out⟩
                          case measure => simp [intOf]; omega
                        · have ex3 : ¬ (x1 = 49 ∧ x2 = 49) := fun e => hx249 (by rw [e.2]; rfl)
                          have bx148 : (((x1).toNat : Int) == 48) = false := by rw [beq_eq_false_iff_ne]; omega
                          have bx248 : (((x2).toNat : Int) == 48) = false := by rw [beq_eq_false_iff_ne]; omega
                          have bx149 : (((x1).toNat : Int) == 49) = true := by rw [beq_iff_eq]; omega
                          have bx249 : (((x2).toNat : Int) == 49) = false := by rw [beq_eq_false_iff_ne]; omega
                          have HN1 : Hid (¬ (x1 = 48 ∨ x2 = 48)) := by
                            rintro (e | e)
                            · exact hx148 (by rw [e]; rfl)
                            · exact hx248 (by rw [e]; rfl)
                          have HE3 := Lib.hid ex3
                          clear ex3 hx148 hx248 hx149 hx249
                          have KS := Lib.hid (fun w => refset_any v vi 120 w HVT.out (by omega))
                          unfold sv at KS
                          have HVN : Hid (v.set vi 120 = v9) := by unfold Hid; rw [HGE.out]; unfold andT; rw [if_neg HN1.out, if_neg HE3.out]
                          rw [HVN.out] at KS
                          clear HGE
                          go_wp2
                          refine wp_region_wd (by kernel_rfl) (by kernel_rfl) ?_
                          repeat (first | go_big_quiet_skip | (go_big_quiet_want; go_big_quiet_op; first | go_big_quiet_on | (apply Exists.intro; refine ⟨fun u => ?_, ?_⟩; (go_at_call 39; first | with_reducible exact K1.out u | with_reducible exact K2.out u); go_big_quiet_on)))
                          refine wpQuiet_nil ?_
                          intro wz9 hw'
                          obtain ⟨⟨_, hb9⟩, hw''⟩ := hw'
                          subst hw''
                          have BZ1 : Hid (Below w1.heap.size w1 wz9) := HB.out.trans (hb9.mono HB.out.size)
                          have d0 := cell_later hb9 c0
                          have d6 := cell_later hb9 e6
                          clear K1 K2 hb9 e0 e1 e2 e3 e4 e5 e6 e7 c0 c1 c2 u6 ub uc
                          go_wp2_with fail
                          refine (KS.out wz9).mono ?_
                          rintro e wz ⟨rfl, hb⟩
                          have BZ : Hid (Below w1.heap.size w1 wz) := BZ1.out.trans (hb.mono BZ1.out.size)
                          clear hb KS d0 d6
                          go_wp2
                          go_roundw
                          case rel => exact ⟨j + 1, by omega, by go_num, by rw [HV9.out], BZ.out⟩
                          case measure => simp [intOf]; omega
                      · have ex3 : ¬ (x1 = 49 ∧ x2 = 49) := fun e => hx149 (by rw [e.1]; rfl)
                        have bx148 : (((x1).toNat : Int) == 48) = false := by rw [beq_eq_false_iff_ne]; omega
                        have bx248 : (((x2).toNat : Int) == 48) = false := by rw [beq_eq_false_iff_ne]; omega
                        have bx149 : (((x1).toNat : Int) == 49) = false := by rw [beq_eq_false_iff_ne]; omega
                        have HN1 : Hid (¬ (x1 = 48 ∨ x2 = 48)) := by
                          rintro (e | e)
                          · exact hx148 (by rw [e]; rfl)
                          · exact hx248 (by rw [e]; rfl)
                        have HE3 := Lib.hid ex3
                        clear ex3 hx148 hx248 hx149
                        have KS := Lib.hid (fun w => refset_any v vi 120 w HVT.out (by omega))
                        unfold sv at KS
                        have HVN : Hid (v.set vi 120 = v9) := by unfold Hid; rw [HGE.out]; unfold andT; rw [if_neg HN1.out, if_neg HE3.out]
                        rw [HVN.out] at KS
                        clear HGE
                        go_wp2
                        refine wp_region_wd (by kernel_rfl) (by kernel_rfl) ?_
                        repeat (first | go_big_quiet_skip | (go_big_quiet_want; go_big_quiet_op; first | go_big_quiet_on | (apply Exists.intro; refine ⟨fun u => ?_, ?_⟩; (go_at_call 39; first | with_reducible exact K1.out u | with_reducible exact K2.out u); go_big_quiet_on)))
                        refine wpQuiet_nil ?_
                        intro wz9 hw'
                        obtain ⟨⟨_, hb9⟩, hw''⟩ := hw'
                        subst hw''
                        have BZ1 : Hid (Below w1.heap.size w1 wz9) := HB.out.trans (hb9.mono HB.out.size)
                        have d0 := cell_later hb9 c0
                        have d6 := cell_later hb9 e6
                        clear K1 K2 hb9 e0 e1 e2 e3 e4 e5 e6 e7 c0 c1 c2 u6 ub uc
                        go_wp2_with fail
                        refine (KS.out wz9).mono ?_
                        rintro e wz ⟨rfl, hb⟩
                        have BZ : Hid (Below w1.heap.size w1 wz) := BZ1.out.trans (hb.mono BZ1.out.size)
                        clear hb KS d0 d6
                        go_wp2
                        go_roundw
                        case rel => exact ⟨j + 1, by omega, by go_num, by rw [HV9.out], BZ.out⟩
                        case measure => simp [intOf]; omega
                · obtain rfl : j = c.ands.length := by omega
                  rw [List.take_length, ← HVE.out]
                  have BF : Hid (Below w.heap.size w wr) := B1.out.trans (HB.out.mono B1.out.size)
                  go_wp2
                  go_ret2
                  exact ⟨rfl, BF.out⟩
end Go.Proofs.Ythcigpklbhjglaa.Ter
