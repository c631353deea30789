/- interlockref07.Lift; condition: the circuit lies in memory, texts are as long as Go's may be. check, Values, next, Next; condition: the circuit lies in memory. The page's example; no condition. -/
import Derived.Test.YthcigpklbhjglaaPt34
import Derived.Test.YthcigpklbhjglaaPt33
import Derived.Test.YthcigpklbhjglaaPt11
namespace Go.Proofs.Ythcigpklbhjglaa.Ter
open Go.ChangeShapes Go.WideShapes Go.ChangeAt Go.RowKit Go.Maps Circ Cw
open Str Sim

/-- may trits be asked? -/
def okT (c : Cir) (st inp : ByteArray) : Bool := tritsM st (c.lats.length : Int) && tritsM inp (c.ins.length : Int)
def tErr (c : Cir) (st inp : ByteArray) : Int := if refOk c = true then (if okT c st inp = true then 0 else 5) else 9
def tStr (c : Cir) (st inp : ByteArray) : List UInt8 := if tErr c st inp = 0 then valsT c st inp else []
theorem terr_no {c : Cir} {st inp : ByteArray} (h : refOk c = false) : tErr c st inp = 9 := by unfold tErr; rw [h]; rfl
theorem terr_long {c : Cir} {st inp : ByteArray} (h : refOk c = true) (h2 : okT c st inp = false) : tErr c st inp = 5 := by unfold tErr; rw [h, h2]; rfl
theorem terr_ok {c : Cir} {st inp : ByteArray} (h : refOk c = true) (h2 : okT c st inp = true) : tErr c st inp = 0 := by unfold tErr; rw [h, h2]; rfl
theorem tstr_bad {c : Cir} {st inp : ByteArray} (h : tErr c st inp ≠ 0) : tStr c st inp = [] := if_neg h
theorem tstr_ok {c : Cir} {st inp : ByteArray} (h : tErr c st inp = 0) : tStr c st inp = valsT c st inp := if_pos h
theorem terr_is {c : Cir} {st inp : ByteArray} (h : tErr c st inp = 0) : refOk c = true ∧ tritsM st (c.lats.length : Int) = true ∧ tritsM inp (c.ins.length : Int) = true := by
  cases h1 : refOk c with
  | false => rw [terr_no h1] at h; exact absurd h (by decide)
  | true =>
    cases h2 : okT c st inp with
    | false => rw [terr_long h1 h2] at h; exact absurd h (by decide)
    | true =>
      unfold okT at h2
      rw [Bool.and_eq_true] at h2
      exact ⟨rfl, h2⟩
theorem terr_range (c : Cir) (st inp : ByteArray) : 0 ≤ tErr c st inp ∧ tErr c st inp ≤ 9 := by unfold tErr; split <;> (try split) <;> omega
theorem reftern_any (c : Cir) (s : Places) (st inp : ByteArray) (w : World) (h : CLies w w.heap.size c s) (hf : CFits c s) (hzs : st.size ≤ 9223372036854775807) (hzi : inp.size ≤ 9223372036854775807) :
    Calls Try.prog 37 #[cirV c s, .string st, .string inp] w fun e w' => e = .returned (.tuple #[sv (tStr c st inp), .int .i64 (tErr c st inp)]) ∧ Below w.heap.size w w' := by
  cases h1 : refOk c with
  | false =>
    rw [tstr_bad (by rw [terr_no h1]; decide), terr_no h1]
    exact reftern_no c s st inp w h hf hzs hzi h1
  | true =>
    cases h2 : okT c st inp with
    | false =>
      rw [tstr_bad (by rw [terr_long h1 h2]; decide), terr_long h1 h2]
      cases hs : tritsM st (c.lats.length : Int) with
      | false => exact reftern_long1 c s st inp w h hf hzs hzi h1 hs
      | true =>
        unfold okT at h2
        rw [hs, Bool.true_and] at h2
        exact reftern_long2 c s st inp w h hf hzs hzi h1 hs h2
    | true =>
      rw [tstr_ok (terr_ok h1 h2), terr_ok h1 h2]
      unfold okT at h2
      rw [Bool.and_eq_true] at h2
      exact reftern_yes c s st inp w h hf hzs hzi h1 h2.1 h2.2
theorem refheld_any (s : ByteArray) (l : List Int) (A : Option Addr) (q : Nat) (w : World) (hs : s.size ≤ 9223372036854775807) (hl : ∀ x ∈ l, I64 x) (hn : l.length ≤ 9223372036854775807) (hr : LRow w w.heap.size 1 A (ints l)) :
    Calls Try.prog 90 #[.string s, .slice A l.length q] w fun e w' => e = .returned (.bool (heldT s.data.toList l)) ∧ w = w' := by
  have HL := Lib.hid hl
  have HR := Lib.hid hr
  clear hl hr
  go_enter Try.func90, Try.ntmps90
  go_wp2
  go_loop [5] (fun i => ∃ k : Nat, k ≤ l.length ∧ i = .int .i64 k ∧ heldT s.data.toList (l.take k) = true) (fun i => l.length - (intOf i).toNat)
  case atStart => exact ⟨0, Nat.zero_le _, rfl, rfl⟩
  case round =>
    obtain ⟨k, hk, rfl, ha⟩ := hrel
    have HA := Lib.hid ha
    clear ha
    by_cases hlt : k < l.length
    · obtain ⟨b, o, rfl, -, hc⟩ := LRow.int HR.out hlt
      have RT := Lib.hid (refof_any s l[k] w hs (HL.out _ (List.getElem_mem hlt)).2)
      have HT : Hid (heldT s.data.toList (l.take (k + 1)) = decide (ofT s.data.toList l[k] = 49)) := by
        have h := HA.out
        unfold Hid heldT at *
        rw [List.take_succ_eq_append_getElem hlt, List.all_append, h]; simp
      have HM := Lib.hid (List.getElem_mem hlt)
      generalize l[k] = x at *
      by_cases hq : ofT s.data.toList x = 49
      · rw [hq] at RT
        have HN : Hid (heldT s.data.toList (l.take (k + 1)) = true) := by unfold Hid; rw [HT.out]; exact decide_eq_true hq
        clear hq HT
        go_wp2_with fail
        refine RT.out.mono ?_
        rintro e w' ⟨rfl, rfl⟩
        go_wp2
        go_round
        case rel => exact ⟨k + 1, by omega, by go_num, HN.out⟩
        case measure => simp [intOf]; omega
      · have HF : Hid (heldT s.data.toList l = false) := by
          unfold Hid heldT
          rw [List.all_eq_false]
          exact ⟨x, HM.out, by rw [decide_eq_false hq]; decide⟩
        have hne : (((ofT s.data.toList x).toNat : Int) != 49) = true := by
          rw [bne_iff_ne]
          exact fun e => hq (UInt8.toNat_inj.1 (by have : (49 : UInt8).toNat = 49 := rfl; omega))
        generalize (ofT s.data.toList x).toNat = z at *
        clear hq HT
        go_wp2_with fail
        refine RT.out.mono ?_
        rintro e w' ⟨rfl, rfl⟩
        go_wp2
        go_ret
        exact ⟨by rw [HF.out]; rfl, rfl⟩
    · obtain rfl : k = l.length := by omega
      have HF : Hid (heldT s.data.toList l = true) := by have h := HA.out; rw [List.take_length] at h; exact h
      go_wp2
      go_ret
      exact ⟨by rw [HF.out]; rfl, rfl⟩
/-- Lift's answers -/
def lErr (c : Cir) (st inp : ByteArray) (hold : List Int) : Int := if tErr c st inp = 0 then (if heldT (valsT c st inp) hold = true then 0 else 51) else tErr c st inp
def lStr (c : Cir) (st inp : ByteArray) (hold : List Int) : List UInt8 := if lErr c st inp hold = 0 then liftL c inp hold st.data.toList st.size else []
theorem trits_of {v : List UInt8} {n : Nat} (hl : v.length = n) (h : ∀ y ∈ v, isT y) : tritsM (sb v) (n : Int) = true := by
  unfold tritsM
  rw [sb_size, sb_list, decide_eq_true (by omega), Bool.true_and, List.all_eq_true]
  intro y hy
  rcases h y hy with e | e | e <;> rw [e] <;> rfl
set_option maxHeartbeats 16000000 in
set_option maxRecDepth 100000 in
theorem reflift_any (c : Cir) (s : Places) (st inp : ByteArray) (hold : List Int) (A : Option Addr) (q : Nat) (w : World) (h : CLies w w.heap.size c s) (hf : CFits c s) (hzs : st.size ≤ 9223372036854775807) (hzi : inp.size ≤ 9223372036854775807) (hl : ∀ x ∈ hold, I64 x) (hn : hold.length ≤ 9223372036854775807) (hrow : LRow w w.heap.size 1 A (ints hold)) :
    Calls Try.prog 47 #[cirV c s, .string st, .string inp, .slice A hold.length q] w fun e w' => e = .returned (.tuple #[sv (lStr c st inp hold), .int .i64 (lErr c st inp hold)]) ∧ Below w.heap.size w w' := by
  obtain ⟨WA, hWA⟩ : ∃ x, w.alloc (.cells #[.int .i64 c.max, .slice s.ai c.ins.length s.ki, .slice s.al c.lats.length s.kl, .slice s.ao c.outs.length s.ko, .slice s.ab c.bads.length s.kb, .slice s.ac c.invs.length s.kc, .slice s.aa c.ands.length s.ka, .slice s.an c.names.length s.kn] 27) = x := ⟨_, rfl⟩
  have bA : Hid (Below w.heap.size w WA) := by unfold Hid; rw [← hWA]; exact (Below.refl _ _).alloc (Nat.le_refl _) _
  have GA : Hid (WA.heap[w.heap.size]? = some (.cells (cirC c s) 27 (0, 0))) := by unfold Hid; rw [← hWA]; exact Array.getElem?_push_size
  obtain ⟨e0, e1, e2, e3, e4, e5, e6, e7⟩ := cells8 GA.out
  have CK := Lib.hid (reftern_any c s st inp WA ((h.below bA.out).more bA.out.size) hf hzs hzi)
  have LW : Hid (∀ x, Below w.heap.size w x → CLies x x.heap.size c s) := fun x hx => (h.below hx).more hx.size
  have HH : Hid (∀ (v : List UInt8) x, v.length ≤ 1048576 → Below w.heap.size w x → Calls Try.prog 90 #[.string ⟨v.toArray⟩, .slice A hold.length q] x fun e w' => e = .returned (.bool (heldT v hold)) ∧ x = w') := fun v x hv hx => refheld_any ⟨v.toArray⟩ hold A q x (by rw [sv_size]; omega) hl hn ((hrow.below hx).more hx.size)
  have hr := terr_range c st inp
  by_cases he : tErr c st inp = 0
  · have HE := Lib.hid he
    obtain ⟨hok, hts, hti⟩ := terr_is he
    obtain ⟨hsz, hisT⟩ := trits_parts hts
    have HVL : Hid (∀ x : ByteArray, (valsT c x inp).length ≤ 1048576) := fun x => by
      obtain ⟨m, hm, hm1⟩ := max_nat hok
      rw [valsT_len, hm]; simp; omega
    have HZ := Lib.hid (ref_sizes hok)
    have TRN := Lib.hid (fun (v : List UInt8) (hv : v.length = c.lats.length) (ht : ∀ y ∈ v, isT y) x hx => reftern_yes c s (sb v) inp x (LW.out x hx) hf (by rw [sb_size]; have := HZ.out; omega) hzi hok (trits_of hv ht) hti)
    rw [tstr_ok he, he] at CK
    have HT0 := Lib.hid hisT
    have HSZ := Lib.hid hsz
    have hvl := HVL.out st
    cases hq : heldT (valsT c st inp) hold with
    | false =>
      have hle : lErr c st inp hold = 51 := by unfold lErr; rw [if_pos he, if_neg (by rw [hq]; decide)]
      have hls : lStr c st inp hold = [] := if_neg (by rw [hle]; decide)
      rw [hle, hls]
      have H1 := Lib.hid (fun x hx => HH.out (valsT c st inp) x hvl hx)
      rw [hq] at H1
      unfold sv at CK
      clear h hf hl hn hrow hok hts hti hsz hisT hq he hle hls
      unfold cirV at CK ⊢
      rw [show cirC c s = #[.int .i64 c.max, .slice s.ai c.ins.length s.ki, .slice s.al c.lats.length s.kl, .slice s.ao c.outs.length s.ko, .slice s.ab c.bads.length s.kb, .slice s.ac c.invs.length s.kc, .slice s.aa c.ands.length s.ka, .slice s.an c.names.length s.kn] from rfl] at CK ⊢
      go_enter Try.func47, Try.ntmps47
      go_wp2_with fail
      refine CK.out.mono ?_
      rintro e w1 ⟨rfl, hb⟩
      have B1 : Hid (Below w.heap.size w w1) := bA.out.trans (hb.mono bA.out.size)
      clear e0 e1 e2 e3 e4 e5 e6 e7 hWA CK hb
      go_wp2_with fail
      refine (H1.out w1 B1.out).mono ?_
      rintro e w' ⟨rfl, rfl⟩
      clear H1
      go_wp2
      go_ret2
      exact ⟨rfl, B1.out⟩
    | true =>
      have hle : lErr c st inp hold = 0 := by unfold lErr; rw [if_pos he, if_pos hq]
      have hls : lStr c st inp hold = liftL c inp hold st.data.toList st.size := if_pos hle
      rw [hle, hls]
      have H1 := Lib.hid (fun x hx => HH.out (valsT c st inp) x hvl hx)
      rw [hq] at H1
      unfold sv at CK TRN ⊢
      clear h hf hl hn hrow hok hts hti hsz hisT hq he hle hls
      unfold cirV at CK TRN ⊢
      rw [show cirC c s = #[.int .i64 c.max, .slice s.ai c.ins.length s.ki, .slice s.al c.lats.length s.kl, .slice s.ao c.outs.length s.ko, .slice s.ab c.bads.length s.kb, .slice s.ac c.invs.length s.kc, .slice s.aa c.ands.length s.ka, .slice s.an c.names.length s.kn] from rfl] at CK TRN ⊢
      go_enter Try.func47, Try.ntmps47
      go_wp2_with fail
      refine CK.out.mono ?_
      rintro e w1 ⟨rfl, hb⟩
      have B1 : Hid (Below w.heap.size w w1) := bA.out.trans (hb.mono bA.out.size)
      have G1 : Hid (w1.heap[w.heap.size]? = some (.cells (cirC c s) 27 (0, 0))) := (hb.block _ (lt_of_block GA.out)).trans GA.out
      clear e0 e1 e2 e3 e4 e5 e6 e7 hWA CK hb
      go_wp2_with fail
      refine (H1.out w1 B1.out).mono ?_
      rintro e w' ⟨rfl, rfl⟩
      clear H1
      go_wp2
      have G9 : Hid (∀ x, Below w1.heap.size w1 x → x.heap[w.heap.size]? = some (.cells (cirC c s) 27 (0, 0))) := fun x hx => (hx.block _ (lt_of_block G1.out)).trans G1.out
      have HS0 : Hid (Value.string st = .string ⟨(liftL c inp hold st.data.toList 0).toArray⟩) := rfl
      go_loopw [1, 12] (fun t i wr => ∃ j : Nat, j ≤ st.size ∧ i = .int .i64 j ∧ t = .string ⟨(liftL c inp hold st.data.toList j).toArray⟩ ∧ Below w1.heap.size w1 wr) (fun _ i _ => st.size - (intOf i).toNat)
      case atStart => exact ⟨0, Nat.zero_le _, rfl, HS0.out, Below.refl _ _⟩
      case round =>
        obtain ⟨j, hj, rfl, rfl, hbw⟩ := hrel
        have HB := Lib.hid hbw
        clear hbw
        have BW : Hid (Below w.heap.size w wr) := B1.out.trans (HB.out.mono B1.out.size)
        have hvlen : (liftL c inp hold st.data.toList j).length = st.size := by rw [liftL_len]; simp
        have hss : (⟨(liftL c inp hold st.data.toList j).toArray⟩ : ByteArray).size = st.size := by rw [sv_size]; exact hvlen
        by_cases hlt : j < st.size
        · have HISJ := Lib.hid (liftL_isT c inp hold st.data.toList HT0.out j)
          have HLJ : Hid (liftL c inp hold st.data.toList (j + 1) = if heldT (valsT c (sb ((liftL c inp hold st.data.toList j).set j 120)) inp) hold = true then (liftL c inp hold st.data.toList j).set j 120 else liftL c inp hold st.data.toList j) := rfl
          have zl : st.size ≤ 64 := by have := HZ.out.2.1; have := HSZ.out; omega
          obtain ⟨v, hv⟩ : ∃ v, liftL c inp hold st.data.toList j = v := ⟨_, rfl⟩
          rw [hv] at hvlen hss HISJ HLJ ⊢
          clear hv
          have KS := Lib.hid (refset_any v j 120 wr (by omega) (by omega))
          unfold sv at KS
          have TJ := Lib.hid (fun x hx => TRN.out (v.set j 120) (by rw [List.length_set]; have := HSZ.out; omega) (fun y hy => by
            rcases List.mem_or_eq_of_mem_set hy with hy | hy
            · exact HISJ.out y hy
            · rw [hy]; exact .inr (.inr rfl)) x hx)
          have HJ := Lib.hid (fun x hx => HH.out (valsT c (sb (v.set j 120)) inp) x (HVL.out _) hx)
          rw [show (sb (v.set j 120)) = ⟨(v.set j 120).toArray⟩ from rfl] at TJ HJ HLJ
          obtain ⟨s0, hs0⟩ : ∃ z, (⟨v.toArray⟩ : ByteArray) = z := ⟨_, rfl⟩
          rw [hs0] at KS hss ⊢
          obtain ⟨v9, hv9⟩ : ∃ z, liftL c inp hold st.data.toList (j + 1) = z := ⟨_, rfl⟩
          rw [hv9] at HLJ
          have HV9 := Lib.hid hv9
          have HS00 := Lib.hid hs0
          clear hv9 hs0
          obtain ⟨s1, hs1⟩ : ∃ z, (⟨(v.set j 120).toArray⟩ : ByteArray) = z := ⟨_, rfl⟩
          rw [hs1] at KS TJ HJ HLJ
          have HS1 := Lib.hid hs1
          clear hs1
          cases hq : heldT (valsT c s1 inp) hold with
          | true =>
            rw [hq] at HJ HLJ
            obtain ⟨e0, e1, e2, e3, e4, e5, e6, e7⟩ := cells8 (G9.out _ HB.out)
            go_wp2_with fail
            refine KS.out.mono ?_
            rintro e w4 ⟨rfl, hb⟩
            have B4 : Hid (Below w1.heap.size w1 w4) := HB.out.trans (hb.mono HB.out.size)
            have BW4 : Hid (Below w.heap.size w w4) := B1.out.trans (B4.out.mono B1.out.size)
            clear e0 e1 e2 e3 e4 e5 e6 e7 hb KS
            obtain ⟨e0, e1, e2, e3, e4, e5, e6, e7⟩ := cells8 (G9.out _ B4.out)
            go_wp2_with fail
            refine (TJ.out w4 BW4.out).mono ?_
            rintro e w5 ⟨rfl, hb⟩
            have B5 : Hid (Below w1.heap.size w1 w5) := B4.out.trans (hb.mono B4.out.size)
            have BW5 : Hid (Below w.heap.size w w5) := B1.out.trans (B5.out.mono B1.out.size)
            clear e0 e1 e2 e3 e4 e5 e6 e7 hb TJ
            go_wp2_with fail
            refine (HJ.out w5 BW5.out).mono ?_
            rintro e w' ⟨rfl, rfl⟩
            clear HJ
            go_wp2
            go_roundw
            case rel => exact ⟨j + 1, by omega, by go_num, by rw [HV9.out, HLJ.out, if_pos (by trivial), HS1.out], B5.out⟩
            case measure => simp [intOf]; omega
          | false =>
            rw [hq] at HJ HLJ
            obtain ⟨e0, e1, e2, e3, e4, e5, e6, e7⟩ := cells8 (G9.out _ HB.out)
            go_wp2_with fail
            refine KS.out.mono ?_
            rintro e w4 ⟨rfl, hb⟩
            have B4 : Hid (Below w1.heap.size w1 w4) := HB.out.trans (hb.mono HB.out.size)
            have BW4 : Hid (Below w.heap.size w w4) := B1.out.trans (B4.out.mono B1.out.size)
            clear e0 e1 e2 e3 e4 e5 e6 e7 hb KS
            obtain ⟨e0, e1, e2, e3, e4, e5, e6, e7⟩ := cells8 (G9.out _ B4.out)
            go_wp2_with fail
            refine (TJ.out w4 BW4.out).mono ?_
            rintro e w5 ⟨rfl, hb⟩
            have B5 : Hid (Below w1.heap.size w1 w5) := B4.out.trans (hb.mono B4.out.size)
            have BW5 : Hid (Below w.heap.size w w5) := B1.out.trans (B5.out.mono B1.out.size)
            clear e0 e1 e2 e3 e4 e5 e6 e7 hb TJ
            go_wp2_with fail
            refine (HJ.out w5 BW5.out).mono ?_
            rintro e w' ⟨rfl, rfl⟩
            clear HJ
            go_wp2
            go_roundw
            case rel => exact ⟨j + 1, by omega, by go_num, by rw [HV9.out, HLJ.out, if_neg (by decide), HS00.out], B5.out⟩
            case measure => simp [intOf]; omega
        · obtain rfl : j = st.size := by omega
          go_wp2
          go_ret2
          exact ⟨rfl, BW.out⟩
  · have hle : lErr c st inp hold = tErr c st inp := if_neg he
    have hls : lStr c st inp hold = [] := if_neg (by rw [hle]; exact he)
    rw [hle, hls]
    rw [tstr_bad he] at CK
    have hz : (tErr c st inp == 0) = false := beq_eq_false_iff_ne.2 he
    have hz2 : (tErr c st inp != 0) = true := bne_iff_ne.2 he
    clear h hf hle hls hl hn hrow
    generalize tErr c st inp = x at *
    unfold sv at CK ⊢
    unfold cirV at CK ⊢
    rw [show cirC c s = #[.int .i64 c.max, .slice s.ai c.ins.length s.ki, .slice s.al c.lats.length s.kl, .slice s.ao c.outs.length s.ko, .slice s.ab c.bads.length s.kb, .slice s.ac c.invs.length s.kc, .slice s.aa c.ands.length s.ka, .slice s.an c.names.length s.kn] from rfl] at CK ⊢
    go_enter Try.func47, Try.ntmps47
    go_wp2_with fail
    refine CK.out.mono ?_
    rintro e w1 ⟨rfl, hb⟩
    have B1 : Hid (Below w.heap.size w w1) := bA.out.trans (hb.mono bA.out.size)
    clear e0 e1 e2 e3 e4 e5 e6 e7 hWA CK hb
    go_wp2
    go_ret2
    exact ⟨rfl, B1.out⟩
end Go.Proofs.Ythcigpklbhjglaa.Ter
namespace Go.Proofs.Ythcigpklbhjglaa.Ter
open Go.ChangeShapes Go.WideShapes Go.ChangeAt Go.RowKit Go.Maps Circ Cw
open Str Sim

set_option maxHeartbeats 16000000 in
set_option maxRecDepth 100000 in
theorem tcheck_any (c : Cir) (s : Places) (st inp : ByteArray) (w : World) (h : CLies w w.heap.size c s) (hf : CFits c s) (hzs : st.size ≤ 9223372036854775807) (hzi : inp.size ≤ 9223372036854775807) :
    Calls Try.prog 81 #[cirV c s, .string st, .string inp] w fun e w' => e = .returned (.int .i64 (tErr c st inp)) ∧ Below w.heap.size w w' := by
  obtain ⟨WA, hWA⟩ : ∃ x, w.alloc (.cells #[.int .i64 c.max, .slice s.ai c.ins.length s.ki, .slice s.al c.lats.length s.kl, .slice s.ao c.outs.length s.ko, .slice s.ab c.bads.length s.kb, .slice s.ac c.invs.length s.kc, .slice s.aa c.ands.length s.ka, .slice s.an c.names.length s.kn] 27) = x := ⟨_, rfl⟩
  have bA : Hid (Below w.heap.size w WA) := by unfold Hid; rw [← hWA]; exact (Below.refl _ _).alloc (Nat.le_refl _) _
  have GA : Hid (WA.heap[w.heap.size]? = some (.cells (cirC c s) 27 (0, 0))) := by unfold Hid; rw [← hWA]; exact Array.getElem?_push_size
  obtain ⟨e0, e1, e2, e3, e4, e5, e6, e7⟩ := cells8 GA.out
  have LW : Hid (∀ x, Below w.heap.size w x → CLies x x.heap.size c s) := fun x hx => (h.below hx).more hx.size
  have CK := Lib.hid (check_any c s WA (LW.out WA bA.out) hf)
  have T1 := Lib.hid (fun x => ptrits_any st (c.lats.length : Int) x hzs)
  have T2 := Lib.hid (fun x => ptrits_any inp (c.ins.length : Int) x hzi)
  have HRC : refOk c = chk c := (chk_same c).symm
  cases hc : chk c with
  | false =>
    rw [terr_no (by rw [HRC]; exact hc)]
    rw [chkV_no c hc] at CK
    clear h hf hzs hzi hc HRC T1 T2
    unfold cirV at CK ⊢
    rw [show cirC c s = #[.int .i64 c.max, .slice s.ai c.ins.length s.ki, .slice s.al c.lats.length s.kl, .slice s.ao c.outs.length s.ko, .slice s.ab c.bads.length s.kb, .slice s.ac c.invs.length s.kc, .slice s.aa c.ands.length s.ka, .slice s.an c.names.length s.kn] from rfl] at CK ⊢
    go_enter Try.func81, Try.ntmps81
    go_wp2_with fail
    refine CK.out.mono ?_
    rintro e w1 ⟨rfl, hb⟩
    have B1 : Hid (Below w.heap.size w w1) := bA.out.trans (hb.mono bA.out.size)
    clear e0 e1 e2 e3 e4 e5 e6 e7 hWA CK hb
    go_wp2
    go_ret
    exact ⟨rfl, B1.out⟩
  | true =>
    have hok : refOk c = true := by rw [HRC]; exact hc
    rw [chkV_yes c hc] at CK
    cases hts : tritsM st (c.lats.length : Int) with
    | false =>
      rw [terr_long hok (by unfold okT; rw [hts]; rfl)]
      rw [hts] at T1
      clear h hf hzs hzi hc HRC T2 hok hts
      unfold cirV at CK ⊢
      rw [show cirC c s = #[.int .i64 c.max, .slice s.ai c.ins.length s.ki, .slice s.al c.lats.length s.kl, .slice s.ao c.outs.length s.ko, .slice s.ab c.bads.length s.kb, .slice s.ac c.invs.length s.kc, .slice s.aa c.ands.length s.ka, .slice s.an c.names.length s.kn] from rfl] at CK ⊢
      go_enter Try.func81, Try.ntmps81
      go_wp2_with fail
      refine CK.out.mono ?_
      rintro e w1 ⟨rfl, hb⟩
      clear hWA CK
      have B1 : Hid (Below w.heap.size w w1) := bA.out.trans (hb.mono bA.out.size)
      have G1 : Hid (w1.heap[w.heap.size]? = some (.cells (cirC c s) 27 (0, 0))) := (hb.block _ (lt_of_block GA.out)).trans GA.out
      clear e0 e1 e2 e3 e4 e5 e6 e7 hb
      obtain ⟨e0, e1, e2, e3, e4, e5, e6, e7⟩ := cells8 G1.out
      go_wp2_with fail
      refine (T1.out w1).mono ?_
      rintro e w' ⟨rfl, rfl⟩
      clear T1
      go_wp2
      go_ret
      exact ⟨rfl, B1.out⟩
    | true =>
      cases hti : tritsM inp (c.ins.length : Int) with
      | false =>
        rw [terr_long hok (by unfold okT; rw [hts, hti]; rfl)]
        rw [hts] at T1
        rw [hti] at T2
        clear h hf hzs hzi hc HRC hok hts hti
        unfold cirV at CK ⊢
        rw [show cirC c s = #[.int .i64 c.max, .slice s.ai c.ins.length s.ki, .slice s.al c.lats.length s.kl, .slice s.ao c.outs.length s.ko, .slice s.ab c.bads.length s.kb, .slice s.ac c.invs.length s.kc, .slice s.aa c.ands.length s.ka, .slice s.an c.names.length s.kn] from rfl] at CK ⊢
        go_enter Try.func81, Try.ntmps81
        go_wp2_with fail
        refine CK.out.mono ?_
        rintro e w1 ⟨rfl, hb⟩
        clear hWA CK
        have B1 : Hid (Below w.heap.size w w1) := bA.out.trans (hb.mono bA.out.size)
        have G1 : Hid (w1.heap[w.heap.size]? = some (.cells (cirC c s) 27 (0, 0))) := (hb.block _ (lt_of_block GA.out)).trans GA.out
        clear e0 e1 e2 e3 e4 e5 e6 e7 hb
        obtain ⟨e0, e1, e2, e3, e4, e5, e6, e7⟩ := cells8 G1.out
        go_wp2_with fail
        refine (T1.out w1).mono ?_
        rintro e w' ⟨rfl, rfl⟩
        clear T1
        go_wp2_with fail
        refine (T2.out w1).mono ?_
        rintro e w' ⟨rfl, rfl⟩
        clear T2
        go_wp2
        go_ret
        exact ⟨rfl, B1.out⟩
      | true =>
        rw [terr_ok hok (by unfold okT; rw [hts, hti]; rfl)]
        rw [hts] at T1
        rw [hti] at T2
        clear h hf hzs hzi hc HRC hok hts hti
        unfold cirV at CK ⊢
        rw [show cirC c s = #[.int .i64 c.max, .slice s.ai c.ins.length s.ki, .slice s.al c.lats.length s.kl, .slice s.ao c.outs.length s.ko, .slice s.ab c.bads.length s.kb, .slice s.ac c.invs.length s.kc, .slice s.aa c.ands.length s.ka, .slice s.an c.names.length s.kn] from rfl] at CK ⊢
        go_enter Try.func81, Try.ntmps81
        go_wp2_with fail
        refine CK.out.mono ?_
        rintro e w1 ⟨rfl, hb⟩
        clear hWA CK
        have B1 : Hid (Below w.heap.size w w1) := bA.out.trans (hb.mono bA.out.size)
        have G1 : Hid (w1.heap[w.heap.size]? = some (.cells (cirC c s) 27 (0, 0))) := (hb.block _ (lt_of_block GA.out)).trans GA.out
        clear e0 e1 e2 e3 e4 e5 e6 e7 hb
        obtain ⟨e0, e1, e2, e3, e4, e5, e6, e7⟩ := cells8 G1.out
        go_wp2_with fail
        refine (T1.out w1).mono ?_
        rintro e w' ⟨rfl, rfl⟩
        clear T1
        go_wp2_with fail
        refine (T2.out w1).mono ?_
        rintro e w' ⟨rfl, rfl⟩
        clear T2
        go_wp2
        go_ret
        exact ⟨rfl, B1.out⟩
set_option maxHeartbeats 16000000 in
set_option maxRecDepth 100000 in
theorem pvals_any (c : Cir) (s : Places) (st inp : ByteArray) (w : World) (h : CLies w w.heap.size c s) (hf : CFits c s) (hzs : st.size ≤ 9223372036854775807) (hzi : inp.size ≤ 9223372036854775807) :
    Calls Try.prog 36 #[cirV c s, .string st, .string inp] w fun e w' => e = .returned (.tuple #[sv (tStr c st inp), .int .i64 (tErr c st inp)]) ∧ Below w.heap.size w w' := by
  obtain ⟨WA, hWA⟩ : ∃ x, w.alloc (.cells #[.int .i64 c.max, .slice s.ai c.ins.length s.ki, .slice s.al c.lats.length s.kl, .slice s.ao c.outs.length s.ko, .slice s.ab c.bads.length s.kb, .slice s.ac c.invs.length s.kc, .slice s.aa c.ands.length s.ka, .slice s.an c.names.length s.kn] 27) = x := ⟨_, rfl⟩
  have bA : Hid (Below w.heap.size w WA) := by unfold Hid; rw [← hWA]; exact (Below.refl _ _).alloc (Nat.le_refl _) _
  have GA : Hid (WA.heap[w.heap.size]? = some (.cells (cirC c s) 27 (0, 0))) := by unfold Hid; rw [← hWA]; exact Array.getElem?_push_size
  obtain ⟨e0, e1, e2, e3, e4, e5, e6, e7⟩ := cells8 GA.out
  have LW : Hid (∀ x, Below w.heap.size w x → CLies x x.heap.size c s) := fun x hx => (h.below hx).more hx.size
  have CK := Lib.hid (tcheck_any c s st inp WA (LW.out WA bA.out) hf hzs hzi)
  have hr := terr_range c st inp
  by_cases he : tErr c st inp = 0
  · obtain ⟨hok, hts, hti⟩ := terr_is he
    have VV := Lib.hid (fun x hx => valued_any c s st inp x (LW.out x hx) hf hok hts hti)
    rw [tstr_ok he, he]
    rw [he] at CK
    unfold sv at VV ⊢
    generalize (⟨(valsT c st inp).toArray⟩ : ByteArray) = sx at *
    clear h hf hzs hzi hr he hok hts hti
    unfold cirV at CK VV ⊢
    rw [show cirC c s = #[.int .i64 c.max, .slice s.ai c.ins.length s.ki, .slice s.al c.lats.length s.kl, .slice s.ao c.outs.length s.ko, .slice s.ab c.bads.length s.kb, .slice s.ac c.invs.length s.kc, .slice s.aa c.ands.length s.ka, .slice s.an c.names.length s.kn] from rfl] at CK VV ⊢
    go_enter Try.func36, Try.ntmps36
    go_wp2_with fail
    refine CK.out.mono ?_
    rintro e w1 ⟨rfl, hb⟩
    clear hWA CK
    have B1 : Hid (Below w.heap.size w w1) := bA.out.trans (hb.mono bA.out.size)
    have G1 : Hid (w1.heap[w.heap.size]? = some (.cells (cirC c s) 27 (0, 0))) := (hb.block _ (lt_of_block GA.out)).trans GA.out
    clear e0 e1 e2 e3 e4 e5 e6 e7 hb
    obtain ⟨e0, e1, e2, e3, e4, e5, e6, e7⟩ := cells8 G1.out
    go_wp2_with fail
    refine (VV.out w1 B1.out).mono ?_
    rintro e w2 ⟨rfl, hb⟩
    have B2 : Hid (Below w.heap.size w w2) := B1.out.trans (hb.mono B1.out.size)
    clear e0 e1 e2 e3 e4 e5 e6 e7 VV hb
    go_wp2
    go_ret2
    exact ⟨rfl, B2.out⟩
  · rw [tstr_bad he]
    have hz : (tErr c st inp == 0) = false := beq_eq_false_iff_ne.2 he
    have hz2 : (tErr c st inp != 0) = true := bne_iff_ne.2 he
    clear h hf hzs hzi
    generalize tErr c st inp = x at *
    unfold sv
    unfold cirV at CK ⊢
    rw [show cirC c s = #[.int .i64 c.max, .slice s.ai c.ins.length s.ki, .slice s.al c.lats.length s.kl, .slice s.ao c.outs.length s.ko, .slice s.ab c.bads.length s.kb, .slice s.ac c.invs.length s.kc, .slice s.aa c.ands.length s.ka, .slice s.an c.names.length s.kn] from rfl] at CK ⊢
    go_enter Try.func36, Try.ntmps36
    go_wp2_with fail
    refine CK.out.mono ?_
    rintro e w1 ⟨rfl, hb⟩
    have B1 : Hid (Below w.heap.size w w1) := bA.out.trans (hb.mono bA.out.size)
    clear e0 e1 e2 e3 e4 e5 e6 e7 hWA CK hb
    go_wp2
    go_ret2
    exact ⟨rfl, B1.out⟩
/-- what is known of the state that follows -/
def nextT (c : Cir) (v : List UInt8) : List UInt8 := c.lats.map fun t => ofT v t.b
def ntStr (c : Cir) (st inp : ByteArray) : List UInt8 := if tErr c st inp = 0 then nextT c (valsT c st inp) else []
theorem ntstr_bad {c : Cir} {st inp : ByteArray} (h : tErr c st inp ≠ 0) : ntStr c st inp = [] := if_neg h
theorem ntstr_ok {c : Cir} {st inp : ByteArray} (h : tErr c st inp = 0) : ntStr c st inp = nextT c (valsT c st inp) := if_pos h
theorem wpList_push8 {ops : Array Oper} {rest : List Oper} {o : Oper} {a : Act} {Q : Exit → Act → World → Prop} (w : World) (hgd : o.guard = none) (s x : Operand)
    (ho : o.op = .call { callee := .builtin .append, args := #[s, x], argTypes := #[59, 59] })
    (base : Nat) (v : Value) (l : List UInt8) (y : UInt8) (hs : a.eval s = v) (hx : a.eval x = .slice (some ⟨w.heap.size, 0, none⟩) 1 1) (hown : OwnC w base 5 1 v (bts l)) (hl : l.length ≤ 1048576) (hbase : base ≤ w.heap.size)
    (h : ∀ v' w', OwnC w' base 5 1 v' (bts (l ++ [y])) → Below base w w' → wpList Try.prog ops Q rest (a.put o.dst v') w') : wpList Try.prog ops Q (o :: rest) a (w.alloc (.cells #[.int .u8 ((y.toNat : Nat) : Int)] 5)) := by
  have hal : Below w.heap.size w (w.alloc (.cells #[.int .u8 ((y.toNat : Nat) : Int)] 5)) := (Below.refl _ _).alloc (Nat.le_refl _) _
  refine wpList_push _ hgd s x 59 ho 5 1 1 (.int .u8 0) Try.underlying59 Bld.infoByte rfl (by decide) base v _ (hown.keep hal) hs w.heap.size 1 hx [.int .u8 ((y.toNat : Nat) : Int)] (fun j u hu => ?_) rfl (fun u hu => ?_) (by rw [bts_len]; omega) (by rw [bts_len]; omega) (Nat.le_trans hbase hal.size) (fun v' w' h1 h2 _ => h v' w' (by rw [bts_snoc]; exact h1) (((hal.mono hbase).trans h2)))
  · match j, hu with
    | 0, hu =>
      obtain rfl : Value.int .u8 ((y.toNat : Nat) : Int) = u := by simpa using hu
      have hh : (w.alloc (.cells #[.int .u8 ((y.toNat : Nat) : Int)] 5)).heap[w.heap.size]? = some (.cells #[.int .u8 ((y.toNat : Nat) : Int)] 5 (0, 0)) := Array.getElem?_push_size
      rw [Lib.cell_of_heap hh]; rfl
    | j + 1, hu => simp at hu
  · rw [List.mem_singleton.1 hu]; rfl
set_option maxHeartbeats 16000000 in
set_option maxRecDepth 100000 in
theorem nextv_any (c : Cir) (s : Places) (st inp : ByteArray) (w : World) (h : CLies w w.heap.size c s) (hf : CFits c s) (hr : refOk c = true) (hs : tritsM st (c.lats.length : Int) = true) (hi : tritsM inp (c.ins.length : Int) = true) :
    Calls Try.prog 83 #[cirV c s, .string st, .string inp] w fun e w' => e = .returned (sv (nextT c (valsT c st inp))) ∧ Below w.heap.size w w' := by
  obtain ⟨WA, hWA⟩ : ∃ x, w.alloc (.cells #[.int .i64 c.max, .slice s.ai c.ins.length s.ki, .slice s.al c.lats.length s.kl, .slice s.ao c.outs.length s.ko, .slice s.ab c.bads.length s.kb, .slice s.ac c.invs.length s.kc, .slice s.aa c.ands.length s.ka, .slice s.an c.names.length s.kn] 27) = x := ⟨_, rfl⟩
  have bA : Hid (Below w.heap.size w WA) := by unfold Hid; rw [← hWA]; exact (Below.refl _ _).alloc (Nat.le_refl _) _
  have GA : Hid (WA.heap[w.heap.size]? = some (.cells (cirC c s) 27 (0, 0))) := by unfold Hid; rw [← hWA]; exact Array.getElem?_push_size
  obtain ⟨e0, e1, e2, e3, e4, e5, e6, e7⟩ := cells8 GA.out
  have LW : Hid (∀ x, Below w.heap.size w x → CLies x x.heap.size c s) := fun x hx => (h.below hx).more hx.size
  have VV := Lib.hid (valued_any c s st inp WA (LW.out WA bA.out) hf hr hs hi)
  obtain ⟨m, hm, hm1⟩ := max_nat hr
  have hvl := valsT_len c st inp
  have HIT := Lib.hid (valsT_isT hs hi)
  have HZ := Lib.hid (ref_sizes hr)
  obtain ⟨v, hv⟩ : ∃ v, valsT c st inp = v := ⟨_, rfl⟩
  rw [hv] at VV HIT hvl ⊢
  have HVL : Hid (v.length ≤ 1048576) := by unfold Hid; rw [hvl, hm]; simp; omega
  have OF : Hid (∀ l w, l ≤ 9223372036854775807 → Calls Try.prog 45 #[sv v, .int .i64 l] w fun e w' => e = .returned (.int .u8 (((ofT v l).toNat : Nat) : Int)) ∧ Below w.heap.size w w') := fun l w hl => of_any (sb v) l w (by rw [sb_size]; have := HVL.out; omega) hl HIT.out
  have HF := Lib.hid hf
  clear h hf hr hs hi hv hvl hm
  unfold cirV at VV ⊢
  rw [show cirC c s = #[.int .i64 c.max, .slice s.ai c.ins.length s.ki, .slice s.al c.lats.length s.kl, .slice s.ao c.outs.length s.ko, .slice s.ab c.bads.length s.kb, .slice s.ac c.invs.length s.kc, .slice s.aa c.ands.length s.ka, .slice s.an c.names.length s.kn] from rfl] at VV ⊢
  go_enter Try.func83, Try.ntmps83
  go_wp2_with fail
  refine VV.out.mono ?_
  rintro e w1 ⟨rfl, hb⟩
  clear hWA VV
  have B1 : Hid (Below w.heap.size w w1) := bA.out.trans (hb.mono bA.out.size)
  have G1 : Hid (w1.heap[w.heap.size]? = some (.cells (cirC c s) 27 (0, 0))) := (hb.block _ (lt_of_block GA.out)).trans GA.out
  clear e0 e1 e2 e3 e4 e5 e6 e7 hb
  obtain ⟨e0, e1, e2, e3, e4, e5, e6, e7⟩ := cells8 G1.out
  generalize sv v = vz at *
  go_wp2
  have OW0 : Hid (OwnC w1 w1.heap.size 5 1 (.slice none 0 0) (bts (nextT c v |>.take 0))) := OwnC.nil _ _ _ _
  clear e0 e1 e2 e3 e4 e5 e6 e7
  go_loopw [8, 18] (fun x i wr => ∃ (j : Nat) (z : Value), j ≤ c.lats.length ∧ i = .int .i64 j ∧ x = z ∧ OwnC wr w1.heap.size 5 1 z (bts ((nextT c v).take j)) ∧ Below w1.heap.size w1 wr) (fun _ i _ => c.lats.length - (intOf i).toNat)
  case atStart => exact ⟨0, _, Nat.zero_le _, rfl, rfl, OW0.out, Below.refl _ _⟩
  case round =>
    clear OW0
    obtain ⟨j, x, hj, rfl, hxz, ho, hbw⟩ := hrel
    have hxz := hxz.symm
    subst hxz
    have zl : c.lats.length ≤ 64 := HZ.out.2.1
    have HB := Lib.hid hbw
    have HO := Lib.hid ho
    have HNL : Hid ((nextT c v).length = c.lats.length) := by unfold Hid nextT; simp
    clear ho hbw
    by_cases hlt : j < c.lats.length
    · obtain ⟨b0, o, hA, -, c0, c1, c2⟩ := LRow.tri (LW.out wr (B1.out.trans (HB.out.mono B1.out.size))).lats hlt
      have HTK : Hid ((nextT c v).take (j + 1) = (nextT c v).take j ++ [ofT v c.lats[j].b]) := by
        unfold Hid
        rw [List.take_succ_eq_append_getElem (by have := HNL.out; omega)]
        congr 2
        unfold nextT
        rw [List.getElem_map]
      have HLB : Hid (c.lats[j].b ≤ 9223372036854775807) := (HF.out.lats _ (List.getElem_mem hlt)).2.1.2
      have HTL : Hid (((nextT c v).take j).length ≤ 1048576) := by unfold Hid; rw [List.length_take]; omega
      obtain ⟨l0, hl0⟩ : ∃ l, (nextT c v).take j = l := ⟨_, rfl⟩
      rw [hl0] at HO HTK HTL
      rw [hA]
      clear hA hl0
      generalize c.lats[j] = t at *
      obtain ⟨wt, hwt⟩ : ∃ x, wr.alloc (.cells #[.int .i64 t.a, .int .i64 t.b, .int .i64 t.c] 39) = x := ⟨_, rfl⟩
      have bt : Below wr.heap.size wr wt := by rw [← hwt]; exact (Below.refl _ _).alloc (Nat.le_refl _) _
      have hkt : wt.heap[wr.heap.size]? = some (.cells #[.int .i64 t.a, .int .i64 t.b, .int .i64 t.c] 39 (0, 0)) := by rw [← hwt]; exact Array.getElem?_push_size
      obtain ⟨k0, k1, k2⟩ := two_cells hkt
      have OT : Hid (OwnC wt w1.heap.size 5 1 x (bts l0)) := HO.out.keep bt
      have BT : Hid (Below w1.heap.size w1 wt) := HB.out.trans (bt.mono HB.out.size)
      have OJ := Lib.hid (OF.out t.b wt HLB.out)
      generalize ofT v t.b = y at *
      clear bt hkt
      go_wp2_with fail
      refine OJ.out.mono ?_
      rintro e w2 ⟨rfl, hb⟩
      have O2 : Hid (OwnC w2 w1.heap.size 5 1 x (bts l0)) := OT.out.keep hb
      have B2 : Hid (Below w1.heap.size w1 w2) := BT.out.trans (hb.mono BT.out.size)
      clear OJ hb k0 k1 k2 c0 c1 c2 hwt
      go_wp2_with (at_builtin; refine wpList_push8 w2 rfl _ _ rfl w1.heap.size x l0 y rfl rfl O2.out HTL.out B2.out.size ?_)
      intro v2 w4 hown hbel
      have O4 : Hid (OwnC w4 w1.heap.size 5 1 v2 (bts (l0 ++ [y]))) := hown
      have B4 : Hid (Below w1.heap.size w1 w4) := B2.out.trans hbel
      clear hown hbel
      go_wp2
      go_roundw
      case rel => exact ⟨j + 1, _, by omega, by go_num, rfl, by rw [HTK.out]; exact O4.out, B4.out⟩
      case measure => simp [intOf]; omega
    · obtain rfl : j = c.lats.length := by omega
      rw [show (nextT c v).take c.lats.length = nextT c v from List.take_of_length_le (by rw [HNL.out]; exact Nat.le_refl _)] at HO
      obtain ⟨A', q', hv, hrow, -, -⟩ := HO.out.row (by decide) (fun y hy => bts_one hy)
      rw [bts_len] at hv
      subst hv
      have FB := Lib.hid (text_any (nextT c v) A' q' wr hrow (by rw [HNL.out]; omega))
      clear hrow HO
      go_wp2_with fail
      refine FB.out.mono ?_
      rintro e w9 ⟨rfl, hb⟩
      have BF : Hid (Below w.heap.size w w9) := B1.out.trans ((HB.out.trans (hb.mono HB.out.size)).mono B1.out.size)
      clear hb FB
      go_wp2
      go_ret
      exact ⟨rfl, BF.out⟩
set_option maxHeartbeats 16000000 in
set_option maxRecDepth 100000 in
theorem pnext_any (c : Cir) (s : Places) (st inp : ByteArray) (w : World) (h : CLies w w.heap.size c s) (hf : CFits c s) (hzs : st.size ≤ 9223372036854775807) (hzi : inp.size ≤ 9223372036854775807) :
    Calls Try.prog 38 #[cirV c s, .string st, .string inp] w fun e w' => e = .returned (.tuple #[sv (ntStr c st inp), .int .i64 (tErr c st inp)]) ∧ Below w.heap.size w w' := by
  obtain ⟨WA, hWA⟩ : ∃ x, w.alloc (.cells #[.int .i64 c.max, .slice s.ai c.ins.length s.ki, .slice s.al c.lats.length s.kl, .slice s.ao c.outs.length s.ko, .slice s.ab c.bads.length s.kb, .slice s.ac c.invs.length s.kc, .slice s.aa c.ands.length s.ka, .slice s.an c.names.length s.kn] 27) = x := ⟨_, rfl⟩
  have bA : Hid (Below w.heap.size w WA) := by unfold Hid; rw [← hWA]; exact (Below.refl _ _).alloc (Nat.le_refl _) _
  have GA : Hid (WA.heap[w.heap.size]? = some (.cells (cirC c s) 27 (0, 0))) := by unfold Hid; rw [← hWA]; exact Array.getElem?_push_size
  obtain ⟨e0, e1, e2, e3, e4, e5, e6, e7⟩ := cells8 GA.out
  have LW : Hid (∀ x, Below w.heap.size w x → CLies x x.heap.size c s) := fun x hx => (h.below hx).more hx.size
  have CK := Lib.hid (tcheck_any c s st inp WA (LW.out WA bA.out) hf hzs hzi)
  have hr := terr_range c st inp
  by_cases he : tErr c st inp = 0
  · obtain ⟨hok, hts, hti⟩ := terr_is he
    have VV := Lib.hid (fun x hx => nextv_any c s st inp x (LW.out x hx) hf hok hts hti)
    rw [ntstr_ok he, he]
    rw [he] at CK
    unfold sv at VV ⊢
    generalize (⟨(nextT c (valsT c st inp)).toArray⟩ : ByteArray) = sx at *
    clear h hf hzs hzi hr he hok hts hti
    unfold cirV at CK VV ⊢
    rw [show cirC c s = #[.int .i64 c.max, .slice s.ai c.ins.length s.ki, .slice s.al c.lats.length s.kl, .slice s.ao c.outs.length s.ko, .slice s.ab c.bads.length s.kb, .slice s.ac c.invs.length s.kc, .slice s.aa c.ands.length s.ka, .slice s.an c.names.length s.kn] from rfl] at CK VV ⊢
    go_enter Try.func38, Try.ntmps38
    go_wp2_with fail
    refine CK.out.mono ?_
    rintro e w1 ⟨rfl, hb⟩
    clear hWA CK
    have B1 : Hid (Below w.heap.size w w1) := bA.out.trans (hb.mono bA.out.size)
    have G1 : Hid (w1.heap[w.heap.size]? = some (.cells (cirC c s) 27 (0, 0))) := (hb.block _ (lt_of_block GA.out)).trans GA.out
    clear e0 e1 e2 e3 e4 e5 e6 e7 hb
    obtain ⟨e0, e1, e2, e3, e4, e5, e6, e7⟩ := cells8 G1.out
    go_wp2_with fail
    refine (VV.out w1 B1.out).mono ?_
    rintro e w2 ⟨rfl, hb⟩
    have B2 : Hid (Below w.heap.size w w2) := B1.out.trans (hb.mono B1.out.size)
    clear e0 e1 e2 e3 e4 e5 e6 e7 VV hb
    go_wp2
    go_ret2
    exact ⟨rfl, B2.out⟩
  · rw [ntstr_bad he]
    have hz : (tErr c st inp == 0) = false := beq_eq_false_iff_ne.2 he
    have hz2 : (tErr c st inp != 0) = true := bne_iff_ne.2 he
    clear h hf hzs hzi
    generalize tErr c st inp = x at *
    unfold sv
    unfold cirV at CK ⊢
    rw [show cirC c s = #[.int .i64 c.max, .slice s.ai c.ins.length s.ki, .slice s.al c.lats.length s.kl, .slice s.ao c.outs.length s.ko, .slice s.ab c.bads.length s.kb, .slice s.ac c.invs.length s.kc, .slice s.aa c.ands.length s.ka, .slice s.an c.names.length s.kn] from rfl] at CK ⊢
    go_enter Try.func38, Try.ntmps38
    go_wp2_with fail
    refine CK.out.mono ?_
    rintro e w1 ⟨rfl, hb⟩
    have B1 : Hid (Below w.heap.size w w1) := bA.out.trans (hb.mono bA.out.size)
    clear e0 e1 e2 e3 e4 e5 e6 e7 hWA CK hb
    go_wp2
    go_ret2
    exact ⟨rfl, B1.out⟩
end Go.Proofs.Ythcigpklbhjglaa.Ter
namespace Go.Proofs.Ythcigpklbhjglaa.Ter
open Go.ChangeShapes Go.WideShapes Go.ChangeAt Go.RowKit Go.Maps Circ Cw
open Str Sim

theorem num_any (x : Int) (w : World) : Calls Try.prog 40 #[.int .i64 x] w fun e w' => e = .returned (.int .i64 x) ∧ w = w' := by
  go_enter Try.func40, Try.ntmps40
  go_wp2
  go_ret
  exact ⟨rfl, rfl⟩
def cT : Cir := ⟨3, [2, 4], [], [], [], [], [⟨6, 2, 4⟩], []⟩
def sT (b : Nat) : Places := ⟨some ⟨b, 0, none⟩, none, none, none, none, some ⟨b + 1, 0, none⟩, none, 2, 0, 0, 0, 0, 1, 0⟩
theorem cT_fits (b : Nat) : CFits cT (sT b) := by
  constructor <;> simp [cT, sT, I64, Tri.fits]
theorem cT_err : tErr cT ⟨#[]⟩ ⟨#[48, 120]⟩ = 0 := by decide +kernel
theorem cT_str : tStr cT ⟨#[]⟩ ⟨#[48, 120]⟩ = [48, 48, 120, 48] := by decide +kernel
theorem cT_isT : ∀ y ∈ ([48, 48, 120, 48] : List UInt8), isT y := fun y hy => by
  simp only [List.mem_cons, List.not_mem_nil, or_false] at hy
  unfold isT
  rcases hy with h | h | h | h <;> rw [h] <;> decide
theorem cT_lies (w w' : World) (hb : Below (w.heap.size + 2) ((w.alloc (.cells #[.int .i64 2, .int .i64 4] 3)).alloc (.cells #[.int .i64 6, .int .i64 2, .int .i64 4] 43)) w') : CLies w' (w.heap.size + 2) cT (sT w.heap.size) := by
  have s0 : (w.alloc (.cells #[.int .i64 2, .int .i64 4] 3)).heap.size = w.heap.size + 1 := by simp
  have h1 : ((w.alloc (.cells #[.int .i64 2, .int .i64 4] 3)).alloc (.cells #[.int .i64 6, .int .i64 2, .int .i64 4] 43)).heap[w.heap.size + 1]? = some (.cells #[.int .i64 6, .int .i64 2, .int .i64 4] 43 (0, 0)) := by
    rw [← s0]; exact Array.getElem?_push_size
  have h0 : ((w.alloc (.cells #[.int .i64 2, .int .i64 4] 3)).alloc (.cells #[.int .i64 6, .int .i64 2, .int .i64 4] 43)).heap[w.heap.size]? = some (.cells #[.int .i64 2, .int .i64 4] 3 (0, 0)) := by
    rw [((Below.refl _ _).alloc (Nat.le_refl _) _ : Below (w.alloc (.cells #[.int .i64 2, .int .i64 4] 3)).heap.size _ _).block _ (by rw [s0]; exact Nat.lt_succ_self _)]
    exact Array.getElem?_push_size
  refine ⟨.inr ⟨_, 0, rfl, by omega, fun i ys hi j u hj => ?_⟩, .inl rfl, .inl rfl, .inl rfl, .inl rfl, .inr ⟨_, 0, rfl, by omega, fun i ys hi j u hj => ?_⟩, .inl rfl⟩
  · rw [hb.cell (by show _ < _; simp), Lib.cell_of_heap h0]
    match i, hi with
    | 0, hi =>
      obtain rfl : [Value.int .i64 2] = ys := by simpa [ints, cT] using hi
      match j, hj with
      | 0, hj => simpa using hj
    | 1, hi =>
      obtain rfl : [Value.int .i64 4] = ys := by simpa [ints, cT] using hi
      match j, hj with
      | 0, hj => simpa using hj
  · rw [hb.cell (by show _ < _; simp), Lib.cell_of_heap h1]
    match i, hi with
    | 0, hi =>
      obtain rfl : [Value.int .i64 6, .int .i64 2, .int .i64 4] = ys := by simpa [tris, cT, Tri.cells] using hi
      match j, hj with
      | 0, hj => simpa using hj
      | 1, hj => simpa using hj
      | 2, hj => simpa using hj
set_option maxHeartbeats 16000000 in
set_option maxRecDepth 100000 in
theorem alive_any (w : World) : Calls Try.prog 44 #[] w fun e w' => e = .returned (.bool true) ∧ Below w.heap.size w w' := by
  obtain ⟨W0, hW0⟩ : ∃ x, w.alloc (.cells #[.int .i64 2, .int .i64 4] 3) = x := ⟨_, rfl⟩
  have b0 : Below w.heap.size w W0 := by rw [← hW0]; exact (Below.refl _ _).alloc (Nat.le_refl _) _
  have s0 : W0.heap.size = w.heap.size + 1 := by rw [← hW0]; simp
  obtain ⟨W1, hW1⟩ : ∃ x, W0.alloc (.cells #[.int .i64 6, .int .i64 2, .int .i64 4] 43) = x := ⟨_, rfl⟩
  have b1 : Below W0.heap.size W0 W1 := by rw [← hW1]; exact (Below.refl _ _).alloc (Nat.le_refl _) _
  have s1 : W1.heap.size = w.heap.size + 2 := by rw [← hW1]; simp [s0]
  have LL : Hid (∀ x, Below (w.heap.size + 2) W1 x → CLies x x.heap.size cT (sT w.heap.size)) := fun x hx => (cT_lies w x (by rw [hW0, hW1]; exact hx)).more (by have := hx.size; omega)
  obtain ⟨W2, hW2⟩ : ∃ x, W1.alloc (.cells #[.int .i64 0, .slice none 0 0, .slice none 0 0, .slice none 0 0, .slice none 0 0, .slice none 0 0, .slice none 0 0, .slice none 0 0] 27) = x := ⟨_, rfl⟩
  have b2 : Below W1.heap.size W1 W2 := by rw [← hW2]; exact (Below.refl _ _).alloc (Nat.le_refl _) _
  have g2 : W2.heap[W1.heap.size]? = some (.cells #[.int .i64 0, .slice none 0 0, .slice none 0 0, .slice none 0 0, .slice none 0 0, .slice none 0 0, .slice none 0 0, .slice none 0 0] 27 (0, 0)) := by rw [← hW2]; exact Array.getElem?_push_size
  obtain ⟨r1, r2, r3, r4, r5, r6, r7, Xr, rv0, rv1, rv2, rv3, rv4, rv5, rv6, rv7, ⟨rh1, ra0, rb0⟩, ⟨rh2, ra1, rb1⟩, ⟨rh3, ra2, rb2⟩, ⟨rh4, ra3, rb3⟩, ⟨rh5, ra4, rb4⟩, ⟨rh6, ra5, rb5⟩, ⟨rh7, ra6, rb6⟩, ⟨rh8, ra7, rb7⟩, E8r, FCr⟩ := Cw.store8 g2 rfl (.int .i64 3) (.slice (some ⟨w.heap.size, 0, none⟩) 2 2) (.slice none 0 0) (.slice none 0 0) (.slice none 0 0) (.slice none 0 0) (.slice (some ⟨w.heap.size + 1, 0, none⟩) 1 1) (.slice none 0 0)
  rw [s1] at rh1 ra0 rb0 rh2 ra1 rb1 rh3 ra2 rb2 rh4 ra3 rb3 rh5 ra4 rb4 rh6 ra5 rb5 rh7 ra6 rb6 rh8 ra7 rb7 E8r FCr b2
  rw [s0] at b1
  have bX : Hid (Below (w.heap.size + 2) W1 Xr) := FCr.below b2 (Nat.le_refl _)
  have BX : Hid (Below w.heap.size w Xr) := (b0.trans (b1.mono (by omega))).trans (bX.out.mono (by omega))
  have GX : Hid (Xr.heap[w.heap.size + 2]? = some (.cells (cirC cT (sT w.heap.size)) 27 (0, 0))) := E8r
  have NX := Lib.hid (pvals_any cT (sT w.heap.size) ⟨#[]⟩ ⟨#[48, 120]⟩ Xr (LL.out _ bX.out) (cT_fits _) (by decide) (by decide))
  rw [cT_str, cT_err] at NX
  have O6 := Lib.hid (fun x => of_any ⟨#[48, 48, 120, 48]⟩ 6 x (by decide) (by decide) cT_isT)
  have O4 := Lib.hid (fun x => of_any ⟨#[48, 48, 120, 48]⟩ 4 x (by decide) (by decide) cT_isT)
  rw [show (⟨#[48, 48, 120, 48]⟩ : ByteArray).data.toList = [48, 48, 120, 48] from rfl, show ofT [48, 48, 120, 48] 6 = 48 from by decide +kernel] at O6
  rw [show (⟨#[48, 48, 120, 48]⟩ : ByteArray).data.toList = [48, 48, 120, 48] from rfl, show ofT [48, 48, 120, 48] 4 = 120 from by decide +kernel] at O4
  have hcv : cirV cT (sT w.heap.size) = .agg #[.int .i64 3, .slice (some ⟨w.heap.size, 0, none⟩) 2 2, .slice none 0 0, .slice none 0 0, .slice none 0 0, .slice none 0 0, .slice (some ⟨w.heap.size + 1, 0, none⟩) 1 1, .slice none 0 0] := rfl
  rw [hcv] at NX
  obtain ⟨e0, e1, e2, e3, e4, e5, e6, e7⟩ := cells8 GX.out
  simp only [cT, sT, List.length_nil, List.length_cons] at e0 e1 e2 e3 e4 e5 e6 e7
  clear hcv E8r FCr g2 b2 b1 b0
  unfold sv at NX
  rw [show ([48, 48, 120, 48] : List UInt8).toArray = #[48, 48, 120, 48] from rfl] at NX
  generalize (⟨#[48, 48, 120, 48]⟩ : ByteArray) = vz at *
  go_enter Try.func44, Try.ntmps44
  go_wp2_with fail
  clear hW0 hW1 hW2 rh1 ra0 rb0 rh2 ra1 rb1 rh3 ra2 rb2 rh4 ra3 rb3 rh5 ra4 rb4 rh6 ra5 rb5 rh7 ra6 rb6 rh8 ra7 rb7
  refine NX.out.mono ?_
  rintro e w1 ⟨rfl, hb⟩
  have B1 := Lib.hid hb
  clear e0 e1 e2 e3 e4 e5 e6 e7 NX hb
  go_wp2_with (go_at_call 40; refine (num_any _ _).mono ?_; rintro e w' ⟨rfl, rfl⟩)
  refine (O6.out w1).mono ?_
  rintro e w2 ⟨rfl, hb⟩
  have B2 : Hid (Below Xr.heap.size Xr w2) := B1.out.trans (hb.mono B1.out.size)
  clear hb O6
  go_wp2_with fail
  refine (O4.out w2).mono ?_
  rintro e w3 ⟨rfl, hb⟩
  have BF : Hid (Below w.heap.size w w3) := BX.out.trans ((B2.out.trans (hb.mono B2.out.size)).mono BX.out.size)
  clear hb O4
  go_wp2
  go_ret
  exact ⟨rfl, BF.out⟩
end Go.Proofs.Ythcigpklbhjglaa.Ter
