/- interlockref07.Widen; condition: the circuit lies in memory. interlockref07.Widen, whole; condition: the circuit lies in memory. ternary.Widen; condition: the circuit lies in memory. -/
import Derived.Test.YthcigpklbhjglaaPt35
import Derived.Test.YthcigpklbhjglaaPt47
namespace Go.Proofs.Ythcigpklbhjglaa.Ter
open Go.ChangeShapes Go.WideShapes Go.ChangeAt Go.RowKit Go.Maps Circ Cw
open Str Sim

set_option maxHeartbeats 16000000 in
set_option maxRecDepth 100000 in
theorem refwid_no (c : Cir) (s : Places) (most : Int) (w : World) (h : CLies w w.heap.size c s) (hf : CFits c s) (hr : refOk c = false) :
    Calls Try.prog 49 #[cirV c s, .int .i64 most] w fun e w' => e = .returned (.tuple #[sv [], .int .i64 0, .int .i64 9]) ∧ Below w.heap.size w w' := by
  obtain ⟨WA, hWA⟩ : ∃ x, w.alloc (.cells #[.int .i64 c.max, .slice s.ai c.ins.length s.ki, .slice s.al c.lats.length s.kl, .slice s.ao c.outs.length s.ko, .slice s.ab c.bads.length s.kb, .slice s.ac c.invs.length s.kc, .slice s.aa c.ands.length s.ka, .slice s.an c.names.length s.kn] 27) = x := ⟨_, rfl⟩
  have bA : Hid (Below w.heap.size w WA) := by unfold Hid; rw [← hWA]; exact (Below.refl _ _).alloc (Nat.le_refl _) _
  have GA : Hid (WA.heap[w.heap.size]? = some (.cells (cirC c s) 27 (0, 0))) := by unfold Hid; rw [← hWA]; exact Array.getElem?_push_size
  obtain ⟨e0, e1, e2, e3, e4, e5, e6, e7⟩ := cells8 GA.out
  have CK := Lib.hid (refcheck_any c s WA ((h.below bA.out).more bA.out.size) hf)
  rw [refV_no c hr] at CK
  clear h hf hr
  unfold cirV at CK ⊢
  rw [show cirC c s = #[.int .i64 c.max, .slice s.ai c.ins.length s.ki, .slice s.al c.lats.length s.kl, .slice s.ao c.outs.length s.ko, .slice s.ab c.bads.length s.kb, .slice s.ac c.invs.length s.kc, .slice s.aa c.ands.length s.ka, .slice s.an c.names.length s.kn] from rfl] at CK ⊢
  go_enter Try.func49, Try.ntmps49
  go_wp2_with fail
  refine CK.out.mono ?_
  rintro e w1 ⟨rfl, hb⟩
  have B1 : Hid (Below w.heap.size w w1) := bA.out.trans (hb.mono bA.out.size)
  have G1 : Hid (w1.heap[w.heap.size]? = some (.cells (cirC c s) 27 (0, 0))) := (hb.block _ (lt_of_block GA.out)).trans GA.out
  clear e0 e1 e2 e3 e4 e5 e6 e7 hWA CK hb
  go_wp2
  go_ret3
  exact ⟨rfl, B1.out⟩
set_option maxHeartbeats 16000000 in
set_option maxRecDepth 100000 in
theorem refwid_range (c : Cir) (s : Places) (most : Int) (w : World) (h : CLies w w.heap.size c s) (hf : CFits c s) (hr : refOk c = true) (hm : most < 0 ∨ 80 < most) :
    Calls Try.prog 49 #[cirV c s, .int .i64 most] w fun e w' => e = .returned (.tuple #[sv [], .int .i64 0, .int .i64 4]) ∧ Below w.heap.size w w' := by
  obtain ⟨WA, hWA⟩ : ∃ x, w.alloc (.cells #[.int .i64 c.max, .slice s.ai c.ins.length s.ki, .slice s.al c.lats.length s.kl, .slice s.ao c.outs.length s.ko, .slice s.ab c.bads.length s.kb, .slice s.ac c.invs.length s.kc, .slice s.aa c.ands.length s.ka, .slice s.an c.names.length s.kn] 27) = x := ⟨_, rfl⟩
  have bA : Hid (Below w.heap.size w WA) := by unfold Hid; rw [← hWA]; exact (Below.refl _ _).alloc (Nat.le_refl _) _
  have GA : Hid (WA.heap[w.heap.size]? = some (.cells (cirC c s) 27 (0, 0))) := by unfold Hid; rw [← hWA]; exact Array.getElem?_push_size
  obtain ⟨e0, e1, e2, e3, e4, e5, e6, e7⟩ := cells8 GA.out
  have CK := Lib.hid (refcheck_any c s WA ((h.below bA.out).more bA.out.size) hf)
  rw [refV_yes c hr] at CK
  clear h hf hr
  rcases hm with hm | hm
  · have hd : decide (most < 0) = true := decide_eq_true hm
    unfold cirV at CK ⊢
    rw [show cirC c s = #[.int .i64 c.max, .slice s.ai c.ins.length s.ki, .slice s.al c.lats.length s.kl, .slice s.ao c.outs.length s.ko, .slice s.ab c.bads.length s.kb, .slice s.ac c.invs.length s.kc, .slice s.aa c.ands.length s.ka, .slice s.an c.names.length s.kn] from rfl] at CK ⊢
    go_enter Try.func49, Try.ntmps49
    go_wp2_with fail
    refine CK.out.mono ?_
    rintro e w1 ⟨rfl, hb⟩
    have B1 : Hid (Below w.heap.size w w1) := bA.out.trans (hb.mono bA.out.size)
    have G1 : Hid (w1.heap[w.heap.size]? = some (.cells (cirC c s) 27 (0, 0))) := (hb.block _ (lt_of_block GA.out)).trans GA.out
    clear e0 e1 e2 e3 e4 e5 e6 e7 hWA CK hb
    go_wp2
    go_ret3
    exact ⟨rfl, B1.out⟩
  · have hd : decide (most < 0) = false := decide_eq_false (by omega)
    have hd2 : decide (80 < most) = true := decide_eq_true hm
    unfold cirV at CK ⊢
    rw [show cirC c s = #[.int .i64 c.max, .slice s.ai c.ins.length s.ki, .slice s.al c.lats.length s.kl, .slice s.ao c.outs.length s.ko, .slice s.ab c.bads.length s.kb, .slice s.ac c.invs.length s.kc, .slice s.aa c.ands.length s.ka, .slice s.an c.names.length s.kn] from rfl] at CK ⊢
    go_enter Try.func49, Try.ntmps49
    go_wp2_with fail
    refine CK.out.mono ?_
    rintro e w1 ⟨rfl, hb⟩
    have B1 : Hid (Below w.heap.size w w1) := bA.out.trans (hb.mono bA.out.size)
    have G1 : Hid (w1.heap[w.heap.size]? = some (.cells (cirC c s) 27 (0, 0))) := (hb.block _ (lt_of_block GA.out)).trans GA.out
    clear e0 e1 e2 e3 e4 e5 e6 e7 hWA CK hb
    go_wp2
    go_ret3
    exact ⟨rfl, B1.out⟩
set_option maxHeartbeats 16000000 in
set_option maxRecDepth 100000 in
theorem refwid_yes (c : Cir) (s : Places) (mo : Nat) (w : World) (h : CLies w w.heap.size c s) (hf : CFits c s) (hr : refOk c = true) (hm : mo ≤ 80) :
    Calls Try.prog 49 #[cirV c s, .int .i64 (mo : Int)] w fun e w' => e = .returned (.tuple #[sv (widR c mo (fst0 c)).1, .int .i64 ((widR c mo (fst0 c)).2 : Nat), .int .i64 0]) ∧ Below w.heap.size w w' := by
  obtain ⟨WA, hWA⟩ : ∃ x, w.alloc (.cells #[.int .i64 c.max, .slice s.ai c.ins.length s.ki, .slice s.al c.lats.length s.kl, .slice s.ao c.outs.length s.ko, .slice s.ab c.bads.length s.kb, .slice s.ac c.invs.length s.kc, .slice s.aa c.ands.length s.ka, .slice s.an c.names.length s.kn] 27) = x := ⟨_, rfl⟩
  have bA : Hid (Below w.heap.size w WA) := by unfold Hid; rw [← hWA]; exact (Below.refl _ _).alloc (Nat.le_refl _) _
  have GA : Hid (WA.heap[w.heap.size]? = some (.cells (cirC c s) 27 (0, 0))) := by unfold Hid; rw [← hWA]; exact Array.getElem?_push_size
  obtain ⟨e0, e1, e2, e3, e4, e5, e6, e7⟩ := cells8 GA.out
  have CK := Lib.hid (refcheck_any c s WA ((h.below bA.out).more bA.out.size) hf)
  rw [refV_yes c hr] at CK
  have HR := Lib.hid hr
  have HF := Lib.hid hf
  have HZ := Lib.hid (ref_sizes hr)
  have LW : Hid (∀ x, Below w.heap.size w x → CLies x x.heap.size c s) := fun x hx => (h.below hx).more hx.size
  have TRN := Lib.hid (fun (v : List UInt8) (hv : v.length = c.lats.length) (ht : ∀ y ∈ v, isT y) x hx => reftern_yes c s (sb v) (sb (xsL c.ins.length)) x (LW.out x hx) hf (by rw [sb_size]; have := HZ.out; omega) (by rw [sb_size]; unfold xsL; rw [List.length_replicate]; have := HZ.out; omega) hr (trits_of hv ht) (trits_of (by unfold xsL; exact List.length_replicate) (fun y hy => by unfold xsL at hy; rw [(List.mem_replicate.1 hy).2]; exact .inr (.inr rfl))))
  have HVL : Hid (∀ a b : ByteArray, (valsT c a b).length ≤ 1048576) := fun a b => by
    obtain ⟨m, hm, hm1⟩ := max_nat hr
    rw [valsT_len, hm]; simp; omega
  have hd : decide ((mo : Int) < 0) = false := decide_eq_false (by omega)
  have hd2 : decide (80 < (mo : Int)) = false := decide_eq_false (by omega)
  clear h hf hr
  unfold cirV at TRN
  rw [show cirC c s = #[.int .i64 c.max, .slice s.ai c.ins.length s.ki, .slice s.al c.lats.length s.kl, .slice s.ao c.outs.length s.ko, .slice s.ab c.bads.length s.kb, .slice s.ac c.invs.length s.kc, .slice s.aa c.ands.length s.ka, .slice s.an c.names.length s.kn] from rfl] at TRN
  unfold cirV at CK ⊢
  rw [show cirC c s = #[.int .i64 c.max, .slice s.ai c.ins.length s.ki, .slice s.al c.lats.length s.kl, .slice s.ao c.outs.length s.ko, .slice s.ab c.bads.length s.kb, .slice s.ac c.invs.length s.kc, .slice s.aa c.ands.length s.ka, .slice s.an c.names.length s.kn] from rfl] at CK ⊢
  go_enter Try.func49, Try.ntmps49
  go_wp2_with fail
  refine CK.out.mono ?_
  rintro e w1 ⟨rfl, hb⟩
  have B1 : Hid (Below w.heap.size w w1) := bA.out.trans (hb.mono bA.out.size)
  have G1 : Hid (w1.heap[w.heap.size]? = some (.cells (cirC c s) 27 (0, 0))) := (hb.block _ (lt_of_block GA.out)).trans GA.out
  clear e0 e1 e2 e3 e4 e5 e6 e7 hWA CK hb
  have G9 : Hid (∀ x, Below w1.heap.size w1 x → x.heap[w.heap.size]? = some (.cells (cirC c s) 27 (0, 0))) := fun x hx => (hx.block _ (lt_of_block G1.out)).trans G1.out
  go_wp2
  go_loopw [7, 9] (fun t i wr => ∃ j : Nat, j ≤ c.lats.length ∧ i = .int .i64 j ∧ t = .string ⟨((fst0 c).take j).toArray⟩ ∧ Below w1.heap.size w1 wr) (fun _ i _ => c.lats.length - (intOf i).toNat)
  case atStart => exact ⟨0, Nat.zero_le _, rfl, rfl, Below.refl _ _⟩
  case round =>
    obtain ⟨j, hj, rfl, rfl, hbw⟩ := hrel
    have HB := Lib.hid hbw
    clear hbw
    have zl : c.lats.length ≤ 64 := HZ.out.2.1
    obtain ⟨e0, e1, e2, e3, e4, e5, e6, e7⟩ := cells8 (G9.out _ HB.out)
    by_cases hlt : j < c.lats.length
    · obtain ⟨b0, o, hA, -, c0, c1, c2⟩ := LRow.tri (LW.out wr (B1.out.trans (HB.out.mono B1.out.size))).lats hlt
      rw [hA] at e2
      have HTK : Hid (∀ x, (if c.lats[j].c = c.lats[j].a then (120 : UInt8) else if c.lats[j].c = 1 then 49 else 48) = x → (⟨((fst0 c).take j).toArray⟩ : ByteArray) ++ ⟨#[x]⟩ = ⟨((fst0 c).take (j + 1)).toArray⟩) := fun x hx => by
        have hl : j < (fst0 c).length := by rw [fst0_len]; exact hlt
        have hq : (fst0 c)[j]? = some x := by unfold fst0; rw [List.getElem?_map, List.getElem?_eq_getElem hlt]; exact congrArg some hx
        have he : (fst0 c)[j] = x := (List.getElem?_eq_some_iff.1 hq).2
        apply ByteArray.ext
        rw [ByteArray.data_append]
        apply Array.toList_inj.1
        rw [List.take_succ_eq_append_getElem hl, he]
        simp
      have hsz : (⟨((fst0 c).take j).toArray⟩ : ByteArray).size ≤ 64 := by rw [sv_size, List.length_take]; omega
      obtain ⟨s0, hs0⟩ : ∃ q, (⟨((fst0 c).take j).toArray⟩ : ByteArray) = q := ⟨_, rfl⟩
      rw [hs0] at HTK hsz ⊢
      clear hA hs0
      generalize c.lats[j] = t at *
      obtain ⟨wt, hwt⟩ : ∃ x, wr.alloc (.cells #[.int .i64 t.a, .int .i64 t.b, .int .i64 t.c] 39) = x := ⟨_, rfl⟩
      have bt : Below wr.heap.size wr wt := by rw [← hwt]; exact (Below.refl _ _).alloc (Nat.le_refl _) _
      have KT : wt.heap[wr.heap.size]? = some (.cells #[.int .i64 t.a, .int .i64 t.b, .int .i64 t.c] 39 (0, 0)) := by rw [← hwt]; exact Array.getElem?_push_size
      obtain ⟨r0, r1, r2⟩ := two_cells KT
      have BT : Hid (Below w1.heap.size w1 wt) := HB.out.trans (bt.mono HB.out.size)
      clear bt KT
      by_cases hca : t.c = t.a
      · have hb : (t.c == t.a) = true := by rw [beq_iff_eq]; exact hca
        have HS := Lib.hid (HTK.out 120 (if_pos hca))
        clear hca HTK
        go_wp2
        clear hwt
        go_roundw
        case rel => exact ⟨j + 1, by omega, by go_num, by rw [← HS.out], BT.out⟩
        case measure => simp [intOf]; omega
      · have hb : (t.c == t.a) = false := beq_eq_false_iff_ne.2 hca
        by_cases hc1 : t.c = 1
        · have hb1 : (t.c == 1) = true := by rw [beq_iff_eq]; exact hc1
          have HS := Lib.hid (HTK.out 49 (by rw [if_neg hca, if_pos hc1]))
          clear hca hc1 HTK
          go_wp2
          clear hwt
          go_roundw
          case rel => exact ⟨j + 1, by omega, by go_num, by rw [← HS.out], BT.out⟩
          case measure => simp [intOf]; omega
        · have hb1 : (t.c == 1) = false := beq_eq_false_iff_ne.2 hc1
          have HS := Lib.hid (HTK.out 48 (by rw [if_neg hca, if_neg hc1]))
          clear hca hc1 HTK
          go_wp2
          clear hwt
          go_roundw
          case rel => exact ⟨j + 1, by omega, by go_num, by rw [← HS.out], BT.out⟩
          case measure => simp [intOf]; omega
    · obtain rfl : j = c.lats.length := by omega
      rw [List.take_of_length_le (by rw [fst0_len]; omega)]
      obtain ⟨wo, rfl⟩ : ∃ x, x = wr := ⟨_, rfl⟩
      have zi : c.ins.length ≤ 64 := HZ.out.1
      go_wp2
      clear e0 e1 e2 e3 e4 e5 e6 e7
      go_loop [8, 11] (fun t i => ∃ j : Nat, j ≤ c.ins.length ∧ i = .int .i64 j ∧ t = .string ⟨(List.replicate j (120 : UInt8)).toArray⟩) (fun _ i => c.ins.length - (intOf i).toNat)
      case atStart => exact ⟨0, Nat.zero_le _, rfl, rfl⟩
      case round =>
        obtain ⟨j, hj, rfl, rfl⟩ := hrel
        obtain ⟨e0, e1, e2, e3, e4, e5, e6, e7⟩ := cells8 (G9.out _ HB.out)
        by_cases hlt2 : j < c.ins.length
        · have HA : Hid ((⟨(List.replicate j (120 : UInt8)).toArray⟩ : ByteArray) ++ ⟨#[120]⟩ = ⟨(List.replicate (j + 1) (120 : UInt8)).toArray⟩) := by
            unfold Hid
            apply ByteArray.ext
            rw [ByteArray.data_append]
            apply Array.toList_inj.1
            rw [List.replicate_succ']
            simp
          have hsz : (⟨(List.replicate j (120 : UInt8)).toArray⟩ : ByteArray).size ≤ 64 := by rw [sv_size, List.length_replicate]; omega
          obtain ⟨sj, hsj⟩ : ∃ x, (⟨(List.replicate j (120 : UInt8)).toArray⟩ : ByteArray) = x := ⟨_, rfl⟩
          rw [hsj] at HA hsz ⊢
          clear hsj
          go_wp2
          go_round
          case rel => exact ⟨j + 1, by omega, by go_num, by rw [← HA.out]⟩
          case measure => simp [intOf]; omega
        · obtain rfl : j = c.ins.length := by omega
          rw [show (⟨(List.replicate c.ins.length (120 : UInt8)).toArray⟩ : ByteArray) = sb (xsL c.ins.length) from rfl]
          have WS := Lib.hid (fun v k hk => widS_at c v (i := k) hk 0)
          generalize sb (xsL c.ins.length) = si at *
          go_wp2
          clear e0 e1 e2 e3 e4 e5 e6 e7
          go_loopw [7, 12] (fun t i wr => ∃ (n : Nat) (v : List UInt8), n ≤ mo ∧ i = .int .i64 n ∧ t = .string ⟨v.toArray⟩ ∧ v.length = c.lats.length ∧ (∀ y ∈ v, isT y) ∧ widR c mo (fst0 c) = ((widR c (mo - n) v).1, (widR c (mo - n) v).2 + n) ∧ Below w1.heap.size w1 wr) (fun _ i _ => mo - (intOf i).toNat)
          case atStart => exact ⟨0, fst0 c, Nat.zero_le _, rfl, rfl, fst0_len c, fst0_isT c, rfl, HB.out⟩
          case round =>
            clear HB
            obtain ⟨n, v, hn, rfl, rfl, hvl, hvt, hw, hbw⟩ := hrel
            have HB := Lib.hid hbw
            have HVT := Lib.hid hvt
            have HW := Lib.hid hw
            have HVN := Lib.hid hvl
            clear hbw hvt hw
            have BW : Hid (Below w.heap.size w wr) := B1.out.trans (HB.out.mono B1.out.size)
            by_cases hnm : n < mo
            · obtain ⟨wq, rfl⟩ : ∃ x, x = wr := ⟨_, rfl⟩
              have TR := Lib.hid (TRN.out v hvl HVT.out wq BW.out)
              have WSV := Lib.hid (fun k hk => WS.out v k hk)
              have HVL2 := Lib.hid (HVL.out (sb v) si)
              rw [show sb v = (⟨v.toArray⟩ : ByteArray) from rfl] at TR WSV HVL2
              have hss : (⟨v.toArray⟩ : ByteArray).size = c.lats.length := by rw [sv_size]; exact hvl
              have HSK : Hid (∀ k (h : k < (⟨v.toArray⟩ : ByteArray).size), ((⟨v.toArray⟩ : ByteArray)[k]'h).toNat = (v.getD k 0).toNat) := fun k h => by
                have hk : k < v.length := by rw [sv_size] at h; exact h
                rw [List.getD_eq_getElem?_getD, List.getElem?_eq_getElem hk]; rfl
              have HEQ : Hid (widS c v ≠ v → ((⟨(widS c v).toArray⟩ : ByteArray).toList == (⟨v.toArray⟩ : ByteArray).toList) = false) := fun h => by
                rw [Lib.toList_data, Lib.toList_data]
                exact beq_eq_false_iff_ne.mpr h
              unfold sv at TR
              obtain ⟨vt, hvt2⟩ : ∃ z, valsT c (⟨v.toArray⟩ : ByteArray) si = z := ⟨_, rfl⟩
              rw [hvt2] at TR WSV HVL2
              have OFK := Lib.hid (fun x (hx : x ≤ 9223372036854775807) w => refof_any ⟨vt.toArray⟩ x w (by rw [sv_size]; have := HVL2.out; omega) hx)
              rw [show (⟨vt.toArray⟩ : ByteArray).data.toList = vt from rfl] at OFK
              obtain ⟨s0, hs0⟩ : ∃ z, (⟨v.toArray⟩ : ByteArray) = z := ⟨_, rfl⟩
              rw [hs0] at TR hss HSK HEQ ⊢
              have HS0 := Lib.hid hs0
              have hnm2 : (n : Int) < (mo : Int) := by omega
              clear hs0 hvt2 hvl
              obtain ⟨e0, e1, e2, e3, e4, e5, e6, e7⟩ := cells8 (G9.out _ HB.out)
              go_wp2_with fail
              refine TR.out.mono ?_
              rintro e w5 ⟨rfl, hb⟩
              have B5 : Hid (Below w1.heap.size w1 w5) := HB.out.trans (hb.mono HB.out.size)
              clear hb TR e0 e1 e2 e3 e4 e5 e6 e7
              generalize (⟨vt.toArray⟩ : ByteArray) = st at *
              go_wp2
              go_loopw [15, 16] (fun t i wr => ∃ k : Nat, k ≤ c.lats.length ∧ i = .int .i64 k ∧ t = .string ⟨((widS c v).take k).toArray⟩ ∧ Below w1.heap.size w1 wr) (fun _ i _ => c.lats.length - (intOf i).toNat)
              case atStart => exact ⟨0, Nat.zero_le _, rfl, rfl, B5.out⟩
              case round =>
                clear B5
                obtain ⟨k, hk, rfl, rfl, hbw⟩ := hrel
                have HC := Lib.hid hbw
                clear hbw
                obtain ⟨e0, e1, e2, e3, e4, e5, e6, e7⟩ := cells8 (G9.out _ HC.out)
                by_cases hkl : k < c.lats.length
                · obtain ⟨b0, o, hA, -, c0, c1, c2⟩ := LRow.tri (LW.out wr (B1.out.trans (HC.out.mono B1.out.size))).lats hkl
                  rw [hA] at e2
                  have hks : k < s0.size := by omega
                  have OF := Lib.hid (OFK.out _ (HF.out.lats _ (List.getElem_mem hkl)).2.1.2 wr)
                  have hxs := HSK.out k hks
                  have hwk := WSV.out k hkl
                  rw [lat_at c hkl] at hwk
                  have hwl : k < (widS c v).length := by rw [widS_len]; exact hkl
                  have HTK : Hid (∀ z, (widS c v).getD k 0 = z → (⟨((widS c v).take k).toArray⟩ : ByteArray) ++ ⟨[z].toArray⟩ = ⟨((widS c v).take (k + 1)).toArray⟩) := fun z hz => by
                    rw [List.getD_eq_getElem?_getD, List.getElem?_eq_getElem hwl, Option.getD_some] at hz
                    apply ByteArray.ext
                    rw [ByteArray.data_append]
                    apply Array.toList_inj.1
                    rw [List.take_succ_eq_append_getElem hwl, hz]
                    simp
                  rw [hwk] at HTK
                  have hsz : (⟨((widS c v).take k).toArray⟩ : ByteArray).size ≤ 64 := by rw [sv_size, List.length_take]; omega
                  obtain ⟨s1, hs1⟩ : ∃ z, (⟨((widS c v).take k).toArray⟩ : ByteArray) = z := ⟨_, rfl⟩
                  rw [hs1] at HTK hsz ⊢
                  clear hA hs1 hwk hwl
                  generalize c.lats[k] = t at *
                  generalize ofT vt t.b = x at *
                  generalize v.getD k 0 = y at *
                  by_cases hxy : x = y
                  · have HS := Lib.hid (HTK.out y (if_pos hxy))
                    have hb : ((x.toNat : Int) != (y.toNat : Int)) = false := by rw [bne_eq_false_iff_eq, hxy]
                    have hcv := conv1 (wr.alloc (.cells #[.int .u8 ((x.toNat : Nat) : Int)] 5)) wr.heap.size x (by rw [World.cell?_alloc_new]; rfl)
                    rw [show sv [x] = .string ⟨[x].toArray⟩ from rfl] at hcv
                    rw [← hxy] at HS
                    have hz1 : (⟨[x].toArray⟩ : ByteArray).size ≤ 64 := by rw [sv_size]; simp
                    have BN : Hid (Below w1.heap.size w1 (wr.alloc (.cells #[.int .u8 ((x.toNat : Nat) : Int)] 5))) := HC.out.alloc HC.out.size _
                    generalize (⟨[x].toArray⟩ : ByteArray) = s2 at *
                    clear hxy HTK
                    go_wp2_with fail
                    refine OF.out.mono ?_
                    rintro e w' ⟨rfl, rfl⟩
                    go_wp2
                    go_roundw
                    case rel => exact ⟨k + 1, by omega, by go_num, by rw [← HS.out], BN.out⟩
                    case measure => simp [intOf]; omega
                  · have HS := Lib.hid (HTK.out 120 (if_neg hxy))
                    have hb : ((x.toNat : Int) != (y.toNat : Int)) = true := by
                      rw [bne_iff_ne]
                      exact fun e => hxy (UInt8.toNat_inj.1 (by omega))
                    have hcv := conv1 (wr.alloc (.cells #[.int .u8 120] 5)) wr.heap.size 120 (by rw [World.cell?_alloc_new]; rfl)
                    rw [show sv [120] = .string ⟨[120].toArray⟩ from rfl] at hcv
                    have hz1 : (⟨[(120 : UInt8)].toArray⟩ : ByteArray).size ≤ 64 := by rw [sv_size]; simp
                    have BN : Hid (Below w1.heap.size w1 (wr.alloc (.cells #[.int .u8 120] 5))) := HC.out.alloc HC.out.size _
                    generalize (⟨[(120 : UInt8)].toArray⟩ : ByteArray) = s2 at *
                    clear hxy HTK
                    go_wp2_with fail
                    refine OF.out.mono ?_
                    rintro e w' ⟨rfl, rfl⟩
                    go_wp2
                    go_roundw
                    case rel => exact ⟨k + 1, by omega, by go_num, by rw [← HS.out], BN.out⟩
                    case measure => simp [intOf]; omega
                · obtain rfl : k = c.lats.length := by omega
                  rw [List.take_of_length_le (by rw [widS_len]; omega)]
                  obtain ⟨f, hf⟩ : ∃ f, mo - n = f + 1 := ⟨mo - n - 1, by omega⟩
                  have BF : Hid (Below w.heap.size w wr) := B1.out.trans (HC.out.mono B1.out.size)
                  by_cases hfix : widS c v = v
                  · have HRES : Hid (widR c mo (fst0 c) = (v, n)) := by
                      unfold Hid
                      rw [HW.out, hf]
                      unfold widR
                      rw [if_pos hfix, Nat.zero_add]
                    rw [hfix, HS0.out]
                    clear hf hfix
                    go_wp2
                    go_ret3
                    exact ⟨by rw [HRES.out]; unfold sv; rw [HS0.out]; rfl, BF.out⟩
                  · have hne := HEQ.out hfix
                    have HNX : Hid (widR c mo (fst0 c) = ((widR c (mo - (n + 1)) (widS c v)).1, (widR c (mo - (n + 1)) (widS c v)).2 + (n + 1))) := by
                      unfold Hid
                      rw [HW.out, hf, show mo - (n + 1) = f from by omega]
                      conv => lhs; unfold widR
                      rw [if_neg hfix]
                      simp only
                      rw [Nat.add_assoc, Nat.add_comm 1 n]
                    have HWT : Hid (∀ y ∈ widS c v, isT y) := widS_isT c HVN.out HVT.out
                    have HWL : Hid ((widS c v).length = c.lats.length) := widS_len c v
                    obtain ⟨v9, hv9⟩ : ∃ z, widS c v = z := ⟨_, rfl⟩
                    rw [hv9] at hne HNX HWT HWL ⊢
                    obtain ⟨s9, hs9⟩ : ∃ z, (⟨v9.toArray⟩ : ByteArray) = z := ⟨_, rfl⟩
                    rw [hs9] at hne ⊢
                    have HS9 := Lib.hid hs9
                    clear hf hfix hv9 hs9
                    go_wp2
                    refine ⟨⟨n + 1, v9, by omega, by go_num, by rw [HS9.out], HWL.out, HWT.out, HNX.out, HC.out⟩, ?_⟩
                    simp [intOf]
                    omega
            · obtain rfl : n = mo := by omega
              have HRES : Hid (widR c n (fst0 c) = (v, n)) := by
                unfold Hid
                rw [HW.out, Nat.sub_self]
                unfold widR
                rw [Nat.zero_add]
              go_wp2
              go_ret3
              exact ⟨by rw [HRES.out]; rfl, BW.out⟩
end Go.Proofs.Ythcigpklbhjglaa.Ter
namespace Go.Proofs.Ythcigpklbhjglaa.Ter
open Go.ChangeShapes Go.WideShapes Go.ChangeAt Go.RowKit Go.Maps Circ Cw
open Str Sim

/-- Widen's answers -/
def wErr (c : Cir) (most : Int) : Int := if refOk c = true then (if most < 0 ∨ 80 < most then 4 else 0) else 9
def wStr (c : Cir) (most : Int) : List UInt8 := if wErr c most = 0 then (widR c most.toNat (fst0 c)).1 else []
def wNum (c : Cir) (most : Int) : Int := if wErr c most = 0 then ((widR c most.toNat (fst0 c)).2 : Nat) else 0
theorem werr_no {c : Cir} {most : Int} (h : refOk c = false) : wErr c most = 9 := by unfold wErr; rw [h]; rfl
theorem werr_range {c : Cir} {most : Int} (h : refOk c = true) (h2 : most < 0 ∨ 80 < most) : wErr c most = 4 := by unfold wErr; rw [h, if_pos rfl, if_pos h2]
theorem werr_ok {c : Cir} {most : Int} (h : refOk c = true) (h2 : ¬ (most < 0 ∨ 80 < most)) : wErr c most = 0 := by unfold wErr; rw [h, if_pos rfl, if_neg h2]
theorem werr_is {c : Cir} {most : Int} (h : wErr c most = 0) : refOk c = true ∧ 0 ≤ most ∧ most ≤ 80 := by
  cases h1 : refOk c with
  | false => rw [werr_no h1] at h; exact absurd h (by decide)
  | true =>
    by_cases h2 : most < 0 ∨ 80 < most
    · rw [werr_range h1 h2] at h; exact absurd h (by decide)
    · exact ⟨rfl, by omega, by omega⟩
theorem wstr_bad {c : Cir} {most : Int} (h : wErr c most ≠ 0) : wStr c most = [] := if_neg h
theorem wnum_bad {c : Cir} {most : Int} (h : wErr c most ≠ 0) : wNum c most = 0 := if_neg h
theorem wstr_ok {c : Cir} {mo : Nat} (h : wErr c (mo : Int) = 0) : wStr c (mo : Int) = (widR c mo (fst0 c)).1 := by unfold wStr; rw [if_pos h, Int.toNat_natCast]
theorem wnum_ok {c : Cir} {mo : Nat} (h : wErr c (mo : Int) = 0) : wNum c (mo : Int) = ((widR c mo (fst0 c)).2 : Nat) := by unfold wNum; rw [if_pos h, Int.toNat_natCast]
theorem wnum_bounds (c : Cir) (most : Int) : 0 ≤ wNum c most ∧ wNum c most ≤ 80 := by
  by_cases h : wErr c most = 0
  · obtain ⟨_, h0, h1⟩ := werr_is h
    obtain ⟨mo, rfl⟩ : ∃ n : Nat, most = n := ⟨most.toNat, by omega⟩
    rw [wnum_ok h]
    have := widR_most c mo (fst0 c)
    omega
  · rw [wnum_bad h]; omega
theorem refwid_any (c : Cir) (s : Places) (most : Int) (w : World) (h : CLies w w.heap.size c s) (hf : CFits c s) :
    Calls Try.prog 49 #[cirV c s, .int .i64 most] w fun e w' => e = .returned (.tuple #[sv (wStr c most), .int .i64 (wNum c most), .int .i64 (wErr c most)]) ∧ Below w.heap.size w w' := by
  cases h1 : refOk c with
  | false =>
    rw [wstr_bad (by rw [werr_no h1]; decide), wnum_bad (by rw [werr_no h1]; decide), werr_no h1]
    exact refwid_no c s most w h hf h1
  | true =>
    by_cases h2 : most < 0 ∨ 80 < most
    · rw [wstr_bad (by rw [werr_range h1 h2]; decide), wnum_bad (by rw [werr_range h1 h2]; decide), werr_range h1 h2]
      exact refwid_range c s most w h hf h1 h2
    · have h3 := werr_ok (c := c) h1 h2
      obtain ⟨mo, rfl⟩ : ∃ n : Nat, most = n := ⟨most.toNat, by omega⟩
      rw [wstr_ok h3, wnum_ok h3, h3]
      exact refwid_yes c s mo w h hf h1 (by omega)
end Go.Proofs.Ythcigpklbhjglaa.Ter
namespace Go.Proofs.Ythcigpklbhjglaa.Ter
open Go.ChangeShapes Go.WideShapes Go.ChangeAt Go.RowKit Go.Maps Circ Cw
open Str Sim

set_option maxHeartbeats 16000000 in
set_option maxRecDepth 100000 in
theorem pwid_no (c : Cir) (s : Places) (most : Int) (w : World) (h : CLies w w.heap.size c s) (hf : CFits c s) (hr : refOk c = false) :
    Calls Try.prog 48 #[cirV c s, .int .i64 most] w fun e w' => e = .returned (.tuple #[sv [], .int .i64 0, .int .i64 9]) ∧ Below w.heap.size w w' := by
  obtain ⟨WA, hWA⟩ : ∃ x, w.alloc (.cells #[.int .i64 c.max, .slice s.ai c.ins.length s.ki, .slice s.al c.lats.length s.kl, .slice s.ao c.outs.length s.ko, .slice s.ab c.bads.length s.kb, .slice s.ac c.invs.length s.kc, .slice s.aa c.ands.length s.ka, .slice s.an c.names.length s.kn] 27) = x := ⟨_, rfl⟩
  have bA : Hid (Below w.heap.size w WA) := by unfold Hid; rw [← hWA]; exact (Below.refl _ _).alloc (Nat.le_refl _) _
  have GA : Hid (WA.heap[w.heap.size]? = some (.cells (cirC c s) 27 (0, 0))) := by unfold Hid; rw [← hWA]; exact Array.getElem?_push_size
  obtain ⟨e0, e1, e2, e3, e4, e5, e6, e7⟩ := cells8 GA.out
  have LW : Hid (∀ x, Below w.heap.size w x → CLies x x.heap.size c s) := fun x hx => (h.below hx).more hx.size
  have CK := Lib.hid (check_any c s WA (LW.out WA bA.out) hf)
  rw [chkV_no c (by rw [chk_same]; exact hr)] at CK
  clear h hf hr
  unfold cirV at CK ⊢
  rw [show cirC c s = #[.int .i64 c.max, .slice s.ai c.ins.length s.ki, .slice s.al c.lats.length s.kl, .slice s.ao c.outs.length s.ko, .slice s.ab c.bads.length s.kb, .slice s.ac c.invs.length s.kc, .slice s.aa c.ands.length s.ka, .slice s.an c.names.length s.kn] from rfl] at CK ⊢
  go_enter Try.func48, Try.ntmps48
  go_wp2_with fail
  refine CK.out.mono ?_
  rintro e w1 ⟨rfl, hb⟩
  have B1 : Hid (Below w.heap.size w w1) := bA.out.trans (hb.mono bA.out.size)
  clear e0 e1 e2 e3 e4 e5 e6 e7 hWA CK hb
  go_wp2
  go_ret3
  exact ⟨rfl, B1.out⟩
set_option maxHeartbeats 16000000 in
set_option maxRecDepth 100000 in
theorem pwid_range (c : Cir) (s : Places) (most : Int) (w : World) (h : CLies w w.heap.size c s) (hf : CFits c s) (hr : refOk c = true) (hm : most < 0 ∨ 80 < most) :
    Calls Try.prog 48 #[cirV c s, .int .i64 most] w fun e w' => e = .returned (.tuple #[sv [], .int .i64 0, .int .i64 4]) ∧ Below w.heap.size w w' := by
  obtain ⟨WA, hWA⟩ : ∃ x, w.alloc (.cells #[.int .i64 c.max, .slice s.ai c.ins.length s.ki, .slice s.al c.lats.length s.kl, .slice s.ao c.outs.length s.ko, .slice s.ab c.bads.length s.kb, .slice s.ac c.invs.length s.kc, .slice s.aa c.ands.length s.ka, .slice s.an c.names.length s.kn] 27) = x := ⟨_, rfl⟩
  have bA : Hid (Below w.heap.size w WA) := by unfold Hid; rw [← hWA]; exact (Below.refl _ _).alloc (Nat.le_refl _) _
  have GA : Hid (WA.heap[w.heap.size]? = some (.cells (cirC c s) 27 (0, 0))) := by unfold Hid; rw [← hWA]; exact Array.getElem?_push_size
  obtain ⟨e0, e1, e2, e3, e4, e5, e6, e7⟩ := cells8 GA.out
  have LW : Hid (∀ x, Below w.heap.size w x → CLies x x.heap.size c s) := fun x hx => (h.below hx).more hx.size
  have CK := Lib.hid (check_any c s WA (LW.out WA bA.out) hf)
  rw [chkV_yes c (by rw [chk_same]; exact hr)] at CK
  clear h hf hr
  by_cases h0 : most < 0
  · have hd0 : decide (most < 0) = true := decide_eq_true h0
    unfold cirV at CK ⊢
    rw [show cirC c s = #[.int .i64 c.max, .slice s.ai c.ins.length s.ki, .slice s.al c.lats.length s.kl, .slice s.ao c.outs.length s.ko, .slice s.ab c.bads.length s.kb, .slice s.ac c.invs.length s.kc, .slice s.aa c.ands.length s.ka, .slice s.an c.names.length s.kn] from rfl] at CK ⊢
    go_enter Try.func48, Try.ntmps48
    go_wp2_with fail
    refine CK.out.mono ?_
    rintro e w1 ⟨rfl, hb⟩
    have B1 : Hid (Below w.heap.size w w1) := bA.out.trans (hb.mono bA.out.size)
    clear e0 e1 e2 e3 e4 e5 e6 e7 hWA CK hb
    go_wp2
    go_ret3
    exact ⟨rfl, B1.out⟩
  · have h8 : 80 < most := by omega
    have hd0 : decide (most < 0) = false := decide_eq_false h0
    have hd8 : decide (80 < most) = true := decide_eq_true h8
    unfold cirV at CK ⊢
    rw [show cirC c s = #[.int .i64 c.max, .slice s.ai c.ins.length s.ki, .slice s.al c.lats.length s.kl, .slice s.ao c.outs.length s.ko, .slice s.ab c.bads.length s.kb, .slice s.ac c.invs.length s.kc, .slice s.aa c.ands.length s.ka, .slice s.an c.names.length s.kn] from rfl] at CK ⊢
    go_enter Try.func48, Try.ntmps48
    go_wp2_with fail
    refine CK.out.mono ?_
    rintro e w1 ⟨rfl, hb⟩
    have B1 : Hid (Below w.heap.size w w1) := bA.out.trans (hb.mono bA.out.size)
    clear e0 e1 e2 e3 e4 e5 e6 e7 hWA CK hb
    go_wp2
    go_ret3
    exact ⟨rfl, B1.out⟩
set_option maxHeartbeats 16000000 in
set_option maxRecDepth 100000 in
theorem pwid_yes (c : Cir) (s : Places) (mo : Nat) (w : World) (h : CLies w w.heap.size c s) (hf : CFits c s) (hr : refOk c = true) (hm : mo ≤ 80) :
    Calls Try.prog 48 #[cirV c s, .int .i64 (mo : Int)] w fun e w' => e = .returned (.tuple #[sv (widR c mo (fst0 c)).1, .int .i64 ((widR c mo (fst0 c)).2 : Nat), .int .i64 0]) ∧ Below w.heap.size w w' := by
  obtain ⟨WA, hWA⟩ : ∃ x, w.alloc (.cells #[.int .i64 c.max, .slice s.ai c.ins.length s.ki, .slice s.al c.lats.length s.kl, .slice s.ao c.outs.length s.ko, .slice s.ab c.bads.length s.kb, .slice s.ac c.invs.length s.kc, .slice s.aa c.ands.length s.ka, .slice s.an c.names.length s.kn] 27) = x := ⟨_, rfl⟩
  have bA : Hid (Below w.heap.size w WA) := by unfold Hid; rw [← hWA]; exact (Below.refl _ _).alloc (Nat.le_refl _) _
  have GA : Hid (WA.heap[w.heap.size]? = some (.cells (cirC c s) 27 (0, 0))) := by unfold Hid; rw [← hWA]; exact Array.getElem?_push_size
  obtain ⟨e0, e1, e2, e3, e4, e5, e6, e7⟩ := cells8 GA.out
  have LW : Hid (∀ x, Below w.heap.size w x → CLies x x.heap.size c s) := fun x hx => (h.below hx).more hx.size
  have CK := Lib.hid (check_any c s WA (LW.out WA bA.out) hf)
  rw [chkV_yes c (by rw [chk_same]; exact hr)] at CK
  have HZ := Lib.hid (ref_sizes hr)
  have FA := Lib.hid (fun x hx => pfirst_any c s x (LW.out x hx) hr)
  have XA := Lib.hid (fun x => repx_any c.ins.length x (by have := HZ.out.1; omega))
  have NX := Lib.hid (fun (v : List UInt8) (hv : v.length = c.lats.length) (ht : ∀ y ∈ v, isT y) x hx => nextv_any c s (sb v) (sb (xsL c.ins.length)) x (LW.out x hx) hf hr (trits_of hv ht) (trits_of List.length_replicate (fun y hy => by rw [(List.mem_replicate.1 hy).2]; exact .inr (.inr rfl))))
  have JN := Lib.hid (fun (v : List UInt8) (hv : v.length = c.lats.length) x => joined_any (sb v) (sb (nextT c (valsT c (sb v) (sb (xsL c.ins.length))))) x (by rw [sb_size, sb_size, hv]; unfold nextT; simp) (by rw [sb_size, hv]; exact HZ.out.2.1))
  have hd0 : decide ((mo : Int) < 0) = false := decide_eq_false (by omega)
  have hd8 : decide (80 < (mo : Int)) = false := decide_eq_false (by omega)
  have hmn : (mo : Int) ≤ 80 := by omega
  clear h hf hr
  unfold sv at FA
  unfold cirV at CK FA NX ⊢
  rw [show cirC c s = #[.int .i64 c.max, .slice s.ai c.ins.length s.ki, .slice s.al c.lats.length s.kl, .slice s.ao c.outs.length s.ko, .slice s.ab c.bads.length s.kb, .slice s.ac c.invs.length s.kc, .slice s.aa c.ands.length s.ka, .slice s.an c.names.length s.kn] from rfl] at CK FA NX ⊢
  go_enter Try.func48, Try.ntmps48
  go_wp2_with fail
  refine CK.out.mono ?_
  rintro e w1 ⟨rfl, hb⟩
  clear hWA CK
  have B1 : Hid (Below w.heap.size w w1) := bA.out.trans (hb.mono bA.out.size)
  have G1 : Hid (w1.heap[w.heap.size]? = some (.cells (cirC c s) 27 (0, 0))) := (hb.block _ (lt_of_block GA.out)).trans GA.out
  clear e0 e1 e2 e3 e4 e5 e6 e7 hb
  obtain ⟨e0, e1, e2, e3, e4, e5, e6, e7⟩ := cells8 G1.out
  have K1 := Lib.hid (fun (u : Wd w1.heap.size w1) => Calls.in_wd u (FA.out u.w (B1.out.trans (u.ok.mono B1.out.size))) (Nat.le_refl _))
  have K2 := Lib.hid (fun (u : Wd w1.heap.size w1) => Calls.in_wd u (XA.out u.w) (Nat.le_refl _))
  have HF0 := Lib.hid (show (⟨(fst0 c).toArray⟩ : ByteArray) = sb (fst0 c) from rfl)
  have HX0 := Lib.hid (show (⟨(xsL c.ins.length).toArray⟩ : ByteArray) = sb (xsL c.ins.length) from rfl)
  rw [HF0.out] at K1
  rw [HX0.out] at K2
  clear FA XA HF0 HX0
  obtain ⟨si, hsi⟩ : ∃ x, sb (xsL c.ins.length) = x := ⟨_, rfl⟩
  rw [hsi] at K2 NX JN
  have HSI := Lib.hid hsi
  clear hsi
  obtain ⟨s0, hs0⟩ : ∃ x, sb (fst0 c) = x := ⟨_, rfl⟩
  rw [hs0] at K1
  have HS0 := Lib.hid hs0
  clear hs0
  go_wp2
  have u0 := Wd.cell e0
  have u1 := Wd.cell e1
  have u2 := Wd.cell e2
  have u3 := Wd.cell e3
  have u4 := Wd.cell e4
  have u5 := Wd.cell e5
  have u6 := Wd.cell e6
  have u7 := Wd.cell e7
  refine wp_region_wd (by kernel_rfl) (by kernel_rfl) ?_
  repeat (first | go_big_quiet_skip | (go_big_quiet_want; go_big_quiet_op; first | go_big_quiet_on | (apply Exists.intro; refine ⟨fun u => ?_, ?_⟩; (first | (go_at_call 91; with_reducible exact K1.out u) | (go_at_call 92; with_reducible exact K2.out u)); go_big_quiet_on)))
  refine wpQuiet_nil ?_
  intro wz9 hw'
  obtain ⟨⟨_, hb9⟩, hw''⟩ := hw'
  subst hw''
  have B2 : Hid (Below w.heap.size w wz9) := B1.out.trans (hb9.mono B1.out.size)
  have G2 : Hid (wz9.heap[w.heap.size]? = some (.cells (cirC c s) 27 (0, 0))) := (hb9.block _ (lt_of_block G1.out)).trans G1.out
  clear K1 K2 hb9 e0 e1 e2 e3 e4 e5 e6 e7 u0 u1 u2 u3 u4 u5 u6 u7
  go_wp2
  go_loopw [8, 30] (fun t i wr => ∃ (n : Nat) (v : List UInt8), n ≤ mo ∧ i = .int .i64 n ∧ t = .string (sb v) ∧ v.length = c.lats.length ∧ (∀ y ∈ v, isT y) ∧ widR c mo (fst0 c) = ((widR c (mo - n) v).1, (widR c (mo - n) v).2 + n) ∧ Below wz9.heap.size wz9 wr) (fun _ i _ => mo - (intOf i).toNat)
  case atStart => exact ⟨0, fst0 c, Nat.zero_le _, rfl, by rw [HS0.out], fst0_len c, fst0_isT c, rfl, Below.refl _ _⟩
  case round =>
    obtain ⟨n, v, hn, rfl, rfl, hvl, hvt, hw, hbw⟩ := hrel
    have HB := Lib.hid hbw
    have HVT := Lib.hid hvt
    have HW := Lib.hid hw
    have HVN := Lib.hid hvl
    clear hbw hvt hw
    have BW : Hid (Below w.heap.size w wr) := B2.out.trans (HB.out.mono B2.out.size)
    have GW : Hid (wr.heap[w.heap.size]? = some (.cells (cirC c s) 27 (0, 0))) := (HB.out.block _ (lt_of_block G2.out)).trans G2.out
    by_cases hnm : n < mo
    · have NV := Lib.hid (NX.out v hvl HVT.out wr BW.out)
      have JV := Lib.hid (JN.out v hvl)
      have hjw := join_wid c v hvl
      rw [HSI.out] at hjw
      rw [sb_size, hjw] at JV
      have HEQ : Hid (widS c v ≠ v → ((sb (widS c v)).toList == (sb v).toList) = false) := fun h => by
        rw [Lib.toList_data, Lib.toList_data]
        exact beq_eq_false_iff_ne.mpr h
      have hnm2 : (n : Int) < (mo : Int) := by omega
      clear hjw hvl
      unfold sv at NV JV
      rw [show (⟨(nextT c (valsT c (sb v) si)).toArray⟩ : ByteArray) = sb (nextT c (valsT c (sb v) si)) from rfl] at NV
      generalize sb (nextT c (valsT c (sb v) si)) = sn at *
      obtain ⟨f, hf⟩ : ∃ f, mo - n = f + 1 := ⟨mo - n - 1, by omega⟩
      obtain ⟨e0, e1, e2, e3, e4, e5, e6, e7⟩ := cells8 GW.out
      by_cases hfix : widS c v = v
      · have HRES : Hid (widR c mo (fst0 c) = (v, n)) := by
          unfold Hid
          rw [HW.out, hf]
          unfold widR
          rw [if_pos hfix, Nat.zero_add]
        rw [hfix] at JV
        rw [show (⟨v.toArray⟩ : ByteArray) = sb v from rfl] at JV
        obtain ⟨sq, hsq⟩ : ∃ x, sb v = x := ⟨_, rfl⟩
        rw [hsq] at NV JV ⊢
        have HSQ := Lib.hid hsq
        clear hf hfix hsq HEQ
        go_wp2_with fail
        refine NV.out.mono ?_
        rintro e w5 ⟨rfl, hb⟩
        have B5 : Hid (Below w.heap.size w w5) := BW.out.trans (hb.mono BW.out.size)
        clear hb NV e0 e1 e2 e3 e4 e5 e6 e7
        go_wp2_with fail
        refine (JV.out w5).mono ?_
        rintro e w6 ⟨rfl, hb⟩
        have B6 : Hid (Below w.heap.size w w6) := B5.out.trans (hb.mono B5.out.size)
        clear hb JV
        go_wp2
        go_ret3
        exact ⟨by rw [HRES.out, ← HSQ.out]; rfl, B6.out⟩
      · have hne := HEQ.out hfix
        have HNX : Hid (widR c mo (fst0 c) = ((widR c (mo - (n + 1)) (widS c v)).1, (widR c (mo - (n + 1)) (widS c v)).2 + (n + 1))) := by
          unfold Hid
          rw [HW.out, hf, show mo - (n + 1) = f from by omega]
          conv => lhs; unfold widR
          rw [if_neg hfix]
          simp only
          rw [Nat.add_assoc, Nat.add_comm 1 n]
        have HWT : Hid (∀ y ∈ widS c v, isT y) := widS_isT c HVN.out HVT.out
        have HWL : Hid ((widS c v).length = c.lats.length) := widS_len c v
        rw [show (⟨(widS c v).toArray⟩ : ByteArray) = sb (widS c v) from rfl] at JV
        obtain ⟨v9, hv9⟩ : ∃ z, widS c v = z := ⟨_, rfl⟩
        rw [hv9] at hne HNX HWT HWL JV
        obtain ⟨s9, hs9⟩ : ∃ z, sb v9 = z := ⟨_, rfl⟩
        rw [hs9] at hne JV
        have HS9 := Lib.hid hs9
        obtain ⟨sq, hsq⟩ : ∃ x, sb v = x := ⟨_, rfl⟩
        rw [hsq] at NV JV hne ⊢
        clear hf hfix hv9 hs9 hsq HEQ
        go_wp2_with fail
        refine NV.out.mono ?_
        rintro e w5 ⟨rfl, hb⟩
        have B5 : Hid (Below wz9.heap.size wz9 w5) := HB.out.trans (hb.mono HB.out.size)
        clear hb NV e0 e1 e2 e3 e4 e5 e6 e7
        go_wp2_with fail
        refine (JV.out w5).mono ?_
        rintro e w6 ⟨rfl, hb⟩
        have B6 : Hid (Below wz9.heap.size wz9 w6) := B5.out.trans (hb.mono B5.out.size)
        clear hb JV
        go_wp2
        go_roundw
        case rel => exact ⟨n + 1, v9, by omega, by go_num, by rw [HS9.out], HWL.out, HWT.out, HNX.out, B6.out⟩
        case measure => simp [intOf]; omega
    · obtain rfl : n = mo := by omega
      have HRES : Hid (widR c n (fst0 c) = (v, n)) := by
        unfold Hid
        rw [HW.out, Nat.sub_self]
        unfold widR
        rw [Nat.zero_add]
      clear hvl
      go_wp2
      go_ret3
      exact ⟨by rw [HRES.out]; rfl, BW.out⟩
theorem pwid_any (c : Cir) (s : Places) (most : Int) (w : World) (h : CLies w w.heap.size c s) (hf : CFits c s) :
    Calls Try.prog 48 #[cirV c s, .int .i64 most] w fun e w' => e = .returned (.tuple #[sv (wStr c most), .int .i64 (wNum c most), .int .i64 (wErr c most)]) ∧ Below w.heap.size w w' := by
  cases h1 : refOk c with
  | false =>
    rw [wstr_bad (by rw [werr_no h1]; decide), wnum_bad (by rw [werr_no h1]; decide), werr_no h1]
    exact pwid_no c s most w h hf h1
  | true =>
    by_cases h2 : most < 0 ∨ 80 < most
    · rw [wstr_bad (by rw [werr_range h1 h2]; decide), wnum_bad (by rw [werr_range h1 h2]; decide), werr_range h1 h2]
      exact pwid_range c s most w h hf h1 h2
    · have h3 := werr_ok (c := c) h1 h2
      obtain ⟨mo, rfl⟩ : ∃ n : Nat, most = n := ⟨most.toNat, by omega⟩
      rw [wstr_ok h3, wnum_ok h3, h3]
      exact pwid_yes c s mo w h hf h1 (by omega)
end Go.Proofs.Ythcigpklbhjglaa.Ter
