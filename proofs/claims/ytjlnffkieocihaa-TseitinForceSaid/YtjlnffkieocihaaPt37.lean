/- interlockref07.Values; condition: the circuit lies in memory, texts are as long as Go's may be. sim.Next, First and Initial, and what the pages say of Next; condition: the circuit lies in memory, texts are as long as Go's may be. Paths, gone again: which steps are allowed, which witnesses are right; no program is named here, no condition. Arguments that are a witness, opened; no condition. -/
import Derived.Test.YtjlnffkieocihaaPt35
import Derived.Test.YtjlnffkieocihaaPt36
import Derived.Test.YtjlnffkieocihaaPt01
namespace Go.Proofs.Ytjlnffkieocihaa.Sim
open Go.ChangeShapes Go.WideShapes Go.ChangeAt Go.RowKit Go.Maps Circ Cw
open Str

theorem getD_at (l : List Int) {j : Nat} (h : j < l.length) : l.getD j 0 = l[j] := by rw [List.getD_eq_getElem?_getD, List.getElem?_eq_getElem h]; rfl
theorem getD_map_at (l : List Tri) {j : Nat} (h : j < l.length) : (l.map Tri.a).getD j 0 = l[j].a := by rw [List.getD_eq_getElem?_getD, List.getElem?_map, List.getElem?_eq_getElem h]; rfl
set_option maxHeartbeats 16000000 in
set_option maxRecDepth 100000 in
theorem refvalues_no (c : Cir) (s : Places) (st inp : ByteArray) (w : World) (h : CLies w w.heap.size c s) (hf : CFits c s) (_hzs : st.size ≤ 9223372036854775807) (_hzi : inp.size ≤ 9223372036854775807) (hc : refOk c = false) :
    Calls Try.prog 22 #[cirV c s, .string st, .string inp] w fun e w' => e = .returned (.tuple #[sv [], .int .i64 9]) ∧ Below w.heap.size w w' := by
  obtain ⟨WA, hWA⟩ : ∃ x, w.alloc (.cells #[.int .i64 c.max, .slice s.ai c.ins.length s.ki, .slice s.al c.lats.length s.kl, .slice s.ao c.outs.length s.ko, .slice s.ab c.bads.length s.kb, .slice s.ac c.invs.length s.kc, .slice s.aa c.ands.length s.ka, .slice s.an c.names.length s.kn] 27) = x := ⟨_, rfl⟩
  have bA : Hid (Below w.heap.size w WA) := by unfold Hid; rw [← hWA]; exact (Below.refl _ _).alloc (Nat.le_refl _) _
  have GA : Hid (WA.heap[w.heap.size]? = some (.cells (cirC c s) 27 (0, 0))) := by unfold Hid; rw [← hWA]; exact Array.getElem?_push_size
  obtain ⟨e0, e1, e2, e3, e4, e5, e6, e7⟩ := cells8 GA.out
  have CK := Lib.hid (refcheck_any c s WA ((h.below bA.out).more bA.out.size) hf)
  rw [refV_no c hc] at CK
  clear h hf hc
  unfold cirV at CK ⊢
  rw [show cirC c s = #[.int .i64 c.max, .slice s.ai c.ins.length s.ki, .slice s.al c.lats.length s.kl, .slice s.ao c.outs.length s.ko, .slice s.ab c.bads.length s.kb, .slice s.ac c.invs.length s.kc, .slice s.aa c.ands.length s.ka, .slice s.an c.names.length s.kn] from rfl] at CK ⊢
  go_enter Try.func22, Try.ntmps22
  go_wp2_with fail
  refine CK.out.mono ?_
  rintro e w1 ⟨rfl, hb⟩
  have B1 : Hid (Below w.heap.size w w1) := bA.out.trans (hb.mono bA.out.size)
  have G1 : Hid (w1.heap[w.heap.size]? = some (.cells (cirC c s) 27 (0, 0))) := (hb.block _ (lt_of_block GA.out)).trans GA.out
  clear e0 e1 e2 e3 e4 e5 e6 e7 hWA CK hb
  go_wp2
  go_ret2
  exact ⟨rfl, B1.out⟩
set_option maxHeartbeats 16000000 in
set_option maxRecDepth 100000 in
theorem refvalues_long1 (c : Cir) (s : Places) (st inp : ByteArray) (w : World) (h : CLies w w.heap.size c s) (hf : CFits c s) (hzs : st.size ≤ 9223372036854775807) (_hzi : inp.size ≤ 9223372036854775807) (hc : refOk c = true) (hs : bitsM st (c.lats.length : Int) = false) :
    Calls Try.prog 22 #[cirV c s, .string st, .string inp] w fun e w' => e = .returned (.tuple #[sv [], .int .i64 5]) ∧ Below w.heap.size w w' := by
  obtain ⟨WA, hWA⟩ : ∃ x, w.alloc (.cells #[.int .i64 c.max, .slice s.ai c.ins.length s.ki, .slice s.al c.lats.length s.kl, .slice s.ao c.outs.length s.ko, .slice s.ab c.bads.length s.kb, .slice s.ac c.invs.length s.kc, .slice s.aa c.ands.length s.ka, .slice s.an c.names.length s.kn] 27) = x := ⟨_, rfl⟩
  have bA : Hid (Below w.heap.size w WA) := by unfold Hid; rw [← hWA]; exact (Below.refl _ _).alloc (Nat.le_refl _) _
  have GA : Hid (WA.heap[w.heap.size]? = some (.cells (cirC c s) 27 (0, 0))) := by unfold Hid; rw [← hWA]; exact Array.getElem?_push_size
  obtain ⟨e0, e1, e2, e3, e4, e5, e6, e7⟩ := cells8 GA.out
  have CK := Lib.hid (refcheck_any c s WA ((h.below bA.out).more bA.out.size) hf)
  rw [refV_yes c hc] at CK
  have T1 : Hid (∀ w, Calls Try.prog 27 #[.string st, .int .i64 (c.lats.length : Int)] w fun e w' => e = .returned (.bool false) ∧ w = w') := fun w => by
    have := refbits_any st c.lats.length w hzs
    rw [hs] at this
    exact this
  clear h hf hc hs
  unfold cirV at CK ⊢
  rw [show cirC c s = #[.int .i64 c.max, .slice s.ai c.ins.length s.ki, .slice s.al c.lats.length s.kl, .slice s.ao c.outs.length s.ko, .slice s.ab c.bads.length s.kb, .slice s.ac c.invs.length s.kc, .slice s.aa c.ands.length s.ka, .slice s.an c.names.length s.kn] from rfl] at CK ⊢
  go_enter Try.func22, Try.ntmps22
  go_wp2_with fail
  refine CK.out.mono ?_
  rintro e w1 ⟨rfl, hb⟩
  have B1 : Hid (Below w.heap.size w w1) := bA.out.trans (hb.mono bA.out.size)
  have G1 : Hid (w1.heap[w.heap.size]? = some (.cells (cirC c s) 27 (0, 0))) := (hb.block _ (lt_of_block GA.out)).trans GA.out
  clear e0 e1 e2 e3 e4 e5 e6 e7 hWA CK hb
  obtain ⟨e0, e1, e2, e3, e4, e5, e6, e7⟩ := cells8 G1.out
  go_wp2_with fail
  refine (T1.out w1).mono ?_
  rintro e w' ⟨rfl, rfl⟩
  clear e0 e1 e2 e3 e4 e5 e6 e7
  go_wp2
  go_ret2
  exact ⟨rfl, B1.out⟩
set_option maxHeartbeats 16000000 in
set_option maxRecDepth 100000 in
theorem refvalues_long2 (c : Cir) (s : Places) (st inp : ByteArray) (w : World) (h : CLies w w.heap.size c s) (hf : CFits c s) (hzs : st.size ≤ 9223372036854775807) (hzi : inp.size ≤ 9223372036854775807) (hc : refOk c = true) (hs : bitsM st (c.lats.length : Int) = true) (hi : bitsM inp (c.ins.length : Int) = false) :
    Calls Try.prog 22 #[cirV c s, .string st, .string inp] w fun e w' => e = .returned (.tuple #[sv [], .int .i64 5]) ∧ Below w.heap.size w w' := by
  obtain ⟨WA, hWA⟩ : ∃ x, w.alloc (.cells #[.int .i64 c.max, .slice s.ai c.ins.length s.ki, .slice s.al c.lats.length s.kl, .slice s.ao c.outs.length s.ko, .slice s.ab c.bads.length s.kb, .slice s.ac c.invs.length s.kc, .slice s.aa c.ands.length s.ka, .slice s.an c.names.length s.kn] 27) = x := ⟨_, rfl⟩
  have bA : Hid (Below w.heap.size w WA) := by unfold Hid; rw [← hWA]; exact (Below.refl _ _).alloc (Nat.le_refl _) _
  have GA : Hid (WA.heap[w.heap.size]? = some (.cells (cirC c s) 27 (0, 0))) := by unfold Hid; rw [← hWA]; exact Array.getElem?_push_size
  obtain ⟨e0, e1, e2, e3, e4, e5, e6, e7⟩ := cells8 GA.out
  have CK := Lib.hid (refcheck_any c s WA ((h.below bA.out).more bA.out.size) hf)
  rw [refV_yes c hc] at CK
  have T1 : Hid (∀ w, Calls Try.prog 27 #[.string st, .int .i64 (c.lats.length : Int)] w fun e w' => e = .returned (.bool true) ∧ w = w') := fun w => by
    have := refbits_any st c.lats.length w hzs
    rw [hs] at this
    exact this
  have T2 : Hid (∀ w, Calls Try.prog 27 #[.string inp, .int .i64 (c.ins.length : Int)] w fun e w' => e = .returned (.bool false) ∧ w = w') := fun w => by
    have := refbits_any inp c.ins.length w hzi
    rw [hi] at this
    exact this
  clear h hf hc hs hi
  unfold cirV at CK ⊢
  rw [show cirC c s = #[.int .i64 c.max, .slice s.ai c.ins.length s.ki, .slice s.al c.lats.length s.kl, .slice s.ao c.outs.length s.ko, .slice s.ab c.bads.length s.kb, .slice s.ac c.invs.length s.kc, .slice s.aa c.ands.length s.ka, .slice s.an c.names.length s.kn] from rfl] at CK ⊢
  go_enter Try.func22, Try.ntmps22
  go_wp2_with fail
  refine CK.out.mono ?_
  rintro e w1 ⟨rfl, hb⟩
  have B1 : Hid (Below w.heap.size w w1) := bA.out.trans (hb.mono bA.out.size)
  have G1 : Hid (w1.heap[w.heap.size]? = some (.cells (cirC c s) 27 (0, 0))) := (hb.block _ (lt_of_block GA.out)).trans GA.out
  clear e0 e1 e2 e3 e4 e5 e6 e7 hWA CK hb
  obtain ⟨e0, e1, e2, e3, e4, e5, e6, e7⟩ := cells8 G1.out
  go_wp2_with fail
  refine (T1.out w1).mono ?_
  rintro e w' ⟨rfl, rfl⟩
  clear e0 e1 e2 e3 e4 e5 e6 e7
  obtain ⟨e0, e1, e2, e3, e4, e5, e6, e7⟩ := cells8 G1.out
  go_wp2_with fail
  refine (T2.out w1).mono ?_
  rintro e w' ⟨rfl, rfl⟩
  clear e0 e1 e2 e3 e4 e5 e6 e7
  go_wp2
  go_ret2
  exact ⟨rfl, B1.out⟩
set_option maxHeartbeats 16000000 in
set_option maxRecDepth 100000 in
theorem refvalues_yes (c : Cir) (s : Places) (st inp : ByteArray) (w : World) (h : CLies w w.heap.size c s) (hf : CFits c s) (hzs : st.size ≤ 9223372036854775807) (hzi : inp.size ≤ 9223372036854775807) (hr : refOk c = true) (hs : bitsM st (c.lats.length : Int) = true) (hi : bitsM inp (c.ins.length : Int) = true) :
    Calls Try.prog 22 #[cirV c s, .string st, .string inp] w fun e w' => e = .returned (.tuple #[sv (valsM c st inp), .int .i64 0]) ∧ Below w.heap.size w w' := by
  obtain ⟨m, hm, hm1⟩ := max_nat hr
  obtain ⟨WA, hWA⟩ : ∃ x, w.alloc (.cells #[.int .i64 c.max, .slice s.ai c.ins.length s.ki, .slice s.al c.lats.length s.kl, .slice s.ao c.outs.length s.ko, .slice s.ab c.bads.length s.kb, .slice s.ac c.invs.length s.kc, .slice s.aa c.ands.length s.ka, .slice s.an c.names.length s.kn] 27) = x := ⟨_, rfl⟩
  have bA : Hid (Below w.heap.size w WA) := by unfold Hid; rw [← hWA]; exact (Below.refl _ _).alloc (Nat.le_refl _) _
  have GA : Hid (WA.heap[w.heap.size]? = some (.cells (cirC c s) 27 (0, 0))) := by unfold Hid; rw [← hWA]; exact Array.getElem?_push_size
  obtain ⟨e0, e1, e2, e3, e4, e5, e6, e7⟩ := cells8 GA.out
  have CK := Lib.hid (refcheck_any c s WA ((h.below bA.out).more bA.out.size) hf)
  rw [refV_yes c hr] at CK
  have T1 : Hid (∀ w, Calls Try.prog 27 #[.string st, .int .i64 (c.lats.length : Int)] w fun e w' => e = .returned (.bool true) ∧ w = w') := fun w => by
    have := refbits_any st c.lats.length w hzs
    rw [hs] at this
    exact this
  have T2 : Hid (∀ w, Calls Try.prog 27 #[.string inp, .int .i64 (c.ins.length : Int)] w fun e w' => e = .returned (.bool true) ∧ w = w') := fun w => by
    have := refbits_any inp c.ins.length w hzi
    rw [hi] at this
    exact this
  have HR := Lib.hid hr
  have HM := Lib.hid hm
  have HZ := Lib.hid (ref_sizes hr)
  have HST := Lib.hid (bits_parts hs).1
  have HIN := Lib.hid (bits_parts hi).1
  have LW : Hid (∀ x, Below w.heap.size w x → CLies x x.heap.size c s) := fun x hx => (h.below hx).more hx.size
  clear h hf hs hi hr hm
  unfold cirV at CK ⊢
  rw [show cirC c s = #[.int .i64 c.max, .slice s.ai c.ins.length s.ki, .slice s.al c.lats.length s.kl, .slice s.ao c.outs.length s.ko, .slice s.ab c.bads.length s.kb, .slice s.ac c.invs.length s.kc, .slice s.aa c.ands.length s.ka, .slice s.an c.names.length s.kn] from rfl] at CK ⊢
  go_enter Try.func22, Try.ntmps22
  go_wp2_with fail
  refine CK.out.mono ?_
  rintro e w1 ⟨rfl, hb⟩
  have B1 : Hid (Below w.heap.size w w1) := bA.out.trans (hb.mono bA.out.size)
  have G1 : Hid (w1.heap[w.heap.size]? = some (.cells (cirC c s) 27 (0, 0))) := (hb.block _ (lt_of_block GA.out)).trans GA.out
  clear e0 e1 e2 e3 e4 e5 e6 e7 hWA CK hb
  obtain ⟨e0, e1, e2, e3, e4, e5, e6, e7⟩ := cells8 G1.out
  go_wp2_with fail
  refine (T1.out w1).mono ?_
  rintro e w' ⟨rfl, rfl⟩
  clear e0 e1 e2 e3 e4 e5 e6 e7
  obtain ⟨e0, e1, e2, e3, e4, e5, e6, e7⟩ := cells8 G1.out
  go_wp2_with fail
  refine (T2.out w1).mono ?_
  rintro e w' ⟨rfl, rfl⟩
  clear e0 e1 e2 e3 e4 e5 e6 e7
  clear T1 T2 GA bA
  have G9 : Hid (∀ x, Below w1.heap.size w1 x → x.heap[w.heap.size]? = some (.cells (cirC c s) 27 (0, 0))) := fun x hx => (hx.block _ (lt_of_block G1.out)).trans G1.out
  have HZV : Hid (zeroV c = List.replicate (m + 1) 48) := by unfold Hid zeroV; rw [HM.out, Int.toNat_natCast]
  have HL0 : Hid ((zeroV c).length = m + 1) := by rw [HZV.out]; exact List.length_replicate
  obtain ⟨e0, e1, e2, e3, e4, e5, e6, e7⟩ := cells8 G1.out
  rw [HM.out] at e0
  go_wp2
  go_loop [8, 9] (fun t i => ∃ j : Nat, j ≤ m + 1 ∧ i = .int .i64 j ∧ t = .string ⟨(List.replicate j (48 : UInt8)).toArray⟩) (fun _ i => m + 1 - (intOf i).toNat)
  case atStart => exact ⟨0, Nat.zero_le _, rfl, rfl⟩
  case round =>
    obtain ⟨j, hj, rfl, rfl⟩ := hrel
    by_cases hlt : j < m + 1
    · have HA : Hid ((⟨(List.replicate j (48 : UInt8)).toArray⟩ : ByteArray) ++ ⟨#[48]⟩ = ⟨(List.replicate (j + 1) (48 : UInt8)).toArray⟩) := by
        unfold Hid
        apply ByteArray.ext
        rw [ByteArray.data_append]
        apply Array.toList_inj.1
        rw [List.replicate_succ']
        simp
      have hsz : (⟨(List.replicate j (48 : UInt8)).toArray⟩ : ByteArray).size ≤ 4096 := by rw [sv_size, List.length_replicate]; omega
      obtain ⟨sj, hsj⟩ : ∃ x, (⟨(List.replicate j (48 : UInt8)).toArray⟩ : ByteArray) = x := ⟨_, rfl⟩
      rw [hsj] at HA hsz ⊢
      have hle : (j : Int) ≤ (m : Int) := by omega
      clear hsj
      go_wp2
      go_round
      case rel => exact ⟨j + 1, by omega, by go_num, by rw [← HA.out]⟩
      case measure => simp [intOf]; omega
    · obtain rfl : j = m + 1 := by omega
      rw [← HZV.out]
      clear e0 e1 e2 e3 e4 e5 e6 e7
      obtain ⟨e0, e1, e2, e3, e4, e5, e6, e7⟩ := cells8 G1.out
      rw [HM.out] at e0
      have hgt : ¬ ((m : Int) + 1 ≤ (m : Int)) := by omega
      go_wp2
      clear e0 e1 e2 e3 e4 e5 e6 e7
      go_loopw [8, 10] (fun t i wr => ∃ j : Nat, j ≤ c.ins.length ∧ i = .int .i64 j ∧ t = .string ⟨(putsV (zeroV c) c.ins inp j).toArray⟩ ∧ Below w1.heap.size w1 wr) (fun _ i _ => c.ins.length - (intOf i).toNat)
      case atStart => exact ⟨0, Nat.zero_le _, rfl, rfl, Below.refl _ _⟩
      case round =>
        obtain ⟨j, hj, rfl, rfl, hbw⟩ := hrel
        have HB := Lib.hid hbw
        clear hbw
        have zi : c.ins.length ≤ 64 := HZ.out.1
        obtain ⟨e0, e1, e2, e3, e4, e5, e6, e7⟩ := cells8 (G9.out _ HB.out)
        by_cases hlt : j < c.ins.length
        · obtain ⟨b0, o, hA, -, hc⟩ := LRow.int (LW.out wr (B1.out.trans (HB.out.mono B1.out.size))).ins hlt
          rw [hA] at e1
          have hx := (Str.own_facts HR.out).2 c.ins[j] (by unfold own; simp)
          obtain ⟨vi, hvi⟩ : ∃ v : Nat, c.ins[j] / 2 = (v : Int) := ⟨(c.ins[j] / 2).toNat, by omega⟩
          have ht : c.ins[j].tdiv 2 = (vi : Int) := by rw [Int.tdiv_eq_ediv_of_nonneg (by omega)]; exact hvi
          have hx0 : 0 ≤ c.ins[j] := by omega
          have hx1 : c.ins[j] ≤ 9223372036854775807 := by have := HM.out; omega
          have hvb : vi ≤ 2048 := by have := HM.out; omega
          have HSJ : j < inp.size := by have := HIN.out; omega
          have hgd : inp.data.toList.getD j 0 = inp[j]'HSJ := by
            have hl : j < inp.data.toList.length := by simpa using HSJ
            rw [List.getD_eq_getElem?_getD, List.getElem?_eq_getElem hl, Option.getD_some, Array.getElem_toList]; rfl
          have HN : Hid ((putsV (zeroV c) c.ins inp j).set vi (inp[j]'HSJ) = putsV (zeroV c) c.ins inp (j + 1)) := by
            unfold Hid
            rw [← hgd]
            show _ = putV (putsV (zeroV c) c.ins inp j) (c.ins.getD j 0) _
            unfold putV
            rw [getD_at _ hlt, hvi, Int.toNat_natCast]
          have hvl : vi < (putsV (zeroV c) c.ins inp j).length := by have := HM.out; have := HL0.out; rw [putsV_len]; omega
          have hvl2 : (putsV (zeroV c) c.ins inp j).length ≤ 1048576 := by have := HM.out; have := HL0.out; rw [putsV_len]; omega
          have KS := Lib.hid (fun (u : Wd wr.heap.size wr) => Calls.in_wd u (refset_any (putsV (zeroV c) c.ins inp j) vi (inp[j]'HSJ) u.w hvl hvl2) (Nat.le_refl _))
          unfold sv at KS
          rw [HN.out] at KS
          clear hx hvi hvl hvl2 hgd HN hA
          generalize c.ins[j] = x at *
          obtain ⟨s0, hs0⟩ : ∃ q, (⟨(putsV (zeroV c) c.ins inp j).toArray⟩ : ByteArray) = q := ⟨_, rfl⟩
          rw [hs0] at KS ⊢
          obtain ⟨s1, hs1⟩ : ∃ q, (⟨(putsV (zeroV c) c.ins inp (j + 1)).toArray⟩ : ByteArray) = q := ⟨_, rfl⟩
          rw [hs1] at KS
          have HS1 := Lib.hid hs1
          clear hs0 hs1
          go_wp2
          have u1 := Wd.cell e1
          have uc := Wd.cell hc
          refine wp_region_wd (by kernel_rfl) (by kernel_rfl) ?_
          repeat (first | go_big_quiet_skip | (go_big_quiet_want; go_big_quiet_op; first | go_big_quiet_on | (apply Exists.intro; refine ⟨fun u => ?_, ?_⟩; (go_at_call 62; with_reducible exact KS.out u); go_big_quiet_on)))
          refine wpQuiet_nil ?_
          intro wz9 hw'
          obtain ⟨⟨_, hb9⟩, hw''⟩ := hw'
          subst hw''
          have BZ : Hid (Below w1.heap.size w1 wz9) := HB.out.trans (hb9.mono HB.out.size)
          clear KS hb9 hc e0 e1 e2 e3 e4 e5 e6 e7
          go_wp2
          go_roundw
          case rel => exact ⟨j + 1, by omega, by go_num, by rw [HS1.out], BZ.out⟩
          case measure => simp [intOf]; omega
        · obtain rfl : j = c.ins.length := by omega
          obtain ⟨wo, rfl⟩ : ∃ x, x = wr := ⟨_, rfl⟩
          obtain ⟨v1, hv1⟩ : ∃ v, putsV (zeroV c) c.ins inp c.ins.length = v := ⟨_, rfl⟩
          have HL1 : Hid (v1.length = m + 1) := by unfold Hid; rw [← hv1, putsV_len]; exact HL0.out
          have HV1 := Lib.hid hv1
          rw [hv1]
          clear hv1
          go_wp2
          clear e0 e1 e2 e3 e4 e5 e6 e7
          go_loopw [8, 11] (fun t i wr => ∃ j : Nat, j ≤ c.lats.length ∧ i = .int .i64 j ∧ t = .string ⟨(putsV v1 (c.lats.map Tri.a) st j).toArray⟩ ∧ Below w1.heap.size w1 wr) (fun _ i _ => c.lats.length - (intOf i).toNat)
          case atStart => exact ⟨0, Nat.zero_le _, rfl, rfl, HB.out⟩
          case round =>
            clear HB
            obtain ⟨j, hj, rfl, rfl, hbw⟩ := hrel
            have HB := Lib.hid hbw
            clear hbw
            have zl : c.lats.length ≤ 64 := HZ.out.2.1
            obtain ⟨e0, e1, e2, e3, e4, e5, e6, e7⟩ := cells8 (G9.out _ HB.out)
            by_cases hlt : j < c.lats.length
            · obtain ⟨b0, o, hA, -, c0, c1, c2⟩ := LRow.tri (LW.out wr (B1.out.trans (HB.out.mono B1.out.size))).lats hlt
              rw [hA] at e2
              have hx := (Str.own_facts HR.out).2 c.lats[j].a (List.mem_append.2 (.inr (List.mem_append.2 (.inl (List.mem_map_of_mem (List.getElem_mem hlt))))))
              obtain ⟨vi, hvi⟩ : ∃ v : Nat, c.lats[j].a / 2 = (v : Int) := ⟨(c.lats[j].a / 2).toNat, by omega⟩
              have ht : c.lats[j].a.tdiv 2 = (vi : Int) := by rw [Int.tdiv_eq_ediv_of_nonneg (by omega)]; exact hvi
              have hx0 : 0 ≤ c.lats[j].a := by omega
              have hx1 : c.lats[j].a ≤ 9223372036854775807 := by have := HM.out; omega
              have hvb : vi ≤ 2048 := by have := HM.out; omega
              have HSJ : j < st.size := by have := HST.out; omega
              have hgd : st.data.toList.getD j 0 = st[j]'HSJ := by
                have hl : j < st.data.toList.length := by simpa using HSJ
                rw [List.getD_eq_getElem?_getD, List.getElem?_eq_getElem hl, Option.getD_some, Array.getElem_toList]; rfl
              have HN : Hid ((putsV v1 (c.lats.map Tri.a) st j).set vi (st[j]'HSJ) = putsV v1 (c.lats.map Tri.a) st (j + 1)) := by
                unfold Hid
                rw [← hgd]
                show _ = putV (putsV v1 (c.lats.map Tri.a) st j) ((c.lats.map Tri.a).getD j 0) _
                unfold putV
                rw [getD_map_at _ hlt, hvi, Int.toNat_natCast]
              have hvl : vi < (putsV v1 (c.lats.map Tri.a) st j).length := by have := HM.out; have := HL1.out; rw [putsV_len]; omega
              have hvl2 : (putsV v1 (c.lats.map Tri.a) st j).length ≤ 1048576 := by have := HM.out; have := HL1.out; rw [putsV_len]; omega
              have KS := Lib.hid (fun (u : Wd wr.heap.size wr) => Calls.in_wd u (refset_any (putsV v1 (c.lats.map Tri.a) st j) vi (st[j]'HSJ) u.w hvl hvl2) (Nat.le_refl _))
              unfold sv at KS
              rw [HN.out] at KS
              clear hx hvi hvl hvl2 hgd HN hA
              generalize c.lats[j] = x at *
              obtain ⟨s0, hs0⟩ : ∃ q, (⟨(putsV v1 (c.lats.map Tri.a) st j).toArray⟩ : ByteArray) = q := ⟨_, rfl⟩
              rw [hs0] at KS ⊢
              obtain ⟨s1, hs1⟩ : ∃ q, (⟨(putsV v1 (c.lats.map Tri.a) st (j + 1)).toArray⟩ : ByteArray) = q := ⟨_, rfl⟩
              rw [hs1] at KS
              have HS1 := Lib.hid hs1
              clear hs0 hs1
              go_wp2
              have u1 := Wd.cell e2
              have uc := Wd.cell c0
              refine wp_region_wd (by kernel_rfl) (by kernel_rfl) ?_
              repeat (first | go_big_quiet_skip | (go_big_quiet_want; go_big_quiet_op; first | go_big_quiet_on | (apply Exists.intro; refine ⟨fun u => ?_, ?_⟩; (go_at_call 62; with_reducible exact KS.out u); go_big_quiet_on)))
              refine wpQuiet_nil ?_
              intro wz9 hw'
              obtain ⟨⟨_, hb9⟩, hw''⟩ := hw'
              subst hw''
              have BZ : Hid (Below w1.heap.size w1 wz9) := HB.out.trans (hb9.mono HB.out.size)
              clear KS hb9 c0 c1 c2 e0 e1 e2 e3 e4 e5 e6 e7
              go_wp2
              go_roundw
              case rel => exact ⟨j + 1, by omega, by go_num, by rw [HS1.out], BZ.out⟩
              case measure => simp [intOf]; omega
            · obtain rfl : j = c.lats.length := by omega
              obtain ⟨wq, rfl⟩ : ∃ x, x = wr := ⟨_, rfl⟩
              obtain ⟨v2, hv2⟩ : ∃ v, putsV v1 (c.lats.map Tri.a) st c.lats.length = v := ⟨_, rfl⟩
              have HL2 : Hid (v2.length = m + 1) := by unfold Hid; rw [← hv2, putsV_len]; exact HL1.out
              have HVE : Hid (valsM c st inp = gatesV v2 c.ands) := by unfold Hid valsM baseB; rw [HV1.out, hv2]
              rw [hv2]
              clear hv2 HV1
              go_wp2
              clear e0 e1 e2 e3 e4 e5 e6 e7
              go_loopw [8, 12] (fun t i wr => ∃ j : Nat, j ≤ c.ands.length ∧ i = .int .i64 j ∧ t = .string ⟨(gatesV v2 (c.ands.take j)).toArray⟩ ∧ Below w1.heap.size w1 wr) (fun _ i _ => c.ands.length - (intOf i).toNat)
              case atStart => exact ⟨0, Nat.zero_le _, rfl, rfl, HB.out⟩
              case round =>
                clear HB
                obtain ⟨j, hj, rfl, rfl, hbw⟩ := hrel
                have HB := Lib.hid hbw
                clear hbw
                have za : c.ands.length ≤ 4097 := HZ.out.2.2.2.2.2
                obtain ⟨e0, e1, e2, e3, e4, e5, e6, e7⟩ := cells8 (G9.out _ HB.out)
                by_cases hlt : j < c.ands.length
                · obtain ⟨b0, o, hA, -, c0, c1, c2⟩ := LRow.tri (LW.out wr (B1.out.trans (HB.out.mono B1.out.size))).ands hlt
                  rw [hA] at e6
                  have hx := (Str.own_facts HR.out).2 c.ands[j].a (List.mem_append.2 (.inr (List.mem_append.2 (.inr (List.mem_map_of_mem (List.getElem_mem hlt))))))
                  obtain ⟨-, -, k1, k2⟩ := Str.and_at HR.out j hlt
                  have hb1 := Str.lit_bound HR.out k1
                  have hb2 := Str.lit_bound HR.out k2
                  have HGS := Lib.hid (gatesV_snoc v2 c.ands j hlt)
                  obtain ⟨v, hvq⟩ : ∃ v, gatesV v2 (c.ands.take j) = v := ⟨_, rfl⟩
                  have hvl : v.length = m + 1 := by rw [← hvq, gatesV_len]; exact HL2.out
                  rw [hvq] at HGS ⊢
                  obtain ⟨vi, hvi⟩ : ∃ v : Nat, c.ands[j].a / 2 = (v : Int) := ⟨(c.ands[j].a / 2).toNat, by omega⟩
                  have ht : c.ands[j].a.tdiv 2 = (vi : Int) := by rw [Int.tdiv_eq_ediv_of_nonneg (by omega)]; exact hvi
                  have hx0 : 0 ≤ c.ands[j].a := by omega
                  have hx1 : c.ands[j].a ≤ 9223372036854775807 := by have := HM.out; omega
                  have hvb : vi ≤ 2048 := by have := HM.out; omega
                  have Q1 := Lib.hid (fun w => reftrue_any ⟨v.toArray⟩ c.ands[j].b w (by rw [sv_size]; omega) (by have := HM.out; omega))
                  have Q2 := Lib.hid (fun w => reftrue_any ⟨v.toArray⟩ c.ands[j].c w (by rw [sv_size]; omega) (by have := HM.out; omega))
                  rw [show (⟨v.toArray⟩ : ByteArray).data.toList = v from rfl] at Q1 Q2
                  have HGE : Hid (gatesV v2 (c.ands.take (j + 1)) = if trueM v c.ands[j].b && trueM v c.ands[j].c then v.set vi 49 else v) := by
                    have h := HGS.out
                    unfold gateV putV at h
                    rw [hvi, Int.toNat_natCast] at h
                    exact h
                  have KS := Lib.hid (fun w => refset_any v vi 49 w (by have := HM.out; omega) (by omega))
                  unfold sv at KS
                  clear hx k1 k2 hb1 hb2 hvq hvl hvi HGS hA
                  generalize c.ands[j] = t at *
                  generalize trueM v t.b = p1 at *
                  generalize trueM v t.c = p2 at *
                  obtain ⟨v9, hv9⟩ : ∃ x, gatesV v2 (c.ands.take (j + 1)) = x := ⟨_, rfl⟩
                  rw [hv9] at HGE
                  have HV9 := Lib.hid hv9
                  clear hv9
                  cases p1
                  · have HVN : Hid (v = v9) := HGE.out.symm
                    clear HGE
                    go_wp2_with fail
                    refine (Q1.out wr).mono ?_
                    rintro e w' ⟨rfl, rfl⟩
                    go_wp2
                    go_roundw
                    case rel => exact ⟨j + 1, by omega, by go_num, by rw [HV9.out, HVN.out], HB.out⟩
                    case measure => simp [intOf]; omega
                  · cases p2
                    · have HVN : Hid (v = v9) := HGE.out.symm
                      clear HGE
                      go_wp2_with fail
                      refine (Q1.out wr).mono ?_
                      rintro e w' ⟨rfl, rfl⟩
                      go_wp2_with fail
                      refine (Q2.out wr).mono ?_
                      rintro e w' ⟨rfl, rfl⟩
                      go_wp2
                      go_roundw
                      case rel => exact ⟨j + 1, by omega, by go_num, by rw [HV9.out, HVN.out], HB.out⟩
                      case measure => simp [intOf]; omega
                    · have HVN : Hid (v.set vi 49 = v9) := HGE.out.symm
                      rw [HVN.out] at KS
                      clear HGE
                      go_wp2_with fail
                      refine (Q1.out wr).mono ?_
                      rintro e w' ⟨rfl, rfl⟩
                      go_wp2_with fail
                      refine (Q2.out wr).mono ?_
                      rintro e w' ⟨rfl, rfl⟩
                      go_wp2_with fail
                      refine (KS.out wr).mono ?_
                      rintro e wz ⟨rfl, hb⟩
                      have BZ : Hid (Below w1.heap.size w1 wz) := HB.out.trans (hb.mono HB.out.size)
                      clear hb KS e0 e1 e2 e3 e4 e5 e6 e7 c0 c1 c2
                      go_wp2
                      go_roundw
                      case rel => exact ⟨j + 1, by omega, by go_num, by rw [HV9.out], BZ.out⟩
                      case measure => simp [intOf]; omega
                · obtain rfl : j = c.ands.length := by omega
                  rw [List.take_length, ← HVE.out]
                  have BF : Hid (Below w.heap.size w wr) := B1.out.trans (HB.out.mono B1.out.size)
                  go_wp2
                  go_ret2
                  exact ⟨rfl, BF.out⟩
end Go.Proofs.Ytjlnffkieocihaa.Sim
namespace Go.Proofs.Ytjlnffkieocihaa.Sim
open Go.ChangeShapes Go.WideShapes Go.ChangeAt Go.RowKit Go.Maps Circ Cw
open Str

/-- may values be asked? -/
def okB (c : Cir) (st inp : ByteArray) : Bool := bitsM st (c.lats.length : Int) && bitsM inp (c.ins.length : Int)
def vErr (c : Cir) (st inp : ByteArray) : Int := if refOk c = true then (if okB c st inp = true then 0 else 5) else 9
def vStr (c : Cir) (st inp : ByteArray) : List UInt8 := if vErr c st inp = 0 then valsM c st inp else []
theorem err_no {c : Cir} {st inp : ByteArray} (h : refOk c = false) : vErr c st inp = 9 := by unfold vErr; rw [h]; rfl
theorem err_long {c : Cir} {st inp : ByteArray} (h : refOk c = true) (h2 : okB c st inp = false) : vErr c st inp = 5 := by unfold vErr; rw [h, h2]; rfl
theorem err_ok {c : Cir} {st inp : ByteArray} (h : refOk c = true) (h2 : okB c st inp = true) : vErr c st inp = 0 := by unfold vErr; rw [h, h2]; rfl
theorem str_bad {c : Cir} {st inp : ByteArray} (h : vErr c st inp ≠ 0) : vStr c st inp = [] := if_neg h
theorem str_ok {c : Cir} {st inp : ByteArray} (h : vErr c st inp = 0) : vStr c st inp = valsM c st inp := if_pos h
theorem err_is {c : Cir} {st inp : ByteArray} (h : vErr c st inp = 0) : refOk c = true ∧ bitsM st (c.lats.length : Int) = true ∧ bitsM inp (c.ins.length : Int) = true := by
  cases h1 : refOk c with
  | false => rw [err_no h1] at h; exact absurd h (by decide)
  | true =>
    cases h2 : okB c st inp with
    | false => rw [err_long h1 h2] at h; exact absurd h (by decide)
    | true =>
      unfold okB at h2
      rw [Bool.and_eq_true] at h2
      exact ⟨rfl, h2⟩
theorem values_any (c : Cir) (s : Places) (st inp : ByteArray) (w : World) (h : CLies w w.heap.size c s) (hf : CFits c s) :
    Calls Try.prog 21 #[cirV c s, .string st, .string inp] w fun e w' => e = .returned (.tuple #[sv (vStr c st inp), .int .i64 (vErr c st inp)]) ∧ Below w.heap.size w w' := by
  cases h1 : refOk c with
  | false =>
    rw [str_bad (by rw [err_no h1]; decide), err_no h1]
    exact values_no c s st inp w h hf (by rw [chk_same]; exact h1)
  | true =>
    cases h2 : okB c st inp with
    | false =>
      rw [str_bad (by rw [err_long h1 h2]; decide), err_long h1 h2]
      cases hs : bitsM st (c.lats.length : Int) with
      | false => exact values_long1 c s st inp w h hf (by rw [chk_same]; exact h1) hs
      | true =>
        unfold okB at h2
        rw [hs, Bool.true_and] at h2
        exact values_long2 c s st inp w h hf (by rw [chk_same]; exact h1) hs h2
    | true =>
      rw [str_ok (err_ok h1 h2), err_ok h1 h2]
      unfold okB at h2
      rw [Bool.and_eq_true] at h2
      exact values_yes c s st inp w h hf (by rw [chk_same]; exact h1) h2.1 h2.2
theorem refvalues_any (c : Cir) (s : Places) (st inp : ByteArray) (w : World) (h : CLies w w.heap.size c s) (hf : CFits c s) (hzs : st.size ≤ 9223372036854775807) (hzi : inp.size ≤ 9223372036854775807) :
    Calls Try.prog 22 #[cirV c s, .string st, .string inp] w fun e w' => e = .returned (.tuple #[sv (vStr c st inp), .int .i64 (vErr c st inp)]) ∧ Below w.heap.size w w' := by
  cases h1 : refOk c with
  | false =>
    rw [str_bad (by rw [err_no h1]; decide), err_no h1]
    exact refvalues_no c s st inp w h hf hzs hzi h1
  | true =>
    cases h2 : okB c st inp with
    | false =>
      rw [str_bad (by rw [err_long h1 h2]; decide), err_long h1 h2]
      cases hs : bitsM st (c.lats.length : Int) with
      | false => exact refvalues_long1 c s st inp w h hf hzs hzi h1 hs
      | true =>
        unfold okB at h2
        rw [hs, Bool.true_and] at h2
        exact refvalues_long2 c s st inp w h hf hzs hzi h1 hs h2
    | true =>
      rw [str_ok (err_ok h1 h2), err_ok h1 h2]
      unfold okB at h2
      rw [Bool.and_eq_true] at h2
      exact refvalues_yes c s st inp w h hf hzs hzi h1 h2.1 h2.2
end Go.Proofs.Ytjlnffkieocihaa.Sim
namespace Go.Proofs.Ytjlnffkieocihaa.Rep
open Circ Cw Str Sim

structure Wit where
  bad : Int
  state : ByteArray
  inputs : List ByteArray
/-- is a step allowed, of values? -/
def allowedM (c : Cir) (cl : List (List Int)) (v : List UInt8) : Bool := c.invs.all (trueM v) && cl.all (holdsM v)
/-- is a step right, the last one or not? -/
def stepM (c : Cir) (cl : List (List Int)) (bad : Int) (s i : ByteArray) (last : Bool) : Bool := allowedM c cl (valsM c s i) && (!last || trueM (valsM c s i) (c.bads.getD bad.toNat 0))
end Go.Proofs.Ytjlnffkieocihaa.Rep
namespace Go.Proofs.Ytjlnffkieocihaa.Rep
open Go.ChangeShapes Go.WideShapes Go.RowKit Go.Deep Circ Cw

def strs (l : List ByteArray) : List (List Value) := l.map fun s => [.string s]
/-- the texts lie in memory below block B -/
structure SLies (w : World) (B : Nat) (A : Option Addr) (L : List ByteArray) : Prop where
  row : LRow w B 1 A (strs L)
  each : ∀ s ∈ L, s.size ≤ 9223372036854775807
  len : L.length ≤ 9223372036854775807
section
variable {w w' : World} {B B' : Nat} {A : Option Addr} {S : List ByteArray}
theorem SLies.below (h : SLies w B A S) (hb : Below B w w') : SLies w' B A S := ⟨h.row.below hb, h.each, h.len⟩
theorem SLies.more (h : SLies w B A S) (hB : B ≤ B') : SLies w B' A S := ⟨h.row.more hB, h.each, h.len⟩
theorem SLies.at (h : SLies w B A S) {k : Nat} (hk : k < S.length) : ∃ b o, A = some ⟨b, o, none⟩ ∧ b < B ∧ w.cell? ⟨b, o + k, none⟩ = some (.string S[k]) :=
  LRow_one h.row (by unfold strs; simpa using hk) (by unfold strs; rw [List.getElem_map])
end
instance : Inhabited ByteArray := ⟨⟨#[]⟩⟩
section
variable {H : Type} {enc : TypeId × Value → H} {w : World}
end
end Go.Proofs.Ytjlnffkieocihaa.Rep
