/- interlockref07.Values; condition: the circuit lies in memory, texts are as long as Go's may be. sim.Next, First and Initial, and what the pages say of Next; condition: the circuit lies in memory, texts are as long as Go's may be. Paths, gone again: which steps are allowed, which witnesses are right; no program is named here, no condition. A circuit as clauses; no program is named here; condition: the circuit may be. Arguments that are a witness, opened; no condition. -/
import Derived.Test.YtbgcoeejmnejdaaPt29
import Derived.Test.YtbgcoeejmnejdaaPt30
import Derived.Test.YtbgcoeejmnejdaaPt28
import Derived.Test.YtbgcoeejmnejdaaPt02
import Derived.Test.YtbgcoeejmnejdaaPt25
namespace Go.Proofs.Ytbgcoeejmnejdaa.Sim
open Go.ChangeShapes Go.WideShapes Go.ChangeAt Go.RowKit Go.Maps Circ Cw
open Str

theorem getD_at (l : List Int) {j : Nat} (h : j < l.length) : l.getD j 0 = l[j] := by rw [List.getD_eq_getElem?_getD, List.getElem?_eq_getElem h]; rfl
theorem getD_map_at (l : List Tri) {j : Nat} (h : j < l.length) : (l.map Tri.a).getD j 0 = l[j].a := by rw [List.getD_eq_getElem?_getD, List.getElem?_map, List.getElem?_eq_getElem h]; rfl
set_option maxHeartbeats 16000000 in
set_option maxRecDepth 100000 in
theorem refvalues_no (c : Cir) (s : Places) (st inp : ByteArray) (w : World) (h : CLies w w.heap.size c s) (hf : CFits c s) (_hzs : st.size ≤ 9223372036854775807) (_hzi : inp.size ≤ 9223372036854775807) (hc : refOk c = false) :
    Calls Try.prog 22 #[cirV c s, .string st, .string inp] w fun e w' => e = .returned (.tuple #[sv [], .int .i64 9]) ∧ Below w.heap.size w w' := by
  obtain ⟨WA, hWA⟩ : ∃ x, w.alloc (.cells #[.int .i64 c.max, .slice s.ai c.ins.length s.ki, .slice s.al c.lats.length s.kl, .slice s.ao c.outs.length s.ko, .slice s.ab c.bads.length s.kb, .slice s.ac c.invs.length s.kc, .slice s.aa c.ands.length s.ka, .slice s.an c.names.length s.kn] 27) = x := ⟨_, rfl⟩
  have bA : Hid (Below w.heap.size w WA) := by unfold Hid; rw [← hWA]; exact (Below.refl _ _).alloc (Nat.le_refl _) _
  have GA : Hid (WA.heap[w.heap.size]? = some (.cells (cirC c s) 27 (0, 0))) := by unfold Hid; rw [← hWA]; exact Array.getElem?_push_size
  obtain ⟨e0, e1, e2, e3, e4, e5, e6, e7⟩ := cells8 GA.out
  have CK := Lib.hid (refcheck_any c s WA ((h.below bA.out).more bA.out.size) hf)
  rw [refV_no c hc] at CK
  clear h hf hc
  unfold cirV at CK ⊢
  rw [show cirC c s = #[.int .i64 c.max, .slice s.ai c.ins.length s.ki, .slice s.al c.lats.length s.kl, .slice s.ao c.outs.length s.ko, .slice s.ab c.bads.length s.kb, .slice s.ac c.invs.length s.kc, .slice s.aa c.ands.length s.ka, .slice s.an c.names.length s.kn] from rfl] at CK ⊢
  go_enter Try.func22, Try.ntmps22
  go_wp2_with fail
  refine CK.out.mono ?_
  rintro e w1 ⟨rfl, hb⟩
  have B1 : Hid (Below w.heap.size w w1) := bA.out.trans (hb.mono bA.out.size)
  have G1 : Hid (w1.heap[w.heap.size]? = some (.cells (cirC c s) 27 (0, 0))) := (hb.block _ (lt_of_block GA.out)).trans GA.out
  clear e0 e1 e2 e3 e4 e5 e6 e7 hWA CK hb
  go_wp2
  go_ret2
  exact ⟨rfl, B1.out⟩
set_option maxHeartbeats 16000000 in
set_option maxRecDepth 100000 in
theorem refvalues_long1 (c : Cir) (s : Places) (st inp : ByteArray) (w : World) (h : CLies w w.heap.size c s) (hf : CFits c s) (hzs : st.size ≤ 9223372036854775807) (_hzi : inp.size ≤ 9223372036854775807) (hc : refOk c = true) (hs : bitsM st (c.lats.length : Int) = false) :
    Calls Try.prog 22 #[cirV c s, .string st, .string inp] w fun e w' => e = .returned (.tuple #[sv [], .int .i64 5]) ∧ Below w.heap.size w w' := by
  obtain ⟨WA, hWA⟩ : ∃ x, w.alloc (.cells #[.int .i64 c.max, .slice s.ai c.ins.length s.ki, .slice s.al c.lats.length s.kl, .slice s.ao c.outs.length s.ko, .slice s.ab c.bads.length s.kb, .slice s.ac c.invs.length s.kc, .slice s.aa c.ands.length s.ka, .slice s.an c.names.length s.kn] 27) = x := ⟨_, rfl⟩
  have bA : Hid (Below w.heap.size w WA) := by unfold Hid; rw [← hWA]; exact (Below.refl _ _).alloc (Nat.le_refl _) _
  have GA : Hid (WA.heap[w.heap.size]? = some (.cells (cirC c s) 27 (0, 0))) := by unfold Hid; rw [← hWA]; exact Array.getElem?_push_size
  obtain ⟨e0, e1, e2, e3, e4, e5, e6, e7⟩ := cells8 GA.out
  have CK := Lib.hid (refcheck_any c s WA ((h.below bA.out).more bA.out.size) hf)
  rw [refV_yes c hc] at CK
  have T1 : Hid (∀ w, Calls Try.prog 27 #[.string st, .int .i64 (c.lats.length : Int)] w fun e w' => e = .returned (.bool false) ∧ w = w') := fun w => by
    have := refbits_any st c.lats.length w hzs
    rw [hs] at this
    exact this
  clear h hf hc hs
  unfold cirV at CK ⊢
  rw [show cirC c s = #[.int .i64 c.max, .slice s.ai c.ins.length s.ki, .slice s.al c.lats.length s.kl, .slice s.ao c.outs.length s.ko, .slice s.ab c.bads.length s.kb, .slice s.ac c.invs.length s.kc, .slice s.aa c.ands.length s.ka, .slice s.an c.names.length s.kn] from rfl] at CK ⊢
  go_enter Try.func22, Try.ntmps22
  go_wp2_with fail
  refine CK.out.mono ?_
  rintro e w1 ⟨rfl, hb⟩
  have B1 : Hid (Below w.heap.size w w1) := bA.out.trans (hb.mono bA.out.size)
  have G1 : Hid (w1.heap[w.heap.size]? = some (.cells (cirC c s) 27 (0, 0))) := (hb.block _ (lt_of_block GA.out)).trans GA.out
  clear e0 e1 e2 e3 e4 e5 e6 e7 hWA CK hb
  obtain ⟨e0, e1, e2, e3, e4, e5, e6, e7⟩ := cells8 G1.out
  go_wp2_with fail
  refine (T1.out w1).mono ?_
  rintro e w' ⟨rfl, rfl⟩
  clear e0 e1 e2 e3 e4 e5 e6 e7
  go_wp2
  go_ret2
  exact ⟨rfl, B1.out⟩
set_option maxHeartbeats 16000000 in
set_option maxRecDepth 100000 in
theorem refvalues_long2 (c : Cir) (s : Places) (st inp : ByteArray) (w : World) (h : CLies w w.heap.size c s) (hf : CFits c s) (hzs : st.size ≤ 9223372036854775807) (hzi : inp.size ≤ 9223372036854775807) (hc : refOk c = true) (hs : bitsM st (c.lats.length : Int) = true) (hi : bitsM inp (c.ins.length : Int) = false) :
    Calls Try.prog 22 #[cirV c s, .string st, .string inp] w fun e w' => e = .returned (.tuple #[sv [], .int .i64 5]) ∧ Below w.heap.size w w' := by
  obtain ⟨WA, hWA⟩ : ∃ x, w.alloc (.cells #[.int .i64 c.max, .slice s.ai c.ins.length s.ki, .slice s.al c.lats.length s.kl, .slice s.ao c.outs.length s.ko, .slice s.ab c.bads.length s.kb, .slice s.ac c.invs.length s.kc, .slice s.aa c.ands.length s.ka, .slice s.an c.names.length s.kn] 27) = x := ⟨_, rfl⟩
  have bA : Hid (Below w.heap.size w WA) := by unfold Hid; rw [← hWA]; exact (Below.refl _ _).alloc (Nat.le_refl _) _
  have GA : Hid (WA.heap[w.heap.size]? = some (.cells (cirC c s) 27 (0, 0))) := by unfold Hid; rw [← hWA]; exact Array.getElem?_push_size
  obtain ⟨e0, e1, e2, e3, e4, e5, e6, e7⟩ := cells8 GA.out
  have CK := Lib.hid (refcheck_any c s WA ((h.below bA.out).more bA.out.size) hf)
  rw [refV_yes c hc] at CK
  have T1 : Hid (∀ w, Calls Try.prog 27 #[.string st, .int .i64 (c.lats.length : Int)] w fun e w' => e = .returned (.bool true) ∧ w = w') := fun w => by
    have := refbits_any st c.lats.length w hzs
    rw [hs] at this
    exact this
  have T2 : Hid (∀ w, Calls Try.prog 27 #[.string inp, .int .i64 (c.ins.length : Int)] w fun e w' => e = .returned (.bool false) ∧ w = w') := fun w => by
    have := refbits_any inp c.ins.length w hzi
    rw [hi] at this
    exact this
  clear h hf hc hs hi
  unfold cirV at CK ⊢
  rw [show cirC c s = #[.int .i64 c.max, .slice s.ai c.ins.length s.ki, .slice s.al c.lats.length s.kl, .slice s.ao c.outs.length s.ko, .slice s.ab c.bads.length s.kb, .slice s.ac c.invs.length s.kc, .slice s.aa c.ands.length s.ka, .slice s.an c.names.length s.kn] from rfl] at CK ⊢
  go_enter Try.func22, Try.ntmps22
  go_wp2_with fail
  refine CK.out.mono ?_
  rintro e w1 ⟨rfl, hb⟩
  have B1 : Hid (Below w.heap.size w w1) := bA.out.trans (hb.mono bA.out.size)
  have G1 : Hid (w1.heap[w.heap.size]? = some (.cells (cirC c s) 27 (0, 0))) := (hb.block _ (lt_of_block GA.out)).trans GA.out
  clear e0 e1 e2 e3 e4 e5 e6 e7 hWA CK hb
  obtain ⟨e0, e1, e2, e3, e4, e5, e6, e7⟩ := cells8 G1.out
  go_wp2_with fail
  refine (T1.out w1).mono ?_
  rintro e w' ⟨rfl, rfl⟩
  clear e0 e1 e2 e3 e4 e5 e6 e7
  obtain ⟨e0, e1, e2, e3, e4, e5, e6, e7⟩ := cells8 G1.out
  go_wp2_with fail
  refine (T2.out w1).mono ?_
  rintro e w' ⟨rfl, rfl⟩
  clear e0 e1 e2 e3 e4 e5 e6 e7
  go_wp2
  go_ret2
  exact ⟨rfl, B1.out⟩
set_option maxHeartbeats 16000000 in
set_option maxRecDepth 100000 in
theorem refvalues_yes (c : Cir) (s : Places) (st inp : ByteArray) (w : World) (h : CLies w w.heap.size c s) (hf : CFits c s) (hzs : st.size ≤ 9223372036854775807) (hzi : inp.size ≤ 9223372036854775807) (hr : refOk c = true) (hs : bitsM st (c.lats.length : Int) = true) (hi : bitsM inp (c.ins.length : Int) = true) :
    Calls Try.prog 22 #[cirV c s, .string st, .string inp] w fun e w' => e = .returned (.tuple #[sv (valsM c st inp), .int .i64 0]) ∧ Below w.heap.size w w' := by
  obtain ⟨m, hm, hm1⟩ := max_nat hr
  obtain ⟨WA, hWA⟩ : ∃ x, w.alloc (.cells #[.int .i64 c.max, .slice s.ai c.ins.length s.ki, .slice s.al c.lats.length s.kl, .slice s.ao c.outs.length s.ko, .slice s.ab c.bads.length s.kb, .slice s.ac c.invs.length s.kc, .slice s.aa c.ands.length s.ka, .slice s.an c.names.length s.kn] 27) = x := ⟨_, rfl⟩
  have bA : Hid (Below w.heap.size w WA) := by unfold Hid; rw [← hWA]; exact (Below.refl _ _).alloc (Nat.le_refl _) _
  have GA : Hid (WA.heap[w.heap.size]? = some (.cells (cirC c s) 27 (0, 0))) := by unfold Hid; rw [← hWA]; exact Array.getElem?_push_size
  obtain ⟨e0, e1, e2, e3, e4, e5, e6, e7⟩ := cells8 GA.out
  have CK := Lib.hid (refcheck_any c s WA ((h.below bA.out).more bA.out.size) hf)
  rw [refV_yes c hr] at CK
  have T1 : Hid (∀ w, Calls Try.prog 27 #[.string st, .int .i64 (c.lats.length : Int)] w fun e w' => e = .returned (.bool true) ∧ w = w') := fun w => by
    have := refbits_any st c.lats.length w hzs
    rw [hs] at this
    exact this
  have T2 : Hid (∀ w, Calls Try.prog 27 #[.string inp, .int .i64 (c.ins.length : Int)] w fun e w' => e = .returned (.bool true) ∧ w = w') := fun w => by
    have := refbits_any inp c.ins.length w hzi
    rw [hi] at this
    exact this
  have HR := Lib.hid hr
  have HM := Lib.hid hm
  have HZ := Lib.hid (ref_sizes hr)
  have HST := Lib.hid (bits_parts hs).1
  have HIN := Lib.hid (bits_parts hi).1
  have LW : Hid (∀ x, Below w.heap.size w x → CLies x x.heap.size c s) := fun x hx => (h.below hx).more hx.size
  clear h hf hs hi hr hm
  unfold cirV at CK ⊢
  rw [show cirC c s = #[.int .i64 c.max, .slice s.ai c.ins.length s.ki, .slice s.al c.lats.length s.kl, .slice s.ao c.outs.length s.ko, .slice s.ab c.bads.length s.kb, .slice s.ac c.invs.length s.kc, .slice s.aa c.ands.length s.ka, .slice s.an c.names.length s.kn] from rfl] at CK ⊢
  go_enter Try.func22, Try.ntmps22
  go_wp2_with fail
  refine CK.out.mono ?_
  rintro e w1 ⟨rfl, hb⟩
  have B1 : Hid (Below w.heap.size w w1) := bA.out.trans (hb.mono bA.out.size)
  have G1 : Hid (w1.heap[w.heap.size]? = some (.cells (cirC c s) 27 (0, 0))) := (hb.block _ (lt_of_block GA.out)).trans GA.out
  clear e0 e1 e2 e3 e4 e5 e6 e7 hWA CK hb
  obtain ⟨e0, e1, e2, e3, e4, e5, e6, e7⟩ := cells8 G1.out
  go_wp2_with fail
  refine (T1.out w1).mono ?_
  rintro e w' ⟨rfl, rfl⟩
  clear e0 e1 e2 e3 e4 e5 e6 e7
  obtain ⟨e0, e1, e2, e3, e4, e5, e6, e7⟩ := cells8 G1.out
  go_wp2_with fail
  refine (T2.out w1).mono ?_
  rintro e w' ⟨rfl, rfl⟩
  clear e0 e1 e2 e3 e4 e5 e6 e7
  clear T1 T2 GA bA
  have G9 : Hid (∀ x, Below w1.heap.size w1 x → x.heap[w.heap.size]? = some (.cells (cirC c s) 27 (0, 0))) := fun x hx => (hx.block _ (lt_of_block G1.out)).trans G1.out
  have HZV : Hid (zeroV c = List.replicate (m + 1) 48) := by unfold Hid zeroV; rw [HM.out, Int.toNat_natCast]
  have HL0 : Hid ((zeroV c).length = m + 1) := by rw [HZV.out]; exact List.length_replicate
  obtain ⟨e0, e1, e2, e3, e4, e5, e6, e7⟩ := cells8 G1.out
  rw [HM.out] at e0
  go_wp2
  go_loop [8, 9] (fun t i => ∃ j : Nat, j ≤ m + 1 ∧ i = .int .i64 j ∧ t = .string ⟨(List.replicate j (48 : UInt8)).toArray⟩) (fun _ i => m + 1 - (intOf i).toNat)
  case atStart => exact ⟨0, Nat.zero_le _, rfl, rfl⟩
  case round =>
    obtain ⟨j, hj, rfl, rfl⟩ := hrel
    by_cases hlt : j < m + 1
    · have HA : Hid ((⟨(List.replicate j (48 : UInt8)).toArray⟩ : ByteArray) ++ ⟨#[48]⟩ = ⟨(List.replicate (j + 1) (48 : UInt8)).toArray⟩) := by
        unfold Hid
        apply ByteArray.ext
        rw [ByteArray.data_append]
        apply Array.toList_inj.1
        rw [List.replicate_succ']
        simp
      have hsz : (⟨(List.replicate j (48 : UInt8)).toArray⟩ : ByteArray).size ≤ 4096 := by rw [sv_size, List.length_replicate]; omega
      obtain ⟨sj, hsj⟩ : ∃ x, (⟨(List.replicate j (48 : UInt8)).toArray⟩ : ByteArray) = x := ⟨_, rfl⟩
      rw [hsj] at HA hsz ⊢
      have hle : (j : Int) ≤ (m : Int) := by omega
      clear hsj
      go_wp2
      go_round
      case rel => exact ⟨j + 1, by omega, by go_num, by rw [← HA.out]⟩
      case measure => simp [intOf]; omega
    · obtain rfl : j = m + 1 := by omega
      rw [← HZV.out]
      clear e0 e1 e2 e3 e4 e5 e6 e7
      obtain ⟨e0, e1, e2, e3, e4, e5, e6, e7⟩ := cells8 G1.out
      rw [HM.out] at e0
      have hgt : ¬ ((m : Int) + 1 ≤ (m : Int)) := by omega
      go_wp2
      clear e0 e1 e2 e3 e4 e5 e6 e7
      go_loopw [8, 10] (fun t i wr => ∃ j : Nat, j ≤ c.ins.length ∧ i = .int .i64 j ∧ t = .string ⟨(putsV (zeroV c) c.ins inp j).toArray⟩ ∧ Below w1.heap.size w1 wr) (fun _ i _ => c.ins.length - (intOf i).toNat)
      case atStart => exact ⟨0, Nat.zero_le _, rfl, rfl, Below.refl _ _⟩
      case round =>
        obtain ⟨j, hj, rfl, rfl, hbw⟩ := hrel
        have HB := Lib.hid hbw
        clear hbw
        have zi : c.ins.length ≤ 64 := HZ.out.1
        obtain ⟨e0, e1, e2, e3, e4, e5, e6, e7⟩ := cells8 (G9.out _ HB.out)
        by_cases hlt : j < c.ins.length
        · obtain ⟨b0, o, hA, -, hc⟩ := LRow.int (LW.out wr (B1.out.trans (HB.out.mono B1.out.size))).ins hlt
          rw [hA] at e1
          have hx := (Str.own_facts HR.out).2 c.ins[j] (by unfold own; simp)
          obtain ⟨vi, hvi⟩ : ∃ v : Nat, c.ins[j] / 2 = (v : Int) := ⟨(c.ins[j] / 2).toNat, by omega⟩
          have ht : c.ins[j].tdiv 2 = (vi : Int) := by rw [Int.tdiv_eq_ediv_of_nonneg (by omega)]; exact hvi
          have hx0 : 0 ≤ c.ins[j] := by omega
          have hx1 : c.ins[j] ≤ 9223372036854775807 := by have := HM.out; omega
          have hvb : vi ≤ 2048 := by have := HM.out; omega
          have HSJ : j < inp.size := by have := HIN.out; omega
          have hgd : inp.data.toList.getD j 0 = inp[j]'HSJ := by
            have hl : j < inp.data.toList.length := by simpa using HSJ
            rw [List.getD_eq_getElem?_getD, List.getElem?_eq_getElem hl, Option.getD_some, Array.getElem_toList]; rfl
          have HN : Hid ((putsV (zeroV c) c.ins inp j).set vi (inp[j]'HSJ) = putsV (zeroV c) c.ins inp (j + 1)) := by
            unfold Hid
            rw [← hgd]
            show _ = putV (putsV (zeroV c) c.ins inp j) (c.ins.getD j 0) _
            unfold putV
            rw [getD_at _ hlt, hvi, Int.toNat_natCast]
          have hvl : vi < (putsV (zeroV c) c.ins inp j).length := by have := HM.out; have := HL0.out; rw [putsV_len]; omega
          have hvl2 : (putsV (zeroV c) c.ins inp j).length ≤ 1048576 := by have := HM.out; have := HL0.out; rw [putsV_len]; omega
          have KS := Lib.hid (fun (u : Wd wr.heap.size wr) => Calls.in_wd u (refset_any (putsV (zeroV c) c.ins inp j) vi (inp[j]'HSJ) u.w hvl hvl2) (Nat.le_refl _))
          unfold sv at KS
          rw [HN.out] at KS
          clear hx hvi hvl hvl2 hgd HN hA
          generalize c.ins[j] = x at *
          obtain ⟨s0, hs0⟩ : ∃ q, (⟨(putsV (zeroV c) c.ins inp j).toArray⟩ : ByteArray) = q := ⟨_, rfl⟩
          rw [hs0] at KS ⊢
          obtain ⟨s1, hs1⟩ : ∃ q, (⟨(putsV (zeroV c) c.ins inp (j + 1)).toArray⟩ : ByteArray) = q := ⟨_, rfl⟩
          rw [hs1] at KS
          have HS1 := Lib.hid hs1
          clear hs0 hs1
          go_wp2
          have u1 := Wd.cell e1
          have uc := Wd.cell hc
          refine wp_region_wd (by kernel_rfl) (by kernel_rfl) ?_
          repeat (first | go_big_quiet_skip | (go_big_quiet_want; go_big_quiet_op; first | go_big_quiet_on | (apply Exists.intro; refine ⟨fun u => ?_, ?_⟩; (go_at_call 63; with_reducible exact KS.out u); go_big_quiet_on)))
          refine wpQuiet_nil ?_
          intro wz9 hw'
          obtain ⟨⟨_, hb9⟩, hw''⟩ := hw'
          subst hw''
          have BZ : Hid (Below w1.heap.size w1 wz9) := HB.out.trans (hb9.mono HB.out.size)
          clear KS hb9 hc e0 e1 e2 e3 e4 e5 e6 e7
          go_wp2
          go_roundw
          case rel => exact ⟨j + 1, by omega, by go_num, by rw [HS1.out], BZ.out⟩
          case measure => simp [intOf]; omega
        · obtain rfl : j = c.ins.length := by omega
          obtain ⟨wo, rfl⟩ : ∃ x, x = wr := ⟨_, rfl⟩
          obtain ⟨v1, hv1⟩ : ∃ v, putsV (zeroV c) c.ins inp c.ins.length = v := ⟨_, rfl⟩
          have HL1 : Hid (v1.length = m + 1) := by unfold Hid; rw [← hv1, putsV_len]; exact HL0.out
          have HV1 := Lib.hid hv1
          rw [hv1]
          clear hv1
          go_wp2
          clear e0 e1 e2 e3 e4 e5 e6 e7
          go_loopw [8, 11] (fun t i wr => ∃ j : Nat, j ≤ c.lats.length ∧ i = .int .i64 j ∧ t = .string ⟨(putsV v1 (c.lats.map Tri.a) st j).toArray⟩ ∧ Below w1.heap.size w1 wr) (fun _ i _ => c.lats.length - (intOf i).toNat)
          case atStart => exact ⟨0, Nat.zero_le _, rfl, rfl, HB.out⟩
          case round =>
            clear HB
            obtain ⟨j, hj, rfl, rfl, hbw⟩ := hrel
            have HB := Lib.hid hbw
            clear hbw
            have zl : c.lats.length ≤ 64 := HZ.out.2.1
            obtain ⟨e0, e1, e2, e3, e4, e5, e6, e7⟩ := cells8 (G9.out _ HB.out)
            by_cases hlt : j < c.lats.length
            · obtain ⟨b0, o, hA, -, c0, c1, c2⟩ := LRow.tri (LW.out wr (B1.out.trans (HB.out.mono B1.out.size))).lats hlt
              rw [hA] at e2
              have hx := (Str.own_facts HR.out).2 c.lats[j].a (List.mem_append.2 (.inr (List.mem_append.2 (.inl (List.mem_map_of_mem (List.getElem_mem hlt))))))
              obtain ⟨vi, hvi⟩ : ∃ v : Nat, c.lats[j].a / 2 = (v : Int) := ⟨(c.lats[j].a / 2).toNat, by omega⟩
              have ht : c.lats[j].a.tdiv 2 = (vi : Int) := by rw [Int.tdiv_eq_ediv_of_nonneg (by omega)]; exact hvi
              have hx0 : 0 ≤ c.lats[j].a := by omega
              have hx1 : c.lats[j].a ≤ 9223372036854775807 := by have := HM.out; omega
              have hvb : vi ≤ 2048 := by have := HM.out; omega
              have HSJ : j < st.size := by have := HST.out; omega
              have hgd : st.data.toList.getD j 0 = st[j]'HSJ := by
                have hl : j < st.data.toList.length := by simpa using HSJ
                rw [List.getD_eq_getElem?_getD, List.getElem?_eq_getElem hl, Option.getD_some, Array.getElem_toList]; rfl
              have HN : Hid ((putsV v1 (c.lats.map Tri.a) st j).set vi (st[j]'HSJ) = putsV v1 (c.lats.map Tri.a) st (j + 1)) := by
                unfold Hid
                rw [← hgd]
                show _ = putV (putsV v1 (c.lats.map Tri.a) st j) ((c.lats.map Tri.a).getD j 0) _
                unfold putV
                rw [getD_map_at _ hlt, hvi, Int.toNat_natCast]
              have hvl : vi < (putsV v1 (c.lats.map Tri.a) st j).length := by have := HM.out; have := HL1.out; rw [putsV_len]; omega
              have hvl2 : (putsV v1 (c.lats.map Tri.a) st j).length ≤ 1048576 := by have := HM.out; have := HL1.out; rw [putsV_len]; omega
              have KS := Lib.hid (fun (u : Wd wr.heap.size wr) => Calls.in_wd u (refset_any (putsV v1 (c.lats.map Tri.a) st j) vi (st[j]'HSJ) u.w hvl hvl2) (Nat.le_refl _))
              unfold sv at KS
              rw [HN.out] at KS
              clear hx hvi hvl hvl2 hgd HN hA
              generalize c.lats[j] = x at *
              obtain ⟨s0, hs0⟩ : ∃ q, (⟨(putsV v1 (c.lats.map Tri.a) st j).toArray⟩ : ByteArray) = q := ⟨_, rfl⟩
              rw [hs0] at KS ⊢
              obtain ⟨s1, hs1⟩ : ∃ q, (⟨(putsV v1 (c.lats.map Tri.a) st (j + 1)).toArray⟩ : ByteArray) = q := ⟨_, rfl⟩
              rw [hs1] at KS
              have HS1 := Lib.hid hs1
              clear hs0 hs1
              go_wp2
              have u1 := Wd.cell e2
              have uc := Wd.cell c0
              refine wp_region_wd (by kernel_rfl) (by kernel_rfl) ?_
              repeat (first | go_big_quiet_skip | (go_big_quiet_want; go_big_quiet_op; first | go_big_quiet_on | (apply Exists.intro; refine ⟨fun u => ?_, ?_⟩; (go_at_call 63; with_reducible exact KS.out u); go_big_quiet_on)))
              refine wpQuiet_nil ?_
              intro wz9 hw'
              obtain ⟨⟨_, hb9⟩, hw''⟩ := hw'
              subst hw''
              have BZ : Hid (Below w1.heap.size w1 wz9) := HB.out.trans (hb9.mono HB.out.size)
              clear KS hb9 c0 c1 c2 e0 e1 e2 e3 e4 e5 e6 e7
              go_wp2
              go_roundw
              case rel => exact ⟨j + 1, by omega, by go_num, by rw [HS1.out], BZ.out⟩
              case measure => simp [intOf]; omega
            · obtain rfl : j = c.lats.length := by omega
              obtain ⟨wq, rfl⟩ : ∃ x, x = wr := ⟨_, rfl⟩
              obtain ⟨v2, hv2⟩ : ∃ v, putsV v1 (c.lats.map Tri.a) st c.lats.length = v := ⟨_, rfl⟩
              have HL2 : Hid (v2.length = m + 1) := by unfold Hid; rw [← hv2, putsV_len]; exact HL1.out
              have HVE : Hid (valsM c st inp = gatesV v2 c.ands) := by unfold Hid valsM baseB; rw [HV1.out, hv2]
              rw [hv2]
              clear hv2 HV1
              go_wp2
              clear e0 e1 e2 e3 e4 e5 e6 e7
              go_loopw [8, 12] (fun t i wr => ∃ j : Nat, j ≤ c.ands.length ∧ i = .int .i64 j ∧ t = .string ⟨(gatesV v2 (c.ands.take j)).toArray⟩ ∧ Below w1.heap.size w1 wr) (fun _ i _ => c.ands.length - (intOf i).toNat)
              case atStart => exact ⟨0, Nat.zero_le _, rfl, rfl, HB.out⟩
              case round =>
                clear HB
                obtain ⟨j, hj, rfl, rfl, hbw⟩ := hrel
                have HB := Lib.hid hbw
                clear hbw
                have za : c.ands.length ≤ 4097 := HZ.out.2.2.2.2.2
                obtain ⟨e0, e1, e2, e3, e4, e5, e6, e7⟩ := cells8 (G9.out _ HB.out)
                by_cases hlt : j < c.ands.length
                · obtain ⟨b0, o, hA, -, c0, c1, c2⟩ := LRow.tri (LW.out wr (B1.out.trans (HB.out.mono B1.out.size))).ands hlt
                  rw [hA] at e6
                  have hx := (Str.own_facts HR.out).2 c.ands[j].a (List.mem_append.2 (.inr (List.mem_append.2 (.inr (List.mem_map_of_mem (List.getElem_mem hlt))))))
                  obtain ⟨-, -, k1, k2⟩ := Str.and_at HR.out j hlt
                  have hb1 := Str.lit_bound HR.out k1
                  have hb2 := Str.lit_bound HR.out k2
                  have HGS := Lib.hid (gatesV_snoc v2 c.ands j hlt)
                  obtain ⟨v, hvq⟩ : ∃ v, gatesV v2 (c.ands.take j) = v := ⟨_, rfl⟩
                  have hvl : v.length = m + 1 := by rw [← hvq, gatesV_len]; exact HL2.out
                  rw [hvq] at HGS ⊢
                  obtain ⟨vi, hvi⟩ : ∃ v : Nat, c.ands[j].a / 2 = (v : Int) := ⟨(c.ands[j].a / 2).toNat, by omega⟩
                  have ht : c.ands[j].a.tdiv 2 = (vi : Int) := by rw [Int.tdiv_eq_ediv_of_nonneg (by omega)]; exact hvi
                  have hx0 : 0 ≤ c.ands[j].a := by omega
                  have hx1 : c.ands[j].a ≤ 9223372036854775807 := by have := HM.out; omega
                  have hvb : vi ≤ 2048 := by have := HM.out; omega
                  have Q1 := Lib.hid (fun w => reftrue_any ⟨v.toArray⟩ c.ands[j].b w (by rw [sv_size]; omega) (by have := HM.out; omega))
                  have Q2 := Lib.hid (fun w => reftrue_any ⟨v.toArray⟩ c.ands[j].c w (by rw [sv_size]; omega) (by have := HM.out; omega))
                  rw [show (⟨v.toArray⟩ : ByteArray).data.toList = v from rfl] at Q1 Q2
                  have HGE : Hid (gatesV v2 (c.ands.take (j + 1)) = if trueM v c.ands[j].b && trueM v c.ands[j].c then v.set vi 49 else v) := by
                    have h := HGS.out
                    unfold gateV putV at h
                    rw [hvi, Int.toNat_natCast] at h
                    exact h
                  have KS := Lib.hid (fun w => refset_any v vi 49 w (by have := HM.out; omega) (by omega))
                  unfold sv at KS
                  clear hx k1 k2 hb1 hb2 hvq hvl hvi HGS hA
                  generalize c.ands[j] = t at *
                  generalize trueM v t.b = p1 at *
                  generalize trueM v t.c = p2 at *
                  obtain ⟨v9, hv9⟩ : ∃ x, gatesV v2 (c.ands.take (j + 1)) = x := ⟨_, rfl⟩
                  rw [hv9] at HGE
                  have HV9 := Lib.hid hv9
                  clear hv9
                  cases p1
                  · have HVN : Hid (v = v9) := HGE.out.symm
                    clear HGE
                    go_wp2_with fail
                    refine (Q1.out wr).mono ?_
                    rintro e w' ⟨rfl, rfl⟩
                    go_wp2
                    go_roundw
                    case rel => exact ⟨j + 1, by omega, by go_num, by rw [HV9.out, HVN.out], HB.out⟩
                    case measure => simp [intOf]; omega
                  · cases p2
                    · have HVN : Hid (v = v9) := HGE.out.symm
                      clear HGE
                      go_wp2_with fail
                      refine (Q1.out wr).mono ?_
                      rintro e w' ⟨rfl, rfl⟩
                      go_wp2_with fail
                      refine (Q2.out wr).mono ?_
                      rintro e w' ⟨rfl, rfl⟩
                      go_wp2
                      go_roundw
                      case rel => exact ⟨j + 1, by omega, by go_num, by rw [HV9.out, HVN.out], HB.out⟩
                      case measure => simp [intOf]; omega
                    · have HVN : Hid (v.set vi 49 = v9) := HGE.out.symm
                      rw [HVN.out] at KS
                      clear HGE
                      go_wp2_with fail
                      refine (Q1.out wr).mono ?_
                      rintro e w' ⟨rfl, rfl⟩
                      go_wp2_with fail
                      refine (Q2.out wr).mono ?_
                      rintro e w' ⟨rfl, rfl⟩
                      go_wp2_with fail
                      refine (KS.out wr).mono ?_
                      rintro e wz ⟨rfl, hb⟩
                      have BZ : Hid (Below w1.heap.size w1 wz) := HB.out.trans (hb.mono HB.out.size)
                      clear hb KS e0 e1 e2 e3 e4 e5 e6 e7 c0 c1 c2
                      go_wp2
                      go_roundw
                      case rel => exact ⟨j + 1, by omega, by go_num, by rw [HV9.out], BZ.out⟩
                      case measure => simp [intOf]; omega
                · obtain rfl : j = c.ands.length := by omega
                  rw [List.take_length, ← HVE.out]
                  have BF : Hid (Below w.heap.size w wr) := B1.out.trans (HB.out.mono B1.out.size)
                  go_wp2
                  go_ret2
                  exact ⟨rfl, BF.out⟩
end Go.Proofs.Ytbgcoeejmnejdaa.Sim
namespace Go.Proofs.Ytbgcoeejmnejdaa.Sim
open Go.ChangeShapes Go.WideShapes Go.ChangeAt Go.RowKit Go.Maps Circ Cw
open Str

/-- may values be asked? -/
def okB (c : Cir) (st inp : ByteArray) : Bool := bitsM st (c.lats.length : Int) && bitsM inp (c.ins.length : Int)
def vErr (c : Cir) (st inp : ByteArray) : Int := if refOk c = true then (if okB c st inp = true then 0 else 5) else 9
def vStr (c : Cir) (st inp : ByteArray) : List UInt8 := if vErr c st inp = 0 then valsM c st inp else []
theorem err_no {c : Cir} {st inp : ByteArray} (h : refOk c = false) : vErr c st inp = 9 := by unfold vErr; rw [h]; rfl
theorem err_long {c : Cir} {st inp : ByteArray} (h : refOk c = true) (h2 : okB c st inp = false) : vErr c st inp = 5 := by unfold vErr; rw [h, h2]; rfl
theorem err_ok {c : Cir} {st inp : ByteArray} (h : refOk c = true) (h2 : okB c st inp = true) : vErr c st inp = 0 := by unfold vErr; rw [h, h2]; rfl
theorem str_bad {c : Cir} {st inp : ByteArray} (h : vErr c st inp ≠ 0) : vStr c st inp = [] := if_neg h
theorem str_ok {c : Cir} {st inp : ByteArray} (h : vErr c st inp = 0) : vStr c st inp = valsM c st inp := if_pos h
theorem err_is {c : Cir} {st inp : ByteArray} (h : vErr c st inp = 0) : refOk c = true ∧ bitsM st (c.lats.length : Int) = true ∧ bitsM inp (c.ins.length : Int) = true := by
  cases h1 : refOk c with
  | false => rw [err_no h1] at h; exact absurd h (by decide)
  | true =>
    cases h2 : okB c st inp with
    | false => rw [err_long h1 h2] at h; exact absurd h (by decide)
    | true =>
      unfold okB at h2
      rw [Bool.and_eq_true] at h2
      exact ⟨rfl, h2⟩
theorem values_any (c : Cir) (s : Places) (st inp : ByteArray) (w : World) (h : CLies w w.heap.size c s) (hf : CFits c s) :
    Calls Try.prog 21 #[cirV c s, .string st, .string inp] w fun e w' => e = .returned (.tuple #[sv (vStr c st inp), .int .i64 (vErr c st inp)]) ∧ Below w.heap.size w w' := by
  cases h1 : refOk c with
  | false =>
    rw [str_bad (by rw [err_no h1]; decide), err_no h1]
    exact values_no c s st inp w h hf (by rw [chk_same]; exact h1)
  | true =>
    cases h2 : okB c st inp with
    | false =>
      rw [str_bad (by rw [err_long h1 h2]; decide), err_long h1 h2]
      cases hs : bitsM st (c.lats.length : Int) with
      | false => exact values_long1 c s st inp w h hf (by rw [chk_same]; exact h1) hs
      | true =>
        unfold okB at h2
        rw [hs, Bool.true_and] at h2
        exact values_long2 c s st inp w h hf (by rw [chk_same]; exact h1) hs h2
    | true =>
      rw [str_ok (err_ok h1 h2), err_ok h1 h2]
      unfold okB at h2
      rw [Bool.and_eq_true] at h2
      exact values_yes c s st inp w h hf (by rw [chk_same]; exact h1) h2.1 h2.2
theorem refvalues_any (c : Cir) (s : Places) (st inp : ByteArray) (w : World) (h : CLies w w.heap.size c s) (hf : CFits c s) (hzs : st.size ≤ 9223372036854775807) (hzi : inp.size ≤ 9223372036854775807) :
    Calls Try.prog 22 #[cirV c s, .string st, .string inp] w fun e w' => e = .returned (.tuple #[sv (vStr c st inp), .int .i64 (vErr c st inp)]) ∧ Below w.heap.size w w' := by
  cases h1 : refOk c with
  | false =>
    rw [str_bad (by rw [err_no h1]; decide), err_no h1]
    exact refvalues_no c s st inp w h hf hzs hzi h1
  | true =>
    cases h2 : okB c st inp with
    | false =>
      rw [str_bad (by rw [err_long h1 h2]; decide), err_long h1 h2]
      cases hs : bitsM st (c.lats.length : Int) with
      | false => exact refvalues_long1 c s st inp w h hf hzs hzi h1 hs
      | true =>
        unfold okB at h2
        rw [hs, Bool.true_and] at h2
        exact refvalues_long2 c s st inp w h hf hzs hzi h1 hs h2
    | true =>
      rw [str_ok (err_ok h1 h2), err_ok h1 h2]
      unfold okB at h2
      rw [Bool.and_eq_true] at h2
      exact refvalues_yes c s st inp w h hf hzs hzi h1 h2.1 h2.2
theorem lat_at (c : Cir) {i : Nat} (h : i < c.lats.length) : c.lats.getD i ⟨0, 0, 0⟩ = c.lats[i] := by rw [List.getD_eq_getElem?_getD, List.getElem?_eq_getElem h]; rfl
end Go.Proofs.Ytbgcoeejmnejdaa.Sim
namespace Go.Proofs.Ytbgcoeejmnejdaa.Rep
open Circ Cw Str Sim

structure Wit where
  bad : Int
  state : ByteArray
  inputs : List ByteArray
/-- is a step allowed, of values? -/
def allowedM (c : Cir) (cl : List (List Int)) (v : List UInt8) : Bool := c.invs.all (trueM v) && cl.all (holdsM v)
/-- is a step right, the last one or not? -/
def stepM (c : Cir) (cl : List (List Int)) (bad : Int) (s i : ByteArray) (last : Bool) : Bool := allowedM c cl (valsM c s i) && (!last || trueM (valsM c s i) (c.bads.getD bad.toNat 0))
/-- might a latch be so at first? -/
def initB (t : Tri) (x : UInt8) : Bool := decide (t.c = t.a) || (decide (t.c = 1) == decide (x.toNat = 49))
/-- might a state be a first one? -/
def initM (c : Cir) (s : ByteArray) : Bool := bitsM s (c.lats.length : Int) && (List.range c.lats.length).all fun i => initB (c.lats.getD i ⟨0, 0, 0⟩) (s.data.toList.getD i 0)
end Go.Proofs.Ytbgcoeejmnejdaa.Rep
namespace Go.Proofs.Ytbgcoeejmnejdaa.Tse
open Circ Cw Str Sim Rep Cla

/-- a base, a literal, as they count -/
def baseT (b : Int) : Int := if b < 0 then 0 else if 262144 < b then 0 else b
def capT (l : Int) : Int := if l < 0 then 0 else if 4097 < l then 4097 else l
/-- a circuit's literal from a base, as a clause's -/
def litT (b l : Int) : Int := if capT l % 2 = 1 then -(baseT b + capT l / 2 + 1) else baseT b + capT l / 2 + 1
/-- is a variable 0, or nothing? -/
def freeT (c : Cir) (v : Int) : Bool := decide (v = 0) || (kindOf c v).toList.isEmpty
def andT (b : Int) (t : Tri) : List (List Int) := [[-litT b t.a, litT b t.b], [-litT b t.a, litT b t.c], [litT b t.a, -litT b t.b, -litT b t.c]]
/-- a circuit's clauses -/
def gatesT (c : Cir) (b : Int) : List (List Int) := (((List.range (c.max + 1).toNat).filter fun (v : Nat) => freeT c (v : Int)).map fun (v : Nat) => [-(b + (v : Int) + 1)]) ++ c.ands.flatMap (andT b)
/-- what is forced -/
def forceT (c : Cir) (L : List (List Int)) (b : Int) : List (List Int) := (c.invs.map fun l => [litT b l]) ++ L.map fun l => l.map (litT b)
theorem base_zero : baseT 0 = 0 := rfl
theorem cap_is {l : Int} (h0 : 0 ≤ l) (h1 : l / 2 ≤ 2048) : capT l = l := by
  unfold capT
  rw [if_neg (by omega), if_neg (by omega)]
theorem is_pos {w : ByteArray} {n : Nat} (hn : n < w.size) (_hz : w.size ≤ 4096) : isM w ((n : Int) + 1) = decide (w.data.toList[n]? = some 49) := by
  have a1 : absW ((n : Int) + 1) = (n : Int) + 1 := by unfold absW negW; split <;> split <;> omega
  have hl : n < w.data.toList.length := by simpa using hn
  unfold isM
  rw [a1, decide_eq_true (by omega), decide_eq_true (show (n : Int) + 1 ≤ (w.size : Int) by omega), decide_eq_true (show (0 : Int) < (n : Int) + 1 by omega), Bool.true_and, Bool.true_and]
  rw [show ((n : Int) + 1 - 1).toNat = n by omega, List.getD_eq_getElem?_getD, List.getElem?_eq_getElem hl]
  rw [Bool.eq_iff_iff, beq_iff_eq, decide_eq_true_eq, decide_eq_true_eq]
  show (w.data.toList[n]).toNat = 49 ↔ _
  rw [Option.some.injEq]
  constructor
  · intro h; exact UInt8.toNat_inj.1 h
  · intro h; rw [h]; rfl
theorem is_neg {w : ByteArray} {n : Nat} (hn : n < w.size) (hz : w.size ≤ 4096) : isM w (-((n : Int) + 1)) = !decide (w.data.toList[n]? = some 49) := by
  rw [is_both (by omega) (by omega) (by omega), is_pos hn hz]
theorem true_at {v : List UInt8} {l : Int} (h : 0 ≤ l) : trueM v l = (decide (v[(l / 2).toNat]? = some 49) != decide (l % 2 = 1)) := by
  unfold trueM
  rw [cnt_pos l h]
theorem lit_true {w : ByteArray} {l : Int} (h0 : 0 ≤ l) (h1 : l / 2 < (w.size : Int)) (hz : w.size ≤ 2049) : isM w (litT 0 l) = trueM w.data.toList l := by
  obtain ⟨n, hn⟩ : ∃ n : Nat, l / 2 = (n : Int) := ⟨(l / 2).toNat, by omega⟩
  unfold litT
  rw [base_zero, cap_is h0 (by omega), true_at h0, hn, Int.toNat_natCast]
  by_cases hp : l % 2 = 1
  · rw [if_pos hp, decide_eq_true hp, show -(0 + (n : Int) + 1) = -((n : Int) + 1) by omega, is_neg (by omega) (by omega)]
    cases decide (w.data.toList[n]? = some 49) <;> rfl
  · rw [if_neg hp, decide_eq_false hp, show (0 + (n : Int) + 1) = (n : Int) + 1 by omega, is_pos (by omega) (by omega)]
    cases decide (w.data.toList[n]? = some 49) <;> rfl
theorem lit_not {w : ByteArray} {l : Int} (h0 : 0 ≤ l) (h1 : l / 2 < (w.size : Int)) (hz : w.size ≤ 2049) : isM w (-litT 0 l) = !trueM w.data.toList l := by
  obtain ⟨n, hn⟩ : ∃ n : Nat, l / 2 = (n : Int) := ⟨(l / 2).toNat, by omega⟩
  unfold litT
  rw [base_zero, cap_is h0 (by omega), true_at h0, hn, Int.toNat_natCast]
  by_cases hp : l % 2 = 1
  · rw [if_pos hp, decide_eq_true hp, show - -(0 + (n : Int) + 1) = (n : Int) + 1 by omega, is_pos (by omega) (by omega)]
    cases decide (w.data.toList[n]? = some 49) <;> rfl
  · rw [if_neg hp, decide_eq_false hp, show -(0 + (n : Int) + 1) = -((n : Int) + 1) by omega, is_neg (by omega) (by omega)]
    cases decide (w.data.toList[n]? = some 49) <;> rfl
section
variable {c : Cir}
theorem known_max (hr : refOk c = true) {l : Int} (h : knownL c l = true) : 0 ≤ l ∧ l / 2 ≤ c.max := by
  have := lit_bound hr h
  omega
theorem and_facts (hr : refOk c = true) {t : Tri} (ht : t ∈ c.ands) : (0 ≤ t.b ∧ t.b < t.a) ∧ (0 ≤ t.c ∧ t.c < t.a) ∧ 2 ≤ t.a ∧ t.a % 2 = 0 ∧ t.a / 2 ≤ c.max := by
  obtain ⟨k, hk, rfl⟩ := List.getElem_of_mem ht
  obtain ⟨h1, h2, h3, h4⟩ := and_at hr k hk
  have h5 := (own_facts hr).2 c.ands[k].a (List.mem_append.2 (.inr (List.mem_append.2 (.inr (List.mem_map_of_mem ht)))))
  have h6 := known_max hr h3
  have h7 := known_max hr h4
  omega
/-- what the clauses of a gate ask -/
theorem and_all {w : ByteArray} {t : Tri} (hz : w.size ≤ 2049) (ha : 0 ≤ t.a ∧ t.a / 2 < (w.size : Int)) (hb : 0 ≤ t.b ∧ t.b / 2 < (w.size : Int)) (hc : 0 ≤ t.c ∧ t.c / 2 < (w.size : Int)) : (andT 0 t).all (oneM w) = (trueM w.data.toList t.a == (trueM w.data.toList t.b && trueM w.data.toList t.c)) := by
  unfold andT oneM
  simp only [List.all_cons, List.all_nil, List.any_cons, List.any_nil, Bool.or_false, Bool.and_true]
  rw [lit_not ha.1 ha.2 hz, lit_true hb.1 hb.2 hz, lit_true hc.1 hc.2 hz, lit_true ha.1 ha.2 hz, lit_not hb.1 hb.2 hz, lit_not hc.1 hc.2 hz]
  cases trueM w.data.toList t.a <;> cases trueM w.data.toList t.b <;> cases trueM w.data.toList t.c <;> rfl
theorem free_off (st inp : ByteArray) (hr : refOk c = true) {n : Nat} (hf : freeT c (n : Int) = true) : bitV (valsM c st inp) (n : Int) = false := by
  unfold freeT at hf
  rw [Bool.or_eq_true, decide_eq_true_eq] at hf
  rcases hf with h | h
  · have := vals_zero (c := c) st inp hr
    rw [true_bit _ (Int.le_refl 0)] at this
    have h0 : n = 0 := by omega
    subst h0
    unfold bitM at this
    have e : (0 : Int) / 2 = 0 := by decide
    simpa [bitM] using this
  · rw [kind_known, Bool.not_eq_true'] at h
    unfold knownV at h
    simp only [Bool.or_eq_false_iff, decide_eq_false_iff_not] at h
    have hin : ∀ x ∈ own c, x / 2 ≠ (n : Int) := fun x hx e => by
      have h0 := (own_facts hr).2 x hx
      have hv : ∀ (L : List Int), x ∈ L → hasVar L (n : Int) = true := fun L hL => by
        unfold hasVar; rw [List.any_eq_true]; exact ⟨x, hL, by simp [e]; omega⟩
      rcases List.mem_append.1 hx with hx | hx
      · have := hv _ hx; simp_all
      · rcases List.mem_append.1 hx with hx | hx
        · have := hv _ hx; unfold hasTri at h; simp_all
        · have := hv _ hx; unfold hasTri at h; simp_all
    rw [vals_eval st inp hr n (by omega), eval_other _ _ _ (fun u hu => hin _ (List.mem_append.2 (.inr (List.mem_append.2 (.inr (List.mem_map_of_mem hu)))))), base_bit st inp hr n (by omega) (fun x hx => hin x (List.mem_append.2 (.inl hx))) (fun x hx => hin x (List.mem_append.2 (.inr (List.mem_append.2 (.inl hx)))))]
/-- a literal beyond a list of octets makes no clause true: what is below does -/
theorem vals_small (st inp : ByteArray) (hr : refOk c = true) : ((valsM c st inp).length : Int) = c.max + 1 ∧ (valsM c st inp).length ≤ 2049 := by
  obtain ⟨m, hm, hm1⟩ := max_nat hr
  rw [vals_len, hm]
  simp
  omega
/-- WHAT MAKES A CIRCUIT'S CLAUSES TRUE, with its inputs and latches as they are, is its values, and these do -/
theorem gates_iff (st inp : ByteArray) (hr : refOk c = true) (hs : bitsM st (c.lats.length : Int) = true) (hi : bitsM inp (c.ins.length : Int) = true) (w : ByteArray) (hl : w.size = (valsM c st inp).length) (hb : ∀ x ∈ w.data.toList, isB x)
    (hk : ∀ n : Nat, n < w.size → freeT c (n : Int) = false → (∀ t ∈ c.ands, t.a / 2 ≠ (n : Int)) → w.data.toList[n]? = (valsM c st inp)[n]?) : (gatesT c 0).all (oneM w) = decide (w.data.toList = valsM c st inp) := by
  obtain ⟨hm, hm2⟩ := vals_small st inp hr
  have hz : w.size ≤ 2049 := by omega
  have hwl : w.data.toList.length = w.size := by simp
  have ge : (gatesT c 0).all (oneM w) = ((((List.range (c.max + 1).toNat).filter fun (v : Nat) => freeT c (v : Int)).all fun (v : Nat) => oneM w [-((v : Int) + 1)]) && c.ands.all fun t => (andT 0 t).all (oneM w)) := by
    unfold gatesT
    rw [List.all_append, List.all_map, List.all_flatMap]
    congr 1
    congr 1
    funext v
    show oneM w [-(0 + (v : Int) + 1)] = _
    rw [show (0 + (v : Int) + 1) = (v : Int) + 1 by omega]
  rw [ge, Bool.eq_iff_iff, Bool.and_eq_true, List.all_eq_true, List.all_eq_true, decide_eq_true_eq]
  have one_neg : ∀ v : Nat, v < w.size → oneM w [-((v : Int) + 1)] = !decide (w.data.toList[v]? = some 49) := fun v hv => by
    unfold oneM
    simp only [List.any_cons, List.any_nil, Bool.or_false]
    exact is_neg hv (by omega)
  have in_len : ∀ {x : Int}, 0 ≤ x ∧ x / 2 ≤ c.max → 0 ≤ x ∧ x / 2 < (w.size : Int) := fun h => by omega
  have andE : ∀ t ∈ c.ands, (andT 0 t).all (oneM w) = (trueM w.data.toList t.a == (trueM w.data.toList t.b && trueM w.data.toList t.c)) := fun t ht => by
    obtain ⟨h1, h2, h3, h4, h5⟩ := and_facts hr ht
    exact and_all hz (in_len (by omega)) (in_len (by omega)) (in_len (by omega))
  constructor
  · rintro ⟨h1, h2⟩
    have key : ∀ n : Nat, n < w.size → w.data.toList[n]? = (valsM c st inp)[n]? := by
      intro n
      induction n using Nat.strongRecOn with
      | _ n ih =>
        intro hn
        have vb : ∀ {x : UInt8}, (valsM c st inp)[n]? = some x → isB x := fun hx => vals_bits hs hi _ (List.mem_of_getElem? hx)
        obtain ⟨x, hx⟩ : ∃ x, w.data.toList[n]? = some x := ⟨w.data.toList[n]'(by omega), List.getElem?_eq_getElem (by omega)⟩
        obtain ⟨y, hy⟩ : ∃ y, (valsM c st inp)[n]? = some y := ⟨(valsM c st inp)[n]'(by omega), List.getElem?_eq_getElem (by omega)⟩
        have xb := hb x (List.mem_of_getElem? hx)
        have yb := vb hy
        -- two bits are one where they are 49 alike
        have fin : (w.data.toList[n]? = some 49 ↔ (valsM c st inp)[n]? = some 49) → w.data.toList[n]? = (valsM c st inp)[n]? := fun h => by
          rw [hx, hy] at h ⊢
          rcases xb with rfl | rfl <;> rcases yb with rfl | rfl
          · rfl
          · exact absurd (h.2 rfl) (by decide)
          · exact absurd (h.1 rfl) (by decide)
          · rfl
        cases hf : freeT c (n : Int) with
        | true =>
          have hw := h1 n (List.mem_filter.2 ⟨List.mem_range.2 (by omega), hf⟩)
          rw [one_neg n hn, Bool.not_eq_true', decide_eq_false_iff_not] at hw
          have hv := free_off st inp hr hf
          unfold bitV at hv
          rw [Int.toNat_natCast, decide_eq_false_iff_not] at hv
          exact fin ⟨fun h => absurd h hw, fun h => absurd h hv⟩
        | false =>
          by_cases ha : ∃ t ∈ c.ands, t.a / 2 = (n : Int)
          · obtain ⟨t, ht, hn2⟩ := ha
            obtain ⟨f1, f2, f3, f4, f5⟩ := and_facts hr ht
            have hw := h2 t ht
            rw [andE t ht, beq_iff_eq] at hw
            have hv := vals_and st inp hr ht
            have low : ∀ x : Int, 0 ≤ x → x < t.a → trueM w.data.toList x = trueM (valsM c st inp) x := fun x h0 hx => by
              rw [true_at h0, true_at h0, ih (x / 2).toNat (by omega) (by omega)]
            rw [low _ f1.1 f1.2, low _ f2.1 f2.2, ← hv] at hw
            rw [true_at (by omega), true_at (by omega), hn2, Int.toNat_natCast, decide_eq_false (show ¬ t.a % 2 = 1 by omega)] at hw
            refine fin ?_
            have hw' : decide (w.data.toList[n]? = some 49) = decide ((valsM c st inp)[n]? = some 49) := by simpa using hw
            constructor
            · intro h; rw [decide_eq_true h] at hw'; exact of_decide_eq_true hw'.symm
            · intro h; rw [decide_eq_true h] at hw'; exact of_decide_eq_true hw'
          · exact hk n hn hf (fun t ht e => ha ⟨t, ht, e⟩)
    apply List.ext_getElem?
    intro i
    by_cases h : i < w.size
    · exact key i h
    · rw [List.getElem?_eq_none (by omega), List.getElem?_eq_none (by omega)]
  · intro he
    refine ⟨fun v hv => ?_, fun t ht => ?_⟩
    · obtain ⟨hv1, hv2⟩ := List.mem_filter.1 hv
      have hvs : v < w.size := by have := List.mem_range.1 hv1; omega
      rw [one_neg v hvs, he]
      have := free_off st inp hr hv2
      unfold bitV at this
      rw [Int.toNat_natCast] at this
      rw [this]; rfl
    · rw [andE t ht, he, vals_and st inp hr ht]
      simp
/-- what is forced is true of values just if the step is allowed -/
theorem force_iff (st inp : ByteArray) (hr : refOk c = true) (L : List (List Int)) (hL : ∀ l ∈ L, ∀ x ∈ l, 0 ≤ x ∧ x / 2 ≤ c.max) (v : ByteArray) (hv : v.data.toList = valsM c st inp) : (forceT c L 0).all (oneM v) = allowedM c L (valsM c st inp) := by
  obtain ⟨hm, hm2⟩ := vals_small st inp hr
  have hz : v.size = (valsM c st inp).length := by rw [← hv]; simp
  have h1 : ∀ x : Int, 0 ≤ x ∧ x / 2 ≤ c.max → isM v (litT 0 x) = trueM (valsM c st inp) x := fun x h => by
    rw [lit_true h.1 (by omega) (by omega), hv]
  have hinv : ∀ x ∈ c.invs, 0 ≤ x ∧ x / 2 ≤ c.max := fun x hx => by
    have := (ref_parts hr).2.2.2.2.2.2
    unfold allKnown at this
    rw [Bool.and_eq_true] at this
    exact known_max hr (List.all_eq_true.1 this.1 x hx)
  unfold forceT allowedM
  rw [List.all_append, List.all_map, List.all_map]
  have e1 : c.invs.all (oneM v ∘ fun l => [litT 0 l]) = c.invs.all (trueM (valsM c st inp)) := by
    rw [Bool.eq_iff_iff, List.all_eq_true, List.all_eq_true]
    have p : ∀ x ∈ c.invs, (oneM v ∘ fun l => [litT 0 l]) x = trueM (valsM c st inp) x := fun x hx => by
      show oneM v [litT 0 x] = _
      unfold oneM
      simp only [List.any_cons, List.any_nil, Bool.or_false]
      exact h1 x (hinv x hx)
    exact ⟨fun h x hx => by rw [← p x hx]; exact h x hx, fun h x hx => by rw [p x hx]; exact h x hx⟩
  have e2 : L.all (oneM v ∘ fun l => l.map (litT 0)) = L.all (holdsM (valsM c st inp)) := by
    rw [Bool.eq_iff_iff, List.all_eq_true, List.all_eq_true]
    have p : ∀ l ∈ L, (oneM v ∘ fun l => l.map (litT 0)) l = holdsM (valsM c st inp) l := fun l hl => by
      show oneM v (l.map (litT 0)) = _
      unfold oneM holdsM
      rw [List.any_map, Bool.eq_iff_iff, List.any_eq_true, List.any_eq_true]
      constructor
      · rintro ⟨x, hx, h⟩; exact ⟨x, hx, by rw [← h1 x (hL l hl x hx)]; exact h⟩
      · rintro ⟨x, hx, h⟩; exact ⟨x, hx, by show isM v (litT 0 x) = true; rw [h1 x (hL l hl x hx)]; exact h⟩
    exact ⟨fun h x hx => by rw [← p x hx]; exact h x hx, fun h x hx => by rw [p x hx]; exact h x hx⟩
  rw [e1, e2]
/-- as much greater -/
def mvT (b x : Int) : Int := if x < 0 then x - b else x + b
theorem lit_moves {b : Int} (h0 : 0 ≤ b) (h1 : b ≤ 262144) (l : Int) : litT b l = mvT b (litT 0 l) ∧ -litT b l = mvT b (-litT 0 l) := by
  have hc : 0 ≤ capT l := by unfold capT; split <;> (try split) <;> omega
  have hb : baseT b = b := by unfold baseT; rw [if_neg (by omega), if_neg (by omega)]
  unfold litT mvT
  rw [base_zero, hb]
  split <;> split <;> split <;> omega
/-- from another base the clauses are those from 0, each variable as much greater -/
theorem gates_move (c : Cir) {b : Int} (h0 : 0 ≤ b) (h1 : b ≤ 262144) : gatesT c b = (gatesT c 0).map fun l => l.map (mvT b) := by
  unfold gatesT
  rw [List.map_append, List.map_map, List.map_flatMap]
  congr 1
  · apply List.map_congr_left
    intro v _
    show [-(b + (v : Int) + 1)] = [mvT b (-(0 + (v : Int) + 1))]
    unfold mvT
    rw [if_pos (by omega)]
    congr 1
    omega
  · congr 1
    funext t
    unfold andT
    simp only [List.map_cons, List.map_nil]
    rw [← (lit_moves h0 h1 t.a).1, ← (lit_moves h0 h1 t.a).2, ← (lit_moves h0 h1 t.b).1, ← (lit_moves h0 h1 t.b).2, ← (lit_moves h0 h1 t.c).1, ← (lit_moves h0 h1 t.c).2]
theorem force_move (c : Cir) (L : List (List Int)) {b : Int} (h0 : 0 ≤ b) (h1 : b ≤ 262144) : forceT c L b = (forceT c L 0).map fun l => l.map (mvT b) := by
  unfold forceT
  rw [List.map_append, List.map_map, List.map_map]
  congr 1
  · apply List.map_congr_left
    intro l _
    show [litT b l] = [mvT b (litT 0 l)]
    rw [(lit_moves h0 h1 l).1]
  · apply List.map_congr_left
    intro l _
    show l.map (litT b) = (l.map (litT 0)).map (mvT b)
    rw [List.map_map]
    apply List.map_congr_left
    intro x _
    exact (lit_moves h0 h1 x).1
end
end Go.Proofs.Ytbgcoeejmnejdaa.Tse
namespace Go.Proofs.Ytbgcoeejmnejdaa.Rep
open Go.ChangeShapes Go.WideShapes Go.RowKit Go.Deep Circ Cw

def strs (l : List ByteArray) : List (List Value) := l.map fun s => [.string s]
/-- the texts lie in memory below block B -/
structure SLies (w : World) (B : Nat) (A : Option Addr) (L : List ByteArray) : Prop where
  row : LRow w B 1 A (strs L)
  each : ∀ s ∈ L, s.size ≤ 9223372036854775807
  len : L.length ≤ 9223372036854775807
section
variable {w w' : World} {B B' : Nat} {A : Option Addr} {S : List ByteArray}
theorem SLies.below (h : SLies w B A S) (hb : Below B w w') : SLies w' B A S := ⟨h.row.below hb, h.each, h.len⟩
theorem SLies.more (h : SLies w B A S) (hB : B ≤ B') : SLies w B' A S := ⟨h.row.more hB, h.each, h.len⟩
theorem SLies.at (h : SLies w B A S) {k : Nat} (hk : k < S.length) : ∃ b o, A = some ⟨b, o, none⟩ ∧ b < B ∧ w.cell? ⟨b, o + k, none⟩ = some (.string S[k]) :=
  LRow_one h.row (by unfold strs; simpa using hk) (by unfold strs; rw [List.getElem_map])
end
instance : Inhabited ByteArray := ⟨⟨#[]⟩⟩
section
variable {H : Type} {enc : TypeId × Value → H} {w : World}
end
end Go.Proofs.Ytbgcoeejmnejdaa.Rep
