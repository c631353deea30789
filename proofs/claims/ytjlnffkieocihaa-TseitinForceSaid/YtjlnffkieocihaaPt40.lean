/- TseitinForce, from what it asks of the program; condition: as there. -/
import Derived.Test.YtjlnffkieocihaaPt38
namespace Go.Proofs.Ytjlnffkieocihaa.Tse
open Go.ChangeShapes Go.WideShapes Go.ChangeAt Go.RowKit Go.Maps Circ Cw Str Sim Rep Cla

set_option maxHeartbeats 16000000 in
set_option maxRecDepth 100000 in
theorem lawF_walk {N : Nat} (P : Prog12 N) (c : Cir) (s : Places) (L : List Clz) (A : Option Addr) (q : Nat) (st inp : ByteArray) (w : World) (h : CLies w w.heap.size c s) (hf : CFits c s) (hA : ALies w w.heap.size A L) (hs : st.size ≤ 9223372036854775807) (hi : inp.size ≤ 9223372036854775807) (hN : L.length * 3 ≤ N) (hN2 : ∀ z ∈ L, z.l.length ≤ N) :
    Calls Try.prog 10 #[cirV c s, .slice A L.length q, .string st, .string inp] w fun e w' => e = .returned (.bool true) ∧ Below w.heap.size w w' := by
  obtain ⟨WA, hWA⟩ : ∃ x, w.alloc (.cells #[.int .i64 c.max, .slice s.ai c.ins.length s.ki, .slice s.al c.lats.length s.kl, .slice s.ao c.outs.length s.ko, .slice s.ab c.bads.length s.kb, .slice s.ac c.invs.length s.kc, .slice s.aa c.ands.length s.ka, .slice s.an c.names.length s.kn] 27) = x := ⟨_, rfl⟩
  have bA : Hid (Below w.heap.size w WA) := by unfold Hid; rw [← hWA]; exact (Below.refl _ _).alloc (Nat.le_refl _) _
  have GA : Hid (WA.heap[w.heap.size]? = some (.cells (cirC c s) 27 (0, 0))) := by unfold Hid; rw [← hWA]; exact Array.getElem?_push_size
  have GW : Hid (∀ x, Below WA.heap.size WA x → x.heap[w.heap.size]? = some (.cells (cirC c s) 27 (0, 0))) := fun x hx => (hx.block _ (lt_of_block GA.out)).trans GA.out
  have CW : Hid (∀ x, Below WA.heap.size WA x → CLies x x.heap.size c s) := fun x hx => by
    have h1 := bA.out.trans (hx.mono bA.out.size)
    exact (h.below h1).more h1.size
  have HF := Lib.hid hf
  have AL := Lib.hid (alive_any P WA)
  have AW : Hid (∀ x, Below WA.heap.size WA x → ALies x x.heap.size A L) := fun x hx => by
    have h1 := bA.out.trans (hx.mono bA.out.size)
    exact (hA.below h1).more h1.size
  have HN2 := Lib.hid hN2
  have hll := hA.len
  clear h hf hA hN2
  unfold cirV
  rw [show cirC c s = #[.int .i64 c.max, .slice s.ai c.ins.length s.ki, .slice s.al c.lats.length s.kl, .slice s.ao c.outs.length s.ko, .slice s.ab c.bads.length s.kb, .slice s.ac c.invs.length s.kc, .slice s.aa c.ands.length s.ka, .slice s.an c.names.length s.kn] from rfl]
  go_enter Try.func10, Try.ntmps10
  go_wp2_with fail
  refine AL.out.mono ?_
  rintro e w1 ⟨rfl, hb1⟩
  have B1 := Lib.hid hb1
  clear hb1 AL hWA
  go_wp2
  go_loopw [9] (fun i wr => ∃ k : Nat, k ≤ L.length ∧ i = .int .i64 k ∧ (∀ z ∈ L.take k, ∀ x ∈ z.l, 0 ≤ x ∧ x / 2 ≤ c.max) ∧ Below WA.heap.size WA wr) (fun i _ => L.length - (intOf i).toNat)
  case atStart => exact ⟨0, Nat.zero_le _, rfl, fun z hz => (List.not_mem_nil hz).elim, B1.out⟩
  case round =>
    obtain ⟨k, hk, rfl, hg, hb2⟩ := hrel
    obtain ⟨wo, rfl⟩ : ∃ y, y = wr := ⟨_, rfl⟩
    have HG := Lib.hid hg
    have B2 := Lib.hid hb2
    clear hg hb2
    by_cases hlt : k < L.length
    · have HKT : Hid (L.take (k + 1) = L.take k ++ [L[k]]) := List.take_succ_eq_append_getElem hlt
      have HZW : Hid (∀ x, Below WA.heap.size WA x → ∃ b o, A = some ⟨b, o, none⟩ ∧ x.cell? ⟨b, o + k, none⟩ = some (.slice L[k].A L[k].l.length L[k].q)) := fun x hx => by
        obtain ⟨b, o, h1, -, h2⟩ := (AW.out x hx).at hlt
        exact ⟨b, o, h1, h2⟩
      have HZL : Hid (∀ x, Below WA.heap.size WA x → ILies x x.heap.size L[k].A L[k].l) := fun x hx => clz_lies ((AW.out x hx).each _ (List.getElem_mem hlt))
      have hzn := (HZL.out _ B2.out).len
      have hzf := Lib.hid (HZL.out _ B2.out).fits
      have k0 : (0 : Int) ≤ (k : Int) := by omega
      have k1 : (k : Int) < (L.length : Int) := by omega
      generalize L[k] = z at *
      go_wp2
      go_loopw [10] (fun i wr => ∃ j : Nat, j ≤ z.l.length ∧ i = .int .i64 j ∧ (∀ x ∈ z.l.take j, 0 ≤ x ∧ x / 2 ≤ c.max) ∧ Below WA.heap.size WA wr) (fun i _ => z.l.length - (intOf i).toNat)
      case atStart => exact ⟨0, Nat.zero_le _, rfl, fun x hx => (List.not_mem_nil hx).elim, B2.out⟩
      case round =>
        obtain ⟨j, hj, rfl, hg2, hb3⟩ := hrel
        have HG2 := Lib.hid hg2
        have B3 := Lib.hid hb3
        clear hg2 hb3
        obtain ⟨b, o, hAB, hc⟩ := HZW.out _ B3.out
        by_cases hlj : j < z.l.length
        · obtain ⟨b2, o2, hZB, -, hc2⟩ := LRow.int (HZL.out _ B3.out).row hlj
          have HX := Lib.hid (hzf.out _ (List.getElem_mem hlj))
          have HJT : Hid (z.l.take (j + 1) = z.l.take j ++ [z.l[j]]) := List.take_succ_eq_append_getElem hlj
          have j0 : (0 : Int) ≤ (j : Int) := by omega
          have j1 : (j : Int) < (z.l.length : Int) := by omega
          have e0 := (cells8 (GW.out _ B3.out)).1
          rw [hZB] at hc
          subst hAB
          have ut0 := Wd.cell hc
          have ut1 := Wd.cell hc2
          have ut2 := Wd.cell e0
          generalize z.l[j] = x at *
          by_cases h1 : x < 0
          · have hd1 : decide (x < 0) = true := decide_eq_true h1
            go_wp2
            clear hc hc2 e0
            refine wp_region_wd (by kernel_rfl) (by kernel_rfl) ?_
            repeat (first | go_big_quiet_skip | (go_big_quiet_want; go_big_quiet_op; go_big_quiet_on))
            refine wpQuiet_nil ?_
            intro w9 hw'
            obtain ⟨⟨_, hb9⟩, hw''⟩ := hw'
            subst hw''
            have BF : Hid (Below w.heap.size w w9) := bA.out.trans ((B3.out.trans (hb9.mono B3.out.size)).mono bA.out.size)
            clear hb9 ut0 ut1 ut2
            go_wp2
            go_ret
            exact ⟨rfl, BF.out⟩
          · have hd1 : decide (x < 0) = false := decide_eq_false h1
            have htd : x.tdiv 2 = x / 2 := Int.tdiv_eq_ediv_of_nonneg (by omega)
            have hxr : x ≤ 9223372036854775807 := HX.out.2
            have hw64 : wrap64 (x / 2) = x / 2 := by unfold wrap64; omega
            by_cases h2 : c.max < x / 2
            · have hd2 : decide (c.max < x / 2) = true := decide_eq_true h2
              go_wp2
              clear hc hc2 e0
              refine wp_region_wd (by kernel_rfl) (by kernel_rfl) ?_
              repeat (first | go_big_quiet_skip | (go_big_quiet_want; go_big_quiet_op; go_big_quiet_on))
              refine wpQuiet_nil ?_
              intro w9 hw'
              obtain ⟨⟨_, hb9⟩, hw''⟩ := hw'
              subst hw''
              have BF : Hid (Below w.heap.size w w9) := bA.out.trans ((B3.out.trans (hb9.mono B3.out.size)).mono bA.out.size)
              clear hb9 ut0 ut1 ut2
              go_wp2
              go_ret
              exact ⟨rfl, BF.out⟩
            · have hd2 : decide (c.max < x / 2) = false := decide_eq_false h2
              have HN1 : Hid (∀ y ∈ z.l.take (j + 1), 0 ≤ y ∧ y / 2 ≤ c.max) := fun y hy => by
                rw [HJT.out] at hy
                rcases List.mem_append.1 hy with hy | hy
                · exact HG2.out y hy
                · rw [List.mem_singleton.1 hy]; omega
              go_wp2
              clear hc hc2 e0
              refine wp_region_wd (by kernel_rfl) (by kernel_rfl) ?_
              repeat (first | go_big_quiet_skip | (go_big_quiet_want; go_big_quiet_op; go_big_quiet_on))
              refine wpQuiet_nil ?_
              intro w9 hw'
              obtain ⟨⟨_, hb9⟩, hw''⟩ := hw'
              subst hw''
              have B4 : Hid (Below WA.heap.size WA w9) := B3.out.trans (hb9.mono B3.out.size)
              clear hb9 ut0 ut1 ut2
              go_wp2
              go_roundw
              case rel => exact ⟨j + 1, by omega, by go_num, HN1.out, B4.out⟩
              case measure => simp [intOf]; omega
        · obtain rfl : j = z.l.length := by omega
          rw [List.take_length] at HG2
          have HN1 : Hid (∀ y ∈ L.take (k + 1), ∀ x ∈ y.l, 0 ≤ x ∧ x / 2 ≤ c.max) := fun y hy => by
            rw [HKT.out] at hy
            rcases List.mem_append.1 hy with hy | hy
            · exact HG.out y hy
            · rw [List.mem_singleton.1 hy]; exact HG2.out
          subst hAB
          go_wp2
          go_roundw
          case rel => exact ⟨k + 1, by omega, by go_num, HN1.out, B3.out⟩
          case measure => simp [intOf]; omega
    · obtain rfl : k = L.length := by omega
      rw [List.take_length] at HG
      have HGL : Hid (∀ l ∈ L.map Clz.l, ∀ x ∈ l, 0 ≤ x ∧ x / 2 ≤ c.max) := fun l hl => by
        obtain ⟨z, hz, rfl⟩ := List.mem_map.1 hl
        exact HG.out z hz
      have VA := Lib.hid (refvalues_any c s st inp wo (CW.out _ B2.out) HF.out hs hi)
      obtain ⟨e0, e1, e2, e3, e4, e5, e6, e7⟩ := cells8 (GW.out _ B2.out)
      unfold cirV at VA
      rw [show cirC c s = #[.int .i64 c.max, .slice s.ai c.ins.length s.ki, .slice s.al c.lats.length s.kl, .slice s.ao c.outs.length s.ko, .slice s.ab c.bads.length s.kb, .slice s.ac c.invs.length s.kc, .slice s.aa c.ands.length s.ka, .slice s.an c.names.length s.kn] from rfl] at VA
      obtain ⟨vv, hvv⟩ : ∃ y : ByteArray, sv (vStr c st inp) = .string y := ⟨_, rfl⟩
      have HVV : Hid (vv.data.toList = vStr c st inp) := by
        unfold Hid
        unfold sv at hvv
        have := Value.string.inj hvv
        rw [← this]
      rw [hvv] at VA
      clear hvv
      obtain ⟨ve, hve⟩ : ∃ y, vErr c st inp = y := ⟨_, rfl⟩
      rw [hve] at VA
      have HVE := Lib.hid hve
      clear hve
      go_wp2_with fail
      refine VA.out.mono ?_
      rintro e w3 ⟨rfl, hb3⟩
      have B3 : Hid (Below WA.heap.size WA w3) := B2.out.trans (hb3.mono B2.out.size)
      clear hb3 VA e0 e1 e2 e3 e4 e5 e6 e7
      have FO := Lib.hid (P.force c s L A q 0 w3 (CW.out _ B3.out) HF.out (AW.out _ B3.out) (by unfold I64; decide) hN HN2.out)
      obtain ⟨e0, e1, e2, e3, e4, e5, e6, e7⟩ := cells8 (GW.out _ B3.out)
      unfold cirV at FO
      rw [show cirC c s = #[.int .i64 c.max, .slice s.ai c.ins.length s.ki, .slice s.al c.lats.length s.kl, .slice s.ao c.outs.length s.ko, .slice s.ab c.bads.length s.kb, .slice s.ac c.invs.length s.kc, .slice s.aa c.ands.length s.ka, .slice s.an c.names.length s.kn] from rfl] at FO
      obtain ⟨fe, hfe⟩ : ∃ y, errT c 0 = y := ⟨_, rfl⟩
      rw [hfe] at FO
      have HFE := Lib.hid hfe
      clear hfe
      go_wp2_with fail
      refine FO.out.mono ?_
      rintro e w4 ⟨⟨K, A4, q4, rfl, hK, hKM⟩, hb4⟩
      have HK := Lib.hid hK
      have HKM := Lib.hid hKM
      have B4 : Hid (Below WA.heap.size WA w4) := B3.out.trans (hb4.mono B3.out.size)
      have BF : Hid (Below w.heap.size w w4) := bA.out.trans (B4.out.mono bA.out.size)
      clear hK hKM hb4 FO e0 e1 e2 e3 e4 e5 e6 e7
      cases hr : refOk c with
      | false =>
        obtain rfl : ve = 9 := by rw [← HVE.out]; exact err_no hr
        obtain rfl : fe = 9 := by rw [← HFE.out]; unfold errT; rw [if_pos hr]
        go_wp2_with (go_at_call 36; refine (num_any _ _).mono ?_; rintro e w' ⟨rfl, rfl⟩)
        go_ret
        exact ⟨rfl, BF.out⟩
      | true =>
        obtain rfl : fe = 0 := by rw [← HFE.out]; unfold errT; rw [hr]; decide
        cases hok : okB c st inp with
        | false =>
          obtain rfl : ve = 5 := by rw [← HVE.out]; exact err_long hr hok
          go_wp2
          go_ret
          exact ⟨rfl, BF.out⟩
        | true =>
          obtain rfl : ve = 0 := by rw [← HVE.out]; exact err_ok hr hok
          have HVX : Hid (vv.data.toList = valsM c st inp) := HVV.out.trans (str_ok HVE.out)
          have HKM2 : Hid (K.map Clz.l = forceT c (L.map Clz.l) 0) := by
            have h1 := HKM.out
            unfold fListT at h1
            rw [if_pos HFE.out] at h1
            exact h1
          have HEQ : Hid (K.all (fun z => oneM vv z.l) = allowedM c (L.map Clz.l) vv.data.toList) := by
            unfold Hid
            have h1 := force_iff st inp hr (L.map Clz.l) HGL.out vv HVX.out
            rw [← HKM2.out, List.all_map] at h1
            rw [HVX.out, ← h1]; rfl
          have hvz : vv.size ≤ 9223372036854775807 := by
            have h1 := (vals_small st inp hr).2
            have h2 : vv.data.toList.length = vv.size := by simp
            rw [HVX.out] at h2
            omega
          have hkl := HK.out.len
          clear HVE HFE HKM HKM2 HVV HVX hr hok HGL HG
          go_wp2_with (go_at_call 36; refine (num_any _ _).mono ?_; rintro e w' ⟨rfl, rfl⟩)
          go_loopw [16, 15] (fun i v wr => ∃ k : Nat, k ≤ K.length ∧ i = .int .i64 k ∧ v = .bool ((K.take k).all (fun z => oneM vv z.l)) ∧ Below w4.heap.size w4 wr) (fun i _ _ => K.length - (intOf i).toNat)
          case atStart => exact ⟨0, Nat.zero_le _, rfl, rfl, Below.refl _ _⟩
          case round =>
            obtain ⟨m, hm, rfl, rfl, hb5⟩ := hrel
            have B5 := Lib.hid hb5
            have BW5 : Hid (Below WA.heap.size WA wr) := B4.out.trans (hb5.mono B4.out.size)
            clear hb5
            by_cases hlm : m < K.length
            · obtain ⟨b, o, hAB, -, hc⟩ := ((HK.out.below B5.out).more B5.out.size).at hlm
              have HZ := Lib.hid (clz_lies (((HK.out.below B5.out).more B5.out.size).each _ (List.getElem_mem hlm)))
              have HT := Lib.hid (all_take K (fun z => oneM vv z.l) m hlm)
              have ON := Lib.hid (one_any vv K[m].l K[m].A K[m].q wr hvz HZ.out)
              have m0 : (0 : Int) ≤ (m : Int) := by omega
              have m1 : (m : Int) < (K.length : Int) := by omega
              subst hAB
              generalize K[m] = z at *
              generalize oneM vv z.l = oz at *
              generalize (K.take m).all (fun z => oneM vv z.l) = al at *
              cases al with
              | true =>
                go_wp2_with fail
                refine ON.out.mono ?_
                rintro e w' ⟨rfl, rfl⟩
                go_wp2
                go_roundw
                case rel => exact ⟨m + 1, by omega, by go_num, by rw [HT.out, Bool.true_and], B5.out⟩
                case measure => simp [intOf]; omega
              | false =>
                go_wp2
                go_roundw
                case rel => exact ⟨m + 1, by omega, by go_num, by rw [HT.out, Bool.false_and], B5.out⟩
                case measure => simp [intOf]; omega
            · obtain rfl : m = K.length := by omega
              rw [List.take_length, HEQ.out]
              have AA := Lib.hid (refallowed_any c s L A q vv wr (CW.out _ BW5.out) HF.out hvz (by have := HF.out.lc; omega) (AW.out _ BW5.out))
              unfold cirV at AA
              rw [show cirC c s = #[.int .i64 c.max, .slice s.ai c.ins.length s.ki, .slice s.al c.lats.length s.kl, .slice s.ao c.outs.length s.ko, .slice s.ab c.bads.length s.kb, .slice s.ac c.invs.length s.kc, .slice s.aa c.ands.length s.ka, .slice s.an c.names.length s.kn] from rfl] at AA
              obtain ⟨e0, e1, e2, e3, e4, e5, e6, e7⟩ := cells8 (GW.out _ BW5.out)
              generalize allowedM c (L.map Clz.l) vv.data.toList = ab at *
              go_wp2_with fail
              refine AA.out.mono ?_
              rintro e w6 ⟨rfl, hb6⟩
              have BE : Hid (Below w.heap.size w w6) := bA.out.trans ((BW5.out.trans (hb6.mono BW5.out.size)).mono bA.out.size)
              clear hb6 AA e0 e1 e2 e3 e4 e5 e6 e7
              go_wp2
              go_ret
              exact ⟨by simp, BE.out⟩
end Go.Proofs.Ytjlnffkieocihaa.Tse
