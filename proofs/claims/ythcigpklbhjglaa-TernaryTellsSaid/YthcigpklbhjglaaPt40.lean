/- TernaryTells; no condition. -/
import Derived.Test.YthcigpklbhjglaaPt47
namespace Go.Proofs.Ythcigpklbhjglaa.Ter
open Go.ChangeShapes Go.WideShapes Go.ChangeAt Go.RowKit Go.Maps Circ Cw
open Str Sim

set_option maxHeartbeats 16000000 in
set_option maxRecDepth 100000 in
theorem tells_walk (c : Cir) (s : Places) (st inp : ByteArray) (l : Int) (w : World) (h : CLies w w.heap.size c s) (hf : CFits c s) (hzs : st.size ≤ 9223372036854775807) (hzi : inp.size ≤ 9223372036854775807) (hl : l ≤ 9223372036854775807) :
    Calls Try.prog 9 #[cirV c s, .string st, .string inp, .int .i64 l] w fun e w' => e = .returned (.bool true) ∧ Below w.heap.size w w' := by
  obtain ⟨WA, hWA⟩ : ∃ x, w.alloc (.cells #[.int .i64 c.max, .slice s.ai c.ins.length s.ki, .slice s.al c.lats.length s.kl, .slice s.ao c.outs.length s.ko, .slice s.ab c.bads.length s.kb, .slice s.ac c.invs.length s.kc, .slice s.aa c.ands.length s.ka, .slice s.an c.names.length s.kn] 27) = x := ⟨_, rfl⟩
  have bA : Hid (Below w.heap.size w WA) := by unfold Hid; rw [← hWA]; exact (Below.refl _ _).alloc (Nat.le_refl _) _
  have GA : Hid (WA.heap[w.heap.size]? = some (.cells (cirC c s) 27 (0, 0))) := by unfold Hid; rw [← hWA]; exact Array.getElem?_push_size
  obtain ⟨e0, e1, e2, e3, e4, e5, e6, e7⟩ := cells8 GA.out
  have LW : Hid (∀ x, Below w.heap.size w x → CLies x x.heap.size c s) := fun x hx => (h.below hx).more hx.size
  have VA := Lib.hid (fun x hx => pvals_any c s st inp x (LW.out x hx) hf hzs hzi)
  have VB := Lib.hid (fun x hx => reftern_any c s st inp x (LW.out x hx) hf hzs hzi)
  have NA := Lib.hid (fun x hx => pnext_any c s st inp x (LW.out x hx) hf hzs hzi)
  have CC := Lib.hid (fun x => pcovers_any st inp x hzs)
  have TT := Lib.hid (fun x => ptrits_any st (c.lats.length : Int) x hzs)
  have TR := Lib.hid (fun x => reftrits_any st (c.lats.length : Int) x hzs)
  have HZS := Lib.hid hzs
  have HZI := Lib.hid hzi
  generalize tritsM st (c.lats.length : Int) = bt at TT TR
  have hr := terr_range c st inp
  by_cases he : tErr c st inp = 0
  · obtain ⟨hok, hts, hti⟩ := terr_is he
    obtain ⟨m, hm, hm1⟩ := max_nat hok
    have hvl := valsT_len c st inp
    have HIT := Lib.hid (valsT_isT hts hti)
    have HZ := Lib.hid (ref_sizes hok)
    rw [tstr_ok he, he] at VA VB
    rw [ntstr_ok he, he] at NA
    have OA := Lib.hid (fun w => of_any (sb (valsT c st inp)) l w (by rw [sb_size, hvl, hm]; simp; omega) hl HIT.out)
    have OB := Lib.hid (fun w => refof_any (sb (valsT c st inp)) l w (by rw [sb_size, hvl, hm]; simp; omega) hl)
    have OJ := Lib.hid (fun x w (hx : x ≤ 9223372036854775807) => refof_any (sb (valsT c st inp)) x w (by rw [sb_size, hvl, hm]; simp; omega) hx)
    rw [sb_list] at OA OB OJ
    have HF := Lib.hid hf
    clear hts hti hok hm hvl hr he h hf hzs hzi hl
    obtain ⟨v, hv⟩ : ∃ v, valsT c st inp = v := ⟨_, rfl⟩
    rw [hv] at VA VB NA OA OB OJ HIT
    clear hv
    have HNL : Hid ((nextT c v).length = c.lats.length) := by unfold Hid nextT; simp
    unfold sv at VA VB NA
    rw [show sb v = (⟨v.toArray⟩ : ByteArray) from rfl] at OA OB OJ
    generalize (⟨v.toArray⟩ : ByteArray) = s1 at *
    generalize ofT v l = yl at *
    unfold cirV at VA VB NA ⊢
    rw [show cirC c s = #[.int .i64 c.max, .slice s.ai c.ins.length s.ki, .slice s.al c.lats.length s.kl, .slice s.ao c.outs.length s.ko, .slice s.ab c.bads.length s.kb, .slice s.ac c.invs.length s.kc, .slice s.aa c.ands.length s.ka, .slice s.an c.names.length s.kn] from rfl] at VA VB NA ⊢
    go_enter Try.func9, Try.ntmps9
    go_wp2_with fail
    refine (VA.out WA bA.out).mono ?_
    rintro e w1 ⟨rfl, hb⟩
    clear hWA
    have B1 : Hid (Below w.heap.size w w1) := bA.out.trans (hb.mono bA.out.size)
    have G1 : Hid (w1.heap[w.heap.size]? = some (.cells (cirC c s) 27 (0, 0))) := (hb.block _ (lt_of_block GA.out)).trans GA.out
    clear e0 e1 e2 e3 e4 e5 e6 e7 hb
    obtain ⟨e0, e1, e2, e3, e4, e5, e6, e7⟩ := cells8 G1.out
    go_wp2_with fail
    refine (VB.out w1 B1.out).mono ?_
    rintro e w2 ⟨rfl, hb⟩
    have B2 : Hid (Below w.heap.size w w2) := B1.out.trans (hb.mono B1.out.size)
    have G2 : Hid (w2.heap[w.heap.size]? = some (.cells (cirC c s) 27 (0, 0))) := (hb.block _ (lt_of_block G1.out)).trans G1.out
    clear e0 e1 e2 e3 e4 e5 e6 e7 hb
    obtain ⟨e0, e1, e2, e3, e4, e5, e6, e7⟩ := cells8 G2.out
    go_wp2_with fail
    refine (NA.out w2 B2.out).mono ?_
    rintro e w3 ⟨rfl, hb⟩
    have B3 : Hid (Below w.heap.size w w3) := B2.out.trans (hb.mono B2.out.size)
    have G3 : Hid (w3.heap[w.heap.size]? = some (.cells (cirC c s) 27 (0, 0))) := (hb.block _ (lt_of_block G2.out)).trans G2.out
    clear e0 e1 e2 e3 e4 e5 e6 e7 hb
    obtain ⟨e0, e1, e2, e3, e4, e5, e6, e7⟩ := cells8 G3.out
    clear VA VB NA B1 B2 G1 G2 GA bA
    have G9 : Hid (∀ x, Below w3.heap.size w3 x → x.heap[w.heap.size]? = some (.cells (cirC c s) 27 (0, 0))) := fun x hx => (hx.block _ (lt_of_block G3.out)).trans G3.out
    go_wp2
    clear e0 e1 e2 e3 e4 e5 e6 e7
    go_loopw [15, 16] (fun t i wr => ∃ j : Nat, j ≤ c.lats.length ∧ i = .int .i64 j ∧ t = .string ⟨((nextT c v).take j).toArray⟩ ∧ Below w3.heap.size w3 wr) (fun _ i _ => c.lats.length - (intOf i).toNat)
    case atStart => exact ⟨0, Nat.zero_le _, rfl, rfl, Below.refl _ _⟩
    case round =>
      obtain ⟨j, hj, rfl, rfl, hbw⟩ := hrel
      have HB := Lib.hid hbw
      clear hbw
      have zl : c.lats.length ≤ 64 := HZ.out.2.1
      obtain ⟨e0, e1, e2, e3, e4, e5, e6, e7⟩ := cells8 (G9.out _ HB.out)
      by_cases hlt : j < c.lats.length
      · obtain ⟨b0, o, hA, -, c0, c1, c2⟩ := LRow.tri (LW.out wr (B3.out.trans (HB.out.mono B3.out.size))).lats hlt
        rw [hA] at e2
        have OK := Lib.hid (OJ.out c.lats[j].b wr (HF.out.lats _ (List.getElem_mem hlt)).2.1.2)
        have HTK : Hid (∀ z, ofT v c.lats[j].b = z → (⟨((nextT c v).take j).toArray⟩ : ByteArray) ++ ⟨[z].toArray⟩ = ⟨((nextT c v).take (j + 1)).toArray⟩) := fun z hz => by
          apply ByteArray.ext
          rw [ByteArray.data_append]
          apply Array.toList_inj.1
          rw [List.take_succ_eq_append_getElem (by have := HNL.out; omega), ← hz]
          unfold nextT
          simp
        have hsz : (⟨((nextT c v).take j).toArray⟩ : ByteArray).size ≤ 64 := by rw [sv_size, List.length_take]; omega
        obtain ⟨s4, hs4⟩ : ∃ z, (⟨((nextT c v).take j).toArray⟩ : ByteArray) = z := ⟨_, rfl⟩
        rw [hs4] at HTK hsz ⊢
        clear hA hs4
        generalize c.lats[j] = t at *
        generalize ofT v t.b = x at *
        have HS := Lib.hid (HTK.out x rfl)
        have hcv := conv1 (wr.alloc (.cells #[.int .u8 ((x.toNat : Nat) : Int)] 5)) wr.heap.size x (by rw [World.cell?_alloc_new]; rfl)
        rw [show sv [x] = .string ⟨[x].toArray⟩ from rfl] at hcv
        have hz1 : (⟨[x].toArray⟩ : ByteArray).size ≤ 64 := by rw [sv_size]; simp
        have BN : Hid (Below w3.heap.size w3 (wr.alloc (.cells #[.int .u8 ((x.toNat : Nat) : Int)] 5))) := HB.out.alloc HB.out.size _
        generalize (⟨[x].toArray⟩ : ByteArray) = s5 at *
        clear HTK
        go_wp2_with fail
        refine OK.out.mono ?_
        rintro e w' ⟨rfl, rfl⟩
        go_wp2
        go_roundw
        case rel => exact ⟨j + 1, by omega, by go_num, by rw [← HS.out], BN.out⟩
        case measure => simp [intOf]; omega
      · obtain rfl : j = c.lats.length := by omega
        rw [show (nextT c v).take c.lats.length = nextT c v from List.take_of_length_le (by rw [HNL.out]; exact Nat.le_refl _)]
        generalize (⟨(nextT c v).toArray⟩ : ByteArray) = s3 at *
        clear OJ HIT HNL
        obtain ⟨wp, rfl⟩ : ∃ z, z = wr := ⟨_, rfl⟩
        have HB0 : Hid (Below w3.heap.size w3 wp) := HB.out
        clear HB
        have HCV : Hid (∃ B : Bool, ((st.size : Int) == (inp.size : Int)) = B ∧ (B = true → st.size = inp.size ∧ ∀ j, j < 0 → cov (st.data.toList.getD j 120) (inp.data.toList.getD j 120)) ∧ (B = false → covM st inp = false)) := by
          refine ⟨_, rfl, fun h => ⟨by rw [beq_iff_eq] at h; omega, fun j hj => absurd hj (Nat.not_lt_zero _)⟩, fun h => ?_⟩
          unfold covM
          rw [beq_eq_false_iff_ne] at h
          rw [decide_eq_false (by omega)]; rfl
        obtain ⟨B0, hB0, hB1, hB2⟩ := HCV.out
        have HB1 := Lib.hid hB1
        have HB2 := Lib.hid hB2
        clear hB1 hB2 HCV
        go_wp2
        clear e0 e1 e2 e3 e4 e5 e6 e7
        go_loopw [17, 18] (fun q i wr => ∃ (k : Nat) (B : Bool), k ≤ st.size ∧ i = .int .i64 k ∧ q = .bool B ∧ (B = true → st.size = inp.size ∧ ∀ j, j < k → cov (st.data.toList.getD j 120) (inp.data.toList.getD j 120)) ∧ (B = false → covM st inp = false) ∧ Below w3.heap.size w3 wr) (fun _ i _ => st.size - (intOf i).toNat)
        case atStart => exact ⟨0, B0, Nat.zero_le _, rfl, by rw [← hB0], HB1.out, HB2.out, HB0.out⟩
        case round =>
          clear HB1 HB2 HB0 hB0
          obtain ⟨k, B, hk, rfl, rfl, hy, hn, hbw⟩ := hrel
          have HY := Lib.hid hy
          have HN := Lib.hid hn
          have HC := Lib.hid hbw
          clear hy hn hbw
          have hzs2 := HZS.out
          cases B with
          | false =>
            have HCF : Hid (covM st inp = false) := HN.out rfl
            obtain ⟨wo, rfl⟩ : ∃ z, z = wr := ⟨_, rfl⟩
            rw [HCF.out] at CC
            clear HY HN HCF
            by_cases hlt : k < st.size
            · skip
              have BO : Hid (Below w.heap.size w wo) := B3.out.trans (HC.out.mono B3.out.size)
              obtain ⟨e0, e1, e2, e3, e4, e5, e6, e7⟩ := cells8 (G9.out _ HC.out)
              have K0 := Lib.hid (fun (u : Wd wo.heap.size wo) => Calls.in_wd u ((num_any 0 u.w).mono fun e w' ⟨h1, h2⟩ => ⟨h1, h2 ▸ Below.refl _ _⟩) (Nat.le_refl _))
              have K1 := Lib.hid (fun (u : Wd wo.heap.size wo) => Calls.in_wd u (CC.out u.w) (Nat.le_refl _))
              have K2 := Lib.hid (fun (u : Wd wo.heap.size wo) => Calls.in_wd u ((TT.out u.w).mono fun e w' ⟨h1, h2⟩ => ⟨h1, h2 ▸ Below.refl _ _⟩) (Nat.le_refl _))
              have K3 := Lib.hid (fun (u : Wd wo.heap.size wo) => Calls.in_wd u ((TR.out u.w).mono fun e w' ⟨h1, h2⟩ => ⟨h1, h2 ▸ Below.refl _ _⟩) (Nat.le_refl _))
              have K4 := Lib.hid (fun (u : Wd wo.heap.size wo) => Calls.in_wd u (alive_any u.w) (Nat.le_refl _))
              clear CC TT TR
              go_wp2
              have u2 := Wd.cell e2
              refine wp_region_wd (by kernel_rfl) (by kernel_rfl) ?_
              repeat (first | go_big_quiet_skip | (go_big_quiet_want; go_big_quiet_op; first | go_big_quiet_on | (apply Exists.intro; refine ⟨fun u => ?_, ?_⟩; (first | (go_at_call 40; with_reducible exact K0.out u) | (go_at_call 41; with_reducible exact K1.out u) | (go_at_call 42; with_reducible exact K2.out u) | (go_at_call 43; with_reducible exact K3.out u) | (go_at_call 44; with_reducible exact K4.out u)); go_big_quiet_on)))
              refine wpQuiet_nil ?_
              intro wz9 hw'
              obtain ⟨⟨_, hb9⟩, hw''⟩ := hw'
              subst hw''
              have BZ : Hid (Below w.heap.size w wz9) := BO.out.trans (hb9.mono BO.out.size)
              clear K0 K1 K2 K3 K4 hb9 e0 e1 e2 e3 e4 e5 e6 e7 u2
              have L1 := Lib.hid (OA.out wz9)
              go_wp2_with fail
              refine L1.out.mono ?_
              rintro e w7 ⟨rfl, hb⟩
              have B7 : Hid (Below w.heap.size w w7) := BZ.out.trans (hb.mono BZ.out.size)
              have L2 := Lib.hid (OB.out w7)
              clear hb L1
              go_wp2_with fail
              refine L2.out.mono ?_
              rintro e w' ⟨rfl, rfl⟩
              go_wp2
              go_ret
              exact ⟨rfl, B7.out⟩
            · skip
              have BO : Hid (Below w.heap.size w wo) := B3.out.trans (HC.out.mono B3.out.size)
              obtain ⟨e0, e1, e2, e3, e4, e5, e6, e7⟩ := cells8 (G9.out _ HC.out)
              have K0 := Lib.hid (fun (u : Wd wo.heap.size wo) => Calls.in_wd u ((num_any 0 u.w).mono fun e w' ⟨h1, h2⟩ => ⟨h1, h2 ▸ Below.refl _ _⟩) (Nat.le_refl _))
              have K1 := Lib.hid (fun (u : Wd wo.heap.size wo) => Calls.in_wd u (CC.out u.w) (Nat.le_refl _))
              have K2 := Lib.hid (fun (u : Wd wo.heap.size wo) => Calls.in_wd u ((TT.out u.w).mono fun e w' ⟨h1, h2⟩ => ⟨h1, h2 ▸ Below.refl _ _⟩) (Nat.le_refl _))
              have K3 := Lib.hid (fun (u : Wd wo.heap.size wo) => Calls.in_wd u ((TR.out u.w).mono fun e w' ⟨h1, h2⟩ => ⟨h1, h2 ▸ Below.refl _ _⟩) (Nat.le_refl _))
              have K4 := Lib.hid (fun (u : Wd wo.heap.size wo) => Calls.in_wd u (alive_any u.w) (Nat.le_refl _))
              clear CC TT TR
              go_wp2
              have u2 := Wd.cell e2
              refine wp_region_wd (by kernel_rfl) (by kernel_rfl) ?_
              repeat (first | go_big_quiet_skip | (go_big_quiet_want; go_big_quiet_op; first | go_big_quiet_on | (apply Exists.intro; refine ⟨fun u => ?_, ?_⟩; (first | (go_at_call 40; with_reducible exact K0.out u) | (go_at_call 41; with_reducible exact K1.out u) | (go_at_call 42; with_reducible exact K2.out u) | (go_at_call 43; with_reducible exact K3.out u) | (go_at_call 44; with_reducible exact K4.out u)); go_big_quiet_on)))
              refine wpQuiet_nil ?_
              intro wz9 hw'
              obtain ⟨⟨_, hb9⟩, hw''⟩ := hw'
              subst hw''
              have BZ : Hid (Below w.heap.size w wz9) := BO.out.trans (hb9.mono BO.out.size)
              clear K0 K1 K2 K3 K4 hb9 e0 e1 e2 e3 e4 e5 e6 e7 u2
              have L1 := Lib.hid (OA.out wz9)
              go_wp2_with fail
              refine L1.out.mono ?_
              rintro e w7 ⟨rfl, hb⟩
              have B7 : Hid (Below w.heap.size w w7) := BZ.out.trans (hb.mono BZ.out.size)
              have L2 := Lib.hid (OB.out w7)
              clear hb L1
              go_wp2_with fail
              refine L2.out.mono ?_
              rintro e w' ⟨rfl, rfl⟩
              go_wp2
              go_ret
              exact ⟨rfl, B7.out⟩
          | true =>
            obtain ⟨hsz, hall⟩ := HY.out rfl
            have HALL := Lib.hid hall
            have HSZ2 := Lib.hid hsz
            clear hall HY HN
            by_cases hlt : k < st.size
            · have hlb : k < inp.size := by omega
              have hz0 : (0 : Int) ≤ (k : Int) := by omega
              have hz : (k : Int) < (st.size : Int) := by omega
              have hz2 : (k : Int) < (inp.size : Int) := by omega
              have NXT : cov (st[k]'hlt) (inp[k]'hlb) → Hid (∀ j, j < k + 1 → cov (st.data.toList.getD j 120) (inp.data.toList.getD j 120)) := fun h j hj => by
                by_cases e : j = k
                · subst e; rw [at_byte st hlt, at_byte inp hlb]; exact h
                · exact HALL.out j (by omega)
              have BAD : ¬ cov (st[k]'hlt) (inp[k]'hlb) → Hid (covM st inp = false) := fun h => by
                unfold Hid
                rw [Bool.eq_false_iff]
                intro hc
                have := ((covM_iff st inp).1 hc).2 k
                rw [at_byte st hlt, at_byte inp hlb] at this
                exact h this
              by_cases h1 : (st[k]'hlt) = (inp[k]'hlb)
              · have b1 : (((st[k]'hlt).toNat : Int) == ((inp[k]'hlb).toNat : Int)) = true := by rw [h1]; simp
                have HX := NXT (.inl h1)
                clear NXT BAD h1
                go_wp2
                refine wp_region_wd (by kernel_rfl) (by kernel_rfl) ?_
                repeat (first | go_big_quiet_skip | (go_big_quiet_want; go_big_quiet_op; go_big_quiet_on))
                refine wpQuiet_nil ?_
                intro wz9 hw'
                obtain ⟨⟨_, hb9⟩, hw''⟩ := hw'
                subst hw''
                have BN : Hid (Below w3.heap.size w3 wz9) := HC.out.trans (hb9.mono HC.out.size)
                clear hb9
                go_wp2
                go_roundw
                case rel => exact ⟨k + 1, _, by omega, by go_num, rfl, fun _ => ⟨HSZ2.out, HX.out⟩, fun h => absurd h (by decide), BN.out⟩
                case measure => simp [intOf]; omega
              · have b1 : (((st[k]'hlt).toNat : Int) == ((inp[k]'hlb).toNat : Int)) = false := by
                  rw [beq_eq_false_iff_ne]
                  exact fun e => h1 (UInt8.toNat_inj.1 (by omega))
                by_cases h2 : (st[k]'hlt) = 120
                · have b2 : (((st[k]'hlt).toNat : Int) == 120) = true := by rw [h2]; rfl
                  have HX := NXT (.inr h2)
                  clear NXT BAD h1 h2
                  go_wp2
                  refine wp_region_wd (by kernel_rfl) (by kernel_rfl) ?_
                  repeat (first | go_big_quiet_skip | (go_big_quiet_want; go_big_quiet_op; go_big_quiet_on))
                  refine wpQuiet_nil ?_
                  intro wz9 hw'
                  obtain ⟨⟨_, hb9⟩, hw''⟩ := hw'
                  subst hw''
                  have BN : Hid (Below w3.heap.size w3 wz9) := HC.out.trans (hb9.mono HC.out.size)
                  clear hb9
                  go_wp2
                  go_roundw
                  case rel => exact ⟨k + 1, _, by omega, by go_num, rfl, fun _ => ⟨HSZ2.out, HX.out⟩, fun h => absurd h (by decide), BN.out⟩
                  case measure => simp [intOf]; omega
                · have b2 : (((st[k]'hlt).toNat : Int) == 120) = false := by
                    rw [beq_eq_false_iff_ne]
                    exact fun e => h2 (UInt8.toNat_inj.1 (by have : (120 : UInt8).toNat = 120 := rfl; omega))
                  have HX := BAD (by rintro (h | h); exact h1 h; exact h2 h)
                  clear NXT BAD h1 h2
                  go_wp2
                  refine wp_region_wd (by kernel_rfl) (by kernel_rfl) ?_
                  repeat (first | go_big_quiet_skip | (go_big_quiet_want; go_big_quiet_op; go_big_quiet_on))
                  refine wpQuiet_nil ?_
                  intro wz9 hw'
                  obtain ⟨⟨_, hb9⟩, hw''⟩ := hw'
                  subst hw''
                  have BN : Hid (Below w3.heap.size w3 wz9) := HC.out.trans (hb9.mono HC.out.size)
                  clear hb9
                  go_wp2
                  go_roundw
                  case rel => exact ⟨k + 1, _, by omega, by go_num, rfl, fun h => absurd h (by decide), fun _ => HX.out, BN.out⟩
                  case measure => simp [intOf]; omega
            · have HCF : Hid (covM st inp = true) := by
                have hks : k = st.size := by omega
                unfold Hid covM
                rw [decide_eq_true HSZ2.out, Bool.true_and, List.all_eq_true]
                exact fun i hi => decide_eq_true (HALL.out i (by rw [hks]; exact List.mem_range.1 hi))
              obtain ⟨wo, rfl⟩ : ∃ z, z = wr := ⟨_, rfl⟩
              rw [HCF.out] at CC
              clear HALL HSZ2 HCF
              have BO : Hid (Below w.heap.size w wo) := B3.out.trans (HC.out.mono B3.out.size)
              obtain ⟨e0, e1, e2, e3, e4, e5, e6, e7⟩ := cells8 (G9.out _ HC.out)
              have K0 := Lib.hid (fun (u : Wd wo.heap.size wo) => Calls.in_wd u ((num_any 0 u.w).mono fun e w' ⟨h1, h2⟩ => ⟨h1, h2 ▸ Below.refl _ _⟩) (Nat.le_refl _))
              have K1 := Lib.hid (fun (u : Wd wo.heap.size wo) => Calls.in_wd u (CC.out u.w) (Nat.le_refl _))
              have K2 := Lib.hid (fun (u : Wd wo.heap.size wo) => Calls.in_wd u ((TT.out u.w).mono fun e w' ⟨h1, h2⟩ => ⟨h1, h2 ▸ Below.refl _ _⟩) (Nat.le_refl _))
              have K3 := Lib.hid (fun (u : Wd wo.heap.size wo) => Calls.in_wd u ((TR.out u.w).mono fun e w' ⟨h1, h2⟩ => ⟨h1, h2 ▸ Below.refl _ _⟩) (Nat.le_refl _))
              have K4 := Lib.hid (fun (u : Wd wo.heap.size wo) => Calls.in_wd u (alive_any u.w) (Nat.le_refl _))
              clear CC TT TR
              go_wp2
              have u2 := Wd.cell e2
              refine wp_region_wd (by kernel_rfl) (by kernel_rfl) ?_
              repeat (first | go_big_quiet_skip | (go_big_quiet_want; go_big_quiet_op; first | go_big_quiet_on | (apply Exists.intro; refine ⟨fun u => ?_, ?_⟩; (first | (go_at_call 40; with_reducible exact K0.out u) | (go_at_call 41; with_reducible exact K1.out u) | (go_at_call 42; with_reducible exact K2.out u) | (go_at_call 43; with_reducible exact K3.out u) | (go_at_call 44; with_reducible exact K4.out u)); go_big_quiet_on)))
              refine wpQuiet_nil ?_
              intro wz9 hw'
              obtain ⟨⟨_, hb9⟩, hw''⟩ := hw'
              subst hw''
              have BZ : Hid (Below w.heap.size w wz9) := BO.out.trans (hb9.mono BO.out.size)
              clear K0 K1 K2 K3 K4 hb9 e0 e1 e2 e3 e4 e5 e6 e7 u2
              have L1 := Lib.hid (OA.out wz9)
              go_wp2_with fail
              refine L1.out.mono ?_
              rintro e w7 ⟨rfl, hb⟩
              have B7 : Hid (Below w.heap.size w w7) := BZ.out.trans (hb.mono BZ.out.size)
              have L2 := Lib.hid (OB.out w7)
              clear hb L1
              go_wp2_with fail
              refine L2.out.mono ?_
              rintro e w' ⟨rfl, rfl⟩
              go_wp2
              go_ret
              exact ⟨rfl, B7.out⟩

  · rw [tstr_bad he] at VA VB
    rw [ntstr_bad he] at NA
    have hz : (tErr c st inp == 0) = false := beq_eq_false_iff_ne.2 he
    have hz2 : (tErr c st inp != 0) = true := bne_iff_ne.2 he
    generalize tErr c st inp = x at *
    clear h hf hzs hzi hl
    unfold sv at VA VB NA
    unfold cirV at VA VB NA ⊢
    rw [show cirC c s = #[.int .i64 c.max, .slice s.ai c.ins.length s.ki, .slice s.al c.lats.length s.kl, .slice s.ao c.outs.length s.ko, .slice s.ab c.bads.length s.kb, .slice s.ac c.invs.length s.kc, .slice s.aa c.ands.length s.ka, .slice s.an c.names.length s.kn] from rfl] at VA VB NA ⊢
    go_enter Try.func9, Try.ntmps9
    go_wp2_with fail
    refine (VA.out WA bA.out).mono ?_
    rintro e w1 ⟨rfl, hb⟩
    clear hWA
    have B1 : Hid (Below w.heap.size w w1) := bA.out.trans (hb.mono bA.out.size)
    have G1 : Hid (w1.heap[w.heap.size]? = some (.cells (cirC c s) 27 (0, 0))) := (hb.block _ (lt_of_block GA.out)).trans GA.out
    clear e0 e1 e2 e3 e4 e5 e6 e7 hb
    obtain ⟨e0, e1, e2, e3, e4, e5, e6, e7⟩ := cells8 G1.out
    go_wp2_with fail
    refine (VB.out w1 B1.out).mono ?_
    rintro e w2 ⟨rfl, hb⟩
    have B2 : Hid (Below w.heap.size w w2) := B1.out.trans (hb.mono B1.out.size)
    have G2 : Hid (w2.heap[w.heap.size]? = some (.cells (cirC c s) 27 (0, 0))) := (hb.block _ (lt_of_block G1.out)).trans G1.out
    clear e0 e1 e2 e3 e4 e5 e6 e7 hb
    obtain ⟨e0, e1, e2, e3, e4, e5, e6, e7⟩ := cells8 G2.out
    go_wp2_with fail
    refine (NA.out w2 B2.out).mono ?_
    rintro e w3 ⟨rfl, hb⟩
    have B3 : Hid (Below w.heap.size w w3) := B2.out.trans (hb.mono B2.out.size)
    have G3 : Hid (w3.heap[w.heap.size]? = some (.cells (cirC c s) 27 (0, 0))) := (hb.block _ (lt_of_block G2.out)).trans G2.out
    clear e0 e1 e2 e3 e4 e5 e6 e7 hb
    obtain ⟨e0, e1, e2, e3, e4, e5, e6, e7⟩ := cells8 G3.out
    clear VA VB NA B1 B2 G1 G2 GA bA
    have G9 : Hid (∀ x, Below w3.heap.size w3 x → x.heap[w.heap.size]? = some (.cells (cirC c s) 27 (0, 0))) := fun x hx => (hx.block _ (lt_of_block G3.out)).trans G3.out
    go_wp2
    clear e0 e1 e2 e3 e4 e5 e6 e7
    go_loopw [15, 16] (fun t i wr => i = .int .i64 0 ∧ t = .string ⟨#[]⟩ ∧ Below w3.heap.size w3 wr) (fun _ i _ => 0)
    case atStart => exact ⟨rfl, rfl, Below.refl _ _⟩
    case round =>
      obtain ⟨rfl, rfl, hbw⟩ := hrel
      have HB := Lib.hid hbw
      clear hbw
      obtain ⟨e0, e1, e2, e3, e4, e5, e6, e7⟩ := cells8 (G9.out _ HB.out)
      by_cases hlt0 : 0 < c.lats.length
      · have hlz : (0 : Int) < (c.lats.length : Int) := by omega
        clear hlt0
        obtain ⟨wp, rfl⟩ : ∃ z, z = wr := ⟨_, rfl⟩
        have HB0 : Hid (Below w3.heap.size w3 wp) := HB.out
        clear HB
        have HCV : Hid (∃ B : Bool, ((st.size : Int) == (inp.size : Int)) = B ∧ (B = true → st.size = inp.size ∧ ∀ j, j < 0 → cov (st.data.toList.getD j 120) (inp.data.toList.getD j 120)) ∧ (B = false → covM st inp = false)) := by
          refine ⟨_, rfl, fun h => ⟨by rw [beq_iff_eq] at h; omega, fun j hj => absurd hj (Nat.not_lt_zero _)⟩, fun h => ?_⟩
          unfold covM
          rw [beq_eq_false_iff_ne] at h
          rw [decide_eq_false (by omega)]; rfl
        obtain ⟨B0, hB0, hB1, hB2⟩ := HCV.out
        have HB1 := Lib.hid hB1
        have HB2 := Lib.hid hB2
        clear hB1 hB2 HCV
        go_wp2
        clear e0 e1 e2 e3 e4 e5 e6 e7
        go_loopw [17, 18] (fun q i wr => ∃ (k : Nat) (B : Bool), k ≤ st.size ∧ i = .int .i64 k ∧ q = .bool B ∧ (B = true → st.size = inp.size ∧ ∀ j, j < k → cov (st.data.toList.getD j 120) (inp.data.toList.getD j 120)) ∧ (B = false → covM st inp = false) ∧ Below w3.heap.size w3 wr) (fun _ i _ => st.size - (intOf i).toNat)
        case atStart => exact ⟨0, B0, Nat.zero_le _, rfl, by rw [← hB0], HB1.out, HB2.out, HB0.out⟩
        case round =>
          clear HB1 HB2 HB0 hB0
          obtain ⟨k, B, hk, rfl, rfl, hy, hn, hbw⟩ := hrel
          have HY := Lib.hid hy
          have HN := Lib.hid hn
          have HC := Lib.hid hbw
          clear hy hn hbw
          have hzs2 := HZS.out
          cases B with
          | false =>
            have HCF : Hid (covM st inp = false) := HN.out rfl
            obtain ⟨wo, rfl⟩ : ∃ z, z = wr := ⟨_, rfl⟩
            rw [HCF.out] at CC
            clear HY HN HCF
            by_cases hlt : k < st.size
            · skip
              have BO : Hid (Below w.heap.size w wo) := B3.out.trans (HC.out.mono B3.out.size)
              obtain ⟨e0, e1, e2, e3, e4, e5, e6, e7⟩ := cells8 (G9.out _ HC.out)
              have K0 := Lib.hid (fun (u : Wd wo.heap.size wo) => Calls.in_wd u ((num_any x u.w).mono fun e w' ⟨h1, h2⟩ => ⟨h1, h2 ▸ Below.refl _ _⟩) (Nat.le_refl _))
              have K1 := Lib.hid (fun (u : Wd wo.heap.size wo) => Calls.in_wd u (CC.out u.w) (Nat.le_refl _))
              have K2 := Lib.hid (fun (u : Wd wo.heap.size wo) => Calls.in_wd u ((TT.out u.w).mono fun e w' ⟨h1, h2⟩ => ⟨h1, h2 ▸ Below.refl _ _⟩) (Nat.le_refl _))
              have K3 := Lib.hid (fun (u : Wd wo.heap.size wo) => Calls.in_wd u ((TR.out u.w).mono fun e w' ⟨h1, h2⟩ => ⟨h1, h2 ▸ Below.refl _ _⟩) (Nat.le_refl _))
              have K4 := Lib.hid (fun (u : Wd wo.heap.size wo) => Calls.in_wd u (alive_any u.w) (Nat.le_refl _))
              clear CC TT TR
              go_wp2
              have u2 := Wd.cell e2
              refine wp_region_wd (by kernel_rfl) (by kernel_rfl) ?_
              repeat (first | go_big_quiet_skip | (go_big_quiet_want; go_big_quiet_op; first | go_big_quiet_on | (apply Exists.intro; refine ⟨fun u => ?_, ?_⟩; (first | (go_at_call 40; with_reducible exact K0.out u) | (go_at_call 41; with_reducible exact K1.out u) | (go_at_call 42; with_reducible exact K2.out u) | (go_at_call 43; with_reducible exact K3.out u) | (go_at_call 44; with_reducible exact K4.out u)); go_big_quiet_on)))
              refine wpQuiet_nil ?_
              intro wz9 hw'
              obtain ⟨⟨_, hb9⟩, hw''⟩ := hw'
              subst hw''
              have BZ : Hid (Below w.heap.size w wz9) := BO.out.trans (hb9.mono BO.out.size)
              clear K0 K1 K2 K3 K4 hb9 e0 e1 e2 e3 e4 e5 e6 e7 u2
              go_wp2
              go_ret
              exact ⟨rfl, BZ.out⟩
            · skip
              have BO : Hid (Below w.heap.size w wo) := B3.out.trans (HC.out.mono B3.out.size)
              obtain ⟨e0, e1, e2, e3, e4, e5, e6, e7⟩ := cells8 (G9.out _ HC.out)
              have K0 := Lib.hid (fun (u : Wd wo.heap.size wo) => Calls.in_wd u ((num_any x u.w).mono fun e w' ⟨h1, h2⟩ => ⟨h1, h2 ▸ Below.refl _ _⟩) (Nat.le_refl _))
              have K1 := Lib.hid (fun (u : Wd wo.heap.size wo) => Calls.in_wd u (CC.out u.w) (Nat.le_refl _))
              have K2 := Lib.hid (fun (u : Wd wo.heap.size wo) => Calls.in_wd u ((TT.out u.w).mono fun e w' ⟨h1, h2⟩ => ⟨h1, h2 ▸ Below.refl _ _⟩) (Nat.le_refl _))
              have K3 := Lib.hid (fun (u : Wd wo.heap.size wo) => Calls.in_wd u ((TR.out u.w).mono fun e w' ⟨h1, h2⟩ => ⟨h1, h2 ▸ Below.refl _ _⟩) (Nat.le_refl _))
              have K4 := Lib.hid (fun (u : Wd wo.heap.size wo) => Calls.in_wd u (alive_any u.w) (Nat.le_refl _))
              clear CC TT TR
              go_wp2
              have u2 := Wd.cell e2
              refine wp_region_wd (by kernel_rfl) (by kernel_rfl) ?_
              repeat (first | go_big_quiet_skip | (go_big_quiet_want; go_big_quiet_op; first | go_big_quiet_on | (apply Exists.intro; refine ⟨fun u => ?_, ?_⟩; (first | (go_at_call 40; with_reducible exact K0.out u) | (go_at_call 41; with_reducible exact K1.out u) | (go_at_call 42; with_reducible exact K2.out u) | (go_at_call 43; with_reducible exact K3.out u) | (go_at_call 44; with_reducible exact K4.out u)); go_big_quiet_on)))
              refine wpQuiet_nil ?_
              intro wz9 hw'
              obtain ⟨⟨_, hb9⟩, hw''⟩ := hw'
              subst hw''
              have BZ : Hid (Below w.heap.size w wz9) := BO.out.trans (hb9.mono BO.out.size)
              clear K0 K1 K2 K3 K4 hb9 e0 e1 e2 e3 e4 e5 e6 e7 u2
              go_wp2
              go_ret
              exact ⟨rfl, BZ.out⟩
          | true =>
            obtain ⟨hsz, hall⟩ := HY.out rfl
            have HALL := Lib.hid hall
            have HSZ2 := Lib.hid hsz
            clear hall HY HN
            by_cases hlt : k < st.size
            · have hlb : k < inp.size := by omega
              have hz0 : (0 : Int) ≤ (k : Int) := by omega
              have hz : (k : Int) < (st.size : Int) := by omega
              have hz2 : (k : Int) < (inp.size : Int) := by omega
              have NXT : cov (st[k]'hlt) (inp[k]'hlb) → Hid (∀ j, j < k + 1 → cov (st.data.toList.getD j 120) (inp.data.toList.getD j 120)) := fun h j hj => by
                by_cases e : j = k
                · subst e; rw [at_byte st hlt, at_byte inp hlb]; exact h
                · exact HALL.out j (by omega)
              have BAD : ¬ cov (st[k]'hlt) (inp[k]'hlb) → Hid (covM st inp = false) := fun h => by
                unfold Hid
                rw [Bool.eq_false_iff]
                intro hc
                have := ((covM_iff st inp).1 hc).2 k
                rw [at_byte st hlt, at_byte inp hlb] at this
                exact h this
              by_cases h1 : (st[k]'hlt) = (inp[k]'hlb)
              · have b1 : (((st[k]'hlt).toNat : Int) == ((inp[k]'hlb).toNat : Int)) = true := by rw [h1]; simp
                have HX := NXT (.inl h1)
                clear NXT BAD h1
                go_wp2
                refine wp_region_wd (by kernel_rfl) (by kernel_rfl) ?_
                repeat (first | go_big_quiet_skip | (go_big_quiet_want; go_big_quiet_op; go_big_quiet_on))
                refine wpQuiet_nil ?_
                intro wz9 hw'
                obtain ⟨⟨_, hb9⟩, hw''⟩ := hw'
                subst hw''
                have BN : Hid (Below w3.heap.size w3 wz9) := HC.out.trans (hb9.mono HC.out.size)
                clear hb9
                go_wp2
                go_roundw
                case rel => exact ⟨k + 1, _, by omega, by go_num, rfl, fun _ => ⟨HSZ2.out, HX.out⟩, fun h => absurd h (by decide), BN.out⟩
                case measure => simp [intOf]; omega
              · have b1 : (((st[k]'hlt).toNat : Int) == ((inp[k]'hlb).toNat : Int)) = false := by
                  rw [beq_eq_false_iff_ne]
                  exact fun e => h1 (UInt8.toNat_inj.1 (by omega))
                by_cases h2 : (st[k]'hlt) = 120
                · have b2 : (((st[k]'hlt).toNat : Int) == 120) = true := by rw [h2]; rfl
                  have HX := NXT (.inr h2)
                  clear NXT BAD h1 h2
                  go_wp2
                  refine wp_region_wd (by kernel_rfl) (by kernel_rfl) ?_
                  repeat (first | go_big_quiet_skip | (go_big_quiet_want; go_big_quiet_op; go_big_quiet_on))
                  refine wpQuiet_nil ?_
                  intro wz9 hw'
                  obtain ⟨⟨_, hb9⟩, hw''⟩ := hw'
                  subst hw''
                  have BN : Hid (Below w3.heap.size w3 wz9) := HC.out.trans (hb9.mono HC.out.size)
                  clear hb9
                  go_wp2
                  go_roundw
                  case rel => exact ⟨k + 1, _, by omega, by go_num, rfl, fun _ => ⟨HSZ2.out, HX.out⟩, fun h => absurd h (by decide), BN.out⟩
                  case measure => simp [intOf]; omega
                · have b2 : (((st[k]'hlt).toNat : Int) == 120) = false := by
                    rw [beq_eq_false_iff_ne]
                    exact fun e => h2 (UInt8.toNat_inj.1 (by have : (120 : UInt8).toNat = 120 := rfl; omega))
                  have HX := BAD (by rintro (h | h); exact h1 h; exact h2 h)
                  clear NXT BAD h1 h2
                  go_wp2
                  refine wp_region_wd (by kernel_rfl) (by kernel_rfl) ?_
                  repeat (first | go_big_quiet_skip | (go_big_quiet_want; go_big_quiet_op; go_big_quiet_on))
                  refine wpQuiet_nil ?_
                  intro wz9 hw'
                  obtain ⟨⟨_, hb9⟩, hw''⟩ := hw'
                  subst hw''
                  have BN : Hid (Below w3.heap.size w3 wz9) := HC.out.trans (hb9.mono HC.out.size)
                  clear hb9
                  go_wp2
                  go_roundw
                  case rel => exact ⟨k + 1, _, by omega, by go_num, rfl, fun h => absurd h (by decide), fun _ => HX.out, BN.out⟩
                  case measure => simp [intOf]; omega
            · have HCF : Hid (covM st inp = true) := by
                have hks : k = st.size := by omega
                unfold Hid covM
                rw [decide_eq_true HSZ2.out, Bool.true_and, List.all_eq_true]
                exact fun i hi => decide_eq_true (HALL.out i (by rw [hks]; exact List.mem_range.1 hi))
              obtain ⟨wo, rfl⟩ : ∃ z, z = wr := ⟨_, rfl⟩
              rw [HCF.out] at CC
              clear HALL HSZ2 HCF
              have BO : Hid (Below w.heap.size w wo) := B3.out.trans (HC.out.mono B3.out.size)
              obtain ⟨e0, e1, e2, e3, e4, e5, e6, e7⟩ := cells8 (G9.out _ HC.out)
              have K0 := Lib.hid (fun (u : Wd wo.heap.size wo) => Calls.in_wd u ((num_any x u.w).mono fun e w' ⟨h1, h2⟩ => ⟨h1, h2 ▸ Below.refl _ _⟩) (Nat.le_refl _))
              have K1 := Lib.hid (fun (u : Wd wo.heap.size wo) => Calls.in_wd u (CC.out u.w) (Nat.le_refl _))
              have K2 := Lib.hid (fun (u : Wd wo.heap.size wo) => Calls.in_wd u ((TT.out u.w).mono fun e w' ⟨h1, h2⟩ => ⟨h1, h2 ▸ Below.refl _ _⟩) (Nat.le_refl _))
              have K3 := Lib.hid (fun (u : Wd wo.heap.size wo) => Calls.in_wd u ((TR.out u.w).mono fun e w' ⟨h1, h2⟩ => ⟨h1, h2 ▸ Below.refl _ _⟩) (Nat.le_refl _))
              have K4 := Lib.hid (fun (u : Wd wo.heap.size wo) => Calls.in_wd u (alive_any u.w) (Nat.le_refl _))
              clear CC TT TR
              go_wp2
              have u2 := Wd.cell e2
              refine wp_region_wd (by kernel_rfl) (by kernel_rfl) ?_
              repeat (first | go_big_quiet_skip | (go_big_quiet_want; go_big_quiet_op; first | go_big_quiet_on | (apply Exists.intro; refine ⟨fun u => ?_, ?_⟩; (first | (go_at_call 40; with_reducible exact K0.out u) | (go_at_call 41; with_reducible exact K1.out u) | (go_at_call 42; with_reducible exact K2.out u) | (go_at_call 43; with_reducible exact K3.out u) | (go_at_call 44; with_reducible exact K4.out u)); go_big_quiet_on)))
              refine wpQuiet_nil ?_
              intro wz9 hw'
              obtain ⟨⟨_, hb9⟩, hw''⟩ := hw'
              subst hw''
              have BZ : Hid (Below w.heap.size w wz9) := BO.out.trans (hb9.mono BO.out.size)
              clear K0 K1 K2 K3 K4 hb9 e0 e1 e2 e3 e4 e5 e6 e7 u2
              go_wp2
              go_ret
              exact ⟨rfl, BZ.out⟩

      · have hlz : ¬ (0 : Int) < (c.lats.length : Int) := by omega
        clear hlt0
        obtain ⟨wp, rfl⟩ : ∃ z, z = wr := ⟨_, rfl⟩
        have HB0 : Hid (Below w3.heap.size w3 wp) := HB.out
        clear HB
        have HCV : Hid (∃ B : Bool, ((st.size : Int) == (inp.size : Int)) = B ∧ (B = true → st.size = inp.size ∧ ∀ j, j < 0 → cov (st.data.toList.getD j 120) (inp.data.toList.getD j 120)) ∧ (B = false → covM st inp = false)) := by
          refine ⟨_, rfl, fun h => ⟨by rw [beq_iff_eq] at h; omega, fun j hj => absurd hj (Nat.not_lt_zero _)⟩, fun h => ?_⟩
          unfold covM
          rw [beq_eq_false_iff_ne] at h
          rw [decide_eq_false (by omega)]; rfl
        obtain ⟨B0, hB0, hB1, hB2⟩ := HCV.out
        have HB1 := Lib.hid hB1
        have HB2 := Lib.hid hB2
        clear hB1 hB2 HCV
        go_wp2
        clear e0 e1 e2 e3 e4 e5 e6 e7
        go_loopw [17, 18] (fun q i wr => ∃ (k : Nat) (B : Bool), k ≤ st.size ∧ i = .int .i64 k ∧ q = .bool B ∧ (B = true → st.size = inp.size ∧ ∀ j, j < k → cov (st.data.toList.getD j 120) (inp.data.toList.getD j 120)) ∧ (B = false → covM st inp = false) ∧ Below w3.heap.size w3 wr) (fun _ i _ => st.size - (intOf i).toNat)
        case atStart => exact ⟨0, B0, Nat.zero_le _, rfl, by rw [← hB0], HB1.out, HB2.out, HB0.out⟩
        case round =>
          clear HB1 HB2 HB0 hB0
          obtain ⟨k, B, hk, rfl, rfl, hy, hn, hbw⟩ := hrel
          have HY := Lib.hid hy
          have HN := Lib.hid hn
          have HC := Lib.hid hbw
          clear hy hn hbw
          have hzs2 := HZS.out
          cases B with
          | false =>
            have HCF : Hid (covM st inp = false) := HN.out rfl
            obtain ⟨wo, rfl⟩ : ∃ z, z = wr := ⟨_, rfl⟩
            rw [HCF.out] at CC
            clear HY HN HCF
            by_cases hlt : k < st.size
            · skip
              have BO : Hid (Below w.heap.size w wo) := B3.out.trans (HC.out.mono B3.out.size)
              obtain ⟨e0, e1, e2, e3, e4, e5, e6, e7⟩ := cells8 (G9.out _ HC.out)
              have K0 := Lib.hid (fun (u : Wd wo.heap.size wo) => Calls.in_wd u ((num_any x u.w).mono fun e w' ⟨h1, h2⟩ => ⟨h1, h2 ▸ Below.refl _ _⟩) (Nat.le_refl _))
              have K1 := Lib.hid (fun (u : Wd wo.heap.size wo) => Calls.in_wd u (CC.out u.w) (Nat.le_refl _))
              have K2 := Lib.hid (fun (u : Wd wo.heap.size wo) => Calls.in_wd u ((TT.out u.w).mono fun e w' ⟨h1, h2⟩ => ⟨h1, h2 ▸ Below.refl _ _⟩) (Nat.le_refl _))
              have K3 := Lib.hid (fun (u : Wd wo.heap.size wo) => Calls.in_wd u ((TR.out u.w).mono fun e w' ⟨h1, h2⟩ => ⟨h1, h2 ▸ Below.refl _ _⟩) (Nat.le_refl _))
              have K4 := Lib.hid (fun (u : Wd wo.heap.size wo) => Calls.in_wd u (alive_any u.w) (Nat.le_refl _))
              clear CC TT TR
              go_wp2
              have u2 := Wd.cell e2
              refine wp_region_wd (by kernel_rfl) (by kernel_rfl) ?_
              repeat (first | go_big_quiet_skip | (go_big_quiet_want; go_big_quiet_op; first | go_big_quiet_on | (apply Exists.intro; refine ⟨fun u => ?_, ?_⟩; (first | (go_at_call 40; with_reducible exact K0.out u) | (go_at_call 41; with_reducible exact K1.out u) | (go_at_call 42; with_reducible exact K2.out u) | (go_at_call 43; with_reducible exact K3.out u) | (go_at_call 44; with_reducible exact K4.out u)); go_big_quiet_on)))
              refine wpQuiet_nil ?_
              intro wz9 hw'
              obtain ⟨⟨_, hb9⟩, hw''⟩ := hw'
              subst hw''
              have BZ : Hid (Below w.heap.size w wz9) := BO.out.trans (hb9.mono BO.out.size)
              clear K0 K1 K2 K3 K4 hb9 e0 e1 e2 e3 e4 e5 e6 e7 u2
              go_wp2
              go_ret
              exact ⟨rfl, BZ.out⟩
            · skip
              have BO : Hid (Below w.heap.size w wo) := B3.out.trans (HC.out.mono B3.out.size)
              obtain ⟨e0, e1, e2, e3, e4, e5, e6, e7⟩ := cells8 (G9.out _ HC.out)
              have K0 := Lib.hid (fun (u : Wd wo.heap.size wo) => Calls.in_wd u ((num_any x u.w).mono fun e w' ⟨h1, h2⟩ => ⟨h1, h2 ▸ Below.refl _ _⟩) (Nat.le_refl _))
              have K1 := Lib.hid (fun (u : Wd wo.heap.size wo) => Calls.in_wd u (CC.out u.w) (Nat.le_refl _))
              have K2 := Lib.hid (fun (u : Wd wo.heap.size wo) => Calls.in_wd u ((TT.out u.w).mono fun e w' ⟨h1, h2⟩ => ⟨h1, h2 ▸ Below.refl _ _⟩) (Nat.le_refl _))
              have K3 := Lib.hid (fun (u : Wd wo.heap.size wo) => Calls.in_wd u ((TR.out u.w).mono fun e w' ⟨h1, h2⟩ => ⟨h1, h2 ▸ Below.refl _ _⟩) (Nat.le_refl _))
              have K4 := Lib.hid (fun (u : Wd wo.heap.size wo) => Calls.in_wd u (alive_any u.w) (Nat.le_refl _))
              clear CC TT TR
              go_wp2
              have u2 := Wd.cell e2
              refine wp_region_wd (by kernel_rfl) (by kernel_rfl) ?_
              repeat (first | go_big_quiet_skip | (go_big_quiet_want; go_big_quiet_op; first | go_big_quiet_on | (apply Exists.intro; refine ⟨fun u => ?_, ?_⟩; (first | (go_at_call 40; with_reducible exact K0.out u) | (go_at_call 41; with_reducible exact K1.out u) | (go_at_call 42; with_reducible exact K2.out u) | (go_at_call 43; with_reducible exact K3.out u) | (go_at_call 44; with_reducible exact K4.out u)); go_big_quiet_on)))
              refine wpQuiet_nil ?_
              intro wz9 hw'
              obtain ⟨⟨_, hb9⟩, hw''⟩ := hw'
              subst hw''
              have BZ : Hid (Below w.heap.size w wz9) := BO.out.trans (hb9.mono BO.out.size)
              clear K0 K1 K2 K3 K4 hb9 e0 e1 e2 e3 e4 e5 e6 e7 u2
              go_wp2
              go_ret
              exact ⟨rfl, BZ.out⟩
          | true =>
            obtain ⟨hsz, hall⟩ := HY.out rfl
            have HALL := Lib.hid hall
            have HSZ2 := Lib.hid hsz
            clear hall HY HN
            by_cases hlt : k < st.size
            · have hlb : k < inp.size := by omega
              have hz0 : (0 : Int) ≤ (k : Int) := by omega
              have hz : (k : Int) < (st.size : Int) := by omega
              have hz2 : (k : Int) < (inp.size : Int) := by omega
              have NXT : cov (st[k]'hlt) (inp[k]'hlb) → Hid (∀ j, j < k + 1 → cov (st.data.toList.getD j 120) (inp.data.toList.getD j 120)) := fun h j hj => by
                by_cases e : j = k
                · subst e; rw [at_byte st hlt, at_byte inp hlb]; exact h
                · exact HALL.out j (by omega)
              have BAD : ¬ cov (st[k]'hlt) (inp[k]'hlb) → Hid (covM st inp = false) := fun h => by
                unfold Hid
                rw [Bool.eq_false_iff]
                intro hc
                have := ((covM_iff st inp).1 hc).2 k
                rw [at_byte st hlt, at_byte inp hlb] at this
                exact h this
              by_cases h1 : (st[k]'hlt) = (inp[k]'hlb)
              · have b1 : (((st[k]'hlt).toNat : Int) == ((inp[k]'hlb).toNat : Int)) = true := by rw [h1]; simp
                have HX := NXT (.inl h1)
                clear NXT BAD h1
                go_wp2
                refine wp_region_wd (by kernel_rfl) (by kernel_rfl) ?_
                repeat (first | go_big_quiet_skip | (go_big_quiet_want; go_big_quiet_op; go_big_quiet_on))
                refine wpQuiet_nil ?_
                intro wz9 hw'
                obtain ⟨⟨_, hb9⟩, hw''⟩ := hw'
                subst hw''
                have BN : Hid (Below w3.heap.size w3 wz9) := HC.out.trans (hb9.mono HC.out.size)
                clear hb9
                go_wp2
                go_roundw
                case rel => exact ⟨k + 1, _, by omega, by go_num, rfl, fun _ => ⟨HSZ2.out, HX.out⟩, fun h => absurd h (by decide), BN.out⟩
                case measure => simp [intOf]; omega
              · have b1 : (((st[k]'hlt).toNat : Int) == ((inp[k]'hlb).toNat : Int)) = false := by
                  rw [beq_eq_false_iff_ne]
                  exact fun e => h1 (UInt8.toNat_inj.1 (by omega))
                by_cases h2 : (st[k]'hlt) = 120
                · have b2 : (((st[k]'hlt).toNat : Int) == 120) = true := by rw [h2]; rfl
                  have HX := NXT (.inr h2)
                  clear NXT BAD h1 h2
                  go_wp2
                  refine wp_region_wd (by kernel_rfl) (by kernel_rfl) ?_
                  repeat (first | go_big_quiet_skip | (go_big_quiet_want; go_big_quiet_op; go_big_quiet_on))
                  refine wpQuiet_nil ?_
                  intro wz9 hw'
                  obtain ⟨⟨_, hb9⟩, hw''⟩ := hw'
                  subst hw''
                  have BN : Hid (Below w3.heap.size w3 wz9) := HC.out.trans (hb9.mono HC.out.size)
                  clear hb9
                  go_wp2
                  go_roundw
                  case rel => exact ⟨k + 1, _, by omega, by go_num, rfl, fun _ => ⟨HSZ2.out, HX.out⟩, fun h => absurd h (by decide), BN.out⟩
                  case measure => simp [intOf]; omega
                · have b2 : (((st[k]'hlt).toNat : Int) == 120) = false := by
                    rw [beq_eq_false_iff_ne]
                    exact fun e => h2 (UInt8.toNat_inj.1 (by have : (120 : UInt8).toNat = 120 := rfl; omega))
                  have HX := BAD (by rintro (h | h); exact h1 h; exact h2 h)
                  clear NXT BAD h1 h2
                  go_wp2
                  refine wp_region_wd (by kernel_rfl) (by kernel_rfl) ?_
                  repeat (first | go_big_quiet_skip | (go_big_quiet_want; go_big_quiet_op; go_big_quiet_on))
                  refine wpQuiet_nil ?_
                  intro wz9 hw'
                  obtain ⟨⟨_, hb9⟩, hw''⟩ := hw'
                  subst hw''
                  have BN : Hid (Below w3.heap.size w3 wz9) := HC.out.trans (hb9.mono HC.out.size)
                  clear hb9
                  go_wp2
                  go_roundw
                  case rel => exact ⟨k + 1, _, by omega, by go_num, rfl, fun h => absurd h (by decide), fun _ => HX.out, BN.out⟩
                  case measure => simp [intOf]; omega
            · have HCF : Hid (covM st inp = true) := by
                have hks : k = st.size := by omega
                unfold Hid covM
                rw [decide_eq_true HSZ2.out, Bool.true_and, List.all_eq_true]
                exact fun i hi => decide_eq_true (HALL.out i (by rw [hks]; exact List.mem_range.1 hi))
              obtain ⟨wo, rfl⟩ : ∃ z, z = wr := ⟨_, rfl⟩
              rw [HCF.out] at CC
              clear HALL HSZ2 HCF
              have BO : Hid (Below w.heap.size w wo) := B3.out.trans (HC.out.mono B3.out.size)
              obtain ⟨e0, e1, e2, e3, e4, e5, e6, e7⟩ := cells8 (G9.out _ HC.out)
              have K0 := Lib.hid (fun (u : Wd wo.heap.size wo) => Calls.in_wd u ((num_any x u.w).mono fun e w' ⟨h1, h2⟩ => ⟨h1, h2 ▸ Below.refl _ _⟩) (Nat.le_refl _))
              have K1 := Lib.hid (fun (u : Wd wo.heap.size wo) => Calls.in_wd u (CC.out u.w) (Nat.le_refl _))
              have K2 := Lib.hid (fun (u : Wd wo.heap.size wo) => Calls.in_wd u ((TT.out u.w).mono fun e w' ⟨h1, h2⟩ => ⟨h1, h2 ▸ Below.refl _ _⟩) (Nat.le_refl _))
              have K3 := Lib.hid (fun (u : Wd wo.heap.size wo) => Calls.in_wd u ((TR.out u.w).mono fun e w' ⟨h1, h2⟩ => ⟨h1, h2 ▸ Below.refl _ _⟩) (Nat.le_refl _))
              have K4 := Lib.hid (fun (u : Wd wo.heap.size wo) => Calls.in_wd u (alive_any u.w) (Nat.le_refl _))
              clear CC TT TR
              go_wp2
              have u2 := Wd.cell e2
              refine wp_region_wd (by kernel_rfl) (by kernel_rfl) ?_
              repeat (first | go_big_quiet_skip | (go_big_quiet_want; go_big_quiet_op; first | go_big_quiet_on | (apply Exists.intro; refine ⟨fun u => ?_, ?_⟩; (first | (go_at_call 40; with_reducible exact K0.out u) | (go_at_call 41; with_reducible exact K1.out u) | (go_at_call 42; with_reducible exact K2.out u) | (go_at_call 43; with_reducible exact K3.out u) | (go_at_call 44; with_reducible exact K4.out u)); go_big_quiet_on)))
              refine wpQuiet_nil ?_
              intro wz9 hw'
              obtain ⟨⟨_, hb9⟩, hw''⟩ := hw'
              subst hw''
              have BZ : Hid (Below w.heap.size w wz9) := BO.out.trans (hb9.mono BO.out.size)
              clear K0 K1 K2 K3 K4 hb9 e0 e1 e2 e3 e4 e5 e6 e7 u2
              go_wp2
              go_ret
              exact ⟨rfl, BZ.out⟩

set_option maxRecDepth 100000 in
theorem tells_core {H : Type} {enc : TypeId × Value → H} (W : World) (v : Value) (d : DataW H) (p : List MemPlace) {r : Reach} {b0 : Nat} (hv : Value.okWide Try.prog W r b0 27 v) (h : DataW.Trod enc Try.prog W 0 (fun _ => true) true 27 v d p)
    (st : ByteArray) (hst : st.size ≤ maxLen) (inp : ByteArray) (hinp : inp.size ≤ maxLen) (l : Int) (_l0 : -9223372036854775808 ≤ l) (l1 : l ≤ 9223372036854775807) {e1 e2 e3 : DataW H} {t1 t2 t3 : TypeId} {ts : List TypeId} {ds : List (DataW H)} (hsz : (DataW.weightsEach Try.prog (27 :: t1 :: t2 :: t3 :: ts) (d :: e1 :: e2 :: e3 :: ds)).all (· ≤ reachBytes) = true) :
    Calls Try.prog 9 #[v, .string st, .string inp, .int .i64 l] W fun e W' => e = .returned (.bool true) ∧ Below W.heap.size W W' := by
  obtain ⟨c, s, rfl, hl, hf⟩ := open_circ hv h (all_weights hsz 0 rfl rfl)
  unfold maxLen at hst hinp
  exact tells_walk c s st inp l W hl hf hst hinp l1
end Go.Proofs.Ythcigpklbhjglaa.Ter
