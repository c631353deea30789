/- TernarySound; no condition. -/
import Derived.Test.YthcigpklbhjglaaPt47
import Derived.Test.YthcigpklbhjglaaPt46
import Derived.Test.YthcigpklbhjglaaPt36
namespace Go.Proofs.Ythcigpklbhjglaa.Ter
open Go.ChangeShapes Go.WideShapes Go.ChangeAt Go.RowKit Go.Maps Circ Cw
open Str Sim

theorem verr_zero {c : Cir} {su iu : ByteArray} (hr : refOk c = true) (hs : bitsM su (c.lats.length : Int) = true) (hi : bitsM iu (c.ins.length : Int) = true) : vErr c su iu = 0 := err_ok hr (by unfold okB; rw [hs, hi]; rfl)
set_option maxHeartbeats 16000000 in
set_option maxRecDepth 100000 in
theorem sound_walk (c : Cir) (s : Places) (st inp : ByteArray) (hold : List Int) (A : Option Addr) (q : Nat) (b : Int) (w : World) (h : CLies w w.heap.size c s) (hf : CFits c s) (hzs : st.size ≤ 9223372036854775807) (hzi : inp.size ≤ 9223372036854775807) (hl : ∀ x ∈ hold, I64 x) (hn : hold.length ≤ 9223372036854775807) (hrow : LRow w w.heap.size 1 A (ints hold)) :
    Calls Try.prog 11 #[cirV c s, .string st, .string inp, .slice A hold.length q, .int .u64 b] w fun e w' => e = .returned (.bool true) ∧ Below w.heap.size w w' := by
  obtain ⟨WA, hWA⟩ : ∃ x, w.alloc (.cells #[.int .i64 c.max, .slice s.ai c.ins.length s.ki, .slice s.al c.lats.length s.kl, .slice s.ao c.outs.length s.ko, .slice s.ab c.bads.length s.kb, .slice s.ac c.invs.length s.kc, .slice s.aa c.ands.length s.ka, .slice s.an c.names.length s.kn] 27) = x := ⟨_, rfl⟩
  have bA : Hid (Below w.heap.size w WA) := by unfold Hid; rw [← hWA]; exact (Below.refl _ _).alloc (Nat.le_refl _) _
  have GA : Hid (WA.heap[w.heap.size]? = some (.cells (cirC c s) 27 (0, 0))) := by unfold Hid; rw [← hWA]; exact Array.getElem?_push_size
  obtain ⟨e0, e1, e2, e3, e4, e5, e6, e7⟩ := cells8 GA.out
  have LW : Hid (∀ x, Below w.heap.size w x → CLies x x.heap.size c s) := fun x hx => (h.below hx).more hx.size
  have VA := Lib.hid (fun x hx => pvals_any c s st inp x (LW.out x hx) hf hzs hzi)
  have hr := terr_range c st inp
  by_cases he : tErr c st inp = 0
  · obtain ⟨hok, hts, hti⟩ := terr_is he
    obtain ⟨m, hm, hm1⟩ := max_nat hok
    obtain ⟨hsz, hisT⟩ := trits_parts hts
    obtain ⟨hsi, hisI⟩ := trits_parts hti
    have HZ := Lib.hid (ref_sizes hok)
    have hvl := valsT_len c st inp
    have HM := Lib.hid hm
    have LR : Hid (∀ x, Below w.heap.size w x → LRow x x.heap.size 1 A (ints hold)) := fun x hx => (hrow.below hx).more hx.size
    have LA := Lib.hid (fun x hx => plift_any c s st inp hold A q x (LW.out x hx) hf hzs hzi hl hn (LR.out x hx))
    have F1 := Lib.hid (fun x => fill_any st b x (by have := HZ.out.2.1; omega))
    have F2 := Lib.hid (fun x => fill_any inp (b / 128) x (by have := HZ.out.1; omega))
    have hfs := fillM_bits hts b
    have hfi := fillM_bits hti (b / 128)
    have hc1 : Cov (valsT c st inp) (valsM c (sb (fillM st b)) (sb (fillM inp (b / 128)))) :=
      sound_vals hok hfs hfi (fun i hi => fillM_cov st b i (by omega)) (fun i hi => fillM_cov inp (b / 128) i (by omega))
    have RV := Lib.hid (fun x hx => refvalues_any c s (sb (fillM st b)) (sb (fillM inp (b / 128))) x (LW.out x hx) hf (by rw [sb_size, fillM_len]; exact hzs) (by rw [sb_size, fillM_len]; exact hzi))
    rw [str_ok (verr_zero hok hfs hfi), verr_zero hok hfs hfi] at RV
    have CV := Lib.hid (fun x => pcovers_any (sb (valsT c st inp)) (sb (valsM c (sb (fillM st b)) (sb (fillM inp (b / 128))))) x (by rw [sb_size, hvl, hm]; simp; omega))
    rw [show covM (sb (valsT c st inp)) (sb (valsM c (sb (fillM st b)) (sb (fillM inp (b / 128))))) = true from (covM_iff _ _).2 hc1] at CV
    rw [tstr_ok he, he] at VA
    have hld : lErr c st inp hold = if heldT (valsT c st inp) hold = true then 0 else 51 := if_pos he
    cases hq : heldT (valsT c st inp) hold with
    | false =>
      rw [hq] at hld
      have hls : lStr c st inp hold = [] := if_neg (by rw [hld]; decide)
      rw [hls, hld] at LA
      clear hq hld hls hc1 hfs hfi hts hti hok hm hm1 hsz hisT hsi hisI hvl hr he h hf hzs hzi hl hn hrow HM
      unfold sv at VA RV LA
      rw [show (⟨(valsT c st inp).toArray⟩ : ByteArray) = sb (valsT c st inp) from rfl] at VA
      rw [show (⟨(valsM c (sb (fillM st b)) (sb (fillM inp (b / 128)))).toArray⟩ : ByteArray) = sb (valsM c (sb (fillM st b)) (sb (fillM inp (b / 128)))) from rfl] at RV
      generalize sb (valsM c (sb (fillM st b)) (sb (fillM inp (b / 128)))) = s2 at *
      generalize sb (fillM st b) = f1 at *
      generalize sb (fillM inp (b / 128)) = f2 at *
      generalize sb (valsT c st inp) = s1 at *
      unfold cirV at VA RV LA ⊢
      rw [show cirC c s = #[.int .i64 c.max, .slice s.ai c.ins.length s.ki, .slice s.al c.lats.length s.kl, .slice s.ao c.outs.length s.ko, .slice s.ab c.bads.length s.kb, .slice s.ac c.invs.length s.kc, .slice s.aa c.ands.length s.ka, .slice s.an c.names.length s.kn] from rfl] at VA RV LA ⊢
      go_enter Try.func11, Try.ntmps11
      go_wp2_with fail
      refine (alive_any WA).mono ?_
      rintro e w1 ⟨rfl, hb⟩
      clear hWA
      have B1 : Hid (Below w.heap.size w w1) := bA.out.trans (hb.mono bA.out.size)
      have G1 : Hid (w1.heap[w.heap.size]? = some (.cells (cirC c s) 27 (0, 0))) := (hb.block _ (lt_of_block GA.out)).trans GA.out
      clear e0 e1 e2 e3 e4 e5 e6 e7 hb
      obtain ⟨e0, e1, e2, e3, e4, e5, e6, e7⟩ := cells8 G1.out
      go_wp2_with fail
      refine (VA.out w1 B1.out).mono ?_
      rintro e w2 ⟨rfl, hb⟩
      have B2 : Hid (Below w.heap.size w w2) := B1.out.trans (hb.mono B1.out.size)
      have G2 : Hid (w2.heap[w.heap.size]? = some (.cells (cirC c s) 27 (0, 0))) := (hb.block _ (lt_of_block G1.out)).trans G1.out
      clear e0 e1 e2 e3 e4 e5 e6 e7 hb
      obtain ⟨e0, e1, e2, e3, e4, e5, e6, e7⟩ := cells8 G2.out
      have K1 := Lib.hid (fun (u : Wd w2.heap.size w2) => Calls.in_wd u (F1.out u.w) (Nat.le_refl _))
      have K2 := Lib.hid (fun (u : Wd w2.heap.size w2) => Calls.in_wd u (F2.out u.w) (Nat.le_refl _))
      have K3 := Lib.hid (fun (u : Wd w2.heap.size w2) => Calls.in_wd u (RV.out u.w (B2.out.trans (u.ok.mono B2.out.size))) (Nat.le_refl _))
      go_wp2_with (go_at_call 40; refine (num_any _ _).mono ?_; rintro e w' ⟨rfl, rfl⟩)
      have u0 := Wd.cell e0
      have u1 := Wd.cell e1
      have u2 := Wd.cell e2
      have u3 := Wd.cell e3
      have u4 := Wd.cell e4
      have u5 := Wd.cell e5
      have u6 := Wd.cell e6
      have u7 := Wd.cell e7
      refine wp_region_wd (by kernel_rfl) (by kernel_rfl) ?_
      repeat (first | go_big_quiet_skip | (go_big_quiet_want; go_big_quiet_op; first | go_big_quiet_on | (apply Exists.intro; refine ⟨fun u => ?_, ?_⟩; (first | (go_at_call 50; first | with_reducible exact K1.out u | with_reducible exact K2.out u) | (go_at_call 24; with_reducible exact K3.out u)); go_big_quiet_on)))
      refine wpQuiet_nil ?_
      intro wz9 hw'
      obtain ⟨⟨_, hb9⟩, hw''⟩ := hw'
      subst hw''
      have B3 : Hid (Below w.heap.size w wz9) := B2.out.trans (hb9.mono B2.out.size)
      have G3 : Hid (wz9.heap[w.heap.size]? = some (.cells (cirC c s) 27 (0, 0))) := (hb9.block _ (lt_of_block G2.out)).trans G2.out
      obtain ⟨w3, rfl⟩ : ∃ z, z = wz9 := ⟨_, rfl⟩
      clear K1 K2 K3 hb9 e0 e1 e2 e3 e4 e5 e6 e7 u0 u1 u2 u3 u4 u5 u6 u7
      obtain ⟨e0, e1, e2, e3, e4, e5, e6, e7⟩ := cells8 G3.out
      go_wp2_with fail
      refine (CV.out w3).mono ?_
      rintro e w4 ⟨rfl, hb⟩
      have B4 : Hid (Below w.heap.size w w4) := B3.out.trans (hb.mono B3.out.size)
      have G4 : Hid (w4.heap[w.heap.size]? = some (.cells (cirC c s) 27 (0, 0))) := (hb.block _ (lt_of_block G3.out)).trans G3.out
      clear e0 e1 e2 e3 e4 e5 e6 e7 hb
      obtain ⟨e0, e1, e2, e3, e4, e5, e6, e7⟩ := cells8 G4.out
      go_wp2_with fail
      refine (LA.out w4 B4.out).mono ?_
      rintro e w5 ⟨rfl, hb⟩
      have B5 : Hid (Below w.heap.size w w5) := B4.out.trans (hb.mono B4.out.size)
      clear hb e0 e1 e2 e3 e4 e5 e6 e7
      go_wp2_with (go_at_call 40; refine (num_any _ _).mono ?_; rintro e w' ⟨rfl, rfl⟩)
      go_ret
      exact ⟨rfl, B5.out⟩
    | true =>
      rw [hq] at hld
      have hls : lStr c st inp hold = liftL c inp hold st.data.toList st.size := if_pos hld
      rw [hls, hld] at LA
      have HLH := liftL_held c inp hold st.data.toList hq st.size
      have HLC := liftL_cov c inp hold st.data.toList st.size
      have HLT := liftL_isT c inp hold st.data.toList hisT st.size
      have hll : (liftL c inp hold st.data.toList st.size).length = st.size := by rw [liftL_len]; simp
      obtain ⟨l, hlq⟩ : ∃ l, liftL c inp hold st.data.toList st.size = l := ⟨_, rfl⟩
      rw [hlq] at LA HLH HLC HLT hll
      have htl : tritsM (sb l) (c.lats.length : Int) = true := trits_of (by omega) HLT
      have hfl := fillM_bits htl b
      have F3 := Lib.hid (fun x => fill_any (sb l) b x (by rw [sb_size]; have := HZ.out.2.1; omega))
      have hc2 : Cov (valsT c (sb l) inp) (valsM c (sb (fillM (sb l) b)) (sb (fillM inp (b / 128)))) :=
        sound_vals hok hfl hfi (fun i hi => fillM_cov (sb l) b i (by rw [sb_size]; omega)) (fun i hi => fillM_cov inp (b / 128) i (by omega))
      have RW := Lib.hid (fun x hx => refvalues_any c s (sb (fillM (sb l) b)) (sb (fillM inp (b / 128))) x (LW.out x hx) hf (by rw [sb_size, fillM_len, sb_size, hll]; exact hzs) (by rw [sb_size, fillM_len]; exact hzi))
      rw [str_ok (verr_zero hok hfl hfi), verr_zero hok hfl hfi] at RW
      obtain ⟨u, hu⟩ : ∃ u, valsM c (sb (fillM (sb l) b)) (sb (fillM inp (b / 128))) = u := ⟨_, rfl⟩
      have hub : ∀ y ∈ u, isB y := by rw [← hu]; exact vals_bits hfl hfi
      have hul : (u.length : Int) = c.max + 1 := by rw [← hu, vals_len, hm]; simp
      rw [hu] at hc2 RW
      have HTR : Hid (∀ x ∈ hold, 0 ≤ x → x / 2 ≤ c.max → trueM u x = true) := fun x hx h0 h1 => held_true hc2 hub hul HLH hx h0 h1
      have CL := Lib.hid (fun x => pcovers_any (sb l) st x (by rw [sb_size, hll]; exact hzs))
      rw [show covM (sb l) st = true from (covM_iff _ _).2 HLC] at CL
      have TR := Lib.hid (fun y x (hy : y ≤ 9223372036854775807) => reftrue_any (sb u) y x (by rw [sb_size]; omega) hy)
      rw [sb_list] at TR
      have HL := Lib.hid hl
      have HN := Lib.hid hn
      clear hq hld hls hc1 hc2 hfs hfi hfl hts hti htl hok hm hm1 hsz hisT hsi hisI hvl hr he h hf hzs hzi hl hn hrow HLH HLC HLT hll hlq hu hub hul
      unfold sv at VA RV LA RW
      rw [show (⟨(valsT c st inp).toArray⟩ : ByteArray) = sb (valsT c st inp) from rfl] at VA
      rw [show (⟨(valsM c (sb (fillM st b)) (sb (fillM inp (b / 128)))).toArray⟩ : ByteArray) = sb (valsM c (sb (fillM st b)) (sb (fillM inp (b / 128)))) from rfl] at RV
      rw [show (⟨l.toArray⟩ : ByteArray) = sb l from rfl] at LA
      rw [show (⟨u.toArray⟩ : ByteArray) = sb u from rfl] at RW
      generalize sb (valsM c (sb (fillM st b)) (sb (fillM inp (b / 128)))) = s2 at *
      generalize sb (fillM st b) = f1 at *
      generalize sb (fillM inp (b / 128)) = f2 at *
      generalize sb (fillM (sb l) b) = f3 at *
      generalize sb (valsT c st inp) = s1 at *
      generalize sb l = sl at *
      generalize sb u = su at *
      unfold cirV at VA RV LA RW ⊢
      rw [show cirC c s = #[.int .i64 c.max, .slice s.ai c.ins.length s.ki, .slice s.al c.lats.length s.kl, .slice s.ao c.outs.length s.ko, .slice s.ab c.bads.length s.kb, .slice s.ac c.invs.length s.kc, .slice s.aa c.ands.length s.ka, .slice s.an c.names.length s.kn] from rfl] at VA RV LA RW ⊢
      go_enter Try.func11, Try.ntmps11
      go_wp2_with fail
      refine (alive_any WA).mono ?_
      rintro e w1 ⟨rfl, hb⟩
      clear hWA
      have B1 : Hid (Below w.heap.size w w1) := bA.out.trans (hb.mono bA.out.size)
      have G1 : Hid (w1.heap[w.heap.size]? = some (.cells (cirC c s) 27 (0, 0))) := (hb.block _ (lt_of_block GA.out)).trans GA.out
      clear e0 e1 e2 e3 e4 e5 e6 e7 hb
      obtain ⟨e0, e1, e2, e3, e4, e5, e6, e7⟩ := cells8 G1.out
      go_wp2_with fail
      refine (VA.out w1 B1.out).mono ?_
      rintro e w2 ⟨rfl, hb⟩
      have B2 : Hid (Below w.heap.size w w2) := B1.out.trans (hb.mono B1.out.size)
      have G2 : Hid (w2.heap[w.heap.size]? = some (.cells (cirC c s) 27 (0, 0))) := (hb.block _ (lt_of_block G1.out)).trans G1.out
      clear e0 e1 e2 e3 e4 e5 e6 e7 hb
      obtain ⟨e0, e1, e2, e3, e4, e5, e6, e7⟩ := cells8 G2.out
      have K1 := Lib.hid (fun (u : Wd w2.heap.size w2) => Calls.in_wd u (F1.out u.w) (Nat.le_refl _))
      have K2 := Lib.hid (fun (u : Wd w2.heap.size w2) => Calls.in_wd u (F2.out u.w) (Nat.le_refl _))
      have K3 := Lib.hid (fun (u : Wd w2.heap.size w2) => Calls.in_wd u (RV.out u.w (B2.out.trans (u.ok.mono B2.out.size))) (Nat.le_refl _))
      go_wp2_with (go_at_call 40; refine (num_any _ _).mono ?_; rintro e w' ⟨rfl, rfl⟩)
      have u0 := Wd.cell e0
      have u1 := Wd.cell e1
      have u2 := Wd.cell e2
      have u3 := Wd.cell e3
      have u4 := Wd.cell e4
      have u5 := Wd.cell e5
      have u6 := Wd.cell e6
      have u7 := Wd.cell e7
      refine wp_region_wd (by kernel_rfl) (by kernel_rfl) ?_
      repeat (first | go_big_quiet_skip | (go_big_quiet_want; go_big_quiet_op; first | go_big_quiet_on | (apply Exists.intro; refine ⟨fun u => ?_, ?_⟩; (first | (go_at_call 50; first | with_reducible exact K1.out u | with_reducible exact K2.out u) | (go_at_call 24; with_reducible exact K3.out u)); go_big_quiet_on)))
      refine wpQuiet_nil ?_
      intro wz9 hw'
      obtain ⟨⟨_, hb9⟩, hw''⟩ := hw'
      subst hw''
      have B3 : Hid (Below w.heap.size w wz9) := B2.out.trans (hb9.mono B2.out.size)
      have G3 : Hid (wz9.heap[w.heap.size]? = some (.cells (cirC c s) 27 (0, 0))) := (hb9.block _ (lt_of_block G2.out)).trans G2.out
      obtain ⟨w3, rfl⟩ : ∃ z, z = wz9 := ⟨_, rfl⟩
      clear K1 K2 K3 hb9 e0 e1 e2 e3 e4 e5 e6 e7 u0 u1 u2 u3 u4 u5 u6 u7
      obtain ⟨e0, e1, e2, e3, e4, e5, e6, e7⟩ := cells8 G3.out
      go_wp2_with fail
      refine (CV.out w3).mono ?_
      rintro e w4 ⟨rfl, hb⟩
      have B4 : Hid (Below w.heap.size w w4) := B3.out.trans (hb.mono B3.out.size)
      have G4 : Hid (w4.heap[w.heap.size]? = some (.cells (cirC c s) 27 (0, 0))) := (hb.block _ (lt_of_block G3.out)).trans G3.out
      clear e0 e1 e2 e3 e4 e5 e6 e7 hb
      obtain ⟨e0, e1, e2, e3, e4, e5, e6, e7⟩ := cells8 G4.out
      go_wp2_with fail
      refine (LA.out w4 B4.out).mono ?_
      rintro e w5 ⟨rfl, hb⟩
      have B5 : Hid (Below w.heap.size w w5) := B4.out.trans (hb.mono B4.out.size)
      have G5 : Hid (w5.heap[w.heap.size]? = some (.cells (cirC c s) 27 (0, 0))) := (hb.block _ (lt_of_block G4.out)).trans G4.out
      clear e0 e1 e2 e3 e4 e5 e6 e7 hb
      obtain ⟨e0, e1, e2, e3, e4, e5, e6, e7⟩ := cells8 G5.out
      clear CV VA RV LA F1
      have K1 := Lib.hid (fun (u : Wd w5.heap.size w5) => Calls.in_wd u (F3.out u.w) (Nat.le_refl _))
      have K2 := Lib.hid (fun (u : Wd w5.heap.size w5) => Calls.in_wd u (F2.out u.w) (Nat.le_refl _))
      have K3 := Lib.hid (fun (u : Wd w5.heap.size w5) => Calls.in_wd u (RW.out u.w (B5.out.trans (u.ok.mono B5.out.size))) (Nat.le_refl _))
      clear F2 F3 RW
      go_wp2_with (go_at_call 40; refine (num_any _ _).mono ?_; rintro e w' ⟨rfl, rfl⟩)
      have u0 := Wd.cell e0
      have u1 := Wd.cell e1
      have u2 := Wd.cell e2
      have u3 := Wd.cell e3
      have u4 := Wd.cell e4
      have u5 := Wd.cell e5
      have u6 := Wd.cell e6
      have u7 := Wd.cell e7
      refine wp_region_wd (by kernel_rfl) (by kernel_rfl) ?_
      repeat (first | go_big_quiet_skip | (go_big_quiet_want; go_big_quiet_op; first | go_big_quiet_on | (apply Exists.intro; refine ⟨fun u => ?_, ?_⟩; (first | (go_at_call 50; first | with_reducible exact K1.out u | with_reducible exact K2.out u) | (go_at_call 24; with_reducible exact K3.out u)); go_big_quiet_on)))
      refine wpQuiet_nil ?_
      intro wz9 hw'
      obtain ⟨⟨_, hb9⟩, hw''⟩ := hw'
      subst hw''
      have B6 : Hid (Below w.heap.size w wz9) := B5.out.trans (hb9.mono B5.out.size)
      have G6 : Hid (wz9.heap[w.heap.size]? = some (.cells (cirC c s) 27 (0, 0))) := (hb9.block _ (lt_of_block G5.out)).trans G5.out
      clear K1 K2 K3 hb9 e0 e1 e2 e3 e4 e5 e6 e7 u0 u1 u2 u3 u4 u5 u6 u7
      go_wp2
      go_loopw [19] (fun i wr => ∃ j : Nat, j ≤ hold.length ∧ i = .int .i64 j ∧ Below wz9.heap.size wz9 wr) (fun i _ => hold.length - (intOf i).toNat)
      case atStart => exact ⟨0, Nat.zero_le _, rfl, Below.refl _ _⟩
      case round =>
        obtain ⟨j, hj, rfl, hbw⟩ := hrel
        have HB := Lib.hid hbw
        have hn := HN.out
        clear hbw
        have GJ : Hid (wr.heap[w.heap.size]? = some (.cells (cirC c s) 27 (0, 0))) := (HB.out.block _ (lt_of_block G6.out)).trans G6.out
        obtain ⟨e0, e1, e2, e3, e4, e5, e6, e7⟩ := cells8 GJ.out
        by_cases hlt : j < hold.length
        · obtain ⟨bh, oh, hA, -, hc⟩ := LRow.int (LR.out wr (B6.out.trans (HB.out.mono B6.out.size))) hlt
          have TJ := Lib.hid (fun x => TR.out hold[j] x (HL.out _ (List.getElem_mem hlt)).2)
          have HIJ := Lib.hid (HL.out _ (List.getElem_mem hlt))
          have HTJ := Lib.hid (HTR.out hold[j] (List.getElem_mem hlt))
          have hjz : (j : Int) < (hold.length : Int) := by omega
          have hj0 : (0 : Int) ≤ (j : Int) := by omega
          generalize hold[j] = x at *
          subst hA
          cases hq : trueM u x with
          | true =>
            rw [hq] at TJ
            have K1 := Lib.hid (fun (u : Wd wr.heap.size wr) => Calls.in_wd u ((TJ.out u.w).mono fun e w' ⟨h1, h2⟩ => ⟨h1, h2 ▸ Below.refl _ _⟩) (Nat.le_refl _))
            clear hq HTJ TJ
            go_wp2
            have u0 := Wd.cell e0
            have u1 := Wd.cell hc
            refine wp_region_wd (by kernel_rfl) (by kernel_rfl) ?_
            repeat (first | go_big_quiet_skip | (go_big_quiet_want; go_big_quiet_op; first | go_big_quiet_on | (apply Exists.intro; refine ⟨fun u => ?_, ?_⟩; (first | (go_at_call 31; with_reducible exact K1.out u)); go_big_quiet_on)))
            refine wpQuiet_nil ?_
            intro wz9' hw'
            obtain ⟨⟨_, hb9⟩, hw''⟩ := hw'
            subst hw''
            have BN : Hid (Below wz9.heap.size wz9 wz9') := HB.out.trans (hb9.mono HB.out.size)
            clear hb9 K1 u0 u1
            go_wp2
            go_roundw
            case rel => exact ⟨j + 1, by omega, by go_num, BN.out⟩
            case measure => simp [intOf]; omega
          | false =>
            rw [hq] at TJ
            have K1 := Lib.hid (fun (u : Wd wr.heap.size wr) => Calls.in_wd u ((TJ.out u.w).mono fun e w' ⟨h1, h2⟩ => ⟨h1, h2 ▸ Below.refl _ _⟩) (Nat.le_refl _))
            by_cases hx0 : 0 ≤ x
            · have hxm : ¬ x / 2 ≤ c.max := fun hh => by have := HTJ.out hx0 hh; rw [hq] at this; exact absurd this (by decide)
              have hx1 : x ≤ 9223372036854775807 := HIJ.out.2
              have htd : x.tdiv 2 = x / 2 := Int.tdiv_eq_ediv_of_nonneg hx0
              have hxm2 : ¬ x.tdiv 2 ≤ c.max := by rw [htd]; exact hxm
              clear hq HTJ TJ htd
              go_wp2
              have u0 := Wd.cell e0
              have u1 := Wd.cell hc
              refine wp_region_wd (by kernel_rfl) (by kernel_rfl) ?_
              repeat (first | go_big_quiet_skip | (go_big_quiet_want; go_big_quiet_op; first | go_big_quiet_on | (apply Exists.intro; refine ⟨fun u => ?_, ?_⟩; (first | (go_at_call 31; with_reducible exact K1.out u)); go_big_quiet_on)))
              refine wpQuiet_nil ?_
              intro wz9' hw'
              obtain ⟨⟨_, hb9⟩, hw''⟩ := hw'
              subst hw''
              have BN : Hid (Below wz9.heap.size wz9 wz9') := HB.out.trans (hb9.mono HB.out.size)
              clear hb9 K1 u0 u1
              go_wp2
              go_roundw
              case rel => exact ⟨j + 1, by omega, by go_num, BN.out⟩
              case measure => simp [intOf]; omega
            · have hxd : decide (0 ≤ x) = false := decide_eq_false hx0
              have hxl : x < 0 := by omega
              clear hq HTJ TJ
              go_wp2
              have u0 := Wd.cell e0
              have u1 := Wd.cell hc
              refine wp_region_wd (by kernel_rfl) (by kernel_rfl) ?_
              repeat (first | go_big_quiet_skip | (go_big_quiet_want; go_big_quiet_op; first | go_big_quiet_on | (apply Exists.intro; refine ⟨fun u => ?_, ?_⟩; (first | (go_at_call 31; with_reducible exact K1.out u)); go_big_quiet_on)))
              refine wpQuiet_nil ?_
              intro wz9' hw'
              obtain ⟨⟨_, hb9⟩, hw''⟩ := hw'
              subst hw''
              have BN : Hid (Below wz9.heap.size wz9 wz9') := HB.out.trans (hb9.mono HB.out.size)
              clear hb9 K1 u0 u1
              go_wp2
              go_roundw
              case rel => exact ⟨j + 1, by omega, by go_num, BN.out⟩
              case measure => simp [intOf]; omega
        · obtain rfl : j = hold.length := by omega
          go_wp2_with fail
          refine (CL.out wr).mono ?_
          rintro e w8 ⟨rfl, hb⟩
          have BF : Hid (Below w.heap.size w w8) := B6.out.trans ((HB.out.trans (hb.mono HB.out.size)).mono B6.out.size)
          clear hb
          go_wp2
          go_ret
          exact ⟨rfl, BF.out⟩
  · rw [tstr_bad he] at VA
    have hz : (tErr c st inp == 0) = false := beq_eq_false_iff_ne.2 he
    have hz2 : (tErr c st inp != 0) = true := bne_iff_ne.2 he
    generalize tErr c st inp = x at *
    clear h hf hzs hzi hl hn hrow
    unfold sv at VA
    unfold cirV at VA ⊢
    rw [show cirC c s = #[.int .i64 c.max, .slice s.ai c.ins.length s.ki, .slice s.al c.lats.length s.kl, .slice s.ao c.outs.length s.ko, .slice s.ab c.bads.length s.kb, .slice s.ac c.invs.length s.kc, .slice s.aa c.ands.length s.ka, .slice s.an c.names.length s.kn] from rfl] at VA ⊢
    go_enter Try.func11, Try.ntmps11
    go_wp2_with fail
    refine (alive_any WA).mono ?_
    rintro e w1 ⟨rfl, hb⟩
    clear hWA
    have B1 : Hid (Below w.heap.size w w1) := bA.out.trans (hb.mono bA.out.size)
    have G1 : Hid (w1.heap[w.heap.size]? = some (.cells (cirC c s) 27 (0, 0))) := (hb.block _ (lt_of_block GA.out)).trans GA.out
    clear e0 e1 e2 e3 e4 e5 e6 e7 hb
    obtain ⟨e0, e1, e2, e3, e4, e5, e6, e7⟩ := cells8 G1.out
    go_wp2_with fail
    refine (VA.out w1 B1.out).mono ?_
    rintro e w2 ⟨rfl, hb⟩
    have B2 : Hid (Below w.heap.size w w2) := B1.out.trans (hb.mono B1.out.size)
    have G2 : Hid (w2.heap[w.heap.size]? = some (.cells (cirC c s) 27 (0, 0))) := (hb.block _ (lt_of_block G1.out)).trans G1.out
    clear e0 e1 e2 e3 e4 e5 e6 e7 hb
    obtain ⟨e0, e1, e2, e3, e4, e5, e6, e7⟩ := cells8 G2.out
    go_wp2_with (go_at_call 40; refine (num_any _ _).mono ?_; rintro e w' ⟨rfl, rfl⟩)
    go_ret
    exact ⟨rfl, B2.out⟩
set_option maxRecDepth 100000 in
theorem sound_core {H : Type} {enc : TypeId × Value → H} (W : World) (v : Value) (d : DataW H) (p : List MemPlace) {r : Reach} {b0 : Nat} (hv : Value.okWide Try.prog W r b0 27 v) (h : DataW.Trod enc Try.prog W 0 (fun _ => true) true 27 v d p)
    (st : ByteArray) (hst : st.size ≤ maxLen) (inp : ByteArray) (hinp : inp.size ≤ maxLen)
    (v1 : Value) (d1 : DataW H) (p1 : List MemPlace) {r1 : Reach} {b1 : Nat} (hv1 : Value.okWide Try.prog W r1 b1 22 v1) (h1 : DataW.Trod enc Try.prog W 0 (fun _ => true) true 22 v1 d1 p1)
    (b : Int) (_hb0 : 0 ≤ b) (_hb1 : b ≤ 18446744073709551615) {e1 e2 e4 : DataW H} {t1 t2 t4 : TypeId} {ts : List TypeId} {ds : List (DataW H)} (hsz : (DataW.weightsEach Try.prog (27 :: t1 :: t2 :: 22 :: t4 :: ts) (d :: e1 :: e2 :: d1 :: e4 :: ds)).all (· ≤ reachBytes) = true) :
    Calls Try.prog 11 #[v, .string st, .string inp, v1, .int .u64 b] W fun e W' => e = .returned (.bool true) ∧ Below W.heap.size W W' := by
  obtain ⟨c, s, rfl, hl, hf⟩ := open_circ hv h (all_weights hsz 0 rfl rfl)
  have hw1 := all_weights hsz 3 (t := 22) (d := d1) rfl rfl
  obtain ⟨fuel, ht⟩ := h1
  obtain ⟨A1, cl, q1, e1, r1', f1, k1, z1⟩ := open_rows 1 (by decide) (fun x : Int => [Value.int .i64 x]) I64 (fun _ => rfl) Try.underlying22 c3 (fun n cs' y h => el_int h) ht
  have hv1 : v1 = .slice A1 cl.length q1 := by
    obtain ⟨a0, len, cap, rfl⟩ := okWide_slice Try.underlying22 hv1
    simpa [Value.cells] using e1
  subst hv1
  have hbl : cl.length * 8 ≤ 140737488355328 := row_bytes (l := cl) 8 (by kernel_rfl) Try.underlying22 z1 hw1
  unfold maxLen at hst hinp
  exact sound_walk c s st inp cl A1 q1 b W hl hf hst hinp f1 (by omega) r1'
end Go.Proofs.Ythcigpklbhjglaa.Ter
