/- The walk of AigBack; conditions: the table of powers of ten is as it is laid, the cell of bytealg.MaxLen holds a number, what is asked of it fits. AigBack, from what a row hands over; condition: the listed package-level variables are as they are laid. -/
import Derived.Test.YtopjddmgejfalaaGreatDoorPk42
import Derived.OwnWalk
namespace Go.Proofs.YtopjddmgejfalaaGreatDoor.Aig
open Go.ChangeShapes Go.WideShapes Go.ChangeAt Go.RowKit Go.Maps Dig Circ Cw Aag

theorem read5_err {l : List UInt8} {t : Int} (h : read5 ordV l = .error t) : t = 33 ∨ t = 5 := by
  unfold read5 at h
  split at h
  · cases h; exact .inr rfl
  · split at h
    · cases h; exact .inl rfl
    · split at h
      · cases h
      · cases h; exact .inl rfl

set_option maxHeartbeats 32000000 in
set_option maxRecDepth 100000 in
theorem back_walk (c : Cir) (s : Places) (l : List UInt8) (A : Option Addr) (q : Nat) (w : World) (h : CLies w w.heap.size c s) (hf : CFits c s) (ho : Octs w l A q) (htab : Tab w) (hm : MaxCell w) :
    Calls Tryz.prog 3 #[cirV c s, .slice A l.length q] w fun e w' => e = .returned (.bool true) ∧ Below w.heap.size w w' := by
  obtain ⟨WA, hWA⟩ : ∃ x, w.alloc (.cells #[.int .i64 c.max, .slice s.ai c.ins.length s.ki, .slice s.al c.lats.length s.kl, .slice s.ao c.outs.length s.ko, .slice s.ab c.bads.length s.kb, .slice s.ac c.invs.length s.kc, .slice s.aa c.ands.length s.ka, .slice s.an c.names.length s.kn] 27) = x := ⟨_, rfl⟩
  have bA : Below w.heap.size w WA := by rw [← hWA]; exact (Below.refl _ _).alloc (Nat.le_refl _) _
  have hA : WA.heap[w.heap.size]? = some (.cells (cirC c s) 27 (0, 0)) := by rw [← hWA]; exact Array.getElem?_push_size
  have TB : Hid (∀ x, Below w.heap.size w x → Tab x) := fun x hx => Tab.later htab hx
  have MX : Hid (∀ x, Below w.heap.size w x → MaxCell x) := fun x hx => hm.below hm.lt hx
  have OB : Hid (∀ x, Below w.heap.size w x → Octs x l A q) := fun x hx => ho.below hx
  have LW : Hid (∀ x, Below w.heap.size w x → CLies x x.heap.size c s) := fun x hx => (h.below hx).more hx.size
  have HF := Lib.hid hf
  have AL := Lib.hid (alive_any WA (TB.out _ bA))
  have HA := Lib.hid hA
  have BA := Lib.hid bA
  clear h hf ho htab hm bA hA
  rw [show cirV c s = .agg #[.int .i64 c.max, .slice s.ai c.ins.length s.ki, .slice s.al c.lats.length s.kl, .slice s.ao c.outs.length s.ko, .slice s.ab c.bads.length s.kb, .slice s.ac c.invs.length s.kc, .slice s.aa c.ands.length s.ka, .slice s.an c.names.length s.kn] from rfl]
  go_enter Tryz.func3, Tryz.ntmps3
  go_wp2_with fail
  refine AL.out.mono ?_
  rintro e w1 ⟨rfl, hb⟩
  have B1 : Hid (Below w.heap.size w w1) := BA.out.trans (hb.mono BA.out.size)
  have K1 : Hid (w1.heap[w.heap.size]? = some (.cells (cirC c s) 27 (0, 0))) := (hb.block _ (lt_of_block HA.out)).trans HA.out
  clear hb AL hWA HA BA
  obtain ⟨e0, e1, e2, e3, e4, e5, e6, e7⟩ := cells8 K1.out
  cases hov : ordV c
  · have WR := Lib.hid (write_no c s w1 (LW.out _ B1.out) HF.out hov)
    rw [show cirV c s = .agg #[.int .i64 c.max, .slice s.ai c.ins.length s.ki, .slice s.al c.lats.length s.kl, .slice s.ao c.outs.length s.ko, .slice s.ab c.bads.length s.kb, .slice s.ac c.invs.length s.kc, .slice s.aa c.ands.length s.ka, .slice s.an c.names.length s.kn] from rfl] at WR
    have HOV := Lib.hid hov
    clear hov
    go_wp2_with fail
    refine WR.out.mono ?_
    rintro e w2 ⟨rfl, hb⟩
    have B2 : Hid (Below w.heap.size w w2) := B1.out.trans (hb.mono B1.out.size)
    have K2 : Hid (w2.heap[w.heap.size]? = some (.cells (cirC c s) 27 (0, 0))) := (hb.block _ (lt_of_block K1.out)).trans K1.out
    clear hb WR e0 e1 e2 e3 e4 e5 e6 e7 K1
    obtain ⟨e0, e1, e2, e3, e4, e5, e6, e7⟩ := cells8 K2.out
    have KR := Lib.hid (fun (u : Wd w2.heap.size w2) => Calls.in_wd u (refordered_any c s u.w (LW.out _ (B2.out.trans (u.ok.mono B2.out.size))) HF.out) (Nat.le_refl _))
    have KN := Lib.hid (fun (u : Wd w2.heap.size w2) => Calls.in_wd (v := .int .i64 35) u ((num_any 35 u.w).mono fun e w' ⟨h1, h2⟩ => ⟨h1, h2 ▸ Below.refl _ _⟩) (Nat.le_refl _))
    rw [HOV.out, show cirV c s = .agg #[.int .i64 c.max, .slice s.ai c.ins.length s.ki, .slice s.al c.lats.length s.kl, .slice s.ao c.outs.length s.ko, .slice s.ab c.bads.length s.kb, .slice s.ac c.invs.length s.kc, .slice s.aa c.ands.length s.ka, .slice s.an c.names.length s.kn] from rfl] at KR
    go_wp2
    have u0 := Wd.cell e0
    have u1 := Wd.cell e1
    have u2 := Wd.cell e2
    have u3 := Wd.cell e3
    have u4 := Wd.cell e4
    have u5 := Wd.cell e5
    have u6 := Wd.cell e6
    have u7 := Wd.cell e7
    refine wp_region_wd (by kernel_rfl) (by kernel_rfl) ?_
    repeat (first | go_big_quiet_skip | (go_big_quiet_want; go_big_quiet_op; first | go_big_quiet_on | (apply Exists.intro; refine ⟨fun u => ?_, ?_⟩; (first | (go_at_call 8; exact KR.out u) | (go_at_call 7; exact KN.out u)); go_big_quiet_on)))
    refine wpQuiet_nil ?_
    intro w9 hw'
    obtain ⟨⟨_, hb9⟩, hw''⟩ := hw'
    subst hw''
    have B4 : Hid (Below w.heap.size w w9) := B2.out.trans (hb9.mono B2.out.size)
    clear u0 u1 u2 u3 u4 u5 u6 u7 e0 e1 e2 e3 e4 e5 e6 e7 hb9 KR KN K2
    obtain ⟨w4, rfl⟩ : ∃ x, x = w9 := ⟨_, rfl⟩
    have RD := Lib.hid (read_any l A q w4 (OB.out _ B4.out) (MX.out _ B4.out))
    cases hq : read5 ordV l with
    | error t =>
      have HT := Lib.hid (read5_err hq)
      have HQ := Lib.hid hq
      clear hq
      go_wp2_with (first | (go_at_call 7; refine (num_any _ _).mono ?_; rintro e w' ⟨rfl, rfl⟩) | fail)
      refine RD.out.mono ?_
      rintro e w3 ⟨hb3, c9, s9, t9, rfl, hl9, hf9, hr9⟩
      rw [HQ.out] at hr9
      obtain ⟨rfl, rfl, rfl⟩ := hr9
      have B3 : Hid (Below w.heap.size w w3) := B4.out.trans (hb3.mono B4.out.size)
      clear hl9 hf9 RD hb3
      rw [show cirV nilC nilP = .agg #[.int .i64 0, .slice none 0 0, .slice none 0 0, .slice none 0 0, .slice none 0 0, .slice none 0 0, .slice none 0 0, .slice none 0 0] from rfl]
      obtain ⟨W4p, hW4p⟩ : ∃ x, w3.alloc (.cells #[.int .i64 0, .slice none 0 0, .slice none 0 0, .slice none 0 0, .slice none 0 0, .slice none 0 0, .slice none 0 0, .slice none 0 0] 27) = x := ⟨_, rfl⟩
      have g4p : W4p.heap[w3.heap.size]? = some (.cells #[.int .i64 0, .slice none 0 0, .slice none 0 0, .slice none 0 0, .slice none 0 0, .slice none 0 0, .slice none 0 0, .slice none 0 0] 27 (0, 0)) := by rw [← hW4p]; exact Array.getElem?_push_size
      have b4p : Below w3.heap.size w3 W4p := by rw [← hW4p]; exact (Below.refl _ _).alloc (Nat.le_refl _) _
      obtain ⟨p1, p2, p3, p4, p5, p6, p7, Xp, pv0, pv1, pv2, pv3, pv4, pv5, pv6, pv7, ⟨ph1, pa0, pb0⟩, ⟨ph2, pa1, pb1⟩, ⟨ph3, pa2, pb2⟩, ⟨ph4, pa3, pb3⟩, ⟨ph5, pa4, pb4⟩, ⟨ph6, pa5, pb5⟩, ⟨ph7, pa6, pb6⟩, ⟨ph8, pa7, pb7⟩, E8p, FCp⟩ := store8 g4p rfl (.int .i64 0) (.slice none 0 0) (.slice none 0 0) (.slice none 0 0) (.slice none 0 0) (.slice none 0 0) (.slice none 0 0) (.slice none 0 0)
      have BXp : Hid (Below w3.heap.size w3 Xp) := FCp.below b4p (Nat.le_refl _)
      have BWp : Hid (Below w.heap.size w Xp) := B3.out.trans (BXp.out.mono B3.out.size)
      have GXp := Lib.hid E8p
      clear g4p b4p FCp
      have f0 : Xp.cell? ⟨w3.heap.size, 0, none⟩ = some (.int .i64 0) := by simp [World.cell?, E8p]
      have f1 : Xp.cell? ⟨w3.heap.size, 1, none⟩ = some (.slice none 0 0) := by simp [World.cell?, E8p]
      have f2 : Xp.cell? ⟨w3.heap.size, 2, none⟩ = some (.slice none 0 0) := by simp [World.cell?, E8p]
      have f3 : Xp.cell? ⟨w3.heap.size, 3, none⟩ = some (.slice none 0 0) := by simp [World.cell?, E8p]
      have f4 : Xp.cell? ⟨w3.heap.size, 4, none⟩ = some (.slice none 0 0) := by simp [World.cell?, E8p]
      have f5 : Xp.cell? ⟨w3.heap.size, 5, none⟩ = some (.slice none 0 0) := by simp [World.cell?, E8p]
      have f6 : Xp.cell? ⟨w3.heap.size, 6, none⟩ = some (.slice none 0 0) := by simp [World.cell?, E8p]
      have f7 : Xp.cell? ⟨w3.heap.size, 7, none⟩ = some (.slice none 0 0) := by simp [World.cell?, E8p]
      clear E8p
      have SM := Lib.hid (refsame_any nilC nilP nilP Xp (nil_lies _ _) (nil_lies _ _) nil_fits)
      rw [show cirV nilC nilP = .agg #[.int .i64 0, .slice none 0 0, .slice none 0 0, .slice none 0 0, .slice none 0 0, .slice none 0 0, .slice none 0 0, .slice none 0 0] from rfl] at SM
      rcases HT.out with ht | ht
      all_goals
        clear HT HQ
        subst ht
        go_wp2_with (first | (go_at_call 7; refine (num_any _ _).mono ?_; rintro e w' ⟨rfl, rfl⟩) | fail)
        refine SM.out.mono ?_
        rintro e w9 ⟨rfl, hb9⟩
        have B9 : Hid (Below w.heap.size w w9) := BWp.out.trans (hb9.mono BWp.out.size)
        clear hb9 SM
        go_wp2
        go_ret
        exact ⟨rfl, B9.out⟩
    | ok r =>
      obtain ⟨hs5, hg5, -, -⟩ := read5_get hq
      have HS := Lib.hid hs5
      have HG := Lib.hid hg5
      have HQ := Lib.hid hq
      have HNE : Hid (l ≠ []) := by unfold Hid; rw [hs5]; simp [oct5, core5, lines5, nlL]
      clear hq hs5 hg5
      go_wp2_with (first | (go_at_call 7; refine (num_any _ _).mono ?_; rintro e w' ⟨rfl, rfl⟩) | fail)
      refine RD.out.mono ?_
      rintro e w3 ⟨hb3, c9, s9, t9, rfl, hl9, hf9, hr9⟩
      rw [HQ.out] at hr9
      obtain ⟨hc9, rfl⟩ := hr9
      obtain rfl := hc9.symm
      have B3 : Hid (Below w.heap.size w w3) := B4.out.trans (hb3.mono B4.out.size)
      clear RD hb3
      rw [show cirV r s9 = .agg #[.int .i64 r.max, .slice s9.ai r.ins.length s9.ki, .slice s9.al r.lats.length s9.kl, .slice s9.ao r.outs.length s9.ko, .slice s9.ab r.bads.length s9.kb, .slice s9.ac r.invs.length s9.kc, .slice s9.aa r.ands.length s9.ka, .slice s9.an r.names.length s9.kn] from rfl]
      obtain ⟨W4p, hW4p⟩ : ∃ x, w3.alloc (.cells #[.int .i64 0, .slice none 0 0, .slice none 0 0, .slice none 0 0, .slice none 0 0, .slice none 0 0, .slice none 0 0, .slice none 0 0] 27) = x := ⟨_, rfl⟩
      have g4p : W4p.heap[w3.heap.size]? = some (.cells #[.int .i64 0, .slice none 0 0, .slice none 0 0, .slice none 0 0, .slice none 0 0, .slice none 0 0, .slice none 0 0, .slice none 0 0] 27 (0, 0)) := by rw [← hW4p]; exact Array.getElem?_push_size
      have b4p : Below w3.heap.size w3 W4p := by rw [← hW4p]; exact (Below.refl _ _).alloc (Nat.le_refl _) _
      obtain ⟨p1, p2, p3, p4, p5, p6, p7, Xp, pv0, pv1, pv2, pv3, pv4, pv5, pv6, pv7, ⟨ph1, pa0, pb0⟩, ⟨ph2, pa1, pb1⟩, ⟨ph3, pa2, pb2⟩, ⟨ph4, pa3, pb3⟩, ⟨ph5, pa4, pb4⟩, ⟨ph6, pa5, pb5⟩, ⟨ph7, pa6, pb6⟩, ⟨ph8, pa7, pb7⟩, E8p, FCp⟩ := store8 g4p rfl (.int .i64 r.max) (.slice s9.ai r.ins.length s9.ki) (.slice s9.al r.lats.length s9.kl) (.slice s9.ao r.outs.length s9.ko) (.slice s9.ab r.bads.length s9.kb) (.slice s9.ac r.invs.length s9.kc) (.slice s9.aa r.ands.length s9.ka) (.slice s9.an r.names.length s9.kn)
      have BXp : Hid (Below w3.heap.size w3 Xp) := FCp.below b4p (Nat.le_refl _)
      have BWp : Hid (Below w.heap.size w Xp) := B3.out.trans (BXp.out.mono B3.out.size)
      have GXp := Lib.hid E8p
      clear g4p b4p FCp
      have f0 : Xp.cell? ⟨w3.heap.size, 0, none⟩ = some (.int .i64 r.max) := by simp [World.cell?, E8p]
      have f1 : Xp.cell? ⟨w3.heap.size, 1, none⟩ = some (.slice s9.ai r.ins.length s9.ki) := by simp [World.cell?, E8p]
      have f2 : Xp.cell? ⟨w3.heap.size, 2, none⟩ = some (.slice s9.al r.lats.length s9.kl) := by simp [World.cell?, E8p]
      have f3 : Xp.cell? ⟨w3.heap.size, 3, none⟩ = some (.slice s9.ao r.outs.length s9.ko) := by simp [World.cell?, E8p]
      have f4 : Xp.cell? ⟨w3.heap.size, 4, none⟩ = some (.slice s9.ab r.bads.length s9.kb) := by simp [World.cell?, E8p]
      have f5 : Xp.cell? ⟨w3.heap.size, 5, none⟩ = some (.slice s9.ac r.invs.length s9.kc) := by simp [World.cell?, E8p]
      have f6 : Xp.cell? ⟨w3.heap.size, 6, none⟩ = some (.slice s9.aa r.ands.length s9.ka) := by simp [World.cell?, E8p]
      have f7 : Xp.cell? ⟨w3.heap.size, 7, none⟩ = some (.slice s9.an r.names.length s9.kn) := by simp [World.cell?, E8p]
      clear E8p
      have WR := Lib.hid (write_yes r s9 Xp ((hl9.below BXp.out).more BXp.out.size) hf9 HG.out (TB.out _ BWp.out))
      rw [← HS.out, show cirV r s9 = .agg #[.int .i64 r.max, .slice s9.ai r.ins.length s9.ki, .slice s9.al r.lats.length s9.kl, .slice s9.ao r.outs.length s9.ko, .slice s9.ab r.bads.length s9.kb, .slice s9.ac r.invs.length s9.kc, .slice s9.aa r.ands.length s9.ka, .slice s9.an r.names.length s9.kn] from rfl] at WR
      clear hl9 hf9
      go_wp2_with (first | (go_at_call 7; refine (num_any _ _).mono ?_; rintro e w' ⟨rfl, rfl⟩) | fail)
      refine WR.out.mono ?_
      rintro e w9 ⟨⟨g9, cap9, rfl, hown⟩, hb9⟩
      have B9 : Hid (Below w.heap.size w w9) := BWp.out.trans (hb9.mono BWp.out.size)
      have cv1 := conv_row hown
      obtain ⟨g2, o2, hA2, -, hc2⟩ := (OB.out _ B9.out).at_ HNE.out
      have cv2 := conv_cells (cap := q) rfl hc2
      rw [← hA2] at cv2
      unfold sv at cv1 cv2
      clear hb9 WR hown hA2 hc2
      go_wp2_with (go_at_call 7; refine (num_any _ _).mono ?_; rintro e w' ⟨rfl, rfl⟩)
      go_ret
      exact ⟨rfl, B9.out⟩
  · have WR := Lib.hid (write_yes c s w1 (LW.out _ B1.out) HF.out hov (TB.out _ B1.out))
    rw [show cirV c s = .agg #[.int .i64 c.max, .slice s.ai c.ins.length s.ki, .slice s.al c.lats.length s.kl, .slice s.ao c.outs.length s.ko, .slice s.ab c.bads.length s.kb, .slice s.ac c.invs.length s.kc, .slice s.aa c.ands.length s.ka, .slice s.an c.names.length s.kn] from rfl] at WR
    have HOV := Lib.hid hov
    have hco : chk c = true ∧ ordB c = true := by unfold ordV at hov; simpa using hov
    have RT : Hid ((oct5 c).length ≤ 65536 → read5 ordV (oct5 c) = .ok c) := read5_of ordV c (fine5_of c hco.1 hco.2) hov
    clear hov hco
    generalize oct5 c = tc at *
    go_wp2_with fail
    refine WR.out.mono ?_
    rintro e w2 ⟨⟨g, cap, rfl, how⟩, hb⟩
    have B2 : Hid (Below w.heap.size w w2) := B1.out.trans (hb.mono B1.out.size)
    have K2 : Hid (w2.heap[w.heap.size]? = some (.cells (cirC c s) 27 (0, 0))) := (hb.block _ (lt_of_block K1.out)).trans K1.out
    have OC := Lib.hid (octs_row how).2
    clear hb how WR e0 e1 e2 e3 e4 e5 e6 e7 K1
    obtain ⟨e0, e1, e2, e3, e4, e5, e6, e7⟩ := cells8 K2.out
    have KR := Lib.hid (fun (u : Wd w2.heap.size w2) => Calls.in_wd u (refordered_any c s u.w (LW.out _ (B2.out.trans (u.ok.mono B2.out.size))) HF.out) (Nat.le_refl _))
    have KN := Lib.hid (fun (u : Wd w2.heap.size w2) => Calls.in_wd (v := .int .i64 0) u ((num_any 0 u.w).mono fun e w' ⟨h1, h2⟩ => ⟨h1, h2 ▸ Below.refl _ _⟩) (Nat.le_refl _))
    rw [HOV.out, show cirV c s = .agg #[.int .i64 c.max, .slice s.ai c.ins.length s.ki, .slice s.al c.lats.length s.kl, .slice s.ao c.outs.length s.ko, .slice s.ab c.bads.length s.kb, .slice s.ac c.invs.length s.kc, .slice s.aa c.ands.length s.ka, .slice s.an c.names.length s.kn] from rfl] at KR
    go_wp2
    have u0 := Wd.cell e0
    have u1 := Wd.cell e1
    have u2 := Wd.cell e2
    have u3 := Wd.cell e3
    have u4 := Wd.cell e4
    have u5 := Wd.cell e5
    have u6 := Wd.cell e6
    have u7 := Wd.cell e7
    refine wp_region_wd (by kernel_rfl) (by kernel_rfl) ?_
    repeat (first | go_big_quiet_skip | (go_big_quiet_want; go_big_quiet_op; first | go_big_quiet_on | (apply Exists.intro; refine ⟨fun u => ?_, ?_⟩; (first | (go_at_call 8; exact KR.out u) | (go_at_call 7; exact KN.out u)); go_big_quiet_on)))
    refine wpQuiet_nil ?_
    intro w9 hw'
    obtain ⟨⟨_, hb9⟩, hw''⟩ := hw'
    subst hw''
    have B4 : Hid (Below w.heap.size w w9) := B2.out.trans (hb9.mono B2.out.size)
    have K4 : Hid (w9.heap[w.heap.size]? = some (.cells (cirC c s) 27 (0, 0))) := (hb9.block _ (lt_of_block K2.out)).trans K2.out
    have OC4 := Lib.hid (OC.out.below hb9)
    clear u0 u1 u2 u3 u4 u5 u6 u7 e0 e1 e2 e3 e4 e5 e6 e7 hb9 KR KN K2 OC
    obtain ⟨w4, rfl⟩ : ∃ x, x = w9 := ⟨_, rfl⟩
    by_cases hlen : tc.length ≤ 65536
    · have hd : decide ((tc.length : Int) ≤ 65536) = true := by simp; omega
      have RD1 := Lib.hid (read_any tc (some ⟨g, 0, none⟩) cap w4 OC4.out (MX.out _ B4.out))
      have HR := Lib.hid (RT.out hlen)
      clear hlen RT
      go_wp2_with (first | (go_at_call 7; refine (num_any _ _).mono ?_; rintro e w' ⟨rfl, rfl⟩) | fail)
      refine RD1.out.mono ?_
      rintro e w5 ⟨hb5, c5, s5, t5, rfl, hl5, hf5, hr5⟩
      rw [HR.out] at hr5
      obtain ⟨hc5, rfl⟩ := hr5
      obtain rfl := hc5.symm
      have B5 : Hid (Below w.heap.size w w5) := B4.out.trans (hb5.mono B4.out.size)
      have K5 : Hid (w5.heap[w.heap.size]? = some (.cells (cirC c s) 27 (0, 0))) := (hb5.block _ (lt_of_block K4.out)).trans K4.out
      clear RD1 hb5 hf5 K4 HR
      rw [show cirV c s5 = .agg #[.int .i64 c.max, .slice s5.ai c.ins.length s5.ki, .slice s5.al c.lats.length s5.kl, .slice s5.ao c.outs.length s5.ko, .slice s5.ab c.bads.length s5.kb, .slice s5.ac c.invs.length s5.kc, .slice s5.aa c.ands.length s5.ka, .slice s5.an c.names.length s5.kn] from rfl]
      obtain ⟨W4r, hW4r⟩ : ∃ x, w5.alloc (.cells #[.int .i64 0, .slice none 0 0, .slice none 0 0, .slice none 0 0, .slice none 0 0, .slice none 0 0, .slice none 0 0, .slice none 0 0] 27) = x := ⟨_, rfl⟩
      have g4r : W4r.heap[w5.heap.size]? = some (.cells #[.int .i64 0, .slice none 0 0, .slice none 0 0, .slice none 0 0, .slice none 0 0, .slice none 0 0, .slice none 0 0, .slice none 0 0] 27 (0, 0)) := by rw [← hW4r]; exact Array.getElem?_push_size
      have b4r : Below w5.heap.size w5 W4r := by rw [← hW4r]; exact (Below.refl _ _).alloc (Nat.le_refl _) _
      obtain ⟨r1, r2, r3, r4, r5, r6, r7, Xr, rv0, rv1, rv2, rv3, rv4, rv5, rv6, rv7, ⟨rh1, ra0, rb0⟩, ⟨rh2, ra1, rb1⟩, ⟨rh3, ra2, rb2⟩, ⟨rh4, ra3, rb3⟩, ⟨rh5, ra4, rb4⟩, ⟨rh6, ra5, rb5⟩, ⟨rh7, ra6, rb6⟩, ⟨rh8, ra7, rb7⟩, E8r, FCr⟩ := store8 g4r rfl (.int .i64 c.max) (.slice s5.ai c.ins.length s5.ki) (.slice s5.al c.lats.length s5.kl) (.slice s5.ao c.outs.length s5.ko) (.slice s5.ab c.bads.length s5.kb) (.slice s5.ac c.invs.length s5.kc) (.slice s5.aa c.ands.length s5.ka) (.slice s5.an c.names.length s5.kn)
      have BXr : Hid (Below w5.heap.size w5 Xr) := FCr.below b4r (Nat.le_refl _)
      have BWr : Hid (Below w.heap.size w Xr) := B5.out.trans (BXr.out.mono B5.out.size)
      have GXr := Lib.hid E8r
      clear g4r b4r FCr
      have j0 : Xr.cell? ⟨w5.heap.size, 0, none⟩ = some (.int .i64 c.max) := by simp [World.cell?, E8r]
      have j1 : Xr.cell? ⟨w5.heap.size, 1, none⟩ = some (.slice s5.ai c.ins.length s5.ki) := by simp [World.cell?, E8r]
      have j2 : Xr.cell? ⟨w5.heap.size, 2, none⟩ = some (.slice s5.al c.lats.length s5.kl) := by simp [World.cell?, E8r]
      have j3 : Xr.cell? ⟨w5.heap.size, 3, none⟩ = some (.slice s5.ao c.outs.length s5.ko) := by simp [World.cell?, E8r]
      have j4 : Xr.cell? ⟨w5.heap.size, 4, none⟩ = some (.slice s5.ab c.bads.length s5.kb) := by simp [World.cell?, E8r]
      have j5 : Xr.cell? ⟨w5.heap.size, 5, none⟩ = some (.slice s5.ac c.invs.length s5.kc) := by simp [World.cell?, E8r]
      have j6 : Xr.cell? ⟨w5.heap.size, 6, none⟩ = some (.slice s5.aa c.ands.length s5.ka) := by simp [World.cell?, E8r]
      have j7 : Xr.cell? ⟨w5.heap.size, 7, none⟩ = some (.slice s5.an c.names.length s5.kn) := by simp [World.cell?, E8r]
      have K6 : Hid (Xr.heap[w.heap.size]? = some (.cells (cirC c s) 27 (0, 0))) := (BXr.out.block _ (lt_of_block K5.out)).trans K5.out
      obtain ⟨e0, e1, e2, e3, e4, e5, e6, e7⟩ := cells8 K6.out
      have SM1 := Lib.hid (refsame_any c s s5 Xr (LW.out _ BWr.out) ((hl5.below BXr.out).more BXr.out.size) HF.out)
      rw [show cirV c s = .agg #[.int .i64 c.max, .slice s.ai c.ins.length s.ki, .slice s.al c.lats.length s.kl, .slice s.ao c.outs.length s.ko, .slice s.ab c.bads.length s.kb, .slice s.ac c.invs.length s.kc, .slice s.aa c.ands.length s.ka, .slice s.an c.names.length s.kn] from rfl, show cirV c s5 = .agg #[.int .i64 c.max, .slice s5.ai c.ins.length s5.ki, .slice s5.al c.lats.length s5.kl, .slice s5.ao c.outs.length s5.ko, .slice s5.ab c.bads.length s5.kb, .slice s5.ac c.invs.length s5.kc, .slice s5.aa c.ands.length s5.ka, .slice s5.an c.names.length s5.kn] from rfl] at SM1
      clear hl5 K5 E8r
      go_wp2_with (first | (go_at_call 7; refine (num_any _ _).mono ?_; rintro e w' ⟨rfl, rfl⟩) | fail)
      refine SM1.out.mono ?_
      rintro e w6 ⟨rfl, hb6⟩
      have B6 : Hid (Below w.heap.size w w6) := BWr.out.trans (hb6.mono BWr.out.size)
      clear SM1 hb6 e0 e1 e2 e3 e4 e5 e6 e7 j0 j1 j2 j3 j4 j5 j6 j7 K6
      have RD := Lib.hid (read_any l A q w6 (OB.out _ B6.out) (MX.out _ B6.out))
      cases hq : read5 ordV l with
      | error t =>
        have HT := Lib.hid (read5_err hq)
        have HQ := Lib.hid hq
        clear hq
        go_wp2_with (first | (go_at_call 7; refine (num_any _ _).mono ?_; rintro e w' ⟨rfl, rfl⟩) | fail)
        refine RD.out.mono ?_
        rintro e w3 ⟨hb3, c9, s9, t9, rfl, hl9, hf9, hr9⟩
        rw [HQ.out] at hr9
        obtain ⟨rfl, rfl, rfl⟩ := hr9
        have B3 : Hid (Below w.heap.size w w3) := B6.out.trans (hb3.mono B6.out.size)
        clear hl9 hf9 RD hb3
        rw [show cirV nilC nilP = .agg #[.int .i64 0, .slice none 0 0, .slice none 0 0, .slice none 0 0, .slice none 0 0, .slice none 0 0, .slice none 0 0, .slice none 0 0] from rfl]
        obtain ⟨W4p, hW4p⟩ : ∃ x, w3.alloc (.cells #[.int .i64 0, .slice none 0 0, .slice none 0 0, .slice none 0 0, .slice none 0 0, .slice none 0 0, .slice none 0 0, .slice none 0 0] 27) = x := ⟨_, rfl⟩
        have g4p : W4p.heap[w3.heap.size]? = some (.cells #[.int .i64 0, .slice none 0 0, .slice none 0 0, .slice none 0 0, .slice none 0 0, .slice none 0 0, .slice none 0 0, .slice none 0 0] 27 (0, 0)) := by rw [← hW4p]; exact Array.getElem?_push_size
        have b4p : Below w3.heap.size w3 W4p := by rw [← hW4p]; exact (Below.refl _ _).alloc (Nat.le_refl _) _
        obtain ⟨p1, p2, p3, p4, p5, p6, p7, Xp, pv0, pv1, pv2, pv3, pv4, pv5, pv6, pv7, ⟨ph1, pa0, pb0⟩, ⟨ph2, pa1, pb1⟩, ⟨ph3, pa2, pb2⟩, ⟨ph4, pa3, pb3⟩, ⟨ph5, pa4, pb4⟩, ⟨ph6, pa5, pb5⟩, ⟨ph7, pa6, pb6⟩, ⟨ph8, pa7, pb7⟩, E8p, FCp⟩ := store8 g4p rfl (.int .i64 0) (.slice none 0 0) (.slice none 0 0) (.slice none 0 0) (.slice none 0 0) (.slice none 0 0) (.slice none 0 0) (.slice none 0 0)
        have BXp : Hid (Below w3.heap.size w3 Xp) := FCp.below b4p (Nat.le_refl _)
        have BWp : Hid (Below w.heap.size w Xp) := B3.out.trans (BXp.out.mono B3.out.size)
        have GXp := Lib.hid E8p
        clear g4p b4p FCp
        have f0 : Xp.cell? ⟨w3.heap.size, 0, none⟩ = some (.int .i64 0) := by simp [World.cell?, E8p]
        have f1 : Xp.cell? ⟨w3.heap.size, 1, none⟩ = some (.slice none 0 0) := by simp [World.cell?, E8p]
        have f2 : Xp.cell? ⟨w3.heap.size, 2, none⟩ = some (.slice none 0 0) := by simp [World.cell?, E8p]
        have f3 : Xp.cell? ⟨w3.heap.size, 3, none⟩ = some (.slice none 0 0) := by simp [World.cell?, E8p]
        have f4 : Xp.cell? ⟨w3.heap.size, 4, none⟩ = some (.slice none 0 0) := by simp [World.cell?, E8p]
        have f5 : Xp.cell? ⟨w3.heap.size, 5, none⟩ = some (.slice none 0 0) := by simp [World.cell?, E8p]
        have f6 : Xp.cell? ⟨w3.heap.size, 6, none⟩ = some (.slice none 0 0) := by simp [World.cell?, E8p]
        have f7 : Xp.cell? ⟨w3.heap.size, 7, none⟩ = some (.slice none 0 0) := by simp [World.cell?, E8p]
        clear E8p
        have SM := Lib.hid (refsame_any nilC nilP nilP Xp (nil_lies _ _) (nil_lies _ _) nil_fits)
        rw [show cirV nilC nilP = .agg #[.int .i64 0, .slice none 0 0, .slice none 0 0, .slice none 0 0, .slice none 0 0, .slice none 0 0, .slice none 0 0, .slice none 0 0] from rfl] at SM
        rcases HT.out with ht | ht
        all_goals
          clear HT HQ
          subst ht
          go_wp2_with (first | (go_at_call 7; refine (num_any _ _).mono ?_; rintro e w' ⟨rfl, rfl⟩) | fail)
          refine SM.out.mono ?_
          rintro e w9 ⟨rfl, hb9⟩
          have B9 : Hid (Below w.heap.size w w9) := BWp.out.trans (hb9.mono BWp.out.size)
          clear hb9 SM
          go_wp2
          go_ret
          exact ⟨rfl, B9.out⟩
      | ok r =>
        obtain ⟨hs5, hg5, -, -⟩ := read5_get hq
        have HS := Lib.hid hs5
        have HG := Lib.hid hg5
        have HQ := Lib.hid hq
        have HNE : Hid (l ≠ []) := by unfold Hid; rw [hs5]; simp [oct5, core5, lines5, nlL]
        clear hq hs5 hg5
        go_wp2_with (first | (go_at_call 7; refine (num_any _ _).mono ?_; rintro e w' ⟨rfl, rfl⟩) | fail)
        refine RD.out.mono ?_
        rintro e w3 ⟨hb3, c9, s9, t9, rfl, hl9, hf9, hr9⟩
        rw [HQ.out] at hr9
        obtain ⟨hc9, rfl⟩ := hr9
        obtain rfl := hc9.symm
        have B3 : Hid (Below w.heap.size w w3) := B6.out.trans (hb3.mono B6.out.size)
        clear RD hb3
        rw [show cirV r s9 = .agg #[.int .i64 r.max, .slice s9.ai r.ins.length s9.ki, .slice s9.al r.lats.length s9.kl, .slice s9.ao r.outs.length s9.ko, .slice s9.ab r.bads.length s9.kb, .slice s9.ac r.invs.length s9.kc, .slice s9.aa r.ands.length s9.ka, .slice s9.an r.names.length s9.kn] from rfl]
        obtain ⟨W4p, hW4p⟩ : ∃ x, w3.alloc (.cells #[.int .i64 0, .slice none 0 0, .slice none 0 0, .slice none 0 0, .slice none 0 0, .slice none 0 0, .slice none 0 0, .slice none 0 0] 27) = x := ⟨_, rfl⟩
        have g4p : W4p.heap[w3.heap.size]? = some (.cells #[.int .i64 0, .slice none 0 0, .slice none 0 0, .slice none 0 0, .slice none 0 0, .slice none 0 0, .slice none 0 0, .slice none 0 0] 27 (0, 0)) := by rw [← hW4p]; exact Array.getElem?_push_size
        have b4p : Below w3.heap.size w3 W4p := by rw [← hW4p]; exact (Below.refl _ _).alloc (Nat.le_refl _) _
        obtain ⟨p1, p2, p3, p4, p5, p6, p7, Xp, pv0, pv1, pv2, pv3, pv4, pv5, pv6, pv7, ⟨ph1, pa0, pb0⟩, ⟨ph2, pa1, pb1⟩, ⟨ph3, pa2, pb2⟩, ⟨ph4, pa3, pb3⟩, ⟨ph5, pa4, pb4⟩, ⟨ph6, pa5, pb5⟩, ⟨ph7, pa6, pb6⟩, ⟨ph8, pa7, pb7⟩, E8p, FCp⟩ := store8 g4p rfl (.int .i64 r.max) (.slice s9.ai r.ins.length s9.ki) (.slice s9.al r.lats.length s9.kl) (.slice s9.ao r.outs.length s9.ko) (.slice s9.ab r.bads.length s9.kb) (.slice s9.ac r.invs.length s9.kc) (.slice s9.aa r.ands.length s9.ka) (.slice s9.an r.names.length s9.kn)
        have BXp : Hid (Below w3.heap.size w3 Xp) := FCp.below b4p (Nat.le_refl _)
        have BWp : Hid (Below w.heap.size w Xp) := B3.out.trans (BXp.out.mono B3.out.size)
        have GXp := Lib.hid E8p
        clear g4p b4p FCp
        have f0 : Xp.cell? ⟨w3.heap.size, 0, none⟩ = some (.int .i64 r.max) := by simp [World.cell?, E8p]
        have f1 : Xp.cell? ⟨w3.heap.size, 1, none⟩ = some (.slice s9.ai r.ins.length s9.ki) := by simp [World.cell?, E8p]
        have f2 : Xp.cell? ⟨w3.heap.size, 2, none⟩ = some (.slice s9.al r.lats.length s9.kl) := by simp [World.cell?, E8p]
        have f3 : Xp.cell? ⟨w3.heap.size, 3, none⟩ = some (.slice s9.ao r.outs.length s9.ko) := by simp [World.cell?, E8p]
        have f4 : Xp.cell? ⟨w3.heap.size, 4, none⟩ = some (.slice s9.ab r.bads.length s9.kb) := by simp [World.cell?, E8p]
        have f5 : Xp.cell? ⟨w3.heap.size, 5, none⟩ = some (.slice s9.ac r.invs.length s9.kc) := by simp [World.cell?, E8p]
        have f6 : Xp.cell? ⟨w3.heap.size, 6, none⟩ = some (.slice s9.aa r.ands.length s9.ka) := by simp [World.cell?, E8p]
        have f7 : Xp.cell? ⟨w3.heap.size, 7, none⟩ = some (.slice s9.an r.names.length s9.kn) := by simp [World.cell?, E8p]
        clear E8p
        have WR := Lib.hid (write_yes r s9 Xp ((hl9.below BXp.out).more BXp.out.size) hf9 HG.out (TB.out _ BWp.out))
        rw [← HS.out, show cirV r s9 = .agg #[.int .i64 r.max, .slice s9.ai r.ins.length s9.ki, .slice s9.al r.lats.length s9.kl, .slice s9.ao r.outs.length s9.ko, .slice s9.ab r.bads.length s9.kb, .slice s9.ac r.invs.length s9.kc, .slice s9.aa r.ands.length s9.ka, .slice s9.an r.names.length s9.kn] from rfl] at WR
        clear hl9 hf9
        go_wp2_with (first | (go_at_call 7; refine (num_any _ _).mono ?_; rintro e w' ⟨rfl, rfl⟩) | fail)
        refine WR.out.mono ?_
        rintro e w9 ⟨⟨g9, cap9, rfl, hown⟩, hb9⟩
        have B9 : Hid (Below w.heap.size w w9) := BWp.out.trans (hb9.mono BWp.out.size)
        have cv1 := conv_row hown
        obtain ⟨g2, o2, hA2, -, hc2⟩ := (OB.out _ B9.out).at_ HNE.out
        have cv2 := conv_cells (cap := q) rfl hc2
        rw [← hA2] at cv2
        unfold sv at cv1 cv2
        clear hb9 WR hown hA2 hc2
        go_wp2_with (go_at_call 7; refine (num_any _ _).mono ?_; rintro e w' ⟨rfl, rfl⟩)
        go_ret
        exact ⟨rfl, B9.out⟩
    · have hd : decide ((tc.length : Int) ≤ 65536) = false := by simp; omega
      clear hlen RT K4 OC4
      have RD := Lib.hid (read_any l A q w4 (OB.out _ B4.out) (MX.out _ B4.out))
      cases hq : read5 ordV l with
      | error t =>
        have HT := Lib.hid (read5_err hq)
        have HQ := Lib.hid hq
        clear hq
        go_wp2_with (first | (go_at_call 7; refine (num_any _ _).mono ?_; rintro e w' ⟨rfl, rfl⟩) | fail)
        refine RD.out.mono ?_
        rintro e w3 ⟨hb3, c9, s9, t9, rfl, hl9, hf9, hr9⟩
        rw [HQ.out] at hr9
        obtain ⟨rfl, rfl, rfl⟩ := hr9
        have B3 : Hid (Below w.heap.size w w3) := B4.out.trans (hb3.mono B4.out.size)
        clear hl9 hf9 RD hb3
        rw [show cirV nilC nilP = .agg #[.int .i64 0, .slice none 0 0, .slice none 0 0, .slice none 0 0, .slice none 0 0, .slice none 0 0, .slice none 0 0, .slice none 0 0] from rfl]
        obtain ⟨W4p, hW4p⟩ : ∃ x, w3.alloc (.cells #[.int .i64 0, .slice none 0 0, .slice none 0 0, .slice none 0 0, .slice none 0 0, .slice none 0 0, .slice none 0 0, .slice none 0 0] 27) = x := ⟨_, rfl⟩
        have g4p : W4p.heap[w3.heap.size]? = some (.cells #[.int .i64 0, .slice none 0 0, .slice none 0 0, .slice none 0 0, .slice none 0 0, .slice none 0 0, .slice none 0 0, .slice none 0 0] 27 (0, 0)) := by rw [← hW4p]; exact Array.getElem?_push_size
        have b4p : Below w3.heap.size w3 W4p := by rw [← hW4p]; exact (Below.refl _ _).alloc (Nat.le_refl _) _
        obtain ⟨p1, p2, p3, p4, p5, p6, p7, Xp, pv0, pv1, pv2, pv3, pv4, pv5, pv6, pv7, ⟨ph1, pa0, pb0⟩, ⟨ph2, pa1, pb1⟩, ⟨ph3, pa2, pb2⟩, ⟨ph4, pa3, pb3⟩, ⟨ph5, pa4, pb4⟩, ⟨ph6, pa5, pb5⟩, ⟨ph7, pa6, pb6⟩, ⟨ph8, pa7, pb7⟩, E8p, FCp⟩ := store8 g4p rfl (.int .i64 0) (.slice none 0 0) (.slice none 0 0) (.slice none 0 0) (.slice none 0 0) (.slice none 0 0) (.slice none 0 0) (.slice none 0 0)
        have BXp : Hid (Below w3.heap.size w3 Xp) := FCp.below b4p (Nat.le_refl _)
        have BWp : Hid (Below w.heap.size w Xp) := B3.out.trans (BXp.out.mono B3.out.size)
        have GXp := Lib.hid E8p
        clear g4p b4p FCp
        have f0 : Xp.cell? ⟨w3.heap.size, 0, none⟩ = some (.int .i64 0) := by simp [World.cell?, E8p]
        have f1 : Xp.cell? ⟨w3.heap.size, 1, none⟩ = some (.slice none 0 0) := by simp [World.cell?, E8p]
        have f2 : Xp.cell? ⟨w3.heap.size, 2, none⟩ = some (.slice none 0 0) := by simp [World.cell?, E8p]
        have f3 : Xp.cell? ⟨w3.heap.size, 3, none⟩ = some (.slice none 0 0) := by simp [World.cell?, E8p]
        have f4 : Xp.cell? ⟨w3.heap.size, 4, none⟩ = some (.slice none 0 0) := by simp [World.cell?, E8p]
        have f5 : Xp.cell? ⟨w3.heap.size, 5, none⟩ = some (.slice none 0 0) := by simp [World.cell?, E8p]
        have f6 : Xp.cell? ⟨w3.heap.size, 6, none⟩ = some (.slice none 0 0) := by simp [World.cell?, E8p]
        have f7 : Xp.cell? ⟨w3.heap.size, 7, none⟩ = some (.slice none 0 0) := by simp [World.cell?, E8p]
        clear E8p
        have SM := Lib.hid (refsame_any nilC nilP nilP Xp (nil_lies _ _) (nil_lies _ _) nil_fits)
        rw [show cirV nilC nilP = .agg #[.int .i64 0, .slice none 0 0, .slice none 0 0, .slice none 0 0, .slice none 0 0, .slice none 0 0, .slice none 0 0, .slice none 0 0] from rfl] at SM
        rcases HT.out with ht | ht
        all_goals
          clear HT HQ
          subst ht
          go_wp2_with (first | (go_at_call 7; refine (num_any _ _).mono ?_; rintro e w' ⟨rfl, rfl⟩) | fail)
          refine SM.out.mono ?_
          rintro e w9 ⟨rfl, hb9⟩
          have B9 : Hid (Below w.heap.size w w9) := BWp.out.trans (hb9.mono BWp.out.size)
          clear hb9 SM
          go_wp2
          go_ret
          exact ⟨rfl, B9.out⟩
      | ok r =>
        obtain ⟨hs5, hg5, -, -⟩ := read5_get hq
        have HS := Lib.hid hs5
        have HG := Lib.hid hg5
        have HQ := Lib.hid hq
        have HNE : Hid (l ≠ []) := by unfold Hid; rw [hs5]; simp [oct5, core5, lines5, nlL]
        clear hq hs5 hg5
        go_wp2_with (first | (go_at_call 7; refine (num_any _ _).mono ?_; rintro e w' ⟨rfl, rfl⟩) | fail)
        refine RD.out.mono ?_
        rintro e w3 ⟨hb3, c9, s9, t9, rfl, hl9, hf9, hr9⟩
        rw [HQ.out] at hr9
        obtain ⟨hc9, rfl⟩ := hr9
        obtain rfl := hc9.symm
        have B3 : Hid (Below w.heap.size w w3) := B4.out.trans (hb3.mono B4.out.size)
        clear RD hb3
        rw [show cirV r s9 = .agg #[.int .i64 r.max, .slice s9.ai r.ins.length s9.ki, .slice s9.al r.lats.length s9.kl, .slice s9.ao r.outs.length s9.ko, .slice s9.ab r.bads.length s9.kb, .slice s9.ac r.invs.length s9.kc, .slice s9.aa r.ands.length s9.ka, .slice s9.an r.names.length s9.kn] from rfl]
        obtain ⟨W4p, hW4p⟩ : ∃ x, w3.alloc (.cells #[.int .i64 0, .slice none 0 0, .slice none 0 0, .slice none 0 0, .slice none 0 0, .slice none 0 0, .slice none 0 0, .slice none 0 0] 27) = x := ⟨_, rfl⟩
        have g4p : W4p.heap[w3.heap.size]? = some (.cells #[.int .i64 0, .slice none 0 0, .slice none 0 0, .slice none 0 0, .slice none 0 0, .slice none 0 0, .slice none 0 0, .slice none 0 0] 27 (0, 0)) := by rw [← hW4p]; exact Array.getElem?_push_size
        have b4p : Below w3.heap.size w3 W4p := by rw [← hW4p]; exact (Below.refl _ _).alloc (Nat.le_refl _) _
        obtain ⟨p1, p2, p3, p4, p5, p6, p7, Xp, pv0, pv1, pv2, pv3, pv4, pv5, pv6, pv7, ⟨ph1, pa0, pb0⟩, ⟨ph2, pa1, pb1⟩, ⟨ph3, pa2, pb2⟩, ⟨ph4, pa3, pb3⟩, ⟨ph5, pa4, pb4⟩, ⟨ph6, pa5, pb5⟩, ⟨ph7, pa6, pb6⟩, ⟨ph8, pa7, pb7⟩, E8p, FCp⟩ := store8 g4p rfl (.int .i64 r.max) (.slice s9.ai r.ins.length s9.ki) (.slice s9.al r.lats.length s9.kl) (.slice s9.ao r.outs.length s9.ko) (.slice s9.ab r.bads.length s9.kb) (.slice s9.ac r.invs.length s9.kc) (.slice s9.aa r.ands.length s9.ka) (.slice s9.an r.names.length s9.kn)
        have BXp : Hid (Below w3.heap.size w3 Xp) := FCp.below b4p (Nat.le_refl _)
        have BWp : Hid (Below w.heap.size w Xp) := B3.out.trans (BXp.out.mono B3.out.size)
        have GXp := Lib.hid E8p
        clear g4p b4p FCp
        have f0 : Xp.cell? ⟨w3.heap.size, 0, none⟩ = some (.int .i64 r.max) := by simp [World.cell?, E8p]
        have f1 : Xp.cell? ⟨w3.heap.size, 1, none⟩ = some (.slice s9.ai r.ins.length s9.ki) := by simp [World.cell?, E8p]
        have f2 : Xp.cell? ⟨w3.heap.size, 2, none⟩ = some (.slice s9.al r.lats.length s9.kl) := by simp [World.cell?, E8p]
        have f3 : Xp.cell? ⟨w3.heap.size, 3, none⟩ = some (.slice s9.ao r.outs.length s9.ko) := by simp [World.cell?, E8p]
        have f4 : Xp.cell? ⟨w3.heap.size, 4, none⟩ = some (.slice s9.ab r.bads.length s9.kb) := by simp [World.cell?, E8p]
        have f5 : Xp.cell? ⟨w3.heap.size, 5, none⟩ = some (.slice s9.ac r.invs.length s9.kc) := by simp [World.cell?, E8p]
        have f6 : Xp.cell? ⟨w3.heap.size, 6, none⟩ = some (.slice s9.aa r.ands.length s9.ka) := by simp [World.cell?, E8p]
        have f7 : Xp.cell? ⟨w3.heap.size, 7, none⟩ = some (.slice s9.an r.names.length s9.kn) := by simp [World.cell?, E8p]
        clear E8p
        have WR := Lib.hid (write_yes r s9 Xp ((hl9.below BXp.out).more BXp.out.size) hf9 HG.out (TB.out _ BWp.out))
        rw [← HS.out, show cirV r s9 = .agg #[.int .i64 r.max, .slice s9.ai r.ins.length s9.ki, .slice s9.al r.lats.length s9.kl, .slice s9.ao r.outs.length s9.ko, .slice s9.ab r.bads.length s9.kb, .slice s9.ac r.invs.length s9.kc, .slice s9.aa r.ands.length s9.ka, .slice s9.an r.names.length s9.kn] from rfl] at WR
        clear hl9 hf9
        go_wp2_with (first | (go_at_call 7; refine (num_any _ _).mono ?_; rintro e w' ⟨rfl, rfl⟩) | fail)
        refine WR.out.mono ?_
        rintro e w9 ⟨⟨g9, cap9, rfl, hown⟩, hb9⟩
        have B9 : Hid (Below w.heap.size w w9) := BWp.out.trans (hb9.mono BWp.out.size)
        have cv1 := conv_row hown
        obtain ⟨g2, o2, hA2, -, hc2⟩ := (OB.out _ B9.out).at_ HNE.out
        have cv2 := conv_cells (cap := q) rfl hc2
        rw [← hA2] at cv2
        unfold sv at cv1 cv2
        clear hb9 WR hown hA2 hc2
        go_wp2_with (go_at_call 7; refine (num_any _ _).mono ?_; rintro e w' ⟨rfl, rfl⟩)
        go_ret
        exact ⟨rfl, B9.out⟩
end Go.Proofs.YtopjddmgejfalaaGreatDoor.Aig
namespace Go.Proofs.YtopjddmgejfalaaGreatDoor.Aig
open Go.ChangeShapes Go.WideShapes Go.ChangeAt Go.RowKit Go.Maps Dig Circ Cw Aag

theorem g0 : Tryz.prog.globalNamed "internal/strconv.uint64pow10" = some 1 := by kernel_rfl
theorem g0type : (Tryz.prog.globals[1]?).map (·.type) = some 162 := by kernel_rfl
theorem cells20 : Tryz.prog.cellsOf 162 = 20 := by kernel_rfl
theorem cells1 : Tryz.prog.cellsOf 146 = 1 := by kernel_rfl
/-- what the row's list gives -/
theorem tab_of {W : World} (h : laidMetH Tryz.prog Rows.aigBackRow.laid W) : Tab W := by
  have h1 : laidMet Tryz.prog Rows.aigBackRow.laid W := h
  have ht : Lib.TabIs Tryz.prog W "internal/strconv.uint64pow10" .u64 Lib.pow10Tab :=
    Lib.tabIs_of_head (rest := _) g0 g0type Tryz.underlying162 Tryz.underlying146 cells1 cells20 (Frame.laid_tail (Frame.laid_tail h1))
  have hc := ht.cell g0 0 (by decide)
  have hlt : 1 < W.heap.size := by
    rcases Nat.lt_or_ge 1 W.heap.size with h | h
    · exact h
    · unfold World.cell? at hc; rw [Array.getElem?_eq_none h] at hc; cases hc
  intro w' hb
  exact var?_below hb g0 hlt ht
theorem first_weights {H : Type} {t : TypeId} {d : DataW H} {ts : List TypeId} {ds : List (DataW H)} (hsz : (DataW.weightsEach Tryz.prog (t :: ts) (d :: ds)).all (· ≤ reachBytes) = true) : ∀ n ∈ DataW.weights Tryz.prog t d, n ≤ reachBytes := fun n hn => by
  have := List.all_eq_true.1 hsz n (DataW.weights_mem_each (j := 0) rfl rfl n hn)
  simpa using this
/-- octets handed over -/
theorem el_byte {H : Type} {enc : TypeId × Value → H} {w : World} {n : Nat} {cs : List Value} {y : DataW H × List MemPlace} (h : DataW.trod enc Tryz.prog w 0 (fun _ => true) true n 5 cs = some y) : ∃ b : UInt8, cs = [.int .u8 b.toNat] := by
  obtain ⟨x, hc, _, hw⟩ := DataW.trod_int Tryz.underlying5 h
  obtain ⟨h0, h1⟩ := bounds_u8 hw
  refine ⟨UInt8.ofNat x.toNat, ?_⟩
  rw [hc]
  have e : ((UInt8.ofNat x.toNat).toNat : Int) = x := by
    rw [UInt8.toNat_ofNat']
    omega
  rw [e]
set_option maxRecDepth 100000 in
theorem open_octs {H : Type} {enc : TypeId × Value → H} {w : World} {r : Reach} {b0 : Nat} {v : Value} {d : DataW H} {p : List MemPlace} (hv : Value.okWide Tryz.prog w r b0 28 v) (h : DataW.Trod enc Tryz.prog w 0 (fun _ => true) true 28 v d p) :
    ∃ (l : List UInt8) (A : Option Addr) (q : Nat), v = .slice A l.length q ∧ Octs w l A q := by
  obtain ⟨a1, len1, cap1, rfl⟩ := okWide_slice Tryz.underlying28 hv
  obtain ⟨fuel, hf⟩ := h
  rcases Go.Deep.open_slice1 Tryz.underlying28 (by kernel_rfl) hf with ⟨e, -⟩ | ⟨a, len, cap, m, n, V, D, Pl, e, _, hl, hmx, hmm, _, hi⟩
  · simp [Value.cells] at e
    obtain ⟨rfl, rfl, rfl⟩ := e
    exact ⟨[], none, 0, rfl, ⟨Nat.le_refl _, Nat.zero_le _, fun _ => rfl, fun h => absurd rfl h⟩⟩
  · simp [Value.cells] at e
    obtain ⟨rfl, rfl, rfl⟩ := e
    have hm' : m = cap1 := by rw [hmm]; rfl
    subst hm'
    have ex : ∀ i, ∃ y : UInt8, i < len1 → w.cell? (a.add i) = some (.int .u8 y.toNat) := fun i => by
      by_cases hlt : i < len1
      · obtain ⟨hc, ht⟩ := hi i (by omega)
        obtain ⟨y, e⟩ := el_byte ht
        simp at e
        exact ⟨y, fun _ => by rw [hc, e]⟩
      · exact ⟨0, fun h => absurd h hlt⟩
    obtain ⟨f, hf⟩ := Classical.axiomOfChoice ex
    refine ⟨(List.range len1).map f, some a, m, by simp, ⟨by simpa using hl, by unfold maxLen at hmx; omega, (fun e => by cases e), fun hne => ?_⟩⟩
    have hpos : 0 < len1 := by
      rcases Nat.eq_zero_or_pos len1 with h0 | h0
      · exact absurd (by rw [h0]; rfl) hne
      · exact h0
    have hz := hf 0 hpos
    have hz0 : w.cell? a = some (.int .u8 (f 0).toNat) := by simpa [Addr.add] using hz
    have hsp : a.spot = none := Cw.spot_none hz0
    obtain ⟨b, o, sp⟩ := a
    simp only at hsp
    subst hsp
    refine ⟨b, o, rfl, World.block_lt_of_cell? _ _ hz0, fun i y hy => ?_⟩
    rw [List.getElem?_map] at hy
    have hil : i < len1 := by
      rcases Nat.lt_or_ge i len1 with h1 | h1
      · exact h1
      · rw [List.getElem?_eq_none (by simpa using h1)] at hy; cases hy
    rw [List.getElem?_eq_getElem (by simpa using hil)] at hy
    simp at hy
    subst hy
    have := hf i hil
    unfold Addr.add at this
    by_cases hi0 : i = 0
    · subst hi0; simpa using this
    · simpa [hi0] using this
set_option maxRecDepth 100000 in
theorem back_core {H : Type} {enc : TypeId × Value → H} (W : World) (v : Value) (d : DataW H) (p : List MemPlace) {r : Reach} {b0 : Nat} (hv : Value.okWide Tryz.prog W r b0 27 v) (h : DataW.Trod enc Tryz.prog W 0 (fun _ => true) true 27 v d p)
    (v2 : Value) (d2 : DataW H) (p2 : List MemPlace) {r2 : Reach} {b2 : Nat} (hv2 : Value.okWide Tryz.prog W r2 b2 28 v2) (h2 : DataW.Trod enc Tryz.prog W 0 (fun _ => true) true 28 v2 d2 p2)
    {ts : List TypeId} {ds : List (DataW H)} (hsz : (DataW.weightsEach Tryz.prog (27 :: ts) (d :: ds)).all (· ≤ reachBytes) = true) (hL : laidMetH Tryz.prog Rows.aigBackRow.laid W) (hopen : W.ShapedOpen Tryz.prog) :
    Calls Tryz.prog 3 #[v, v2] W fun e W' => e = .returned (.bool true) ∧ Below W.heap.size W W' := by
  obtain ⟨c, s, rfl, hl, hf⟩ := open_circ hv h (first_weights hsz)
  obtain ⟨l, A, q, rfl, ho⟩ := open_octs hv2 h2
  exact back_walk c s l A q W hl hf ho (tab_of hL) (Tryz.laysM219.s1_3 W hopen)
end Go.Proofs.YtopjddmgejfalaaGreatDoor.Aig
