/- The walk of AigOrders; conditions: the table of powers of ten is as it is laid, what is asked of it fits. AigOrders and AigWrites, from what a row hands over; condition: the listed package-level variables are as they are laid. -/
import Derived.Test.YtpbggngeopjefaaDoorPk40
import Derived.OwnWalk
namespace Go.Proofs.YtpbggngeopjefaaDoor.Aig
open Go.ChangeShapes Go.WideShapes Go.ChangeAt Go.RowKit Go.Maps Dig Circ Cw Aag

theorem chk_order {c : Cir} (h : chk c = true) : chk (orderM c) = true ∧ ordV (orderM c) = true ∧ orderM (orderM c) = orderM c := by
  have hr : refOk c = true := by rw [← chk_same]; exact h
  have h1 := order_may hr
  have h2 := order_ord hr
  have h3 : chk (orderM c) = true := by rw [chk_same]; exact h1
  exact ⟨h3, by unfold ordV; rw [h3, h2]; rfl, ord_id h1 h2⟩

set_option maxHeartbeats 16000000 in
set_option maxRecDepth 100000 in
theorem orders_walk (c : Cir) (s : Places) (w : World) (h : CLies w w.heap.size c s) (hf : CFits c s) (htab : Tab w) :
    Calls Tryd.prog 3 #[cirV c s] w fun e w' => e = .returned (.bool true) ∧ Below w.heap.size w w' := by
  obtain ⟨WA, hWA⟩ : ∃ x, w.alloc (.cells #[.int .i64 c.max, .slice s.ai c.ins.length s.ki, .slice s.al c.lats.length s.kl, .slice s.ao c.outs.length s.ko, .slice s.ab c.bads.length s.kb, .slice s.ac c.invs.length s.kc, .slice s.aa c.ands.length s.ka, .slice s.an c.names.length s.kn] 27) = x := ⟨_, rfl⟩
  have sA : WA.heap.size = w.heap.size + 1 := by rw [← hWA]; simp
  have bA : Below w.heap.size w WA := by rw [← hWA]; exact (Below.refl _ _).alloc (Nat.le_refl _) _
  have hA : WA.heap[w.heap.size]? = some (.cells (cirC c s) 27 (0, 0)) := by rw [← hWA]; exact Array.getElem?_push_size
  obtain ⟨e0, e1, e2, e3, e4, e5, e6, e7⟩ := cells8 hA
  have HA := Lib.hid hA
  have BA := Lib.hid bA
  have H := Lib.hid h
  have HF := Lib.hid hf
  have LW : Hid (∀ x, Below w.heap.size w x → CLies x x.heap.size c s) := fun x hx => (H.out.below hx).more hx.size
  have TB : Hid (∀ x, Below w.heap.size w x → Tab x) := fun x hx => Tab.later htab hx
  obtain ⟨bv, hbv⟩ : ∃ b, b = ordV c := ⟨_, rfl⟩
  have KA := Lib.hid (fun (u : Wd WA.heap.size WA) => Calls.in_wd u (alive_any u.w (TB.out _ (bA.trans (u.ok.mono bA.size)))) (Nat.le_refl _))
  have KO := Lib.hid (fun (u : Wd WA.heap.size WA) => Calls.in_wd u (ordered_any c s u.w (LW.out _ (bA.trans (u.ok.mono bA.size))) hf) (Nat.le_refl _))
  have KR := Lib.hid (fun (u : Wd WA.heap.size WA) => Calls.in_wd u (refordered_any c s u.w (LW.out _ (bA.trans (u.ok.mono bA.size))) hf) (Nat.le_refl _))
  rw [← hbv] at KO KR
  have hnb : (bv != bv) = false := by simp
  rw [show cirV c s = .agg #[.int .i64 c.max, .slice s.ai c.ins.length s.ki, .slice s.al c.lats.length s.kl, .slice s.ao c.outs.length s.ko, .slice s.ab c.bads.length s.kb, .slice s.ac c.invs.length s.kc, .slice s.aa c.ands.length s.ka, .slice s.an c.names.length s.kn] from rfl] at KO KR ⊢
  clear h hf htab bA hA sA hbv
  go_enter Tryd.func3, Tryd.ntmps3
  go_wp2
  have u0 := Wd.cell e0
  have u1 := Wd.cell e1
  have u2 := Wd.cell e2
  have u3 := Wd.cell e3
  have u4 := Wd.cell e4
  have u5 := Wd.cell e5
  have u6 := Wd.cell e6
  have u7 := Wd.cell e7
  refine wp_region_wd (by kernel_rfl) (by kernel_rfl) ?_
  repeat (first | go_big_quiet_skip | (go_big_quiet_want; go_big_quiet_op; first | go_big_quiet_on | (apply Exists.intro; refine ⟨fun u => ?_, ?_⟩; (first | (go_at_call 5; exact KA.out u) | (go_at_call 6; exact KO.out u) | (go_at_call 7; exact KR.out u)); go_big_quiet_on)))
  refine wpQuiet_nil ?_
  intro w9 hw'
  obtain ⟨⟨_, hb9⟩, hw''⟩ := hw'
  subst hw''
  have B1 : Hid (Below w.heap.size w w9) := BA.out.trans (hb9.mono BA.out.size)
  have K1 : Hid (w9.heap[w.heap.size]? = some (.cells (cirC c s) 27 (0, 0))) := (hb9.block _ (lt_of_block HA.out)).trans HA.out
  clear u0 u1 u2 u3 u4 u5 u6 u7 e0 e1 e2 e3 e4 e5 e6 e7 hb9 hWA HA BA KA KO KR hnb
  obtain ⟨w1, rfl⟩ : ∃ x, x = w9 := ⟨_, rfl⟩
  obtain ⟨e0, e1, e2, e3, e4, e5, e6, e7⟩ := cells8 K1.out
  cases hc : chk c with
  | false =>
    have hrv : refV c = 9 := refV_no c (by rw [← chk_same]; exact hc)
    have ON := Lib.hid (order_no c s w1 (LW.out _ B1.out) HF.out hc)
    rw [show cirV c s = .agg #[.int .i64 c.max, .slice s.ai c.ins.length s.ki, .slice s.al c.lats.length s.kl, .slice s.ao c.outs.length s.ko, .slice s.ab c.bads.length s.kb, .slice s.ac c.invs.length s.kc, .slice s.aa c.ands.length s.ka, .slice s.an c.names.length s.kn] from rfl, show cirV cirZ plZ = .agg #[.int .i64 0, .slice none 0 0, .slice none 0 0, .slice none 0 0, .slice none 0 0, .slice none 0 0, .slice none 0 0, .slice none 0 0] from rfl] at ON
    clear hc
    go_wp2_with fail
    refine ON.out.mono ?_
    rintro e w2 ⟨rfl, hb⟩
    have B2 : Hid (Below w.heap.size w w2) := B1.out.trans (hb.mono B1.out.size)
    have K2 : Hid (w2.heap[w.heap.size]? = some (.cells (cirC c s) 27 (0, 0))) := (hb.block _ (lt_of_block K1.out)).trans K1.out
    clear e0 e1 e2 e3 e4 e5 e6 e7 hb ON
    go_wp2
    obtain ⟨W3, hW3⟩ : ∃ x, w2.alloc (.cells #[.int .i64 0, .slice none 0 0, .slice none 0 0, .slice none 0 0, .slice none 0 0, .slice none 0 0, .slice none 0 0, .slice none 0 0] 27) = x := ⟨_, rfl⟩
    have b3 : Below w2.heap.size w2 W3 := by rw [← hW3]; exact (Below.refl _ _).alloc (Nat.le_refl _) _
    have D3 : Hid (W3.heap[w2.heap.size]? = some (.cells (cirC cirZ plZ) 27 (0, 0))) := by rw [← hW3]; exact Array.getElem?_push_size
    have B3 : Hid (Below w.heap.size w W3) := B2.out.trans (b3.mono B2.out.size)
    have K3 : Hid (W3.heap[w.heap.size]? = some (.cells (cirC c s) 27 (0, 0))) := (b3.block _ (lt_of_block K2.out)).trans K2.out
    clear b3
    obtain ⟨e0, e1, e2, e3, e4, e5, e6, e7⟩ := cells8 K3.out
    have KC := Lib.hid (fun (u : Wd W3.heap.size W3) => Calls.in_wd u (refcheck_any c s u.w (LW.out _ (B3.out.trans (u.ok.mono B3.out.size))) HF.out) (Nat.le_refl _))
    have KN := Lib.hid (fun (u : Wd W3.heap.size W3) => Calls.in_wd (v := .int .i64 9) u ((num_any 9 u.w).mono fun e w' ⟨h1, h2⟩ => ⟨h1, h2 ▸ Below.refl _ _⟩) (Nat.le_refl _))
    rw [hrv, show cirV c s = .agg #[.int .i64 c.max, .slice s.ai c.ins.length s.ki, .slice s.al c.lats.length s.kl, .slice s.ao c.outs.length s.ko, .slice s.ab c.bads.length s.kb, .slice s.ac c.invs.length s.kc, .slice s.aa c.ands.length s.ka, .slice s.an c.names.length s.kn] from rfl] at KC
    clear hrv
    rw [hW3]
    have u0 := Wd.cell e0
    have u1 := Wd.cell e1
    have u2 := Wd.cell e2
    have u3 := Wd.cell e3
    have u4 := Wd.cell e4
    have u5 := Wd.cell e5
    have u6 := Wd.cell e6
    have u7 := Wd.cell e7
    refine wp_region_wd (by kernel_rfl) (by kernel_rfl) ?_
    repeat (first | go_big_quiet_skip | (go_big_quiet_want; go_big_quiet_op; first | go_big_quiet_on | (apply Exists.intro; refine ⟨fun u => ?_, ?_⟩; (first | (go_at_call 10; exact KC.out u) | (go_at_call 9; exact KN.out u)); go_big_quiet_on)))
    refine wpQuiet_nil ?_
    intro w9 hw'
    obtain ⟨⟨_, hb9⟩, hw''⟩ := hw'
    subst hw''
    have B4 : Hid (Below w.heap.size w w9) := B3.out.trans (hb9.mono B3.out.size)
    have D4 : Hid (w9.heap[w2.heap.size]? = some (.cells (cirC cirZ plZ) 27 (0, 0))) := (hb9.block _ (lt_of_block D3.out)).trans D3.out
    clear u0 u1 u2 u3 u4 u5 u6 u7 e0 e1 e2 e3 e4 e5 e6 e7 hb9 KC KN hW3
    obtain ⟨d0, d1, d2, d3, d4, d5, d6, d7⟩ := cells8 D4.out
    simp only [cirZ, plZ, List.length_nil] at d0 d1 d2 d3 d4 d5 d6 d7
    have SM := Lib.hid (refsame_any cirZ plZ plZ w9 (z_lies _ _) (z_lies _ _) z_fits)
    rw [show cirV cirZ plZ = .agg #[.int .i64 0, .slice none 0 0, .slice none 0 0, .slice none 0 0, .slice none 0 0, .slice none 0 0, .slice none 0 0, .slice none 0 0] from rfl] at SM
    go_wp2_with (go_at_call 9; refine (num_any _ _).mono ?_; rintro e w' ⟨rfl, rfl⟩)
    refine SM.out.mono ?_
    rintro e w5 ⟨rfl, hb⟩
    have B5 : Hid (Below w.heap.size w w5) := B4.out.trans (hb.mono B4.out.size)
    clear hb SM d0 d1 d2 d3 d4 d5 d6 d7
    go_wp2
    go_ret
    exact ⟨rfl, B5.out⟩
  | true =>
    have hr : refOk c = true := by rw [← chk_same]; exact hc
    have hrv : refV c = 0 := refV_yes c hr
    obtain ⟨hc2, ho2, hid2⟩ := chk_order hc
    have HC2 := Lib.hid hc2
    have HO2 := Lib.hid ho2
    have HI2 := Lib.hid hid2
    have HR := Lib.hid hr
    have OY := Lib.hid (order_yes c s w1 (LW.out _ B1.out) HF.out hc)
    have LEN : Hid ((orderM c).ands.length = c.ands.length ∧ (orderM c).max = (c.ins.length : Int) + c.lats.length + c.ands.length) := by unfold Hid orderM; simp
    have hcn := own_count hr
    have hln := own_len c
    have HBD : Hid (c.ins.length + c.lats.length + c.ands.length ≤ 2048) := by unfold Hid; omega
    rw [show cirV c s = .agg #[.int .i64 c.max, .slice s.ai c.ins.length s.ki, .slice s.al c.lats.length s.kl, .slice s.ao c.outs.length s.ko, .slice s.ab c.bads.length s.kb, .slice s.ac c.invs.length s.kc, .slice s.aa c.ands.length s.ka, .slice s.an c.names.length s.kn] from rfl] at OY
    clear hc hr hc2 ho2 hid2 hcn hln
    go_wp2_with fail
    refine OY.out.mono ?_
    rintro e w2 ⟨⟨s1, rfl, hown⟩, hb⟩
    have B2 : Hid (Below w.heap.size w w2) := B1.out.trans (hb.mono B1.out.size)
    have K2 : Hid (w2.heap[w.heap.size]? = some (.cells (cirC c s) 27 (0, 0))) := (hb.block _ (lt_of_block K1.out)).trans K1.out
    have FD := Lib.hid (order_fits HR.out HF.out hown)
    have LD0 := Lib.hid (Owned.lies hown)
    clear e0 e1 e2 e3 e4 e5 e6 e7 hb OY hown
    obtain ⟨d, hd⟩ : ∃ d, d = orderM c := ⟨_, rfl⟩
    rw [← hd] at HC2 HO2 HI2 LEN FD LD0 ⊢
    clear hd
    obtain ⟨W3, hW3⟩ : ∃ x, w2.alloc (.cells #[.int .i64 d.max, .slice s1.ai d.ins.length s1.ki, .slice s1.al d.lats.length s1.kl, .slice s1.ao d.outs.length s1.ko, .slice s1.ab d.bads.length s1.kb, .slice s1.ac d.invs.length s1.kc, .slice s1.aa d.ands.length s1.ka, .slice s1.an d.names.length s1.kn] 27) = x := ⟨_, rfl⟩
    have b3 : Below w2.heap.size w2 W3 := by rw [← hW3]; exact (Below.refl _ _).alloc (Nat.le_refl _) _
    have D3 : Hid (W3.heap[w2.heap.size]? = some (.cells (cirC d s1) 27 (0, 0))) := by rw [← hW3]; exact Array.getElem?_push_size
    have B3 : Hid (Below w.heap.size w W3) := B2.out.trans (b3.mono B2.out.size)
    have K3 : Hid (W3.heap[w.heap.size]? = some (.cells (cirC c s) 27 (0, 0))) := (b3.block _ (lt_of_block K2.out)).trans K2.out
    have LD : Hid (∀ x, Below W3.heap.size W3 x → CLies x x.heap.size d s1) := fun x hx => ((LD0.out.below b3).below (hx.mono b3.size)).more (Nat.le_trans b3.size hx.size)
    have B23 := Lib.hid b3
    clear b3
    obtain ⟨e0, e1, e2, e3, e4, e5, e6, e7⟩ := cells8 K3.out
    have KC := Lib.hid (fun (u : Wd W3.heap.size W3) => Calls.in_wd u (refcheck_any c s u.w (LW.out _ (B3.out.trans (u.ok.mono B3.out.size))) HF.out) (Nat.le_refl _))
    have KN := Lib.hid (fun (u : Wd W3.heap.size W3) => Calls.in_wd (v := .int .i64 0) u ((num_any 0 u.w).mono fun e w' ⟨h1, h2⟩ => ⟨h1, h2 ▸ Below.refl _ _⟩) (Nat.le_refl _))
    rw [hrv, show cirV c s = .agg #[.int .i64 c.max, .slice s.ai c.ins.length s.ki, .slice s.al c.lats.length s.kl, .slice s.ao c.outs.length s.ko, .slice s.ab c.bads.length s.kb, .slice s.ac c.invs.length s.kc, .slice s.aa c.ands.length s.ka, .slice s.an c.names.length s.kn] from rfl] at KC
    clear hrv
    rw [show cirV d s1 = .agg #[.int .i64 d.max, .slice s1.ai d.ins.length s1.ki, .slice s1.al d.lats.length s1.kl, .slice s1.ao d.outs.length s1.ko, .slice s1.ab d.bads.length s1.kb, .slice s1.ac d.invs.length s1.kc, .slice s1.aa d.ands.length s1.ka, .slice s1.an d.names.length s1.kn] from rfl]
    go_wp2
    have u0 := Wd.cell e0
    have u1 := Wd.cell e1
    have u2 := Wd.cell e2
    have u3 := Wd.cell e3
    have u4 := Wd.cell e4
    have u5 := Wd.cell e5
    have u6 := Wd.cell e6
    have u7 := Wd.cell e7
    refine wp_region_wd (by kernel_rfl) (by kernel_rfl) ?_
    repeat (first | go_big_quiet_skip | (go_big_quiet_want; go_big_quiet_op; first | go_big_quiet_on | (apply Exists.intro; refine ⟨fun u => ?_, ?_⟩; (first | (go_at_call 10; exact KC.out u) | (go_at_call 9; exact KN.out u)); go_big_quiet_on)))
    refine wpQuiet_nil ?_
    intro w9 hw'
    obtain ⟨⟨_, hb9⟩, hw''⟩ := hw'
    subst hw''
    have B9 := Lib.hid hb9
    have B4 : Hid (Below w.heap.size w w9) := B3.out.trans (hb9.mono B3.out.size)
    have D4 : Hid (w9.heap[w2.heap.size]? = some (.cells (cirC d s1) 27 (0, 0))) := (hb9.block _ (lt_of_block D3.out)).trans D3.out
    have K4 : Hid (w9.heap[w.heap.size]? = some (.cells (cirC c s) 27 (0, 0))) := (hb9.block _ (lt_of_block K3.out)).trans K3.out
    clear u0 u1 u2 u3 u4 u5 u6 u7 e0 e1 e2 e3 e4 e5 e6 e7 hb9 KC KN hW3
    obtain ⟨w4, rfl⟩ : ∃ x, x = w9 := ⟨_, rfl⟩
    obtain ⟨d0, d1, d2, d3, d4, d5, d6, d7⟩ := cells8 D4.out
    have OY := Lib.hid (order_yes d s1 w4 (LD.out _ B9.out) FD.out HC2.out)
    rw [HI2.out, show cirV d s1 = .agg #[.int .i64 d.max, .slice s1.ai d.ins.length s1.ki, .slice s1.al d.lats.length s1.kl, .slice s1.ao d.outs.length s1.ko, .slice s1.ab d.bads.length s1.kb, .slice s1.ac d.invs.length s1.kc, .slice s1.aa d.ands.length s1.ka, .slice s1.an d.names.length s1.kn] from rfl] at OY
    go_wp2_with (go_at_call 9; refine (num_any _ _).mono ?_; rintro e w' ⟨rfl, rfl⟩)
    refine OY.out.mono ?_
    rintro e w5 ⟨⟨s2, rfl, hown⟩, hb⟩
    have B5 : Hid (Below w.heap.size w w5) := B4.out.trans (hb.mono B4.out.size)
    have D5 : Hid (w5.heap[w2.heap.size]? = some (.cells (cirC d s1) 27 (0, 0))) := (hb.block _ (lt_of_block D4.out)).trans D4.out
    have K5 : Hid (w5.heap[w.heap.size]? = some (.cells (cirC c s) 27 (0, 0))) := (hb.block _ (lt_of_block K4.out)).trans K4.out
    have LF0 := Lib.hid (Owned.lies hown)
    have B45 : Hid (Below W3.heap.size W3 w5) := B9.out.trans (hb.mono B9.out.size)
    clear d0 d1 d2 d3 d4 d5 d6 d7 hb OY hown
    obtain ⟨W6, hW6⟩ : ∃ x, w5.alloc (.cells #[.int .i64 d.max, .slice s2.ai d.ins.length s2.ki, .slice s2.al d.lats.length s2.kl, .slice s2.ao d.outs.length s2.ko, .slice s2.ab d.bads.length s2.kb, .slice s2.ac d.invs.length s2.kc, .slice s2.aa d.ands.length s2.ka, .slice s2.an d.names.length s2.kn] 27) = x := ⟨_, rfl⟩
    have b6 : Below w5.heap.size w5 W6 := by rw [← hW6]; exact (Below.refl _ _).alloc (Nat.le_refl _) _
    have F6 : Hid (W6.heap[w5.heap.size]? = some (.cells (cirC d s2) 27 (0, 0))) := by rw [← hW6]; exact Array.getElem?_push_size
    have B6 : Hid (Below w.heap.size w W6) := B5.out.trans (b6.mono B5.out.size)
    have D6 : Hid (W6.heap[w2.heap.size]? = some (.cells (cirC d s1) 27 (0, 0))) := (b6.block _ (lt_of_block D5.out)).trans D5.out
    have K6 : Hid (W6.heap[w.heap.size]? = some (.cells (cirC c s) 27 (0, 0))) := (b6.block _ (lt_of_block K5.out)).trans K5.out
    have B46 : Hid (Below W3.heap.size W3 W6) := B45.out.trans (b6.mono B45.out.size)
    have LF : Hid (CLies W6 W6.heap.size d s2) := (LF0.out.below b6).more b6.size
    clear b6
    obtain ⟨d0, d1, d2, d3, d4, d5, d6, d7⟩ := cells8 D6.out
    have RO := Lib.hid (refordered_any d s1 W6 (LD.out _ B46.out) FD.out)
    rw [HO2.out, show cirV d s1 = .agg #[.int .i64 d.max, .slice s1.ai d.ins.length s1.ki, .slice s1.al d.lats.length s1.kl, .slice s1.ao d.outs.length s1.ko, .slice s1.ab d.bads.length s1.kb, .slice s1.ac d.invs.length s1.kc, .slice s1.aa d.ands.length s1.ka, .slice s1.an d.names.length s1.kn] from rfl] at RO
    rw [show cirV d s2 = .agg #[.int .i64 d.max, .slice s2.ai d.ins.length s2.ki, .slice s2.al d.lats.length s2.kl, .slice s2.ao d.outs.length s2.ko, .slice s2.ab d.bads.length s2.kb, .slice s2.ac d.invs.length s2.kc, .slice s2.aa d.ands.length s2.ka, .slice s2.an d.names.length s2.kn] from rfl]
    go_wp2_with fail
    refine RO.out.mono ?_
    rintro e w7 ⟨rfl, hb⟩
    have B7 : Hid (Below w.heap.size w w7) := B6.out.trans (hb.mono B6.out.size)
    have D7 : Hid (w7.heap[w2.heap.size]? = some (.cells (cirC d s1) 27 (0, 0))) := (hb.block _ (lt_of_block D6.out)).trans D6.out
    have F7 : Hid (w7.heap[w5.heap.size]? = some (.cells (cirC d s2) 27 (0, 0))) := (hb.block _ (lt_of_block F6.out)).trans F6.out
    have K7 : Hid (w7.heap[w.heap.size]? = some (.cells (cirC c s) 27 (0, 0))) := (hb.block _ (lt_of_block K6.out)).trans K6.out
    have LD7 := Lib.hid (LD.out _ (B46.out.trans (hb.mono B46.out.size)))
    have LF7 : Hid (CLies w7 w7.heap.size d s2) := (LF.out.below hb).more hb.size
    clear d0 d1 d2 d3 d4 d5 d6 d7 hb RO hW6
    obtain ⟨d0, d1, d2, d3, d4, d5, d6, d7⟩ := cells8 D7.out
    obtain ⟨f0, f1, f2, f3, f4, f5, f6, f7⟩ := cells8 F7.out
    have SM := Lib.hid (refsame_any d s1 s2 w7 LD7.out LF7.out FD.out)
    rw [show cirV d s1 = .agg #[.int .i64 d.max, .slice s1.ai d.ins.length s1.ki, .slice s1.al d.lats.length s1.kl, .slice s1.ao d.outs.length s1.ko, .slice s1.ab d.bads.length s1.kb, .slice s1.ac d.invs.length s1.kc, .slice s1.aa d.ands.length s1.ka, .slice s1.an d.names.length s1.kn] from rfl, show cirV d s2 = .agg #[.int .i64 d.max, .slice s2.ai d.ins.length s2.ki, .slice s2.al d.lats.length s2.kl, .slice s2.ao d.outs.length s2.ko, .slice s2.ab d.bads.length s2.kb, .slice s2.ac d.invs.length s2.kc, .slice s2.aa d.ands.length s2.ka, .slice s2.an d.names.length s2.kn] from rfl] at SM
    go_wp2_with (go_at_call 9; refine (num_any _ _).mono ?_; rintro e w' ⟨rfl, rfl⟩)
    refine SM.out.mono ?_
    rintro e w8 ⟨rfl, hb⟩
    have B8 : Hid (Below w.heap.size w w8) := B7.out.trans (hb.mono B7.out.size)
    have D8 : Hid (w8.heap[w2.heap.size]? = some (.cells (cirC d s1) 27 (0, 0))) := (hb.block _ (lt_of_block D7.out)).trans D7.out
    have K8 : Hid (w8.heap[w.heap.size]? = some (.cells (cirC c s) 27 (0, 0))) := (hb.block _ (lt_of_block K7.out)).trans K7.out
    clear d0 d1 d2 d3 d4 d5 d6 d7 f0 f1 f2 f3 f4 f5 f6 f7 hb SM
    obtain ⟨d0, -, -, -, -, -, d6, -⟩ := cells8 D8.out
    obtain ⟨-, e1, e2, -, -, -, e6, -⟩ := cells8 K8.out
    rw [LEN.out.1] at d6
    rw [LEN.out.2] at d0
    have hbd := HBD.out
    have t1 : (((c.ands.length : Int)) == (c.ands.length : Int)) = true := by simp
    have t2 : (((c.ins.length : Int) + c.lats.length + c.ands.length) == ((c.ins.length : Int) + c.lats.length + c.ands.length)) = true := by simp
    go_wp2
    go_ret
    exact ⟨rfl, B8.out⟩
end Go.Proofs.YtpbggngeopjefaaDoor.Aig
namespace Go.Proofs.YtpbggngeopjefaaDoor.Aig
open Go.ChangeShapes Go.WideShapes Go.ChangeAt Go.RowKit Go.Maps Dig Circ Cw Aag

theorem g0 : Tryd.prog.globalNamed "internal/strconv.uint64pow10" = some 1 := by kernel_rfl
theorem g0type : (Tryd.prog.globals[1]?).map (·.type) = some 130 := by kernel_rfl
theorem cells20 : Tryd.prog.cellsOf 130 = 20 := by kernel_rfl
theorem cells1 : Tryd.prog.cellsOf 124 = 1 := by kernel_rfl
/-- what the row's list gives -/
theorem tab_of {W : World} (h : laidMetH Tryd.prog Rows.aigOrdersRow.laid W) : Tab W := by
  have h1 : laidMet Tryd.prog Rows.aigOrdersRow.laid W := h
  have ht : Lib.TabIs Tryd.prog W "internal/strconv.uint64pow10" .u64 Lib.pow10Tab :=
    Lib.tabIs_of_head (rest := _) g0 g0type Tryd.underlying130 Tryd.underlying124 cells1 cells20 (Frame.laid_tail (Frame.laid_tail h1))
  have hc := ht.cell g0 0 (by decide)
  have hlt : 1 < W.heap.size := by
    rcases Nat.lt_or_ge 1 W.heap.size with h | h
    · exact h
    · unfold World.cell? at hc; rw [Array.getElem?_eq_none h] at hc; cases hc
  intro w' hb
  exact var?_below hb g0 hlt ht
theorem first_weights {H : Type} {t : TypeId} {d : DataW H} {ts : List TypeId} {ds : List (DataW H)} (hsz : (DataW.weightsEach Tryd.prog (t :: ts) (d :: ds)).all (· ≤ reachBytes) = true) : ∀ n ∈ DataW.weights Tryd.prog t d, n ≤ reachBytes := fun n hn => by
  have := List.all_eq_true.1 hsz n (DataW.weights_mem_each (j := 0) rfl rfl n hn)
  simpa using this
set_option maxRecDepth 100000 in
theorem orders_core {H : Type} {enc : TypeId × Value → H} (W : World) (v : Value) (d : DataW H) (p : List MemPlace) {r : Reach} {b0 : Nat} (hv : Value.okWide Tryd.prog W r b0 27 v) (h : DataW.Trod enc Tryd.prog W 0 (fun _ => true) true 27 v d p)
    {ts : List TypeId} {ds : List (DataW H)} (hsz : (DataW.weightsEach Tryd.prog (27 :: ts) (d :: ds)).all (· ≤ reachBytes) = true) (hL : laidMetH Tryd.prog Rows.aigOrdersRow.laid W) :
    Calls Tryd.prog 3 #[v] W fun e W' => e = .returned (.bool true) ∧ Below W.heap.size W W' := by
  obtain ⟨c, s, rfl, hl, hf⟩ := open_circ hv h (first_weights hsz)
  exact orders_walk c s W hl hf (tab_of hL)
end Go.Proofs.YtpbggngeopjefaaDoor.Aig
