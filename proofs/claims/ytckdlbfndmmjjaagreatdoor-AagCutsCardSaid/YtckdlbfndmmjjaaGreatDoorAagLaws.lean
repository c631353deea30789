/- The laws of layer 4, walked, and for whatever arguments the form lets in; conditions: the form's own reach, the listed variables as they are laid. -/
import Derived.Test.YtckdlbfndmmjjaaGreatDoorAagLawH
namespace Go.Proofs.YtckdlbfndmmjjaaGreatDoor.Aag
open Go.ChangeShapes Go.WideShapes Go.ChangeAt Go.RowKit Go.Maps Dig Circ Cw

set_option maxHeartbeats 8000000 in
set_option maxRecDepth 100000 in
theorem back_walk (c : Cir) (s : Places) (x : ByteArray) (w : World) (hl : CLies w w.heap.size c s) (hf : CFits c s) (htab : Tab w) (hm : MaxCell w) :
    Calls Tryz.prog 3 #[cirV c s, .string x] w fun e w' => e = .returned (.bool true) ∧ Below w.heap.size w w' := by
  have H := Lib.hid hl
  have HF := Lib.hid hf
  have HT := Lib.hid htab
  have HM := Lib.hid hm
  have L0 := Lib.hid (Law.start w c s)
  have AL := Lib.hid (alive_any _ (L0.out.tab HT.out))
  clear hl hf htab hm
  unfold cirV at *
  rw [show cirC c s = #[.int .i64 c.max, .slice s.ai c.ins.length s.ki, .slice s.al c.lats.length s.kl, .slice s.ao c.outs.length s.ko, .slice s.ab c.bads.length s.kb, .slice s.ac c.invs.length s.kc, .slice s.aa c.ands.length s.ka, .slice s.an c.names.length s.kn] from rfl] at AL L0 ⊢
  go_enter Tryz.func3, Tryz.ntmps3
  go_wp2_with fail
  refine AL.out.mono ?_
  rintro e w1 ⟨rfl, hb⟩
  have L1 := Lib.hid (L0.out.step hb)
  clear hb AL L0
  have PR := Lib.hid (print_any2 c s w1 (L1.out.lies H.out) HF.out (L1.out.tab HT.out))
  unfold cirV at PR
  rw [show cirC c s = #[.int .i64 c.max, .slice s.ai c.ins.length s.ki, .slice s.al c.lats.length s.kl, .slice s.ao c.outs.length s.ko, .slice s.ab c.bads.length s.kb, .slice s.ac c.invs.length s.kc, .slice s.aa c.ands.length s.ka, .slice s.an c.names.length s.kn] from rfl] at PR
  obtain ⟨e0, e1, e2, e3, e4, e5, e6, e7⟩ := cells8 L1.out.box
  cases hc : chk c
  · rw [hc] at PR
    simp only [Bool.false_eq_true, if_false] at PR
    go_wp2_with fail
    refine PR.out.mono ?_
    rintro e w2 ⟨rfl, hb⟩
    have L2 := Lib.hid (L1.out.step hb)
    clear hb PR hc L1 e0 e1 e2 e3 e4 e5 e6 e7
    cases hq : parseM chk x.data.toList with
    | error b =>
      have PN := Lib.hid (parse_not x.data.toList b w2 (L2.out.max HM.out) hq)
      have HB0 := parseM_code hq
      rw [show sv x.data.toList = .string x from text_eq x] at PN
      unfold cirV at PN
      rw [show cirC nilC nilP = #[.int .i64 0, .slice none 0 0, .slice none 0 0, .slice none 0 0, .slice none 0 0, .slice none 0 0, .slice none 0 0, .slice none 0 0] from rfl] at PN
      clear hq
      obtain ⟨b1, b2⟩ := b
      simp only at HB0 PN
      have hb0 : (!(b2 == 0)) = true := by rw [HB0]; rfl
      have hn0 : ¬ b2 = 0 := by simpa using HB0
      go_wp2_with (first | (go_at_call 8; refine (num_any _ _).mono ?_; rintro e w' ⟨rfl, rfl⟩) | fail)
      refine PN.out.mono ?_
      rintro e y ⟨rfl, hb⟩
      have LY := Lib.hid (L2.out.step hb)
      clear hb
      obtain ⟨wbq, hwbq⟩ : ∃ x, y.alloc (.cells #[.int .i64 0, .slice none 0 0, .slice none 0 0, .slice none 0 0, .slice none 0 0, .slice none 0 0, .slice none 0 0, .slice none 0 0] 27) = x := ⟨_, rfl⟩
      have gb : wbq.heap[y.heap.size]? = some (.cells #[.int .i64 0, .slice none 0 0, .slice none 0 0, .slice none 0 0, .slice none 0 0, .slice none 0 0, .slice none 0 0, .slice none 0 0] 27 (0, 0)) := by rw [← hwbq]; exact Array.getElem?_push_size
      have bb : Below y.heap.size y wbq := by rw [← hwbq]; exact (Below.refl _ _).alloc (Nat.le_refl _) _
      obtain ⟨Xq_1, Xq_2, Xq_3, Xq_4, Xq_5, Xq_6, Xq_7, Vq, vq_0, vq_1, vq_2, vq_3, vq_4, vq_5, vq_6, vq_7, ⟨hXq_0, aq_0, bq_0⟩, ⟨hXq_1, aq_1, bq_1⟩, ⟨hXq_2, aq_2, bq_2⟩, ⟨hXq_3, aq_3, bq_3⟩, ⟨hXq_4, aq_4, bq_4⟩, ⟨hXq_5, aq_5, bq_5⟩, ⟨hXq_6, aq_6, bq_6⟩, ⟨hXq_7, aq_7, bq_7⟩, E8, FC⟩ := store8 gb rfl (.int .i64 0) (.slice none 0 0) (.slice none 0 0) (.slice none 0 0) (.slice none 0 0) (.slice none 0 0) (.slice none 0 0) (.slice none 0 0)
      have BXq : Hid (Below y.heap.size y Vq) := FC.below bb (Nat.le_refl _)
      have GXq : Hid (Vq.heap[y.heap.size]? = some (.cells (cirC nilC nilP) 27 (0, 0))) := E8
      have dq_0 : Vq.cell? ⟨y.heap.size, 0, none⟩ = some (.int .i64 0) := by simp [World.cell?, E8]
      have dq_1 : Vq.cell? ⟨y.heap.size, 1, none⟩ = some (.slice none 0 0) := by simp [World.cell?, E8]
      have dq_2 : Vq.cell? ⟨y.heap.size, 2, none⟩ = some (.slice none 0 0) := by simp [World.cell?, E8]
      have dq_3 : Vq.cell? ⟨y.heap.size, 3, none⟩ = some (.slice none 0 0) := by simp [World.cell?, E8]
      have dq_4 : Vq.cell? ⟨y.heap.size, 4, none⟩ = some (.slice none 0 0) := by simp [World.cell?, E8]
      have dq_5 : Vq.cell? ⟨y.heap.size, 5, none⟩ = some (.slice none 0 0) := by simp [World.cell?, E8]
      have dq_6 : Vq.cell? ⟨y.heap.size, 6, none⟩ = some (.slice none 0 0) := by simp [World.cell?, E8]
      have dq_7 : Vq.cell? ⟨y.heap.size, 7, none⟩ = some (.slice none 0 0) := by simp [World.cell?, E8]
      clear gb bb E8 FC
      have RS := Lib.hid (refsame_any nilC nilP nilP Vq (nil_lies _ _) (nil_lies _ _) nil_fits)
      unfold cirV at RS
      rw [show cirC nilC nilP = #[.int .i64 0, .slice none 0 0, .slice none 0 0, .slice none 0 0, .slice none 0 0, .slice none 0 0, .slice none 0 0, .slice none 0 0] from rfl] at RS
      have LV := Lib.hid (LY.out.step BXq.out)
      go_wp2_with (first | (go_at_call 8; refine (num_any _ _).mono ?_; rintro e w' ⟨rfl, rfl⟩) | fail)
      refine RS.out.mono ?_
      rintro e z ⟨rfl, hb⟩
      have LZ := Lib.hid (LV.out.step hb)
      clear hb
      go_wp2
      go_ret
      exact ⟨rfl, LZ.out.bel⟩
    | ok r =>
      obtain ⟨d, n⟩ := r
      have PB := Lib.hid (parse_back x.data.toList d n w2 (L2.out.max HM.out) hq)
      obtain ⟨hsz, hdc, -⟩ := parse_ok hq
      obtain ⟨rest, hs, hor⟩ := parse_begins hq
      rw [show sv x.data.toList = .string x from text_eq x] at PB
      have HX : x = ⟨(textL d ++ rest).toArray⟩ := bytes_eq _ _ (by rw [hs])
      have HOR := Lib.hid hor
      have HDC := Lib.hid hdc
      have HLX : (textL d ++ rest).length ≤ 65536 := by rw [← hs]; exact hsz
      clear hq hs hor hdc hsz
      subst HX
      unfold cirV at PB
      go_wp2_with (first | (go_at_call 8; refine (num_any _ _).mono ?_; rintro e w' ⟨rfl, rfl⟩) | fail)
      refine PB.out.mono ?_
      rintro e y ⟨P, rfl, hl2, hf2, hb⟩
      have LY := Lib.hid (L2.out.step hb)
      have HL2 := Lib.hid hl2
      have HF2 := Lib.hid hf2
      clear hb hl2 hf2 PB
      rw [show cirC d P = #[.int .i64 d.max, .slice P.ai d.ins.length P.ki, .slice P.al d.lats.length P.kl, .slice P.ao d.outs.length P.ko, .slice P.ab d.bads.length P.kb, .slice P.ac d.invs.length P.kc, .slice P.aa d.ands.length P.ka, .slice P.an d.names.length P.kn] from rfl]
      obtain ⟨wbq, hwbq⟩ : ∃ x, y.alloc (.cells #[.int .i64 0, .slice none 0 0, .slice none 0 0, .slice none 0 0, .slice none 0 0, .slice none 0 0, .slice none 0 0, .slice none 0 0] 27) = x := ⟨_, rfl⟩
      have gb : wbq.heap[y.heap.size]? = some (.cells #[.int .i64 0, .slice none 0 0, .slice none 0 0, .slice none 0 0, .slice none 0 0, .slice none 0 0, .slice none 0 0, .slice none 0 0] 27 (0, 0)) := by rw [← hwbq]; exact Array.getElem?_push_size
      have bb : Below y.heap.size y wbq := by rw [← hwbq]; exact (Below.refl _ _).alloc (Nat.le_refl _) _
      obtain ⟨Xq_1, Xq_2, Xq_3, Xq_4, Xq_5, Xq_6, Xq_7, Vq, vq_0, vq_1, vq_2, vq_3, vq_4, vq_5, vq_6, vq_7, ⟨hXq_0, aq_0, bq_0⟩, ⟨hXq_1, aq_1, bq_1⟩, ⟨hXq_2, aq_2, bq_2⟩, ⟨hXq_3, aq_3, bq_3⟩, ⟨hXq_4, aq_4, bq_4⟩, ⟨hXq_5, aq_5, bq_5⟩, ⟨hXq_6, aq_6, bq_6⟩, ⟨hXq_7, aq_7, bq_7⟩, E8, FC⟩ := store8 gb rfl (.int .i64 d.max) (.slice P.ai d.ins.length P.ki) (.slice P.al d.lats.length P.kl) (.slice P.ao d.outs.length P.ko) (.slice P.ab d.bads.length P.kb) (.slice P.ac d.invs.length P.kc) (.slice P.aa d.ands.length P.ka) (.slice P.an d.names.length P.kn)
      have BXq : Hid (Below y.heap.size y Vq) := FC.below bb (Nat.le_refl _)
      have GXq : Hid (Vq.heap[y.heap.size]? = some (.cells (cirC d P) 27 (0, 0))) := E8
      have dq_0 : Vq.cell? ⟨y.heap.size, 0, none⟩ = some (.int .i64 d.max) := by simp [World.cell?, E8]
      have dq_1 : Vq.cell? ⟨y.heap.size, 1, none⟩ = some (.slice P.ai d.ins.length P.ki) := by simp [World.cell?, E8]
      have dq_2 : Vq.cell? ⟨y.heap.size, 2, none⟩ = some (.slice P.al d.lats.length P.kl) := by simp [World.cell?, E8]
      have dq_3 : Vq.cell? ⟨y.heap.size, 3, none⟩ = some (.slice P.ao d.outs.length P.ko) := by simp [World.cell?, E8]
      have dq_4 : Vq.cell? ⟨y.heap.size, 4, none⟩ = some (.slice P.ab d.bads.length P.kb) := by simp [World.cell?, E8]
      have dq_5 : Vq.cell? ⟨y.heap.size, 5, none⟩ = some (.slice P.ac d.invs.length P.kc) := by simp [World.cell?, E8]
      have dq_6 : Vq.cell? ⟨y.heap.size, 6, none⟩ = some (.slice P.aa d.ands.length P.ka) := by simp [World.cell?, E8]
      have dq_7 : Vq.cell? ⟨y.heap.size, 7, none⟩ = some (.slice P.an d.names.length P.kn) := by simp [World.cell?, E8]
      clear gb bb E8 FC
      have LV := Lib.hid (LY.out.step BXq.out)
      have PD := Lib.hid (print_yes d P Vq ((HL2.out.below BXq.out).more BXq.out.size) HF2.out HDC.out (LV.out.tab HT.out))
      unfold cirV at PD
      rw [show cirC d P = #[.int .i64 d.max, .slice P.ai d.ins.length P.ki, .slice P.al d.lats.length P.kl, .slice P.ao d.outs.length P.ko, .slice P.ab d.bads.length P.kb, .slice P.ac d.invs.length P.kc, .slice P.aa d.ands.length P.ka, .slice P.an d.names.length P.kn] from rfl] at PD
      unfold sv at PD
      go_wp2_with (first | (go_at_call 8; refine (num_any _ _).mono ?_; rintro e w' ⟨rfl, rfl⟩) | fail)
      refine PD.out.mono ?_
      rintro e z ⟨rfl, hb⟩
      have LZ := Lib.hid (LV.out.step hb)
      clear hb PD
      generalize textL d = u at *
      by_cases h0 : rest = []
      · subst h0
        have hx : Hid (((⟨u.toArray⟩ : ByteArray).extract 0 u.length).toList = u) := by unfold Hid; simpa using ext_list u []
        rw [List.append_nil] at HLX ⊢
        go_wp2_with (go_at_call 8; refine (num_any _ _).mono ?_; rintro e w' ⟨rfl, rfl⟩)
        go_ret
        exact ⟨rfl, LZ.out.bel⟩
      · have h1 := HOR.out.resolve_left h0
        obtain ⟨r0, rr, rfl⟩ : ∃ a b, rest = a :: b := by
          cases rest with
          | nil => exact absurd rfl h0
          | cons a b => exact ⟨a, b, rfl⟩
        have h2 : r0 = 99 := h1.1
        subst h2
        have hx := ext_list u (99 :: rr)
        clear h0 h1 HOR
        go_wp2_with (go_at_call 8; refine (num_any _ _).mono ?_; rintro e w' ⟨rfl, rfl⟩)
        go_ret
        refine ⟨?_, LZ.out.bel⟩
        have hlt : u.length < (⟨(u ++ 99 :: rr).toArray⟩ : ByteArray).size := by simp [ByteArray.size]
        have hby : (⟨(u ++ 99 :: rr).toArray⟩ : ByteArray)[u.length]'hlt = 99 := by
          simp [ByteArray.getElem_eq_getElem_data]
        simp
        right
        rw [hby]; rfl
  · rw [hc] at PR
    simp only [if_true] at PR
    obtain ⟨hfine, -⟩ := chk_fine c hc
    have HFI := Lib.hid hfine
    have HCK := Lib.hid hc
    unfold sv at PR
    go_wp2_with fail
    refine PR.out.mono ?_
    rintro e w2 ⟨rfl, hb⟩
    have L2 := Lib.hid (L1.out.step hb)
    clear hb PR hc hfine L1 e0 e1 e2 e3 e4 e5 e6 e7
    by_cases hlen : (textL c).length ≤ 65536
    · have hd : decide (((textL c).length : Int) ≤ 65536) = true := by simp; omega
      have PT := Lib.hid (parse_back (textL c) c _ w2 (L2.out.max HM.out) (parse_text chk c HFI.out HCK.out hlen))
      unfold sv cirV at PT
      clear hlen
      generalize textL c = tc at *
      go_wp2_with (first | (go_at_call 8; refine (num_any _ _).mono ?_; rintro e w' ⟨rfl, rfl⟩) | fail)
      refine PT.out.mono ?_
      rintro e y0 ⟨P0, rfl, hl0, hf0, hb⟩
      have LY0 := Lib.hid (L2.out.step hb)
      have HL0 := Lib.hid hl0
      have HF0 := Lib.hid hf0
      clear hb hl0 hf0 PT hd
      rw [show cirC c P0 = #[.int .i64 c.max, .slice P0.ai c.ins.length P0.ki, .slice P0.al c.lats.length P0.kl, .slice P0.ao c.outs.length P0.ko, .slice P0.ab c.bads.length P0.kb, .slice P0.ac c.invs.length P0.kc, .slice P0.aa c.ands.length P0.ka, .slice P0.an c.names.length P0.kn] from rfl]
      obtain ⟨wbp, hwbp⟩ : ∃ x, y0.alloc (.cells #[.int .i64 0, .slice none 0 0, .slice none 0 0, .slice none 0 0, .slice none 0 0, .slice none 0 0, .slice none 0 0, .slice none 0 0] 27) = x := ⟨_, rfl⟩
      have gb : wbp.heap[y0.heap.size]? = some (.cells #[.int .i64 0, .slice none 0 0, .slice none 0 0, .slice none 0 0, .slice none 0 0, .slice none 0 0, .slice none 0 0, .slice none 0 0] 27 (0, 0)) := by rw [← hwbp]; exact Array.getElem?_push_size
      have bb : Below y0.heap.size y0 wbp := by rw [← hwbp]; exact (Below.refl _ _).alloc (Nat.le_refl _) _
      obtain ⟨Xp_1, Xp_2, Xp_3, Xp_4, Xp_5, Xp_6, Xp_7, Vp, vp_0, vp_1, vp_2, vp_3, vp_4, vp_5, vp_6, vp_7, ⟨hXp_0, ap_0, bp_0⟩, ⟨hXp_1, ap_1, bp_1⟩, ⟨hXp_2, ap_2, bp_2⟩, ⟨hXp_3, ap_3, bp_3⟩, ⟨hXp_4, ap_4, bp_4⟩, ⟨hXp_5, ap_5, bp_5⟩, ⟨hXp_6, ap_6, bp_6⟩, ⟨hXp_7, ap_7, bp_7⟩, E8, FC⟩ := store8 gb rfl (.int .i64 c.max) (.slice P0.ai c.ins.length P0.ki) (.slice P0.al c.lats.length P0.kl) (.slice P0.ao c.outs.length P0.ko) (.slice P0.ab c.bads.length P0.kb) (.slice P0.ac c.invs.length P0.kc) (.slice P0.aa c.ands.length P0.ka) (.slice P0.an c.names.length P0.kn)
      have BXp : Hid (Below y0.heap.size y0 Vp) := FC.below bb (Nat.le_refl _)
      have GXp : Hid (Vp.heap[y0.heap.size]? = some (.cells (cirC c P0) 27 (0, 0))) := E8
      have dp_0 : Vp.cell? ⟨y0.heap.size, 0, none⟩ = some (.int .i64 c.max) := by simp [World.cell?, E8]
      have dp_1 : Vp.cell? ⟨y0.heap.size, 1, none⟩ = some (.slice P0.ai c.ins.length P0.ki) := by simp [World.cell?, E8]
      have dp_2 : Vp.cell? ⟨y0.heap.size, 2, none⟩ = some (.slice P0.al c.lats.length P0.kl) := by simp [World.cell?, E8]
      have dp_3 : Vp.cell? ⟨y0.heap.size, 3, none⟩ = some (.slice P0.ao c.outs.length P0.ko) := by simp [World.cell?, E8]
      have dp_4 : Vp.cell? ⟨y0.heap.size, 4, none⟩ = some (.slice P0.ab c.bads.length P0.kb) := by simp [World.cell?, E8]
      have dp_5 : Vp.cell? ⟨y0.heap.size, 5, none⟩ = some (.slice P0.ac c.invs.length P0.kc) := by simp [World.cell?, E8]
      have dp_6 : Vp.cell? ⟨y0.heap.size, 6, none⟩ = some (.slice P0.aa c.ands.length P0.ka) := by simp [World.cell?, E8]
      have dp_7 : Vp.cell? ⟨y0.heap.size, 7, none⟩ = some (.slice P0.an c.names.length P0.kn) := by simp [World.cell?, E8]
      clear gb bb E8 FC
      have LVp := Lib.hid (LY0.out.step BXp.out)
      obtain ⟨e0, e1, e2, e3, e4, e5, e6, e7⟩ := cells8 LVp.out.box
      have RS := Lib.hid (refsame_any c s P0 Vp (LVp.out.lies H.out) ((HL0.out.below BXp.out).more BXp.out.size) HF.out)
      unfold cirV at RS
      rw [show cirC c s = #[.int .i64 c.max, .slice s.ai c.ins.length s.ki, .slice s.al c.lats.length s.kl, .slice s.ao c.outs.length s.ko, .slice s.ab c.bads.length s.kb, .slice s.ac c.invs.length s.kc, .slice s.aa c.ands.length s.ka, .slice s.an c.names.length s.kn] from rfl, show cirC c P0 = #[.int .i64 c.max, .slice P0.ai c.ins.length P0.ki, .slice P0.al c.lats.length P0.kl, .slice P0.ao c.outs.length P0.ko, .slice P0.ab c.bads.length P0.kb, .slice P0.ac c.invs.length P0.kc, .slice P0.aa c.ands.length P0.ka, .slice P0.an c.names.length P0.kn] from rfl] at RS
      go_wp2_with (first | (go_at_call 8; refine (num_any _ _).mono ?_; rintro e w' ⟨rfl, rfl⟩) | fail)
      refine RS.out.mono ?_
      rintro e z0 ⟨rfl, hb⟩
      have LZ0 := Lib.hid (LVp.out.step hb)
      clear hb RS e0 e1 e2 e3 e4 e5 e6 e7
      clear hwbp hXp_0 ap_0 bp_0 dp_0 hXp_1 ap_1 bp_1 dp_1 hXp_2 ap_2 bp_2 dp_2 hXp_3 ap_3 bp_3 dp_3 hXp_4 ap_4 bp_4 dp_4 hXp_5 ap_5 bp_5 dp_5 hXp_6 ap_6 bp_6 dp_6 hXp_7 ap_7 bp_7 dp_7
      cases hq : parseM chk x.data.toList with
      | error b =>
        have PN := Lib.hid (parse_not x.data.toList b z0 (LZ0.out.max HM.out) hq)
        have HB0 := parseM_code hq
        rw [show sv x.data.toList = .string x from text_eq x] at PN
        unfold cirV at PN
        rw [show cirC nilC nilP = #[.int .i64 0, .slice none 0 0, .slice none 0 0, .slice none 0 0, .slice none 0 0, .slice none 0 0, .slice none 0 0, .slice none 0 0] from rfl] at PN
        clear hq
        obtain ⟨b1, b2⟩ := b
        simp only at HB0 PN
        have hb0 : (!(b2 == 0)) = true := by rw [HB0]; rfl
        have hn0 : ¬ b2 = 0 := by simpa using HB0
        go_wp2_with (first | (go_at_call 8; refine (num_any _ _).mono ?_; rintro e w' ⟨rfl, rfl⟩) | fail)
        refine PN.out.mono ?_
        rintro e y ⟨rfl, hb⟩
        have LY := Lib.hid (LZ0.out.step hb)
        clear hb
        obtain ⟨wbq, hwbq⟩ : ∃ x, y.alloc (.cells #[.int .i64 0, .slice none 0 0, .slice none 0 0, .slice none 0 0, .slice none 0 0, .slice none 0 0, .slice none 0 0, .slice none 0 0] 27) = x := ⟨_, rfl⟩
        have gb : wbq.heap[y.heap.size]? = some (.cells #[.int .i64 0, .slice none 0 0, .slice none 0 0, .slice none 0 0, .slice none 0 0, .slice none 0 0, .slice none 0 0, .slice none 0 0] 27 (0, 0)) := by rw [← hwbq]; exact Array.getElem?_push_size
        have bb : Below y.heap.size y wbq := by rw [← hwbq]; exact (Below.refl _ _).alloc (Nat.le_refl _) _
        obtain ⟨Xq_1, Xq_2, Xq_3, Xq_4, Xq_5, Xq_6, Xq_7, Vq, vq_0, vq_1, vq_2, vq_3, vq_4, vq_5, vq_6, vq_7, ⟨hXq_0, aq_0, bq_0⟩, ⟨hXq_1, aq_1, bq_1⟩, ⟨hXq_2, aq_2, bq_2⟩, ⟨hXq_3, aq_3, bq_3⟩, ⟨hXq_4, aq_4, bq_4⟩, ⟨hXq_5, aq_5, bq_5⟩, ⟨hXq_6, aq_6, bq_6⟩, ⟨hXq_7, aq_7, bq_7⟩, E8, FC⟩ := store8 gb rfl (.int .i64 0) (.slice none 0 0) (.slice none 0 0) (.slice none 0 0) (.slice none 0 0) (.slice none 0 0) (.slice none 0 0) (.slice none 0 0)
        have BXq : Hid (Below y.heap.size y Vq) := FC.below bb (Nat.le_refl _)
        have GXq : Hid (Vq.heap[y.heap.size]? = some (.cells (cirC nilC nilP) 27 (0, 0))) := E8
        have dq_0 : Vq.cell? ⟨y.heap.size, 0, none⟩ = some (.int .i64 0) := by simp [World.cell?, E8]
        have dq_1 : Vq.cell? ⟨y.heap.size, 1, none⟩ = some (.slice none 0 0) := by simp [World.cell?, E8]
        have dq_2 : Vq.cell? ⟨y.heap.size, 2, none⟩ = some (.slice none 0 0) := by simp [World.cell?, E8]
        have dq_3 : Vq.cell? ⟨y.heap.size, 3, none⟩ = some (.slice none 0 0) := by simp [World.cell?, E8]
        have dq_4 : Vq.cell? ⟨y.heap.size, 4, none⟩ = some (.slice none 0 0) := by simp [World.cell?, E8]
        have dq_5 : Vq.cell? ⟨y.heap.size, 5, none⟩ = some (.slice none 0 0) := by simp [World.cell?, E8]
        have dq_6 : Vq.cell? ⟨y.heap.size, 6, none⟩ = some (.slice none 0 0) := by simp [World.cell?, E8]
        have dq_7 : Vq.cell? ⟨y.heap.size, 7, none⟩ = some (.slice none 0 0) := by simp [World.cell?, E8]
        clear gb bb E8 FC
        have RS := Lib.hid (refsame_any nilC nilP nilP Vq (nil_lies _ _) (nil_lies _ _) nil_fits)
        unfold cirV at RS
        rw [show cirC nilC nilP = #[.int .i64 0, .slice none 0 0, .slice none 0 0, .slice none 0 0, .slice none 0 0, .slice none 0 0, .slice none 0 0, .slice none 0 0] from rfl] at RS
        have LV := Lib.hid (LY.out.step BXq.out)
        go_wp2_with (first | (go_at_call 8; refine (num_any _ _).mono ?_; rintro e w' ⟨rfl, rfl⟩) | fail)
        refine RS.out.mono ?_
        rintro e z ⟨rfl, hb⟩
        have LZ := Lib.hid (LV.out.step hb)
        clear hb
        go_wp2
        go_ret
        exact ⟨rfl, LZ.out.bel⟩
      | ok r =>
        obtain ⟨d, n⟩ := r
        have PB := Lib.hid (parse_back x.data.toList d n z0 (LZ0.out.max HM.out) hq)
        obtain ⟨hsz, hdc, -⟩ := parse_ok hq
        obtain ⟨rest, hs, hor⟩ := parse_begins hq
        rw [show sv x.data.toList = .string x from text_eq x] at PB
        have HX : x = ⟨(textL d ++ rest).toArray⟩ := bytes_eq _ _ (by rw [hs])
        have HOR := Lib.hid hor
        have HDC := Lib.hid hdc
        have HLX : (textL d ++ rest).length ≤ 65536 := by rw [← hs]; exact hsz
        clear hq hs hor hdc hsz
        subst HX
        unfold cirV at PB
        go_wp2_with (first | (go_at_call 8; refine (num_any _ _).mono ?_; rintro e w' ⟨rfl, rfl⟩) | fail)
        refine PB.out.mono ?_
        rintro e y ⟨P, rfl, hl2, hf2, hb⟩
        have LY := Lib.hid (LZ0.out.step hb)
        have HL2 := Lib.hid hl2
        have HF2 := Lib.hid hf2
        clear hb hl2 hf2 PB
        rw [show cirC d P = #[.int .i64 d.max, .slice P.ai d.ins.length P.ki, .slice P.al d.lats.length P.kl, .slice P.ao d.outs.length P.ko, .slice P.ab d.bads.length P.kb, .slice P.ac d.invs.length P.kc, .slice P.aa d.ands.length P.ka, .slice P.an d.names.length P.kn] from rfl]
        obtain ⟨wbq, hwbq⟩ : ∃ x, y.alloc (.cells #[.int .i64 0, .slice none 0 0, .slice none 0 0, .slice none 0 0, .slice none 0 0, .slice none 0 0, .slice none 0 0, .slice none 0 0] 27) = x := ⟨_, rfl⟩
        have gb : wbq.heap[y.heap.size]? = some (.cells #[.int .i64 0, .slice none 0 0, .slice none 0 0, .slice none 0 0, .slice none 0 0, .slice none 0 0, .slice none 0 0, .slice none 0 0] 27 (0, 0)) := by rw [← hwbq]; exact Array.getElem?_push_size
        have bb : Below y.heap.size y wbq := by rw [← hwbq]; exact (Below.refl _ _).alloc (Nat.le_refl _) _
        obtain ⟨Xq_1, Xq_2, Xq_3, Xq_4, Xq_5, Xq_6, Xq_7, Vq, vq_0, vq_1, vq_2, vq_3, vq_4, vq_5, vq_6, vq_7, ⟨hXq_0, aq_0, bq_0⟩, ⟨hXq_1, aq_1, bq_1⟩, ⟨hXq_2, aq_2, bq_2⟩, ⟨hXq_3, aq_3, bq_3⟩, ⟨hXq_4, aq_4, bq_4⟩, ⟨hXq_5, aq_5, bq_5⟩, ⟨hXq_6, aq_6, bq_6⟩, ⟨hXq_7, aq_7, bq_7⟩, E8, FC⟩ := store8 gb rfl (.int .i64 d.max) (.slice P.ai d.ins.length P.ki) (.slice P.al d.lats.length P.kl) (.slice P.ao d.outs.length P.ko) (.slice P.ab d.bads.length P.kb) (.slice P.ac d.invs.length P.kc) (.slice P.aa d.ands.length P.ka) (.slice P.an d.names.length P.kn)
        have BXq : Hid (Below y.heap.size y Vq) := FC.below bb (Nat.le_refl _)
        have GXq : Hid (Vq.heap[y.heap.size]? = some (.cells (cirC d P) 27 (0, 0))) := E8
        have dq_0 : Vq.cell? ⟨y.heap.size, 0, none⟩ = some (.int .i64 d.max) := by simp [World.cell?, E8]
        have dq_1 : Vq.cell? ⟨y.heap.size, 1, none⟩ = some (.slice P.ai d.ins.length P.ki) := by simp [World.cell?, E8]
        have dq_2 : Vq.cell? ⟨y.heap.size, 2, none⟩ = some (.slice P.al d.lats.length P.kl) := by simp [World.cell?, E8]
        have dq_3 : Vq.cell? ⟨y.heap.size, 3, none⟩ = some (.slice P.ao d.outs.length P.ko) := by simp [World.cell?, E8]
        have dq_4 : Vq.cell? ⟨y.heap.size, 4, none⟩ = some (.slice P.ab d.bads.length P.kb) := by simp [World.cell?, E8]
        have dq_5 : Vq.cell? ⟨y.heap.size, 5, none⟩ = some (.slice P.ac d.invs.length P.kc) := by simp [World.cell?, E8]
        have dq_6 : Vq.cell? ⟨y.heap.size, 6, none⟩ = some (.slice P.aa d.ands.length P.ka) := by simp [World.cell?, E8]
        have dq_7 : Vq.cell? ⟨y.heap.size, 7, none⟩ = some (.slice P.an d.names.length P.kn) := by simp [World.cell?, E8]
        clear gb bb E8 FC
        have LV := Lib.hid (LY.out.step BXq.out)
        have PD := Lib.hid (print_yes d P Vq ((HL2.out.below BXq.out).more BXq.out.size) HF2.out HDC.out (LV.out.tab HT.out))
        unfold cirV at PD
        rw [show cirC d P = #[.int .i64 d.max, .slice P.ai d.ins.length P.ki, .slice P.al d.lats.length P.kl, .slice P.ao d.outs.length P.ko, .slice P.ab d.bads.length P.kb, .slice P.ac d.invs.length P.kc, .slice P.aa d.ands.length P.ka, .slice P.an d.names.length P.kn] from rfl] at PD
        unfold sv at PD
        go_wp2_with (first | (go_at_call 8; refine (num_any _ _).mono ?_; rintro e w' ⟨rfl, rfl⟩) | fail)
        refine PD.out.mono ?_
        rintro e z ⟨rfl, hb⟩
        have LZ := Lib.hid (LV.out.step hb)
        clear hb PD
        generalize textL d = u at *
        by_cases h0 : rest = []
        · subst h0
          have hx : Hid (((⟨u.toArray⟩ : ByteArray).extract 0 u.length).toList = u) := by unfold Hid; simpa using ext_list u []
          rw [List.append_nil] at HLX ⊢
          go_wp2_with (go_at_call 8; refine (num_any _ _).mono ?_; rintro e w' ⟨rfl, rfl⟩)
          go_ret
          exact ⟨rfl, LZ.out.bel⟩
        · have h1 := HOR.out.resolve_left h0
          obtain ⟨r0, rr, rfl⟩ : ∃ a b, rest = a :: b := by
            cases rest with
            | nil => exact absurd rfl h0
            | cons a b => exact ⟨a, b, rfl⟩
          have h2 : r0 = 99 := h1.1
          subst h2
          have hx := ext_list u (99 :: rr)
          clear h0 h1 HOR
          go_wp2_with (go_at_call 8; refine (num_any _ _).mono ?_; rintro e w' ⟨rfl, rfl⟩)
          go_ret
          refine ⟨?_, LZ.out.bel⟩
          have hlt : u.length < (⟨(u ++ 99 :: rr).toArray⟩ : ByteArray).size := by simp [ByteArray.size]
          have hby : (⟨(u ++ 99 :: rr).toArray⟩ : ByteArray)[u.length]'hlt = 99 := by
            simp [ByteArray.getElem_eq_getElem_data]
          simp
          right
          rw [hby]; rfl
    · have hd : decide (((textL c).length : Int) ≤ 65536) = false := by simp; omega
      clear hlen
      generalize textL c = tc at *
      cases hq : parseM chk x.data.toList with
      | error b =>
        have PN := Lib.hid (parse_not x.data.toList b w2 (L2.out.max HM.out) hq)
        have HB0 := parseM_code hq
        rw [show sv x.data.toList = .string x from text_eq x] at PN
        unfold cirV at PN
        rw [show cirC nilC nilP = #[.int .i64 0, .slice none 0 0, .slice none 0 0, .slice none 0 0, .slice none 0 0, .slice none 0 0, .slice none 0 0, .slice none 0 0] from rfl] at PN
        clear hq
        obtain ⟨b1, b2⟩ := b
        simp only at HB0 PN
        have hb0 : (!(b2 == 0)) = true := by rw [HB0]; rfl
        have hn0 : ¬ b2 = 0 := by simpa using HB0
        go_wp2_with (first | (go_at_call 8; refine (num_any _ _).mono ?_; rintro e w' ⟨rfl, rfl⟩) | fail)
        refine PN.out.mono ?_
        rintro e y ⟨rfl, hb⟩
        have LY := Lib.hid (L2.out.step hb)
        clear hb
        obtain ⟨wbq, hwbq⟩ : ∃ x, y.alloc (.cells #[.int .i64 0, .slice none 0 0, .slice none 0 0, .slice none 0 0, .slice none 0 0, .slice none 0 0, .slice none 0 0, .slice none 0 0] 27) = x := ⟨_, rfl⟩
        have gb : wbq.heap[y.heap.size]? = some (.cells #[.int .i64 0, .slice none 0 0, .slice none 0 0, .slice none 0 0, .slice none 0 0, .slice none 0 0, .slice none 0 0, .slice none 0 0] 27 (0, 0)) := by rw [← hwbq]; exact Array.getElem?_push_size
        have bb : Below y.heap.size y wbq := by rw [← hwbq]; exact (Below.refl _ _).alloc (Nat.le_refl _) _
        obtain ⟨Xq_1, Xq_2, Xq_3, Xq_4, Xq_5, Xq_6, Xq_7, Vq, vq_0, vq_1, vq_2, vq_3, vq_4, vq_5, vq_6, vq_7, ⟨hXq_0, aq_0, bq_0⟩, ⟨hXq_1, aq_1, bq_1⟩, ⟨hXq_2, aq_2, bq_2⟩, ⟨hXq_3, aq_3, bq_3⟩, ⟨hXq_4, aq_4, bq_4⟩, ⟨hXq_5, aq_5, bq_5⟩, ⟨hXq_6, aq_6, bq_6⟩, ⟨hXq_7, aq_7, bq_7⟩, E8, FC⟩ := store8 gb rfl (.int .i64 0) (.slice none 0 0) (.slice none 0 0) (.slice none 0 0) (.slice none 0 0) (.slice none 0 0) (.slice none 0 0) (.slice none 0 0)
        have BXq : Hid (Below y.heap.size y Vq) := FC.below bb (Nat.le_refl _)
        have GXq : Hid (Vq.heap[y.heap.size]? = some (.cells (cirC nilC nilP) 27 (0, 0))) := E8
        have dq_0 : Vq.cell? ⟨y.heap.size, 0, none⟩ = some (.int .i64 0) := by simp [World.cell?, E8]
        have dq_1 : Vq.cell? ⟨y.heap.size, 1, none⟩ = some (.slice none 0 0) := by simp [World.cell?, E8]
        have dq_2 : Vq.cell? ⟨y.heap.size, 2, none⟩ = some (.slice none 0 0) := by simp [World.cell?, E8]
        have dq_3 : Vq.cell? ⟨y.heap.size, 3, none⟩ = some (.slice none 0 0) := by simp [World.cell?, E8]
        have dq_4 : Vq.cell? ⟨y.heap.size, 4, none⟩ = some (.slice none 0 0) := by simp [World.cell?, E8]
        have dq_5 : Vq.cell? ⟨y.heap.size, 5, none⟩ = some (.slice none 0 0) := by simp [World.cell?, E8]
        have dq_6 : Vq.cell? ⟨y.heap.size, 6, none⟩ = some (.slice none 0 0) := by simp [World.cell?, E8]
        have dq_7 : Vq.cell? ⟨y.heap.size, 7, none⟩ = some (.slice none 0 0) := by simp [World.cell?, E8]
        clear gb bb E8 FC
        have RS := Lib.hid (refsame_any nilC nilP nilP Vq (nil_lies _ _) (nil_lies _ _) nil_fits)
        unfold cirV at RS
        rw [show cirC nilC nilP = #[.int .i64 0, .slice none 0 0, .slice none 0 0, .slice none 0 0, .slice none 0 0, .slice none 0 0, .slice none 0 0, .slice none 0 0] from rfl] at RS
        have LV := Lib.hid (LY.out.step BXq.out)
        go_wp2_with (first | (go_at_call 8; refine (num_any _ _).mono ?_; rintro e w' ⟨rfl, rfl⟩) | fail)
        refine RS.out.mono ?_
        rintro e z ⟨rfl, hb⟩
        have LZ := Lib.hid (LV.out.step hb)
        clear hb
        go_wp2
        go_ret
        exact ⟨rfl, LZ.out.bel⟩
      | ok r =>
        obtain ⟨d, n⟩ := r
        have PB := Lib.hid (parse_back x.data.toList d n w2 (L2.out.max HM.out) hq)
        obtain ⟨hsz, hdc, -⟩ := parse_ok hq
        obtain ⟨rest, hs, hor⟩ := parse_begins hq
        rw [show sv x.data.toList = .string x from text_eq x] at PB
        have HX : x = ⟨(textL d ++ rest).toArray⟩ := bytes_eq _ _ (by rw [hs])
        have HOR := Lib.hid hor
        have HDC := Lib.hid hdc
        have HLX : (textL d ++ rest).length ≤ 65536 := by rw [← hs]; exact hsz
        clear hq hs hor hdc hsz
        subst HX
        unfold cirV at PB
        go_wp2_with (first | (go_at_call 8; refine (num_any _ _).mono ?_; rintro e w' ⟨rfl, rfl⟩) | fail)
        refine PB.out.mono ?_
        rintro e y ⟨P, rfl, hl2, hf2, hb⟩
        have LY := Lib.hid (L2.out.step hb)
        have HL2 := Lib.hid hl2
        have HF2 := Lib.hid hf2
        clear hb hl2 hf2 PB
        rw [show cirC d P = #[.int .i64 d.max, .slice P.ai d.ins.length P.ki, .slice P.al d.lats.length P.kl, .slice P.ao d.outs.length P.ko, .slice P.ab d.bads.length P.kb, .slice P.ac d.invs.length P.kc, .slice P.aa d.ands.length P.ka, .slice P.an d.names.length P.kn] from rfl]
        obtain ⟨wbq, hwbq⟩ : ∃ x, y.alloc (.cells #[.int .i64 0, .slice none 0 0, .slice none 0 0, .slice none 0 0, .slice none 0 0, .slice none 0 0, .slice none 0 0, .slice none 0 0] 27) = x := ⟨_, rfl⟩
        have gb : wbq.heap[y.heap.size]? = some (.cells #[.int .i64 0, .slice none 0 0, .slice none 0 0, .slice none 0 0, .slice none 0 0, .slice none 0 0, .slice none 0 0, .slice none 0 0] 27 (0, 0)) := by rw [← hwbq]; exact Array.getElem?_push_size
        have bb : Below y.heap.size y wbq := by rw [← hwbq]; exact (Below.refl _ _).alloc (Nat.le_refl _) _
        obtain ⟨Xq_1, Xq_2, Xq_3, Xq_4, Xq_5, Xq_6, Xq_7, Vq, vq_0, vq_1, vq_2, vq_3, vq_4, vq_5, vq_6, vq_7, ⟨hXq_0, aq_0, bq_0⟩, ⟨hXq_1, aq_1, bq_1⟩, ⟨hXq_2, aq_2, bq_2⟩, ⟨hXq_3, aq_3, bq_3⟩, ⟨hXq_4, aq_4, bq_4⟩, ⟨hXq_5, aq_5, bq_5⟩, ⟨hXq_6, aq_6, bq_6⟩, ⟨hXq_7, aq_7, bq_7⟩, E8, FC⟩ := store8 gb rfl (.int .i64 d.max) (.slice P.ai d.ins.length P.ki) (.slice P.al d.lats.length P.kl) (.slice P.ao d.outs.length P.ko) (.slice P.ab d.bads.length P.kb) (.slice P.ac d.invs.length P.kc) (.slice P.aa d.ands.length P.ka) (.slice P.an d.names.length P.kn)
        have BXq : Hid (Below y.heap.size y Vq) := FC.below bb (Nat.le_refl _)
        have GXq : Hid (Vq.heap[y.heap.size]? = some (.cells (cirC d P) 27 (0, 0))) := E8
        have dq_0 : Vq.cell? ⟨y.heap.size, 0, none⟩ = some (.int .i64 d.max) := by simp [World.cell?, E8]
        have dq_1 : Vq.cell? ⟨y.heap.size, 1, none⟩ = some (.slice P.ai d.ins.length P.ki) := by simp [World.cell?, E8]
        have dq_2 : Vq.cell? ⟨y.heap.size, 2, none⟩ = some (.slice P.al d.lats.length P.kl) := by simp [World.cell?, E8]
        have dq_3 : Vq.cell? ⟨y.heap.size, 3, none⟩ = some (.slice P.ao d.outs.length P.ko) := by simp [World.cell?, E8]
        have dq_4 : Vq.cell? ⟨y.heap.size, 4, none⟩ = some (.slice P.ab d.bads.length P.kb) := by simp [World.cell?, E8]
        have dq_5 : Vq.cell? ⟨y.heap.size, 5, none⟩ = some (.slice P.ac d.invs.length P.kc) := by simp [World.cell?, E8]
        have dq_6 : Vq.cell? ⟨y.heap.size, 6, none⟩ = some (.slice P.aa d.ands.length P.ka) := by simp [World.cell?, E8]
        have dq_7 : Vq.cell? ⟨y.heap.size, 7, none⟩ = some (.slice P.an d.names.length P.kn) := by simp [World.cell?, E8]
        clear gb bb E8 FC
        have LV := Lib.hid (LY.out.step BXq.out)
        have PD := Lib.hid (print_yes d P Vq ((HL2.out.below BXq.out).more BXq.out.size) HF2.out HDC.out (LV.out.tab HT.out))
        unfold cirV at PD
        rw [show cirC d P = #[.int .i64 d.max, .slice P.ai d.ins.length P.ki, .slice P.al d.lats.length P.kl, .slice P.ao d.outs.length P.ko, .slice P.ab d.bads.length P.kb, .slice P.ac d.invs.length P.kc, .slice P.aa d.ands.length P.ka, .slice P.an d.names.length P.kn] from rfl] at PD
        unfold sv at PD
        go_wp2_with (first | (go_at_call 8; refine (num_any _ _).mono ?_; rintro e w' ⟨rfl, rfl⟩) | fail)
        refine PD.out.mono ?_
        rintro e z ⟨rfl, hb⟩
        have LZ := Lib.hid (LV.out.step hb)
        clear hb PD
        generalize textL d = u at *
        by_cases h0 : rest = []
        · subst h0
          have hx : Hid (((⟨u.toArray⟩ : ByteArray).extract 0 u.length).toList = u) := by unfold Hid; simpa using ext_list u []
          rw [List.append_nil] at HLX ⊢
          go_wp2_with (go_at_call 8; refine (num_any _ _).mono ?_; rintro e w' ⟨rfl, rfl⟩)
          go_ret
          exact ⟨rfl, LZ.out.bel⟩
        · have h1 := HOR.out.resolve_left h0
          obtain ⟨r0, rr, rfl⟩ : ∃ a b, rest = a :: b := by
            cases rest with
            | nil => exact absurd rfl h0
            | cons a b => exact ⟨a, b, rfl⟩
          have h2 : r0 = 99 := h1.1
          subst h2
          have hx := ext_list u (99 :: rr)
          clear h0 h1 HOR
          go_wp2_with (go_at_call 8; refine (num_any _ _).mono ?_; rintro e w' ⟨rfl, rfl⟩)
          go_ret
          refine ⟨?_, LZ.out.bel⟩
          have hlt : u.length < (⟨(u ++ 99 :: rr).toArray⟩ : ByteArray).size := by simp [ByteArray.size]
          have hby : (⟨(u ++ 99 :: rr).toArray⟩ : ByteArray)[u.length]'hlt = 99 := by
            simp [ByteArray.getElem_eq_getElem_data]
          simp
          right
          rw [hby]; rfl
end Go.Proofs.YtckdlbfndmmjjaaGreatDoor.Aag
namespace Go.Proofs.YtckdlbfndmmjjaaGreatDoor.Aag
open Go.ChangeShapes Go.WideShapes Go.ChangeAt Go.RowKit Go.Maps Dig Circ Cw

set_option maxHeartbeats 8000000 in
set_option maxRecDepth 100000 in
theorem cuts_walk (c : Cir) (s : Places) (at_ : Int) (w : World) (hl : CLies w w.heap.size c s) (hf : CFits c s) (htab : Tab w) (hm : MaxCell w) :
    Calls Tryz.prog 4 #[cirV c s, .int .i64 at_] w fun e w' => e = .returned (.bool true) ∧ Below w.heap.size w w' := by
  have H := Lib.hid hl
  have HF := Lib.hid hf
  have HT := Lib.hid htab
  have HM := Lib.hid hm
  have L0 := Lib.hid (Law.start w c s)
  have AL := Lib.hid (alive_any _ (L0.out.tab HT.out))
  clear hl hf htab hm
  unfold cirV at *
  rw [show cirC c s = #[.int .i64 c.max, .slice s.ai c.ins.length s.ki, .slice s.al c.lats.length s.kl, .slice s.ao c.outs.length s.ko, .slice s.ab c.bads.length s.kb, .slice s.ac c.invs.length s.kc, .slice s.aa c.ands.length s.ka, .slice s.an c.names.length s.kn] from rfl] at AL L0 ⊢
  go_enter Tryz.func4, Tryz.ntmps4
  go_wp2_with fail
  refine AL.out.mono ?_
  rintro e w1 ⟨rfl, hb⟩
  have L1 := Lib.hid (L0.out.step hb)
  clear hb AL L0
  have PR := Lib.hid (print_any2 c s w1 (L1.out.lies H.out) HF.out (L1.out.tab HT.out))
  unfold cirV at PR
  rw [show cirC c s = #[.int .i64 c.max, .slice s.ai c.ins.length s.ki, .slice s.al c.lats.length s.kl, .slice s.ao c.outs.length s.ko, .slice s.ab c.bads.length s.kb, .slice s.ac c.invs.length s.kc, .slice s.aa c.ands.length s.ka, .slice s.an c.names.length s.kn] from rfl] at PR
  obtain ⟨e0, e1, e2, e3, e4, e5, e6, e7⟩ := cells8 L1.out.box
  cases hc : chk c
  · rw [hc] at PR
    simp only [Bool.false_eq_true, if_false] at PR
    go_wp2_with fail
    refine PR.out.mono ?_
    rintro e w2 ⟨rfl, hb⟩
    have L2 := Lib.hid (L1.out.step hb)
    clear hb PR hc L1 e0 e1 e2 e3 e4 e5 e6 e7
    go_wp2_with (go_at_call 8; refine (num_any _ _).mono ?_; rintro e w' ⟨rfl, rfl⟩)
    go_ret
    exact ⟨rfl, L2.out.bel⟩
  · rw [hc] at PR
    simp only [if_true] at PR
    obtain ⟨hfine, -⟩ := chk_fine c hc
    have HFI := Lib.hid hfine
    unfold sv at PR
    go_wp2_with fail
    refine PR.out.mono ?_
    rintro e w2 ⟨rfl, hb⟩
    have L2 := Lib.hid (L1.out.step hb)
    clear hb PR hc hfine L1 e0 e1 e2 e3 e4 e5 e6 e7
    have hne : textL c ≠ [] := by simp [textL, linesOf, nlL]
    have hpos : 0 < (textL c).length := List.length_pos_iff.2 hne
    by_cases hlen : (textL c).length ≤ 65536
    · have hd : decide ((65536 : Int) < (textL c).length) = false := by simp; omega
      have HLEN := Lib.hid hlen
      -- where the text is cut
      have CUT := Lib.hid (parse_cut chk c HFI.out)
      clear hlen
      obtain ⟨tc, htc⟩ : ∃ tc, tc = textL c := ⟨_, rfl⟩
      rw [← htc] at hpos hd HLEN CUT hne ⊢
      clear htc hne
      have hp : (0 : Int) < tc.length := by omega
      have q1 := Int.tmod_lt_of_pos at_ hp
      have q2 : -(tc.length : Int) < at_.tmod tc.length := by
        have q5 := Int.tmod_lt_of_pos (-at_) hp
        rw [Int.neg_tmod] at q5
        omega
      have hlb := HLEN.out
      have hw : wrap64 (at_.tmod tc.length + tc.length) = at_.tmod tc.length + tc.length := by
        generalize at_.tmod tc.length = am at q1 q2
        unfold wrap64; omega
      obtain ⟨k, hk, hk2⟩ : ∃ k : Nat, k < tc.length ∧ ((at_.tmod tc.length + tc.length).tmod tc.length) = (k : Int) := by
        have q3 : 0 ≤ (at_.tmod tc.length + tc.length).tmod tc.length := Int.tmod_nonneg _ (by omega)
        have q4 := Int.tmod_lt_of_pos (at_.tmod tc.length + tc.length) hp
        exact ⟨((at_.tmod tc.length + tc.length).tmod tc.length).toNat, by omega, by omega⟩
      have hex : (⟨tc.toArray⟩ : ByteArray).extract 0 k = ⟨(tc.take k).toArray⟩ := ByteArray.ext (by rw [ByteArray.data_extract]; simp)
      have HK := Lib.hid hk
      have HPOS := Lib.hid hpos
      have hz : ((tc.length : Int) == 0) = false := by rw [beq_eq_false_iff_ne]; omega
      clear hpos q1 q2 hlb
      cases k with
      | zero =>
        cases hq : parseM chk (tc.take 0) with
        | ok r => exact absurd hq (CUT.out 0 (Nat.zero_le _) (.inl rfl) r)
        | error b =>
          have PN := Lib.hid (parse_not _ b w2 (L2.out.max HM.out) hq)
          have HB0 := parseM_code hq
          unfold sv cirV at PN
          rw [show cirC nilC nilP = #[.int .i64 0, .slice none 0 0, .slice none 0 0, .slice none 0 0, .slice none 0 0, .slice none 0 0, .slice none 0 0, .slice none 0 0] from rfl] at PN
          clear hq
          obtain ⟨b1, b2⟩ := b
          simp only at HB0 PN
          have hb0 : (!(b2 == 0)) = true := by rw [HB0]; rfl
          have hn0 : ¬ b2 = 0 := by simpa using HB0
          have HBN : Hid ((b2 != 0) = true) := by unfold Hid bne; rw [HB0]; rfl
          go_wp2_with (first | (go_at_call 8; refine (num_any _ _).mono ?_; rintro e w' ⟨rfl, rfl⟩) | fail)
          refine PN.out.mono ?_
          rintro e y ⟨rfl, hb⟩
          have LY := Lib.hid (L2.out.step hb)
          clear hb
          obtain ⟨wbq, hwbq⟩ : ∃ x, y.alloc (.cells #[.int .i64 0, .slice none 0 0, .slice none 0 0, .slice none 0 0, .slice none 0 0, .slice none 0 0, .slice none 0 0, .slice none 0 0] 27) = x := ⟨_, rfl⟩
          have gb : wbq.heap[y.heap.size]? = some (.cells #[.int .i64 0, .slice none 0 0, .slice none 0 0, .slice none 0 0, .slice none 0 0, .slice none 0 0, .slice none 0 0, .slice none 0 0] 27 (0, 0)) := by rw [← hwbq]; exact Array.getElem?_push_size
          have bb : Below y.heap.size y wbq := by rw [← hwbq]; exact (Below.refl _ _).alloc (Nat.le_refl _) _
          obtain ⟨Xq_1, Xq_2, Xq_3, Xq_4, Xq_5, Xq_6, Xq_7, Vq, vq_0, vq_1, vq_2, vq_3, vq_4, vq_5, vq_6, vq_7, ⟨hXq_0, aq_0, bq_0⟩, ⟨hXq_1, aq_1, bq_1⟩, ⟨hXq_2, aq_2, bq_2⟩, ⟨hXq_3, aq_3, bq_3⟩, ⟨hXq_4, aq_4, bq_4⟩, ⟨hXq_5, aq_5, bq_5⟩, ⟨hXq_6, aq_6, bq_6⟩, ⟨hXq_7, aq_7, bq_7⟩, E8, FC⟩ := store8 gb rfl (.int .i64 0) (.slice none 0 0) (.slice none 0 0) (.slice none 0 0) (.slice none 0 0) (.slice none 0 0) (.slice none 0 0) (.slice none 0 0)
          have BXq : Hid (Below y.heap.size y Vq) := FC.below bb (Nat.le_refl _)
          have GXq : Hid (Vq.heap[y.heap.size]? = some (.cells (cirC nilC nilP) 27 (0, 0))) := E8
          have dq_0 : Vq.cell? ⟨y.heap.size, 0, none⟩ = some (.int .i64 0) := by simp [World.cell?, E8]
          have dq_1 : Vq.cell? ⟨y.heap.size, 1, none⟩ = some (.slice none 0 0) := by simp [World.cell?, E8]
          have dq_2 : Vq.cell? ⟨y.heap.size, 2, none⟩ = some (.slice none 0 0) := by simp [World.cell?, E8]
          have dq_3 : Vq.cell? ⟨y.heap.size, 3, none⟩ = some (.slice none 0 0) := by simp [World.cell?, E8]
          have dq_4 : Vq.cell? ⟨y.heap.size, 4, none⟩ = some (.slice none 0 0) := by simp [World.cell?, E8]
          have dq_5 : Vq.cell? ⟨y.heap.size, 5, none⟩ = some (.slice none 0 0) := by simp [World.cell?, E8]
          have dq_6 : Vq.cell? ⟨y.heap.size, 6, none⟩ = some (.slice none 0 0) := by simp [World.cell?, E8]
          have dq_7 : Vq.cell? ⟨y.heap.size, 7, none⟩ = some (.slice none 0 0) := by simp [World.cell?, E8]
          clear gb bb E8 FC
          have RS := Lib.hid (refsame_any nilC nilP nilP Vq (nil_lies _ _) (nil_lies _ _) nil_fits)
          unfold cirV at RS
          rw [show cirC nilC nilP = #[.int .i64 0, .slice none 0 0, .slice none 0 0, .slice none 0 0, .slice none 0 0, .slice none 0 0, .slice none 0 0, .slice none 0 0] from rfl] at RS
          have LV := Lib.hid (LY.out.step BXq.out)
          go_wp2_with (first | (go_at_call 8; refine (num_any _ _).mono ?_; rintro e w' ⟨rfl, rfl⟩) | fail)
          refine RS.out.mono ?_
          rintro e z ⟨rfl, hb⟩
          have LZ := Lib.hid (LV.out.step hb)
          clear hb
          go_wp2
          go_ret
          refine ⟨?_, LZ.out.bel⟩
          show Ending.returned (.bool (b2 != 0)) = Ending.returned (.bool true)
          rw [HBN.out]
      | succ m =>
        have hm1 : wrap64 (m : Int) = m := by unfold wrap64; have := HLEN.out; have := HK.out; omega
        have hlt : m < (⟨tc.toArray⟩ : ByteArray).size := by simp [ByteArray.size]; have := HK.out; omega
        have hgd : (⟨tc.toArray⟩ : ByteArray)[m]'hlt = tc.getD m 0 := by
          have hm2 : m < tc.length := by have := HK.out; omega
          simp [ByteArray.getElem_eq_getElem_data, hm2]
        rw [Int.natCast_succ] at hk2
        by_cases h10 : tc.getD m 0 = 10
        · have hby : ((((⟨tc.toArray⟩ : ByteArray)[m]'hlt).toNat : Int) == 10) = true := by rw [hgd, h10]; rfl
          clear hgd h10 hex
          go_wp2_with (first | (go_at_call 8; refine (num_any _ _).mono ?_; rintro e w' ⟨rfl, rfl⟩) | fail)
          go_ret
          exact ⟨rfl, L2.out.bel⟩
        · cases hq : parseM chk (tc.take (m + 1)) with
          | ok r => exact absurd hq (CUT.out (m + 1) (by have := HK.out; omega) (.inr h10) r)
          | error b =>
          have hby : ((((⟨tc.toArray⟩ : ByteArray)[m]'hlt).toNat : Int) == 10) = false := by
            rw [hgd]
            simp only [beq_eq_false_iff_ne]
            intro h
            exact h10 (UInt8.toNat_inj.1 (by show _ = 10; omega))
          clear hgd h10
          have PN := Lib.hid (parse_not _ b w2 (L2.out.max HM.out) hq)
          have HB0 := parseM_code hq
          unfold sv cirV at PN
          rw [show cirC nilC nilP = #[.int .i64 0, .slice none 0 0, .slice none 0 0, .slice none 0 0, .slice none 0 0, .slice none 0 0, .slice none 0 0, .slice none 0 0] from rfl] at PN
          clear hq
          obtain ⟨b1, b2⟩ := b
          simp only at HB0 PN
          have hb0 : (!(b2 == 0)) = true := by rw [HB0]; rfl
          have hn0 : ¬ b2 = 0 := by simpa using HB0
          have HBN : Hid ((b2 != 0) = true) := by unfold Hid bne; rw [HB0]; rfl
          go_wp2_with (first | (go_at_call 8; refine (num_any _ _).mono ?_; rintro e w' ⟨rfl, rfl⟩) | fail)
          refine PN.out.mono ?_
          rintro e y ⟨rfl, hb⟩
          have LY := Lib.hid (L2.out.step hb)
          clear hb
          obtain ⟨wbq, hwbq⟩ : ∃ x, y.alloc (.cells #[.int .i64 0, .slice none 0 0, .slice none 0 0, .slice none 0 0, .slice none 0 0, .slice none 0 0, .slice none 0 0, .slice none 0 0] 27) = x := ⟨_, rfl⟩
          have gb : wbq.heap[y.heap.size]? = some (.cells #[.int .i64 0, .slice none 0 0, .slice none 0 0, .slice none 0 0, .slice none 0 0, .slice none 0 0, .slice none 0 0, .slice none 0 0] 27 (0, 0)) := by rw [← hwbq]; exact Array.getElem?_push_size
          have bb : Below y.heap.size y wbq := by rw [← hwbq]; exact (Below.refl _ _).alloc (Nat.le_refl _) _
          obtain ⟨Xq_1, Xq_2, Xq_3, Xq_4, Xq_5, Xq_6, Xq_7, Vq, vq_0, vq_1, vq_2, vq_3, vq_4, vq_5, vq_6, vq_7, ⟨hXq_0, aq_0, bq_0⟩, ⟨hXq_1, aq_1, bq_1⟩, ⟨hXq_2, aq_2, bq_2⟩, ⟨hXq_3, aq_3, bq_3⟩, ⟨hXq_4, aq_4, bq_4⟩, ⟨hXq_5, aq_5, bq_5⟩, ⟨hXq_6, aq_6, bq_6⟩, ⟨hXq_7, aq_7, bq_7⟩, E8, FC⟩ := store8 gb rfl (.int .i64 0) (.slice none 0 0) (.slice none 0 0) (.slice none 0 0) (.slice none 0 0) (.slice none 0 0) (.slice none 0 0) (.slice none 0 0)
          have BXq : Hid (Below y.heap.size y Vq) := FC.below bb (Nat.le_refl _)
          have GXq : Hid (Vq.heap[y.heap.size]? = some (.cells (cirC nilC nilP) 27 (0, 0))) := E8
          have dq_0 : Vq.cell? ⟨y.heap.size, 0, none⟩ = some (.int .i64 0) := by simp [World.cell?, E8]
          have dq_1 : Vq.cell? ⟨y.heap.size, 1, none⟩ = some (.slice none 0 0) := by simp [World.cell?, E8]
          have dq_2 : Vq.cell? ⟨y.heap.size, 2, none⟩ = some (.slice none 0 0) := by simp [World.cell?, E8]
          have dq_3 : Vq.cell? ⟨y.heap.size, 3, none⟩ = some (.slice none 0 0) := by simp [World.cell?, E8]
          have dq_4 : Vq.cell? ⟨y.heap.size, 4, none⟩ = some (.slice none 0 0) := by simp [World.cell?, E8]
          have dq_5 : Vq.cell? ⟨y.heap.size, 5, none⟩ = some (.slice none 0 0) := by simp [World.cell?, E8]
          have dq_6 : Vq.cell? ⟨y.heap.size, 6, none⟩ = some (.slice none 0 0) := by simp [World.cell?, E8]
          have dq_7 : Vq.cell? ⟨y.heap.size, 7, none⟩ = some (.slice none 0 0) := by simp [World.cell?, E8]
          clear gb bb E8 FC
          have RS := Lib.hid (refsame_any nilC nilP nilP Vq (nil_lies _ _) (nil_lies _ _) nil_fits)
          unfold cirV at RS
          rw [show cirC nilC nilP = #[.int .i64 0, .slice none 0 0, .slice none 0 0, .slice none 0 0, .slice none 0 0, .slice none 0 0, .slice none 0 0, .slice none 0 0] from rfl] at RS
          have LV := Lib.hid (LY.out.step BXq.out)
          go_wp2_with (first | (go_at_call 8; refine (num_any _ _).mono ?_; rintro e w' ⟨rfl, rfl⟩) | fail)
          refine RS.out.mono ?_
          rintro e z ⟨rfl, hb⟩
          have LZ := Lib.hid (LV.out.step hb)
          clear hb
          go_wp2
          go_ret
          refine ⟨?_, LZ.out.bel⟩
          show Ending.returned (.bool (b2 != 0)) = Ending.returned (.bool true)
          rw [HBN.out]
    · have hd : decide ((65536 : Int) < (textL c).length) = true := by simp; omega
      generalize textL c = tc at *
      clear hlen hne hpos
      go_wp2_with (go_at_call 8; refine (num_any _ _).mono ?_; rintro e w' ⟨rfl, rfl⟩)
      go_ret
      exact ⟨rfl, L2.out.bel⟩
end Go.Proofs.YtckdlbfndmmjjaaGreatDoor.Aag
namespace Go.Proofs.YtckdlbfndmmjjaaGreatDoor.Aag
open Go.ChangeShapes Go.WideShapes Go.ChangeAt Go.RowKit Go.Maps Dig Circ Cw

set_option maxHeartbeats 8000000 in
set_option maxRecDepth 100000 in
theorem comments_walk (c : Cir) (s : Places) (x : ByteArray) (hx : x.size ≤ 281474976710656) (w : World) (hl : CLies w w.heap.size c s) (hf : CFits c s) (htab : Tab w) (hm : MaxCell w) :
    Calls Tryz.prog 5 #[cirV c s, .string x] w fun e w' => e = .returned (.bool true) ∧ Below w.heap.size w w' := by
  obtain ⟨l, rfl⟩ : ∃ l : List UInt8, x = ⟨l.toArray⟩ := ⟨x.data.toList, bytes_eq _ _ rfl⟩
  have hxl : l.length ≤ 281474976710656 := by simpa [ByteArray.size] using hx
  clear hx
  have H := Lib.hid hl
  have HF := Lib.hid hf
  have HT := Lib.hid htab
  have HM := Lib.hid hm
  have L0 := Lib.hid (Law.start w c s)
  have AL := Lib.hid (alive_any _ (L0.out.tab HT.out))
  clear hl hf htab hm
  unfold cirV at *
  rw [show cirC c s = #[.int .i64 c.max, .slice s.ai c.ins.length s.ki, .slice s.al c.lats.length s.kl, .slice s.ao c.outs.length s.ko, .slice s.ab c.bads.length s.kb, .slice s.ac c.invs.length s.kc, .slice s.aa c.ands.length s.ka, .slice s.an c.names.length s.kn] from rfl] at AL L0 ⊢
  go_enter Tryz.func5, Tryz.ntmps5
  go_wp2_with fail
  refine AL.out.mono ?_
  rintro e w1 ⟨rfl, hb⟩
  have L1 := Lib.hid (L0.out.step hb)
  clear hb AL L0
  have PR := Lib.hid (print_any2 c s w1 (L1.out.lies H.out) HF.out (L1.out.tab HT.out))
  unfold cirV at PR
  rw [show cirC c s = #[.int .i64 c.max, .slice s.ai c.ins.length s.ki, .slice s.al c.lats.length s.kl, .slice s.ao c.outs.length s.ko, .slice s.ab c.bads.length s.kb, .slice s.ac c.invs.length s.kc, .slice s.aa c.ands.length s.ka, .slice s.an c.names.length s.kn] from rfl] at PR
  obtain ⟨e0, e1, e2, e3, e4, e5, e6, e7⟩ := cells8 L1.out.box
  cases hc : chk c
  · rw [hc] at PR
    simp only [Bool.false_eq_true, if_false] at PR
    go_wp2_with fail
    refine PR.out.mono ?_
    rintro e w2 ⟨rfl, hb⟩
    have L2 := Lib.hid (L1.out.step hb)
    clear hb PR hc L1 e0 e1 e2 e3 e4 e5 e6 e7
    go_wp2_with (go_at_call 8; refine (num_any _ _).mono ?_; rintro e w' ⟨rfl, rfl⟩)
    go_ret
    exact ⟨rfl, L2.out.bel⟩
  · rw [hc] at PR
    simp only [if_true] at PR
    obtain ⟨hfine, z1, z2, z3, z4, z5, z6, z7, z8⟩ := chk_fine c hc
    have HFI := Lib.hid hfine
    have HCK := Lib.hid hc
    have HLT : (textL c).length ≤ 1000000 := text_short c HF.out hfine z8 ⟨z1, z2, z3, z4, z5, z6, z7⟩
    unfold sv at PR
    go_wp2_with fail
    refine PR.out.mono ?_
    rintro e w2 ⟨rfl, hb⟩
    have L2 := Lib.hid (L1.out.step hb)
    clear hb PR hc hfine L1 e0 e1 e2 e3 e4 e5 e6 e7 z1 z2 z3 z4 z5 z6 z7 z8
    have hw1 : wrap64 ((textL c).length + l.length) = (textL c).length + l.length := by unfold wrap64; omega
    have hw2 : wrap64 ((textL c).length + l.length + 2) = (textL c).length + l.length + 2 := by unfold wrap64; omega
    by_cases hlen : (textL c).length + l.length + 2 ≤ 65536
    · have hd : decide ((65536 : Int) < (textL c).length + l.length + 2) = false := by simp; omega
      have P1 := Lib.hid (fun w' hm' => parse_back (textL c) c _ w' hm' (parse_text chk c HFI.out HCK.out (by omega)))
      have P2 := Lib.hid (fun w' hm' => parse_back (textL c ++ 99 :: 10 :: l) c _ w' hm' (parse_comment chk c HFI.out HCK.out l (by simp; omega)))
      unfold sv cirV at P1 P2
      clear hlen
      generalize textL c = tc at *
      generalize (linesOf c).length = nl at *
      have T1 := Lib.hid (P1.out w2 (L2.out.max HM.out))
      go_wp2_with (first | (go_at_call 8; refine (num_any _ _).mono ?_; rintro e w' ⟨rfl, rfl⟩) | fail)
      refine T1.out.mono ?_
      rintro e y0 ⟨P0, rfl, hl0, hf0, hb⟩
      have LY0 := Lib.hid (L2.out.step hb)
      have HL0 := Lib.hid hl0
      have HF0 := Lib.hid hf0
      clear hb hl0 hf0 T1 hd
      rw [show cirC c P0 = #[.int .i64 c.max, .slice P0.ai c.ins.length P0.ki, .slice P0.al c.lats.length P0.kl, .slice P0.ao c.outs.length P0.ko, .slice P0.ab c.bads.length P0.kb, .slice P0.ac c.invs.length P0.kc, .slice P0.aa c.ands.length P0.ka, .slice P0.an c.names.length P0.kn] from rfl]
      obtain ⟨wbp, hwbp⟩ : ∃ x, y0.alloc (.cells #[.int .i64 0, .slice none 0 0, .slice none 0 0, .slice none 0 0, .slice none 0 0, .slice none 0 0, .slice none 0 0, .slice none 0 0] 27) = x := ⟨_, rfl⟩
      have gb : wbp.heap[y0.heap.size]? = some (.cells #[.int .i64 0, .slice none 0 0, .slice none 0 0, .slice none 0 0, .slice none 0 0, .slice none 0 0, .slice none 0 0, .slice none 0 0] 27 (0, 0)) := by rw [← hwbp]; exact Array.getElem?_push_size
      have bb : Below y0.heap.size y0 wbp := by rw [← hwbp]; exact (Below.refl _ _).alloc (Nat.le_refl _) _
      obtain ⟨Xp_1, Xp_2, Xp_3, Xp_4, Xp_5, Xp_6, Xp_7, Vp, vp_0, vp_1, vp_2, vp_3, vp_4, vp_5, vp_6, vp_7, ⟨hXp_0, ap_0, bp_0⟩, ⟨hXp_1, ap_1, bp_1⟩, ⟨hXp_2, ap_2, bp_2⟩, ⟨hXp_3, ap_3, bp_3⟩, ⟨hXp_4, ap_4, bp_4⟩, ⟨hXp_5, ap_5, bp_5⟩, ⟨hXp_6, ap_6, bp_6⟩, ⟨hXp_7, ap_7, bp_7⟩, E8, FC⟩ := store8 gb rfl (.int .i64 c.max) (.slice P0.ai c.ins.length P0.ki) (.slice P0.al c.lats.length P0.kl) (.slice P0.ao c.outs.length P0.ko) (.slice P0.ab c.bads.length P0.kb) (.slice P0.ac c.invs.length P0.kc) (.slice P0.aa c.ands.length P0.ka) (.slice P0.an c.names.length P0.kn)
      have BXp : Hid (Below y0.heap.size y0 Vp) := FC.below bb (Nat.le_refl _)
      have GXp : Hid (Vp.heap[y0.heap.size]? = some (.cells (cirC c P0) 27 (0, 0))) := E8
      have dp_0 : Vp.cell? ⟨y0.heap.size, 0, none⟩ = some (.int .i64 c.max) := by simp [World.cell?, E8]
      have dp_1 : Vp.cell? ⟨y0.heap.size, 1, none⟩ = some (.slice P0.ai c.ins.length P0.ki) := by simp [World.cell?, E8]
      have dp_2 : Vp.cell? ⟨y0.heap.size, 2, none⟩ = some (.slice P0.al c.lats.length P0.kl) := by simp [World.cell?, E8]
      have dp_3 : Vp.cell? ⟨y0.heap.size, 3, none⟩ = some (.slice P0.ao c.outs.length P0.ko) := by simp [World.cell?, E8]
      have dp_4 : Vp.cell? ⟨y0.heap.size, 4, none⟩ = some (.slice P0.ab c.bads.length P0.kb) := by simp [World.cell?, E8]
      have dp_5 : Vp.cell? ⟨y0.heap.size, 5, none⟩ = some (.slice P0.ac c.invs.length P0.kc) := by simp [World.cell?, E8]
      have dp_6 : Vp.cell? ⟨y0.heap.size, 6, none⟩ = some (.slice P0.aa c.ands.length P0.ka) := by simp [World.cell?, E8]
      have dp_7 : Vp.cell? ⟨y0.heap.size, 7, none⟩ = some (.slice P0.an c.names.length P0.kn) := by simp [World.cell?, E8]
      clear gb bb E8 FC
      have LVp := Lib.hid (LY0.out.step BXp.out)
      have T2 := Lib.hid (P2.out Vp (LVp.out.max HM.out))
      have hcat : (⟨tc.toArray⟩ : ByteArray) ++ ⟨#[99, 10]⟩ ++ ⟨l.toArray⟩ = ⟨(tc ++ 99 :: 10 :: l).toArray⟩ := bytes_eq _ _ (by simp)
      go_wp2_with fail
      refine T2.out.mono ?_
      rintro e y1 ⟨P1, rfl, hl1, hf1, hb⟩
      clear hwbp hXp_0 ap_0 bp_0 dp_0 hXp_1 ap_1 bp_1 dp_1 hXp_2 ap_2 bp_2 dp_2 hXp_3 ap_3 bp_3 dp_3 hXp_4 ap_4 bp_4 dp_4 hXp_5 ap_5 bp_5 dp_5 hXp_6 ap_6 bp_6 dp_6 hXp_7 ap_7 bp_7 dp_7
      have BY1 := Lib.hid hb
      have LY1 := Lib.hid (LVp.out.step hb)
      have HL1 := Lib.hid hl1
      have HF1 := Lib.hid hf1
      clear hb hl1 hf1 T2
      rw [show cirC c P1 = #[.int .i64 c.max, .slice P1.ai c.ins.length P1.ki, .slice P1.al c.lats.length P1.kl, .slice P1.ao c.outs.length P1.ko, .slice P1.ab c.bads.length P1.kb, .slice P1.ac c.invs.length P1.kc, .slice P1.aa c.ands.length P1.ka, .slice P1.an c.names.length P1.kn] from rfl]
      obtain ⟨wbq, hwbq⟩ : ∃ x, y1.alloc (.cells #[.int .i64 0, .slice none 0 0, .slice none 0 0, .slice none 0 0, .slice none 0 0, .slice none 0 0, .slice none 0 0, .slice none 0 0] 27) = x := ⟨_, rfl⟩
      have gb : wbq.heap[y1.heap.size]? = some (.cells #[.int .i64 0, .slice none 0 0, .slice none 0 0, .slice none 0 0, .slice none 0 0, .slice none 0 0, .slice none 0 0, .slice none 0 0] 27 (0, 0)) := by rw [← hwbq]; exact Array.getElem?_push_size
      have bb : Below y1.heap.size y1 wbq := by rw [← hwbq]; exact (Below.refl _ _).alloc (Nat.le_refl _) _
      obtain ⟨Xq_1, Xq_2, Xq_3, Xq_4, Xq_5, Xq_6, Xq_7, Vq, vq_0, vq_1, vq_2, vq_3, vq_4, vq_5, vq_6, vq_7, ⟨hXq_0, aq_0, bq_0⟩, ⟨hXq_1, aq_1, bq_1⟩, ⟨hXq_2, aq_2, bq_2⟩, ⟨hXq_3, aq_3, bq_3⟩, ⟨hXq_4, aq_4, bq_4⟩, ⟨hXq_5, aq_5, bq_5⟩, ⟨hXq_6, aq_6, bq_6⟩, ⟨hXq_7, aq_7, bq_7⟩, E8, FC⟩ := store8 gb rfl (.int .i64 c.max) (.slice P1.ai c.ins.length P1.ki) (.slice P1.al c.lats.length P1.kl) (.slice P1.ao c.outs.length P1.ko) (.slice P1.ab c.bads.length P1.kb) (.slice P1.ac c.invs.length P1.kc) (.slice P1.aa c.ands.length P1.ka) (.slice P1.an c.names.length P1.kn)
      have BXq : Hid (Below y1.heap.size y1 Vq) := FC.below bb (Nat.le_refl _)
      have GXq : Hid (Vq.heap[y1.heap.size]? = some (.cells (cirC c P1) 27 (0, 0))) := E8
      have dq_0 : Vq.cell? ⟨y1.heap.size, 0, none⟩ = some (.int .i64 c.max) := by simp [World.cell?, E8]
      have dq_1 : Vq.cell? ⟨y1.heap.size, 1, none⟩ = some (.slice P1.ai c.ins.length P1.ki) := by simp [World.cell?, E8]
      have dq_2 : Vq.cell? ⟨y1.heap.size, 2, none⟩ = some (.slice P1.al c.lats.length P1.kl) := by simp [World.cell?, E8]
      have dq_3 : Vq.cell? ⟨y1.heap.size, 3, none⟩ = some (.slice P1.ao c.outs.length P1.ko) := by simp [World.cell?, E8]
      have dq_4 : Vq.cell? ⟨y1.heap.size, 4, none⟩ = some (.slice P1.ab c.bads.length P1.kb) := by simp [World.cell?, E8]
      have dq_5 : Vq.cell? ⟨y1.heap.size, 5, none⟩ = some (.slice P1.ac c.invs.length P1.kc) := by simp [World.cell?, E8]
      have dq_6 : Vq.cell? ⟨y1.heap.size, 6, none⟩ = some (.slice P1.aa c.ands.length P1.ka) := by simp [World.cell?, E8]
      have dq_7 : Vq.cell? ⟨y1.heap.size, 7, none⟩ = some (.slice P1.an c.names.length P1.kn) := by simp [World.cell?, E8]
      clear gb bb E8 FC
      have LVq := Lib.hid (LY1.out.step BXq.out)
      have GP : Hid (Vq.heap[y0.heap.size]? = some (.cells (cirC c P0) 27 (0, 0))) := (BXq.out.block _ (Nat.lt_of_lt_of_le (lt_of_block GXp.out) BY1.out.size)).trans ((BY1.out.block _ (lt_of_block GXp.out)).trans GXp.out)
      obtain ⟨e0, e1, e2, e3, e4, e5, e6, e7⟩ := cells8 GP.out
      have LP0 : Hid (CLies Vq Vq.heap.size c P0) := (((HL0.out.below BXp.out).more BXp.out.size).below (BY1.out.trans (BXq.out.mono BY1.out.size))).more (Nat.le_trans BY1.out.size BXq.out.size)
      have RS := Lib.hid (refsame_any c P0 P1 Vq LP0.out ((HL1.out.below BXq.out).more BXq.out.size) HF0.out)
      unfold cirV at RS
      rw [show cirC c P0 = #[.int .i64 c.max, .slice P0.ai c.ins.length P0.ki, .slice P0.al c.lats.length P0.kl, .slice P0.ao c.outs.length P0.ko, .slice P0.ab c.bads.length P0.kb, .slice P0.ac c.invs.length P0.kc, .slice P0.aa c.ands.length P0.ka, .slice P0.an c.names.length P0.kn] from rfl, show cirC c P1 = #[.int .i64 c.max, .slice P1.ai c.ins.length P1.ki, .slice P1.al c.lats.length P1.kl, .slice P1.ao c.outs.length P1.ko, .slice P1.ab c.bads.length P1.kb, .slice P1.ac c.invs.length P1.kc, .slice P1.aa c.ands.length P1.ka, .slice P1.an c.names.length P1.kn] from rfl] at RS
      go_wp2_with (first | (go_at_call 8; refine (num_any _ _).mono ?_; rintro e w' ⟨rfl, rfl⟩) | fail)
      refine RS.out.mono ?_
      rintro e z ⟨rfl, hb⟩
      have LZ := Lib.hid (LVq.out.step hb)
      clear hb RS e0 e1 e2 e3 e4 e5 e6 e7
      go_wp2
      go_ret
      exact ⟨rfl, LZ.out.bel⟩
    · have hd : decide ((65536 : Int) < (textL c).length + l.length + 2) = true := by simp; omega
      generalize textL c = tc at *
      clear hlen HLT
      go_wp2_with (go_at_call 8; refine (num_any _ _).mono ?_; rintro e w' ⟨rfl, rfl⟩)
      go_ret
      exact ⟨rfl, L2.out.bel⟩
end Go.Proofs.YtckdlbfndmmjjaaGreatDoor.Aag
namespace Go.Proofs.YtckdlbfndmmjjaaGreatDoor.Aag
open Go.ChangeShapes Go.WideShapes Go.ChangeAt Go.RowKit Go.Maps Dig Circ Cw

theorem g0 : Tryz.prog.globalNamed "internal/strconv.uint64pow10" = some 1 := by kernel_rfl
theorem g0type : (Tryz.prog.globals[1]?).map (·.type) = some 141 := by kernel_rfl
theorem cells20 : Tryz.prog.cellsOf 141 = 20 := by kernel_rfl
theorem cells1 : Tryz.prog.cellsOf 127 = 1 := by kernel_rfl
/-- what the row's list gives -/
theorem tab_of {W : World} (h : laidMetH Tryz.prog Rows.aagBackRow.laid W) : Tab W := by
  have h1 : laidMet Tryz.prog Rows.aagBackRow.laid W := h
  have ht : Lib.TabIs Tryz.prog W "internal/strconv.uint64pow10" .u64 Lib.pow10Tab :=
    Lib.tabIs_of_head (rest := []) g0 g0type Tryz.underlying141 Tryz.underlying127 cells1 cells20 (Frame.laid_tail (Frame.laid_tail h1))
  have hc := ht.cell g0 0 (by decide)
  have hlt : 1 < W.heap.size := by
    rcases Nat.lt_or_ge 1 W.heap.size with h | h
    · exact h
    · unfold World.cell? at hc; rw [Array.getElem?_eq_none h] at hc; cases hc
  intro w' hb
  exact var?_below hb g0 hlt ht
theorem first_weights {H : Type} {t : TypeId} {d : DataW H} {ts : List TypeId} {ds : List (DataW H)} (hsz : (DataW.weightsEach Tryz.prog (t :: ts) (d :: ds)).all (· ≤ reachBytes) = true) : ∀ n ∈ DataW.weights Tryz.prog t d, n ≤ reachBytes := fun n hn => by
  have := List.all_eq_true.1 hsz n (DataW.weights_mem_each (j := 0) rfl rfl n hn)
  simpa using this
theorem second_weights {H : Type} {t u : TypeId} {d e : DataW H} {ts : List TypeId} {ds : List (DataW H)} (hsz : (DataW.weightsEach Tryz.prog (t :: u :: ts) (d :: e :: ds)).all (· ≤ reachBytes) = true) : ∀ n ∈ DataW.weights Tryz.prog u e, n ≤ reachBytes := fun n hn => by
  have := List.all_eq_true.1 hsz n (DataW.weights_mem_each (j := 1) rfl rfl n hn)
  simpa using this
set_option maxRecDepth 100000 in
theorem back_core {H : Type} {enc : TypeId × Value → H} (W : World) (v : Value) (d : DataW H) (p : List MemPlace) {r : Reach} {b0 : Nat} (hv : Value.okWide Tryz.prog W r b0 27 v) (h : DataW.Trod enc Tryz.prog W 0 (fun _ => true) true 27 v d p) (x : ByteArray) (_hx : x.size ≤ maxLen)
    {ts : List TypeId} {ds : List (DataW H)} (hsz : (DataW.weightsEach Tryz.prog (27 :: ts) (d :: ds)).all (· ≤ reachBytes) = true) (hL : laidMetH Tryz.prog Rows.aagBackRow.laid W) (hopen : W.ShapedOpen Tryz.prog) :
    Calls Tryz.prog 3 #[v, .string x] W fun e W' => e = .returned (.bool true) ∧ Below W.heap.size W W' := by
  obtain ⟨c, s, rfl, hl, hf⟩ := open_circ hv h (first_weights hsz)
  exact back_walk c s x W hl hf (tab_of hL) (Tryz.laysM219.s1_3 W hopen)
set_option maxRecDepth 100000 in
theorem cuts_core {H : Type} {enc : TypeId × Value → H} (W : World) (v : Value) (d : DataW H) (p : List MemPlace) {r : Reach} {b0 : Nat} (hv : Value.okWide Tryz.prog W r b0 27 v) (h : DataW.Trod enc Tryz.prog W 0 (fun _ => true) true 27 v d p) (x : Int) (_h0 : -9223372036854775808 ≤ x) (_h1 : x ≤ 9223372036854775807)
    {ts : List TypeId} {ds : List (DataW H)} (hsz : (DataW.weightsEach Tryz.prog (27 :: ts) (d :: ds)).all (· ≤ reachBytes) = true) (hL : laidMetH Tryz.prog Rows.aagBackRow.laid W) (hopen : W.ShapedOpen Tryz.prog) :
    Calls Tryz.prog 4 #[v, .int .i64 x] W fun e W' => e = .returned (.bool true) ∧ Below W.heap.size W W' := by
  obtain ⟨c, s, rfl, hl, hf⟩ := open_circ hv h (first_weights hsz)
  exact cuts_walk c s x W hl hf (tab_of hL) (Tryz.laysM219.s1_3 W hopen)
set_option maxRecDepth 100000 in
theorem com_core {H : Type} {enc : TypeId × Value → H} (W : World) (v : Value) (d : DataW H) (p : List MemPlace) {r : Reach} {b0 : Nat} (hv : Value.okWide Tryz.prog W r b0 27 v) (h : DataW.Trod enc Tryz.prog W 0 (fun _ => true) true 27 v d p) (x : ByteArray) (_hx : x.size ≤ maxLen)
    {ts : List TypeId} {ds : List (DataW H)} (hsz : (DataW.weightsEach Tryz.prog (27 :: 9 :: ts) (d :: .lit (.string x.data.toList) :: ds)).all (· ≤ reachBytes) = true) (hL : laidMetH Tryz.prog Rows.aagBackRow.laid W) (hopen : W.ShapedOpen Tryz.prog) :
    Calls Tryz.prog 5 #[v, .string x] W fun e W' => e = .returned (.bool true) ∧ Below W.heap.size W W' := by
  obtain ⟨c, s, rfl, hl, hf⟩ := open_circ hv h (first_weights hsz)
  have hx := second_weights hsz x.data.toList.length (by simp [DataW.weights])
  unfold reachBytes at hx
  have e : x.data.toList.length = x.size := by simp
  exact comments_walk c s x (by omega) W hl hf (tab_of hL) (Tryz.laysM219.s1_3 W hopen)
end Go.Proofs.YtckdlbfndmmjjaaGreatDoor.Aag
