/- The walk of aag's Print of a circuit that may be; condition: the table of powers of ten is as it is laid. -/
import Derived.Test.YtckdlbfndmmjjaaGreatDoorAagPrn
namespace Go.Proofs.YtckdlbfndmmjjaaGreatDoor.Aag
open Go.ChangeShapes Go.WideShapes Go.ChangeAt Go.RowKit Go.Maps Dig Circ Cw

theorem cat_size {x : Nam} (hf : NamFine x) (hi : x.fits) : x.kind.size + (⟨(Lib.itoa x.num).toArray⟩ : ByteArray).size ≤ 140737488355328 := by
  obtain ⟨⟨k, _, hk⟩, _, _⟩ := hf
  have h1 : x.kind.data.toList.length = 1 := by rw [hk]; rfl
  have h2 := itoa_short x.num hi.2.1
  have h3 : x.kind.size = x.kind.data.toList.length := by simp
  have h4 : (⟨(Lib.itoa x.num).toArray⟩ : ByteArray).size = (Lib.itoa x.num).length := by simp [ByteArray.size]
  omega
theorem nam_size {x : Nam} (hf : NamFine x) (hi : x.fits) (ht : x.text.data.toList.length ≤ 32) : ([x.kind.data.toList ++ Lib.itoa x.num, x.text.data.toList] : List (List UInt8)).flatten.length + ([x.kind.data.toList ++ Lib.itoa x.num, x.text.data.toList] : List (List UInt8)).length ≤ 4194304 := by
  obtain ⟨⟨k, _, hk⟩, _, _⟩ := hf
  have h1 : x.kind.data.toList.length = 1 := by rw [hk]; rfl
  have h2 := itoa_short x.num hi.2.1
  simp only [List.flatten_cons, List.flatten_nil, List.length_append, List.length_cons, List.length_nil]
  omega
theorem names_short (l : List Nam) (hf : ∀ x ∈ l, NamFine x) (ht : ∀ x ∈ l, x.text.data.toList.length ≤ 32) (hl : l.length ≤ 320) : (nlL (l.map namL)).length ≤ 100000 := by
  have h : ∀ (l : List Nam), (∀ x ∈ l, NamFine x) → (∀ x ∈ l, x.text.data.toList.length ≤ 32) → (nlL (l.map namL)).length ≤ 70 * l.length := by
    intro l
    induction l with
    | nil => intro _ _; simp [nlL]
    | cons x l ih =>
      intro hf ht
      have h1 := ih (fun y hy => hf y (List.mem_cons_of_mem _ hy)) (fun y hy => ht y (List.mem_cons_of_mem _ hy))
      have h2 := ht x List.mem_cons_self
      obtain ⟨⟨k, _, hk⟩, hn, _⟩ := hf x List.mem_cons_self
      have h3 := itoa_short x.num ⟨by have := hn.1; omega, by have := hn.2; omega⟩
      have e : nlL ((x :: l).map namL) = (namL x ++ [10]) ++ nlL (l.map namL) := by unfold nlL; rfl
      have e2 : (namL x ++ [10]).length ≤ 60 := by
        unfold namL
        have h5 : x.text.data.toList.length = x.text.size := by simp
        rw [hk, List.length_append]
        simp [joinL]
        omega
      rw [e, List.length_append, List.length_cons]
      omega
  have := h l hf ht
  omega
theorem len_more {a b : List UInt8} {n m k : Nat} (h : a.length ≤ n) (h2 : b.length ≤ m) (h3 : n + m ≤ k) : (a ++ b).length ≤ k := by rw [List.length_append]; omega
set_option maxHeartbeats 8000000 in
set_option maxRecDepth 100000 in
theorem print_yes (c : Cir) (s : Places) (w : World) (h : CLies w w.heap.size c s) (hf : CFits c s) (hc : chk c = true) (htab : Tab w) :
    Calls Tryz.prog 7 #[cirV c s] w fun e w' => e = .returned (.tuple #[sv (textL c), .int .i64 0]) ∧ Below w.heap.size w w' := by
  obtain ⟨ai, al, ao, ab, ac, aa, an, ki, kl, ko, kb, kc, ka, kn⟩ := s
  obtain ⟨hfine, z1, z2, z3, z4, z5, z6, z7, z8⟩ := chk_fine c hc
  have SZ : Hid (c.ins.length ≤ 64 ∧ c.lats.length ≤ 64 ∧ c.outs.length ≤ 64 ∧ c.bads.length ≤ 64 ∧ c.invs.length ≤ 64 ∧ c.ands.length ≤ 4097 ∧ c.names.length ≤ 320) := ⟨z1, z2, z3, z4, z5, z6, z7⟩
  have HFI := Lib.hid hfine
  have HTX := Lib.hid z8
  have HB1 : Hid (Below w.heap.size w (w.alloc (.cells (cirC c ⟨ai, al, ao, ab, ac, aa, an, ki, kl, ko, kb, kc, ka, kn⟩) 27))) := (Below.refl _ _).alloc (Nat.le_refl _) _
  have HS1 : Hid ((w.alloc (.cells (cirC c ⟨ai, al, ao, ab, ac, aa, an, ki, kl, ko, kb, kc, ka, kn⟩) 27)).heap.size = w.heap.size + 1) := by unfold Hid; simp
  have HX1 : Hid ((w.alloc (.cells (cirC c ⟨ai, al, ao, ab, ac, aa, an, ki, kl, ko, kb, kc, ka, kn⟩) 27)).heap[w.heap.size]? = some (.cells (cirC c ⟨ai, al, ao, ab, ac, aa, an, ki, kl, ko, kb, kc, ka, kn⟩) 27 (0, 0))) := Array.getElem?_push_size
  have CK := Lib.hid (check_any c ⟨ai, al, ao, ab, ac, aa, an, ki, kl, ko, kb, kc, ka, kn⟩ _ ((h.below HB1.out).more (by simp)) hf)
  rw [chkV_yes c hc] at CK
  have H := Lib.hid h
  have HF := Lib.hid hf
  have HT := Lib.hid htab
  clear h hf hc htab hfine z1 z2 z3 z4 z5 z6 z7 z8
  unfold cirV at *
  rw [show cirC c ⟨ai, al, ao, ab, ac, aa, an, ki, kl, ko, kb, kc, ka, kn⟩ = #[.int .i64 c.max, .slice ai c.ins.length ki, .slice al c.lats.length kl, .slice ao c.outs.length ko, .slice ab c.bads.length kb, .slice ac c.invs.length kc, .slice aa c.ands.length ka, .slice an c.names.length kn] from rfl] at CK HB1 HS1 HX1 ⊢
  go_enter Tryz.func7, Tryz.ntmps7
  go_wp2_with fail
  refine CK.out.mono ?_
  rintro e w1 ⟨rfl, hb⟩
  have BW1 : Hid (Below (w.heap.size + 1) (w.alloc (.cells #[.int .i64 c.max, .slice ai c.ins.length ki, .slice al c.lats.length kl, .slice ao c.outs.length ko, .slice ab c.bads.length kb, .slice ac c.invs.length kc, .slice aa c.ands.length ka, .slice an c.names.length kn] 27)) w1) := hb.mono (by rw [HS1.out]; exact Nat.le_refl _)
  have BW0 : Hid (Below w.heap.size w w1) := HB1.out.trans (BW1.out.mono (by omega))
  have HSB : Hid (w.heap.size + 1 ≤ w1.heap.size) := by have := BW1.out.size; rw [HS1.out] at this; exact this
  clear hb CK
  obtain ⟨W, hW⟩ : ∃ x, w1.alloc (.cells #[.pointer none, .slice none 0 0] 44) = x := ⟨_, rfl⟩
  obtain ⟨B, hB⟩ : ∃ x, w1.heap.size = x := ⟨_, rfl⟩
  have WS0 : Hid (WS B B [] W) := by rw [← hB, ← hW]; exact WS.fresh w1
  have WB : Hid (Below B w1 W) := by rw [← hB, ← hW]; exact (Below.refl _ _).alloc (Nat.le_refl _) _
  have WZ : Hid (W.heap.size = B + 1) := by rw [← hB, ← hW]; unfold Hid; simp
  have HB0 := Lib.hid hB
  have FX : Hid (∀ x, Below B W x → x.heap[w.heap.size]? = some (.cells (cirC c ⟨ai, al, ao, ab, ac, aa, an, ki, kl, ko, kb, kc, ka, kn⟩) 27 (0, 0)) ∧ CLies x B c ⟨ai, al, ao, ab, ac, aa, an, ki, kl, ko, kb, kc, ka, kn⟩ ∧ Tab x ∧ B ≤ x.heap.size) := fun x hx => by
    have hsb := HSB.out
    have hb0 := HB0.out
    have hbx : Below w.heap.size w x := BW0.out.trans ((WB.out.mono (by omega)).trans (hx.mono (by omega)))
    refine ⟨?_, (H.out.below hbx).more (by omega), Tab.later (w := w) HT.out hbx, ?_⟩
    · rw [hx.block _ (by omega), WB.out.block _ (by omega), BW1.out.block _ (by omega)]; exact HX1.out
    · have := hx.size; have := WZ.out; omega
  have G0 : Hid (Gath W B B c ⟨ai, al, ao, ab, ac, aa, an, ki, kl, ko, kb, kc, ka, kn⟩ [] W) := ⟨WS0.out, Below.refl _ _⟩
  have BEX : Hid (∀ x, Below B W x → Below w.heap.size w x) := fun x hx => by
    have hsb := HSB.out
    have hb0 := HB0.out
    exact BW0.out.trans ((WB.out.mono (by omega)).trans (hx.mono (by omega)))
  clear WS0 WB WZ HB1 HS1 HX1 BW1 BW0 H HT
  obtain ⟨e0, e1, e2, e3, e4, e5, e6, e7⟩ := cells8 (FX.out _ G0.out.bel).1
  have L1 := Lib.hid (wheader_any B B c ⟨ai, al, ao, ab, ac, aa, an, ki, kl, ko, kb, kc, ka, kn⟩ [] W G0.out.ws (FX.out _ G0.out.bel).2.2.2 HF.out (FX.out _ G0.out.bel).2.2.1 (by simp))
  unfold cirV cirC at L1
  go_wp2_with fail
  refine L1.out.mono ?_
  rintro e x1 ⟨rfl, hws, hb⟩
  have G1 := Lib.hid (G0.out.step hws hb)
  have HI : Hid (∀ x ∈ headNs c, I64 x) := by
    have z := SZ.out
    have h0 := HF.out.max
    intro x hx
    unfold headNs at hx
    simp only [List.mem_cons, List.not_mem_nil, or_false] at hx
    rcases hx with rfl | rfl | rfl | rfl | rfl | rfl | rfl
    · exact h0
    all_goals (constructor <;> omega)
  have LE1 : Hid (List.length _ ≤ 200) := head_short c HI.out
  rw [List.nil_append] at G1
  clear hws hb L1 hW hB e0 e1 e2 e3 e4 e5 e6 e7
  obtain ⟨e0, e1, e2, e3, e4, e5, e6, e7⟩ := cells8 (FX.out _ G1.out.bel).1
  have L2 := Lib.hid (wliterals_any B B c.ins ai ki _ _ G1.out.ws (FX.out _ G1.out.bel).2.2.2 (by have := SZ.out; omega) (FX.out _ G1.out.bel).2.1.ins HF.out.ins (FX.out _ G1.out.bel).2.2.1 (Nat.le_trans LE1.out (by decide)))
  go_wp2_with fail
  refine L2.out.mono ?_
  rintro e x2 ⟨rfl, hws, hb⟩
  have G2 := Lib.hid (G1.out.step hws hb)
  have LE2 : Hid (List.length _ ≤ 2000) := Nat.le_trans (le_lits LE1.out HF.out.ins) (by have := SZ.out; omega)
  clear hws hb L2 e0 e1 e2 e3 e4 e5 e6 e7
  obtain ⟨e0, e1, e2, e3, e4, e5, e6, e7⟩ := cells8 (FX.out _ G2.out.bel).1
  go_wp2
  go_loopw [25] (fun i wr => ∃ j : Nat, j ≤ c.lats.length ∧ i = .int .i64 j ∧ Gath W B B c ⟨ai, al, ao, ab, ac, aa, an, ki, kl, ko, kb, kc, ka, kn⟩ (headL c ++ [10] ++ nlL (c.ins.map litL) ++ nlL ((c.lats.take j).map latL)) wr) (fun i _ => c.lats.length - (intOf i).toNat)
  case atStart => exact ⟨0, Nat.zero_le _, rfl, by simpa [nlL] using G2.out⟩
  case round =>
    obtain ⟨j, hj, rfl, hg⟩ := hrel
    have G := Lib.hid hg
    clear hg e0 e1 e2 e3 e4 e5 e6 e7
    have LEJ : Hid (List.length _ ≤ 8000) := len_more LE2.out (Nat.le_trans (lats_short (c.lats.take j) (fun t ht => HF.out.lats t (List.mem_of_mem_take ht))) (by rw [List.length_take]; have := SZ.out; omega : 70 * (c.lats.take j).length ≤ 6000)) (by decide)
    have zl : c.lats.length ≤ 64 := SZ.out.2.1
    by_cases hlt : j < c.lats.length
    · obtain ⟨b1, o1, hA, hbb, c0, c1, c2⟩ := ((FX.out _ G.out.bel).2.1.lats).tri hlt
      simp only at hA
      subst hA
      have HT2 := Lib.hid (show nlL ((c.lats.take (j + 1)).map latL) = nlL ((c.lats.take j).map latL) ++ (latL c.lats[j] ++ [10]) by rw [List.take_succ_eq_append_getElem hlt, List.map_append, List.map_cons, List.map_nil, nl_snoc])
      have hfit := HF.out.lats c.lats[j] (List.getElem_mem _)
      have hal : Below wr.heap.size wr (wr.alloc (.cells #[.int .i64 c.lats[j].a, .int .i64 c.lats[j].b, .int .i64 c.lats[j].c] 48)) := (Below.refl _ _).alloc (Nat.le_refl _) _
      have hbs := (FX.out _ G.out.bel).2.2.2
      have HAL := Lib.hid (hal.mono hbs)
      have LN := Lib.hid (wlatch_any B B c.lats[j] _ _ (G.out.ws.below hal) (Nat.le_trans hbs hal.size) hfit (FX.out _ (G.out.bel.trans HAL.out)).2.2.1 (Nat.le_trans LEJ.out (by decide)))
      clear hfit hal hbs
      generalize c.lats[j] = t at *
      go_wp2_with fail
      refine LN.out.mono ?_
      rintro e x3 ⟨rfl, hws, hb⟩
      have G3 := Lib.hid (G.out.step hws (HAL.out.trans hb))
      clear hws hb
      go_wp2
      go_roundw
      case rel => exact ⟨j + 1, by omega, by go_num, by rw [HT2.out, ← List.append_assoc]; exact G3.out⟩
      case measure => simp [intOf]; omega
    · obtain rfl : j = c.lats.length := by omega
      rw [List.take_length] at G LEJ
      obtain ⟨x2b, rfl⟩ : ∃ x, x = wr := ⟨_, rfl⟩
      have G3 := Lib.hid G.out
      have LE3 : Hid (List.length _ ≤ 8000) := LEJ.out
      clear G LEJ
      obtain ⟨e0, e1, e2, e3, e4, e5, e6, e7⟩ := cells8 (FX.out _ G3.out.bel).1
      have L4 := Lib.hid (wliterals_any B B c.outs ao ko _ _ G3.out.ws (FX.out _ G3.out.bel).2.2.2 (by have := SZ.out; omega) (FX.out _ G3.out.bel).2.1.outs HF.out.outs (FX.out _ G3.out.bel).2.2.1 (Nat.le_trans LE3.out (by decide)))
      go_wp2_with fail
      refine L4.out.mono ?_
      rintro e x4 ⟨rfl, hws, hb⟩
      have G4 := Lib.hid (G3.out.step hws hb)
      have LE4 : Hid (List.length _ ≤ 10000) := Nat.le_trans (le_lits LE3.out HF.out.outs) (by have := SZ.out; omega)
      clear hws hb L4 e0 e1 e2 e3 e4 e5 e6 e7
      obtain ⟨e0, e1, e2, e3, e4, e5, e6, e7⟩ := cells8 (FX.out _ G4.out.bel).1
      have L5 := Lib.hid (wliterals_any B B c.bads ab kb _ _ G4.out.ws (FX.out _ G4.out.bel).2.2.2 (by have := SZ.out; omega) (FX.out _ G4.out.bel).2.1.bads HF.out.bads (FX.out _ G4.out.bel).2.2.1 (Nat.le_trans LE4.out (by decide)))
      go_wp2_with fail
      refine L5.out.mono ?_
      rintro e x5 ⟨rfl, hws, hb⟩
      have G5 := Lib.hid (G4.out.step hws hb)
      have LE5 : Hid (List.length _ ≤ 12000) := Nat.le_trans (le_lits LE4.out HF.out.bads) (by have := SZ.out; omega)
      clear hws hb L5 e0 e1 e2 e3 e4 e5 e6 e7
      obtain ⟨e0, e1, e2, e3, e4, e5, e6, e7⟩ := cells8 (FX.out _ G5.out.bel).1
      have L6 := Lib.hid (wliterals_any B B c.invs ac kc _ _ G5.out.ws (FX.out _ G5.out.bel).2.2.2 (by have := SZ.out; omega) (FX.out _ G5.out.bel).2.1.invs HF.out.invs (FX.out _ G5.out.bel).2.2.1 (Nat.le_trans LE5.out (by decide)))
      go_wp2_with fail
      refine L6.out.mono ?_
      rintro e x6 ⟨rfl, hws, hb⟩
      have G6 := Lib.hid (G5.out.step hws hb)
      have LE6 : Hid (List.length _ ≤ 14000) := Nat.le_trans (le_lits LE5.out HF.out.invs) (by have := SZ.out; omega)
      clear hws hb L6 e0 e1 e2 e3 e4 e5 e6 e7
      obtain ⟨e0, e1, e2, e3, e4, e5, e6, e7⟩ := cells8 (FX.out _ G6.out.bel).1
      go_wp2
      go_loopw [44] (fun i wr => ∃ j : Nat, j ≤ c.ands.length ∧ i = .int .i64 j ∧ Gath W B B c ⟨ai, al, ao, ab, ac, aa, an, ki, kl, ko, kb, kc, ka, kn⟩ (headL c ++ [10] ++ nlL (c.ins.map litL) ++ nlL (c.lats.map latL) ++ nlL (c.outs.map litL) ++ nlL (c.bads.map litL) ++ nlL (c.invs.map litL) ++ nlL ((c.ands.take j).map andL)) wr) (fun i _ => c.ands.length - (intOf i).toNat)
      case atStart => exact ⟨0, Nat.zero_le _, rfl, by simpa [nlL] using G6.out⟩
      case round =>
        obtain ⟨j, hj, rfl, hg⟩ := hrel
        have G := Lib.hid hg
        clear hg e0 e1 e2 e3 e4 e5 e6 e7
        have za : c.ands.length ≤ 4097 := SZ.out.2.2.2.2.2.1
        have LEJ : Hid (List.length _ ≤ 400000) := len_more LE6.out (Nat.le_trans (ands_short (c.ands.take j) (fun t ht => HF.out.ands t (List.mem_of_mem_take ht))) (by rw [List.length_take]; omega : 70 * (c.ands.take j).length ≤ 300000)) (by decide)
        by_cases hlt : j < c.ands.length
        · obtain ⟨b1, o1, hA, hbb, c0, c1, c2⟩ := ((FX.out _ G.out.bel).2.1.ands).tri hlt
          simp only at hA
          subst hA
          have HT2 := Lib.hid (show nlL ((c.ands.take (j + 1)).map andL) = nlL ((c.ands.take j).map andL) ++ (andL c.ands[j] ++ [10]) by rw [List.take_succ_eq_append_getElem hlt, List.map_append, List.map_cons, List.map_nil, nl_snoc])
          have hfit := HF.out.ands c.ands[j] (List.getElem_mem _)
          have HI3 : Hid (∀ x ∈ [c.ands[j].a, c.ands[j].b, c.ands[j].c], I64 x) := by
            intro x hx
            simp only [List.mem_cons, List.not_mem_nil, or_false] at hx
            rcases hx with rfl | rfl | rfl
            · exact hfit.1
            · exact hfit.2.1
            · exact hfit.2.2
          have HSH := Lib.hid (and_short c.ands[j] hfit)
          have HAL : Hid (andL c.ands[j] = joinL (nums [c.ands[j].a, c.ands[j].b, c.ands[j].c])) := rfl
          have hbs := (FX.out _ G.out.bel).2.2.2
          clear hfit
          generalize c.ands[j] = t at *
          obtain ⟨x, y, z⟩ := t
          simp only at c0 c1 c2 HI3 HAL
          have hs1 : (wr.alloc (.cells #[.int .i64 x, .int .i64 y, .int .i64 z] 51)).heap.size = wr.heap.size + 1 := by simp
          have A1 : Hid (Below wr.heap.size wr (wr.alloc (.cells #[.int .i64 x, .int .i64 y, .int .i64 z] 51))) := (Below.refl _ _).alloc (Nat.le_refl _) _
          have A2 : Hid (Below wr.heap.size wr ((wr.alloc (.cells #[.int .i64 x, .int .i64 y, .int .i64 z] 51)).alloc (.cells #[.int .i64 x, .int .i64 y, .int .i64 z] 3))) := A1.out.alloc A1.out.size _
          have PA := Lib.hid (printed_any [x, y, z] _ 3 _ _ (by simp) (ints_row (wr.alloc (.cells #[.int .i64 x, .int .i64 y, .int .i64 z] 51)) [x, y, z] #[.int .i64 x, .int .i64 y, .int .i64 z] 3 rfl) (by simp) HI3.out (FX.out _ (G.out.bel.trans (A2.out.mono hbs))).2.2.1)
          rw [hs1] at PA
          simp only [List.length_cons, List.length_nil] at PA
          have HBS := Lib.hid hbs
          clear hs1 hbs
          go_wp2_with fail
          refine PA.out.mono ?_
          rintro e x3 ⟨v, rfl, hown, hb1⟩
          have B1 : Hid (Below wr.heap.size wr x3) := A2.out.trans (hb1.mono A2.out.size)
          have hsz : (nums [x, y, z]).flatten.length + (nums [x, y, z]).length ≤ 4194304 := by
            have h1 := itoa_short x (HI3.out x (by simp))
            have h2 := itoa_short y (HI3.out y (by simp))
            have h3 := itoa_short z (HI3.out z (by simp))
            simp [nums]; omega
          have LN := Lib.hid (wline_any B B v (nums [x, y, z]) _ x3 (G.out.ws.below B1.out) (Nat.le_trans HBS.out B1.out.size) (svs_texts hown).reads hsz (Nat.le_trans LEJ.out (by decide)))
          rw [← HAL.out] at LN
          clear hown hb1 PA hsz
          go_wp2_with fail
          refine LN.out.mono ?_
          rintro e x4 ⟨rfl, hws, hb, -⟩
          have G3 := Lib.hid (G.out.step hws ((B1.out.mono HBS.out).trans hb))
          clear hws hb
          go_wp2
          go_roundw
          case rel => exact ⟨j + 1, by omega, by go_num, by rw [HT2.out, ← List.append_assoc]; exact G3.out⟩
          case measure => simp [intOf]; omega
        · obtain rfl : j = c.ands.length := by omega
          rw [List.take_length] at G LEJ
          obtain ⟨x7, rfl⟩ : ∃ x, x = wr := ⟨_, rfl⟩
          have G7 := Lib.hid G.out
          have LE7 : Hid (List.length _ ≤ 400000) := LEJ.out
          clear G LEJ
          obtain ⟨e0, e1, e2, e3, e4, e5, e6, e7⟩ := cells8 (FX.out _ G7.out.bel).1
          go_wp2
          go_loopw [61] (fun i wr => ∃ j : Nat, j ≤ c.names.length ∧ i = .int .i64 j ∧ Gath W B B c ⟨ai, al, ao, ab, ac, aa, an, ki, kl, ko, kb, kc, ka, kn⟩ (headL c ++ [10] ++ nlL (c.ins.map litL) ++ nlL (c.lats.map latL) ++ nlL (c.outs.map litL) ++ nlL (c.bads.map litL) ++ nlL (c.invs.map litL) ++ nlL (c.ands.map andL) ++ nlL ((c.names.take j).map namL)) wr) (fun i _ => c.names.length - (intOf i).toNat)
          case atStart => exact ⟨0, Nat.zero_le _, rfl, by simpa [nlL] using G7.out⟩
          case round =>
            obtain ⟨j, hj, rfl, hg⟩ := hrel
            have G := Lib.hid hg
            clear hg e0 e1 e2 e3 e4 e5 e6 e7
            have zn : c.names.length ≤ 320 := SZ.out.2.2.2.2.2.2
            have LEJ : Hid (List.length _ ≤ 500000) := len_more LE7.out (names_short (c.names.take j) (fun t ht => HFI.out.names t (List.mem_of_mem_take ht)) (fun t ht => HTX.out t (List.mem_of_mem_take ht)) (by rw [List.length_take]; omega)) (by decide)
            by_cases hlt : j < c.names.length
            · obtain ⟨b1, o1, hA, hbb, c0, c1, c2⟩ := ((FX.out _ G.out.bel).2.1.names).nam hlt
              simp only at hA
              subst hA
              have HT2 := Lib.hid (show nlL ((c.names.take (j + 1)).map namL) = nlL ((c.names.take j).map namL) ++ (namL c.names[j] ++ [10]) by rw [List.take_succ_eq_append_getElem hlt, List.map_append, List.map_cons, List.map_nil, nl_snoc])
              have hfit := HF.out.names c.names[j] (List.getElem_mem _)
              have HFN := Lib.hid (HFI.out.names c.names[j] (List.getElem_mem _))
              have HTL := Lib.hid (HTX.out c.names[j] (List.getElem_mem _))
              have HFT := Lib.hid hfit
              clear hfit
              generalize c.names[j] = x at *
              go_wp2
              obtain ⟨Wq, hWq⟩ : ∃ y, y = wr.alloc (.cells #[.string x.kind, .int .i64 x.num, .string x.text] 56) := ⟨_, rfl⟩
              obtain ⟨X, hX⟩ : ∃ X, X = wr.heap.size := ⟨_, rfl⟩
              have HQ : Hid (Below wr.heap.size wr Wq) := by unfold Hid; rw [hWq]; exact (Below.refl _ _).alloc (Nat.le_refl _) _
              have HQX : Hid (Wq.heap[X]? = some (.cells #[.string x.kind, .int .i64 x.num, .string x.text] 56 (0, 0))) := by unfold Hid; rw [hWq, hX]; exact Array.getElem?_push_size
              rw [← hWq, ← hX]
              clear hWq hX c0 c1 c2
              have HBS := Lib.hid (FX.out _ G.out.bel).2.2.2
              have HBQ : Hid (B ≤ Wq.heap.size) := Nat.le_trans HBS.out HQ.out.size
              have HQB := Lib.hid (HQ.out.mono HBS.out)
              have HWS := Lib.hid (G.out.ws.below HQ.out)
              have EP : Hid (∀ args w, (callFunc 17 args).run Tryz.prog w = .ok (.enter 17 args) w) := enters_of Tryz.func17 (by kernel_rfl) rfl
              have EL : Hid (∀ args w, (callFunc 15 args).run Tryz.prog w = .ok (.enter 15 args) w) := enters_of Tryz.func15 (by kernel_rfl) rfl
              obtain ⟨lc, hlc⟩ : ∃ lc, lc = headL c ++ [10] ++ nlL (c.ins.map litL) ++ nlL (c.lats.map latL) ++ nlL (c.outs.map litL) ++ nlL (c.bads.map litL) ++ nlL (c.invs.map litL) ++ nlL (c.ands.map andL) ++ nlL ((c.names.take j).map namL) := ⟨_, rfl⟩
              have HLC := Lib.hid hlc
              rw [← hlc] at HWS LEJ
              clear hlc
              refine wp_region_vals (by kernel_rfl) (by kernel_rfl) nlM (by kernel_rfl) (by kernel_rfl)
                (fun d w' => (d 9 = false → Below Wq.heap.size Wq w') ∧ Below B Wq w') (nlR B B X x lc) ⟨fun _ => (Below.refl _ _).drew, (Below.refl _ _).drew⟩ (fun j f f' w w' hb hf h => nl_stab j (fun _ g hg => hb.block g (lt_of_block hg)) (fun _ => hb) hf h) ?_ ?_
              · intro i oo d a' w' ho hd hun hok hD K hK hK0
                have okq : i ≠ 9 → ((fun j => decide (j = i) || d j) 9 = false → Below Wq.heap.size Wq w') ∧ Below B Wq w' := fun hne =>
                  ⟨fun h => hok.1 (by simp only [Bool.or_eq_false_iff] at h; exact h.2), hok.2⟩
                have hcell : d 9 = false → ∀ k, w'.cell? ⟨X, k, none⟩ = (#[.string x.kind, .int .i64 x.num, .string x.text] : Array Value)[k]? := fun h k => by
                  have := ((hok.1 h).block X (lt_of_block HQX.out)).trans HQX.out
                  simp [World.cell?, this]
                match i, ho, hd, hD, hK, hK0, hun, okq with
                | 0, ho, hd, hD, hK, hK0, hun, okq =>
                  have e := (congrArg Oper.op (Option.some.inj ho)).symm
                  obtain rfl := Option.some.inj ho
                  exact wp_val (op_field_name a' w' X 0 11 (by decide) (hun 11 (by kernel_rfl)) _ e) (hK _ _ (Below.refl _ _) (okq (by decide)) (fun f h1 _ => h1 _ rfl))
                | 1, ho, hd, hD, hK, hK0, hun, okq =>
                  have e := (congrArg Oper.op (Option.some.inj ho)).symm
                  obtain rfl := Option.some.inj ho
                  exact wp_val (op_load_str a' w' _ 65 _ (hD 0 (by kernel_rfl)) ((hcell (hd 9 (by kernel_rfl)) 0).trans rfl) _ e) (hK _ _ (Below.refl _ _) (okq (by decide)) (fun f h1 _ => h1 _ rfl))
                | 2, ho, hd, hD, hK, hK0, hun, okq =>
                  have e := (congrArg Oper.op (Option.some.inj ho)).symm
                  obtain rfl := Option.some.inj ho
                  exact wp_val (op_field_name a' w' X 1 11 (by decide) (hun 11 (by kernel_rfl)) _ e) (hK _ _ (Below.refl _ _) (okq (by decide)) (fun f h1 _ => h1 _ rfl))
                | 3, ho, hd, hD, hK, hK0, hun, okq =>
                  have e := (congrArg Oper.op (Option.some.inj ho)).symm
                  obtain rfl := Option.some.inj ho
                  exact wp_val (op_load_int a' w' _ 67 _ (hD 2 (by kernel_rfl)) ((hcell (hd 9 (by kernel_rfl)) 1).trans rfl) _ e) (hK _ _ (Below.refl _ _) (okq (by decide)) (fun f h1 _ => h1 _ rfl))
                | 4, ho, hd, hD, hK, hK0, hun, okq =>
                  have e := (congrArg Oper.op (Option.some.inj ho)).symm
                  obtain rfl := Option.some.inj ho
                  have hb9 := hok.1 (hd 9 (by kernel_rfl))
                  refine wp_enter (op_call1 a' w' _ 68 _ EP.out _ e) ?_
                  rw [show a'.tmps.getD 68 undef = _ from hD 3 (by kernel_rfl)]
                  have htb : Tab w' := (FX.out _ (G.out.bel.trans (HQB.out.trans hok.2))).2.2.1
                  refine (print_any x.num HFT.out.2.1.1 HFT.out.2.1.2 w' (htb w' (Below.refl _ _))).mono ?_
                  rintro e w'' ⟨rfl, hb⟩
                  have hbw : Below Wq.heap.size Wq w'' := hb9.trans (hb.mono hb9.size)
                  exact .inl ⟨_, rfl, hK _ _ hb ⟨fun _ => hbw, hbw.mono HBQ.out⟩ (fun f h1 _ => h1 _ rfl)⟩
                | 5, ho, hd, hD, hK, hK0, hun, okq =>
                  have e := (congrArg Oper.op (Option.some.inj ho)).symm
                  obtain rfl := Option.some.inj ho
                  exact wp_val (op_cat a' w' x.kind ⟨(Lib.itoa x.num).toArray⟩ 66 69 (hD 1 (by kernel_rfl)) (hD 4 (by kernel_rfl)) (cat_size HFN.out HFT.out) _ e) (hK _ _ (Below.refl _ _) (okq (by decide)) (fun f h1 _ => h1 _ rfl))
                | 6, ho, hd, hD, hK, hK0, hun, okq =>
                  have e := (congrArg Oper.op (Option.some.inj ho)).symm
                  obtain rfl := Option.some.inj ho
                  exact wp_val (op_field_name a' w' X 2 11 (by decide) (hun 11 (by kernel_rfl)) _ e) (hK _ _ (Below.refl _ _) (okq (by decide)) (fun f h1 _ => h1 _ rfl))
                | 7, ho, hd, hD, hK, hK0, hun, okq =>
                  have e := (congrArg Oper.op (Option.some.inj ho)).symm
                  obtain rfl := Option.some.inj ho
                  exact wp_val (op_load_str a' w' _ 71 _ (hD 6 (by kernel_rfl)) ((hcell (hd 9 (by kernel_rfl)) 2).trans rfl) _ e) (hK _ _ (Below.refl _ _) (okq (by decide)) (fun f h1 _ => h1 _ rfl))
                | 8, ho, hd, hD, hK, hK0, hun, okq =>
                  have e := (congrArg Oper.op (Option.some.inj ho)).symm
                  obtain rfl := Option.some.inj ho
                  have hb9 := hok.1 (hd 9 (by kernel_rfl))
                  refine wp_val (op_slice_two a' w' (catV x) x.text 70 72 (hD 5 (by kernel_rfl)) (hD 7 (by kernel_rfl)) _ e) (hK _ _ ((Below.refl _ _).alloc (Nat.le_refl _) _) ⟨fun _ => hb9.alloc hb9.size _, hok.2.alloc (Nat.le_trans HBQ.out hb9.size) _⟩ (fun f h1 _ => ⟨w'.heap.size, h1 _ rfl, Array.getElem?_push_size⟩))
                | 9, ho, hd, hD, hK, hK0, hun, okq =>
                  have e := (congrArg Oper.op (Option.some.inj ho)).symm
                  obtain rfl := Option.some.inj ho
                  have hb9 := hok.1 (hd 9 (by kernel_rfl))
                  obtain ⟨g, h73, hg⟩ : ∃ g, vals a' 73 = .slice (some ⟨g, 0, none⟩) 2 2 ∧ w'.heap[g]? = some (.cells #[.string (catV x), .string x.text] 9 (0, 0)) := hD 8 (by kernel_rfl)
                  refine wp_enter (op_call2 a' w' _ 5 73 _ _ EL.out _ e) ?_
                  rw [show a'.tmps.getD 5 undef = .pointer (some ⟨B, 0, none⟩) from hun 5 (by kernel_rfl), show a'.tmps.getD 73 undef = _ from h73]
                  refine (wline_any B B _ _ lc w' (HWS.out.below hb9) (Nat.le_trans HBQ.out hb9.size) (two_texts hg) (nam_size HFN.out HFT.out HTL.out) (Nat.le_trans LEJ.out (by decide))).mono ?_
                  rintro e w'' ⟨rfl, hws, hb, hkt⟩
                  refine .inl ⟨_, rfl, hK0 _ _ ⟨fun h => by simp at h, hok.2.trans hb⟩ (fun f _ _ => hws) (fun j f hj hf hq => nl_stab j (fun _ g' hg' => hkt g' (lt_of_block hg') (fun e2 => ?_) (fun cc ff e2 => ?_)) (fun e2 => absurd e2 hj) hf hq)⟩
                  · subst e2
                    obtain ⟨cc, h2⟩ := (HWS.out.below hb9).block
                    rw [hg'] at h2
                    simp at h2
                  · rw [hg'] at e2
                    simp at e2
                | i + 10, ho, _, _, _, _, _, _ => exact absurd ho (by simp)
              · intro a' w3 hsz hdf hkt hok hR
                have HF3 := frame_sets [65, 66, 67, 68, 69, 70, 71, 72, 73, 74] (by kernel_rfl) hsz hkt
                obtain ⟨d, hok⟩ := hok
                have hws : WS B B (lc ++ (namL x ++ [10])) w3 := hR 9 (by decide)
                obtain ⟨tm, df⟩ := a'
                obtain rfl : df = [] := hdf
                simp only [List.foldl_cons, List.foldl_nil] at HF3
                clear hkt hR hsz
                generalize tm.getD 65 undef = y65 at HF3
                generalize tm.getD 66 undef = y66 at HF3
                generalize tm.getD 67 undef = y67 at HF3
                generalize tm.getD 68 undef = y68 at HF3
                generalize tm.getD 69 undef = y69 at HF3
                generalize tm.getD 70 undef = y70 at HF3
                generalize tm.getD 71 undef = y71 at HF3
                generalize tm.getD 72 undef = y72 at HF3
                generalize tm.getD 73 undef = y73 at HF3
                generalize tm.getD 74 undef = y74 at HF3
                simp only [List.setIfInBounds_toArray, List.set_cons_succ, List.set_cons_zero] at HF3
                subst HF3
                have G3 := Lib.hid (G.out.step hws (HQB.out.trans hok.2))
                rw [HLC.out] at G3
                clear hws hok HLC
                go_wp2
                go_roundw
                case rel => exact ⟨j + 1, by omega, by go_num, by rw [HT2.out, ← List.append_assoc]; exact G3.out⟩
                case measure => simp [intOf]; omega
            · obtain rfl : j = c.names.length := by omega
              rw [List.take_length] at G LEJ
              have hne : headL c ++ [10] ++ nlL (c.ins.map litL) ++ nlL (c.lats.map latL) ++ nlL (c.outs.map litL) ++ nlL (c.bads.map litL) ++ nlL (c.invs.map litL) ++ nlL (c.ands.map andL) ++ nlL (c.names.map namL) ≠ [] := by simp
              have ST := Lib.hid (Bldw.string_any B B _ wr G.out.ws hne)
              have HTE : Hid (headL c ++ [10] ++ nlL (c.ins.map litL) ++ nlL (c.lats.map latL) ++ nlL (c.outs.map litL) ++ nlL (c.bads.map litL) ++ nlL (c.invs.map litL) ++ nlL (c.ands.map andL) ++ nlL (c.names.map namL) = textL c) := by
                unfold Hid textL linesOf
                rw [show headL c :: (c.ins.map litL ++ (c.lats.map latL ++ (c.outs.map litL ++ (c.bads.map litL ++ (c.invs.map litL ++ (c.ands.map andL ++ c.names.map namL)))))) = [headL c] ++ (c.ins.map litL ++ (c.lats.map latL ++ (c.outs.map litL ++ (c.bads.map litL ++ (c.invs.map litL ++ (c.ands.map andL ++ c.names.map namL)))))) from rfl]
                have e1 : nlL [headL c] = headL c ++ [10] := by simp [nlL]
                simp only [nl_append, e1, List.append_assoc]
              rw [HTE.out] at ST
              clear hne
              go_wp2_with fail
              refine ST.out.mono ?_
              rintro e x9 ⟨rfl, hb⟩
              have HE9 := Lib.hid (BEX.out _ (G.out.bel.trans hb))
              clear hb
              go_wp2
              go_ret2
              exact ⟨rfl, HE9.out⟩
end Go.Proofs.YtckdlbfndmmjjaaGreatDoor.Aag
