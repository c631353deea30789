/- The landed trail's Back. Condition: the level is in range. -/
import Derived.Test.YtomkdegajhijjaaPt08
import Derived.Deep.RegionWith
namespace Go.Proofs.Ytomkdegajhijjaa.Tra
open Go.ChangeShapes Go.WideShapes Go.ChangeAt Go.RowKit Go.Maps Circ Cw Cla
section
variable {w : World} {b t n : Nat} {vars : Int} {L : List Tri} {d lv x : Int}
theorem back_not (h : d ≤ lvlM x) : backL L d x = L ∧ backD d x = d := by
  unfold backL backD
  rw [if_neg (by omega), if_neg (by omega)]
  exact ⟨rfl, rfl⟩
theorem back_yes (h : lvlM x < d) : backL L d x = L.filter (fun s => decide (s.b ≤ lvlM x)) ∧ backD d x = lvlM x := by
  unfold backL backD
  rw [if_pos h, if_pos h]
  exact ⟨rfl, rfl⟩
theorem take_get {m i : Nat} (hm : m ≤ L.length) (hi : i < m) : getT (L.take m) i = getT L i := by
  rw [getT_get (by rw [List.length_take]; omega), getT_get (by omega), List.getElem_take]
/-- the round: the last one goes -/
theorem back_cells (g : Good n L) {m : Nat} (hm : m < L.length) : ∃ x : Nat, absW (getT L m).a = (x : Int) + 1 ∧ x < n ∧ (cellsM n (L.take (m + 1))).set x zeroT = cellsM n (L.take m) := by
  have h1 := g.r (getT L m) (by rw [getT_get hm]; exact List.getElem_mem hm)
  refine ⟨(absW (getT L m).a - 1).toNat, by omega, by omega, cells_pop g hm (by omega) (by omega)⟩
set_option maxHeartbeats 8000000 in
set_option maxRecDepth 100000 in
theorem back_any (h : AtT w b vars L d) (hx : I64 x) : Calls Try.prog 12 #[.pointer (some ⟨b, 0, none⟩), .int .i64 x] w fun e w' => e = .returned (.tuple #[]) ∧ AtT w' b vars (backL L d x) (backD d x) ∧ Eff I15 w b w' := by
  have HA := Lib.hid h
  obtain ⟨t, vc, vo, n, rfl, hb, T, H⟩ := h
  have KP := kept_any w b t hb
  have c2 := T.m.cells.2.2
  have hlv : (x < 0 ∧ lvlM x = 0) ∨ (¬ x < 0 ∧ lvlM x = x) := by unfold lvlM; split <;> omega
  obtain ⟨lv, hlv2⟩ : ∃ lv, lvlM x = lv := ⟨_, rfl⟩
  have HBN := Lib.hid (@back_not L d x)
  have HBY := Lib.hid (@back_yes L d x)
  rw [hlv2] at hlv HBN HBY
  obtain ⟨BL, hBL⟩ : ∃ y, backL L d x = y := ⟨_, rfl⟩
  obtain ⟨BD, hBD⟩ : ∃ y, backD d x = y := ⟨_, rfl⟩
  rw [hBL, hBD] at HBN HBY ⊢
  clear hlv2 hBL hBD
  have hlv0 : 0 ≤ lv := by omega
  obtain ⟨x0, x1⟩ := hx
  by_cases hd : d ≤ lv
  · obtain ⟨rfl, rfl⟩ := HBN.out hd
    have HE := Lib.hid (eff_refl I15 w b)
    clear HBN HBY T hb
    rcases hlv with ⟨h1, rfl⟩ | ⟨h1, rfl⟩ <;>
    · go_enter Try.func12, Try.ntmps12
      go_wp2_with fail
      refine KP.mono ?_
      rintro e w' ⟨rfl, rfl⟩
      clear KP
      go_wp2
      refine bodyPost_ret (results_none rfl _ _ _) rfl ?_
      exact ⟨rfl, HA.out, HE.out⟩
  · obtain ⟨hBL, hBD⟩ := HBY.out (by omega)
    rw [hBL, hBD]
    clear hBL hBD
    have hdl : lv < d := by omega
    obtain ⟨W1, u, ⟨hW, cu, fz⟩, T1, B1⟩ := T.m.putD lv
    have TG : RecG W1 t vc vo n L lv := ⟨T1, T.g, T.n⟩
    have HT1 := Lib.hid TG
    have HC1 : Hid (Chg (TOwn t vc vo) w W1) := Chg.of_but B1 (.inl rfl)
    have HT := Lib.hid T
    have HB := Lib.hid hb
    have HXL : Hid (Lvl (L.filter fun s => decide (s.b ≤ lv)) lv) := ⟨hlv0, by have := H.d1; omega, fun s hs => by simpa using (List.mem_filter.1 hs).2⟩
    have AB := Lib.hid (above_any TG lv)
    obtain ⟨A, q, hvo, hq, -, hg⟩ := T.cells
    have HG : Hid (0 < L.length → ∃ g, A = some ⟨g, 0, none⟩) := fun h => by obtain ⟨g, h1, -⟩ := hg h; exact ⟨g, h1⟩
    subst hvo
    obtain ⟨len, hlen⟩ : ∃ m, L.length = m := ⟨_, rfl⟩
    have HLEN := Lib.hid hlen
    have hl1 : (len : Int) ≤ 262144 := by have := T.few; omega
    have HL1 := Lib.hid hl1
    rw [hlen] at HT1 HC1 HT AB HG
    clear T hb T1 B1 TG HBN HBY H HA hg hq hlen hl1
    rcases hlv with ⟨h1, h2⟩ | ⟨h1, h2⟩
    · subst h2
      go_enter Try.func12, Try.ntmps12
      go_wp2_with fail
      refine KP.mono ?_
      rintro e w' ⟨rfl, rfl⟩
      clear KP
      go_wp2_with fail
      refine AB.out.mono ?_
      rintro e w2 ⟨k, rfl, hk, ha, hk2, hb2⟩
      have HK := Lib.hid hk
      have HF : Hid ((L.filter fun s => decide (s.b ≤ 0)) = L.take (len - k)) := by
        have hl := HLEN.out
        have := filter_take HT.out.g (lv := 0) (k := k) (by omega) (fun i h1 h2 => ha i (by omega) (by omega)) (fun h => by rw [hl]; exact hk2 (by omega))
        rw [hl] at this
        exact this
      have HT2 : Hid (RecG w2 t vc (.slice A (len - 0) q) n (L.take (len - 0)) 0) := by
        have := HT1.out.below hb2
        rw [Nat.sub_zero, List.take_of_length_le (by rw [HLEN.out]; exact Nat.le_refl _)]
        exact this
      have HC2 : Hid (Chg (TOwn t vc (.slice A len q)) w' w2) := HC1.out.trans (Chg.of_below hb2 : Chg (fun _ => False) _ _) fun i hi => hi.elim
      clear AB HT1 HC1 hb2 ha hk2 hW cu fz c2 hk h1
      go_wp2
      go_loopw [23] (fun y wr => ∃ j : Nat, y = .int .i64 (j : Int) ∧ j ≤ k ∧ RecG wr t vc (.slice A (len - j) q) n (L.take (len - j)) 0 ∧ Chg (TOwn t vc (.slice A len q)) w' wr) (fun y _ => k - (intOf y).toNat)
      case atStart => exact ⟨0, rfl, Nat.zero_le _, HT2.out, HC2.out⟩
      case round =>
        clear HT2 HC2
        obtain ⟨j, rfl, hj, ht, hc⟩ := hrel
        have HTR := Lib.hid ht
        have HCR := Lib.hid hc
        clear ht hc
        by_cases hlt : j < k
        · have k1 : (j : Int) < (k : Int) := by omega
          have hkl := HK.out
          obtain ⟨m, hm⟩ : ∃ m, len - j = m + 1 := ⟨len - j - 1, by omega⟩
          have hm2 : len - (j + 1) = m := by omega
          rw [hm] at HTR
          have HM2 := Lib.hid hm2
          have HML : Hid (m < L.length) := by unfold Hid; rw [HLEN.out]; omega
          have hm1 : ((m + 1 : Nat) : Int) - 1 = (m : Int) := by omega
          have hmm0 : (0 : Int) ≤ (m : Int) := by omega
          have hmm1 : (m : Int) ≤ 262144 := by have := HL1.out; omega
          have hmm2 : (m : Int) < ((m + 1 : Nat) : Int) := by omega
          have hmm3 : ((m + 1 : Nat) : Int) ≤ 262145 := by omega
          obtain ⟨g, rfl⟩ := HG.out (by omega)
          have htl : (L.take (m + 1)).length = m + 1 := by rw [List.length_take]; have := HML.out; omega
          obtain ⟨A2, q2, e2, hq2, c1, hrow⟩ := HTR.out.cells
          rw [htl] at e2 hq2 c1 hrow
          injection e2 with e2 _ e3
          subst e2 e3
          have hmq : m ≤ q := by omega
          obtain ⟨g2, e4, cc⟩ := hrow (by omega)
          injection e4 with e4
          injection e4 with e4
          subst e4
          have cm := cc m (by omega)
          rw [take_get (by have := HML.out; omega) (by omega)] at cm
          obtain ⟨x', hx1, hx2, hx3⟩ := back_cells HT.out.g HML.out
          have HX3 := Lib.hid hx3
          have hfit := (HT.out.g.r (getT L m) (by rw [getT_get HML.out]; exact List.getElem_mem _)).2.2.1.1
          have VA := Lib.hid (fun W => var_any (getT L m).a W hfit)
          rw [hx1] at VA
          obtain ⟨Ac, qc, hvc, -, -, hrc⟩ := HTR.out.m.row
          rw [cells_len] at hvc hrc
          obtain ⟨gc, rfl, -, -⟩ := hrc (by omega)
          subst hvc
          have c0 := HTR.out.m.cells.1
          have T3 := HTR.out.m.below (Below.refl wr.heap.size wr).drew
          rw [show Value.slice (some ⟨gc, 0, none⟩) n qc = .slice (some ⟨gc, 0, none⟩) (cellsM n (L.take (m + 1))).length qc by rw [cells_len]] at T3
          obtain ⟨Z1, Z2, Z3, u0, u1, u2, ⟨s1, p1, q1⟩, ⟨s2, p2, q2⟩, ⟨s3, p3, q3⟩, T4, B4⟩ := T3.put3 x' (by rw [cells_len]; exact hx2) zeroT
          rw [HX3.out] at T4
          rw [show Value.slice (some ⟨gc, 0, none⟩) (cellsM n (L.take (m + 1))).length qc = .slice (some ⟨gc, 0, none⟩) n qc by rw [cells_len]] at T4
          rw [show Value.slice (some ⟨g, 0, none⟩) (m + 1) q = .slice (some ⟨g, 0, none⟩) ((L.take (m + 1)).map Tri.a).length q by rw [List.length_map, htl]] at T4
          obtain ⟨Z6, u6, ⟨hZ6, cu6, fz6⟩, T6, B6⟩ := T4.cutO (m := m) (by rw [List.length_map, htl]; omega)
          have d1 := T4.cells.2.1
          rw [List.length_map, htl] at d1
          have xx0 : (0 : Int) ≤ (x' : Int) := by omega
          have xx1 : (x' : Int) < (n : Int) := by omega
          have xx2 : (x' : Int) ≤ 262144 := by have := HT.out.n; omega
          have HT6 : Hid (RecG Z6 t (.slice (some ⟨gc, 0, none⟩) n qc) (.slice (some ⟨g, 0, none⟩) m q) n (L.take m) 0) := by
            refine ⟨?_, HT.out.g.take m, HT.out.n⟩
            have e : ((L.take (m + 1)).map Tri.a).take m = (L.take m).map Tri.a := by rw [← List.map_take, List.take_take, Nat.min_eq_left (by omega)]
            rw [← e]
            exact T6
          have HC6 : Hid (Chg (TOwn t (.slice (some ⟨gc, 0, none⟩) n qc) (.slice (some ⟨g, 0, none⟩) len q)) w' Z6) := by
            have c2 : Chg (TOwn t (.slice (some ⟨gc, 0, none⟩) n qc) (.slice (some ⟨g, 0, none⟩) len q)) wr wr.drew := Chg.of_below (Below.refl wr.heap.size wr).drew
            have c3 : Chg (TOwn t (.slice (some ⟨gc, 0, none⟩) n qc) (.slice (some ⟨g, 0, none⟩) len q)) wr.drew Z3 := Chg.of_but B4 (.inr (.inl rfl))
            have c4 : Chg (TOwn t (.slice (some ⟨gc, 0, none⟩) n qc) (.slice (some ⟨g, 0, none⟩) len q)) Z3 Z6 := Chg.of_but B6 (.inl rfl)
            exact ((HCR.out.trans c2 fun i hi => .inl hi).trans c3 fun i hi => .inl hi).trans c4 fun i hi => .inl hi
          clear cu6 hq2
          generalize (getT L m).a = a at *
          obtain ⟨M, hM⟩ : ∃ M, m + 1 = M := ⟨_, rfl⟩
          rw [hM] at c1 d1 hm1 hmm2 hmm3
          simp only [zeroT] at s1 s2 s3
          clear hM hrow cc hx1 hx3 hfit hrc T3 T4 B4 T6 B6 HTR HCR hm hm2 hlt hkl htl HX3
          obtain ⟨y, hy⟩ : ∃ y : Int, (x' : Int) + 1 = y := ⟨_, rfl⟩
          rw [hy] at VA
          have hy1 : y - 1 = (x' : Int) := by omega
          have hy2 : 1 ≤ y := by omega
          have hy3 : y ≤ 262145 := by omega
          have hyw : IntKind.i64.wrap (y - 1) = (x' : Int) := by rw [IntKind.wrap_i64]; omega
          clear hy1 hy2 hy3
          clear hy
          have hr : RecG Z6 t (.slice (some ⟨gc, 0, none⟩) n qc) (.slice (some ⟨g, 0, none⟩) (len - (j + 1)) q) n (L.take (len - (j + 1))) 0 := by rw [HM2.out]; exact HT6.out
          have HRL := Lib.hid hr
          have hk3 : (k : Int) ≤ 262144 := by have := HK.out; have := HL1.out; omega
          clear hr HT6
          go_wp2
          go_region_with (go_at_call 23; refine (VA.out _).mono ?_; rintro e w5 ⟨rfl, rfl⟩)
          all_goals
            clear VA c0 c1 cm p1 p2 p3 q1 q2 q3 s1 s2 s3 hyw
            go_wp2
            go_roundw
            case rel => exact ⟨j + 1, by go_num, by omega, HRL.out, HC6.out⟩
            case measure => simp [intOf]; omega
        · obtain rfl : j = k := by omega
          have HEND : Hid (AtT wr b (n : Int) (L.filter fun s => decide (s.b ≤ 0)) 0 ∧ Eff I15 w' b wr) := by
            have hf := HXL.out
            rw [HF.out] at hf
            unfold Hid
            rw [HF.out]
            exact ⟨⟨t, _, _, n, rfl, box_later HB.out HT.out HCR.out, HTR.out, hf⟩, eff_of HB.out HT.out HCR.out HTR.out (fun _ h => .inl h) (fun k h => .inl (by cases A <;> exact h))⟩
          clear HTR HCR HB HT HF HXL HG
          go_wp2
          go_end0
          exact ⟨rfl, HEND.out⟩
    · subst h2
      go_enter Try.func12, Try.ntmps12
      go_wp2_with fail
      refine KP.mono ?_
      rintro e w' ⟨rfl, rfl⟩
      clear KP
      go_wp2_with fail
      refine AB.out.mono ?_
      rintro e w2 ⟨k, rfl, hk, ha, hk2, hb2⟩
      have HK := Lib.hid hk
      have HF : Hid ((L.filter fun s => decide (s.b ≤ lv)) = L.take (len - k)) := by
        have hl := HLEN.out
        have := filter_take HT.out.g (lv := lv) (k := k) (by omega) (fun i h1 h2 => ha i (by omega) (by omega)) (fun h => by rw [hl]; exact hk2 (by omega))
        rw [hl] at this
        exact this
      have HT2 : Hid (RecG w2 t vc (.slice A (len - 0) q) n (L.take (len - 0)) lv) := by
        have := HT1.out.below hb2
        rw [Nat.sub_zero, List.take_of_length_le (by rw [HLEN.out]; exact Nat.le_refl _)]
        exact this
      have HC2 : Hid (Chg (TOwn t vc (.slice A len q)) w' w2) := HC1.out.trans (Chg.of_below hb2 : Chg (fun _ => False) _ _) fun i hi => hi.elim
      clear AB HT1 HC1 hb2 ha hk2 hW cu fz c2 hk h1
      go_wp2
      go_loopw [23] (fun y wr => ∃ j : Nat, y = .int .i64 (j : Int) ∧ j ≤ k ∧ RecG wr t vc (.slice A (len - j) q) n (L.take (len - j)) lv ∧ Chg (TOwn t vc (.slice A len q)) w' wr) (fun y _ => k - (intOf y).toNat)
      case atStart => exact ⟨0, rfl, Nat.zero_le _, HT2.out, HC2.out⟩
      case round =>
        clear HT2 HC2
        obtain ⟨j, rfl, hj, ht, hc⟩ := hrel
        have HTR := Lib.hid ht
        have HCR := Lib.hid hc
        clear ht hc
        by_cases hlt : j < k
        · have k1 : (j : Int) < (k : Int) := by omega
          have hkl := HK.out
          obtain ⟨m, hm⟩ : ∃ m, len - j = m + 1 := ⟨len - j - 1, by omega⟩
          have hm2 : len - (j + 1) = m := by omega
          rw [hm] at HTR
          have HM2 := Lib.hid hm2
          have HML : Hid (m < L.length) := by unfold Hid; rw [HLEN.out]; omega
          have hm1 : ((m + 1 : Nat) : Int) - 1 = (m : Int) := by omega
          have hmm0 : (0 : Int) ≤ (m : Int) := by omega
          have hmm1 : (m : Int) ≤ 262144 := by have := HL1.out; omega
          have hmm2 : (m : Int) < ((m + 1 : Nat) : Int) := by omega
          have hmm3 : ((m + 1 : Nat) : Int) ≤ 262145 := by omega
          obtain ⟨g, rfl⟩ := HG.out (by omega)
          have htl : (L.take (m + 1)).length = m + 1 := by rw [List.length_take]; have := HML.out; omega
          obtain ⟨A2, q2, e2, hq2, c1, hrow⟩ := HTR.out.cells
          rw [htl] at e2 hq2 c1 hrow
          injection e2 with e2 _ e3
          subst e2 e3
          have hmq : m ≤ q := by omega
          obtain ⟨g2, e4, cc⟩ := hrow (by omega)
          injection e4 with e4
          injection e4 with e4
          subst e4
          have cm := cc m (by omega)
          rw [take_get (by have := HML.out; omega) (by omega)] at cm
          obtain ⟨x', hx1, hx2, hx3⟩ := back_cells HT.out.g HML.out
          have HX3 := Lib.hid hx3
          have hfit := (HT.out.g.r (getT L m) (by rw [getT_get HML.out]; exact List.getElem_mem _)).2.2.1.1
          have VA := Lib.hid (fun W => var_any (getT L m).a W hfit)
          rw [hx1] at VA
          obtain ⟨Ac, qc, hvc, -, -, hrc⟩ := HTR.out.m.row
          rw [cells_len] at hvc hrc
          obtain ⟨gc, rfl, -, -⟩ := hrc (by omega)
          subst hvc
          have c0 := HTR.out.m.cells.1
          have T3 := HTR.out.m.below (Below.refl wr.heap.size wr).drew
          rw [show Value.slice (some ⟨gc, 0, none⟩) n qc = .slice (some ⟨gc, 0, none⟩) (cellsM n (L.take (m + 1))).length qc by rw [cells_len]] at T3
          obtain ⟨Z1, Z2, Z3, u0, u1, u2, ⟨s1, p1, q1⟩, ⟨s2, p2, q2⟩, ⟨s3, p3, q3⟩, T4, B4⟩ := T3.put3 x' (by rw [cells_len]; exact hx2) zeroT
          rw [HX3.out] at T4
          rw [show Value.slice (some ⟨gc, 0, none⟩) (cellsM n (L.take (m + 1))).length qc = .slice (some ⟨gc, 0, none⟩) n qc by rw [cells_len]] at T4
          rw [show Value.slice (some ⟨g, 0, none⟩) (m + 1) q = .slice (some ⟨g, 0, none⟩) ((L.take (m + 1)).map Tri.a).length q by rw [List.length_map, htl]] at T4
          obtain ⟨Z6, u6, ⟨hZ6, cu6, fz6⟩, T6, B6⟩ := T4.cutO (m := m) (by rw [List.length_map, htl]; omega)
          have d1 := T4.cells.2.1
          rw [List.length_map, htl] at d1
          have xx0 : (0 : Int) ≤ (x' : Int) := by omega
          have xx1 : (x' : Int) < (n : Int) := by omega
          have xx2 : (x' : Int) ≤ 262144 := by have := HT.out.n; omega
          have HT6 : Hid (RecG Z6 t (.slice (some ⟨gc, 0, none⟩) n qc) (.slice (some ⟨g, 0, none⟩) m q) n (L.take m) lv) := by
            refine ⟨?_, HT.out.g.take m, HT.out.n⟩
            have e : ((L.take (m + 1)).map Tri.a).take m = (L.take m).map Tri.a := by rw [← List.map_take, List.take_take, Nat.min_eq_left (by omega)]
            rw [← e]
            exact T6
          have HC6 : Hid (Chg (TOwn t (.slice (some ⟨gc, 0, none⟩) n qc) (.slice (some ⟨g, 0, none⟩) len q)) w' Z6) := by
            have c2 : Chg (TOwn t (.slice (some ⟨gc, 0, none⟩) n qc) (.slice (some ⟨g, 0, none⟩) len q)) wr wr.drew := Chg.of_below (Below.refl wr.heap.size wr).drew
            have c3 : Chg (TOwn t (.slice (some ⟨gc, 0, none⟩) n qc) (.slice (some ⟨g, 0, none⟩) len q)) wr.drew Z3 := Chg.of_but B4 (.inr (.inl rfl))
            have c4 : Chg (TOwn t (.slice (some ⟨gc, 0, none⟩) n qc) (.slice (some ⟨g, 0, none⟩) len q)) Z3 Z6 := Chg.of_but B6 (.inl rfl)
            exact ((HCR.out.trans c2 fun i hi => .inl hi).trans c3 fun i hi => .inl hi).trans c4 fun i hi => .inl hi
          clear cu6 hq2
          generalize (getT L m).a = a at *
          obtain ⟨M, hM⟩ : ∃ M, m + 1 = M := ⟨_, rfl⟩
          rw [hM] at c1 d1 hm1 hmm2 hmm3
          simp only [zeroT] at s1 s2 s3
          clear hM hrow cc hx1 hx3 hfit hrc T3 T4 B4 T6 B6 HTR HCR hm hm2 hlt hkl htl HX3
          obtain ⟨y, hy⟩ : ∃ y : Int, (x' : Int) + 1 = y := ⟨_, rfl⟩
          rw [hy] at VA
          have hy1 : y - 1 = (x' : Int) := by omega
          have hy2 : 1 ≤ y := by omega
          have hy3 : y ≤ 262145 := by omega
          have hyw : IntKind.i64.wrap (y - 1) = (x' : Int) := by rw [IntKind.wrap_i64]; omega
          clear hy1 hy2 hy3
          clear hy
          have hr : RecG Z6 t (.slice (some ⟨gc, 0, none⟩) n qc) (.slice (some ⟨g, 0, none⟩) (len - (j + 1)) q) n (L.take (len - (j + 1))) lv := by rw [HM2.out]; exact HT6.out
          have HRL := Lib.hid hr
          have hk3 : (k : Int) ≤ 262144 := by have := HK.out; have := HL1.out; omega
          clear hr HT6
          go_wp2
          go_region_with (go_at_call 23; refine (VA.out _).mono ?_; rintro e w5 ⟨rfl, rfl⟩)
          all_goals
            clear VA c0 c1 cm p1 p2 p3 q1 q2 q3 s1 s2 s3 hyw
            go_wp2
            go_roundw
            case rel => exact ⟨j + 1, by go_num, by omega, HRL.out, HC6.out⟩
            case measure => simp [intOf]; omega
        · obtain rfl : j = k := by omega
          have HEND : Hid (AtT wr b (n : Int) (L.filter fun s => decide (s.b ≤ lv)) lv ∧ Eff I15 w' b wr) := by
            have hf := HXL.out
            rw [HF.out] at hf
            unfold Hid
            rw [HF.out]
            exact ⟨⟨t, _, _, n, rfl, box_later HB.out HT.out HCR.out, HTR.out, hf⟩, eff_of HB.out HT.out HCR.out HTR.out (fun _ h => .inl h) (fun k h => .inl (by cases A <;> exact h))⟩
          clear HTR HCR HB HT HF HXL HG
          go_wp2
          go_end0
          exact ⟨rfl, HEND.out⟩
end
end Go.Proofs.Ytomkdegajhijjaa.Tra
