/- The landed heap's Push, Pop, Raise walked. Condition: as Prog14 asks. -/
import Derived.Test.YtclbbpmofifigaaPt10
namespace Go.Proofs.Ytclbbpmofifigaa.Hep
open Go.ChangeShapes Go.WideShapes Go.ChangeAt Go.RowKit Go.Maps Circ Cw Cla
section
variable {w w' : World} {b : Nat} {sc ins : List Int}
theorem not_known {x : Int} {n : Nat} (hi : ¬ (0 ≤ x ∧ x < (n : Int))) : (decide (0 ≤ x) && decide (x < (n : Int))) = false := by
  rw [Bool.and_eq_false_iff, decide_eq_false_iff_not, decide_eq_false_iff_not]; omega
theorem set_last (l : List Int) (x : Int) : (l ++ [x]).set l.length x = l ++ [x] := by
  rw [List.set_append_right _ _ (Nat.le_refl _), Nat.sub_self]; rfl
set_option maxHeartbeats 8000000 in
set_option maxRecDepth 100000 in
theorem push_any (h : AtH w b sc ins) (x : Int) (hx : I64 x) : Calls Try.prog 8 #[.pointer (some ⟨b, 0, none⟩), .int .i64 x] w fun e w' => e = .returned (.bool (pushOk sc ins x)) ∧ AtH w' b sc (pushL sc ins x) ∧ Eff I14 w b w' := by
  have HA := Lib.hid h
  obtain ⟨t, vc, vo, pl, h, hb, T, H⟩ := h
  obtain ⟨c0, c1⟩ := T.cells
  obtain ⟨A, q, hvc, hq1, hq2, hrow⟩ := T.row
  have KP := kept_any w b t hb
  have KN := Lib.hid (knows_any t sc.length q A x w (hvc ▸ c0))
  by_cases hi : 0 ≤ x ∧ x < (sc.length : Int)
  · obtain ⟨h0, h1⟩ := hi
    obtain ⟨m, rfl⟩ : ∃ m : Nat, x = (m : Int) := ⟨x.toNat, by omega⟩
    obtain ⟨g, hA, cc, -⟩ := hrow (by omega)
    obtain ⟨-, cx⟩ := cc m (by omega)
    rw [decide_eq_true h0, decide_eq_true h1, Bool.and_self] at KN
    have hm : m < sc.length := by omega
    have HP : Hid (pushOk sc ins (m : Int) = !decide (0 < at0 pl m)) := by
      unfold Hid pushOk
      rw [decide_eq_true h0, decide_eq_true h1, H.has hm]; rfl
    have HL : Hid (pushL sc ins (m : Int) = if pushOk sc ins (m : Int) = true then ins ++ [(m : Int)] else ins) := rfl
    obtain ⟨p, hp⟩ : ∃ p, at0 pl m = p := ⟨_, rfl⟩
    rw [hp] at HP cx
    by_cases hp0 : 0 < p
    · rw [HP.out, decide_eq_true hp0] at HL
      rw [HP.out, decide_eq_true hp0]
      rw [show pushL sc ins (m : Int) = ins from by have := HL.out; rw [if_neg (by decide)] at this; exact this]
      subst hvc hA
      clear T H hb cc hrow hx HP HL hp
      go_enter Try.func8, Try.ntmps8
      go_wp2_with fail
      refine KP.mono ?_
      rintro e w' ⟨rfl, rfl⟩
      clear KP
      go_wp2_with fail
      refine KN.out.mono ?_
      rintro e w' ⟨rfl, rfl⟩
      clear KN
      go_wp2
      go_ret
      exact ⟨rfl, HA.out, eff_refl _ _ _⟩
    · have hpz : p = 0 := by have := (H.g.plc m hm).1; omega
      rw [HP.out, decide_eq_false hp0] at HL
      rw [HP.out, decide_eq_false hp0]
      rw [show pushL sc ins (m : Int) = ins ++ [(m : Int)] from by have := HL.out; rw [if_pos (by decide)] at this; exact this]
      have hlen := H.few
      obtain ⟨B, qo, hvo, -, -, -⟩ := T.oo.row
      -- the order, one longer
      have T1 := T.below (w' := w.alloc (.cells #[.int .i64 (m : Int)] 3)) ((Below.refl _ _).alloc (Nat.le_refl _) _)
      have HT1 := Lib.hid T1
      have HBA : Hid (Below w.heap.size w (w.alloc (.cells #[.int .i64 (m : Int)] 3))) := (Below.refl _ _).alloc (Nat.le_refl _) _
      have HONE := Lib.hid (one_row w (m : Int) 3)
      have HLn : Hid (((0 :: h).length + [(m : Int)].length) * 8 ≤ 140737488355328) := by unfold Hid; simp only [List.length_cons, List.length_nil]; omega
      have HG : Hid (Good sc.length (pl.set m ((0 :: h).length : Int)) (0 :: h ++ [(m : Int)])) := H.g.push hm (by rw [hp, hpz])
      have HU : Hid (Up sc (h ++ [(m : Int)]) h.length) := push_up H.o (m : Int)
      have HH := Lib.hid H
      have HB := Lib.hid hb
      have HTT := Lib.hid T
      have HQ := Lib.hid T1.oo
      have hm0 : (0 : Int) ≤ (m : Int) := by omega
      rw [List.length_cons] at hvo
      obtain ⟨L, hL⟩ : ∃ L, h.length + 1 = L := ⟨_, rfl⟩
      rw [hL] at hvo
      have HLL := Lib.hid hL
      have HVO := Lib.hid hvo
      subst hvc hA
      rw [hvo] at c1
      clear T H hb cc hrow hx HP HL hp T1 hL hvo
      go_enter Try.func8, Try.ntmps8
      go_wp2_with fail
      refine KP.mono ?_
      rintro e w' ⟨rfl, rfl⟩
      clear KP
      go_wp2_with fail
      refine KN.out.mono ?_
      rintro e w' ⟨rfl, rfl⟩
      clear KN
      go_wp2_with (at_builtin; refine wpList_app _ rfl (.tmp 27) (.tmp 29) rfl 0 _ vo (0 :: h) [(m : Int)] HVO.out.symm HQ.out _ 1 1 rfl rfl HONE.out HLn.out (Nat.zero_le _) ?_)
      intro v2 w3 hown2 hg2 hloc2
      obtain ⟨T4, C4, hu, hf⟩ := HT1.out.growO hown2 hg2 (by rw [World.size_alloc]; exact hloc2)
      obtain ⟨W4, hW4⟩ : ∃ y, w3.setCell ⟨t, 1, none⟩ v2 = y := ⟨_, rfl⟩
      rw [hW4] at T4 C4
      have hL := HLL.out
      have hlen2 : (0 :: (h ++ [(m : Int)])).length = L + 1 := by simp; omega
      obtain ⟨A3, q3, hv2, -, -, -⟩ := hown2.row
      rw [hlen2] at hv2
      have HS : Hid (∀ i, TOwn t (.slice (some ⟨g, 0, none⟩) sc.length q) v2 i → TOwn t (.slice (some ⟨g, 0, none⟩) sc.length q) vo i ∨ w'.heap.size ≤ i) := fun i hi => by
        rcases hi with e | e | e
        · exact .inl (.inl e)
        · exact .inl (.inr (.inl e))
        · rcases hloc2 with e2 | e2
          · exact .inl (.inr (.inr (e2 ▸ e)))
          · rw [e2] at e
            injection e with e
            exact .inr (by omega)
      have K4 : Hid (Chg (TOwn t (.slice (some ⟨g, 0, none⟩) sc.length q) vo) w' W4) := (Chg.of_below HBA.out : Chg (TOwn t (.slice (some ⟨g, 0, none⟩) sc.length q) vo) _ _).trans C4 fun i hi => .inl hi
      have ST := stand_any T4 L m (by rw [hlen2]; omega) hm
      rw [show (0 :: (h ++ [(m : Int)])).set L (m : Int) = 0 :: (h ++ [(m : Int)]) from by rw [← hL]; exact set_last (0 :: h) (m : Int)] at ST
      have ST := Lib.hid ST
      obtain ⟨d0, d1⟩ := T4.cells
      have HG2 : Hid (Good sc.length (pl.set m (L : Int)) (0 :: (h ++ [(m : Int)]))) := by rw [← hL]; exact HG.out
      have HU2 : Hid ((L = 0 ∧ Ord sc (h ++ [(m : Int)])) ∨ (0 < L ∧ L < (h ++ [(m : Int)]).length + 1 ∧ Up sc (h ++ [(m : Int)]) (L - 1))) := .inr ⟨by omega, by rw [List.length_append, List.length_singleton]; omega, by rw [← hL]; exact HU.out⟩
      have HV2 := Lib.hid hv2
      rw [hv2] at d1
      have hL0 : (0 : Int) ≤ (L : Int) := by omega
      have hL1 : (L : Int) ≤ 262145 := by omega
      rw [HVO.out] at hu
      clear HONE HQ HG HU HBA HT1 hown2 hg2 hloc2 T4 C4 c0 c1 cx hL hlen2 hv2
      rw [HV2.out] at hW4
      rw [HV2.out]
      go_wp2_with fail
      refine ST.out.mono ?_
      rintro e w5 ⟨rfl, T5, C5⟩
      have K5 : Hid (Chg (TOwn t (.slice (some ⟨g, 0, none⟩) sc.length q) vo) w' w5) := K4.out.trans C5 HS.out
      have MV := Lib.hid (up_all L w5 _ _ T5 HG2.out HH.out.n HU2.out)
      have e1 := T5.cells.2
      rw [HV2.out] at e1
      clear ST T5 C5 d0 d1 K4 hu hf hW4
      go_wp2_with fail
      refine MV.out.mono ?_
      rintro e w6 ⟨rfl, pl6, h6, T6, G6, O6, P6, C6⟩
      have K6 : Chg (TOwn t (.slice (some ⟨g, 0, none⟩) sc.length q) vo) w' w6 := K5.out.trans C6 HS.out
      have HEND : Hid (AtH w6 b sc (ins ++ [(m : Int)]) ∧ Eff I14 w' b w6) := by
        refine ⟨⟨t, _, v2, pl6, h6, box_later HB.out HTT.out K6, T6, ⟨G6, O6, P6.trans (HH.out.p.append_right _), HH.out.n, HH.out.s⟩⟩, eff_of HB.out HTT.out K6 T6 (fun j hj => .inl hj) fun j hj => ?_⟩
        rcases HS.out j (.inr (.inr hj)) with (e | e | e) | e
        · exact absurd e (T6.no hj)
        · exact absurd rfl (T6.ne e hj)
        · exact .inl e
        · exact .inr e
      clear MV T6 G6 O6 P6 C6 K6 e1
      go_wp2
      go_ret
      exact ⟨rfl, HEND.out⟩
  · rw [not_known hi] at KN
    have e1 : pushOk sc ins x = false := by unfold pushOk; rw [not_known hi, Bool.false_and]
    have e2 : pushL sc ins x = ins := by unfold pushL; rw [e1, if_neg (by decide)]
    rw [e1, e2]
    subst hvc
    clear T H hb hrow hx hi e1 e2
    go_enter Try.func8, Try.ntmps8
    go_wp2_with fail
    refine KP.mono ?_
    rintro e w' ⟨rfl, rfl⟩
    clear KP
    go_wp2_with fail
    refine KN.out.mono ?_
    rintro e w' ⟨rfl, rfl⟩
    clear KN
    go_wp2
    go_ret
    exact ⟨rfl, HA.out, eff_refl _ _ _⟩
theorem bestM_neg (sc : List Int) {h ins : List Int} (hp : h.Perm ins) (h0 : h = []) : bestM sc ins = -1 := by
  subst h0
  rw [hp.symm.eq_nil]; rfl
/-- the first taken out: the last in its place -/
def popL (h : List Int) : List Int := (h.set 0 (at0 h (h.length - 1))).take (h.length - 1)
theorem pop_swap (h : List Int) (h0 : 0 < h.length) : (swapL (0 :: h) 1 h.length).take h.length = 0 :: popL h := by
  obtain ⟨n, hn⟩ : ∃ n, h.length = n + 1 := ⟨h.length - 1, by omega⟩
  unfold popL
  rw [hn, swap_cons]
  show 0 :: (swapL h 0 n).take n = 0 :: (h.set 0 (at0 h n)).take n
  unfold swapL
  rw [List.take_set_of_le (Nat.le_refl _)]
theorem pop_perm {h : List Int} (h0 : 0 < h.length) : (popL h ++ [at0 h 0]).Perm h := by
  obtain ⟨n, hn⟩ : ∃ n, h.length = n + 1 := ⟨h.length - 1, by omega⟩
  have e : popL h ++ [at0 h 0] = swapL h 0 n := by
    unfold popL swapL
    rw [hn, Nat.add_sub_cancel]
    refine List.ext_getElem? fun k => ?_
    rw [List.getElem?_append, List.getElem?_take, List.getElem?_set (i := n), List.length_take, List.length_set, hn]
    by_cases h1 : k < n
    · rw [if_pos (by omega), if_pos h1, if_neg (by omega)]
    · rw [if_neg (by omega)]
      by_cases h2 : n = k
      · subst h2
        rw [if_pos rfl, if_pos (by omega), show n - min n (n + 1) = 0 by omega]; rfl
      · rw [if_neg h2, List.getElem?_eq_none (by simp; omega), List.getElem?_eq_none (by rw [List.length_set]; omega)]
  rw [e]
  exact swap_perm (by omega) (by omega)
theorem Holds.pop {pl h : List Int} (H : Holds sc pl h ins) (h0 : 0 < h.length) :
    Good sc.length ((((pl.set (at0 (0 :: h) h.length).toNat ((1 : Nat) : Int)).set (at0 (0 :: h) 1).toNat (h.length : Int))).set (at0 h 0).toNat 0) (0 :: popL h) ∧ Down sc (popL h) 0 ∧ (popL h).Perm (ins.filter fun x => decide (x ≠ at0 h 0)) ∧ bestM sc ins = at0 h 0 ∧ 0 ≤ at0 h 0 := by
  have hr := H.g.range (at0 h 0) (by rw [at0_get h0]; exact List.getElem_mem h0)
  have hb : bestM sc ins = at0 h 0 := root_best H.o H.p (fun x hx => (H.g.range x (H.p.mem_iff.2 hx)).1) h0
  have hn := H.g.nodup
  have hpp := pop_perm h0
  refine ⟨?_, ?_, ?_, hb, hr.1⟩
  · have g1 := H.g.swap (a := 1) (b := h.length) (by decide) (by simp; omega) h0 (by simp)
    have g2 := g1.cut (m := h.length) (by rw [swap_len]; rfl) h0
    rw [pop_swap h h0, swap_at (by simp; omega) (by simp), if_pos rfl] at g2
    exact g2
  · rcases Nat.lt_or_ge 1 h.length with h1 | h1
    · exact pop_down H.o h1
    · have e : popL h = [] := by
        unfold popL
        rw [show h.length - 1 = 0 by omega, List.take_zero]
      rw [e]
      exact ⟨fun j _ jl => by simp at jl, fun j _ jl => by simp at jl⟩
  · have h2 := (hpp.trans H.p).filter fun x => decide (x ≠ at0 h 0)
    rw [List.filter_append] at h2
    have hnd : (popL h ++ [at0 h 0]).Nodup := hpp.nodup_iff.2 hn
    have hni : at0 h 0 ∉ popL h := fun hm => by
      rw [List.nodup_append] at hnd
      exact hnd.2.2 _ hm _ (List.mem_singleton.2 rfl) rfl
    rw [List.filter_eq_self.2 (fun x hx => decide_eq_true (show x ≠ at0 h 0 from fun e => hni (e ▸ hx)))] at h2
    simpa using h2
set_option maxHeartbeats 8000000 in
set_option maxRecDepth 100000 in
theorem pop_any (h : AtH w b sc ins) : Calls Try.prog 10 #[.pointer (some ⟨b, 0, none⟩)] w fun e w' => e = .returned (.tuple #[.int .i64 (if bestM sc ins < 0 then 0 else bestM sc ins), .bool (decide (0 ≤ bestM sc ins))]) ∧ AtH w' b sc (ins.filter fun x => decide (x ≠ bestM sc ins)) ∧ Eff I14 w b w' := by
  have HA := Lib.hid h
  obtain ⟨t, vc, vo, pl, h, hb, T, H⟩ := h
  obtain ⟨-, c1⟩ := T.cells
  obtain ⟨go, qo, hvo, ho1, ho2, co, fo⟩ := T.ord (by simp)
  have KP := kept_any w b t hb
  rw [List.length_cons] at hvo
  have hlen := H.few
  obtain ⟨L, hL⟩ : ∃ L, h.length = L := ⟨_, rfl⟩
  rw [hL] at hvo
  have hL0 : (0 : Int) ≤ (L : Int) := by omega
  have hL1 : (L : Int) ≤ 262144 := by omega
  by_cases h0 : 0 < L
  · obtain ⟨HG, HD, HPP, hbm, hy0⟩ := H.pop (by omega)
    rw [hL] at HG
    have hrng := H.rng
    have hone := hrng 1 (by decide) (by rw [List.length_cons]; omega)
    have hlst := hrng L h0 (by rw [List.length_cons]; omega)
    obtain ⟨Ac, qc, hvc, -, -, hrow⟩ := T.row
    obtain ⟨gc, hAc, -, -⟩ := hrow (by omega)
    subst hAc
    have cy := co 1 (by rw [List.length_cons]; omega)
    obtain ⟨y, hy⟩ : ∃ y : Nat, at0 h 0 = (y : Int) := ⟨(at0 h 0).toNat, by omega⟩
    have hy1 : at0 (0 :: h) 1 = (y : Int) := hy
    rw [hy1] at cy hone
    rw [hbm, hy, if_neg (by omega), decide_eq_true (show (0 : Int) ≤ (y : Int) by omega)]
    rw [hy] at HG HPP
    rw [hy1, Int.toNat_natCast] at HG
    have SW := swap_any T 1 L (by rw [List.length_cons]; omega) (by rw [List.length_cons]; omega) (by rw [hy1]; exact hone) hlst
    rw [hy1, Int.toNat_natCast] at SW
    have hyl : y < sc.length := by omega
    have hyi : (y : Int) < (sc.length : Int) := by omega
    have hy00 : (0 : Int) ≤ (y : Int) := by omega
    have hps : (swapL (0 :: h) 1 L).take L = 0 :: popL h := by rw [← hL]; exact pop_swap h (by omega)
    have hsl : (swapL (0 :: h) 1 L).length = L + 1 := by rw [swap_len, List.length_cons, hL]
    obtain ⟨pl1, hpl1⟩ : ∃ z, (pl.set (at0 (0 :: h) L).toNat ((1 : Nat) : Int)).set y (L : Int) = z := ⟨_, rfl⟩
    rw [hpl1] at HG SW
    rw [hvo] at c1 SW
    have hqL : L ≤ qo := by rw [List.length_cons] at ho2; omega
    have hqL2 : L + 1 ≤ qo := by rw [List.length_cons] at ho2; omega
    have HEND : Hid (∀ w6 pl6 h6, Tree w6 t vc (.slice (some ⟨go, 0, none⟩) L qo) sc pl6 (0 :: h6) → Good sc.length pl6 (0 :: h6) → Ord sc h6 → h6.Perm (popL h) → Chg (TOwn t vc vo) w w6 → AtH w6 b sc (ins.filter fun x => decide (x ≠ (y : Int))) ∧ Eff I14 w b w6) := fun w6 pl6 h6 T6 G6 O6 P6 C6 =>
      ⟨⟨t, _, _, pl6, h6, box_later hb T C6, T6, ⟨G6, O6, P6.trans HPP, H.n, H.s⟩⟩, eff_of hb T C6 T6 (fun j hj => .inl hj) fun j hj => .inl (by rw [hvo]; exact hj)⟩
    have HN := Lib.hid H.n
    have HG := Lib.hid HG
    have HD := Lib.hid HD
    have SW := Lib.hid SW
    have HPS := Lib.hid hps
    have HSL := Lib.hid hsl
    rw [hvo] at HEND
    subst hvc hvo
    clear T H hb co fo HPP hbm hy0 hrng hone hlst hrow hy hy1 hps hsl hpl1 HA ho2 hL
    go_enter Try.func10, Try.ntmps10
    go_wp2_with fail
    refine KP.mono ?_
    rintro e w' ⟨rfl, rfl⟩
    clear KP
    go_wp2_with fail
    refine SW.out.mono ?_
    rintro e w1 ⟨rfl, T1, C1⟩
    have hsl := HSL.out
    have T1' : Tree w1 t (.slice (some ⟨gc, 0, none⟩) sc.length qc) (.slice (some ⟨go, 0, none⟩) (swapL (0 :: h) 1 L).length qo) sc pl1 (swapL (0 :: h) 1 L) := by rw [hsl]; exact T1
    obtain ⟨-, d1⟩ := T1.cells
    have f1 := T1.frozen 1
    obtain ⟨T2, B2⟩ := T1'.cutO (m := L) (by omega)
    obtain ⟨W2, hW2⟩ : ∃ z, w1.setCell ⟨t, 1, none⟩ (.slice (some ⟨go, 0, none⟩) L qo) = z := ⟨_, rfl⟩
    rw [hW2] at T2 B2
    rw [HPS.out] at T2
    obtain ⟨d2, -⟩ := T2.cells
    obtain ⟨A2, q2, e2, -, -, hrow2⟩ := T2.row
    injection e2 with e2 _ e2q
    subst e2 e2q
    obtain ⟨g2, e3, cc2, ff2⟩ := hrow2 (by omega)
    injection e3 with e3
    injection e3 with e3
    subst e3
    have cp := (cc2 y hyl).2
    have fp := ff2 (y * 2 + 1)
    obtain ⟨T3, B3⟩ := T2.putP y 0
    obtain ⟨W3, hW3⟩ : ∃ z, W2.setCell ⟨gc, y * 2 + 1, none⟩ (.int .i64 0) = z := ⟨_, rfl⟩
    rw [hW3] at T3 B3
    have K3 : Hid (Chg (TOwn t (.slice (some ⟨gc, 0, none⟩) sc.length qc) (.slice (some ⟨go, 0, none⟩) (L + 1) qo)) w' W3) := (C1.trans (Chg.of_but B2 (.inl rfl : TOwn t (.slice (some ⟨gc, 0, none⟩) sc.length qc) (.slice (some ⟨go, 0, none⟩) (L + 1) qo) t)) fun i hi => .inl hi).trans (Chg.of_but B3 (.inr (.inl rfl) : TOwn t (.slice (some ⟨gc, 0, none⟩) sc.length qc) (.slice (some ⟨go, 0, none⟩) (L + 1) qo) gc)) fun i hi => .inl hi
    have MV := Lib.hid (down_all 1 W3 _ _ T3 HG.out HN.out (by decide) (by decide) HD.out)
    clear SW T1 C1 T1' T2 B2 T3 B3 hsl hrow2 cc2 ff2 cy c1
    go_wp2_with fail
    refine MV.out.mono ?_
    rintro e w6 ⟨rfl, pl6, h6, T6, G6, O6, P6, C6⟩
    have HR := Lib.hid (HEND.out w6 pl6 h6 T6 G6 O6 P6 (K3.out.trans C6 fun i hi => .inl hi))
    clear MV T6 G6 O6 P6 C6
    go_wp2
    go_ret2
    exact ⟨rfl, HR.out⟩
  · have e0 : bestM sc ins = -1 := bestM_neg sc H.p (List.eq_nil_of_length_eq_zero (by omega))
    have e1 : (ins.filter fun x => decide (x ≠ -1)) = ins := List.filter_eq_self.2 fun x hx => decide_eq_true (by have := (H.g.range x (H.p.mem_iff.2 hx)).1; omega)
    rw [e0, e1]
    obtain rfl : L = 0 := by omega
    rw [hvo] at c1
    clear T H hb co fo e0 e1 hL
    go_enter Try.func10, Try.ntmps10
    go_wp2_with fail
    refine KP.mono ?_
    rintro e w' ⟨rfl, rfl⟩
    clear KP
    go_wp2
    go_ret2
    exact ⟨rfl, HA.out, eff_refl _ _ _⟩
theorem Holds.raise {pl h : List Int} (H : Holds sc pl h ins) {m : Nat} (hm : m < sc.length) {v : Int} (hv : at0 sc m ≤ v) (hv1 : v ≤ 1125899906842624) :
    Good (sc.set m v).length pl (0 :: h) ∧ (sc.set m v).length ≤ 262144 ∧ (∀ i, 0 ≤ at0 (sc.set m v) i ∧ at0 (sc.set m v) i ≤ 1125899906842624) ∧ (((at0 pl m).toNat = 0 ∧ Ord (sc.set m v) h) ∨ (0 < (at0 pl m).toNat ∧ (at0 pl m).toNat < h.length + 1 ∧ Up (sc.set m v) h ((at0 pl m).toNat - 1))) := by
  have hs := H.s
  refine ⟨by rw [List.length_set]; exact H.g, by rw [List.length_set]; exact H.n, fun i => ?_, ?_⟩
  · rw [at0_set]
    split
    · have := (hs m).1; omega
    · exact hs i
  · obtain ⟨q0, q1⟩ := H.g.plc m hm
    have hin : ∀ j, j < h.length → 0 ≤ at0 h j := fun j jl => (H.g.range _ (by rw [at0_get jl]; exact List.getElem_mem jl)).1
    by_cases hp : 0 < at0 pl m
    · obtain ⟨q2, q3⟩ := q1 hp
      obtain ⟨k, hk⟩ : ∃ k, (at0 pl m).toNat = k + 1 := ⟨(at0 pl m).toNat - 1, by omega⟩
      rw [List.length_cons] at q2
      rw [hk] at q3 ⊢
      have q4 : at0 h k = (m : Int) := q3
      refine .inr ⟨by omega, by omega, ?_⟩
      show Up (sc.set m v) h k
      refine raise_up H.o (by omega) (fun j jl jk => ?_) ?_
      · rw [score_set hm _ (hin j jl), if_neg (fun e => jk ?_)]
        have := H.g.one (i := j + 1) (j := k + 1) (by omega) (by rw [List.length_cons]; omega) (by omega) (by rw [List.length_cons]; omega) (e.trans q4.symm)
        omega
      · rw [score_set hm _ (hin k (by omega)), if_pos q4, q4]
        exact hv
    · refine .inl ⟨by omega, H.o.same fun j jl => ?_⟩
      rw [score_set hm _ (hin j jl), if_neg (fun e => hp ?_)]
      have := (H.g.num (j + 1) (by omega) (by rw [List.length_cons]; omega)).2.2
      rw [show at0 (0 :: h) (j + 1) = at0 h j from rfl, e, Int.toNat_natCast] at this
      omega
set_option maxHeartbeats 8000000 in
set_option maxRecDepth 100000 in
theorem raise_any (h : AtH w b sc ins) (x y : Int) (hx : I64 x) : Calls Try.prog 12 #[.pointer (some ⟨b, 0, none⟩), .int .i64 x, .int .i64 y] w fun e w' => e = .returned (.tuple #[]) ∧ AtH w' b (raiseL sc x y) ins ∧ Eff I14 w b w' := by
  have HA := Lib.hid h
  obtain ⟨t, vc, vo, pl, h, hb, T, H⟩ := h
  obtain ⟨c0, -⟩ := T.cells
  obtain ⟨A, q, hvc, hq1, hq2, hrow⟩ := T.row
  have KP := kept_any w b t hb
  have KN := Lib.hid (knows_any t sc.length q A x w (hvc ▸ c0))
  have HM : Hid (mayRaise sc x y = ((decide (0 ≤ x) && decide (x < (sc.length : Int))) && (decide (0 ≤ y) && (decide (y ≤ 1099511627776) && decide (scoreM sc x ≤ 1125899906842624 - y))))) := by unfold Hid mayRaise; rfl
  have HNO : Hid (mayRaise sc x y = false → raiseL sc x y = sc) := fun e => by unfold raiseL; rw [e, if_neg (by decide)]
  by_cases hi : 0 ≤ x ∧ x < (sc.length : Int)
  · obtain ⟨h0, h1⟩ := hi
    obtain ⟨m, rfl⟩ : ∃ m : Nat, x = (m : Int) := ⟨x.toNat, by omega⟩
    obtain ⟨g, hA, cc, ff⟩ := hrow (by omega)
    have hm : m < sc.length := by omega
    obtain ⟨cs, cp⟩ := cc m hm
    rw [decide_eq_true h0, decide_eq_true h1, Bool.and_self] at KN
    rw [decide_eq_true h0, decide_eq_true h1, Bool.and_self, Bool.true_and, show scoreM sc (m : Int) = at0 sc m from rfl] at HM
    have hs := H.s m
    by_cases y0 : y < 0
    · have e : mayRaise sc (m : Int) y = false := by rw [HM.out, decide_eq_false (show ¬ 0 ≤ y by omega), Bool.false_and]
      rw [HNO.out e]
      subst hvc hA
      clear T H hb cc ff hrow hx HM HNO e cs cp hs
      go_enter Try.func12, Try.ntmps12
      go_wp2_with fail
      refine KP.mono ?_
      rintro e w' ⟨rfl, rfl⟩
      clear KP
      go_wp2_with fail
      refine KN.out.mono ?_
      rintro e w' ⟨rfl, rfl⟩
      clear KN
      go_wp2
      refine bodyPost_ret (results_none rfl _ _ _) rfl ?_
      exact ⟨rfl, HA.out, eff_refl _ _ _⟩
    · by_cases y1 : 1099511627776 < y
      · have e : mayRaise sc (m : Int) y = false := by rw [HM.out, decide_eq_false (show ¬ y ≤ 1099511627776 by omega), Bool.false_and, Bool.and_false]
        rw [HNO.out e]
        subst hvc hA
        clear T H hb cc ff hrow hx HM HNO e cs cp hs
        go_enter Try.func12, Try.ntmps12
        go_wp2_with fail
        refine KP.mono ?_
        rintro e w' ⟨rfl, rfl⟩
        clear KP
        go_wp2_with fail
        refine KN.out.mono ?_
        rintro e w' ⟨rfl, rfl⟩
        clear KN
        go_wp2
        refine bodyPost_ret (results_none rfl _ _ _) rfl ?_
        exact ⟨rfl, HA.out, eff_refl _ _ _⟩
      · by_cases y2 : 1125899906842624 - y < at0 sc m
        · have e : mayRaise sc (m : Int) y = false := by rw [HM.out, decide_eq_false (show ¬ at0 sc m ≤ 1125899906842624 - y by omega), Bool.and_false, Bool.and_false]
          rw [HNO.out e]
          generalize at0 sc m = s at *
          obtain ⟨s0, s1⟩ := hs
          subst hvc hA
          clear T H hb cc ff hrow hx HM HNO e cp
          go_enter Try.func12, Try.ntmps12
          go_wp2_with fail
          refine KP.mono ?_
          rintro e w' ⟨rfl, rfl⟩
          clear KP
          go_wp2_with fail
          refine KN.out.mono ?_
          rintro e w' ⟨rfl, rfl⟩
          clear KN
          go_wp2
          refine bodyPost_ret (results_none rfl _ _ _) rfl ?_
          exact ⟨rfl, HA.out, eff_refl _ _ _⟩
        · have e : mayRaise sc (m : Int) y = true := by rw [HM.out, decide_eq_true (show 0 ≤ y by omega), decide_eq_true (show y ≤ 1099511627776 by omega), decide_eq_true (show at0 sc m ≤ 1125899906842624 - y by omega)]; rfl
          have e2 : raiseL sc (m : Int) y = sc.set m (at0 sc m + y) := by unfold raiseL; rw [e, if_pos rfl, Int.toNat_natCast]; rfl
          rw [e2]
          obtain ⟨R1, R2, R3, R4⟩ := H.raise hm (v := at0 sc m + y) (by omega) (by omega)
          obtain ⟨p, hp⟩ : ∃ p : Nat, at0 pl m = (p : Int) := ⟨(at0 pl m).toNat, by have := (H.g.plc m hm).1; omega⟩
          rw [hp, Int.toNat_natCast] at R4
          subst hvc hA
          have fs := ff (m * 2)
          obtain ⟨T1, B1⟩ := T.putS m (at0 sc m + y)
          obtain ⟨W1, hW1⟩ : ∃ z, w.setCell ⟨g, m * 2, none⟩ (.int .i64 (at0 sc m + y)) = z := ⟨_, rfl⟩
          rw [hW1] at T1 B1
          have hv : at0 sc m + y = at0 sc m + y := rfl
          obtain ⟨d0, -⟩ := T1.cells
          obtain ⟨A2, q2, e3, -, -, hrow2⟩ := T1.row
          rw [List.length_set] at e3 hrow2
          injection e3 with e3 _ e3q
          subst e3 e3q
          obtain ⟨g2, e4, cc2, ff2⟩ := hrow2 (by omega)
          injection e4 with e4
          injection e4 with e4
          subst e4
          have cq := (cc2 m hm).2
          rw [hp] at cq
          have hp0 : (0 : Int) ≤ (p : Int) := by omega
          have K1 : Hid (Chg (TOwn t (.slice (some ⟨g, 0, none⟩) sc.length q) vo) w W1) := Chg.of_but B1 (.inr (.inl rfl))
          have MV := Lib.hid (up_all p W1 pl h T1 R1 R2 R4)
          have HEND : Hid (∀ w6 pl6 h6, Tree w6 t (.slice (some ⟨g, 0, none⟩) sc.length q) vo (sc.set m (at0 sc m + y)) pl6 (0 :: h6) → Good (sc.set m (at0 sc m + y)).length pl6 (0 :: h6) → Ord (sc.set m (at0 sc m + y)) h6 → h6.Perm h → Chg (TOwn t (.slice (some ⟨g, 0, none⟩) sc.length q) vo) w w6 → AtH w6 b (sc.set m (at0 sc m + y)) ins ∧ Eff I14 w b w6) := fun w6 pl6 h6 T6 G6 O6 P6 C6 =>
            ⟨⟨t, _, _, pl6, h6, box_later hb T C6, T6, ⟨G6, O6, P6.trans H.p, R2, R3⟩⟩, eff_of hb T C6 T6 (fun j hj => .inl hj) fun j hj => .inl hj⟩
          generalize sc.set m (at0 sc m + y) = sc2 at *
          generalize at0 sc m = s at *
          obtain ⟨s0, s1⟩ := hs
          clear T H hb cc ff hrow hx HM HNO e e2 cp hrow2 cc2 ff2 R1 R2 R3 R4 T1 B1 hv HA hp
          go_enter Try.func12, Try.ntmps12
          go_wp2_with fail
          refine KP.mono ?_
          rintro e w' ⟨rfl, rfl⟩
          clear KP
          go_wp2_with fail
          refine KN.out.mono ?_
          rintro e w' ⟨rfl, rfl⟩
          clear KN
          go_wp2_with fail
          refine MV.out.mono ?_
          rintro e w6 ⟨rfl, pl6, h6, T6, G6, O6, P6, C6⟩
          have HR := Lib.hid (HEND.out w6 pl6 h6 T6 G6 O6 P6 (K1.out.trans C6 fun i hi => .inl hi))
          clear MV T6 G6 O6 P6 C6
          go_wp2
          go_end0
          exact ⟨rfl, HR.out⟩
  · rw [not_known hi] at KN
    have e : mayRaise sc x y = false := by rw [HM.out, not_known hi, Bool.false_and]
    rw [HNO.out e]
    subst hvc
    clear T H hb hrow hx hi e HM HNO
    go_enter Try.func12, Try.ntmps12
    go_wp2_with fail
    refine KP.mono ?_
    rintro e w' ⟨rfl, rfl⟩
    clear KP
    go_wp2_with fail
    refine KN.out.mono ?_
    rintro e w' ⟨rfl, rfl⟩
    clear KN
    go_wp2
    refine bodyPost_ret (results_none rfl _ _ _) rfl ?_
    exact ⟨rfl, HA.out, eff_refl _ _ _⟩
end
end Go.Proofs.Ytclbbpmofifigaa.Hep
