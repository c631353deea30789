/- The pages' own look at a circuit, walked: whether it may be; no condition. A region that draws its order, where what is told of the world may speak of slots; no condition. -/
import Derived.Test.YtbgcoeejmnejdaaPt11
import Derived.Test.YtbgcoeejmnejdaaPt12
namespace Go.Proofs.Ytbgcoeejmnejdaa.Cw
open Go.ChangeShapes Go.WideShapes Go.ChangeAt Go.RowKit Go.Maps Circ

theorem refOk_of (c : Cir) (h : refHead c = true) : refOk c = (c.lats.all (latR c) && ((List.range c.ands.length).all (andAt c) && ((List.range (own c).length).all (ownAt c.max (own c)) && (allKnown c c.outs && (allKnown c c.bads && allKnown c c.invs))))) := by
  unfold refOk; rw [h, Bool.true_and]
theorem own_in (c : Cir) (x : Int) (s : Places) (hf : CFits c s) (h : x ∈ own c) : I64 x := by
  unfold own at h
  rw [List.mem_append, List.mem_append, List.mem_map, List.mem_map] at h
  rcases h with h | ⟨t, ht, rfl⟩ | ⟨t, ht, rfl⟩
  · exact hf.ins x h
  · exact (hf.lats t ht).1
  · exact (hf.ands t ht).1

set_option maxHeartbeats 8000000 in
set_option maxRecDepth 100000 in
theorem refcheck_any (c : Cir) (s : Places) (w : World) (h : CLies w w.heap.size c s) (hf : CFits c s) :
    Calls Try.prog 15 #[cirV c s] w fun e w' => e = .returned (.int .i64 (refV c)) ∧ Below w.heap.size w w' := by
  have hb1 : Below w.heap.size w (w.alloc (.cells (cirC c s) 27)) := (Below.refl _ _).alloc (Nat.le_refl _) _
  have hs1 : (w.alloc (.cells (cirC c s) 27)).heap.size = w.heap.size + 1 := by simp
  have NM := Lib.hid (fun w h => refnames_any c s w h hf)
  have KN := Lib.hid (fun l w h hl => known_any c s l w h hf hl)
  have AL := Lib.hid (fun l A q w h hl hr hi => all_any c s l A q w h hf hl hr hi)
  have H := Lib.hid h
  have HF := Lib.hid hf
  have li := hf.li
  have ll := hf.ll
  have la := hf.la
  have lo := hf.lo
  have lb := hf.lb
  have lc := hf.lc
  have HO : Hid (c.ins.length * 8 + c.lats.length * 8 + c.ands.length * 8 ≤ 140737488355328 + 140737488355328) := by unfold Hid; omega
  have HB1 := Lib.hid hb1
  have HS1 := Lib.hid hs1
  clear h hf hs1
  unfold cirV at *
  rw [show cirC c s = #[.int .i64 c.max, .slice s.ai c.ins.length s.ki, .slice s.al c.lats.length s.kl, .slice s.ao c.outs.length s.ko, .slice s.ab c.bads.length s.kb, .slice s.ac c.invs.length s.kc, .slice s.aa c.ands.length s.ka, .slice s.an c.names.length s.kn] from rfl] at NM KN AL hb1 ⊢
  have hrh : refHead c = (!decide (c.max < 0) && (!decide (2048 < c.max) && (!decide (64 < c.ins.length) && (!decide (64 < c.lats.length) && refNames c)))) := rfl
  have hro : refHead c = false → refOk c = false := fun e => by unfold refOk; rw [e]; rfl
  rw [hrh] at hro
  have HRO := Lib.hid hro
  have HRH := Lib.hid hrh
  clear hro hrh
  by_cases g1 : c.max < 0
  case pos =>
    go_enter Try.func15, Try.ntmps15
    go_wp2
    go_ret
    exact ⟨ret_int (refV_no c (HRO.out (by rw [decide_eq_true g1]; rfl))).symm, hb1⟩
  case neg =>
  by_cases g2 : 2048 < c.max
  case pos =>
    go_enter Try.func15, Try.ntmps15
    go_wp2
    go_ret
    exact ⟨ret_int (refV_no c (HRO.out (by rw [decide_eq_true g2]; simp))).symm, hb1⟩
  case neg =>
  by_cases g3 : 64 < c.ins.length
  case pos =>
    have g3' : (64 : Int) < c.ins.length := by omega
    go_enter Try.func15, Try.ntmps15
    go_wp2
    go_ret
    exact ⟨ret_int (refV_no c (HRO.out (by rw [decide_eq_true g3]; simp))).symm, hb1⟩
  case neg =>
  have g3' : ¬ (64 : Int) < c.ins.length := by omega
  by_cases g4 : 64 < c.lats.length
  case pos =>
    have g4' : (64 : Int) < c.lats.length := by omega
    go_enter Try.func15, Try.ntmps15
    go_wp2
    go_ret
    exact ⟨ret_int (refV_no c (HRO.out (by rw [decide_eq_true g4]; simp))).symm, hb1⟩
  case neg =>
  have g4' : ¬ (64 : Int) < c.lats.length := by omega
  have N1 := Lib.hid (NM.out (w.alloc (.cells (cirC c s) 27)) ((H.out.below HB1.out).more HB1.out.size))
  have HB2 : Hid (∀ w1, Below (w.alloc (.cells (cirC c s) 27)).heap.size (w.alloc (.cells (cirC c s) 27)) w1 → Below (w.heap.size + 1) (w.alloc (.cells (cirC c s) 27)) w1 ∧ w.heap.size + 1 ≤ w1.heap.size) := fun w1 hb => by
    rw [show (w.alloc (.cells (cirC c s) 27)).heap.size = w.heap.size + 1 from HS1.out] at hb
    exact ⟨hb, by have := hb.size; rw [show (w.alloc (.cells (cirC c s) 27)).heap.size = w.heap.size + 1 from HS1.out] at this; exact this⟩
  have HKO : Hid (refNames c = true → refOk c = (c.lats.all (latR c) && ((List.range c.ands.length).all (andAt c) && ((List.range (own c).length).all (ownAt c.max (own c)) && (allKnown c c.outs && (allKnown c c.bads && allKnown c c.invs)))))) := fun e =>
    refOk_of c (by rw [HRH.out, decide_eq_false g1, decide_eq_false g2, decide_eq_false g3, decide_eq_false g4, e]; rfl)
  clear NM hb1 HRH
  unfold cirC at N1
  go_enter Try.func15, Try.ntmps15
  go_wp2_with fail
  refine N1.out.mono ?_
  rintro e w1 ⟨rfl, hbn⟩
  obtain ⟨hb2, hz2⟩ := HB2.out w1 hbn
  clear hbn
  cases g5 : refNames c
  case false =>
    go_wp2
    go_ret
    exact ⟨ret_int (refV_no c (HRO.out (by rw [g5]; simp))).symm, HB1.out.trans (hb2.mono (by omega))⟩
  case true =>
  have HK := Lib.hid (HKO.out g5)
  clear HRO HKO g5
  obtain ⟨e0, e1, e2, e3, e4, e5, e6, e7⟩ := ((Box.made w c s).keep hb2 (Nat.lt_succ_self _)).cells
  have hrow1 := H.out.ins.below (HB1.out.trans (hb2.mono (by omega)))
  go_wp2_with (at_builtin; refine wpList_app _ rfl (.tmp 34) (.tmp 36) rfl (w.heap.size + 1) w.heap.size (.slice none 0 0) [] c.ins rfl (OwnI.nil _ _) s.ai c.ins.length s.ki rfl rfl hrow1 ?_ hz2 ?_)
  · simp; omega
  intro v1 w2 hown1 hg1 hloc1
  have hb3 := hb2.trans (own_below (OwnI.nil w1 _) hg1 hz2)
  have HOW : Hid (OwnI w2 (w.heap.size + 1) v1 (c.ins ++ (c.lats.take 0).map Tri.a)) := by unfold Hid; simpa using hown1
  obtain ⟨f0, f1, f2, f3, f4, f5, f6, f7⟩ := ((Box.made w c s).keep hb3 (Nat.lt_succ_self _)).cells
  clear hown1 hg1 hloc1 hrow1
  go_wp2
  go_loopw [3, 4] (fun v i wr => ∃ (k : Nat) (vv : Value), k ≤ c.lats.length ∧ i = .int .i64 k ∧ vv = v ∧ OwnI wr (w.heap.size + 1) vv (c.ins ++ (c.lats.take k).map Tri.a) ∧ (c.lats.take k).all (latR c) = true ∧ Below (w.heap.size + 1) (w.alloc (.cells (cirC c s) 27)) wr) (fun _ i _ => c.lats.length - (intOf i).toNat)
  case atStart => exact ⟨0, _, Nat.zero_le _, rfl, rfl, HOW.out, rfl, hb3⟩
  case round =>
    obtain ⟨k, v, hk, rfl, rfl, how, hno, hb⟩ := hrel
    have HN := Lib.hid hno; clear hno
    have HOv := Lib.hid how; clear how
    have hbw : Below w.heap.size w wr := HB1.out.trans (hb.mono (by omega))
    have hwz : w.heap.size + 1 ≤ wr.heap.size := by have := hb.size; rw [show (w.alloc (.cells (cirC c s) 27)).heap.size = w.heap.size + 1 from HS1.out] at this; exact this
    obtain ⟨e0, e1, e2, e3, e4, e5, e6, e7⟩ := ((Box.made w c s).keep hb (Nat.lt_succ_self _)).cells
    by_cases hlt : k < c.lats.length
    · obtain ⟨b, o, ha, hbb, hx0, hx1, hx2⟩ := (H.out.lats.below hbw).tri hlt
      have HX := Lib.hid (all_take c.lats (latR c) k hlt)
      have HS := Lib.hid (all_not c.lats (latR c) k hlt)
      have HAl : Hid (s.al = some ⟨b, o, none⟩) := ha
      have HY := Lib.hid (HF.out.lats c.lats[k] (List.getElem_mem _)).2.1
      have HLR : Hid (latR c c.lats[k] = ((decide (c.lats[k].c = 0) || decide (c.lats[k].c = 1) || decide (c.lats[k].c = c.lats[k].a)) && knownL c c.lats[k].b)) := rfl
      have hts : c.ins ++ (c.lats.take (k + 1)).map Tri.a = (c.ins ++ (c.lats.take k).map Tri.a) ++ [c.lats[k].a] := by
        rw [List.take_succ_eq_append_getElem hlt, List.map_append, List.append_assoc]; rfl
      have HTS := Lib.hid hts
      have hlen : ((c.ins ++ (c.lats.take k).map Tri.a).length + 1) * 8 ≤ 140737488355328 := by simp; omega
      have HLn := Lib.hid hlen
      clear hts hlen
      rw [ha] at e2
      rw [ha] at KN
      rw [ha]
      clear ha
      generalize latR c c.lats[k] = lq at *
      generalize c.lats[k].a = x at *
      generalize c.lats[k].b = y at *
      generalize c.lats[k].c = z at *
      generalize c.ins ++ (c.lats.take k).map Tri.a = xs at *
      have hba : Below wr.heap.size wr (wr.alloc (.cells #[.int .i64 x, .int .i64 y, .int .i64 z] 39)) := (Below.refl _ _).alloc (Nat.le_refl _) _
      obtain ⟨n0, n1, n2⟩ := tri_cells wr x y z 39 _ (Below.refl _ _)
      have hsa : (wr.alloc (.cells #[.int .i64 x, .int .i64 y, .int .i64 z] 39)).heap.size = wr.heap.size + 1 := by simp
      have hbb2 := hba.alloc hba.size (.cells #[.int .i64 x] 3)
      have hone := one_row (wr.alloc (.cells #[.int .i64 x, .int .i64 y, .int .i64 z] 39)) x 3
      rw [hsa] at hone
      have hal : ∀ {p u}, (wr.alloc (.cells #[.int .i64 x, .int .i64 y, .int .i64 z] 39)).cell? p = some u → ((wr.alloc (.cells #[.int .i64 x, .int .i64 y, .int .i64 z] 39)).alloc (.cells #[.int .i64 x] 3)).cell? p = some u := fun h => cell_later ((Below.refl _ _).alloc (Nat.le_refl _) _) h
      have HN0 := Lib.hid (hal n0)
      have HN1 := Lib.hid (hal n1)
      have HN2 := Lib.hid (hal n2)
      have HBB := Lib.hid hbb2
      have HONE := Lib.hid hone
      clear hal hsa hbb2 hone hba
      go_wp2_with (at_builtin; refine wpList_app _ rfl (.tmp 50) (.tmp 53) rfl (w.heap.size + 1) _ v xs [x] rfl (HOv.out.keep HBB.out) _ 1 1 rfl rfl HONE.out HLn.out (Nat.le_trans hwz HBB.out.size) ?_)
      intro v2 w3 hown2 hg2 hloc2
      rw [← HTS.out] at hown2
      have HOW2 := Lib.hid hown2
      have m0 := own_cell HOv.out hg2 HN0.out (Nat.le_refl _)
      have m1 := own_cell HOv.out hg2 HN1.out (Nat.le_refl _)
      have m2 := own_cell HOv.out hg2 HN2.out (Nat.le_refl _)
      have hb5 := hb.trans ((HBB.out.mono hwz).trans (own_below (HOv.out.keep HBB.out) hg2 (Nat.le_trans hwz HBB.out.size)))
      have hz5 : w.heap.size + 1 ≤ w3.heap.size := Nat.le_trans hwz (Nat.le_trans HBB.out.size hg2.size)
      clear hown2 hg2 hloc2 n0 n1 n2
      by_cases z0 : z = 0
      case pos =>
        have z0' : (z != 0) = false := by rw [z0]; rfl
        have Z0 : Hid (decide (z = 0) = true) := decide_eq_true z0
        clear z0
        obtain ⟨k0, k1, k2, k3, k4, k5, k6, k7⟩ := ((Box.made w c s).keep hb5 (Nat.lt_succ_self _)).cells
        rw [HAl.out] at k2
        have D := Lib.hid (KN.out y w3 ((H.out.below (HB1.out.trans (hb5.mono (by omega)))).more (by have := hb5.size; rw [show (w.alloc (.cells (cirC c s) 27)).heap.size = w.heap.size + 1 from HS1.out] at this; omega)) HY.out)
        go_wp2_with fail
        refine D.out.mono ?_
        rintro e w4 ⟨rfl, hbk⟩
        have hb6 := hb5.trans (hbk.mono hz5)
        cases hq : knownL c y
        case false =>
          go_wp2
          go_ret
          exact ⟨ret_int (refV_no c (by rw [HK.out, HS.out (by rw [HLR.out, hq]; simp)]; rfl)).symm, HB1.out.trans (hb6.mono (by omega))⟩
        case true =>
          go_wp2
          go_roundw
          case rel => exact ⟨k + 1, _, by omega, by go_num, rfl, HOW2.out.keep hbk, by rw [HX.out, HN.out, HLR.out, Z0.out, hq]; rfl, hb6⟩
          case measure => simp [intOf]; omega
      case neg =>
      have z0' : (z != 0) = true := by simpa using z0
      by_cases z1 : z = 1
      case pos =>
        have z1' : (z != 1) = false := by rw [z1]; rfl
        have Z0 : Hid (decide (z = 1) = true) := decide_eq_true z1
        clear z0 z1
        obtain ⟨k0, k1, k2, k3, k4, k5, k6, k7⟩ := ((Box.made w c s).keep hb5 (Nat.lt_succ_self _)).cells
        rw [HAl.out] at k2
        have D := Lib.hid (KN.out y w3 ((H.out.below (HB1.out.trans (hb5.mono (by omega)))).more (by have := hb5.size; rw [show (w.alloc (.cells (cirC c s) 27)).heap.size = w.heap.size + 1 from HS1.out] at this; omega)) HY.out)
        go_wp2_with fail
        refine D.out.mono ?_
        rintro e w4 ⟨rfl, hbk⟩
        have hb6 := hb5.trans (hbk.mono hz5)
        cases hq : knownL c y
        case false =>
          go_wp2
          go_ret
          exact ⟨ret_int (refV_no c (by rw [HK.out, HS.out (by rw [HLR.out, hq]; simp)]; rfl)).symm, HB1.out.trans (hb6.mono (by omega))⟩
        case true =>
          go_wp2
          go_roundw
          case rel => exact ⟨k + 1, _, by omega, by go_num, rfl, HOW2.out.keep hbk, by rw [HX.out, HN.out, HLR.out, Z0.out, hq, Bool.or_true]; rfl, hb6⟩
          case measure => simp [intOf]; omega
      case neg =>
      have z1' : (z != 1) = true := by simpa using z1
      by_cases z2 : z = x
      case pos =>
        have z2' : (z != x) = false := by rw [z2]; simp
        have Z0 : Hid (decide (z = x) = true) := decide_eq_true z2
        clear z0 z1 z2
        obtain ⟨k0, k1, k2, k3, k4, k5, k6, k7⟩ := ((Box.made w c s).keep hb5 (Nat.lt_succ_self _)).cells
        rw [HAl.out] at k2
        have D := Lib.hid (KN.out y w3 ((H.out.below (HB1.out.trans (hb5.mono (by omega)))).more (by have := hb5.size; rw [show (w.alloc (.cells (cirC c s) 27)).heap.size = w.heap.size + 1 from HS1.out] at this; omega)) HY.out)
        go_wp2_with fail
        refine D.out.mono ?_
        rintro e w4 ⟨rfl, hbk⟩
        have hb6 := hb5.trans (hbk.mono hz5)
        cases hq : knownL c y
        case false =>
          go_wp2
          go_ret
          exact ⟨ret_int (refV_no c (by rw [HK.out, HS.out (by rw [HLR.out, hq]; simp)]; rfl)).symm, HB1.out.trans (hb6.mono (by omega))⟩
        case true =>
          go_wp2
          go_roundw
          case rel => exact ⟨k + 1, _, by omega, by go_num, rfl, HOW2.out.keep hbk, by rw [HX.out, HN.out, HLR.out, Z0.out, hq, Bool.or_true]; rfl, hb6⟩
          case measure => simp [intOf]; omega
      case neg =>
      have z2' : (z != x) = true := by simpa using z2
      have Z0 : Hid ((decide (z = 0) || decide (z = 1) || decide (z = x)) = false) := by unfold Hid; rw [decide_eq_false z0, decide_eq_false z1, decide_eq_false z2]; rfl
      clear z0 z1 z2
      go_wp2
      go_ret
      exact ⟨ret_int (refV_no c (by rw [HK.out, HS.out (by rw [HLR.out, Z0.out]; simp)]; rfl)).symm, HB1.out.trans (hb5.mono (by omega))⟩
    · obtain rfl : k = c.lats.length := by omega
      rw [List.take_of_length_le (Nat.le_refl _)] at HN
      rw [HN.out, Bool.true_and] at HK
      have HOW2 : Hid (OwnI wr (w.heap.size + 1) v (c.ins ++ c.lats.map Tri.a ++ (c.ands.take 0).map Tri.a)) := by
        unfold Hid; have := HOv.out; rw [List.take_of_length_le (Nat.le_refl _)] at this; simpa using this
      clear HN HOv
      go_wp2
      go_loopw [3, 6] (fun v i wr => ∃ (k : Nat) (vv : Value), k ≤ c.ands.length ∧ i = .int .i64 k ∧ vv = v ∧ OwnI wr (w.heap.size + 1) vv (c.ins ++ c.lats.map Tri.a ++ (c.ands.take k).map Tri.a) ∧ (List.range k).all (andAt c) = true ∧ Below (w.heap.size + 1) (w.alloc (.cells (cirC c s) 27)) wr) (fun _ i _ => c.ands.length - (intOf i).toNat)
      case atStart => exact ⟨0, _, Nat.zero_le _, rfl, rfl, HOW2.out, rfl, hb⟩
      case round =>
        obtain ⟨k, v, hk, rfl, rfl, how, hno, hb⟩ := hrel
        have HN := Lib.hid hno; clear hno
        have HOv := Lib.hid how; clear how
        have hbw : Below w.heap.size w wr := HB1.out.trans (hb.mono (by omega))
        have hwz : w.heap.size + 1 ≤ wr.heap.size := by have := hb.size; rw [show (w.alloc (.cells (cirC c s) 27)).heap.size = w.heap.size + 1 from HS1.out] at this; exact this
        obtain ⟨e0, e1, e2, e3, e4, e5, e6, e7⟩ := ((Box.made w c s).keep hb (Nat.lt_succ_self _)).cells
        by_cases hlt : k < c.ands.length
        · obtain ⟨b, o, ha, hbb, hx0, hx1, hx2⟩ := (H.out.ands.below hbw).tri hlt
          have HX := Lib.hid (range_snoc (andAt c) k)
          have HS := Lib.hid (range_not (andAt c) c.ands.length k hlt)
          have HAl : Hid (s.aa = some ⟨b, o, none⟩) := ha
          have HY := Lib.hid (HF.out.ands c.ands[k] (List.getElem_mem _)).2.1
          have HZ := Lib.hid (HF.out.ands c.ands[k] (List.getElem_mem _)).2.2
          have HL0 := Lib.hid (andAt_zero c k hlt)
          have HL1 := Lib.hid (andAt_pos c k hlt)
          have hts : c.ins ++ c.lats.map Tri.a ++ (c.ands.take (k + 1)).map Tri.a = (c.ins ++ c.lats.map Tri.a ++ (c.ands.take k).map Tri.a) ++ [c.ands[k].a] := by
            rw [List.take_succ_eq_append_getElem hlt, List.map_append, List.append_assoc]; simp
          have HTS := Lib.hid hts
          have hlen : ((c.ins ++ c.lats.map Tri.a ++ (c.ands.take k).map Tri.a).length + 1) * 8 ≤ 140737488355328 := by simp; omega
          have HLn := Lib.hid hlen
          clear hts hlen
          rw [ha] at e6
          rw [ha] at KN
          rw [ha]
          clear ha
          have hpv : ∀ (h0 : 0 < k) (w9 : World), Below w.heap.size w w9 → w9.cell? ⟨b, o + (k - 1) * 3, none⟩ = some (.int .i64 (c.ands[k - 1]'(by omega)).a) := fun h0 w9 hb9 => by
            obtain ⟨b', o', ha', -, p0, -, -⟩ := (H.out.ands.below hb9).tri (show k - 1 < c.ands.length by omega)
            rw [HAl.out] at ha'
            have := Option.some.inj ha'
            injection this with h1 h2
            subst h1; subst h2
            exact p0
          have HPV := Lib.hid hpv
          clear hpv
          generalize c.ands[k].a = x at *
          generalize c.ands[k].b = y at *
          generalize c.ands[k].c = z at *
          generalize c.ins ++ c.lats.map Tri.a ++ (c.ands.take k).map Tri.a = xs at *
          have hba : Below wr.heap.size wr (wr.alloc (.cells #[.int .i64 x, .int .i64 y, .int .i64 z] 43)) := (Below.refl _ _).alloc (Nat.le_refl _) _
          obtain ⟨n0, n1, n2⟩ := tri_cells wr x y z 43 _ (Below.refl _ _)
          have hsa : (wr.alloc (.cells #[.int .i64 x, .int .i64 y, .int .i64 z] 43)).heap.size = wr.heap.size + 1 := by simp
          have hbb2 := hba.alloc hba.size (.cells #[.int .i64 x] 3)
          have hone := one_row (wr.alloc (.cells #[.int .i64 x, .int .i64 y, .int .i64 z] 43)) x 3
          rw [hsa] at hone
          have hal : ∀ {p u}, (wr.alloc (.cells #[.int .i64 x, .int .i64 y, .int .i64 z] 43)).cell? p = some u → ((wr.alloc (.cells #[.int .i64 x, .int .i64 y, .int .i64 z] 43)).alloc (.cells #[.int .i64 x] 3)).cell? p = some u := fun h => cell_later ((Below.refl _ _).alloc (Nat.le_refl _) _) h
          have HN0 := Lib.hid (hal n0)
          have HN1 := Lib.hid (hal n1)
          have HN2 := Lib.hid (hal n2)
          have HBB := Lib.hid hbb2
          have HONE := Lib.hid hone
          clear hal hsa hbb2 hone hba
          go_wp2_with (at_builtin; refine wpList_app _ rfl (.tmp 89) (.tmp 92) rfl (w.heap.size + 1) _ v xs [x] rfl (HOv.out.keep HBB.out) _ 1 1 rfl rfl HONE.out HLn.out (Nat.le_trans hwz HBB.out.size) ?_)
          intro v2 w3 hown2 hg2 hloc2
          rw [← HTS.out] at hown2
          have HOW2 := Lib.hid hown2
          have m0 := own_cell HOv.out hg2 HN0.out (Nat.le_refl _)
          have m1 := own_cell HOv.out hg2 HN1.out (Nat.le_refl _)
          have m2 := own_cell HOv.out hg2 HN2.out (Nat.le_refl _)
          have hb5 := hb.trans ((HBB.out.mono hwz).trans (own_below (HOv.out.keep HBB.out) hg2 (Nat.le_trans hwz HBB.out.size)))
          have hz5 : w.heap.size + 1 ≤ w3.heap.size := Nat.le_trans hwz (Nat.le_trans HBB.out.size hg2.size)
          clear hown2 hg2 hloc2 n0 n1 n2
          obtain ⟨k0, k1, k2, k3, k4, k5, k6, k7⟩ := ((Box.made w c s).keep hb5 (Nat.lt_succ_self _)).cells
          rw [HAl.out] at k6
          have KY := Lib.hid (fun (u : Wd w3.heap.size w3) => Calls.in_wd u (KN.out y u.w ((H.out.below (HB1.out.trans ((hb5.trans (u.ok.mono hz5)).mono (by omega)))).more (by have := u.ok.size; omega)) HY.out) (Nat.le_refl _))
          have KZ := Lib.hid (fun (u : Wd w3.heap.size w3) => Calls.in_wd u (KN.out z u.w ((H.out.below (HB1.out.trans ((hb5.trans (u.ok.mono hz5)).mono (by omega)))).more (by have := u.ok.size; omega)) HZ.out) (Nat.le_refl _))
          go_wp2
          have u0 := Wd.cell k0
          have u1 := Wd.cell k1
          have u2 := Wd.cell k2
          have u3 := Wd.cell k3
          have u4 := Wd.cell k4
          have u5 := Wd.cell k5
          have u6 := Wd.cell k6
          have u7 := Wd.cell k7
          have v0 := Wd.cell m0
          have v1 := Wd.cell m1
          have v2' := Wd.cell m2
          clear k0 k1 k2 k3 k4 k5 k6 k7 m0 m1 m2 e0 e1 e2 e3 e4 e5 e6 e7 hx0 hx1 hx2
          by_cases hk0 : k = 0
          case pos =>
            have HLR := Lib.hid (HL0.out hk0)
            have hk1 : decide ((0 : Int) < k) = false := by simp; omega
            have hk2 : decide (0 < k) = false := by simp; omega
            clear hk0
            by_cases c1 : x ≤ y
            case pos =>
              have C1 : Hid (decide (y < x) = false) := decide_eq_false (by omega)
              refine wp_region_wd (by kernel_rfl) (by kernel_rfl) ?_
              repeat (first | go_big_quiet_skip | (go_big_quiet_want; go_big_quiet_op; first | go_big_quiet_on | (apply Exists.intro; refine ⟨fun u => ?_, ?_⟩; (go_at_call 50; first | (with_reducible exact KY.out u) | (with_reducible exact KZ.out u)); go_big_quiet_on)))
              refine wpQuiet_nil ?_
              intro w9 hw'
              obtain ⟨⟨_, hb9⟩, hw''⟩ := hw'
              subst hw''
              go_wp2
              go_ret
              exact ⟨ret_int (refV_no c (by rw [HK.out, HS.out (by rw [HLR.out, C1.out]; simp)]; rfl)).symm, HB1.out.trans ((hb5.trans (hb9.mono hz5)).mono (by omega))⟩
            case neg =>
            have C1 : Hid (decide (y < x) = true) := decide_eq_true (by omega)
            by_cases c2 : x ≤ z
            case pos =>
              have C2 : Hid (decide (z < x) = false) := decide_eq_false (by omega)
              refine wp_region_wd (by kernel_rfl) (by kernel_rfl) ?_
              repeat (first | go_big_quiet_skip | (go_big_quiet_want; go_big_quiet_op; first | go_big_quiet_on | (apply Exists.intro; refine ⟨fun u => ?_, ?_⟩; (go_at_call 50; first | (with_reducible exact KY.out u) | (with_reducible exact KZ.out u)); go_big_quiet_on)))
              refine wpQuiet_nil ?_
              intro w9 hw'
              obtain ⟨⟨_, hb9⟩, hw''⟩ := hw'
              subst hw''
              go_wp2
              go_ret
              exact ⟨ret_int (refV_no c (by rw [HK.out, HS.out (by rw [HLR.out, C2.out]; simp)]; rfl)).symm, HB1.out.trans ((hb5.trans (hb9.mono hz5)).mono (by omega))⟩
            case neg =>
            have C2 : Hid (decide (z < x) = true) := decide_eq_true (by omega)
            cases q1 : knownL c y
            case false =>
              rw [q1] at KY
              refine wp_region_wd (by kernel_rfl) (by kernel_rfl) ?_
              repeat (first | go_big_quiet_skip | (go_big_quiet_want; go_big_quiet_op; first | go_big_quiet_on | (apply Exists.intro; refine ⟨fun u => ?_, ?_⟩; (go_at_call 50; first | (with_reducible exact KY.out u) | (with_reducible exact KZ.out u)); go_big_quiet_on)))
              refine wpQuiet_nil ?_
              intro w9 hw'
              obtain ⟨⟨_, hb9⟩, hw''⟩ := hw'
              subst hw''
              go_wp2
              go_ret
              exact ⟨ret_int (refV_no c (by rw [HK.out, HS.out (by rw [HLR.out, q1]; simp)]; rfl)).symm, HB1.out.trans ((hb5.trans (hb9.mono hz5)).mono (by omega))⟩
            case true =>
            rw [q1] at KY
            cases q2 : knownL c z
            case false =>
              rw [q2] at KZ
              refine wp_region_wd (by kernel_rfl) (by kernel_rfl) ?_
              repeat (first | go_big_quiet_skip | (go_big_quiet_want; go_big_quiet_op; first | go_big_quiet_on | (apply Exists.intro; refine ⟨fun u => ?_, ?_⟩; (go_at_call 50; first | (with_reducible exact KY.out u) | (with_reducible exact KZ.out u)); go_big_quiet_on)))
              refine wpQuiet_nil ?_
              intro w9 hw'
              obtain ⟨⟨_, hb9⟩, hw''⟩ := hw'
              subst hw''
              go_wp2
              go_ret
              exact ⟨ret_int (refV_no c (by rw [HK.out, HS.out (by rw [HLR.out, q2]; simp)]; rfl)).symm, HB1.out.trans ((hb5.trans (hb9.mono hz5)).mono (by omega))⟩
            case true =>
            rw [q2] at KZ
            refine wp_region_wd (by kernel_rfl) (by kernel_rfl) ?_
            repeat (first | go_big_quiet_skip | (go_big_quiet_want; go_big_quiet_op; first | go_big_quiet_on | (apply Exists.intro; refine ⟨fun u => ?_, ?_⟩; (go_at_call 50; first | (with_reducible exact KY.out u) | (with_reducible exact KZ.out u)); go_big_quiet_on)))
            refine wpQuiet_nil ?_
            intro w9 hw'
            obtain ⟨⟨_, hb9⟩, hw''⟩ := hw'
            subst hw''
            go_wp2
            go_roundw
            case rel => exact ⟨k + 1, _, by omega, by go_num, rfl, HOW2.out.keep hb9, by rw [HX.out, HN.out, HLR.out, Bool.true_and, C1.out, C2.out, q1, q2]; rfl, hb5.trans (hb9.mono hz5)⟩
            case measure => simp [intOf]; omega
          case neg =>
          have hk1 : decide ((0 : Int) < k) = true := by simp; omega
          have hk2 : decide (0 < k) = true := by simp; omega
          have hk3 : (0 : Int) < k := by omega
          have hkn : (k : Int) - 1 < c.ands.length := by omega
          have hkn0 : 0 ≤ (k : Int) - 1 := by omega
          have HLR := Lib.hid (HL1.out (by omega))
          have v3 := Wd.cell (HPV.out (by omega) w3 (HB1.out.trans (hb5.mono (by omega))))
          clear hk0 HL0 HL1 HPV
          generalize c.ands[k - 1].a = pa at *
          by_cases c0 : x ≤ pa
          case pos =>
            have C0 : Hid (decide (pa < x) = false) := decide_eq_false (by omega)
            refine wp_region_wd (by kernel_rfl) (by kernel_rfl) ?_
            repeat (first | go_big_quiet_skip | (go_big_quiet_want; go_big_quiet_op; first | go_big_quiet_on | (apply Exists.intro; refine ⟨fun u => ?_, ?_⟩; (go_at_call 50; first | (with_reducible exact KY.out u) | (with_reducible exact KZ.out u)); go_big_quiet_on)))
            refine wpQuiet_nil ?_
            intro w9 hw'
            obtain ⟨⟨_, hb9⟩, hw''⟩ := hw'
            subst hw''
            go_wp2
            go_ret
            exact ⟨ret_int (refV_no c (by rw [HK.out, HS.out (by rw [HLR.out, C0.out]; simp)]; rfl)).symm, HB1.out.trans ((hb5.trans (hb9.mono hz5)).mono (by omega))⟩
          case neg =>
          have C0 : Hid (decide (pa < x) = true) := decide_eq_true (by omega)
          by_cases c1 : x ≤ y
          case pos =>
            have C1 : Hid (decide (y < x) = false) := decide_eq_false (by omega)
            refine wp_region_wd (by kernel_rfl) (by kernel_rfl) ?_
            repeat (first | go_big_quiet_skip | (go_big_quiet_want; go_big_quiet_op; first | go_big_quiet_on | (apply Exists.intro; refine ⟨fun u => ?_, ?_⟩; (go_at_call 50; first | (with_reducible exact KY.out u) | (with_reducible exact KZ.out u)); go_big_quiet_on)))
            refine wpQuiet_nil ?_
            intro w9 hw'
            obtain ⟨⟨_, hb9⟩, hw''⟩ := hw'
            subst hw''
            go_wp2
            go_ret
            exact ⟨ret_int (refV_no c (by rw [HK.out, HS.out (by rw [HLR.out, C1.out]; simp)]; rfl)).symm, HB1.out.trans ((hb5.trans (hb9.mono hz5)).mono (by omega))⟩
          case neg =>
          have C1 : Hid (decide (y < x) = true) := decide_eq_true (by omega)
          by_cases c2 : x ≤ z
          case pos =>
            have C2 : Hid (decide (z < x) = false) := decide_eq_false (by omega)
            refine wp_region_wd (by kernel_rfl) (by kernel_rfl) ?_
            repeat (first | go_big_quiet_skip | (go_big_quiet_want; go_big_quiet_op; first | go_big_quiet_on | (apply Exists.intro; refine ⟨fun u => ?_, ?_⟩; (go_at_call 50; first | (with_reducible exact KY.out u) | (with_reducible exact KZ.out u)); go_big_quiet_on)))
            refine wpQuiet_nil ?_
            intro w9 hw'
            obtain ⟨⟨_, hb9⟩, hw''⟩ := hw'
            subst hw''
            go_wp2
            go_ret
            exact ⟨ret_int (refV_no c (by rw [HK.out, HS.out (by rw [HLR.out, C2.out]; simp)]; rfl)).symm, HB1.out.trans ((hb5.trans (hb9.mono hz5)).mono (by omega))⟩
          case neg =>
          have C2 : Hid (decide (z < x) = true) := decide_eq_true (by omega)
          cases q1 : knownL c y
          case false =>
            rw [q1] at KY
            refine wp_region_wd (by kernel_rfl) (by kernel_rfl) ?_
            repeat (first | go_big_quiet_skip | (go_big_quiet_want; go_big_quiet_op; first | go_big_quiet_on | (apply Exists.intro; refine ⟨fun u => ?_, ?_⟩; (go_at_call 50; first | (with_reducible exact KY.out u) | (with_reducible exact KZ.out u)); go_big_quiet_on)))
            refine wpQuiet_nil ?_
            intro w9 hw'
            obtain ⟨⟨_, hb9⟩, hw''⟩ := hw'
            subst hw''
            go_wp2
            go_ret
            exact ⟨ret_int (refV_no c (by rw [HK.out, HS.out (by rw [HLR.out, q1]; simp)]; rfl)).symm, HB1.out.trans ((hb5.trans (hb9.mono hz5)).mono (by omega))⟩
          case true =>
          rw [q1] at KY
          cases q2 : knownL c z
          case false =>
            rw [q2] at KZ
            refine wp_region_wd (by kernel_rfl) (by kernel_rfl) ?_
            repeat (first | go_big_quiet_skip | (go_big_quiet_want; go_big_quiet_op; first | go_big_quiet_on | (apply Exists.intro; refine ⟨fun u => ?_, ?_⟩; (go_at_call 50; first | (with_reducible exact KY.out u) | (with_reducible exact KZ.out u)); go_big_quiet_on)))
            refine wpQuiet_nil ?_
            intro w9 hw'
            obtain ⟨⟨_, hb9⟩, hw''⟩ := hw'
            subst hw''
            go_wp2
            go_ret
            exact ⟨ret_int (refV_no c (by rw [HK.out, HS.out (by rw [HLR.out, q2]; simp)]; rfl)).symm, HB1.out.trans ((hb5.trans (hb9.mono hz5)).mono (by omega))⟩
          case true =>
          rw [q2] at KZ
          refine wp_region_wd (by kernel_rfl) (by kernel_rfl) ?_
          repeat (first | go_big_quiet_skip | (go_big_quiet_want; go_big_quiet_op; first | go_big_quiet_on | (apply Exists.intro; refine ⟨fun u => ?_, ?_⟩; (go_at_call 50; first | (with_reducible exact KY.out u) | (with_reducible exact KZ.out u)); go_big_quiet_on)))
          refine wpQuiet_nil ?_
          intro w9 hw'
          obtain ⟨⟨_, hb9⟩, hw''⟩ := hw'
          subst hw''
          go_wp2
          go_roundw
          case rel => exact ⟨k + 1, _, by omega, by go_num, rfl, HOW2.out.keep hb9, by rw [HX.out, HN.out, HLR.out, C0.out, Bool.true_and, C1.out, C2.out, q1, q2]; rfl, hb5.trans (hb9.mono hz5)⟩
          case measure => simp [intOf]; omega
        · obtain rfl : k = c.ands.length := by omega
          rw [HN.out, Bool.true_and] at HK
          have HOW3 : Hid (OwnI wr (w.heap.size + 1) v (own c)) := by
            unfold Hid; have := HOv.out; rw [List.take_of_length_le (Nat.le_refl _)] at this; unfold own; rw [← List.append_assoc]; exact this
          clear HN HOv
          go_wp2
          go_loopw [8] (fun i wr => ∃ k : Nat, k ≤ (own c).length ∧ i = .int .i64 k ∧ OwnI wr (w.heap.size + 1) v (own c) ∧ (List.range k).all (ownAt c.max (own c)) = true ∧ Below (w.heap.size + 1) (w.alloc (.cells (cirC c s) 27)) wr) (fun i _ => (own c).length - (intOf i).toNat)
          case atStart => exact ⟨0, Nat.zero_le _, rfl, HOW3.out, rfl, hb⟩
          case round =>
            obtain ⟨k, hk, rfl, how, hno, hb⟩ := hrel
            have HN := Lib.hid hno; clear hno
            have HOv := Lib.hid how; clear how
            have hbw : Below w.heap.size w wr := HB1.out.trans (hb.mono (by omega))
            have hwz : w.heap.size + 1 ≤ wr.heap.size := by have := hb.size; rw [show (w.alloc (.cells (cirC c s) 27)).heap.size = w.heap.size + 1 from HS1.out] at this; exact this
            obtain ⟨e0, e1, e2, e3, e4, e5, e6, e7⟩ := ((Box.made w c s).keep hb (Nat.lt_succ_self _)).cells
            by_cases hlt : k < (own c).length
            · obtain ⟨b, o, q, hv, hq, hq2, hcx, hrow⟩ := HOv.out.cell hlt
              have HX := Lib.hid (range_snoc (ownAt c.max (own c)) k)
              have HS := Lib.hid (range_not (ownAt c.max (own c)) (own c).length k hlt)
              have HOA := Lib.hid (ownAt_is c.max (own c) k hlt)
              have hxi := own_in c (own c)[k] s HF.out (List.getElem_mem _)
              have HRow := Lib.hid hrow
              clear hrow
              generalize (own c)[k] = x at *
              have hh := fun (u : Wd wr.heap.size wr) => has_any ((own c).take k) (some ⟨b, o, none⟩) q x u.w (by rw [List.length_take]; omega) (((LRow.take HRow.out k).below u.ok).more u.ok.size)
              rw [List.length_take, Nat.min_eq_left (Nat.le_of_lt hlt)] at hh
              have HH := Lib.hid (fun (u : Wd wr.heap.size wr) => Calls.in_wd u ((hh u).mono (fun _ _ ⟨he, hw⟩ => ⟨he, hw ▸ Below.refl _ _⟩)) (Nat.le_refl _))
              clear hh
              generalize ((own c).take k).any (· == x) = hs at *
              generalize (own c).length = n at *
              subst hv
              obtain ⟨x0, x1⟩ := hxi
              have hk1 : (k : Int) < n := by omega
              go_wp2
              have u0 := Wd.cell e0
              have u8 := Wd.cell hcx
              clear e0 e1 e2 e3 e4 e5 e6 e7 hcx
              by_cases c1 : x < 2
              case pos =>
                have C1 : Hid (decide (x < 2) = true) := decide_eq_true c1
                refine wp_region_wd (by kernel_rfl) (by kernel_rfl) ?_
                repeat (first | go_big_quiet_skip | (go_big_quiet_want; go_big_quiet_op; first | go_big_quiet_on | (apply Exists.intro; refine ⟨fun u => ?_, ?_⟩; (go_at_call 51; exact HH.out u); go_big_quiet_on)))
                refine wpQuiet_nil ?_
                intro w9 hw'
                obtain ⟨⟨_, hb9⟩, hw''⟩ := hw'
                subst hw''
                go_wp2
                go_ret
                exact ⟨ret_int (refV_no c (by rw [HK.out, HS.out (by rw [HOA.out, C1.out]; simp)]; rfl)).symm, HB1.out.trans ((hb.trans (hb9.mono hwz)).mono (by omega))⟩
              case neg =>
              have C1 : Hid (decide (x < 2) = false) := decide_eq_false c1
              cases c2 : (x % 2 == 1)
              case true =>
                have C2 : Hid (decide (x % 2 = 1) = true) := decide_eq_true (by simpa using c2)
                refine wp_region_wd (by kernel_rfl) (by kernel_rfl) ?_
                repeat (first | go_big_quiet_skip | (go_big_quiet_want; go_big_quiet_op; first | go_big_quiet_on | (apply Exists.intro; refine ⟨fun u => ?_, ?_⟩; (go_at_call 51; exact HH.out u); go_big_quiet_on)))
                refine wpQuiet_nil ?_
                intro w9 hw'
                obtain ⟨⟨_, hb9⟩, hw''⟩ := hw'
                subst hw''
                go_wp2
                go_ret
                exact ⟨ret_int (refV_no c (by rw [HK.out, HS.out (by rw [HOA.out, C2.out]; simp)]; rfl)).symm, HB1.out.trans ((hb.trans (hb9.mono hwz)).mono (by omega))⟩
              case false =>
              have C2 : Hid (decide (x % 2 = 1) = false) := decide_eq_false (by simpa using c2)
              by_cases c3 : 2 * c.max < x
              case pos =>
                have C3 : Hid (decide (2 * c.max < x) = true) := decide_eq_true c3
                refine wp_region_wd (by kernel_rfl) (by kernel_rfl) ?_
                repeat (first | go_big_quiet_skip | (go_big_quiet_want; go_big_quiet_op; first | go_big_quiet_on | (apply Exists.intro; refine ⟨fun u => ?_, ?_⟩; (go_at_call 51; exact HH.out u); go_big_quiet_on)))
                refine wpQuiet_nil ?_
                intro w9 hw'
                obtain ⟨⟨_, hb9⟩, hw''⟩ := hw'
                subst hw''
                go_wp2
                go_ret
                exact ⟨ret_int (refV_no c (by rw [HK.out, HS.out (by rw [HOA.out, C3.out]; simp)]; rfl)).symm, HB1.out.trans ((hb.trans (hb9.mono hwz)).mono (by omega))⟩
              case neg =>
              have C3 : Hid (decide (2 * c.max < x) = false) := decide_eq_false c3
              cases hs
              case true =>
                refine wp_region_wd (by kernel_rfl) (by kernel_rfl) ?_
                repeat (first | go_big_quiet_skip | (go_big_quiet_want; go_big_quiet_op; first | go_big_quiet_on | (apply Exists.intro; refine ⟨fun u => ?_, ?_⟩; (go_at_call 51; exact HH.out u); go_big_quiet_on)))
                refine wpQuiet_nil ?_
                intro w9 hw'
                obtain ⟨⟨_, hb9⟩, hw''⟩ := hw'
                subst hw''
                go_wp2
                go_ret
                exact ⟨ret_int (refV_no c (by rw [HK.out, HS.out (by rw [HOA.out]; simp)]; rfl)).symm, HB1.out.trans ((hb.trans (hb9.mono hwz)).mono (by omega))⟩
              case false =>
              refine wp_region_wd (by kernel_rfl) (by kernel_rfl) ?_
              repeat (first | go_big_quiet_skip | (go_big_quiet_want; go_big_quiet_op; first | go_big_quiet_on | (apply Exists.intro; refine ⟨fun u => ?_, ?_⟩; (go_at_call 51; exact HH.out u); go_big_quiet_on)))
              refine wpQuiet_nil ?_
              intro w9 hw'
              obtain ⟨⟨_, hb9⟩, hw''⟩ := hw'
              subst hw''
              go_wp2
              go_roundw
              case rel => exact ⟨k + 1, by omega, by go_num, HOv.out.keep hb9, by rw [HX.out, HN.out, HOA.out, C1.out, C2.out, C3.out]; rfl, hb.trans (hb9.mono hwz)⟩
              case measure => simp [intOf]; omega
            · have hk2 : k = (own c).length := by omega
              rw [← hk2, HN.out, Bool.true_and] at HK
              have hk1 : ¬ (k : Int) < (own c).length := by omega
              have hk3 := Lib.hid hk2
              clear hk2
              obtain ⟨A, q, hv, -, -, -⟩ := HOv.out.row
              subst hv
              have D1 := Lib.hid (AL.out c.outs s.ao s.ko wr ((H.out.below hbw).more (by omega)) (by omega) ((H.out.outs.below hbw).more (by omega)) HF.out.outs)
              go_wp2_with fail
              refine D1.out.mono ?_
              rintro e w5 ⟨rfl, hb5⟩
              have hb6 := hb.trans (hb5.mono hwz)
              have hbw6 : Below w.heap.size w w5 := HB1.out.trans (hb6.mono (by omega))
              cases q1 : allKnown c c.outs
              case false =>
                go_wp2
                go_ret
                exact ⟨ret_int (refV_no c (by rw [HK.out, q1]; simp)).symm, hbw6⟩
              case true =>
              rw [q1, Bool.true_and] at HK
              obtain ⟨f0, f1, f2, f3, f4, f5, f6, f7⟩ := ((Box.made w c s).keep hb6 (Nat.lt_succ_self _)).cells
              have D2 := Lib.hid (AL.out c.bads s.ab s.kb w5 ((H.out.below hbw6).more (Nat.le_trans (by omega) hb5.size)) (by omega) ((H.out.bads.below hbw6).more (Nat.le_trans (by omega) hb5.size)) HF.out.bads)
              go_wp2_with fail
              refine D2.out.mono ?_
              rintro e w6 ⟨rfl, hb7⟩
              have hz6 : w.heap.size + 1 ≤ w5.heap.size := Nat.le_trans hwz hb5.size
              have hb8 := hb6.trans (hb7.mono hz6)
              have hbw8 : Below w.heap.size w w6 := HB1.out.trans (hb8.mono (by omega))
              cases q2 : allKnown c c.bads
              case false =>
                go_wp2
                go_ret
                exact ⟨ret_int (refV_no c (by rw [HK.out, q2]; simp)).symm, hbw8⟩
              case true =>
              rw [q2, Bool.true_and] at HK
              obtain ⟨h0, h1, h2, h3, h4, h5, h6, h7⟩ := ((Box.made w c s).keep hb8 (Nat.lt_succ_self _)).cells
              have D3 := Lib.hid (AL.out c.invs s.ac s.kc w6 ((H.out.below hbw8).more (Nat.le_trans (by omega) hb7.size)) (by omega) ((H.out.invs.below hbw8).more (Nat.le_trans (by omega) hb7.size)) HF.out.invs)
              go_wp2_with fail
              refine D3.out.mono ?_
              rintro e w7 ⟨rfl, hb9⟩
              have hbw9 : Below w.heap.size w w7 := HB1.out.trans ((hb8.trans (hb9.mono (Nat.le_trans hz6 hb7.size))).mono (by omega))
              cases q3 : allKnown c c.invs
              case false =>
                go_wp2
                go_ret
                exact ⟨ret_int (refV_no c (by rw [HK.out, q3])).symm, hbw9⟩
              case true =>
                go_wp2
                go_ret
                exact ⟨ret_int (refV_yes c (by rw [HK.out, q3])).symm, hbw9⟩
end Go.Proofs.Ytbgcoeejmnejdaa.Cw
namespace Go.Proofs.Ytbgcoeejmnejdaa.Cla
open Go.ChangeShapes Go.WideShapes Go.ChangeAt Go.RowKit Go.Maps Circ Cw

theorem wp_region_valsG {P : Program} {id : Nat} {ops : Array Oper} {Q : Exit → Act → World → Prop} {a : Act} {w : World} (hm : P.follows .mixedOrders = true) (hu : upward ops = true)
    (ment : Nat → List Nat) (hment : mentOk ops ment = true) (hdst : dstsIn ops a.tmps.size = true) (Ok : (Nat → Bool) → (Nat → Value) → World → Prop) (R : Nat → (Nat → Value) → World → Prop) (h0 : Ok (fun _ => false) (vals a) w.drew)
    (hstab : ∀ j f f' w w', Below w.heap.size w w' → (∀ t ∈ ment j, f' t = f t) → R j f w → R j f' w')
    (hstep : ∀ (i : Nat) (o : Oper) (d : Nat → Bool) (a' : Act) (w' : World), ops[i]? = some o → (∀ k, behindB ops ops.size i k = true → d k = false) → (∀ t, untouched ops i t = true → a'.tmps.getD t undef = a.tmps.getD t undef) → a'.defers = a.defers → Ok d (vals a') w' → (∀ k, dependsB o k = true → d k = true ∧ R k (vals a') w') →
      ∀ K : Act → World → Prop, (∀ v w'', Below w'.heap.size w' w'' → (∀ f : Nat → Value, (∀ t, o.dst = some t → f t = v) → (∀ t, o.dst ≠ some t → f t = vals a' t) → Ok (fun j => decide (j = i) || d j) f w'') → (∀ f : Nat → Value, (∀ t, o.dst = some t → f t = v) → (∀ t, o.dst ≠ some t → f t = vals a' t) → R i f w'') → K (a'.put o.dst v) w'') →
        (∀ v w'', (∀ f : Nat → Value, (∀ t, o.dst = some t → f t = v) → (∀ t, o.dst ≠ some t → f t = vals a' t) → Ok (fun j => decide (j = i) || d j) f w'') → (∀ f : Nat → Value, (∀ t, o.dst = some t → f t = v) → (∀ t, o.dst ≠ some t → f t = vals a' t) → R i f w'') → (∀ j f, j ≠ i → (∀ t ∈ ment j, f t = vals a' t) → R j (vals a') w' → R j f w'') → K (a'.put o.dst v) w'') → o.wp P a' w' K Q)
    (hend : ∀ (a' : Act) (w' : World), a'.tmps.size = a.tmps.size → a'.defers = a.defers → (∀ t, (∀ o ∈ ops, o.dst ≠ some t) → a'.tmps.getD t undef = a.tmps.getD t undef) → (∃ d, Ok d (vals a') w' ∧ ∀ j, j < ops.size → d j = true) → (∀ j, j < ops.size → R j (vals a') w') → Q .normal a' w') : (Code.region id ops true).wp P Q a w := by
  refine wp_region_any hm (wpAny_inv (fun listed a' w' => listed.size = ops.size ∧ (a'.tmps.size = a.tmps.size ∧ a'.defers = a.defers) ∧ (∀ t, (∀ (k : Nat) ok, ops[k]? = some ok → ok.dst = some t → listed[k]? ≠ some true) → a'.tmps.getD t undef = a.tmps.getD t undef) ∧ Ok (fun j => listed.getD j false) (vals a') w' ∧ (∀ j : Nat, listed[j]? = some true → R j (vals a') w') ∧ ∀ (j : Nat) (oj : Oper), ops[j]? = some oj → listed[j]? = some true → ∀ e ∈ oj.after, Region.binds .any e = true → listed[e.on]? = some true) ?_ ?_ _ _ _ _ ?_ (by simp))
  · rintro listed a' w' i ⟨hs, hk, hun, hok, hR, hC⟩ hi
    obtain ⟨hl, hio, hd⟩ := ready_open hi
    have hl' : listed[i]? = some false := by rw [← Array.getElem?_toList]; exact hl
    obtain ⟨o, ho⟩ : ∃ o, ops[i]? = some o := ⟨ops[i], by simp [hio]⟩
    have hmem : o ∈ ops := Array.mem_of_getElem? ho
    have hg : o.guard.isNone = true := by
      have h1 := List.all_eq_true.1 hu i (List.mem_range.2 hio)
      rw [ho] at h1
      simp only [Bool.and_eq_true] at h1
      exact h1.2
    have hw : Region.wanted o (yielded ops a'.tmps) = true := by
      unfold Region.wanted
      cases hgg : o.guard with
      | none => rfl
      | some x => rw [hgg] at hg; cases hg
    have hdep : ∀ e ∈ o.after, Region.binds .any e = true → listed[e.on]? = some true := fun e he hb => by
      have h2 := hd o ho e he hb
      rw [Array.getD_eq_getD_getElem?] at h2
      cases hq : listed[e.on]? with
      | none => rw [hq] at h2; simp at h2
      | some b => rw [hq] at h2; simp at h2; rw [h2]
    have hback : ∀ j, j ≠ i → (listed.setIfInBounds i true)[j]? = some true → listed[j]? = some true := fun j hji hj => by
      rw [Array.getElem?_setIfInBounds, if_neg (Ne.symm hji)] at hj
      exact hj
    have hfwd : ∀ j : Nat, listed[j]? = some true → (listed.setIfInBounds i true)[j]? = some true := fun j hj => by
      have : i ≠ j := by rintro rfl; rw [hl'] at hj; cases hj
      rw [Array.getElem?_setIfInBounds, if_neg this]; exact hj
    have hself : (listed.setIfInBounds i true)[i]? = some true := by
      rw [Array.getElem?_setIfInBounds, if_pos rfl, if_pos (by omega)]
    -- whatever the step does, what follows of it
    have fin : ∀ v w'', Ok (fun j => decide (j = i) || listed.getD j false) (vals (a'.put o.dst v)) w'' → R i (vals (a'.put o.dst v)) w'' → (∀ j, j ≠ i → listed[j]? = some true → R j (vals (a'.put o.dst v)) w'') → (listed.setIfInBounds i true).size = ops.size ∧ ((a'.put o.dst v).tmps.size = a.tmps.size ∧ (a'.put o.dst v).defers = a.defers) ∧ (∀ t, (∀ (k : Nat) ok, ops[k]? = some ok → ok.dst = some t → (listed.setIfInBounds i true)[k]? ≠ some true) → (a'.put o.dst v).tmps.getD t undef = a.tmps.getD t undef) ∧ Ok (fun j => (listed.setIfInBounds i true).getD j false) (vals (a'.put o.dst v)) w'' ∧ (∀ j : Nat, (listed.setIfInBounds i true)[j]? = some true → R j (vals (a'.put o.dst v)) w'') ∧ ∀ (j : Nat) (oj : Oper), ops[j]? = some oj → (listed.setIfInBounds i true)[j]? = some true → ∀ e ∈ oj.after, Region.binds .any e = true → (listed.setIfInBounds i true)[e.on]? = some true := fun v w'' hok' hRi hRj => by
      refine ⟨by simpa using hs, ⟨(put_size o a' v).1.trans hk.1, (put_size o a' v).2.trans hk.2⟩, fun t ht => ?_, ?_, fun j hj => ?_, fun j oj hoj hj e he hb => ?_⟩
      · have hne : o.dst ≠ some t := fun e => ht i o ho e hself
        rw [put_other v hne]
        exact hun t fun k ok hk' hd' hl2 => ht k ok hk' hd' (hfwd k hl2)
      · have e : (fun j => (listed.setIfInBounds i true).getD j false) = fun j => decide (j = i) || listed.getD j false := by
          funext j
          rw [Array.getD_eq_getD_getElem?, Array.getD_eq_getD_getElem?, Array.getElem?_setIfInBounds]
          by_cases hji : i = j
          · subst hji
            rw [if_pos rfl, if_pos (by omega)]
            simp
          · rw [if_neg hji]
            have : decide (j = i) = false := by simpa using Ne.symm hji
            rw [this]; rfl
        rw [e]; exact hok'
      · by_cases hji : j = i
        · subst hji; exact hRi
        · exact hRj j hji (hback j hji hj)
      · by_cases hji : j = i
        · subst hji
          rw [ho] at hoj
          obtain rfl := Option.some.inj hoj
          exact hfwd _ (hdep e he hb)
        · exact hfwd _ (hC j oj hoj (hback j hji hj) e he hb)
    have hslot : ∀ v t, o.dst = some t → vals (a'.put o.dst v) t = v := fun v t ht => by
      refine put_slot v ht ?_
      have h1 := Array.all_eq_true_iff_forall_mem.1 hdst o hmem
      rw [ht] at h1
      rw [hk.1]
      simpa using h1
    have hment2 : ∀ v j, j ≠ i → listed[j]? = some true → ∀ t ∈ ment j, vals (a'.put o.dst v) t = vals a' t := fun v j hji hlj t ht => by
      have hjs : j < ops.size := by
        have := (Array.getElem?_eq_some_iff.1 hlj).1
        omega
      obtain ⟨oj, hoj⟩ : ∃ oj, ops[j]? = some oj := ⟨ops[j], by simp [hjs]⟩
      have h1 := List.all_eq_true.1 (List.all_eq_true.1 hment i (List.mem_range.2 hio)) j (List.mem_range.2 hjs)
      rw [ho, hoj] at h1
      simp only [Bool.or_eq_true, decide_eq_true_eq] at h1
      rcases h1 with h1 | h1 | h1
      · exact absurd h1.symm hji
      · exfalso
        unfold dependsB at h1
        rw [Array.any_eq_true'] at h1
        obtain ⟨e, he, hbb⟩ := h1
        simp only [Bool.and_eq_true, decide_eq_true_eq] at hbb
        have := hC j oj hoj hlj e he hbb.1
        rw [hbb.2, hl'] at this
        cases this
      · cases hd2 : o.dst with
        | none => rfl
        | some d =>
          rw [hd2] at h1
          simp only [Bool.not_eq_true', List.contains_eq_mem, decide_eq_false_iff_not] at h1
          have hne : o.dst ≠ some t := fun e => h1 (by rw [hd2] at e; injection e with e; rw [e]; exact ht)
          have h2 := put_other (a := a') v hne
          rw [hd2] at h2
          exact h2
    unfold wpOp
    rw [ho]
    simp only [hw, if_true]
    refine .inl (hstep i o (fun j => listed.getD j false) a' w' ho (fun k hbk => ?_) (fun t ht => hun t fun k ok hk' hd' hl2 => ?_) hk.2 hok (fun k hdk => ?_) _ ?_ ?_)
    · rw [Array.getD_eq_getD_getElem?]
      cases hq : listed[k]? with
      | none => rfl
      | some b =>
        cases b with
        | false => rfl
        | true =>
          have := behind_listed hC _ i k hbk hq
          rw [hl'] at this; cases this
    · have h1 := List.all_eq_true.1 ht k (List.mem_range.2 (Array.getElem?_eq_some_iff.1 hk').1)
      rw [hk'] at h1
      simp only [hd', decide_true, Bool.not_true, Bool.false_or] at h1
      have := behind_listed hC _ i k h1 hl2
      rw [hl'] at this; cases this
    · unfold dependsB at hdk
      rw [Array.any_eq_true'] at hdk
      obtain ⟨e, he, hb⟩ := hdk
      simp only [Bool.and_eq_true, decide_eq_true_eq] at hb
      rw [← hb.2]
      refine ⟨?_, hR e.on (hdep e he hb.1)⟩
      rw [Array.getD_eq_getD_getElem?, hdep e he hb.1]; rfl
    · intro v w'' hb hok' hRi
      exact fin v w'' (hok' _ (hslot v) (fun t ht => put_other v ht)) (hRi _ (hslot v) (fun t ht => put_other v ht)) (fun j hji hlj => hstab j _ _ _ _ hb (hment2 v j hji hlj) (hR j hlj))
    · intro v w'' hok' hRi hst
      exact fin v w'' (hok' _ (hslot v) (fun t ht => put_other v ht)) (hRi _ (hslot v) (fun t ht => put_other v ht)) (fun j hji hlj => hst j _ hji (hment2 v j hji hlj) (hR j hlj))
  · rintro listed a' w' ⟨hs, hk, hun, hok, hR, -⟩ hr
    exact hend a' w' hk.1 hk.2 (fun t ht => hun t fun k ok hk' hd' _ => ht ok (Array.mem_of_getElem? hk') hd') ⟨_, hok, fun j hj => by
      rw [Array.getD_eq_getD_getElem?, all_listed hu hs hr j hj]; rfl⟩ fun j hj => hR j (all_listed hu hs hr j hj)
  · refine ⟨by simp, ⟨rfl, rfl⟩, fun _ _ => rfl, ?_, fun j hj => ?_, fun j oj _ hj => ?_⟩
    · have e : (fun j => (Array.replicate ops.size false).getD j false) = fun _ => false := by
        funext j
        rw [Array.getD_eq_getD_getElem?, Array.getElem?_replicate]
        split <;> rfl
      rw [e]; exact h0
    · simp [Array.getElem?_replicate] at hj
    · simp [Array.getElem?_replicate] at hj
end Go.Proofs.Ytbgcoeejmnejdaa.Cla
