/- FormulaTells, from what it asks of the program; condition: as there; of at most 1048576 clauses together. Arguments that are formulas, opened; the cores of the four laws of layer 11. Condition of the ..U forms: bulk at most 1048576. -/
import Derived.Test.YtefbknpoehmfaaaPt05
import Derived.Test.YtefbknpoehmfaaaPt33
import Derived.Test.YtefbknpoehmfaaaPt07
import Derived.Test.YtefbknpoehmfaaaPt35
namespace Go.Proofs.Ytefbknpoehmfaaa.For
open Go.ChangeShapes Go.WideShapes Go.ChangeAt Go.RowKit Go.Maps Circ Cw Cla Rep

theorem info_row : (Try.prog.info? 25).map (fun i => (i.zero, i.size, i.bytes)) = some (some (.slice none 0 0), 1, 24) := by kernel_rfl
theorem cells_each (L : List Clz) : ∀ y ∈ L.map Clz.cells, y.length = 1 := fun y hy => by
  obtain ⟨_, _, rfl⟩ := List.mem_map.1 hy; rfl
theorem cells_one (L : List Clz) : ∀ y ∈ L.map Clz.cells, ∀ u ∈ y, u.oneCell' = true := fun y hy u hu => by
  obtain ⟨_, _, rfl⟩ := List.mem_map.1 hy
  rw [Clz.cells, List.mem_singleton] at hu
  subst hu; rfl
set_option maxHeartbeats 16000000 in
set_option maxRecDepth 100000 in
theorem lawT_walk {N : Nat} (P : Prog11 N) (vars : Int) (L : List Clz) (A : Option Addr) (q : Nat) (md : ByteArray) (l : List Int) (B : Option Addr) (r : Nat) (M : List Clz) (C : Option Addr) (t : Nat) (w : World) (hvars : I64 vars) (hA : ALies w w.heap.size A L) (hcap : Caps L) (hmd : md.size ≤ 9223372036854775807) (hl : ILies w w.heap.size B l) (hM : ALies w w.heap.size C M) (hN : L.length + M.length ≤ N) (hN2 : L.length + M.length ≤ 1048576) :
    Calls Try.prog 3 #[forV vars A L.length q, .string md, .slice B l.length r, .slice C M.length t] w fun e w' => e = .returned (.bool true) ∧ Below w.heap.size w w' := by
  obtain ⟨WA, hWA⟩ : ∃ x, w.alloc (.cells #[.int .i64 vars, .slice A L.length q] 24) = x := ⟨_, rfl⟩
  have bA : Hid (Below w.heap.size w WA) := by unfold Hid; rw [← hWA]; exact (Below.refl _ _).alloc (Nat.le_refl _) _
  have GA : Hid (WA.heap[w.heap.size]? = some (.cells #[.int .i64 vars, .slice A L.length q] 24 (0, 0))) := by unfold Hid; rw [← hWA]; exact Array.getElem?_push_size
  have GW : Hid (∀ x, Below WA.heap.size WA x → x.heap[w.heap.size]? = some (.cells #[.int .i64 vars, .slice A L.length q] 24 (0, 0))) := fun x hx => (hx.block _ (lt_of_block GA.out)).trans GA.out
  have AW : Hid (∀ x, Below WA.heap.size WA x → ALies x x.heap.size A L) := fun x hx => by
    have h := bA.out.trans (hx.mono bA.out.size)
    exact (hA.below h).more h.size
  have LW : Hid (∀ x, Below WA.heap.size WA x → ILies x x.heap.size B l) := fun x hx => by
    have h := bA.out.trans (hx.mono bA.out.size)
    exact (hl.below h).more h.size
  have MW : Hid (∀ x, Below WA.heap.size WA x → ALies x x.heap.size C M) := fun x hx => by
    have h := bA.out.trans (hx.mono bA.out.size)
    exact (hM.below h).more h.size
  have HV := Lib.hid hvars
  have HM0 := Lib.hid hM.len
  clear hA hl hM hvars
  have UN := Lib.hid (P.units vars L A q l B r WA HV.out (AW.out _ (Below.refl _ _)) hcap (LW.out _ (Below.refl _ _)))
  have UR := Lib.hid (fun x (hx : Below WA.heap.size WA x) => units_any vars L A q l B r x (AW.out x hx) (LW.out x hx))
  obtain ⟨ul, ub, ue, hU⟩ : ∃ a b c, unitsM vars (L.map Clz.l) l = (a, b, c) := ⟨_, _, _, rfl⟩
  rw [hU] at UN UR
  clear hU
  simp only at UN UR
  unfold forV at UN UR ⊢
  obtain ⟨e0, e1⟩ := cells2 GA.out
  go_enter Try.func3, Try.ntmps3
  go_wp2_with fail
  refine UN.out.mono ?_
  rintro e w1 ⟨⟨A1, q1, rfl, h1⟩, hb1⟩
  have H1 := Lib.hid h1
  have B1 := Lib.hid hb1
  clear h1 hb1 UN e0 e1 hWA
  obtain ⟨e0, e1⟩ := cells2 (GW.out _ B1.out)
  go_wp2_with fail
  refine (UR.out w1 B1.out).mono ?_
  rintro e w2 ⟨⟨A2, q2, rfl, h2⟩, hb2⟩
  have H2 := Lib.hid h2
  have H12 := Lib.hid ((H1.out.below hb2).more hb2.size)
  have B2 : Hid (Below WA.heap.size WA w2) := B1.out.trans (hb2.mono B1.out.size)
  clear h2 hb2 UR e0 e1 H1
  obtain ⟨e0, e1⟩ := cells2 (GW.out _ B2.out)
  have u0 := Wd.cell e0
  have u1 := Wd.cell e1
  have K1 := Lib.hid (fun (u : Wd w2.heap.size w2) => Calls.in_wd u (ints_any ul ul A1 A2 q1 q2 u.w ((H12.out.below u.ok).more u.ok.size) ((H2.out.below u.ok).more u.ok.size)) (Nat.le_refl _))
  rw [decide_eq_true (show ul = ul from rfl)] at K1
  have K2 := Lib.hid (fun (u : Wd w2.heap.size w2) (x : Int) => Calls.in_wd u ((num_any x u.w).mono fun e w' ⟨h1, h2⟩ => ⟨h1, h2 ▸ Below.refl _ _⟩) (Nat.le_refl _))
  have K3 := Lib.hid (fun (u : Wd w2.heap.size w2) => Calls.in_wd u (P.check vars L A q u.w HV.out (AW.out _ (B2.out.trans (u.ok.mono B2.out.size)))) (Nat.le_refl _))
  have K4 := Lib.hid (fun (u : Wd w2.heap.size w2) => Calls.in_wd u (form_any vars L A q u.w (AW.out _ (B2.out.trans (u.ok.mono B2.out.size)))) (Nat.le_refl _))
  have K5 := Lib.hid (fun (u : Wd w2.heap.size w2) => Calls.in_wd u (P.true_ vars L A q md u.w HV.out (AW.out _ (B2.out.trans (u.ok.mono B2.out.size))) hmd) (Nat.le_refl _))
  have K6 := Lib.hid (fun (u : Wd w2.heap.size w2) => Calls.in_wd u (true_any vars L A q md u.w (AW.out _ (B2.out.trans (u.ok.mono B2.out.size))) hmd) (Nat.le_refl _))
  unfold forV at K3 K4 K5 K6
  generalize formM vars (L.map Clz.l) = fm at *
  generalize trueM vars (L.map Clz.l) md = tm at *
  have hub : (ub != ub) = false := by cases ub <;> rfl
  have htm : (tm != tm) = false := by cases tm <;> rfl
  have hue : (ue != ue) = false := by simp
  have hfm : (fm != fm) = false := by simp
  go_wp2
  refine wp_region_wd (by kernel_rfl) (by kernel_rfl) ?_
  repeat (first | go_big_quiet_skip | (go_big_quiet_want; go_big_quiet_op; first | go_big_quiet_on | (apply Exists.intro; refine ⟨fun u => ?_, ?_⟩; (first | (go_at_call 9; with_reducible exact K1.out u) | (go_at_call 10; with_reducible exact K2.out u _) | (go_at_call 11; with_reducible exact K3.out u) | (go_at_call 12; with_reducible exact K4.out u) | (go_at_call 13; with_reducible exact K5.out u) | (go_at_call 14; with_reducible exact K6.out u)); go_big_quiet_on)))
  refine wpQuiet_nil ?_
  intro w3 hw'
  obtain ⟨⟨_, hb3⟩, hw''⟩ := hw'
  subst hw''
  have B3 : Hid (Below WA.heap.size WA w3) := B2.out.trans (hb3.mono B2.out.size)
  clear hb3 K1 K2 K3 K4 K5 K6 u0 u1 e0 e1 hub htm hue hfm
  obtain ⟨e0, e1⟩ := cells2 (GW.out _ B3.out)
  have AD := Lib.hid (P.add vars L A q M C t w3 HV.out (AW.out _ B3.out) (MW.out _ B3.out) hN)
  have HKL : Hid ((L ++ M).map Clz.l = L.map Clz.l ++ M.map Clz.l) := List.map_append ..
  by_cases hf : formM vars (L.map Clz.l ++ M.map Clz.l) = 0
  · have AD1 : Hid (Calls Try.prog 15 #[forV vars A L.length q, .slice C M.length t] w3 fun e w' => (∃ K A' q', e = .returned (.tuple #[forV vars A' K.length q', .int .i64 0]) ∧ ALies w' w'.heap.size A' K ∧ K.map Clz.l = L.map Clz.l ++ M.map Clz.l) ∧ Below w3.heap.size w3 w') := AD.out.mono fun e w' h => ⟨h.1.1 hf, h.2⟩
    unfold forV at AD1
    have HF := Lib.hid hf
    clear AD hf
    go_wp2_with fail
    refine AD1.out.mono ?_
    rintro e w4 ⟨⟨K, A4, q4, rfl, hK, hKM⟩, hb4⟩
    have HKA := Lib.hid hK
    have HKM := Lib.hid hKM
    have B4 : Hid (Below WA.heap.size WA w4) := B3.out.trans (hb4.mono B3.out.size)
    clear hK hKM hb4 AD1 e0 e1
    obtain ⟨W5, hW5⟩ : ∃ y, w4.alloc (.cells #[.int .i64 vars, .slice A4 K.length q4] 24) = y := ⟨_, rfl⟩
    have b5 : Below w4.heap.size w4 W5 := by rw [← hW5]; exact (Below.refl _ _).alloc (Nat.le_refl _) _
    have s5 : W5.heap.size = w4.heap.size + 1 := by rw [← hW5]; simp
    have g5 : W5.heap[w4.heap.size]? = some (.cells #[.int .i64 vars, .slice A4 K.length q4] 24 (0, 0)) := by rw [← hW5]; exact Array.getElem?_push_size
    obtain ⟨WZ, hWZ⟩ : ∃ y, W5.alloc (.cells #[.int .i64 vars, .slice none 0 0] 24) = y := ⟨_, rfl⟩
    have bZ : Below W5.heap.size W5 WZ := by rw [← hWZ]; exact (Below.refl _ _).alloc (Nat.le_refl _) _
    have sZ : WZ.heap.size = w4.heap.size + 2 := by rw [← hWZ]; simp [s5]
    have gZ : WZ.heap[w4.heap.size + 1]? = some (.cells #[.int .i64 vars, .slice none 0 0] 24 (0, 0)) := by rw [← hWZ, ← s5]; exact Array.getElem?_push_size
    obtain ⟨W6, u6, ⟨hW6, pW6, tW6⟩, E6, F6⟩ := step_set WZ _ 1 (.slice none 0 0) gZ (by simp)
    have b6 : Below W5.heap.size W5 W6 := F6.below bZ (by omega)
    have s6 : W6.heap.size = w4.heap.size + 2 := by rw [F6.z]; exact sZ
    have G6 : Hid (W6.heap[w4.heap.size + 1]? = some (.cells #[.int .i64 vars, .slice none 0 0] 24 (0, 0))) := E6
    clear bZ sZ gZ E6 F6
    have G56 : Hid (W6.heap[w4.heap.size]? = some (.cells #[.int .i64 vars, .slice A4 K.length q4] 24 (0, 0))) := (b6.block _ (lt_of_block g5)).trans g5
    have B6 : Hid (Below WA.heap.size WA W6) := (B4.out.trans (b5.mono B4.out.size)).trans (b6.mono (Nat.le_trans B4.out.size b5.size))
    have B5 : Hid (Below WA.heap.size WA W5) := B4.out.trans (b5.mono B4.out.size)
    obtain ⟨d0, d1⟩ := cells2 (GW.out _ B5.out)
    have HK6 : Hid (∀ x, Below (w4.heap.size + 1) W6 x → ALies x x.heap.size A4 K) := fun x hx => by
      have h := (b5.trans (b6.mono b5.size)).trans (hx.mono (Nat.le_succ _))
      exact (HKA.out.below h).more h.size
    have HS6 := Lib.hid s6
    clear s6
    obtain ⟨f0, f1⟩ := cells2 G56.out
    obtain ⟨g0, g1⟩ := cells2 G6.out
    obtain ⟨e0, e1⟩ := cells2 (GW.out _ B6.out)
    have HLR := Lib.hid (AW.out _ B6.out).row
    have HMR := Lib.hid (fun x (hx : Below WA.heap.size WA x) => (MW.out x hx).row)
    clear g5 b5 b6
    go_wp2_with (at_builtin; refine wpList_append_row _ rfl (.tmp 74) (.tmp 76) 22 rfl W6.heap.size _ 25 1 24 (.slice none 0 0) Try.underlying22 info_row rfl (by decide) (.slice none 0 0) [] (L.map Clz.cells) rfl (OwnC.nil _ _ _ _) A L.length q (by simp) rfl HLR.out (cells_each L) (cells_one L) (by rw [List.length_map, List.length_nil]; omega) (by rw [List.length_map, List.length_nil]; omega) (Nat.le_refl _) ?_)
    intro v7 W7 hown7 hbel7 _
    have O7 := Lib.hid hown7
    have B7 : Hid (Below WA.heap.size WA W7) := B6.out.trans (hbel7.mono B6.out.size)
    have B67 := Lib.hid hbel7
    clear hown7 hbel7 hW5 hWZ hW6 pW6 tW6 s5 d0 d1 e0 e1 f0 f1 g0 g1
    have HMR7 := Lib.hid (HMR.out _ B7.out)
    go_wp2_with (at_builtin; refine wpList_append_row _ rfl (.tmp 77) (.tmp 78) 22 rfl W6.heap.size _ 25 1 24 (.slice none 0 0) Try.underlying22 info_row rfl (by decide) v7 _ (M.map Clz.cells) rfl O7.out C M.length t (by simp) rfl HMR7.out (cells_each M) (cells_one M) (by rw [List.length_map, List.length_map]; omega) (by rw [List.length_map, List.length_map]; omega) B67.out.size ?_)
    intro v8 W8 hown8 hbel8 _
    have B68 : Hid (Below W6.heap.size W6 W8) := B67.out.trans hbel8
    obtain ⟨A9, q9, hv9, r9, c9, d9⟩ := hown8.row (by decide) (fun y hy => by
      rcases List.mem_append.1 hy with h | h
      · exact cells_each L y h
      · exact cells_each M y h)
    rw [← List.map_append] at r9
    have hln : (L.map Clz.cells ++ M.map Clz.cells).length = L.length + M.length := by simp
    rw [hln] at hv9
    have HR9 := Lib.hid r9
    have G68 := (B68.out.block _ (lt_of_block G6.out)).trans G6.out
    have G58 : W8.heap[w4.heap.size]? = _ := (B68.out.block _ (lt_of_block G56.out)).trans G56.out
    subst hv9
    obtain ⟨W9, u9, ⟨hW9, pW9, tW9⟩, E9, F9⟩ := step_set W8 _ 1 (.slice A9 (L.length + M.length) q9) G68 (by simp)
    have G9 : Hid (W9.heap[w4.heap.size + 1]? = some (.cells #[.int .i64 vars, .slice A9 (L.length + M.length) q9] 24 (0, 0))) := E9
    have G59 : Hid (W9.heap[w4.heap.size]? = _) := (F9.b _ (by omega)).trans G58
    have B8 : Hid (Below WA.heap.size WA W8) := B6.out.trans (B68.out.mono B6.out.size)
    have hw4 : WA.heap.size ≤ w4.heap.size + 1 := Nat.le_succ_of_le B4.out.size
    have B9 : Hid (Below WA.heap.size WA W9) := F9.below B8.out hw4
    have B69 : Hid (Below (w4.heap.size + 1) W6 W9) := F9.below (B68.out.mono (by have := HS6.out; omega)) (Nat.le_refl _)
    have HL9 : Hid (ALies W9 W9.heap.size A9 (L ++ M)) := by
      refine ⟨?_, fun z hz => ?_, by rw [List.length_append]; omega⟩
      · rcases HR9.out with h | ⟨b, o, e, hb, hc⟩
        · exact .inl h
        · refine .inr ⟨b, o, e, by rw [F9.z]; exact hb, fun i ys hi j u hj => ?_⟩
          have h0 := hc i ys hi j u hj
          have hne : b ≠ w4.heap.size + 1 := by
            have h1 := hown8.block_lt b (by rw [e]; rfl)
            have h2 := HS6.out
            omega
          unfold World.cell? at h0 ⊢
          simp only [F9.b b hne]
          exact h0
      · rcases List.mem_append.1 hz with h | h
        · exact (AW.out _ B9.out).each z h
        · exact (MW.out _ B9.out).each z h
    clear hown8 hbel8 r9 c9 d9 hln G68 G58 E9 F9 hw4 HR9
    obtain ⟨f0, f1⟩ := cells2 G59.out
    obtain ⟨g0, g1⟩ := cells2 G9.out
    obtain ⟨e0, e1⟩ := cells2 (GW.out _ B9.out)
    have FO := Lib.hid (form_any vars (L ++ M) A9 q9 W9 HL9.out)
    rw [HKL.out, HF.out] at FO
    unfold forV at FO
    have HK9 := Lib.hid (HK6.out W9 B69.out)
    rw [List.length_append] at FO
    go_wp2_with fail
    clear hW9 pW9 tW9
    refine FO.out.mono ?_
    rintro e wa ⟨rfl, hba⟩
    have Ba : Hid (Below w.heap.size w wa) := bA.out.trans ((B9.out.trans (hba.mono B9.out.size)).mono bA.out.size)
    have Wa : Hid (Below WA.heap.size WA wa) := B9.out.trans (hba.mono B9.out.size)
    have LI1 := Lib.hid (lists_any K (L ++ M) A4 A9 q4 q9 wa ((HK9.out.below hba).more hba.size) ((HL9.out.below hba).more hba.size))
    rw [decide_eq_true (show K.map Clz.l = (L ++ M).map Clz.l from HKM.out.trans HKL.out.symm)] at LI1
    rw [List.length_append] at LI1
    have G5a := (hba.block _ (lt_of_block G59.out)).trans G59.out
    have G9a := (hba.block _ (lt_of_block G9.out)).trans G9.out
    clear hba FO f0 f1 g0 g1 e0 e1
    obtain ⟨f0, f1⟩ := cells2 G5a
    obtain ⟨g0, g1⟩ := cells2 G9a
    obtain ⟨e0, e1⟩ := cells2 (GW.out _ Wa.out)
    clear G5a G9a
    go_wp2_with (go_at_call 10; refine (num_any _ _).mono ?_; rintro e w' ⟨rfl, rfl⟩)
    refine LI1.out.mono ?_
    rintro e wb ⟨rfl, hbb⟩
    have Bb : Hid (Below w.heap.size w wb) := Ba.out.trans (hbb.mono Ba.out.size)
    clear hbb LI1 e0 e1 f0 f1 g0 g1
    go_wp2_with fail
    refine (alive_any P wb).mono ?_
    rintro e wc ⟨rfl, hbc⟩
    have BF : Hid (Below w.heap.size w wc) := Bb.out.trans (hbc.mono Bb.out.size)
    clear hbc
    go_wp2
    go_ret
    exact ⟨rfl, BF.out⟩
  · have AD1 : Hid (Calls Try.prog 15 #[forV vars A L.length q, .slice C M.length t] w3 fun e w' => (∃ v' A' q', e = .returned (.tuple #[forV v' A' 0 q', .int .i64 9])) ∧ Below w3.heap.size w3 w') := AD.out.mono fun e w' h => ⟨h.1.2 hf, h.2⟩
    unfold forV at AD1
    obtain ⟨fe, hfe⟩ : ∃ y, formM vars (L.map Clz.l ++ M.map Clz.l) = y := ⟨_, rfl⟩
    have HFE := Lib.hid hfe
    have hfb : (fe != 0) = true := bne_iff_ne.2 (by rw [← hfe]; exact hf)
    clear AD hf hfe
    go_wp2_with fail
    refine AD1.out.mono ?_
    rintro e w4 ⟨⟨v4, A4, q4, rfl⟩, hb4⟩
    have B4 : Hid (Below WA.heap.size WA w4) := B3.out.trans (hb4.mono B3.out.size)
    clear hb4 AD1 e0 e1
    obtain ⟨W5, hW5⟩ : ∃ y, w4.alloc (.cells #[.int .i64 v4, .slice A4 0 q4] 24) = y := ⟨_, rfl⟩
    have b5 : Below w4.heap.size w4 W5 := by rw [← hW5]; exact (Below.refl _ _).alloc (Nat.le_refl _) _
    have s5 : W5.heap.size = w4.heap.size + 1 := by rw [← hW5]; simp
    have g5 : W5.heap[w4.heap.size]? = some (.cells #[.int .i64 v4, .slice A4 0 q4] 24 (0, 0)) := by rw [← hW5]; exact Array.getElem?_push_size
    obtain ⟨WZ, hWZ⟩ : ∃ y, W5.alloc (.cells #[.int .i64 vars, .slice none 0 0] 24) = y := ⟨_, rfl⟩
    have bZ : Below W5.heap.size W5 WZ := by rw [← hWZ]; exact (Below.refl _ _).alloc (Nat.le_refl _) _
    have sZ : WZ.heap.size = w4.heap.size + 2 := by rw [← hWZ]; simp [s5]
    have gZ : WZ.heap[w4.heap.size + 1]? = some (.cells #[.int .i64 vars, .slice none 0 0] 24 (0, 0)) := by rw [← hWZ, ← s5]; exact Array.getElem?_push_size
    obtain ⟨W6, u6, ⟨hW6, pW6, tW6⟩, E6, F6⟩ := step_set WZ _ 1 (.slice none 0 0) gZ (by simp)
    have b6 : Below W5.heap.size W5 W6 := F6.below bZ (by omega)
    have s6 : W6.heap.size = w4.heap.size + 2 := by rw [F6.z]; exact sZ
    have G6 : Hid (W6.heap[w4.heap.size + 1]? = some (.cells #[.int .i64 vars, .slice none 0 0] 24 (0, 0))) := E6
    clear bZ sZ gZ E6 F6
    have G56 : Hid (W6.heap[w4.heap.size]? = some (.cells #[.int .i64 v4, .slice A4 0 q4] 24 (0, 0))) := (b6.block _ (lt_of_block g5)).trans g5
    have B6 : Hid (Below WA.heap.size WA W6) := (B4.out.trans (b5.mono B4.out.size)).trans (b6.mono (Nat.le_trans B4.out.size b5.size))
    have B5 : Hid (Below WA.heap.size WA W5) := B4.out.trans (b5.mono B4.out.size)
    obtain ⟨d0, d1⟩ := cells2 (GW.out _ B5.out)
    have HS6 := Lib.hid s6
    clear s6
    obtain ⟨f0, f1⟩ := cells2 G56.out
    obtain ⟨g0, g1⟩ := cells2 G6.out
    obtain ⟨e0, e1⟩ := cells2 (GW.out _ B6.out)
    have HLR := Lib.hid (AW.out _ B6.out).row
    have HMR := Lib.hid (fun x (hx : Below WA.heap.size WA x) => (MW.out x hx).row)
    clear g5 b5 b6
    go_wp2_with (at_builtin; refine wpList_append_row _ rfl (.tmp 74) (.tmp 76) 22 rfl W6.heap.size _ 25 1 24 (.slice none 0 0) Try.underlying22 info_row rfl (by decide) (.slice none 0 0) [] (L.map Clz.cells) rfl (OwnC.nil _ _ _ _) A L.length q (by simp) rfl HLR.out (cells_each L) (cells_one L) (by rw [List.length_map, List.length_nil]; omega) (by rw [List.length_map, List.length_nil]; omega) (Nat.le_refl _) ?_)
    intro v7 W7 hown7 hbel7 _
    have O7 := Lib.hid hown7
    have B7 : Hid (Below WA.heap.size WA W7) := B6.out.trans (hbel7.mono B6.out.size)
    have B67 := Lib.hid hbel7
    clear hown7 hbel7 hW5 hWZ hW6 pW6 tW6 s5 d0 d1 e0 e1 f0 f1 g0 g1
    have HMR7 := Lib.hid (HMR.out _ B7.out)
    go_wp2_with (at_builtin; refine wpList_append_row _ rfl (.tmp 77) (.tmp 78) 22 rfl W6.heap.size _ 25 1 24 (.slice none 0 0) Try.underlying22 info_row rfl (by decide) v7 _ (M.map Clz.cells) rfl O7.out C M.length t (by simp) rfl HMR7.out (cells_each M) (cells_one M) (by rw [List.length_map, List.length_map]; omega) (by rw [List.length_map, List.length_map]; omega) B67.out.size ?_)
    intro v8 W8 hown8 hbel8 _
    have B68 : Hid (Below W6.heap.size W6 W8) := B67.out.trans hbel8
    obtain ⟨A9, q9, hv9, r9, c9, d9⟩ := hown8.row (by decide) (fun y hy => by
      rcases List.mem_append.1 hy with h | h
      · exact cells_each L y h
      · exact cells_each M y h)
    rw [← List.map_append] at r9
    have hln : (L.map Clz.cells ++ M.map Clz.cells).length = L.length + M.length := by simp
    rw [hln] at hv9
    have HR9 := Lib.hid r9
    have G68 := (B68.out.block _ (lt_of_block G6.out)).trans G6.out
    have G58 : W8.heap[w4.heap.size]? = _ := (B68.out.block _ (lt_of_block G56.out)).trans G56.out
    subst hv9
    obtain ⟨W9, u9, ⟨hW9, pW9, tW9⟩, E9, F9⟩ := step_set W8 _ 1 (.slice A9 (L.length + M.length) q9) G68 (by simp)
    have G9 : Hid (W9.heap[w4.heap.size + 1]? = some (.cells #[.int .i64 vars, .slice A9 (L.length + M.length) q9] 24 (0, 0))) := E9
    have G59 : Hid (W9.heap[w4.heap.size]? = _) := (F9.b _ (by omega)).trans G58
    have B8 : Hid (Below WA.heap.size WA W8) := B6.out.trans (B68.out.mono B6.out.size)
    have hw4 : WA.heap.size ≤ w4.heap.size + 1 := Nat.le_succ_of_le B4.out.size
    have B9 : Hid (Below WA.heap.size WA W9) := F9.below B8.out hw4
    have B69 : Hid (Below (w4.heap.size + 1) W6 W9) := F9.below (B68.out.mono (by have := HS6.out; omega)) (Nat.le_refl _)
    have HL9 : Hid (ALies W9 W9.heap.size A9 (L ++ M)) := by
      refine ⟨?_, fun z hz => ?_, by rw [List.length_append]; omega⟩
      · rcases HR9.out with h | ⟨b, o, e, hb, hc⟩
        · exact .inl h
        · refine .inr ⟨b, o, e, by rw [F9.z]; exact hb, fun i ys hi j u hj => ?_⟩
          have h0 := hc i ys hi j u hj
          have hne : b ≠ w4.heap.size + 1 := by
            have h1 := hown8.block_lt b (by rw [e]; rfl)
            have h2 := HS6.out
            omega
          unfold World.cell? at h0 ⊢
          simp only [F9.b b hne]
          exact h0
      · rcases List.mem_append.1 hz with h | h
        · exact (AW.out _ B9.out).each z h
        · exact (MW.out _ B9.out).each z h
    clear hown8 hbel8 r9 c9 d9 hln G68 G58 E9 F9 hw4 HR9
    obtain ⟨f0, f1⟩ := cells2 G59.out
    obtain ⟨g0, g1⟩ := cells2 G9.out
    obtain ⟨e0, e1⟩ := cells2 (GW.out _ B9.out)
    have FO := Lib.hid (form_any vars (L ++ M) A9 q9 W9 HL9.out)
    rw [HKL.out, HFE.out] at FO
    unfold forV at FO
    rw [List.length_append] at FO
    go_wp2_with fail
    clear hW9 pW9 tW9
    refine FO.out.mono ?_
    rintro e wa ⟨rfl, hba⟩
    have Ba : Hid (Below w.heap.size w wa) := bA.out.trans ((B9.out.trans (hba.mono B9.out.size)).mono bA.out.size)
    have G5a := (hba.block _ (lt_of_block G59.out)).trans G59.out
    clear hba FO f0 f1 g0 g1 e0 e1
    obtain ⟨f0, f1⟩ := cells2 G5a
    clear G5a
    go_wp2_with (go_at_call 10; refine (num_any _ _).mono ?_; rintro e w' ⟨rfl, rfl⟩)
    refine (alive_any P wa).mono ?_
    rintro e wc ⟨rfl, hbc⟩
    have BF : Hid (Below w.heap.size w wc) := Ba.out.trans (hbc.mono Ba.out.size)
    clear hbc f0 f1
    go_wp2
    go_ret
    exact ⟨rfl, BF.out⟩
end Go.Proofs.Ytefbknpoehmfaaa.For
namespace Go.Proofs.Ytefbknpoehmfaaa.For
open Go.ChangeShapes Go.WideShapes Go.ChangeAt Go.RowKit Go.Maps Go.Deep Circ Cw Cla Rep

section
variable {H : Type} {enc : TypeId × Value → H} {w : World}
set_option maxRecDepth 100000 in
/-- an argument that is a list of clauses; what its reading is -/
theorem open_clausesB {r : Reach} {b0 : Nat} {v : Value} {d : DataW H} {p : List MemPlace} (hv : Value.okWide Try.prog w r b0 22 v) (h : DataW.Trod enc Try.prog w 0 (fun _ => true) true 22 v d p)
    (hw : ∀ n ∈ DataW.weights Try.prog 22 d, n ≤ reachBytes) : ∃ (A : Option Addr) (L : List Clz) (q : Nat), v = .slice A L.length q ∧ ALies w w.heap.size A L ∧ L.length * 24 ≤ 140737488355328 ∧ (L = [] ∨ ∃ es sp : List (DataW H), d = .slice es sp ∧ es.length = L.length) := by
  obtain ⟨fuel, ht⟩ := h
  obtain ⟨A1, L, q1, e1, r1, f1, k1, z1⟩ := open_rowsW 1 (by decide) Clz.cells (fun z => z.Lies w w.heap.size) (fun _ => rfl) Try.underlying22 (by kernel_rfl) (fun n cs' y h hk => el_ints h hk) ht hw
  have hv1 : v = .slice A1 L.length q1 := by
    obtain ⟨a0, len, cap, rfl⟩ := okWide_slice Try.underlying22 hv
    simpa [Value.cells] using e1
  have hbl : L.length * 24 ≤ 140737488355328 := row_bytes (l := L) 24 (by kernel_rfl) Try.underlying22 z1 hw
  have hlen : L.length ≤ 9223372036854775807 := by omega
  exact ⟨A1, L, q1, hv1, ⟨r1, f1, hlen⟩, hbl, z1⟩
theorem two_of {α : Type} (l : List α) (h : l.length = 2) : ∃ a b, l = [a, b] := by
  match l, h with
  | [a, b], _ => exact ⟨a, b, rfl⟩
set_option maxRecDepth 100000 in
/-- an argument that is a formula -/
theorem open_form {r : Reach} {b0 : Nat} {v : Value} {d : DataW H} {p : List MemPlace} (hv : Value.okWide Try.prog w r b0 24 v) (h : DataW.Trod enc Try.prog w 0 (fun _ => true) true 24 v d p)
    (hw : ∀ n ∈ DataW.weights Try.prog 24 d, n ≤ reachBytes) : ∃ (vars : Int) (L : List Clz) (A : Option Addr) (q : Nat), v = forV vars A L.length q ∧ I64 vars ∧ (ALies w w.heap.size A L ∧ Caps L) ∧ L.length * 24 ≤ 140737488355328 ∧ (L = [] ∨ ∃ (y : DataW H) (es sp : List (DataW H)), d = .agg [y, .slice es sp] ∧ es.length = L.length) := by
  obtain ⟨cs, rfl, hsz⟩ := okWide_struct Try.underlying24 hv
  have c3w : Try.prog.cellsOf 24 = 2 := by kernel_rfl
  rw [c3w] at hsz
  obtain ⟨l⟩ := cs
  obtain ⟨u0, u1, rfl⟩ := two_of l hsz
  obtain ⟨fuel, hf⟩ := h
  obtain ⟨xs, n, _, hx, _, hlen, hg⟩ := DataW.trod_struct Try.underlying24 hf
  obtain ⟨y0, y1, rfl⟩ := two_of xs hlen
  have cS : Try.prog.cellsOf 22 = 1 := by kernel_rfl
  have g0 := hg 0 _ rfl
  have g1 := hg 1 _ rfl
  simp [Value.cells, c3, cS] at g0 g1
  have hd : d = .agg [y0.1, y1.1] := by
    simp only [Prod.mk.injEq] at hx
    simpa using hx.1
  subst hd
  have hm : ∀ (j : Nat) (t : TypeId) (x : DataW H), ([3, 22] : List TypeId)[j]? = some t → ([y0.1, y1.1] : List (DataW H))[j]? = some x → ∀ n ∈ DataW.weights Try.prog t x, n ≤ reachBytes := fun j t x ht hx n hn => by
    refine hw n ?_
    simp only [DataW.weights, Try.underlying24]
    exact DataW.weights_mem_each (ts := [3, 22]) ht hx n hn
  obtain ⟨x0, e0, f0⟩ := el_int g0
  obtain ⟨A1, L, q1, e1, r1, f1, k1, z1⟩ := open_rowsW 1 (by decide) Clz.cells (fun z => z.Lies w w.heap.size ∧ z.l.length ≤ z.q) (fun _ => rfl) Try.underlying22 (by kernel_rfl) (fun n cs' y h hk => el_intsC h hk) g1 (hm 1 22 _ rfl rfl)
  have hbl : L.length * 24 ≤ 140737488355328 := row_bytes (l := L) 24 (by kernel_rfl) Try.underlying22 z1 (hm 1 22 _ rfl rfl)
  have hlen : L.length ≤ 9223372036854775807 := by omega
  simp at e0 e1
  subst e0; subst e1
  refine ⟨x0, L, A1, q1, rfl, f0, ⟨⟨r1, fun z hz => (f1 z hz).1, hlen⟩, fun z hz => (f1 z hz).2⟩, hbl, ?_⟩
  rcases z1 with h | ⟨es, sp, he, hl⟩
  · exact .inl h
  · exact .inr ⟨y0.1, es, sp, by rw [he], hl⟩
theorem rows_bulk {L : List Clz} {d : DataW H} (h : L = [] ∨ ∃ es sp : List (DataW H), d = .slice es sp ∧ es.length = L.length) : L.length ≤ Rows.uptoBulk d := by
  rcases h with rfl | ⟨es, sp, rfl, e⟩
  · exact Nat.zero_le _
  · have := bulk_len es
    simp only [Rows.uptoBulk]
    omega
theorem form_bulk {L : List Clz} {d : DataW H} (h : L = [] ∨ ∃ (y : DataW H) (es sp : List (DataW H)), d = .agg [y, .slice es sp] ∧ es.length = L.length) : L.length ≤ Rows.uptoBulk d := by
  rcases h with rfl | ⟨y, es, sp, rfl, e⟩
  · exact Nat.zero_le _
  · have := bulk_len es
    simp only [Rows.uptoBulk, Rows.uptoBulkAll]
    omega
end
set_option maxRecDepth 100000 in
theorem tells_coreU (P : Prog11 1048576) {H : Type} {enc : TypeId × Value → H} (W : World)
    (v0 : Value) (d0 : DataW H) (p0 : List MemPlace) {r0 : Reach} {b0 : Nat} (hv0 : Value.okWide Try.prog W r0 b0 24 v0) (h0 : DataW.Trod enc Try.prog W 0 (fun _ => true) true 24 v0 d0 p0)
    (s1 : ByteArray) (hs1 : s1.size ≤ maxLen)
    (v2 : Value) (d2 : DataW H) (p2 : List MemPlace) {r2 : Reach} {b2 : Nat} (hv2 : Value.okWide Try.prog W r2 b2 25 v2) (h2 : DataW.Trod enc Try.prog W 0 (fun _ => true) true 25 v2 d2 p2)
    (v3 : Value) (d3 : DataW H) (p3 : List MemPlace) {r3 : Reach} {b3 : Nat} (hv3 : Value.okWide Try.prog W r3 b3 22 v3) (h3 : DataW.Trod enc Try.prog W 0 (fun _ => true) true 22 v3 d3 p3)
    {d1 : DataW H}
    (hbulk : Rows.uptoBulkAll [d0, d1, d2, d3] ≤ 1048576)
    {ts : List TypeId} {ds : List (DataW H)} (hsz : (DataW.weightsEach Try.prog (24 :: 9 :: 25 :: 22 :: ts) (d0 :: d1 :: d2 :: d3 :: ds)).all (· ≤ reachBytes) = true) :
    Calls Try.prog 3 #[v0, .string s1, v2, v3] W fun e W' => e = .returned (.bool true) ∧ Below W.heap.size W W' := by
  obtain ⟨x0, L0, A0, q0, rfl, f0, ⟨a0, cp0⟩, z0, y0⟩ := open_form hv0 h0 (of_weights hsz 0 rfl rfl)
  have u0 := form_bulk y0
  unfold maxLen at hs1
  obtain ⟨A2, l2, q2, rfl, a2, z2, y2⟩ := open_ints hv2 h2 (of_weights hsz 2 rfl rfl)
  obtain ⟨A3, L3, q3, rfl, a3, z3, y3⟩ := open_clausesB hv3 h3 (of_weights hsz 3 rfl rfl)
  have u3 := rows_bulk y3
  simp only [Rows.uptoBulkAll] at hbulk
  exact lawT_walk P x0 L0 A0 q0 s1 l2 A2 q2 L3 A3 q3 W f0 a0 cp0 hs1 a2 a3 (by omega) (by omega)
set_option maxRecDepth 100000 in
theorem units_core {N : Nat} (P : Prog11 N) {H : Type} {enc : TypeId × Value → H} (W : World)
    (v0 : Value) (d0 : DataW H) (p0 : List MemPlace) {r0 : Reach} {b0 : Nat} (hv0 : Value.okWide Try.prog W r0 b0 24 v0) (h0 : DataW.Trod enc Try.prog W 0 (fun _ => true) true 24 v0 d0 p0)
    (v1 : Value) (d1 : DataW H) (p1 : List MemPlace) {r1 : Reach} {b1 : Nat} (hv1 : Value.okWide Try.prog W r1 b1 25 v1) (h1 : DataW.Trod enc Try.prog W 0 (fun _ => true) true 25 v1 d1 p1)
    {ts : List TypeId} {ds : List (DataW H)} (hsz : (DataW.weightsEach Try.prog (24 :: 25 :: ts) (d0 :: d1 :: ds)).all (· ≤ reachBytes) = true) :
    Calls Try.prog 5 #[v0, v1] W fun e W' => e = .returned (.bool true) ∧ Below W.heap.size W W' := by
  obtain ⟨x0, L0, A0, q0, rfl, f0, ⟨a0, cp0⟩, z0, y0⟩ := open_form hv0 h0 (of_weights hsz 0 rfl rfl)
  obtain ⟨A1, l1, q1, rfl, a1, z1, y1⟩ := open_ints hv1 h1 (of_weights hsz 1 rfl rfl)
  exact lawU_walk P x0 L0 A0 q0 l1 A1 q1 W f0 a0 cp0 a1
set_option maxRecDepth 100000 in
theorem more_core (P : Prog11 11728124029610) {H : Type} {enc : TypeId × Value → H} (W : World)
    (v0 : Value) (d0 : DataW H) (p0 : List MemPlace) {r0 : Reach} {b0 : Nat} (hv0 : Value.okWide Try.prog W r0 b0 24 v0) (h0 : DataW.Trod enc Try.prog W 0 (fun _ => true) true 24 v0 d0 p0)
    (v1 : Value) (d1 : DataW H) (p1 : List MemPlace) {r1 : Reach} {b1 : Nat} (hv1 : Value.okWide Try.prog W r1 b1 22 v1) (h1 : DataW.Trod enc Try.prog W 0 (fun _ => true) true 22 v1 d1 p1)
    (s2 : ByteArray) (hs2 : s2.size ≤ maxLen)
    {d2 : DataW H}
    {ts : List TypeId} {ds : List (DataW H)} (hsz : (DataW.weightsEach Try.prog (24 :: 22 :: 9 :: ts) (d0 :: d1 :: d2 :: ds)).all (· ≤ reachBytes) = true) :
    Calls Try.prog 6 #[v0, v1, .string s2] W fun e W' => e = .returned (.bool true) ∧ Below W.heap.size W W' := by
  obtain ⟨x0, L0, A0, q0, rfl, f0, ⟨a0, cp0⟩, z0, y0⟩ := open_form hv0 h0 (of_weights hsz 0 rfl rfl)
  obtain ⟨A1, L1, q1, rfl, a1, z1, y1⟩ := open_clausesB hv1 h1 (of_weights hsz 1 rfl rfl)
  unfold maxLen at hs2
  exact lawM_walk P x0 L0 A0 q0 L1 A1 q1 s2 W f0 a0 a1 hs2 (by omega)
end Go.Proofs.Ytefbknpoehmfaaa.For
