/- The walks of aag's reading of lines of numbers; no condition. -/
import Derived.Test.YtckdlbfndmmjjaaGreatDoorAagSrc
import Derived.Test.YtckdlbfndmmjjaaGreatDoorPush
namespace Go.Proofs.YtckdlbfndmmjjaaGreatDoor.Aag
open Go.ChangeShapes Go.WideShapes Go.ChangeAt Go.RowKit Dig Circ Cw

theorem infoInt : (Tryz.prog.info? 3).map (fun i => (i.zero, i.size, i.bytes)) = some (some (.int .i64 0), 1, 8) := by kernel_rfl
/-- how a reading ends whose line may be of another form -/
def Ends (R a : Nat) (w : World) (ok : Bool) (P : Ending → World → Prop) (e : Ending) (w' : World) : Prop := (ok = true ∧ P e w') ∨ (ok = false ∧ e = .panicked (faultOf a eSyntax) ∧ Ext R w w')
def NumsP (R : Nat) (A : Option Addr) (L : List (List UInt8)) (q wh a : Nat) (w : World) (ns : List Int) (e : Ending) (w' : World) : Prop :=
  ∃ A' q', e = .returned (.slice A' ns.length q') ∧ OwnC w' w.heap.size 3 1 (.slice A' ns.length q') (ints ns) ∧ Src R A L q wh (a + 1) w' ∧ Ext R w w'
theorem lrow_ext {R : Nat} {w w' : World} {m : Nat} {base : Nat} {e : TypeId} {A : Option Addr} {n q : Nat} {xs : List (List Value)} (h : OwnC w base e m (.slice A n q) xs) (hm : 0 < m) (hx : ∀ y ∈ xs, y.length = m) (hb : Ext R w w') (hR : R < base) : LRow w' w'.heap.size m A xs := by
  have h2 : OwnC w' base e m (.slice A n q) xs := h.keep_at fun g hg hv => hb.block g (h.block_lt g hv).2 (by omega)
  obtain ⟨A', q', hv, hr, _, _⟩ := h2.row hm hx
  injection hv with h1 _ _
  subst h1
  exact hr
theorem ints_len1 (l : List Int) : ∀ y ∈ ints l, y.length = 1 := fun y hy => by obtain ⟨x, _, rfl⟩ := List.mem_map.1 hy; rfl
theorem ints_length1 (l : List Int) : (ints l).length = l.length := by simp [ints]
theorem ints_snoc (l : List Int) (x : Int) : ints l ++ [[.int .i64 x]] = ints (l ++ [x]) := by simp [ints]

set_option maxHeartbeats 2000000 in
set_option maxRecDepth 100000 in
theorem numbers_any {R : Nat} {A : Option Addr} {L : List (List UInt8)} {q wh a : Nat} (k : Nat) (w : World) (h : Src R A L q wh a w) (ha : a < wh) (hw : wordsOk [k] (L.getD a []) = true) :
    Calls Tryz.prog 63 #[.pointer (some ⟨R, 0, none⟩), .int .i64 k] w (Ends R a w ((wordsL (L.getD a [])).all numOk) (NumsP R A L q wh a w ((wordsL (L.getD a [])).map numV))) := by
  have hal : Below w.heap.size w (w.alloc (.cells #[.int .i64 k] 3)) := (Below.refl _ _).alloc (Nat.le_refl _) _
  have hs0 : (w.alloc (.cells #[.int .i64 k] 3)).heap.size = w.heap.size + 1 := by simp
  have WO := Lib.hid (words_ok [k] (some ⟨w.heap.size, 0, none⟩) 1 (w.heap.size + 1) _ (h.below hal) ha (one_row w k 3) (by rw [hs0]; omega) (by simp) hw)
  have H := Lib.hid h
  have hfit := getD_fit h.fit a
  obtain ⟨hwn, hwl⟩ := words_len (L.getD a [])
  have HAL := Lib.hid hal
  have HRW : Hid (R < w.heap.size) := h.lt
  clear h hal hs0 hw
  generalize wordsL (L.getD a []) = ws at *
  go_enter Tryz.func63, Tryz.ntmps63
  go_wp2_with fail
  refine WO.out.mono ?_
  rintro e w1 ⟨A1, q1, rfl, hr, hb⟩
  have B1 : Hid (Below w.heap.size w w1) := HAL.out.trans (hb.mono HAL.out.size)
  have RD := Lib.hid hr
  clear hr hb WO
  go_wp2
  go_loopw [13, 5] (fun i v wr => ∃ (j : Nat) (vv : Value), j ≤ ws.length ∧ i = .int .i64 j ∧ vv = v ∧ (ws.take j).all numOk = true ∧ OwnC wr w1.heap.size 3 1 vv (ints ((ws.take j).map numV)) ∧ Below w1.heap.size w1 wr) (fun i _ _ => ws.length - (intOf i).toNat)
  case atStart => exact ⟨0, _, Nat.zero_le _, rfl, rfl, rfl, OwnC.nil _ _ _ _, Below.refl _ _⟩
  case round =>
    obtain ⟨j, v, hj, rfl, rfl, hall, how, hbr⟩ := hrel
    have HN := Lib.hid hall
    have HO := Lib.hid how
    have HB := Lib.hid hbr
    have BW : Hid (Below w.heap.size w wr) := B1.out.trans (HB.out.mono B1.out.size)
    clear hall how hbr
    by_cases hlt : j < ws.length
    · obtain ⟨g, off, hA1, hc⟩ := reads_cellD (RD.out.below HB.out) j hlt
      subst hA1
      have hel := elem_le ws j hlt
      have hgd : ws.getD j [] = ws[j] := by rw [List.getD_eq_getElem?_getD, List.getElem?_eq_getElem hlt]; rfl
      have HT := Lib.hid (show ws.take (j + 1) = ws.take j ++ [ws.getD j []] by rw [hgd, List.take_succ_eq_append_getElem hlt])
      have HF : Hid (numOk (ws.getD j []) = false → ws.all numOk = false) := fun h => by
        rw [List.all_eq_false]; exact ⟨ws.getD j [], by rw [hgd]; exact List.getElem_mem _, by rw [h]; simp⟩
      have hel2 : (ws.getD j []).length ≤ 4194304 := by rw [hgd]; omega
      clear hel hgd
      generalize ws.getD j [] = y at *
      cases hy : numOk y
      · have NF := Lib.hid (number_fault y wr (H.out.below BW.out) hel2 hy)
        have HF2 := Lib.hid (HF.out hy)
        unfold sv at hc NF
        clear HF hy
        go_wp2_with fail
        refine NF.out.mono ?_
        rintro e w2 ⟨rfl, hb2⟩
        exact ⟨rfl, .inr ⟨HF2.out, rfl, Ext.of (BW.out.trans (hb2.mono BW.out.size))⟩⟩
      · have NO := Lib.hid (number_ok (R := R) y wr hel2 hy)
        have HY := Lib.hid hy
        unfold sv at hc NO
        clear HF hy
        have HE : Hid (numV y = numV y) := rfl
        go_wp2_with fail
        refine NO.out.mono ?_
        rintro e w2 ⟨rfl, hb2⟩
        have hal2 : Below w2.heap.size w2 (w2.alloc (.cells #[.int .i64 (numV y)] 3)) := (Below.refl _ _).alloc (Nat.le_refl _) _
        have O3 := Lib.hid ((HO.out.keep hb2).keep hal2)
        have B2 := Lib.hid hb2
        have A2 := Lib.hid hal2
        have HC : Hid (∀ (j : Nat) u, [Value.int .i64 (numV y)][j]? = some u → (w2.alloc (.cells #[.int .i64 (numV y)] 3)).cell? ⟨w2.heap.size, j, none⟩ = some u) := fun j u hu => by
          rw [new_cell]; simpa using hu
        have HONE : Hid (∀ u ∈ [Value.int .i64 (numV y)], u.oneCell' = true) := fun u hu => by
          simp only [List.mem_singleton] at hu
          subst hu; rfl
        have HL : Hid ((ints ((ws.take j).map numV)).length ≤ 65537) := by unfold Hid; simp [ints]; omega
        have HS : Hid (w1.heap.size ≤ (w2.alloc (.cells #[.int .i64 (numV y)] 3)).heap.size) := Nat.le_trans HB.out.size (Nat.le_trans hb2.size hal2.size)
        clear hb2 hal2 NO
        obtain ⟨n, hn⟩ : ∃ n, n = numV y := ⟨_, rfl⟩
        have HN2 := Lib.hid hn.symm
        rw [← hn] at O3 A2 HC HONE HS ⊢
        clear hn
        go_wp2_with (at_builtin; refine wpList_push _ rfl (.tmp 17) (.tmp 21) 22 rfl 3 1 8 (.int .i64 0) Tryz.underlying22 infoInt rfl (by decide) w1.heap.size v _ O3.out rfl w2.heap.size 1 rfl [.int .i64 n] HC.out rfl HONE.out (by have := HL.out; omega) (by have := HL.out; omega) HS.out ?_)
        intro v2 w3 hown hbel _
        have HO4 := Lib.hid hown
        have HB4 : Hid (Below w1.heap.size w1 w3) := HB.out.trans ((B2.out.mono HB.out.size).trans ((A2.out.mono (Nat.le_trans HB.out.size B2.out.size)).trans hbel))
        clear hown hbel
        go_wp2
        go_roundw
        case rel => exact ⟨j + 1, _, by omega, by go_num, rfl, by rw [HT.out, List.all_append, HN.out]; simp [HY.out], by rw [HT.out, List.map_append, List.map_cons, List.map_nil, HN2.out, ← ints_snoc]; have h4 := HO4.out; rw [← List.map_take] at h4; exact h4, HB4.out⟩
        case measure => simp [intOf]; omega
    · obtain rfl : j = ws.length := by omega
      rw [List.take_length] at HN HO
      obtain ⟨A', q', hv, -, -, -⟩ := HO.out.row (by decide) (ints_len1 _)
      subst hv
      have TK := Lib.hid (take_any wr (H.out.below BW.out) ha)
      rw [ints_length1] at HO
      rw [show (ints (ws.map numV)).length = (ws.map numV).length from ints_length1 _]
      go_wp2_with fail
      refine TK.out.mono ?_
      rintro e w4 ⟨rfl, hS, hE⟩
      have HSS := Lib.hid hS
      have HEE := Lib.hid hE
      clear hS hE
      go_wp2
      go_ret
      refine .inl ⟨HN.out, A', q', by rw [List.length_map]; rfl, ?_, HSS.out, (Ext.of BW.out).trans HEE.out⟩
      have h2 : OwnC w4 w1.heap.size 3 1 _ _ := HO.out.keep_at fun g hg hv => HEE.out.block g (HO.out.block_lt g hv).2 (by have := HRW.out; have := B1.out.size; omega)
      obtain ⟨h3, h4⟩ := h2
      refine ⟨by simpa [ints] using h3, ?_⟩
      rcases h4 with h4 | ⟨g, cap, cur, hv, hg, r⟩
      · exact .inl (by simpa [ints] using h4)
      · exact .inr ⟨g, cap, cur, by simpa [ints] using hv, Nat.le_trans B1.out.size hg, by simpa [ints] using r⟩

/-- how a reading runs: its fault, or what it gives -/
def Runs {α : Type} (R : Nat) (w : World) (x : Got α) (P : α → Ending → World → Prop) (e : Ending) (w' : World) : Prop := match x with
  | .error b => e = .panicked (faultOf b.1 b.2) ∧ Ext R w w'
  | .ok y => P y e w'
theorem runs_error {α : Type} {R : Nat} {w w' : World} {x : Got α} {P : α → Ending → World → Prop} {e : Ending} {b : Nat} {t : Int} (hx : x = .error (b, t)) (h : e = .panicked (faultOf b t) ∧ Ext R w w') : Runs R w x P e w' := by subst hx; exact h
theorem runs_ok {α : Type} {R : Nat} {w w' : World} {x : Got α} {P : α → Ending → World → Prop} {e : Ending} {y : α} (hx : x = .ok y) (h : P y e w') : Runs R w x P e w' := by subst hx; exact h
theorem readAt_short {α : Type} {L : List (List UInt8)} {wh a : Nat} {form : List UInt8 → Option α} (h : wh ≤ a) : readAt L wh form a = .error (a, eShort) := by unfold readAt; rw [if_pos h]
theorem readAt_none {α : Type} {L : List (List UInt8)} {wh a : Nat} {form : List UInt8 → Option α} (h : a < wh) (hf : form (L.getD a []) = none) : readAt L wh form a = .error (a, eSyntax) := by unfold readAt; rw [if_neg (by omega), hf]
theorem readAt_some {α : Type} {L : List (List UInt8)} {wh a : Nat} {form : List UInt8 → Option α} {x : α} (h : a < wh) (hf : form (L.getD a []) = some x) : readAt L wh form a = .ok x := by unfold readAt; rw [if_neg (by omega), hf]
set_option maxRecDepth 100000 in
theorem numbers_stop (R k : Nat) (p : List PanicEntry) (w : World)
    (hW : Calls Tryz.prog 59 #[.pointer (some ⟨R, 0, none⟩), .slice (some ⟨w.heap.size, 0, none⟩) 1 1] (w.alloc (.cells #[.int .i64 k] 3)) fun e w' => e = .panicked p ∧ Below (w.alloc (.cells #[.int .i64 k] 3)).heap.size (w.alloc (.cells #[.int .i64 k] 3)) w') :
    Calls Tryz.prog 63 #[.pointer (some ⟨R, 0, none⟩), .int .i64 k] w fun e w' => e = .panicked p ∧ Below w.heap.size w w' := by
  have hal : Below w.heap.size w (w.alloc (.cells #[.int .i64 k] 3)) := (Below.refl _ _).alloc (Nat.le_refl _) _
  have HAL := Lib.hid hal
  have HW := Lib.hid hW
  clear hal hW
  go_enter Tryz.func63, Tryz.ntmps63
  go_wp2_with fail
  refine HW.out.mono ?_
  rintro e w1 ⟨rfl, hb⟩
  exact ⟨rfl, rfl, HAL.out.trans (hb.mono HAL.out.size)⟩
theorem numbers_run {R : Nat} {A : Option Addr} {L : List (List UInt8)} {q wh a : Nat} (k : Nat) (w : World) (h : Src R A L q wh a w) :
    Calls Tryz.prog 63 #[.pointer (some ⟨R, 0, none⟩), .int .i64 k] w (Runs R w (readAt L wh (formNums k) a) (NumsP R A L q wh a w)) := by
  have hal : Below w.heap.size w (w.alloc (.cells #[.int .i64 k] 3)) := (Below.refl _ _).alloc (Nat.le_refl _) _
  have hs0 : (w.alloc (.cells #[.int .i64 k] 3)).heap.size = w.heap.size + 1 := by simp
  by_cases ha : wh ≤ a
  · exact (numbers_stop R k _ w (words_short _ _ (h.below hal) ha)).mono fun e w' ⟨he, hb⟩ => runs_error (readAt_short ha) ⟨he, Ext.of hb⟩
  · have ha' : a < wh := by omega
    cases hw : wordsOk [k] (L.getD a [])
    · refine (numbers_stop R k _ w (words_fault [k] (some ⟨w.heap.size, 0, none⟩) 1 (w.heap.size + 1) _ (h.below hal) ha' (one_row w k 3) (by rw [hs0]; omega) (by simp) hw)).mono fun e w' ⟨he, hb⟩ => runs_error (readAt_none ha' ?_) ⟨he, Ext.of hb⟩
      unfold formNums; rw [hw]; rfl
    · refine (numbers_any k w h ha' hw).mono fun e w' hE => ?_
      rcases hE with ⟨hok, hp⟩ | ⟨hok, hp⟩
      · refine runs_ok (readAt_some ha' ?_) hp
        unfold formNums; rw [hw, hok]; rfl
      · refine runs_error (readAt_none ha' ?_) hp
        unfold formNums; rw [hw, hok]; rfl

theorem own_row {w : World} {base : Nat} {A : Option Addr} {q : Nat} {ns : List Int} (h : OwnC w base 3 1 (.slice A ns.length q) (ints ns)) : LRow w w.heap.size 1 A (ints ns) := by
  obtain ⟨A', q', hv, hr, _, _⟩ := h.row (by decide) (ints_len1 _)
  injection hv with h1 _ _
  subst h1
  exact hr
def LitsP (R : Nat) (A : Option Addr) (L : List (List UInt8)) (q wh : Nat) (w : World) (r : List Int × Nat) (e : Ending) (w' : World) : Prop :=
  ∃ v, e = .returned v ∧ OwnC w' w.heap.size 3 1 v (ints r.1) ∧ Src R A L q wh r.2 w' ∧ Ext R w w'
theorem own_ext {R : Nat} {w w' : World} {m base : Nat} {e : TypeId} {v : Value} {xs : List (List Value)} (h : OwnC w base e m v xs) (hb : Ext R w w') (hR : R < base) : OwnC w' base e m v xs :=
  h.keep_at fun g hg hv => hb.block g (h.block_lt g hv).2 (by omega)
theorem Ext.then {R : Nat} {w w' w'' : World} (h : Ext R w w') (hb : Below w.heap.size w' w'') : Ext R w w'' :=
  ⟨hb.os.trans h.os, hb.tape.trans h.tape, hb.output.trans h.output, Nat.le_trans h.size hb.size, fun k hk hr => (hb.block k hk).trans (h.block k hk hr)⟩
theorem Src.later {R : Nat} {A : Option Addr} {L : List (List UInt8)} {q wh a b : Nat} {w w' w'' : World} (h : Src R A L q wh a w) (hm : Src R A L q wh b w') (hE : Ext R w w') (hb : Below w.heap.size w' w'') : Src R A L q wh b w'' :=
  h.moved (hE.then hb) ((hb.block R h.lt).trans hm.blk) hm.ale
set_option maxHeartbeats 2000000 in
set_option maxRecDepth 100000 in
theorem literals_run {R : Nat} {A : Option Addr} {L : List (List UInt8)} {q wh a : Nat} (n : Nat) (w : World) (h : Src R A L q wh a w) (hn : n ≤ 1099511627776) :
    Calls Tryz.prog 41 #[.pointer (some ⟨R, 0, none⟩), .int .i64 n] w (Runs R w (manyGo L wh formLit n a []) (LitsP R A L q wh w)) := by
  have H := Lib.hid h
  have HRW : Hid (R < w.heap.size) := h.lt
  clear h
  obtain ⟨goal, hgoal⟩ : ∃ g, g = manyGo L wh formLit n a [] := ⟨_, rfl⟩
  have HG := Lib.hid hgoal
  rw [← hgoal]
  clear hgoal
  go_enter Tryz.func41, Tryz.ntmps41
  go_wp2
  go_loopw [7, 5] (fun i v wr => ∃ (j : Nat) (vv : Value) (acc : List Int), j ≤ n ∧ i = .int .i64 j ∧ vv = v ∧ acc.length = j ∧ goal = manyGo L wh formLit (n - j) (a + j) acc ∧ OwnC wr w.heap.size 3 1 vv (ints acc) ∧ Src R A L q wh (a + j) wr ∧ Ext R w wr) (fun i _ _ => n - (intOf i).toNat)
  case atStart => exact ⟨0, _, [], Nat.zero_le _, rfl, rfl, rfl, HG.out, OwnC.nil _ _ _ _, H.out, Ext.refl _ _⟩
  case round =>
    obtain ⟨j, v, acc, hj, rfl, rfl, hacc, hg, how, hS, hE⟩ := hrel
    have GG := Lib.hid hg
    have HO := Lib.hid how
    have HS := Lib.hid hS
    have HE := Lib.hid hE
    have HA := Lib.hid hacc
    clear hg how hS hE hacc
    by_cases hlt : j < n
    · have NR := Lib.hid (numbers_run 1 wr HS.out)
      have hst : n - j = (n - (j + 1)) + 1 := by omega
      have GS := Lib.hid hst
      clear hst
      go_wp2_with fail
      refine NR.out.mono ?_
      intro e w2 hr
      cases hq : readAt L wh (formNums 1) (a + j) with
      | error b =>
        rw [hq] at hr
        obtain ⟨rfl, hE2⟩ := hr
        have HGE : Hid (goal = .error b) := by
          unfold Hid
          rw [GG.out, GS.out, manyGo]
          have : readAt L wh formLit (a + j) = .error b := by
            unfold readAt at hq ⊢
            unfold formLit
            split at hq
            · rename_i hc
              rw [if_pos hc]
              cases hq; rfl
            · rename_i hc
              rw [if_neg hc]
              cases hf : formNums 1 (L.getD (a + j) []) with
              | none => rw [hf] at hq; cases hq; rfl
              | some ns => rw [hf] at hq; cases hq
          rw [this]
        have HX := Lib.hid (HE.out.trans hE2)
        clear hq hE2 NR
        refine ⟨rfl, ?_⟩
        exact runs_error (b := b.1) (t := b.2) HGE.out ⟨rfl, HX.out⟩
      | ok ns =>
        rw [hq] at hr
        obtain ⟨A', q', rfl, hol, hS2, hE2⟩ := hr
        have hlr := own_row hol
        obtain ⟨hca, hform⟩ := read_get hq
        obtain ⟨hl1, -, -⟩ := formNums_get 1 _ ns hform
        match ns, hl1 with
        | [x], _ =>
        have HGO : Hid (goal = manyGo L wh formLit (n - (j + 1)) (a + (j + 1)) (acc ++ [x])) := by
          unfold Hid
          rw [GG.out, GS.out, manyGo]
          have : readAt L wh formLit (a + j) = .ok x := readAt_some hca (by unfold formLit; rw [hform]; rfl)
          rw [this]
          rfl
        obtain ⟨b, o, rfl, hbb, hx⟩ := hlr.int (k := 0) (by simp)
        rw [Nat.add_zero] at hx
        simp only [List.getElem_cons_zero] at hx
        have hal2 : Below w2.heap.size w2 (w2.alloc (.cells #[.int .i64 x] 3)) := (Below.refl _ _).alloc (Nat.le_refl _) _
        have EW : Hid (Ext R w w2) := HE.out.trans hE2
        have EW3 : Hid (Ext R w (w2.alloc (.cells #[.int .i64 x] 3))) := EW.out.then (hal2.mono EW.out.size)
        have O3 := Lib.hid ((own_ext HO.out hE2 HRW.out).keep hal2)
        have S2 := Lib.hid (hS2.below hal2)
        have HC : Hid (∀ (j : Nat) u, [Value.int .i64 x][j]? = some u → (w2.alloc (.cells #[.int .i64 x] 3)).cell? ⟨w2.heap.size, j, none⟩ = some u) := fun j u hu => by
          rw [new_cell]; simpa using hu
        have HONE : Hid (∀ u ∈ [Value.int .i64 x], u.oneCell' = true) := fun u hu => by
          simp only [List.mem_singleton] at hu
          subst hu; rfl
        have HL : Hid ((ints acc).length ≤ 65537) := by
          have h1 := HA.out
          have h2 := HS.out.ale
          have h3 := HS.out.whl
          have h4 := HS.out.len
          unfold Hid; rw [ints_length1]; omega
        have HSZ : Hid (w.heap.size ≤ (w2.alloc (.cells #[.int .i64 x] 3)).heap.size) := EW3.out.size
        clear hal2 hE2 hS2 hlr hol hq hform hca NR
        simp only [List.length_cons, List.length_nil]
        go_wp2_with (at_builtin; refine wpList_push _ rfl (.tmp 9) (.tmp 16) 22 rfl 3 1 8 (.int .i64 0) Tryz.underlying22 infoInt rfl (by decide) w.heap.size v _ O3.out rfl w2.heap.size 1 rfl [.int .i64 x] HC.out rfl HONE.out (by have := HL.out; omega) (by have := HL.out; omega) HSZ.out ?_)
        intro v2 w3 hown hbel _
        have HO4 := Lib.hid hown
        have HS4 := Lib.hid (H.out.later S2.out EW3.out hbel)
        have HE4 := Lib.hid (EW3.out.then hbel)
        clear hown hbel
        go_wp2
        go_roundw
        case rel => exact ⟨j + 1, _, acc ++ [x], by omega, by go_num, rfl, by rw [List.length_append, HA.out]; rfl, HGO.out, by rw [← ints_snoc]; exact HO4.out, HS4.out, HE4.out⟩
        case measure => simp [intOf]; omega
    · obtain rfl : j = n := by omega
      have HGE : Hid (goal = .ok (acc, a + j)) := by
        unfold Hid
        rw [GG.out, Nat.sub_self]; rfl
      go_wp2
      go_ret
      exact runs_ok HGE.out ⟨v, rfl, HO.out, HS.out, HE.out⟩
end Go.Proofs.YtckdlbfndmmjjaaGreatDoor.Aag
