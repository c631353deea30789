/- The landed trail's Lits: a list of its own, filled one by one. Condition: what kept answers in every later world; at most 2^18 literals. The landed trail's Deeper, Grow, New. Condition: as Prog15 asks. The landed trail's Put. Condition: the literal and the reason are in range. -/
import Derived.Test.YtomkdegajhijjaaPt07
import Derived.Laws.MakeOwn
namespace Go.Proofs.Ytomkdegajhijjaa.Tra
open Go.ChangeShapes Go.WideShapes Go.ChangeAt Go.RowKit Go.Maps Circ Cw Cla

theorem make_ints (n : Nat) (hn : n ≤ 262144) (w : World) : (Instr.makeSlice 37 (.int .i64 (n : Int)) (.int .i64 (n : Int))).run Try.prog w = .ok (.slice (some ⟨w.heap.size, 0, none⟩) n n) (w.alloc (.cells (madeCells #[.int .i64 0] n) 3)) := by
  obtain ⟨i, hi, hz, hs, hb⟩ := info_parts info3
  have := run_make (P := Try.prog) w 37 3 i (.int .i64 0) Try.underlying37 hi hz .i64 .i64 (n : Int) (n : Int) (by omega) (by omega) (by rw [hb]; omega) (by omega)
  rw [this, hs, Int.toNat_natCast, Nat.mul_one]
  rfl
theorem made_ints (n : Nat) (hn : n ≤ 262144) (w : World) : OwnI (w.alloc (.cells (madeCells #[.int .i64 0] n) 3)) w.heap.size (.slice (some ⟨w.heap.size, 0, none⟩) (List.replicate n (0 : Int)).length n) (List.replicate n 0) := by
  have := World.ownsRow_lit (base := w.heap.size) (e := 3) (size := 1) w (madeCells #[.int .i64 0] n) n (Nat.le_refl _) (by unfold maxLen; omega) (by rw [size_madeCells, Nat.mul_one])
  rw [toList_madeCells_one] at this
  unfold OwnI
  rw [List.length_replicate, List.map_replicate]
  exact this
/-- the first k of l, zeros behind them -/
def filled (l : List Int) (k : Nat) : List Int := l.take k ++ List.replicate (l.length - k) 0
theorem filled_len (l : List Int) {k : Nat} (hk : k ≤ l.length) : (filled l k).length = l.length := by unfold filled; rw [List.length_append, List.length_take, List.length_replicate]; omega
theorem filled_next (l : List Int) {k : Nat} (hk : k < l.length) : (filled l k).set k l[k] = filled l (k + 1) := by
  unfold filled
  rw [List.set_append_right _ _ (by rw [List.length_take]; omega), List.length_take, show k - min k l.length = 0 by omega, show l.length - k = (l.length - (k + 1)) + 1 by omega, List.replicate_succ, List.set_cons_zero, List.take_succ_eq_append_getElem hk, List.append_assoc]
  rfl
theorem filled_all (l : List Int) : filled l l.length = l := by unfold filled; rw [List.take_length, Nat.sub_self, List.replicate_zero, List.append_nil]
theorem filled_put {w : World} {B g q : Nat} {l : List Int} {k : Nat} (hk : k < l.length) (h : OwnI w B (.slice (some ⟨g, 0, none⟩) l.length q) (filled l k)) : w.frozen? ⟨g, k, none⟩ = false ∧ (∃ u, w.cell? ⟨g, k, none⟩ = some u) ∧ OwnI (w.setCell ⟨g, k, none⟩ (.int .i64 l[k])) B (.slice (some ⟨g, 0, none⟩) l.length q) (filled l (k + 1)) := by
  have h' := h
  unfold OwnI at h ⊢
  rw [filled_len l (by omega)] at h
  rw [filled_len l (by omega), ← filled_next l hk, List.map_set]
  have h2 := World.ownsRow.stored h k (.int .i64 l[k])
  refine ⟨?_, ?_, h2.1⟩
  · rcases h.2 with ⟨h4, _⟩ | ⟨g', cap, cur, h4, _, hh, _⟩
    · cases h4
    · injection h4 with h4
      injection h4 with h4
      injection h4 with h4
      subst h4
      simp [World.frozen?, hh]
  · have h3 := World.ownsRow.cellAt h k (by omega)
    rw [h3, List.getElem?_map, List.getElem?_eq_getElem (by rw [filled_len l (by omega)]; exact hk)]
    exact ⟨_, rfl⟩
theorem place_atL {L : List Tri} {k : Nat} (hlt : k < L.length) : placeM L (k : Int) = (L.map Tri.a)[k]'(by rw [List.length_map]; exact hlt) := by rw [place_in hlt, List.getElem_map, getT_get hlt]
section
variable {w : World} {n : Nat} {L : List Tri} {d : Int} {p : Value}
set_option maxHeartbeats 8000000 in
set_option maxRecDepth 100000 in
theorem lits_k (K : ∀ W, Below w.heap.size w W → KeptP W p n L d) (hl : L.length ≤ 262144) : Calls Try.prog 21 #[p] w fun e w' => (∃ g, e = .returned (.slice (some ⟨g, 0, none⟩) L.length L.length) ∧ w.heap.size ≤ g ∧ OwnI w' w.heap.size (.slice (some ⟨g, 0, none⟩) L.length L.length) (L.map Tri.a)) ∧ Below w.heap.size w w' := by
  have HK := Lib.hid K
  have HL := Lib.hid hl
  have l1 : (L.length : Int) ≤ 262144 := by omega
  have l0 : (0 : Int) ≤ (L.length : Int) := by omega
  clear K hl
  go_enter Try.func21, Try.ntmps21
  go_wp2_with fail
  refine (len_k (HK.out _ (Below.refl _ _))).mono ?_
  rintro e w1 ⟨rfl, hb1⟩
  have MK := make_ints L.length HL.out w1
  obtain ⟨W2, hW2⟩ : ∃ y, w1.alloc (.cells (madeCells #[.int .i64 0] L.length) 3) = y := ⟨_, rfl⟩
  have MO := made_ints L.length HL.out w1
  rw [hW2] at MO MK
  have b2 : Below w1.heap.size w1 W2 := by rw [← hW2]; exact (Below.refl _ _).alloc (Nat.le_refl _) _
  have B2 : Hid (Below w.heap.size w W2) := hb1.trans (b2.mono hb1.size)
  have HG : Hid (w.heap.size ≤ w1.heap.size) := hb1.size
  have O2 : Hid (OwnI W2 w.heap.size (.slice (some ⟨w1.heap.size, 0, none⟩) (L.map Tri.a).length L.length) (filled (L.map Tri.a) 0)) := by
    have e : filled (L.map Tri.a) 0 = List.replicate L.length 0 := by unfold filled; simp
    rw [e, List.length_map]
    rw [List.length_replicate] at MO
    obtain ⟨h1, h2⟩ := MO
    refine ⟨h1, ?_⟩
    rcases h2 with h2 | ⟨g, cap, cur, hv, hg, r⟩
    · exact .inl h2
    · exact .inr ⟨g, cap, cur, hv, Nat.le_trans hb1.size hg, r⟩
  generalize w1.heap.size = G at *
  clear hb1 MO b2 hW2
  go_wp2_with fail
  refine (len_k (HK.out _ B2.out)).mono ?_
  rintro e w3 ⟨rfl, hb3⟩
  have B3 : Hid (Below w.heap.size w w3) := B2.out.trans (hb3.mono B2.out.size)
  have O3 := Lib.hid (O2.out.keep hb3)
  clear O2 B2 hb3 MK
  go_wp2
  go_loopw [10] (fun x wr => ∃ k : Nat, x = .int .i64 (k : Int) ∧ k ≤ L.length ∧ OwnI wr w.heap.size (.slice (some ⟨G, 0, none⟩) (L.map Tri.a).length L.length) (filled (L.map Tri.a) k) ∧ Below w.heap.size w wr) (fun x _ => L.length - (intOf x).toNat)
  case atStart => exact ⟨0, rfl, Nat.zero_le _, O3.out, B3.out⟩
  case round =>
    clear O3 B3
    obtain ⟨k, rfl, hk, ho, hb⟩ := hrel
    have HO := Lib.hid ho
    have HB := Lib.hid hb
    clear ho hb
    by_cases hlt : k < L.length
    · have k1 : (k : Int) < (L.length : Int) := by omega
      have k0 : (0 : Int) ≤ (k : Int) := by omega
      have AT := Lib.hid (at_k (HK.out wr HB.out) (k : Int))
      obtain ⟨z, HP, HF⟩ : ∃ z : Int, Hid (placeM L (k : Int) = z) ∧ Hid (∀ W, OwnI W w.heap.size (.slice (some ⟨G, 0, none⟩) (L.map Tri.a).length L.length) (filled (L.map Tri.a) k) → W.frozen? ⟨G, k, none⟩ = false ∧ (∃ u, W.cell? ⟨G, k, none⟩ = some u) ∧ OwnI (W.setCell ⟨G, k, none⟩ (.int .i64 z)) w.heap.size (.slice (some ⟨G, 0, none⟩) (L.map Tri.a).length L.length) (filled (L.map Tri.a) (k + 1))) :=
        ⟨_, place_atL hlt, fun W hW => filled_put (by rw [List.length_map]; exact hlt) hW⟩
      generalize placeM L (k : Int) = y at *
      clear hlt
      go_wp2_with fail
      refine AT.out.mono ?_
      rintro e w5 ⟨rfl, hb5⟩
      obtain ⟨fz, ⟨u, cu⟩, ho6⟩ := HF.out w5 (HO.out.keep hb5)
      rw [← HP.out] at ho6
      obtain ⟨W6, hW6⟩ : ∃ z, w5.setCell ⟨G, k, none⟩ (.int .i64 y) = z := ⟨_, rfl⟩
      have B6 : Hid (Below w.heap.size w W6) := by
        unfold Hid
        rw [← hW6]
        exact (But.set w5 G k (.int .i64 y)).below (HB.out.trans (hb5.mono HB.out.size)) HG.out
      rw [hW6] at ho6
      have O6 := Lib.hid ho6
      clear AT ho6 HO HB hb5 HP HF
      go_wp2
      go_roundw
      case rel => exact ⟨k + 1, by go_num, by omega, O6.out, B6.out⟩
      case measure => simp [intOf]; omega
    · obtain rfl : k = L.length := by omega
      have O7 : Hid (OwnI wr w.heap.size (.slice (some ⟨G, 0, none⟩) L.length L.length) (L.map Tri.a)) := by
        have := HO.out
        rw [← List.length_map (f := Tri.a), filled_all] at this
        rw [List.length_map] at this
        exact this
      clear HO
      go_wp2
      go_ret
      exact ⟨⟨G, rfl, HG.out, O7.out⟩, HB.out⟩
end
end Go.Proofs.Ytomkdegajhijjaa.Tra
namespace Go.Proofs.Ytomkdegajhijjaa.Tra
open Go.ChangeShapes Go.WideShapes Go.ChangeAt Go.RowKit Go.Maps Circ Cw Cla
section
variable {w : World} {b : Nat} {vars : Int} {L : List Tri} {d : Int}
set_option maxHeartbeats 4000000 in
set_option maxRecDepth 100000 in
theorem deeper_any (h : AtT w b vars L d) (hd : d < 1152921504606846976) : Calls Try.prog 11 #[.pointer (some ⟨b, 0, none⟩)] w fun e w' => e = .returned (.int .i64 (d + 1)) ∧ AtT w' b vars L (d + 1) ∧ Eff I15 w b w' := by
  obtain ⟨t, vc, vo, n, rfl, hb, T, H⟩ := h
  have c2 := T.m.cells.2.2
  obtain ⟨W1, u, ⟨hW, cu, fz⟩, T1, B1⟩ := T.m.putD (d + 1)
  have KP := kept_any w b t hb
  have TG : RecG W1 t vc vo n L (d + 1) := ⟨T1, T.g, T.n⟩
  have C1 : Chg (TOwn t vc vo) w W1 := Chg.of_but B1 (.inl rfl)
  have bl := box_later hb T C1
  have h0 := H.d0
  have A1 : AtT W1 b (n : Int) L (d + 1) := ⟨t, vc, vo, n, rfl, bl, TG, by omega, by omega, fun s hs => by have := H.le s hs; omega⟩
  have HA := Lib.hid A1
  have HE : Hid (∀ w', Below W1.heap.size W1 w' → Eff I15 w b w') := fun w' hw => eff_of hb T (C1.trans (Chg.of_below hw : Chg (fun _ => False) _ _) fun i hi => hi.elim) (TG.below hw) (fun _ h => .inl h) fun _ h => .inl h
  obtain ⟨n', e', K⟩ := at_kept A1
  have DP := Lib.hid (depth_k K)
  clear T T1 B1 TG C1 bl A1 H K hb
  go_enter Try.func11, Try.ntmps11
  go_wp2_with fail
  refine KP.mono ?_
  rintro e w' ⟨rfl, rfl⟩
  clear KP
  go_wp2_with fail
  refine DP.out.mono ?_
  rintro e w2 ⟨rfl, hb2⟩
  have HA2 := Lib.hid (at_below HA.out hb2)
  have HE2 := Lib.hid (HE.out w2 hb2)
  clear DP HA HE hb2
  go_wp2
  go_ret
  exact ⟨rfl, HA2.out, HE2.out⟩
theorem cell_info : (Try.prog.info? 51).map (fun i => (i.zero, i.size, i.bytes)) = some (some (.agg #[.int .i64 0, .int .i64 0, .int .i64 0]), 3, 24) := by kernel_rfl
/-- what lengthening leaves -/
theorem run_grow (W : World) (v : Value) (C : List Tri) (ty : TypeId) (k : Nat) (ho : W.ownsRow 0 51 3 v C.length (flat3 C)) (hk : 0 < k) (hs : C.length + k ≤ 262144) :
    ∃ v' w', (Builtin.append_ #[45, 3] ty #[v, .int .i64 (k : Int)]).run Try.prog W = .ok v' w' ∧ w'.ownsRow 0 51 3 v' (C ++ List.replicate k zeroT).length (flat3 (C ++ List.replicate k zeroT)) ∧ W.grownBy w' v.ownBlock ∧ (v'.ownBlock = v.ownBlock ∨ v'.ownBlock = some W.heap.size) := by
  obtain ⟨i, hi, hz, hsz, hby⟩ := info_parts cell_info
  have := run_append_zeros_own (P := Try.prog) W k hk 0 45 3 ty 51 i (.agg #[.int .i64 0, .int .i64 0, .int .i64 0]) 3 24 Try.underlying45 .i64 .i64 Try.underlying3 hi hz hsz hby rfl (by decide) (fun u hu => by
    rw [show (Value.agg #[.int .i64 0, .int .i64 0, .int .i64 0]).cells = #[.int .i64 0, .int .i64 0, .int .i64 0] from rfl, zero_cells3] at hu
    have key : ∀ n : Nat, ∀ u ∈ flat3 (List.replicate n zeroT), u.oneCell' = true := fun n => by
      induction n with
      | zero => intro u hu; exact (List.not_mem_nil hu).elim
      | succ n ih =>
        intro u hu
        rw [List.replicate_succ] at hu
        rcases List.mem_cons.1 hu with rfl | hu
        · rfl
        · rcases List.mem_cons.1 hu with rfl | hu
          · rfl
          · rcases List.mem_cons.1 hu with rfl | hu
            · rfl
            · exact ih u hu
    exact key k u hu) v C.length (flat3 C) ho (by unfold maxLen; omega) (by omega) (Nat.zero_le _)
  obtain ⟨v', w', h1, h2, h3, h4⟩ := this
  refine ⟨v', w', h1, ?_, h3, h4⟩
  rw [List.length_append, List.length_replicate, flat3_app, ← zero_cells3]
  exact h2
/-- a record of k variables more -/
theorem RecG.grow {t n k : Nat} {vc vo : Value} (T : RecG w t vc vo n L d) (hk : 0 < k) (hs : n + k ≤ 262144) (ty : TypeId) :
    ∃ v w1 Z u, (Builtin.append_ #[45, 3] ty #[vc, .int .i64 (k : Int)]).run Try.prog w = .ok v w1 ∧ (w1.setCell ⟨t, 0, none⟩ v = Z ∧ w1.cell? ⟨t, 0, none⟩ = some u ∧ w1.frozen? ⟨t, 0, none⟩ = false) ∧ RecG Z t v vo (n + k) L d ∧ Chg (TOwn t vc vo) w Z ∧ (v.ownBlock = vc.ownBlock ∨ v.ownBlock = some w.heap.size) ∧ ∃ A q, v = .slice A (n + k) q := by
  obtain ⟨v, w1, h1, h2, h3, h4⟩ := run_grow w vc (cellsM n L) ty k T.m.oc hk (by rw [cells_len]; exact hs)
  rw [← cells_grow T.g k] at h2
  obtain ⟨Z, u, hz, T2, C2⟩ := T.m.growC h2 h3 h4
  have T3 : RecG Z t v vo (n + k) L d := ⟨T2, T.g.mono (by omega), hs⟩
  obtain ⟨A, q, hv, -⟩ := T2.row
  rw [cells_len] at hv
  exact ⟨v, w1, Z, u, h1, hz, T3, C2, h4, A, q, hv⟩
set_option maxHeartbeats 4000000 in
set_option maxRecDepth 100000 in
theorem grow_any (h : AtT w b vars L d) (m : Int) (m0 : 0 ≤ m) (hs : vars + m ≤ 262144) : Calls Try.prog 13 #[.pointer (some ⟨b, 0, none⟩), .int .i64 m] w fun e w' => e = .returned (.tuple #[]) ∧ AtT w' b (vars + m) L d ∧ Eff I15 w b w' := by
  have HA := Lib.hid h
  obtain ⟨t, vc, vo, n, rfl, hb, T, H⟩ := h
  obtain ⟨c0, -⟩ := T.m.cells
  obtain ⟨A, q, hvc, hq1, hq2, -⟩ := T.m.row
  rw [cells_len] at hvc hq2
  have KP := kept_any w b t hb
  by_cases hn : 0 < m
  · obtain ⟨k, rfl⟩ : ∃ k : Nat, m = (k : Int) := ⟨m.toNat, by omega⟩
    have hk : 0 < k := by omega
    have hmin : ¬ (262144 : Int) - (n : Int) < (k : Int) := by omega
    obtain ⟨v1, w1, W2, u, h1, ⟨hW2, cu, fz⟩, T2, C2, h4, A2, q2, hv2⟩ := T.grow hk (by omega) 45
    have HEND : Hid (AtT W2 b ((n : Int) + (k : Int)) L d ∧ Eff I15 w b W2) := by
      refine ⟨⟨t, v1, vo, n + k, by omega, box_later hb T C2, T2, H⟩, eff_of hb T C2 T2 (fun j hj => ?_) fun j hj => .inl hj⟩
      rcases h4 with e | e
      · exact .inl (e ▸ hj)
      · rw [e] at hj
        injection hj with hj
        exact .inr (by omega)
    have hl0 : (0 : Int) ≤ (n : Int) := by omega
    have hl1 : (n : Int) ≤ 262144 := by omega
    subst hvc hv2
    clear H hb T HA m0 hs h4 T2 C2
    go_enter Try.func13, Try.ntmps13
    go_wp2_with fail
    refine KP.mono ?_
    rintro e w' ⟨rfl, rfl⟩
    clear KP
    go_wp2_with (at_builtin; refine Lib.wpList_append_run _ rfl (.tmp 22) (.tmp 23) _ _ rfl _ _ rfl rfl _ _ h1 ?_)
    clear h1
    go_wp2
    go_end0
    exact ⟨rfl, HEND.out⟩
  · obtain rfl : m = 0 := by omega
    rw [Int.add_zero]
    have hmin : ¬ (262144 : Int) - (n : Int) < 0 := by omega
    have hl0 : (0 : Int) ≤ (n : Int) := by omega
    have hl1 : (n : Int) ≤ 262144 := by omega
    have HE := Lib.hid (eff_refl I15 w b)
    subst hvc
    clear H hb T hs m0 hn
    go_enter Try.func13, Try.ntmps13
    go_wp2_with fail
    refine KP.mono ?_
    rintro e w' ⟨rfl, rfl⟩
    clear KP
    go_wp2
    go_end0
    exact ⟨rfl, HA.out, HE.out⟩
set_option maxHeartbeats 4000000 in
set_option maxRecDepth 100000 in
theorem new_any (m : Int) (w : World) (m0 : 0 ≤ m) (m1 : m ≤ 1000) : Calls Try.prog 7 #[.int .i64 m] w fun e w' => (∃ b, e = .returned (.pointer (some ⟨b, 0, none⟩)) ∧ AtT w' b m [] 0 ∧ ∀ k, ownT w' b k → w.heap.size ≤ k) ∧ Below w.heap.size w w' := by
  obtain ⟨W1, hW1, T1, B1⟩ := nothing_rec w
  obtain ⟨W2, hW2⟩ : ∃ y, W1.alloc (.cells #[.pointer (some ⟨w.heap.size, 0, none⟩)] 43) = y := ⟨_, rfl⟩
  have b2 : Below W1.heap.size W1 W2 := by rw [← hW2]; exact (Below.refl _ _).alloc (Nat.le_refl _) _
  have hbx : BoxT W2 W1.heap.size w.heap.size := by unfold BoxT; rw [← hW2]; exact Array.getElem?_push_size
  have T2 := T1.below b2
  have A2 : AtT W2 W1.heap.size 0 [] 0 := ⟨w.heap.size, _, _, 0, rfl, hbx, T2, by decide, by decide, fun s hs => (List.not_mem_nil hs).elim⟩
  have GA := Lib.hid (grow_any A2 m m0 (by omega))
  rw [Int.zero_add] at GA
  have HO : Hid (∀ k, ownT W2 W1.heap.size k → w.heap.size ≤ k) := fun k hk => by
    rcases (own_iff hbx T2 k).1 hk with rfl | rfl | e | e
    · exact B1.size
    · exact Nat.le_refl _
    · simp [Value.ownBlock] at e
    · simp [Value.ownBlock] at e
  have HB2 : Hid (Below w.heap.size w W2) := B1.trans (b2.mono B1.size)
  clear T1 B1 b2 hbx T2 A2
  go_enter Try.func7, Try.ntmps7
  go_wp2_with fail
  refine GA.out.mono ?_
  rintro e w3 ⟨rfl, hA, hE⟩
  have H3 := Lib.hid hA
  have HO3 : Hid (∀ k, ownT w3 W1.heap.size k → w.heap.size ≤ k) := fun k hk => by
    rcases hE.own k hk with e | e
    · exact HO.out k e
    · exact Nat.le_trans HB2.out.size e
  have HB3 : Hid (Below w.heap.size w w3) := ⟨hE.os.trans HB2.out.os, hE.tape.trans HB2.out.tape, hE.output.trans HB2.out.output, Nat.le_trans HB2.out.size hE.size, fun k hk => (hE.other k (Nat.lt_of_lt_of_le hk HB2.out.size) (fun ho => by have := HO.out k ho; omega)).trans (HB2.out.block k hk)⟩
  clear GA hA hE
  go_wp2
  go_ret
  exact ⟨⟨_, rfl, H3.out, HO3.out⟩, HB3.out⟩
end
end Go.Proofs.Ytomkdegajhijjaa.Tra
namespace Go.Proofs.Ytomkdegajhijjaa.Tra
open Go.ChangeShapes Go.WideShapes Go.ChangeAt Go.RowKit Go.Maps Circ Cw Cla
section
variable {w : World} {b t g q n : Nat} {vars : Int} {L : List Tri} {d : Int} {vo : Value} {C : List Tri} {od : List Int}
/-- a cell stored whole: the worlds between -/
theorem Rec.put3 (h : Rec w t (.slice (some ⟨g, 0, none⟩) C.length q) vo C od d) (x : Nat) (hx : x < C.length) (s : Tri) : ∃ Z1 Z2 Z3 u0 u1 u2, (w.setCell ⟨g, x * 3, none⟩ (.int .i64 s.a) = Z1 ∧ w.cell? ⟨g, x * 3, none⟩ = some u0 ∧ w.frozen? ⟨g, x * 3, none⟩ = false) ∧ (Z1.setCell ⟨g, x * 3 + 1, none⟩ (.int .i64 s.b) = Z2 ∧ Z1.cell? ⟨g, x * 3 + 1, none⟩ = some u1 ∧ Z1.frozen? ⟨g, x * 3 + 1, none⟩ = false) ∧ (Z2.setCell ⟨g, x * 3 + 2, none⟩ (.int .i64 s.c) = Z3 ∧ Z2.cell? ⟨g, x * 3 + 2, none⟩ = some u2 ∧ Z2.frozen? ⟨g, x * 3 + 2, none⟩ = false) ∧ Rec Z3 t (.slice (some ⟨g, 0, none⟩) C.length q) vo (C.set x s) od d ∧ But g w Z3 := by
  obtain ⟨cur, hc, hz⟩ : ∃ cur, w.heap[g]? = some (.cells cur 51 (0, 0)) ∧ x * 3 + 2 < cur.size := by
    rcases h.oc.2 with ⟨h4, _⟩ | ⟨g', cap, cur, h4, _, hh, h1, h2, h3, _⟩
    · injection h4 with h4; cases h4
    · injection h4 with h4
      injection h4 with h4
      injection h4 with h4
      subst h4
      exact ⟨cur, hh, by omega⟩
  obtain ⟨h1, h2⟩ := h.putC x s
  obtain ⟨Z1, u0, a1, g1, f1⟩ := step_set w _ (x * 3) (.int .i64 s.a) hc (by omega)
  obtain ⟨Z2, u1, a2, g2, f2⟩ := step_set Z1 _ (x * 3 + 1) (.int .i64 s.b) g1 (by simp; omega)
  obtain ⟨Z3, u2, a3, g3, f3⟩ := step_set Z2 _ (x * 3 + 2) (.int .i64 s.c) g2 (by simp; omega)
  rw [a1.1, a2.1, a3.1] at h1 h2
  exact ⟨Z1, Z2, Z3, u0, u1, u2, a1, a2, a3, h1, h2⟩
set_option maxHeartbeats 8000000 in
set_option maxRecDepth 100000 in
theorem put_any (h : AtT w b vars L d) (l r : Int) (hl : I64 l) (hr : I64 r) : Calls Try.prog 10 #[.pointer (some ⟨b, 0, none⟩), .int .i64 l, .int .i64 r] w fun e w' => e = .returned (.bool (mayPut vars L l)) ∧ AtT w' b vars (putL vars L d l r) d ∧ Eff I15 w b w' := by
  have HA := Lib.hid h
  obtain ⟨t, vc, vo, n, rfl, hb, T, H⟩ := h
  obtain ⟨c0, -⟩ := T.m.cells
  obtain ⟨A, q, hvc, hq1, hq2, hrow⟩ := T.m.row
  rw [cells_len] at hvc hq2 hrow
  have KP := kept_any w b t hb
  have KN := Lib.hid (knows_any t n q A (absW l) w (hvc ▸ c0))
  have VA := Lib.hid (fun W => var_any l W hl)
  have HM : Hid (mayPut (n : Int) L l = ((decide (1 ≤ absW l) && decide (absW l ≤ (n : Int))) && (atM L (absW l)).isNone)) := rfl
  have HP : Hid (putL (n : Int) L d l r = if mayPut (n : Int) L l = true then L ++ [⟨l, d, r⟩] else L) := rfl
  have HE0 := Lib.hid (fun w' (hw : Below w.heap.size w w') => eff_below hb T hw)
  have OF := Lib.hid (of_any T (absW l))
  have HS := Lib.hid (T.g.set (absW l))
  by_cases hi : 1 ≤ absW l ∧ absW l ≤ (n : Int)
  · obtain ⟨h0, h1⟩ := hi
    obtain ⟨x, hx⟩ : ∃ x : Nat, absW l = (x : Int) + 1 := ⟨(absW l - 1).toNat, by omega⟩
    rw [decide_eq_true h0, decide_eq_true h1, Bool.and_self] at KN HM
    obtain ⟨s, hs⟩ : ∃ s, cellM L (absW l) = s := ⟨_, rfl⟩
    rw [hs] at OF HS
    cases ha : atM L (absW l) with
    | some y =>
      rw [ha] at HM HS
      have e : mayPut (n : Int) L l = false := HM.out
      rw [e] at HP
      rw [e, show putL (n : Int) L d l r = L from HP.out]
      have SA := Lib.hid (fun W => set_any s W)
      rw [show decide (s.a = 0 ∧ s.b = 0 ∧ s.c = 0) = false from HS.out, Bool.not_false] at SA
      subst hvc
      clear T H hb hrow hl HM HP HS ha hs hx h0 h1 x hq1 hq2
      generalize absW l = v at *
      go_enter Try.func10, Try.ntmps10
      go_wp2_with fail
      refine KP.mono ?_
      rintro e w' ⟨rfl, rfl⟩
      clear KP
      go_wp2_with fail
      refine (VA.out _).mono ?_
      rintro e w' ⟨rfl, rfl⟩
      go_wp2_with fail
      refine KN.out.mono ?_
      rintro e w' ⟨rfl, rfl⟩
      go_wp2_with fail
      refine OF.out.mono ?_
      rintro e w2 ⟨rfl, hb2⟩
      have B2 := Lib.hid hb2
      clear hb2 OF KN c0
      go_wp2_with fail
      refine (SA.out w2).mono ?_
      rintro e w3 ⟨rfl, hb3⟩
      have B3 : Hid (Below w'.heap.size w' w3) := B2.out.trans (hb3.mono B2.out.size)
      clear hb3
      go_wp2
      go_ret
      refine ⟨rfl, ?_, ?_⟩
      · exact at_below HA.out B3.out
      · exact HE0.out _ B3.out
    | none =>
      rw [ha] at HM HS
      have e : mayPut (n : Int) L l = true := HM.out
      rw [e] at HP
      rw [e, show putL (n : Int) L d l r = L ++ [⟨l, d, r⟩] from HP.out]
      have SA := Lib.hid (fun W => set_any s W)
      rw [show decide (s.a = 0 ∧ s.b = 0 ∧ s.c = 0) = true from HS.out, Bool.not_true] at SA
      have hg : Good n (L ++ [⟨l, d, r⟩]) := T.g.put (s := ⟨l, d, r⟩) h0 h1 ⟨hl, ⟨by have := H.d0; show _ ≤ d; omega, by have := H.d1; show d ≤ _; omega⟩, hr⟩ H.d0 (fun y hy => H.le y hy) ha
      have HG := Lib.hid hg
      have HC : Hid ((cellsM n L).set x ⟨l, d, r⟩ = cellsM n (L ++ [⟨l, d, r⟩])) := cells_put (s := ⟨l, d, r⟩) hx (by omega) ha
      have HLV : Hid (Lvl (L ++ [⟨l, d, r⟩]) d) := ⟨H.d0, H.d1, fun y hy => by
        rcases List.mem_append.1 hy with hy | hy
        · exact H.le y hy
        · obtain rfl := List.mem_singleton.1 hy
          exact Int.le_refl _⟩
      obtain ⟨g, hA, -, -⟩ := hrow (by omega)
      have HT := Lib.hid T
      have HB := Lib.hid hb
      have hxn : x < n := by omega
      have x0 : (0 : Int) ≤ (x : Int) := by omega
      have x1 : (x : Int) < (n : Int) := by omega
      have x2 : (x : Int) ≤ 262144 := by have := T.n; omega
      rw [hx] at VA KN OF
      subst hvc hA
      clear T H hb hrow hl hr HM HP HS ha hs h0 h1 hg hx
      go_enter Try.func10, Try.ntmps10
      go_wp2_with fail
      refine KP.mono ?_
      rintro e w' ⟨rfl, rfl⟩
      clear KP
      go_wp2_with fail
      refine (VA.out _).mono ?_
      rintro e w' ⟨rfl, rfl⟩
      go_wp2_with fail
      refine KN.out.mono ?_
      rintro e w' ⟨rfl, rfl⟩
      go_wp2_with fail
      refine OF.out.mono ?_
      rintro e w2 ⟨rfl, hb2⟩
      have B2 := Lib.hid hb2
      clear hb2 OF KN c0
      go_wp2_with fail
      refine (SA.out w2).mono ?_
      rintro e w3 ⟨rfl, hb3⟩
      have B3 : Hid (Below w'.heap.size w' w3) := B2.out.trans (hb3.mono B2.out.size)
      clear hb3
      have T3 := HT.out.below B3.out
      have T3d := T3.m.below (Below.refl w3.heap.size w3).drew
      rw [show Value.slice (some ⟨g, 0, none⟩) n q = .slice (some ⟨g, 0, none⟩) (cellsM n L).length q by rw [cells_len]] at T3d
      obtain ⟨Z1, Z2, Z3, u0, u1, u2, ⟨s1, p1, q1⟩, ⟨s2, p2, q2⟩, ⟨s3, p3, q3⟩, T4, B4⟩ := T3d.put3 x (by rw [cells_len]; exact hxn) ⟨l, d, r⟩
      rw [HC.out] at T4
      rw [show Value.slice (some ⟨g, 0, none⟩) (cellsM n L).length q = .slice (some ⟨g, 0, none⟩) n q by rw [cells_len]] at T4
      obtain ⟨d0, d1, d2⟩ := T3.m.cells
      have HT4 := Lib.hid T4
      have HB4 := Lib.hid B4
      clear T3 T3d T4 B4
      have HVO : ∃ (A2 : Option Addr) (m2 q2 : Nat), vo = .slice A2 m2 q2 := by
        obtain ⟨A2, q2, h2, -⟩ := HT.out.m.ord
        exact ⟨A2, _, q2, h2⟩
      obtain ⟨A2, m2, q2, rfl⟩ := HVO
      have c41 := HT4.out.cells.2.1
      have HBA : Hid (Below Z3.heap.size Z3 (Z3.alloc (.cells #[.int .i64 l] 3))) := (Below.refl _ _).alloc (Nat.le_refl _) _
      have HT5 := Lib.hid (HT4.out.below HBA.out)
      have HONE := Lib.hid (one_row Z3 l 3)
      have HLn : Hid (((L.map Tri.a).length + [l].length) * 8 ≤ 140737488355328) := by have := HT.out.few; unfold Hid; rw [List.length_map, List.length_singleton]; omega
      have HQ := Lib.hid HT5.out.oo
      go_wp2
      go_region
      go_wp2_with (at_builtin; refine wpList_app _ rfl (.tmp 41) (.tmp 43) rfl 0 _ _ (L.map Tri.a) [l] rfl HQ.out _ 1 1 rfl rfl HONE.out HLn.out (Nat.zero_le _) ?_)
      intro v2 w6 hown2 hg2 hloc2
      rw [← World.size_alloc Z3 (.cells #[.int .i64 l] 3)] at hloc2
      obtain ⟨Z6, u6, ⟨hZ6, cu6, fz6⟩, T6, C6⟩ := HT5.out.growO hown2 hg2 hloc2
      obtain ⟨A6, q6, hv6, -, -, -⟩ := hown2.row
      have HEND : Hid (AtT Z6 b (n : Int) (L ++ [⟨l, d, r⟩]) d ∧ Eff I15 w' b Z6) := by
        have c1 : Chg (TOwn t (.slice (some ⟨g, 0, none⟩) n q) (.slice A2 m2 q2)) w' w3.drew := Chg.of_below (B3.out.trans (((Below.refl w3.heap.size w3).drew).mono B3.out.size))
        have c2 : Chg (TOwn t (.slice (some ⟨g, 0, none⟩) n q) (.slice A2 m2 q2)) w3.drew Z3 := Chg.of_but HB4.out (.inr (.inl rfl))
        have c3 : Chg (TOwn t (.slice (some ⟨g, 0, none⟩) n q) (.slice A2 m2 q2)) Z3 _ := Chg.of_below HBA.out
        have CC := ((c1.trans c2 fun i hi => .inl hi).trans c3 fun i hi => .inl hi).trans C6 fun i hi => .inl hi
        have T7 : RecG Z6 t (.slice (some ⟨g, 0, none⟩) n q) v2 n (L ++ [⟨l, d, r⟩]) d := ⟨by rw [List.map_append]; exact T6, HG.out, HT.out.n⟩
        refine ⟨⟨t, _, v2, n, rfl, box_later HB.out HT.out CC, T7, HLV.out⟩, eff_of HB.out HT.out CC T7 (fun j hj => .inl hj) fun j hj => ?_⟩
        rcases hloc2 with e | e
        · exact .inl (e ▸ hj)
        · rw [e] at hj
          injection hj with hj
          have h1 := B3.out.size
          have h2 : w3.heap.size ≤ Z3.heap.size := Nat.le_of_eq HB4.out.z.symm
          have h3 := HBA.out.size
          exact .inr (by omega)
      rw [show (L.map Tri.a ++ [l]).length = L.length + 1 by rw [List.length_append, List.length_map, List.length_singleton]] at hv6
      subst hv6
      clear hown2 hg2 hloc2 T6 C6 HT5 HQ HONE HLn HT4 HB4 HBA HT HB HLV HG HC HE0 HA d0 d1 d2 c41 p1 p2 p3 q1 q3 s1 s2 s3 SA VA B2
      go_wp2
      go_ret
      exact ⟨rfl, HEND.out⟩
  · rw [not_known hi] at KN HM
    have e : mayPut (n : Int) L l = false := HM.out
    rw [e] at HP
    rw [e, show putL (n : Int) L d l r = L from HP.out]
    have HE := Lib.hid (eff_refl I15 w b)
    subst hvc
    clear T H hb hrow hl hi HM HP HS HE0 OF
    generalize absW l = v at *
    go_enter Try.func10, Try.ntmps10
    go_wp2_with fail
    refine KP.mono ?_
    rintro e w' ⟨rfl, rfl⟩
    clear KP
    go_wp2_with fail
    refine (VA.out _).mono ?_
    rintro e w' ⟨rfl, rfl⟩
    go_wp2_with fail
    refine KN.out.mono ?_
    rintro e w' ⟨rfl, rfl⟩
    clear KN
    go_wp2
    go_ret
    exact ⟨rfl, HA.out, HE.out⟩
end
end Go.Proofs.Ytomkdegajhijjaa.Tra
