/- The landed heap's exported functions walked: Len, Has, Score, Grow, New, Push, Pop, Raise. Condition: as Prog14 asks. -/
import Derived.Test.YtclbbpmofifigaaPt09
namespace Go.Proofs.Ytclbbpmofifigaa.Hep
open Go.ChangeShapes Go.WideShapes Go.ChangeAt Go.RowKit Go.Maps Circ Cw Cla
section
variable {w : World} {b : Nat} {sc ins : List Int}
set_option maxHeartbeats 4000000 in
set_option maxRecDepth 100000 in
theorem len_any (h : AtH w b sc ins) : Calls Try.prog 14 #[.pointer (some ⟨b, 0, none⟩)] w fun e w' => e = .returned (.int .i64 (ins.length : Int)) ∧ Below w.heap.size w w' := by
  obtain ⟨t, vc, vo, pl, h, hb, T, H⟩ := h
  obtain ⟨-, c1⟩ := T.cells
  obtain ⟨go, qo, rfl, -, -, -, -⟩ := T.ord (by simp)
  have hl := H.few
  rw [List.length_cons] at c1
  rw [← H.p.length_eq]
  have KP := kept_any w b t hb
  generalize h.length = n at *
  have hn : (n : Int) ≤ 262144 := by omega
  have hn0 : (0 : Int) ≤ (n : Int) := by omega
  clear T H hb hl
  go_enter Try.func14, Try.ntmps14
  go_wp2_with fail
  refine KP.mono ?_
  rintro e w' ⟨rfl, rfl⟩
  clear KP
  go_wp2
  go_ret
  exact ⟨by go_num, Below.refl _ _⟩
set_option maxHeartbeats 4000000 in
set_option maxRecDepth 100000 in
theorem score_any (h : AtH w b sc ins) (x : Int) (hx : I64 x) : Calls Try.prog 16 #[.pointer (some ⟨b, 0, none⟩), .int .i64 x] w fun e w' => e = .returned (.int .i64 (scoreV sc x)) ∧ Below w.heap.size w w' := by
  obtain ⟨t, vc, vo, pl, h, hb, T, H⟩ := h
  obtain ⟨c0, -⟩ := T.cells
  obtain ⟨A, q, rfl, hq1, hq2, hrow⟩ := T.row
  have KP := kept_any w b t hb
  have KN := Lib.hid (knows_any t sc.length q A x w c0)
  have HS : Hid (scoreV sc x = if (decide (0 ≤ x) && decide (x < (sc.length : Int))) = true then scoreM sc x else 0) := rfl
  obtain ⟨r, hr⟩ : ∃ r, scoreV sc x = r := ⟨_, rfl⟩
  rw [hr] at HS ⊢
  clear hr
  by_cases hi : 0 ≤ x ∧ x < (sc.length : Int)
  · obtain ⟨h0, h1⟩ := hi
    obtain ⟨m, rfl⟩ : ∃ m : Nat, x = (m : Int) := ⟨x.toNat, by omega⟩
    obtain ⟨g, rfl, cc, -⟩ := hrow (by omega)
    obtain ⟨cx, -⟩ := cc m (by omega)
    rw [decide_eq_true h0, decide_eq_true h1, Bool.and_self] at KN HS
    have HR : Hid (r = at0 sc m) := by have := HS.out; rw [if_pos rfl] at this; exact this
    generalize at0 sc m = s at *
    clear T H hb cc hrow HS hx
    go_enter Try.func16, Try.ntmps16
    go_wp2_with fail
    refine KP.mono ?_
    rintro e w' ⟨rfl, rfl⟩
    clear KP
    go_wp2_with fail
    refine KN.out.mono ?_
    rintro e w' ⟨rfl, rfl⟩
    clear KN
    go_wp2
    go_ret
    exact ⟨by rw [HR.out]; rfl, Below.refl _ _⟩
  · have hd : (decide (0 ≤ x) && decide (x < (sc.length : Int))) = false := by
      rw [Bool.and_eq_false_iff, decide_eq_false_iff_not, decide_eq_false_iff_not]; omega
    rw [hd] at KN HS
    have HR : Hid (r = 0) := by have := HS.out; rw [if_neg (by decide)] at this; exact this
    clear T H hb hrow HS hx hd hi
    go_enter Try.func16, Try.ntmps16
    go_wp2_with fail
    refine KP.mono ?_
    rintro e w' ⟨rfl, rfl⟩
    clear KP
    go_wp2_with fail
    refine KN.out.mono ?_
    rintro e w' ⟨rfl, rfl⟩
    clear KN
    go_wp2
    go_ret
    exact ⟨by rw [HR.out]; rfl, Below.refl _ _⟩
set_option maxHeartbeats 4000000 in
set_option maxRecDepth 100000 in
theorem has_any (h : AtH w b sc ins) (x : Int) (hx : I64 x) : Calls Try.prog 15 #[.pointer (some ⟨b, 0, none⟩), .int .i64 x] w fun e w' => e = .returned (.bool (hasM ins x)) ∧ Below w.heap.size w w' := by
  obtain ⟨t, vc, vo, pl, h, hb, T, H⟩ := h
  obtain ⟨c0, -⟩ := T.cells
  obtain ⟨A, q, rfl, hq1, hq2, hrow⟩ := T.row
  have KP := kept_any w b t hb
  have KN := Lib.hid (knows_any t sc.length q A x w c0)
  by_cases hi : 0 ≤ x ∧ x < (sc.length : Int)
  · obtain ⟨h0, h1⟩ := hi
    obtain ⟨m, rfl⟩ : ∃ m : Nat, x = (m : Int) := ⟨x.toNat, by omega⟩
    obtain ⟨g, rfl, cc, -⟩ := hrow (by omega)
    obtain ⟨-, cx⟩ := cc m (by omega)
    rw [decide_eq_true h0, decide_eq_true h1, Bool.and_self] at KN
    rw [H.has (by omega)]
    generalize at0 pl m = p at *
    clear T H hb cc hrow hx
    go_enter Try.func15, Try.ntmps15
    go_wp2_with fail
    refine KP.mono ?_
    rintro e w' ⟨rfl, rfl⟩
    clear KP
    go_wp2_with fail
    refine KN.out.mono ?_
    rintro e w' ⟨rfl, rfl⟩
    clear KN
    go_wp2
    go_ret
    exact ⟨rfl, Below.refl _ _⟩
  · have hd : (decide (0 ≤ x) && decide (x < (sc.length : Int))) = false := by
      rw [Bool.and_eq_false_iff, decide_eq_false_iff_not, decide_eq_false_iff_not]; omega
    rw [hd] at KN
    rw [H.out hi]
    clear T H hb hrow hx hd hi
    go_enter Try.func15, Try.ntmps15
    go_wp2_with fail
    refine KP.mono ?_
    rintro e w' ⟨rfl, rfl⟩
    clear KP
    go_wp2_with fail
    refine KN.out.mono ?_
    rintro e w' ⟨rfl, rfl⟩
    clear KN
    go_wp2
    go_ret
    exact ⟨rfl, Below.refl _ _⟩
theorem cell_info : (Try.prog.info? 46).map (fun i => (i.zero, i.size, i.bytes)) = some (some (.agg #[.int .i64 0, .int .i64 0]), 2, 16) := by kernel_rfl
/-- what lengthening leaves -/
theorem run_grow (W : World) (v : Value) (pl : List Int) (ty : TypeId) (k : Nat) (hl : pl.length = sc.length) (ho : W.ownsRow 0 46 2 v sc.length (flat sc pl)) (hk : 0 < k) (hs : sc.length + k ≤ 262144) :
    ∃ v' w', (Builtin.append_ #[47, 3] ty #[v, .int .i64 (k : Int)]).run Try.prog W = .ok v' w' ∧ w'.ownsRow 0 46 2 v' (sc ++ List.replicate k 0).length (flat (sc ++ List.replicate k 0) (pl ++ List.replicate k 0)) ∧ W.grownBy w' v.ownBlock ∧ (v'.ownBlock = v.ownBlock ∨ v'.ownBlock = some W.heap.size) := by
  obtain ⟨i, hi, hz, hsz, hby⟩ := info_parts cell_info
  have := run_append_zeros_own (P := Try.prog) W k hk 0 47 3 ty 46 i (.agg #[.int .i64 0, .int .i64 0]) 2 16 Try.underlying47 .i64 .i64 Try.underlying3 hi hz hsz hby rfl (by decide) (fun u hu => by
    rw [show (Value.agg #[.int .i64 0, .int .i64 0]).cells = #[.int .i64 0, .int .i64 0] from rfl, zero_cells] at hu
    have key : ∀ n : Nat, ∀ u ∈ flat (List.replicate n 0) (List.replicate n 0), u.oneCell' = true := fun n => by
      induction n with
      | zero => intro u hu; exact (List.not_mem_nil hu).elim
      | succ n ih =>
        intro u hu
        rw [List.replicate_succ] at hu
        rcases List.mem_cons.1 hu with rfl | hu
        · rfl
        · rcases List.mem_cons.1 hu with rfl | hu
          · rfl
          · exact ih u hu
    exact key k u hu) v sc.length (flat sc pl) ho (by unfold maxLen; omega) (by omega) (Nat.zero_le _)
  obtain ⟨v', w', h1, h2, h3, h4⟩ := this
  refine ⟨v', w', h1, ?_, h3, h4⟩
  rw [List.length_append, List.length_replicate, flat_app sc pl _ _ hl, ← zero_cells]
  exact h2
theorem Holds.grow {pl h : List Int} (H : Holds sc pl h ins) (k : Nat) (hs : sc.length + k ≤ 262144) : Holds (sc ++ List.replicate k 0) (pl ++ List.replicate k 0) h ins := by
  have hg := H.g.grow k
  refine ⟨by rw [List.length_append, List.length_replicate]; exact hg, H.o.same fun j jl => ?_, H.p, by rw [List.length_append, List.length_replicate]; exact hs, fun i => ?_⟩
  · have := H.g.range (at0 h j) (by rw [at0_get jl]; exact List.getElem_mem jl)
    show at0 (sc ++ List.replicate k 0) _ = at0 sc _
    rw [at0_app, if_pos (by omega)]
  · rw [at0_app, at0_zeros]
    split
    · exact H.s i
    · decide
set_option maxHeartbeats 4000000 in
set_option maxRecDepth 100000 in
theorem grow_any (h : AtH w b sc ins) (n : Int) (n0 : -9223372036854775808 ≤ n) (n1 : n ≤ 8) (hs : sc.length ≤ 1000) : Calls Try.prog 13 #[.pointer (some ⟨b, 0, none⟩), .int .i64 n] w fun e w' => e = .returned (.tuple #[]) ∧ AtH w' b (sc ++ List.replicate n.toNat 0) ins ∧ Eff I14 w b w' := by
  have HA := Lib.hid h
  obtain ⟨t, vc, vo, pl, h, hb, T, H⟩ := h
  obtain ⟨c0, -⟩ := T.cells
  obtain ⟨A, q, hvc, hq1, hq2, -⟩ := T.row
  have KP := kept_any w b t hb
  by_cases hn : 0 < n
  · obtain ⟨k, rfl⟩ : ∃ k : Nat, n = (k : Int) := ⟨n.toNat, by omega⟩
    rw [Int.toNat_natCast]
    have hk : 0 < k := by omega
    have hmin : ¬ (262144 : Int) - (sc.length : Int) < (k : Int) := by omega
    obtain ⟨v1, w1, h1, h2, h3, h4⟩ := run_grow w vc pl 47 k T.len T.oc hk (by omega)
    obtain ⟨T2, C2, hu, hf⟩ := T.growC (by rw [List.length_append, List.length_append, T.len]) h2 h3 h4
    obtain ⟨W2, hW2⟩ : ∃ y, w1.setCell ⟨t, 0, none⟩ v1 = y := ⟨_, rfl⟩
    rw [hW2] at T2 C2
    have HEND : Hid (AtH W2 b (sc ++ List.replicate k 0) ins ∧ Eff I14 w b W2) := by
      refine ⟨⟨t, v1, vo, _, h, box_later hb T C2, T2, H.grow k (by omega)⟩, eff_of hb T C2 T2 (fun j hj => ?_) fun j hj => .inl hj⟩
      rcases h4 with e | e
      · exact .inl (e ▸ hj)
      · rw [e] at hj
        injection hj with hj
        exact .inr (by omega)
    obtain ⟨A2, q2, hv2, -⟩ := T2.row
    generalize (sc ++ List.replicate k 0).length = N at *
    have hl0 : (0 : Int) ≤ (sc.length : Int) := by omega
    have hl1 : (sc.length : Int) ≤ 1000 := by omega
    subst hvc hv2
    clear H hb T HA n0 hs h2 h3 h4 T2 C2
    go_enter Try.func13, Try.ntmps13
    go_wp2_with fail
    refine KP.mono ?_
    rintro e w' ⟨rfl, rfl⟩
    clear KP
    go_wp2_with (at_builtin; refine Lib.wpList_append_run _ rfl (.tmp 22) (.tmp 23) _ _ rfl _ _ rfl rfl _ _ h1 ?_)
    clear h1
    go_wp2
    go_end0
    exact ⟨rfl, HEND.out⟩
  · have e : List.replicate n.toNat (0 : Int) = [] := by rw [show n.toNat = 0 by omega]; rfl
    rw [e, List.append_nil]
    have hmin : ¬ (262144 : Int) - (sc.length : Int) < n := by omega
    have hl0 : (0 : Int) ≤ (sc.length : Int) := by omega
    have hl1 : (sc.length : Int) ≤ 1000 := by omega
    subst hvc
    clear H hb T e hs
    go_enter Try.func13, Try.ntmps13
    go_wp2_with fail
    refine KP.mono ?_
    rintro e w' ⟨rfl, rfl⟩
    clear KP
    go_wp2
    go_end0
    exact ⟨rfl, HA.out, eff_refl _ _ _⟩
end
set_option maxHeartbeats 4000000 in
set_option maxRecDepth 100000 in
theorem new_any (n : Int) (w : World) (n0 : -9223372036854775808 ≤ n) (n1 : n ≤ 8) : Calls Try.prog 6 #[.int .i64 n] w fun e w' => (∃ b, e = .returned (.pointer (some ⟨b, 0, none⟩)) ∧ AtH w' b (List.replicate n.toNat 0) [] ∧ ∀ k, ownH w' b k → w.heap.size ≤ k) ∧ Below w.heap.size w w' := by
  have EM := Lib.hid (empty_any w)
  go_enter Try.func6, Try.ntmps6
  go_wp2_with fail
  refine EM.out.mono ?_
  rintro e w1 ⟨t, vo, rfl, T, ht, hv, hb⟩
  obtain ⟨W2, hW2⟩ : ∃ y, w1.alloc (.cells #[.pointer (some ⟨t, 0, none⟩)] 42) = y := ⟨_, rfl⟩
  have b2 : Below w1.heap.size w1 W2 := by rw [← hW2]; exact (Below.refl _ _).alloc (Nat.le_refl _) _
  have hbx : BoxH W2 w1.heap.size t := by unfold BoxH; rw [← hW2]; exact Array.getElem?_push_size
  have T2 := T.below b2
  have A2 : AtH W2 w1.heap.size [] [] := ⟨t, _, vo, [], [], hbx, T2, Good.start 0, fun j _ jl => absurd jl (by simp), List.Perm.refl _, by simp, fun i => by simp [at0]⟩
  have GA := Lib.hid (grow_any A2 n n0 n1 (by simp))
  have HO : Hid (∀ k, ownH W2 w1.heap.size k → w.heap.size ≤ k) := fun k hk => by
    rcases (own_iff hbx T2 k).1 hk with rfl | rfl | e | e
    · exact hb.size
    · exact ht
    · simp [Value.ownBlock] at e
    · exact hv k e
  have HB2 : Hid (Below w.heap.size w W2) := hb.trans (b2.mono hb.size)
  clear EM T ht hv hb b2 hbx T2 A2
  go_wp2_with fail
  refine GA.out.mono ?_
  rintro e w3 ⟨rfl, hA, hE⟩
  rw [List.nil_append] at hA
  have H3 := Lib.hid hA
  have HO3 : Hid (∀ k, ownH w3 w1.heap.size k → w.heap.size ≤ k) := fun k hk => by
    rcases hE.own k hk with e | e
    · exact HO.out k e
    · exact Nat.le_trans HB2.out.size e
  have HB3 : Hid (Below w.heap.size w w3) := ⟨hE.os.trans HB2.out.os, hE.tape.trans HB2.out.tape, hE.output.trans HB2.out.output, Nat.le_trans HB2.out.size hE.size, fun k hk => (hE.other k (Nat.lt_of_lt_of_le hk HB2.out.size) (fun ho => by have := HO.out k ho; omega)).trans (HB2.out.block k hk)⟩
  clear GA hA hE
  go_wp2
  go_ret
  exact ⟨⟨_, rfl, H3.out, HO3.out⟩, HB3.out⟩
end Go.Proofs.Ytclbbpmofifigaa.Hep
