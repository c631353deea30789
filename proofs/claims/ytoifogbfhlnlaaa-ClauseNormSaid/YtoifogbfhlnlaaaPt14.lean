/- Resolve, Same, and all that the laws of layer 10 ask of the program's own functions. Condition: clauses have at most 2^44 numbers together. -/
import Derived.Test.YtoifogbfhlnlaaaPt13
import Derived.Test.YtoifogbfhlnlaaaPt06
namespace Go.Proofs.Ytoifogbfhlnlaaa.Cla
open Go.ChangeShapes Go.WideShapes Go.ChangeAt Go.RowKit Go.Maps Go.Sort Go.Shelf Circ Cw

theorem equal_any (a b : List Int) (A B : Option Addr) (q r : Nat) (w : World) (ha : ILies w w.heap.size A a) (hb : ILies w w.heap.size B b) :
    Calls Try.prog 26 #[.slice A a.length q, .slice B b.length r] w fun e w' => e = .returned (.bool (decide (a = b))) ∧ Below w.heap.size w w' := by
  by_cases hl : a.length = b.length
  · rcases row_cells ha.row with rfl | ⟨b1, o1, rfl, -, h1⟩
    · have hb0 : b = [] := List.eq_nil_of_length_eq_zero hl.symm
      subst hb0
      refine (Try.slices_Equal_int_empty A B q 0 r w (by decide)).mono ?_
      rintro e w' ⟨rfl, rfl⟩
      exact ⟨rfl, Below.refl _ _⟩
    · rcases row_cells hb.row with rfl | ⟨b2, o2, rfl, -, h2⟩
      · have ha0 : a = [] := List.eq_nil_of_length_eq_zero hl
        subst ha0
        refine (Try.slices_Equal_int_empty (some ⟨b1, o1, none⟩) B q 0 r w (by decide)).mono ?_
        rintro e w' ⟨rfl, rfl⟩
        exact ⟨rfl, Below.refl _ _⟩
      · refine (Try.slices_Equal_int b1 o1 a.length q b2 o2 b.length r a b w (Nat.le_refl _) (Nat.le_refl _) ha.len hb.len h1 h2).mono ?_
        rintro e w' ⟨rfl, qq, rfl⟩
        refine ⟨?_, below_drewN' (Below.refl _ _) qq⟩
        rw [List.take_length, List.take_length]
        rw [show (a == b) = decide (a = b) from by rw [Bool.eq_iff_iff]; simp]
  · refine (Try.slices_Equal_int_lens A B a.length q b.length r w hl).mono ?_
    rintro e w' ⟨rfl, rfl⟩
    rw [show decide (a = b) = false from decide_eq_false (fun e => hl (by rw [e]))]
    exact ⟨rfl, Below.refl _ _⟩
set_option maxHeartbeats 4000000 in
set_option maxRecDepth 100000 in
theorem same_any (a b : List Int) (A B : Option Addr) (q r : Nat) (w : World) (ha : ILies w w.heap.size A a) (hb : ILies w w.heap.size B b) (hya : a.length * 8 ≤ 140737488355328) (hyb : b.length * 8 ≤ 140737488355328) :
    Calls Try.prog 13 #[.slice A a.length q, .slice B b.length r] w fun e w' => e = .returned (.bool (decide (normM a = normM b))) ∧ Below w.heap.size w w' := by
  have N1 := Lib.hid (norm_any a A q w ha hya)
  have N2 : Hid (∀ X, Below w.heap.size w X → _) := fun X hX => norm_any b B r X ((hb.below hX).more hX.size) hyb
  have HS : Hid (∀ A1 B1 q1 r1 X, ILies X X.heap.size A1 (normM a) → ILies X X.heap.size B1 (normM b) → _) := fun A1 B1 q1 r1 X h1 h2 => equal_any (normM a) (normM b) A1 B1 q1 r1 X h1 h2
  clear ha hb hya hyb
  generalize decide (normM a = normM b) = y at *
  generalize normM a = na at *
  generalize normM b = nb at *
  generalize alwaysM a = ya at *
  generalize alwaysM b = yb at *
  go_enter Try.func13, Try.ntmps13
  go_wp2_with fail
  refine N1.out.mono ?_
  rintro e w1 ⟨⟨A1, q1, rfl, h1⟩, hb1⟩
  have B1 := Lib.hid hb1
  have L1 := Lib.hid h1
  clear h1 hb1 N1
  go_wp2_with fail
  refine (N2.out w1 B1.out).mono ?_
  rintro e w2 ⟨⟨A2, q2, rfl, h2⟩, hb2⟩
  have B2 : Hid (Below w.heap.size w w2) := B1.out.trans (hb2.mono B1.out.size)
  have EQ := Lib.hid (HS.out A1 A2 q1 q2 w2 ((L1.out.below hb2).more hb2.size) h2)
  clear h2 hb2 N2 HS L1
  go_wp2_with fail
  refine EQ.out.mono ?_
  rintro e w3 ⟨rfl, hb3⟩
  have B3 : Hid (Below w.heap.size w w3) := B2.out.trans (hb3.mono B2.out.size)
  clear hb3 EQ
  go_wp2
  go_ret
  exact ⟨rfl, B3.out⟩
set_option maxHeartbeats 8000000 in
set_option maxRecDepth 100000 in
theorem resolve_any (a b : List Int) (A B : Option Addr) (q r : Nat) (v : Int) (w : World) (ha : ILies w w.heap.size A a) (hb : ILies w w.heap.size B b) (hv : I64 v) (hab : (a.length + b.length) * 8 ≤ 140737488355328) :
    Calls Try.prog 7 #[.slice A a.length q, .slice B b.length r, .int .i64 v] w fun e w' => (∃ A' q', e = .returned (.tuple #[.slice A' (rL a b v).length q', .int .i64 (rE a b v)]) ∧ ILies w' w'.heap.size A' (rL a b v)) ∧ Below w.heap.size w w' := by
  have NILW : Hid (∀ X : World, ILies X X.heap.size none []) := fun X => ILies.nil _ _ _
  by_cases h1 : v < 1
  · have hok : resOk a b v = false := by unfold resOk; rw [decide_eq_false (by omega)]; rfl
    have e1 : rL a b v = [] := by unfold rL; rw [if_neg (by rw [hok]; decide)]
    have e2 : rE a b v = 71 := by unfold rE; rw [if_neg (by rw [hok]; decide)]
    rw [e1, e2]
    have hd : decide (v < 1) = true := decide_eq_true h1
    clear e1 e2 hok ha hb hv hab
    go_enter Try.func7, Try.ntmps7
    go_wp2
    go_ret2
    exact ⟨⟨none, 0, rfl, NILW.out _⟩, Below.refl _ _⟩
  · have hd : decide (v < 1) = false := decide_eq_false h1
    have C1 := Lib.hid (contains_any a A q v w.heap.size w ha.row ha.len)
    cases hca : a.contains v with
    | false =>
      have hok : resOk a b v = false := by unfold resOk; rw [hca]; simp
      have e1 : rL a b v = [] := by unfold rL; rw [if_neg (by rw [hok]; decide)]
      have e2 : rE a b v = 71 := by unfold rE; rw [if_neg (by rw [hok]; decide)]
      rw [e1, e2]
      rw [hca] at C1
      clear e1 e2 hok ha hb hv hab hca
      go_enter Try.func7, Try.ntmps7
      go_wp2_with (go_at_call 14; refine C1.out.mono ?_; rintro e w' ⟨rfl, rfl⟩)
      go_ret2
      exact ⟨⟨none, 0, rfl, NILW.out _⟩, Below.refl _ _⟩
    | true =>
      have hneg : wrap64 (-v) = -v := by obtain ⟨v0, v1⟩ := hv; unfold wrap64; omega
      have C2 := Lib.hid (contains_any b B r (-v) w.heap.size w hb.row hb.len)
      rw [hca] at C1
      cases hcb : b.contains (-v) with
      | false =>
        have hok : resOk a b v = false := by unfold resOk; rw [hcb]; simp
        have e1 : rL a b v = [] := by unfold rL; rw [if_neg (by rw [hok]; decide)]
        have e2 : rE a b v = 71 := by unfold rE; rw [if_neg (by rw [hok]; decide)]
        rw [e1, e2]
        rw [hcb] at C2
        clear e1 e2 hok ha hb hv hab hca hcb
        go_enter Try.func7, Try.ntmps7
        go_wp2_with fail
        refine C1.out.mono ?_
        rintro e w' ⟨rfl, rfl⟩
        go_wp2_with fail
        refine C2.out.mono ?_
        rintro e w' ⟨rfl, rfl⟩
        go_wp2
        go_ret2
        exact ⟨⟨none, 0, rfl, NILW.out _⟩, Below.refl _ _⟩
      | true =>
        have hok : resOk a b v = true := by unfold resOk; rw [hca, hcb, decide_eq_true (by omega)]; rfl
        have e1 : rL a b v = resL a b v := by unfold rL; rw [if_pos hok]
        have e2 : rE a b v = 0 := by unfold rE; rw [if_pos hok]
        rw [e1, e2]
        rw [hcb] at C2
        have HRES : Hid (normM ((a.filter fun x => decide (x ≠ v)) ++ b.filter fun x => decide (x ≠ -v)) = resL a b v) := rfl
        have HFIT : Hid (∀ x ∈ (a.filter fun x => decide (x ≠ v)) ++ b.filter fun x => decide (x ≠ -v), I64 x) := fun x hx => by
          rcases List.mem_append.1 hx with h | h
          · exact ha.fits x (List.mem_filter.1 h).1
          · exact hb.fits x (List.mem_filter.1 h).1
        have HLE : Hid ((a.filter fun x => decide (x ≠ v)).length ≤ a.length ∧ (b.filter fun x => decide (x ≠ -v)).length ≤ b.length) := ⟨List.length_filter_le _ _, List.length_filter_le _ _⟩
        have HAB := Lib.hid hab
        have HA := Lib.hid ha
        have HB := Lib.hid hb
        clear e1 e2 hok ha hb hv hab hca hcb
        have ON1 : Hid (∀ (v0 : Value) (base bx : Nat) (X : World), OwnI X base v0 [] → LRow X base 1 A (ints a) → base ≤ X.heap.size → X.heap[bx]? = some (.cells #[.int .i64 v] 3 (0, 0)) → v0.ownBlock ≠ some bx →
            Calls Try.prog 15 #[v0, .slice A a.length q, .func (.func 28) #[] #[.pointer (some ⟨bx, 0, none⟩)]] X fun e w' => (∃ v', e = .returned v' ∧ OwnI w' base v' (a.filter fun x => decide (x ≠ v))) ∧ Below base X w') := fun v0 base bx X h1 h2 h3 h4 h5 => by
          have := only_any base v0 [] a A q v bx X h1 h2 h3 HA.out.len h4 h5 (by have := HAB.out; simp; omega)
          simpa only [List.nil_append] using this
        have ON2 : Hid (∀ (v0 : Value) (base bx : Nat) (X : World), OwnI X base v0 (a.filter fun x => decide (x ≠ v)) → LRow X base 1 B (ints b) → base ≤ X.heap.size → X.heap[bx]? = some (.cells #[.int .i64 (-v)] 3 (0, 0)) → v0.ownBlock ≠ some bx →
            Calls Try.prog 15 #[v0, .slice B b.length r, .func (.func 28) #[] #[.pointer (some ⟨bx, 0, none⟩)]] X fun e w' => (∃ v', e = .returned v' ∧ OwnI w' base v' ((a.filter fun x => decide (x ≠ v)) ++ b.filter fun x => decide (x ≠ -v))) ∧ Below base X w') := fun v0 base bx X h1 h2 h3 h4 h5 =>
          only_any base v0 _ b B r (-v) bx X h1 h2 h3 HB.out.len h4 h5 (by have := HAB.out; have := HLE.out; omega)
        generalize hfa : (a.filter fun x => decide (x ≠ v)) = fa at *
        generalize hfb : (b.filter fun x => decide (x ≠ -v)) = fb at *
        clear hfa hfb
        have hnw : Hid (normM (fa ++ fb) = resL a b v) := HRES
        generalize resL a b v = rl at *
        clear HRES
        have I1 := Lib.hid (isnot_any v)
        have I2 := Lib.hid (isnot_any (-v))
        go_enter Try.func7, Try.ntmps7
        go_wp2_with fail
        refine C1.out.mono ?_
        rintro e w' ⟨rfl, hw'⟩
        obtain rfl := hw'.symm
        go_wp2_with fail
        refine C2.out.mono ?_
        rintro e w' ⟨rfl, hw'⟩
        obtain rfl := hw'.symm
        clear hw'
        go_wp2_with fail
        refine (I1.out w).mono ?_
        rintro e W1 ⟨rfl, hW1⟩
        have b1 : Below w.heap.size w W1 := by rw [hW1]; exact (Below.refl _ _).alloc (Nat.le_refl _) _
        have s1 : W1.heap.size = w.heap.size + 1 := by rw [hW1]; simp
        have q1 : W1.heap[w.heap.size]? = some (.cells #[.int .i64 v] 3 (0, 0)) := by rw [hW1]; exact Array.getElem?_push_size
        have O1 := Lib.hid (ON1.out (.slice none 0 0) W1.heap.size w.heap.size W1 (OwnI.nil _ _) ((HA.out.row.below b1).more (by omega)) (Nat.le_refl _) q1 (by simp [Value.ownBlock]))
        have BB1 := Lib.hid b1
        clear hW1 b1 s1 q1 ON1
        go_wp2_with fail
        refine O1.out.mono ?_
        rintro e w2 ⟨⟨v1, rfl, ho1⟩, hb2⟩
        have BB2 : Hid (Below W1.heap.size W1 w2) := hb2
        have HO1 := Lib.hid ho1
        clear O1 hb2 ho1
        go_wp2_with fail
        refine (I2.out w2).mono ?_
        rintro e W3 ⟨rfl, hW3⟩
        have b3 : Below w2.heap.size w2 W3 := by rw [hW3]; exact (Below.refl _ _).alloc (Nat.le_refl _) _
        have q3 : W3.heap[w2.heap.size]? = some (.cells #[.int .i64 (-v)] 3 (0, 0)) := by rw [hW3]; exact Array.getElem?_push_size
        have bw3 : Below W1.heap.size W1 W3 := BB2.out.trans (b3.mono BB2.out.size)
        have O2 := Lib.hid (ON2.out v1 W1.heap.size w2.heap.size W3 (HO1.out.keep b3) (((HB.out.row.below BB1.out).more BB1.out.size).below bw3) bw3.size q3 (fun e => by have := (HO1.out.block_lt _ e).2; omega))
        have BB3 := Lib.hid bw3
        clear hW3 b3 q3 bw3 ON2 HO1 BB2
        go_wp2_with fail
        refine O2.out.mono ?_
        rintro e w4 ⟨⟨v2, rfl, ho2⟩, hb4⟩
        have BB4 : Hid (Below w.heap.size w w4) := BB1.out.trans ((BB3.out.trans hb4).mono BB1.out.size)
        obtain ⟨A2, q2, rfl, hrow, -, -⟩ := ho2.row
        have NM := Lib.hid (norm_any (fa ++ fb) A2 q2 w4 ⟨hrow, HFIT.out, by have := HLE.out; have := HAB.out; rw [List.length_append]; omega⟩ (by have := HLE.out; have := HAB.out; rw [List.length_append]; omega))
        rw [hnw.out] at NM
        clear O2 ho2 hrow hb4 BB1 BB3 hnw HFIT
        generalize alwaysM (fa ++ fb) = yy at *
        generalize (fa ++ fb).length = nn at *
        go_wp2_with fail
        refine NM.out.mono ?_
        rintro e w5 ⟨⟨A5, q5, rfl, h5⟩, hb5⟩
        have BB5 : Hid (Below w.heap.size w w5) := BB4.out.trans (hb5.mono BB4.out.size)
        have H5 := Lib.hid h5
        clear NM h5 hb5
        go_wp2
        go_ret2
        exact ⟨⟨A5, q5, rfl, H5.out⟩, BB5.out⟩
/-- all that the laws ask of the program -/
theorem prog10 : Prog10 17592186044416 where
  norm a A q w ha hn := norm_any a A q w ha (by omega)
  resolve a b A B q r v w ha hb hv hn := resolve_any a b A B q r v w ha hb hv (by omega)
  subsumes a b A B q r w ha hb hn := subsumes_any a b A B q r w ha hb (by omega)
  same a b A B q r w ha hb hna hnb := same_any a b A B q r w ha hb (by omega) (by omega)
end Go.Proofs.Ytoifogbfhlnlaaa.Cla
