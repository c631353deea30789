/- The program's need, variable, have, place, clause.Check; no condition but that a list is as long as Go's may be. clause.Check; no condition but that a list is as long as Go's may be. -/
import Derived.Test.YtefbknpoehmfaaaPb10
import Derived.Test.YtefbknpoehmfaaaPb11
import Derived.Test.YtefbknpoehmfaaaPb12
import Derived.Recover
namespace Go.Proofs.Ytefbknpoehmfaaa.For
open Go.ChangeShapes Go.WideShapes Go.ChangeAt Go.RowKit Go.Maps Circ Cw Cla Rep

def faultI (e : Int) : List PanicEntry := [{ v := .iface 51 (.agg #[.int .i64 e]), recovered := false }]
def toldI (b : Bool) (e : Int) : Ending := if b then .returned (.tuple #[]) else .panicked (faultI e)
theorem need_any (b : Bool) (x : Int) (w : World) : Calls Try.prog 24 #[.bool b, .int .i64 x] w fun e w' => e = toldI b x ∧ w = w' := by
  cases b
  · go_enter Try.func24, Try.ntmps24
    go_wp2
    exact ⟨rfl, rfl, rfl⟩
  · go_enter Try.func24, Try.ntmps24
    go_wp2
    go_end0
    exact ⟨rfl, rfl⟩
theorem need_yes (x : Int) (w : World) : Calls Try.prog 24 #[.bool true, .int .i64 x] w fun e w' => e = .returned (.tuple #[]) ∧ w = w' := need_any true x w
theorem need_no (x : Int) (w : World) : Calls Try.prog 24 #[.bool false, .int .i64 x] w fun e w' => e = .panicked (faultI x) ∧ w = w' := need_any false x w
set_option maxRecDepth 100000 in
theorem var_any (x : Int) (w : World) : Calls Try.prog 47 #[.int .i64 x] w fun e w' => e = .returned (.int .i64 (varW x)) ∧ w' = w := by
  by_cases h : x < 0
  · have hv : varW x = wrap64 (-x) := by unfold varW; rw [if_pos h]
    rw [hv]
    clear hv
    go_enter Try.func47, Try.ntmps47
    go_wp2
    go_ret
    exact ⟨rfl, rfl⟩
  · have hv : varW x = x := by unfold varW; rw [if_neg h]
    rw [hv]
    clear hv
    go_enter Try.func47, Try.ntmps47
    go_wp2
    go_ret
    exact ⟨rfl, rfl⟩
set_option maxRecDepth 100000 in
theorem cvar_any (x : Int) (w : World) : Calls Try.prog 73 #[.int .i64 x] w fun e w' => e = .returned (.int .i64 (varW x)) ∧ w' = w := by
  by_cases h : x < 0
  · have hv : varW x = wrap64 (-x) := by unfold varW; rw [if_pos h]
    rw [hv]
    clear hv
    go_enter Try.func73, Try.ntmps73
    go_wp2
    go_ret
    exact ⟨rfl, rfl⟩
  · have hv : varW x = x := by unfold varW; rw [if_neg h]
    rw [hv]
    clear hv
    go_enter Try.func73, Try.ntmps73
    go_wp2
    go_ret
    exact ⟨rfl, rfl⟩
theorem litok_var (vars x : Int) (hx : I64 x) : litOk vars x = (decide (1 ≤ varW x) && decide (varW x ≤ vars)) := by
  rw [varW_abs hx]; rfl
set_option maxRecDepth 100000 in
theorem have_any (vars x : Int) (w : World) (hx : I64 x) : Calls Try.prog 26 #[.int .i64 vars, .int .i64 x] w fun e w' => e = .returned (.bool (litOk vars x)) ∧ w' = w := by
  rw [litok_var vars x hx]
  have VA := Lib.hid (var_any x w)
  generalize varW x = y at *
  by_cases h : 1 ≤ y
  · have hd : decide (1 ≤ y) = true := decide_eq_true h
    rw [hd, Bool.true_and]
    go_enter Try.func26, Try.ntmps26
    go_wp2_with fail
    refine VA.out.mono ?_
    rintro e w' ⟨rfl, rfl⟩
    go_wp2
    go_ret
    exact ⟨rfl, rfl⟩
  · have hd : decide (1 ≤ y) = false := decide_eq_false h
    rw [hd, Bool.false_and]
    go_enter Try.func26, Try.ntmps26
    go_wp2_with fail
    refine VA.out.mono ?_
    rintro e w' ⟨rfl, rfl⟩
    go_wp2
    go_ret
    exact ⟨rfl, rfl⟩
set_option maxRecDepth 100000 in
theorem isof1_any (vars x : Int) (b : Nat) (w : World) (hx : I64 x) (hc : w.cell? ⟨b, 0, none⟩ = some (.int .i64 vars)) :
    Calls Try.prog 72 #[.int .i64 x, .pointer (some ⟨b, 0, none⟩)] w fun e w' => e = .returned (.bool (litOk vars x)) ∧ ∃ q, w' = w.drewN q := by
  rw [litok_var vars x hx]
  have VA := Lib.hid (cvar_any x w)
  generalize varW x = y at *
  by_cases h : 1 ≤ y
  · have hd : decide (1 ≤ y) = true := decide_eq_true h
    rw [hd, Bool.true_and]
    go_enter Try.func72, Try.ntmps72
    go_wp2_with fail
    refine VA.out.mono ?_
    rintro e w' ⟨rfl, rfl⟩
    go_wp2
    go_ret
    exact ⟨rfl, 0, rfl⟩
  · have hd : decide (1 ≤ y) = false := decide_eq_false h
    rw [hd, Bool.false_and]
    go_enter Try.func72, Try.ntmps72
    go_wp2_with fail
    refine VA.out.mono ?_
    rintro e w' ⟨rfl, rfl⟩
    go_wp2
    go_ret
    exact ⟨rfl, 0, rfl⟩
theorem isof_any (vars : Int) (w : World) : Calls Try.prog 67 #[.int .i64 vars] w fun e w' => e = .returned (.func (.func 72) #[] #[.pointer (some ⟨w.heap.size, 0, none⟩)]) ∧ w' = w.alloc (.cells #[.int .i64 vars] 3) := by
  go_enter Try.func67, Try.ntmps67
  go_wp2
  go_ret
  exact ⟨rfl, rfl⟩
set_option maxHeartbeats 4000000 in
set_option maxRecDepth 100000 in
/-- slices.IndexFunc over numbers: what is asked may draw or lay blocks -/
theorem idxL_any (p : Int → Bool) (g : Nat) (u : Value) (l : List Int) (A : Option Addr) (q : Nat) (w : World) (eg : ∀ args w, (callFunc g args).run Try.prog w = .ok (.enter g args) w) (h : ILies w w.heap.size A l)
    (hp : ∀ x, I64 x → ∀ W, Below w.heap.size w W → Calls Try.prog g #[.int .i64 x, u] W fun e w' => e = .returned (.bool (p x)) ∧ Below W.heap.size W w') :
    Calls Try.prog 63 #[.slice A l.length q, .func (.func g) #[] #[u]] w fun e w' => (∃ i : Int, e = .returned (.int .i64 i) ∧ decide (0 ≤ i) = l.any p) ∧ Below w.heap.size w w' := by
  have H := Lib.hid h
  have HP := Lib.hid hp
  have hll := h.len
  clear h hp
  go_enter Try.func63, Try.ntmps63
  go_wp2
  go_loopw [8] (fun i wr => ∃ j : Nat, j ≤ l.length ∧ i = .int .i64 j ∧ (l.take j).any p = false ∧ Below w.heap.size w wr) (fun i _ => l.length - (intOf i).toNat)
  case atStart => exact ⟨0, Nat.zero_le _, rfl, rfl, Below.refl _ _⟩
  case round =>
    obtain ⟨j, hj, rfl, ha, hb⟩ := hrel
    have HA := Lib.hid ha
    have HB := Lib.hid hb
    clear ha hb
    by_cases hlt : j < l.length
    · obtain ⟨b, o, hA, -, hc⟩ := LRow.int (H.out.row.below HB.out) hlt
      have hjz : (j : Int) < (l.length : Int) := by omega
      have HE := Lib.hid (HP.out l[j] (H.out.fits _ (List.getElem_mem hlt)) wr HB.out)
      have HT : Hid ((l.take (j + 1)).any p = p l[j]) := by
        unfold Hid
        rw [List.take_succ_eq_append_getElem hlt, List.any_append, HA.out]; simp
      have HY : Hid (p l[j] = true → l.any p = true) := fun h => List.any_eq_true.2 ⟨_, List.getElem_mem hlt, h⟩
      subst hA
      generalize p l[j] = r at *
      generalize l[j] = x at *
      cases r with
      | true =>
        have HX := Lib.hid (HY.out rfl)
        clear HY HT
        go_wp2_with fail
        refine HE.out.mono ?_
        rintro e w' ⟨rfl, hb⟩
        have B2 : Hid (Below w.heap.size w w') := HB.out.trans (hb.mono HB.out.size)
        clear hb HE
        go_wp2
        go_ret
        exact ⟨⟨_, rfl, by rw [HX.out]; exact decide_eq_true (by omega)⟩, B2.out⟩
      | false =>
        clear HY
        go_wp2_with fail
        refine HE.out.mono ?_
        rintro e w' ⟨rfl, hb⟩
        have B2 : Hid (Below w.heap.size w w') := HB.out.trans (hb.mono HB.out.size)
        clear hb HE
        go_wp2
        go_roundw
        case rel => exact ⟨j + 1, by omega, by go_num, HT.out, B2.out⟩
        case measure => simp [intOf]; omega
    · obtain rfl : j = l.length := by omega
      rw [List.take_length] at HA
      go_wp2
      go_ret
      exact ⟨⟨_, rfl, by rw [HA.out]; rfl⟩, HB.out⟩
set_option maxHeartbeats 4000000 in
set_option maxRecDepth 100000 in
theorem cfL_any (p : Int → Bool) (g : Nat) (u : Value) (l : List Int) (A : Option Addr) (q : Nat) (w : World) (eg : ∀ args w, (callFunc g args).run Try.prog w = .ok (.enter g args) w) (h : ILies w w.heap.size A l)
    (hp : ∀ x, I64 x → ∀ W, Below w.heap.size w W → Calls Try.prog g #[.int .i64 x, u] W fun e w' => e = .returned (.bool (p x)) ∧ Below W.heap.size W w') :
    Calls Try.prog 53 #[.slice A l.length q, .func (.func g) #[] #[u]] w fun e w' => e = .returned (.bool (l.any p)) ∧ Below w.heap.size w w' := by
  have IX := Lib.hid (idxL_any p g u l A q w eg h hp)
  clear h hp
  generalize l.any p = r at *
  go_enter Try.func53, Try.ntmps53
  go_wp2_with fail
  refine IX.out.mono ?_
  rintro e w' ⟨⟨i, rfl, hi⟩, hb⟩
  have B2 := Lib.hid hb
  have HI := Lib.hid hi
  clear hb IX hi
  go_wp2
  go_ret
  exact ⟨by rw [← HI.out]; rfl, B2.out⟩
set_option maxHeartbeats 4000000 in
set_option maxRecDepth 100000 in
/-- slices.IndexFunc over numbers: what is asked may draw or lay blocks -/
theorem idxF_any (p : Int → Bool) (g : Nat) (u : Value) (l : List Int) (A : Option Addr) (q : Nat) (w : World) (eg : ∀ args w, (callFunc g args).run Try.prog w = .ok (.enter g args) w) (h : ILies w w.heap.size A l)
    (hp : ∀ x, I64 x → ∀ W, Below w.heap.size w W → Calls Try.prog g #[u, .int .i64 x] W fun e w' => e = .returned (.bool (p x)) ∧ Below W.heap.size W w') :
    Calls Try.prog 63 #[.slice A l.length q, .func (.func g) #[u] #[]] w fun e w' => (∃ i : Int, e = .returned (.int .i64 i) ∧ decide (0 ≤ i) = l.any p) ∧ Below w.heap.size w w' := by
  have H := Lib.hid h
  have HP := Lib.hid hp
  have hll := h.len
  clear h hp
  go_enter Try.func63, Try.ntmps63
  go_wp2
  go_loopw [8] (fun i wr => ∃ j : Nat, j ≤ l.length ∧ i = .int .i64 j ∧ (l.take j).any p = false ∧ Below w.heap.size w wr) (fun i _ => l.length - (intOf i).toNat)
  case atStart => exact ⟨0, Nat.zero_le _, rfl, rfl, Below.refl _ _⟩
  case round =>
    obtain ⟨j, hj, rfl, ha, hb⟩ := hrel
    have HA := Lib.hid ha
    have HB := Lib.hid hb
    clear ha hb
    by_cases hlt : j < l.length
    · obtain ⟨b, o, hA, -, hc⟩ := LRow.int (H.out.row.below HB.out) hlt
      have hjz : (j : Int) < (l.length : Int) := by omega
      have HE := Lib.hid (HP.out l[j] (H.out.fits _ (List.getElem_mem hlt)) wr HB.out)
      have HT : Hid ((l.take (j + 1)).any p = p l[j]) := by
        unfold Hid
        rw [List.take_succ_eq_append_getElem hlt, List.any_append, HA.out]; simp
      have HY : Hid (p l[j] = true → l.any p = true) := fun h => List.any_eq_true.2 ⟨_, List.getElem_mem hlt, h⟩
      subst hA
      generalize p l[j] = r at *
      generalize l[j] = x at *
      cases r with
      | true =>
        have HX := Lib.hid (HY.out rfl)
        clear HY HT
        go_wp2_with fail
        refine HE.out.mono ?_
        rintro e w' ⟨rfl, hb⟩
        have B2 : Hid (Below w.heap.size w w') := HB.out.trans (hb.mono HB.out.size)
        clear hb HE
        go_wp2
        go_ret
        exact ⟨⟨_, rfl, by rw [HX.out]; exact decide_eq_true (by omega)⟩, B2.out⟩
      | false =>
        clear HY
        go_wp2_with fail
        refine HE.out.mono ?_
        rintro e w' ⟨rfl, hb⟩
        have B2 : Hid (Below w.heap.size w w') := HB.out.trans (hb.mono HB.out.size)
        clear hb HE
        go_wp2
        go_roundw
        case rel => exact ⟨j + 1, by omega, by go_num, HT.out, B2.out⟩
        case measure => simp [intOf]; omega
    · obtain rfl : j = l.length := by omega
      rw [List.take_length] at HA
      go_wp2
      go_ret
      exact ⟨⟨_, rfl, by rw [HA.out]; rfl⟩, HB.out⟩
set_option maxHeartbeats 4000000 in
set_option maxRecDepth 100000 in
theorem cfF_any (p : Int → Bool) (g : Nat) (u : Value) (l : List Int) (A : Option Addr) (q : Nat) (w : World) (eg : ∀ args w, (callFunc g args).run Try.prog w = .ok (.enter g args) w) (h : ILies w w.heap.size A l)
    (hp : ∀ x, I64 x → ∀ W, Below w.heap.size w W → Calls Try.prog g #[u, .int .i64 x] W fun e w' => e = .returned (.bool (p x)) ∧ Below W.heap.size W w') :
    Calls Try.prog 53 #[.slice A l.length q, .func (.func g) #[u] #[]] w fun e w' => e = .returned (.bool (l.any p)) ∧ Below w.heap.size w w' := by
  have IX := Lib.hid (idxF_any p g u l A q w eg h hp)
  clear h hp
  generalize l.any p = r at *
  go_enter Try.func53, Try.ntmps53
  go_wp2_with fail
  refine IX.out.mono ?_
  rintro e w' ⟨⟨i, rfl, hi⟩, hb⟩
  have B2 := Lib.hid hb
  have HI := Lib.hid hi
  clear hb IX hi
  go_wp2
  go_ret
  exact ⟨by rw [← HI.out]; rfl, B2.out⟩
set_option maxHeartbeats 4000000 in
set_option maxRecDepth 100000 in
/-- all of a list, asked by a method value that draws or lays blocks -/
theorem allI_any (p : Int → Bool) (g : Nat) (u : Value) (l : List Int) (A : Option Addr) (q : Nat) (w : World) (hk : ∀ args w, (callFunc g args).run Try.prog w = .ok (.enter g args) w) (h : ILies w w.heap.size A l)
    (hp : ∀ x ∈ l, ∀ W, Below w.heap.size w W → Calls Try.prog g #[u, .int .i64 x] W fun e w' => e = .returned (.bool (p x)) ∧ Below W.heap.size W w') :
    Calls Try.prog 25 #[.func (.func g) #[u] #[], .slice A l.length q] w fun e w' => e = .returned (.bool (l.all p)) ∧ Below w.heap.size w w' := by
  have H := Lib.hid h
  have HP := Lib.hid hp
  have hll := h.len
  clear h hp
  go_enter Try.func25, Try.ntmps25
  go_wp2
  go_loopw [9] (fun i wr => ∃ j : Nat, j ≤ l.length ∧ i = .int .i64 j ∧ (l.take j).all p = true ∧ Below w.heap.size w wr) (fun i _ => l.length - (intOf i).toNat)
  case atStart => exact ⟨0, Nat.zero_le _, rfl, rfl, Below.refl _ _⟩
  case round =>
    obtain ⟨j, hj, rfl, ha, hb⟩ := hrel
    have HA := Lib.hid ha
    have HB := Lib.hid hb
    clear ha hb
    by_cases hlt : j < l.length
    · obtain ⟨b, o, hA, -, hc⟩ := LRow.int (H.out.row.below HB.out) hlt
      have hjz : (j : Int) < (l.length : Int) := by omega
      have HE := Lib.hid (HP.out l[j] (List.getElem_mem hlt) wr HB.out)
      have HT : Hid ((l.take (j + 1)).all p = p l[j]) := by
        unfold Hid
        rw [List.take_succ_eq_append_getElem hlt, List.all_append, HA.out]; simp
      have HY : Hid (p l[j] = false → l.all p = false) := fun h => all_not hlt h
      subst hA
      generalize p l[j] = r at *
      generalize l[j] = x at *
      cases r with
      | false =>
        have HX := Lib.hid (HY.out rfl)
        clear HY HT
        go_wp2_with fail
        refine HE.out.mono ?_
        rintro e w' ⟨rfl, hb⟩
        have B2 : Hid (Below w.heap.size w w') := HB.out.trans (hb.mono HB.out.size)
        clear hb HE
        go_wp2
        go_ret
        exact ⟨by rw [HX.out]; rfl, B2.out⟩
      | true =>
        clear HY
        go_wp2_with fail
        refine HE.out.mono ?_
        rintro e w' ⟨rfl, hb⟩
        have B2 : Hid (Below w.heap.size w w') := HB.out.trans (hb.mono HB.out.size)
        clear hb HE
        go_wp2
        go_roundw
        case rel => exact ⟨j + 1, by omega, by go_num, HT.out, B2.out⟩
        case measure => simp [intOf]; omega
    · obtain rfl : j = l.length := by omega
      rw [List.take_length] at HA
      go_wp2
      go_ret
      exact ⟨by rw [HA.out]; rfl, HB.out⟩
set_option maxHeartbeats 4000000 in
set_option maxRecDepth 100000 in
/-- all of a list, asked by a method value that draws or lays blocks -/
theorem allC_any (p : Clz → Bool) (g : Nat) (u : Value) (l : List Clz) (A : Option Addr) (q : Nat) (w : World) (hk : ∀ args w, (callFunc g args).run Try.prog w = .ok (.enter g args) w) (h : ALies w w.heap.size A l)
    (hp : ∀ x ∈ l, ∀ W, Below w.heap.size w W → Calls Try.prog g #[u, .slice x.A x.l.length x.q] W fun e w' => e = .returned (.bool (p x)) ∧ Below W.heap.size W w') :
    Calls Try.prog 39 #[.func (.func g) #[u] #[], .slice A l.length q] w fun e w' => e = .returned (.bool (l.all p)) ∧ Below w.heap.size w w' := by
  have H := Lib.hid h
  have HP := Lib.hid hp
  have hll := h.len
  clear h hp
  go_enter Try.func39, Try.ntmps39
  go_wp2
  go_loopw [9] (fun i wr => ∃ j : Nat, j ≤ l.length ∧ i = .int .i64 j ∧ (l.take j).all p = true ∧ Below w.heap.size w wr) (fun i _ => l.length - (intOf i).toNat)
  case atStart => exact ⟨0, Nat.zero_le _, rfl, rfl, Below.refl _ _⟩
  case round =>
    obtain ⟨j, hj, rfl, ha, hb⟩ := hrel
    have HA := Lib.hid ha
    have HB := Lib.hid hb
    clear ha hb
    by_cases hlt : j < l.length
    · obtain ⟨b, o, hA, -, hc⟩ := (H.out.below HB.out).at hlt
      have hjz : (j : Int) < (l.length : Int) := by omega
      have HE := Lib.hid (HP.out l[j] (List.getElem_mem hlt) wr HB.out)
      have HT : Hid ((l.take (j + 1)).all p = p l[j]) := by
        unfold Hid
        rw [List.take_succ_eq_append_getElem hlt, List.all_append, HA.out]; simp
      have HY : Hid (p l[j] = false → l.all p = false) := fun h => all_not hlt h
      subst hA
      generalize p l[j] = r at *
      generalize l[j] = x at *
      cases r with
      | false =>
        have HX := Lib.hid (HY.out rfl)
        clear HY HT
        go_wp2_with fail
        refine HE.out.mono ?_
        rintro e w' ⟨rfl, hb⟩
        have B2 : Hid (Below w.heap.size w w') := HB.out.trans (hb.mono HB.out.size)
        clear hb HE
        go_wp2
        go_ret
        exact ⟨by rw [HX.out]; rfl, B2.out⟩
      | true =>
        clear HY
        go_wp2_with fail
        refine HE.out.mono ?_
        rintro e w' ⟨rfl, hb⟩
        have B2 : Hid (Below w.heap.size w w') := HB.out.trans (hb.mono HB.out.size)
        clear hb HE
        go_wp2
        go_roundw
        case rel => exact ⟨j + 1, by omega, by go_num, HT.out, B2.out⟩
        case measure => simp [intOf]; omega
    · obtain rfl : j = l.length := by omega
      rw [List.take_length] at HA
      go_wp2
      go_ret
      exact ⟨by rw [HA.out]; rfl, HB.out⟩
end Go.Proofs.Ytefbknpoehmfaaa.For
namespace Go.Proofs.Ytefbknpoehmfaaa.For
open Go.ChangeShapes Go.WideShapes Go.ChangeAt Go.RowKit Go.Maps Circ Cw Cla Rep

set_option maxRecDepth 100000 in
theorem all1_any (vars x : Int) (bx bv : Nat) (w : World) (hx : I64 x) (hc : w.cell? ⟨bx, 0, none⟩ = some (.func (.func 72) #[] #[.pointer (some ⟨bv, 0, none⟩)])) (hv : w.cell? ⟨bv, 0, none⟩ = some (.int .i64 vars)) :
    Calls Try.prog 71 #[.int .i64 x, .pointer (some ⟨bx, 0, none⟩)] w fun e w' => e = .returned (.bool (!litOk vars x)) ∧ Below w.heap.size w w' := by
  have CO := Lib.hid (isof1_any vars x bv w hx hv)
  have hk : ∀ args w, (callFunc 72 args).run Try.prog w = .ok (.enter 72 args) w := enters_of Try.func72 (by kernel_rfl) rfl
  clear hv
  generalize litOk vars x = y at *
  go_enter Try.func71, Try.ntmps71
  go_wp2_with fail
  refine CO.out.mono ?_
  rintro e w' ⟨rfl, qq, rfl⟩
  go_wp2
  go_ret
  exact ⟨rfl, below_drewN' (Below.refl _ _) qq⟩
set_option maxHeartbeats 4000000 in
set_option maxRecDepth 100000 in
theorem call_any (vars : Int) (l : List Int) (A : Option Addr) (q : Nat) (bv : Nat) (w : World) (hb : bv < w.heap.size) (hv : w.cell? ⟨bv, 0, none⟩ = some (.int .i64 vars)) (h : ILies w w.heap.size A l) :
    Calls Try.prog 66 #[.slice A l.length q, .func (.func 72) #[] #[.pointer (some ⟨bv, 0, none⟩)]] w fun e w' => e = .returned (.bool (l.all (litOk vars))) ∧ Below w.heap.size w w' := by
  obtain ⟨W1, hW1⟩ : ∃ x, w.alloc (.cells #[.func (.func 72) #[] #[.pointer (some ⟨bv, 0, none⟩)]] 55) = x := ⟨_, rfl⟩
  have b1 : Below w.heap.size w W1 := by rw [← hW1]; exact (Below.refl _ _).alloc (Nat.le_refl _) _
  have s1 : W1.heap.size = w.heap.size + 1 := by rw [← hW1]; simp
  have c1 : W1.cell? ⟨w.heap.size, 0, none⟩ = some (.func (.func 72) #[] #[.pointer (some ⟨bv, 0, none⟩)]) := by
    have hh : W1.heap[w.heap.size]? = some (.cells #[.func (.func 72) #[] #[.pointer (some ⟨bv, 0, none⟩)]] 55 (0, 0)) := by rw [← hW1]; exact Array.getElem?_push_size
    simp [World.cell?, hh]
  have v1 : W1.cell? ⟨bv, 0, none⟩ = some (.int .i64 vars) := (b1.cell (p := ⟨bv, 0, none⟩) hb).trans hv
  have CF := Lib.hid (cfL_any (fun x => !litOk vars x) 71 (.pointer (some ⟨w.heap.size, 0, none⟩)) l A q W1 (enters_of Try.func71 (by kernel_rfl) rfl) ((h.below b1).more b1.size) fun x hx W hW =>
    all1_any vars x w.heap.size bv W hx ((hW.cell (p := ⟨w.heap.size, 0, none⟩) (by show w.heap.size < _; omega)).trans c1) ((hW.cell (p := ⟨bv, 0, none⟩) (by show bv < _; omega)).trans v1))
  have HA : Hid (l.all (litOk vars) = !(l.any fun x => !litOk vars x)) := by
    unfold Hid
    rw [Bool.eq_iff_iff]; simp
  have B1 := Lib.hid b1
  rw [HA.out]
  generalize (l.any fun x => !litOk vars x) = y at *
  clear c1 s1 b1 h HA v1
  go_enter Try.func66, Try.ntmps66
  go_wp2_with fail
  refine CF.out.mono ?_
  rintro e w3 ⟨rfl, hb⟩
  have B3 : Hid (Below w.heap.size w w3) := B1.out.trans (hb.mono B1.out.size)
  clear hb CF
  go_wp2
  go_ret
  exact ⟨rfl, B3.out⟩
set_option maxHeartbeats 4000000 in
set_option maxRecDepth 100000 in
theorem ccheck_any (vars : Int) (l : List Int) (A : Option Addr) (q : Nat) (w : World) (h : ILies w w.heap.size A l) :
    Calls Try.prog 60 #[.int .i64 vars, .slice A l.length q] w fun e w' => e = .returned (.int .i64 (chk vars l)) ∧ Below w.heap.size w w' := by
  have H := Lib.hid h
  have hll := h.len
  clear h
  unfold chk
  by_cases hbig : 1024 < l.length
  · rw [if_pos hbig]
    have hbz : (1024 : Int) < (l.length : Int) := by omega
    go_enter Try.func60, Try.ntmps60
    go_wp2
    go_ret
    exact ⟨rfl, Below.refl _ _⟩
  · rw [if_neg hbig]
    have hbz : ¬ (1024 : Int) < (l.length : Int) := by omega
    obtain ⟨W1, hW1⟩ : ∃ x, w.alloc (.cells #[.int .i64 vars] 3) = x := ⟨_, rfl⟩
    have B1 : Hid (Below w.heap.size w W1) := by unfold Hid; rw [← hW1]; exact (Below.refl _ _).alloc (Nat.le_refl _) _
    have S1 : Hid (W1.heap.size = w.heap.size + 1) := by unfold Hid; rw [← hW1]; simp
    have C1 : Hid (W1.cell? ⟨w.heap.size, 0, none⟩ = some (.int .i64 vars)) := by
      have hh : W1.heap[w.heap.size]? = some (.cells #[.int .i64 vars] 3 (0, 0)) := by rw [← hW1]; exact Array.getElem?_push_size
      unfold Hid
      simp [World.cell?, hh]
    have IO := Lib.hid (isof_any vars w)
    rw [hW1] at IO
    have AL := Lib.hid (call_any vars l A q w.heap.size W1 (by rw [S1.out]; omega) C1.out ((H.out.below B1.out).more B1.out.size))
    clear S1 C1 hW1
    generalize l.all (litOk vars) = r at *
    cases r with
    | true =>
      rw [if_pos rfl]
      go_enter Try.func60, Try.ntmps60
      go_wp2_with fail
      refine IO.out.mono ?_
      rintro e w' ⟨rfl, rfl⟩
      go_wp2_with fail
      refine AL.out.mono ?_
      rintro e w3 ⟨rfl, hb⟩
      have B3 : Hid (Below w.heap.size w w3) := B1.out.trans (hb.mono B1.out.size)
      clear hb AL
      go_wp2
      go_ret
      exact ⟨rfl, B3.out⟩
    | false =>
      rw [if_neg (by decide)]
      go_enter Try.func60, Try.ntmps60
      go_wp2_with fail
      refine IO.out.mono ?_
      rintro e w' ⟨rfl, rfl⟩
      go_wp2_with fail
      refine AL.out.mono ?_
      rintro e w3 ⟨rfl, hb⟩
      have B3 : Hid (Below w.heap.size w w3) := B1.out.trans (hb.mono B1.out.size)
      clear hb AL
      go_wp2
      go_ret
      exact ⟨rfl, B3.out⟩
set_option maxRecDepth 100000 in
theorem allow_any (vars : Int) (z : Clz) (w : World) (h : z.Lies w w.heap.size) :
    Calls Try.prog 46 #[.int .i64 vars, .slice z.A z.l.length z.q] w fun e w' => e = .returned (.bool (chk vars z.l == 0)) ∧ Below w.heap.size w w' := by
  have CK := Lib.hid (ccheck_any vars z.l z.A z.q w (clz_lies h))
  clear h
  have HE : Hid (∀ x : Int, (x == 0) = decide (x = 0)) := fun x => by
    rw [Bool.eq_iff_iff]; simp
  rw [HE.out]
  generalize chk vars z.l = y at *
  go_enter Try.func46, Try.ntmps46
  go_wp2_with fail
  refine CK.out.mono ?_
  rintro e w' ⟨rfl, hb⟩
  have B3 := Lib.hid hb
  clear hb CK
  go_wp2
  go_ret
  exact ⟨rfl, B3.out⟩
end Go.Proofs.Ytefbknpoehmfaaa.For
