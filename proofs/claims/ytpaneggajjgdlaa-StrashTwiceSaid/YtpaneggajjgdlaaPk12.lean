/- The walk of strash.hashing; no condition but that the numbers fit. Lists of numbers put one behind the other by slices.Concat, walked; no condition but that there are not too many. What hangs on what is told, of ands in order; hashed again they stay; no program is named here, no condition. -/
import Derived.Test.YtpaneggajjgdlaaPk11
import Derived.Test.YtpaneggajjgdlaaPk05
import Derived.Test.YtpaneggajjgdlaaPk08
import Derived.Lib.AppendZeros
import Derived.Test.YtpaneggajjgdlaaPk04
namespace Go.Proofs.Ytpaneggajjgdlaa.Str
open Go.ChangeShapes Go.WideShapes Go.ChangeAt Go.RowKit Go.Maps Circ Cw

/- one operation changes the world, into one of which P holds -/
structure Last (k : Nat) (W0 : World) (P : World → Prop) (d : Nat → Bool) (w : World) : Prop where
  c0 : d k = false → w = W0
  c1 : d k = true → P w
theorem Last.start (k : Nat) (W0 : World) (P : World → Prop) : Last k W0 P (fun _ => false) W0 := ⟨fun _ => rfl, fun h => by cases h⟩
theorem Last.read {k : Nat} {W0 w : World} {P : World → Prop} {d : Nat → Bool} (h : Last k W0 P d w) {i : Nat} (hi : k ≠ i) : Last k W0 P (fun j => decide (j = i) || d j) w := by
  obtain ⟨a, b⟩ := h
  constructor <;> simp only [hi, decide_false, Bool.false_or] <;> assumption
theorem Last.did {k : Nat} (W0 : World) {w : World} {P : World → Prop} (d : Nat → Bool) (h : P w) : Last k W0 P (fun j => decide (j = k) || d j) w := ⟨(by simp), fun _ => h⟩
theorem op_call2s (a : Act) (w : World) (f t s T S : Nat) (hf : ∀ args w, (callFunc f args).run Try.prog w = .ok (.enter f args) w) (oo : Oper) (ho : oo.op = .call { callee := .value (.func f), args := #[.tmp t, .tmp s], argTypes := #[T, S] }) : (execOp a.eval oo).run Try.prog w = .ok (.enter f #[a.tmps.getD t undef, a.tmps.getD s undef]) w := by
  unfold execOp
  rw [ho]
  go_simp
theorem op_build_tri (a : Act) (w : World) (x y z : Int) (i j k : Nat) (h1 : a.tmps.getD i undef = .int .i64 x) (h2 : a.tmps.getD j undef = .int .i64 y) (h3 : a.tmps.getD k undef = .int .i64 z) (oo : Oper) (ho : oo.op = .build 43 #[(0, .tmp i), (1, .tmp j), (2, .tmp k)]) : (execOp a.eval oo).run Try.prog w = .ok (.value (.agg #[.int .i64 x, .int .i64 y, .int .i64 z])) w := by
  have h1' : a.tmps[i]?.getD undef = .int .i64 x := by simpa using h1
  have h2' : a.tmps[j]?.getD undef = .int .i64 y := by simpa using h2
  have h3' : a.tmps[k]?.getD undef = .int .i64 z := by simpa using h3
  unfold execOp
  rw [ho]
  go_simp
/- all numbers fit -/
structure FitH (h : Hs) : Prop where
  f : ∀ v s, h.F v = some s → I64 s
  g : ∀ q s, h.G q = some s → I64 s
theorem of_fit {F : Int → Option Int} (hF : ∀ v s, F v = some s → I64 s) {x : Int} (hx : I64 x) : I64 (ofM F x) := by
  cases hq : F (cnt x / 2) with
  | none => rw [of_none hq]; exact hx
  | some s =>
    rw [of_some hq]
    have hs := hF _ _ hq
    obtain ⟨b0, b1⟩ := cnt_bd s hs.2
    split
    · unfold opp I64; split <;> omega
    · exact hs
theorem step_fit {h : Hs} (H : FitH h) {t : Tri} (ht : t.fits) : FitH (stepM h t) := by
  have hb := of_fit H.f ht.2.1
  have hc := of_fit H.f ht.2.2
  cases hq : goneM h (ofM h.F t.b) (ofM h.F t.c) with
  | some s =>
    rw [step_some hq]
    have hs : I64 s := by
      unfold goneM at hq
      cases hp : plainM (ofM h.F t.b) (ofM h.F t.c) with
      | some y =>
        rw [hp] at hq
        simp only [Option.some_or, Option.some.injEq] at hq
        subst hq
        obtain ⟨y0, y1⟩ := cnt_bd _ hb.2
        obtain ⟨z0, z1⟩ := cnt_bd _ hc.2
        have := plain_bd hp
        unfold I64; omega
      | none =>
        rw [hp] at hq
        simp only [Option.none_or] at hq
        exact H.g _ _ hq
    refine ⟨fun v s' hv => ?_, H.g⟩
    simp only at hv
    split at hv
    · cases hv; exact hs
    · exact H.f v s' hv
  | none =>
    rw [step_none hq]
    refine ⟨H.f, fun q s hv => ?_⟩
    simp only at hv
    split at hv
    · cases hv; exact ht.1
    · exact H.g q s hv
theorem run_fit (l : List Tri) (hl : ∀ t ∈ l, t.fits) (k : Nat) (hk : k ≤ l.length) : FitH (runM (l.take k)) := by
  induction k with
  | zero => exact ⟨fun _ _ h => (by cases h), fun _ _ h => (by cases h)⟩
  | succ k ih =>
    rw [List.take_succ_eq_append_getElem (by omega), runM_snoc]
    exact step_fit (ih (by omega)) (hl _ (List.getElem_mem _))
theorem run_len (l : List Tri) (k : Nat) : (runM (l.take k)).st.length ≤ k := by
  induction k with
  | zero => exact Nat.le_refl _
  | succ k ih =>
    by_cases hk : k < l.length
    · rw [List.take_succ_eq_append_getElem hk, runM_snoc]
      generalize runM (l.take k) = h at *
      unfold stepM
      split <;> simp <;> omega
    · rw [List.take_of_length_le (by omega)]
      rw [List.take_of_length_le (by omega)] at ih
      omega
theorem op_field_api_And_1 (a : Act) (w : World) (b : Nat) (t : Nat) (h : a.tmps.getD t undef = .pointer (some ⟨b, 0, none⟩)) (oo : Oper) (ho : oo.op = .fieldAddr 43 (.tmp t) 1) : (execOp a.eval oo).run Try.prog w = .ok (.value (.pointer (some ⟨b, 1, none⟩))) w := by
  have h' : a.tmps[t]?.getD undef = .pointer (some ⟨b, 0, none⟩) := by simpa using h
  unfold execOp
  rw [ho]
  go_simp
theorem op_field_api_And_2 (a : Act) (w : World) (b : Nat) (t : Nat) (h : a.tmps.getD t undef = .pointer (some ⟨b, 0, none⟩)) (oo : Oper) (ho : oo.op = .fieldAddr 43 (.tmp t) 2) : (execOp a.eval oo).run Try.prog w = .ok (.value (.pointer (some ⟨b, 2, none⟩))) w := by
  have h' : a.tmps[t]?.getD undef = .pointer (some ⟨b, 0, none⟩) := by simpa using h
  unfold execOp
  rw [ho]
  go_simp
/-- what operation j of the region leaves -/
def hsg5R (p g5 : Nat) (x y z y' z' : Int) : Nat → (Nat → Value) → World → Prop
  | 0, f, _ => f 17 = .pointer (some ⟨p, 0, none⟩)
  | 1, f, _ => f 18 = .pointer (some ⟨g5, 0, none⟩)
  | 2, f, _ => f 19 = .int .i64 x
  | 3, f, _ => f 20 = .pointer (some ⟨p, 0, none⟩)
  | 4, f, _ => f 21 = .pointer (some ⟨g5, 1, none⟩)
  | 5, f, _ => f 22 = .int .i64 y
  | 6, f, _ => f 23 = .int .i64 y'
  | 7, f, _ => f 24 = .pointer (some ⟨p, 0, none⟩)
  | 8, f, _ => f 25 = .pointer (some ⟨g5, 2, none⟩)
  | 9, f, _ => f 26 = .int .i64 z
  | 10, f, _ => f 27 = .int .i64 z'
  | 11, f, _ => f 28 = .agg #[.int .i64 x, .int .i64 y', .int .i64 z']
  | 12, _, _ => True
  | _, _, _ => True
def hsg5M : Nat → List Nat
  | 0 => [17]
  | 1 => [18]
  | 2 => [19]
  | 3 => [20]
  | 4 => [21]
  | 5 => [22]
  | 6 => [23]
  | 7 => [24]
  | 8 => [25]
  | 9 => [26]
  | 10 => [27]
  | 11 => [28]
  | 12 => []
  | _ => []
theorem hsg5_stab {p g5 : Nat} {x y z y' z' : Int} (jj : Nat) {f f' : Nat → Value} {w w' : World}  (hf : ∀ t ∈ hsg5M jj, f' t = f t) (h : hsg5R p g5 x y z y' z' jj f w) : hsg5R p g5 x y z y' z' jj f' w' := by
  match jj, hf, h with
  | 0, hf, h => exact (hf 17 (by decide)).trans h
  | 1, hf, h => exact (hf 18 (by decide)).trans h
  | 2, hf, h => exact (hf 19 (by decide)).trans h
  | 3, hf, h => exact (hf 20 (by decide)).trans h
  | 4, hf, h => exact (hf 21 (by decide)).trans h
  | 5, hf, h => exact (hf 22 (by decide)).trans h
  | 6, hf, h => exact (hf 23 (by decide)).trans h
  | 7, hf, h => exact (hf 24 (by decide)).trans h
  | 8, hf, h => exact (hf 25 (by decide)).trans h
  | 9, hf, h => exact (hf 26 (by decide)).trans h
  | 10, hf, h => exact (hf 27 (by decide)).trans h
  | 11, hf, h => exact (hf 28 (by decide)).trans h
  | 12, _, _ => trivial
  | _ + 13, _, _ => trivial

set_option maxHeartbeats 16000000 in
set_option maxRecDepth 100000 in
theorem hashing_any (c : Cir) (s : Places) (w : World) (h : CLies w w.heap.size c s) (hf : CFits c s) (hlen : c.ands.length ≤ 1099511627776) :
    Calls Try.prog 33 #[cirV c s] w fun e w' => (∃ p m1 m2 v, e = .returned (.pointer (some ⟨p, 0, none⟩)) ∧ HsAt w' w.heap.size p m1 m2 v (runM c.ands) c.ands.length) ∧ Below w.heap.size w w' := by
  have hmm := @run_makeMap Try.prog
  obtain ⟨WA, hWA⟩ : ∃ x, w.alloc (.cells (cirC c s) 27) = x := ⟨_, rfl⟩
  obtain ⟨WB, hWB⟩ : ∃ x, WA.alloc (.map #[] 0) = x := ⟨_, rfl⟩
  obtain ⟨WC, hWC⟩ : ∃ x, WB.alloc (.map #[] 0) = x := ⟨_, rfl⟩
  obtain ⟨WD, hWD⟩ : ∃ x, WC.alloc (.cells #[.map (some WA.heap.size), .map (some WB.heap.size), .slice none 0 0] 65) = x := ⟨_, rfl⟩
  have sA : WA.heap.size = w.heap.size + 1 := by rw [← hWA]; simp
  have sB : WB.heap.size = WA.heap.size + 1 := by rw [← hWB]; simp
  have sC : WC.heap.size = WB.heap.size + 1 := by rw [← hWC]; simp
  have bA : Below w.heap.size w WA := by rw [← hWA]; exact (Below.refl _ _).alloc (Nat.le_refl _) _
  have bB : Below w.heap.size w WB := by rw [← hWB]; exact bA.alloc bA.size _
  have bC : Below w.heap.size w WC := by rw [← hWC]; exact bB.alloc bB.size _
  have bD : Below w.heap.size w WD := by rw [← hWD]; exact bC.alloc bC.size _
  have hm1 := IsVars.made WA
  rw [hWB] at hm1
  have hm1' : IsVars WD WA.heap.size (fun _ => none) 0 := by
    have e1 : WC.heap[WA.heap.size]? = WB.heap[WA.heap.size]? := by rw [← hWC]; exact Below.heap_alloc _ _ _ (by omega)
    have e2 : WD.heap[WA.heap.size]? = WC.heap[WA.heap.size]? := by rw [← hWD]; exact Below.heap_alloc _ _ _ (by omega)
    exact hm1.keep (e2.trans e1)
  have hm2 := IsPairs.made WB
  rw [hWC] at hm2
  have hm2' : IsPairs WD WB.heap.size (fun _ => none) 0 := by
    have e2 : WD.heap[WB.heap.size]? = WC.heap[WB.heap.size]? := by rw [← hWD]; exact Below.heap_alloc _ _ _ (by omega)
    exact hm2.keep e2
  have hp : WD.heap[WC.heap.size]? = some (.cells #[.map (some WA.heap.size), .map (some WB.heap.size), .slice none 0 0] 65 (0, 0)) := by rw [← hWD]; exact Array.getElem?_push_size
  have HS0 : HsAt WD w.heap.size WC.heap.size WA.heap.size WB.heap.size (.slice none 0 0) (runM (c.ands.take 0)) 0 :=
    ⟨hp, hm1', hm2', OwnC.nil _ _ _ _, ⟨by omega, by omega, by omega⟩, by omega, fun k hk => by simp [Value.ownBlock] at hk⟩
  obtain ⟨p, hpp⟩ : ∃ x, WC.heap.size = x := ⟨_, rfl⟩
  obtain ⟨m1, hm11⟩ : ∃ x, WA.heap.size = x := ⟨_, rfl⟩
  obtain ⟨m2, hm22⟩ : ∃ x, WB.heap.size = x := ⟨_, rfl⟩
  have e6 : WD.cell? ⟨w.heap.size, 6, none⟩ = some (.slice s.aa c.ands.length s.ka) := by
    have g0 : WA.heap[w.heap.size]? = some (.cells (cirC c s) 27 (0, 0)) := by rw [← hWA]; exact Array.getElem?_push_size
    have g1 : WB.heap[w.heap.size]? = WA.heap[w.heap.size]? := by rw [← hWB]; exact Below.heap_alloc _ _ _ (by omega)
    have g2 : WC.heap[w.heap.size]? = WB.heap[w.heap.size]? := by rw [← hWC]; exact Below.heap_alloc _ _ _ (by omega)
    have g3 : WD.heap[w.heap.size]? = WC.heap[w.heap.size]? := by rw [← hWD]; exact Below.heap_alloc _ _ _ (by omega)
    have g4 := g3.trans (g2.trans (g1.trans g0))
    simp [World.cell?, g4, cirC]
  rw [hpp, hm11, hm22] at HS0
  rw [hm11, hm22] at hWD
  have HS := Lib.hid HS0
  have BD := Lib.hid bD
  have LW : Hid (∀ x, Below w.heap.size w x → LRow x w.heap.size 3 s.aa (tris c.ands)) := fun x hx => h.ands.below hx
  have HA := Lib.hid hf.ands
  have HLA := Lib.hid hlen
  have RF : Hid (∀ k, k ≤ c.ands.length → FitH (runM (c.ands.take k))) := fun k hk => run_fit c.ands hf.ands k hk
  have EO : Hid (∀ args w, (callFunc 34 args).run Try.prog w = .ok (.enter 34 args) w) := enters_of Try.func34 (by kernel_rfl) rfl
  have EA : Hid (∀ args w, (callFunc 73 args).run Try.prog w = .ok (.enter 73 args) w) := enters_of Try.func73 (by kernel_rfl) rfl
  clear h hf hlen sA sB sC bA bB bC bD hm1 hm1' hm2 hm2' hp HS0
  unfold cirV cirC at *
  go_enter Try.func33, Try.ntmps33
  go_wp2
  go_loopw [13] (fun i wr => ∃ (k : Nat) (v : Value), k ≤ c.ands.length ∧ i = .int .i64 k ∧ HsAt wr w.heap.size p m1 m2 v (runM (c.ands.take k)) k ∧ Below w.heap.size w wr) (fun i _ => c.ands.length - (intOf i).toNat)
  case atStart => exact ⟨0, _, Nat.zero_le _, rfl, HS.out, BD.out⟩
  case round =>
    obtain ⟨k, v, hk, rfl, hS, hb⟩ := hrel
    have HSR := Lib.hid hS
    have HBR := Lib.hid hb
    clear hS hb
    have hla := HLA.out
    by_cases hlt : k < c.ands.length
    · obtain ⟨b, o, ha, hbb, hx0, hx1, hx2⟩ := (LW.out _ HBR.out).tri hlt
      have hfit := HA.out c.ands[k] (List.getElem_mem _)
      have HST : Hid (runM (c.ands.take (k + 1)) = stepM (runM (c.ands.take k)) c.ands[k]) := by unfold Hid; rw [List.take_succ_eq_append_getElem hlt, runM_snoc]
      have FK := RF.out k hk
      have LK := run_len c.ands k
      generalize c.ands[k] = t at *
      obtain ⟨x, y, z⟩ := t
      obtain ⟨i0, i1, i2⟩ := hfit
      simp only at hx0 hx1 hx2 i0 i1 i2
      obtain ⟨W4, hW4⟩ : ∃ q, wr.alloc (.cells #[.int .i64 0, .int .i64 0, .int .i64 0] 43) = q := ⟨_, rfl⟩
      obtain ⟨g5, hg5⟩ : ∃ q, wr.heap.size = q := ⟨_, rfl⟩
      have hbz : ∀ x, But wr.heap.size W4 x → Below wr.heap.size wr x := fun x hx => hx.below (by rw [← hW4]; exact (Below.refl _ _).alloc (Nat.le_refl _) _) (Nat.le_refl _)
      have g4 : W4.heap[wr.heap.size]? = some (.cells #[.int .i64 0, .int .i64 0, .int .i64 0] 43 (0, 0)) := by rw [← hW4]; exact Array.getElem?_push_size
      rw [hg5] at g4
      have hbz2 : ∀ x, But g5 W4 x → Below wr.heap.size wr x := fun x hx => hbz x (by rw [hg5]; exact hx)
      obtain ⟨Y1, Y2, W5, u0, u1, u2, ⟨s0, q0, f0⟩, ⟨s1, q1, f1⟩, ⟨s2, q2, f2⟩, E5, FC⟩ := store3 g4 rfl (.int .i64 x) (.int .i64 y) (.int .i64 z)
      have b5 : Below wr.heap.size wr W5 := hbz2 W5 FC
      have H5 := HSR.out.below b5
      have B5 : Hid (Below w.heap.size w W5) := HBR.out.trans (b5.mono HBR.out.size)
      have H5d : HsAt W5.drew w.heap.size p m1 m2 v (runM (c.ands.take k)) k := H5.keep fun k hk => rfl
      have OFy := Lib.hid (of_any p m1 k _ y W5.drew H5d.cells.1 H5d.f i1 FK.f)
      have OFz := Lib.hid (of_any p m1 k _ z W5.drew H5d.cells.1 H5d.f i2 FK.f)
      have AD := Lib.hid (add_any w.heap.size p m1 m2 k v (runM (c.ands.take k)) x (ofM (runM (c.ands.take k)).F y) (ofM (runM (c.ands.take k)).F z) W5.drew H5d i0 (of_fit FK.f i1) (of_fit FK.f i2) (show w.heap.size ≤ W5.heap.size from B5.out.size) FK.g (by omega) (by omega))
      obtain ⟨PP, hPP⟩ : ∃ P : World → Prop, P = fun w' => (∃ v', HsAt w' w.heap.size p m1 m2 v' (addM (runM (c.ands.take k)) ⟨x, ofM (runM (c.ands.take k)).F y, ofM (runM (c.ands.take k)).F z⟩) (k + 1)) ∧ Below w.heap.size W5.drew w' := ⟨_, rfl⟩
      have HPP := Lib.hid hPP
      rw [show (fun (e : Ending) w' => e = .returned (.tuple #[]) ∧ (∃ v', HsAt w' w.heap.size p m1 m2 v' (addM (runM (c.ands.take k)) ⟨x, ofM (runM (c.ands.take k)).F y, ofM (runM (c.ands.take k)).F z⟩) (k + 1)) ∧ Below w.heap.size W5.drew w') = fun e w' => e = .returned (.tuple #[]) ∧ PP w' by rw [hPP]] at AD
      have T0 : Hid (W5.drew.cell? ⟨g5, 0, none⟩ = some (.int .i64 x)) := (two_cells E5).1
      have T1 : Hid (W5.drew.cell? ⟨g5, 1, none⟩ = some (.int .i64 y)) := (two_cells E5).2.1
      have T2 : Hid (W5.drew.cell? ⟨g5, 2, none⟩ = some (.int .i64 z)) := (two_cells E5).2.2
      clear g4 hbz hbz2 E5 FC b5 H5 H5d FK LK i0 i1 i2 hPP HBR
      generalize s.aa = A at *
      subst ha
      go_wp2
      refine wp_region_valsE (by kernel_rfl) (by kernel_rfl) hsg5M (by kernel_rfl) (by kernel_rfl)
        (Last 12 W5.drew PP) (hsg5R p g5 x y z (ofM (runM (c.ands.take k)).F y) (ofM (runM (c.ands.take k)).F z)) (Last.start _ _ _) (fun jj f f' w w' hb hf h => hsg5_stab jj  hf h) ?_ ?_
      · intro i oo d a' w' ho hd hun hdf hok hDE K hK hK0
        match i, ho, hd, hDE, hK, hK0, hun with
        | 0, ho, hd, hDE, hK, hK0, hun =>
          have e := (congrArg Oper.op (Option.some.inj ho)).symm
          obtain rfl := Option.some.inj ho
          exact wp_val (op_move a' w' 3 _ e) (hK _ _ (Below.refl _ _) (hok.read (by decide)) (fun f h1 _ => (h1 _ rfl).trans (hun 3 (by kernel_rfl))))
        | 1, ho, hd, hDE, hK, hK0, hun =>
          have e := (congrArg Oper.op (Option.some.inj ho)).symm
          obtain rfl := Option.some.inj ho
          exact wp_val (op_field_api_And_0 a' w' _ 5 (hun 5 (by kernel_rfl)) _ e) (hK _ _ (Below.refl _ _) (hok.read (by decide)) (fun f h1 _ => h1 _ rfl))
        | 2, ho, hd, hDE, hK, hK0, hun =>
          have e := (congrArg Oper.op (Option.some.inj ho)).symm
          obtain rfl := Option.some.inj ho
          exact wp_val (op_load_int a' w' _ 18 _ (hDE 1 (by kernel_rfl)).2 (by rw [hok.c0 (hd 12 (by kernel_rfl))]; exact T0.out) _ e) (hK _ _ (Below.refl _ _) (hok.read (by decide)) (fun f h1 _ => h1 _ rfl))
        | 3, ho, hd, hDE, hK, hK0, hun =>
          have e := (congrArg Oper.op (Option.some.inj ho)).symm
          obtain rfl := Option.some.inj ho
          exact wp_val (op_move a' w' 3 _ e) (hK _ _ (Below.refl _ _) (hok.read (by decide)) (fun f h1 _ => (h1 _ rfl).trans (hun 3 (by kernel_rfl))))
        | 4, ho, hd, hDE, hK, hK0, hun =>
          have e := (congrArg Oper.op (Option.some.inj ho)).symm
          obtain rfl := Option.some.inj ho
          exact wp_val (op_field_api_And_1 a' w' _ 5 (hun 5 (by kernel_rfl)) _ e) (hK _ _ (Below.refl _ _) (hok.read (by decide)) (fun f h1 _ => h1 _ rfl))
        | 5, ho, hd, hDE, hK, hK0, hun =>
          have e := (congrArg Oper.op (Option.some.inj ho)).symm
          obtain rfl := Option.some.inj ho
          exact wp_val (op_load_int a' w' _ 21 _ (hDE 4 (by kernel_rfl)).2 (by rw [hok.c0 (hd 12 (by kernel_rfl))]; exact T1.out) _ e) (hK _ _ (Below.refl _ _) (hok.read (by decide)) (fun f h1 _ => h1 _ rfl))
        | 6, ho, hd, hDE, hK, hK0, hun =>
          have e := (congrArg Oper.op (Option.some.inj ho)).symm
          obtain rfl := Option.some.inj ho
          refine wp_enter (op_call2s a' w' _ 20 22 _ _ EO.out _ e) ?_
          rw [show a'.tmps.getD 20 undef = .pointer (some ⟨p, 0, none⟩) from (hDE 3 (by kernel_rfl)).2, show a'.tmps.getD 22 undef = .int .i64 y from (hDE 5 (by kernel_rfl)).2, hok.c0 (hd 12 (by kernel_rfl))]
          refine (OFy.out).mono ?_
          rintro e w'' ⟨rfl, rfl⟩
          exact .inl ⟨_, rfl, hK0 _ _ (by have h := hok.read (i := 6) (by decide); rw [hok.c0 (hd 12 (by kernel_rfl))] at h; exact h) (fun f h1 _ => h1 _ rfl) (fun j f hj hf hq => hsg5_stab j hf hq)⟩
        | 7, ho, hd, hDE, hK, hK0, hun =>
          have e := (congrArg Oper.op (Option.some.inj ho)).symm
          obtain rfl := Option.some.inj ho
          exact wp_val (op_move a' w' 3 _ e) (hK _ _ (Below.refl _ _) (hok.read (by decide)) (fun f h1 _ => (h1 _ rfl).trans (hun 3 (by kernel_rfl))))
        | 8, ho, hd, hDE, hK, hK0, hun =>
          have e := (congrArg Oper.op (Option.some.inj ho)).symm
          obtain rfl := Option.some.inj ho
          exact wp_val (op_field_api_And_2 a' w' _ 5 (hun 5 (by kernel_rfl)) _ e) (hK _ _ (Below.refl _ _) (hok.read (by decide)) (fun f h1 _ => h1 _ rfl))
        | 9, ho, hd, hDE, hK, hK0, hun =>
          have e := (congrArg Oper.op (Option.some.inj ho)).symm
          obtain rfl := Option.some.inj ho
          exact wp_val (op_load_int a' w' _ 25 _ (hDE 8 (by kernel_rfl)).2 (by rw [hok.c0 (hd 12 (by kernel_rfl))]; exact T2.out) _ e) (hK _ _ (Below.refl _ _) (hok.read (by decide)) (fun f h1 _ => h1 _ rfl))
        | 10, ho, hd, hDE, hK, hK0, hun =>
          have e := (congrArg Oper.op (Option.some.inj ho)).symm
          obtain rfl := Option.some.inj ho
          refine wp_enter (op_call2s a' w' _ 24 26 _ _ EO.out _ e) ?_
          rw [show a'.tmps.getD 24 undef = .pointer (some ⟨p, 0, none⟩) from (hDE 7 (by kernel_rfl)).2, show a'.tmps.getD 26 undef = .int .i64 z from (hDE 9 (by kernel_rfl)).2, hok.c0 (hd 12 (by kernel_rfl))]
          refine (OFz.out).mono ?_
          rintro e w'' ⟨rfl, rfl⟩
          exact .inl ⟨_, rfl, hK0 _ _ (by have h := hok.read (i := 10) (by decide); rw [hok.c0 (hd 12 (by kernel_rfl))] at h; exact h) (fun f h1 _ => h1 _ rfl) (fun j f hj hf hq => hsg5_stab j hf hq)⟩
        | 11, ho, hd, hDE, hK, hK0, hun =>
          have e := (congrArg Oper.op (Option.some.inj ho)).symm
          obtain rfl := Option.some.inj ho
          exact wp_val (op_build_tri a' w' _ _ _ 19 23 27 (hDE 2 (by kernel_rfl)).2 (hDE 6 (by kernel_rfl)).2 (hDE 10 (by kernel_rfl)).2 _ e) (hK _ _ (Below.refl _ _) (hok.read (by decide)) (fun f h1 _ => h1 _ rfl))
        | 12, ho, hd, hDE, hK, hK0, hun =>
          have e := (congrArg Oper.op (Option.some.inj ho)).symm
          obtain rfl := Option.some.inj ho
          refine wp_enter (op_call2s a' w' _ 17 28 _ _ EA.out _ e) ?_
          rw [show a'.tmps.getD 17 undef = .pointer (some ⟨p, 0, none⟩) from (hDE 0 (by kernel_rfl)).2, show a'.tmps.getD 28 undef = .agg #[.int .i64 x, .int .i64 (ofM (runM (c.ands.take k)).F y), .int .i64 (ofM (runM (c.ands.take k)).F z)] from (hDE 11 (by kernel_rfl)).2, hok.c0 (hd 12 (by kernel_rfl))]
          refine (AD.out).mono ?_
          rintro e w'' ⟨rfl, hw⟩
          exact .inl ⟨_, rfl, hK0 _ _ (Last.did _ _ hw) (fun f h1 h2 => trivial) (fun j f hj hf hq => hsg5_stab j hf hq)⟩
        | i + 13, ho, _, _, _, _, _ => exact absurd ho (by simp)
      · intro a' w6 hsz hdf hkt hok hR
        have HF3 := frame_sets [17, 18, 19, 20, 21, 22, 23, 24, 25, 26, 27, 28, 29] (by kernel_rfl) hsz hkt
        obtain ⟨d, hok, hall⟩ := hok
        have hP := hok.c1 (hall 12 (by decide))
        rw [HPP.out] at hP
        obtain ⟨⟨v6, h6⟩, b6⟩ := hP
        obtain ⟨tm, df⟩ := a'
        obtain rfl : df = _ := hdf
        simp only [List.foldl_cons, List.foldl_nil] at HF3
        clear hkt hR hsz
        generalize tm.getD 17 undef = y17 at HF3
        generalize tm.getD 18 undef = y18 at HF3
        generalize tm.getD 19 undef = y19 at HF3
        generalize tm.getD 20 undef = y20 at HF3
        generalize tm.getD 21 undef = y21 at HF3
        generalize tm.getD 22 undef = y22 at HF3
        generalize tm.getD 23 undef = y23 at HF3
        generalize tm.getD 24 undef = y24 at HF3
        generalize tm.getD 25 undef = y25 at HF3
        generalize tm.getD 26 undef = y26 at HF3
        generalize tm.getD 27 undef = y27 at HF3
        generalize tm.getD 28 undef = y28 at HF3
        generalize tm.getD 29 undef = y29 at HF3
        simp only [List.setIfInBounds_toArray, List.set_cons_succ, List.set_cons_zero] at HF3
        subst HF3
        have H6 : Hid (HsAt w6 w.heap.size p m1 m2 v6 (runM (c.ands.take (k + 1))) (k + 1)) := by unfold Hid; rw [HST.out, step_add]; exact h6
        have B6 : Hid (Below w.heap.size w w6) := B5.out.trans ((Below.refl _ _).drew.trans b6)
        clear hok hall h6 b6 HST
        go_wp2
        go_roundw
        case rel => exact ⟨k + 1, v6, hlt, by go_num, H6.out, B6.out⟩
        case measure => simp [intOf]; omega
    · obtain rfl : k = c.ands.length := by omega
      have HF : Hid (HsAt wr w.heap.size p m1 m2 v (runM c.ands) c.ands.length) := by have := HSR.out; rw [List.take_length] at this; exact this
      clear HSR
      go_wp2
      go_ret
      exact ⟨⟨p, m1, m2, v, rfl, HF.out⟩, HBR.out⟩
end Go.Proofs.Ytpaneggajjgdlaa.Str
namespace Go.Proofs.Ytpaneggajjgdlaa.Str
open Go.ChangeShapes Go.WideShapes Go.ChangeAt Go.RowKit Go.Maps Circ Cw

theorem iinfo : (Try.prog.info? 3).map (fun i => (i.zero, i.size, i.bytes)) = some (some (.int .i64 0), 1, 8) := by kernel_rfl
set_option maxHeartbeats 4000000 in
theorem grow_any (n : Nat) (hn : n ≤ 1073741824) (w : World) :
    Calls Try.prog 97 #[.slice none 0 0, .int .i64 n] w fun e w' => (∃ v, e = .returned v ∧ OwnI w' w.heap.size v []) ∧ Below w.heap.size w w' := by
  have h0 : decide ((n : Int) < 0) = false := by simp
  by_cases hz : n = 0
  · subst hz
    go_enter Try.func97, Try.ntmps97
    go_wp2
    go_ret
    exact ⟨⟨_, rfl, OwnI.nil _ _⟩, Below.refl _ _⟩
  · obtain ⟨i0, hi0, hz0, hz1, hz2⟩ := info_parts iinfo
    have hrun := fun ty => Lib.run_append_nil_zeros (P := Try.prog) w 22 3 ty 3 i0 (.int .i64 0) .i64 .i64 Try.underlying22 Try.underlying3 hi0 hz0 n (by omega) (by rw [hz1]; decide) (by omega) (by rw [hz2]; omega)
    have hge := grownCap_ge w n 0 3
    have hle := grownCap_le_maxLen w n 0 3 (by unfold maxLen; omega)
    have hown : OwnI (w.drew.alloc (.cells (Builtin.zeroCells (Value.int .i64 0).cells n ++ Builtin.zeroCells (Value.int .i64 0).cells (grownCap w n 0 3 - n)) 3)) w.heap.size (.slice (some ⟨w.heap.size, 0, none⟩) 0 (grownCap w n 0 3)) [] :=
      World.ownsRow_made w.drew _ _ (Nat.le_refl _) hle (by simp [Builtin.zeroCells, Value.cells]; omega)
    have hb : Below w.heap.size w (w.drew.alloc (.cells (Builtin.zeroCells (Value.int .i64 0).cells n ++ Builtin.zeroCells (Value.int .i64 0).cells (grownCap w n 0 3 - n)) 3)) := ((Below.refl _ _).drew).alloc (Nat.le_refl _) _
    have HRUN := Lib.hid hrun
    have HOW := Lib.hid hown
    have HB := Lib.hid hb
    unfold maxLen at hle
    generalize grownCap w n 0 3 = cp at *
    generalize w.drew.alloc (.cells (Builtin.zeroCells (Value.int .i64 0).cells n ++ Builtin.zeroCells (Value.int .i64 0).cells (cp - n)) 3) = W1 at *
    clear hrun hown hb hi0 hz0 hz1 hz2
    have hpos : 0 < n := by omega
    go_enter Try.func97, Try.ntmps97
    go_wp2_with (at_builtin; refine Lib.wpList_append_run _ rfl (.tmp 20) (.tmp 21) 22 3 rfl (.slice none 0 0) (.int .i64 n) rfl rfl _ _ (HRUN.out _) ?_)
    go_wp2
    go_ret
    exact ⟨⟨_, rfl, HOW.out⟩, HB.out⟩

/-- a list of numbers where it lies -/
structure Row where
  A : Option Addr
  l : List Int
  q : Nat
def Row.val (r : Row) : Value := .slice r.A r.l.length r.q
def all3 (L : List Row) : List Int := (L.map Row.l).flatten
theorem all_snoc (L : List Row) (k : Nat) (h : k < L.length) : all3 (L.take (k + 1)) = all3 (L.take k) ++ L[k].l := by
  unfold all3
  rw [List.take_succ_eq_append_getElem h, List.map_append, List.flatten_append]
  simp
theorem all_le (L : List Row) (k : Nat) : (all3 (L.take k)).length ≤ (all3 L).length := by
  have e : all3 L = all3 (L.take k) ++ all3 (L.drop k) := by unfold all3; rw [← List.flatten_append, ← List.map_append, List.take_append_drop]
  rw [e, List.length_append]; omega
set_option maxHeartbeats 8000000 in
set_option maxRecDepth 100000 in
theorem concat_any (L : List Row) (g c : Nat) (w : World) (hg : ∀ (i : Nat) (h : i < L.length), w.cell? ⟨g, i, none⟩ = some L[i].val) (hgl : L ≠ [] → g < w.heap.size) (hr : ∀ r ∈ L, LRow w w.heap.size 1 r.A (ints r.l)) (hL : L.length ≤ 1000) (hn : (all3 L).length ≤ 1048576) :
    Calls Try.prog 75 #[.slice (some ⟨g, 0, none⟩) L.length c] w fun e w' => (∃ v, e = .returned v ∧ OwnI w' w.heap.size v (all3 L)) ∧ Below w.heap.size w w' := by
  have HG : Hid (∀ x, Below w.heap.size w x → ∀ (i : Nat) (h : i < L.length), x.cell? ⟨g, i, none⟩ = some L[i].val) := fun x hx i h => (hx.cell (hgl (fun e => by subst e; simp at h))).trans (hg i h)
  have HR : Hid (∀ x, Below w.heap.size w x → ∀ r ∈ L, LRow x w.heap.size 1 r.A (ints r.l)) := fun x hx r hm => (hr r hm).below hx
  clear hg hgl hr
  go_enter Try.func75, Try.ntmps75
  go_wp2
  go_loopw [11, 3] (fun i z wr => ∃ k : Nat, k ≤ L.length ∧ i = .int .i64 k ∧ z = .int .i64 (all3 (L.take k)).length ∧ wr = w) (fun i _ _ => L.length - (intOf i).toNat)
  case atStart => exact ⟨0, Nat.zero_le _, rfl, rfl, rfl⟩
  case round =>
    obtain ⟨k, hk, rfl, rfl, rfl⟩ := hrel
    by_cases hlt : k < L.length
    · have hx := HG.out _ (Below.refl _ _) k hlt
      have HS := Lib.hid (all_snoc L k hlt)
      have hle := all_le L (k + 1)
      rw [HS.out, List.length_append] at hle
      generalize L[k] = r at *
      obtain ⟨A, l, q⟩ := r
      unfold Row.val at hx
      simp only at hx hle
      generalize hsz : (all3 (L.take k)).length = sz at *
      have hnn : decide (((sz : Int) + l.length) < 0) = false := by simp; omega
      go_wp2
      go_roundw
      case rel => exact ⟨k + 1, hlt, by go_num, by rw [HS.out, List.length_append, hsz]; simp, trivial⟩
      case measure => simp [intOf]; omega
    · obtain rfl : k = L.length := by omega
      rw [List.take_length]
      have GR := Lib.hid (grow_any (all3 L).length (by omega) wr)
      clear hlt hk
      go_wp2_with fail
      refine GR.out.mono ?_
      rintro e w1 ⟨⟨v0, rfl, how⟩, hb⟩
      have HO := Lib.hid how
      have HB := Lib.hid hb
      clear how hb GR
      go_wp2
      obtain ⟨w0, rfl⟩ : ∃ x, x = wr := ⟨_, rfl⟩
      go_loopw [27, 6] (fun i z wr => ∃ (k : Nat) (v : Value), k ≤ L.length ∧ i = .int .i64 k ∧ z = v ∧ OwnI wr w0.heap.size v (all3 (L.take k)) ∧ Below w0.heap.size w0 wr) (fun i _ _ => L.length - (intOf i).toNat)
      case atStart => exact ⟨0, v0, Nat.zero_le _, rfl, rfl, HO.out, HB.out⟩
      case round =>
        obtain ⟨k, v, hk, rfl, hzv, how, hb⟩ := hrel
        obtain rfl := hzv.symm
        have HOW := Lib.hid how
        have HBR := Lib.hid hb
        clear how hb
        by_cases hlt : k < L.length
        · have hx := HG.out _ HBR.out k hlt
          have hrow := HR.out _ HBR.out L[k] (List.getElem_mem _)
          have HS := Lib.hid (all_snoc L k hlt)
          have hle := all_le L (k + 1)
          rw [HS.out, List.length_append] at hle
          generalize L[k] = r at *
          obtain ⟨A, l, q⟩ := r
          unfold Row.val at hx
          simp only at hx hle hrow
          have hby : ((all3 (L.take k)).length + l.length) * 8 ≤ 140737488355328 := by omega
          go_wp2_with (at_builtin; refine wpList_app _ rfl (.tmp 31) (.tmp 32) rfl w0.heap.size _ v (all3 (L.take k)) l rfl HOW.out A l.length q rfl rfl hrow hby HBR.out.size ?_)
          intro v2 w2 hown2 hg2 hloc2
          have HO2 : Hid (OwnI w2 w0.heap.size v2 (all3 (L.take (k + 1)))) := by unfold Hid; rw [HS.out]; exact hown2
          have HB2 : Hid (Below w0.heap.size w0 w2) := HBR.out.trans (own_below HOW.out hg2 HBR.out.size)
          clear hown2 hg2 hloc2 hrow
          go_wp2
          go_roundw
          case rel => exact ⟨k + 1, v2, hlt, by go_num, rfl, HO2.out, HB2.out⟩
          case measure => simp [intOf]; omega
        · obtain rfl : k = L.length := by omega
          have HE : Hid (OwnI wr w0.heap.size v (all3 L)) := by have := HOW.out; rw [List.take_length] at this; exact this
          clear HOW
          go_wp2
          go_ret
          exact ⟨⟨v, rfl, HE.out⟩, HBR.out⟩
end Go.Proofs.Ytpaneggajjgdlaa.Str
namespace Go.Proofs.Ytpaneggajjgdlaa.Str
open Circ Cw

/-- the ands whose variables P tells -/
def those (P : Int → Prop) [DecidablePred P] (l : List Tri) : List Tri := l.filter fun t => decide (P (cnt t.a / 2))
theorem those_snoc (P : Int → Prop) [DecidablePred P] (l : List Tri) (t : Tri) : those P (l ++ [t]) = if P (cnt t.a / 2) then those P l ++ [t] else those P l := by
  unfold those
  rw [List.filter_append]
  split
  · rename_i h
    rw [List.filter_cons, if_pos (by simpa using h)]; rfl
  · rename_i h
    rw [List.filter_cons, if_neg (by simpa using h)]; simp
theorem those_sub (P : Int → Prop) [DecidablePred P] (l : List Tri) : (those P l).Sublist l := List.filter_sublist
/- the first and of a variable is the only one -/
end Go.Proofs.Ytpaneggajjgdlaa.Str
