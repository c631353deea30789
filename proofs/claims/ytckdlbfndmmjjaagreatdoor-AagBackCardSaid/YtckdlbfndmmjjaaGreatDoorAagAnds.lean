/- The walks of aag's reading of ands; no condition. -/
import Derived.Test.YtckdlbfndmmjjaaGreatDoorAagNums
import Derived.Test.YtckdlbfndmmjjaaGreatDoorVals
namespace Go.Proofs.YtckdlbfndmmjjaaGreatDoor.Aag
open Go.ChangeShapes Go.WideShapes Go.ChangeAt Go.RowKit Dig Circ Cw

theorem infoAnd : (Tryz.prog.info? 51).map (fun i => (i.zero, i.size, i.bytes)) = some (some (.agg #[.int .i64 0, .int .i64 0, .int .i64 0]), 3, 24) := by kernel_rfl
theorem infoLat : (Tryz.prog.info? 48).map (fun i => (i.zero, i.size, i.bytes)) = some (some (.agg #[.int .i64 0, .int .i64 0, .int .i64 0]), 3, 24) := by kernel_rfl
theorem infoNam : (Tryz.prog.info? 56).map (fun i => (i.zero, i.size, i.bytes)) = some (some (.agg #[.string ⟨#[]⟩, .int .i64 0, .string ⟨#[]⟩]), 3, 40) := by kernel_rfl
theorem tris_length1 (l : List Tri) : (tris l).length = l.length := by simp [tris]
theorem tris_snoc (l : List Tri) (t : Tri) : tris l ++ [t.cells] = tris (l ++ [t]) := by simp [tris]
theorem read_error {α β : Type} {L : List (List UInt8)} {wh a : Nat} {f : List UInt8 → Option α} {g : List UInt8 → Option β} (hfg : ∀ l, f l = none → g l = none) {b : Nat × Int} (h : readAt L wh f a = .error b) : readAt L wh g a = .error b := by
  unfold readAt at h ⊢
  split at h
  · rename_i hc
    rw [if_pos hc]
    cases h; rfl
  · rename_i hc
    rw [if_neg hc]
    cases hf : f (L.getD a []) with
    | none => rw [hf] at h; cases h; rw [hfg _ hf]
    | some ns => rw [hf] at h; cases h

theorem op_move (a : Act) (w : World) (t : Nat) (oo : Oper) (ho : oo.op = .move (.tmp t)) : (execOp a.eval oo).run Tryz.prog w = .ok (.value (a.tmps.getD t undef)) w := by
  unfold execOp
  rw [ho]
  go_simp
theorem op_assign (a : Act) (w : World) (t : Nat) (oo : Oper) (ho : oo.op = .assign (.tmp t)) : (execOp a.eval oo).run Tryz.prog w = .ok (.value (a.tmps.getD t undef)) w := by
  unfold execOp
  rw [ho]
  go_simp
theorem op_index_int (a : Act) (w : World) (b o n q k : Nat) (t : Nat) (h : a.tmps.getD t undef = .slice (some ⟨b, o, none⟩) n q) (hk : k < n) (oo : Oper) (ho : oo.op = .indexAddr 22 (.tmp t) (.const (.int .i64 (k : Int)))) : (execOp a.eval oo).run Tryz.prog w = .ok (.value (.pointer (some ⟨b, o + k, none⟩))) w := by
  have h' : a.tmps[t]?.getD undef = .slice (some ⟨b, o, none⟩) n q := by simpa using h
  unfold execOp
  rw [ho]
  have h0 : (0 : Int) ≤ k := by omega
  have h1 : (k : Int) < n := by omega
  go_simp
theorem op_load_int (a : Act) (w : World) (A : Addr) (t : Nat) (v : Value) (h : a.tmps.getD t undef = .pointer (some A)) (hc : w.cell? A = some v) (oo : Oper) (ho : oo.op = .load 3 (.tmp t)) : (execOp a.eval oo).run Tryz.prog w = .ok (.value v) w := by
  have h' : a.tmps[t]?.getD undef = .pointer (some A) := by simpa using h
  unfold execOp
  rw [ho]
  go_simp
theorem op_build_and (a : Act) (w : World) (x y z : Int) (i j k : Nat) (h1 : a.tmps.getD i undef = .int .i64 x) (h2 : a.tmps.getD j undef = .int .i64 y) (h3 : a.tmps.getD k undef = .int .i64 z) (oo : Oper) (ho : oo.op = .build 51 #[(0, .tmp i), (1, .tmp j), (2, .tmp k)]) : (execOp a.eval oo).run Tryz.prog w = .ok (.value (.agg #[.int .i64 x, .int .i64 y, .int .i64 z])) w := by
  have h1' : a.tmps[i]?.getD undef = .int .i64 x := by simpa using h1
  have h2' : a.tmps[j]?.getD undef = .int .i64 y := by simpa using h2
  have h3' : a.tmps[k]?.getD undef = .int .i64 z := by simpa using h3
  unfold execOp
  rw [ho]
  go_simp
theorem op_slice_and (a : Act) (w : World) (x y z : Int) (i : Nat) (h1 : a.tmps.getD i undef = .agg #[.int .i64 x, .int .i64 y, .int .i64 z]) (oo : Oper) (ho : oo.op = .buildSlice 24 1 #[(0, .tmp i)]) : (execOp a.eval oo).run Tryz.prog w = .ok (.value (.slice (some ⟨w.heap.size, 0, none⟩) 1 1)) (w.alloc (.cells #[.int .i64 x, .int .i64 y, .int .i64 z] 51)) := by
  have h1' : a.tmps[i]?.getD undef = .agg #[.int .i64 x, .int .i64 y, .int .i64 z] := by simpa using h1
  unfold execOp
  rw [ho]
  go_simp
/-- what operation j of the region leaves that appends an and -/
def andR (T : TypeId) (W : World) (B : Nat) (v : Value) (b o : Nat) (x y z : Int) (q' : Nat) (acc : List Tri) : Nat → (Nat → Value) → World → Prop
  | 0, f, _ => f 14 = v
  | 1, f, _ => f 15 = .slice (some ⟨b, o, none⟩) 3 q'
  | 2, f, _ => f 16 = .pointer (some ⟨b, o + (0 : Nat), none⟩)
  | 3, f, _ => f 17 = .int .i64 x
  | 4, f, _ => f 18 = .slice (some ⟨b, o, none⟩) 3 q'
  | 5, f, _ => f 19 = .pointer (some ⟨b, o + (1 : Nat), none⟩)
  | 6, f, _ => f 20 = .int .i64 y
  | 7, f, _ => f 21 = .slice (some ⟨b, o, none⟩) 3 q'
  | 8, f, _ => f 22 = .pointer (some ⟨b, o + (2 : Nat), none⟩)
  | 9, f, _ => f 23 = .int .i64 z
  | 10, f, _ => f 24 = .agg #[.int .i64 x, .int .i64 y, .int .i64 z]
  | 11, f, w => ∃ g, f 25 = .slice (some ⟨g, 0, none⟩) 1 1 ∧ W.heap.size ≤ g ∧ w.heap[g]? = some (.cells #[.int .i64 x, .int .i64 y, .int .i64 z] T (0, 0))
  | 12, f, w => OwnC w B T 3 (f 26) (tris (acc ++ [⟨x, y, z⟩]))
  | 13, f, _ => f 5 = f 26
  | _, _, _ => True
def andM (j : Nat) : List Nat := if j < 13 then [14 + j] else if j = 13 then [5, 26] else []
theorem and_stab {T : TypeId} {W : World} {B : Nat} {v : Value} {b o : Nat} {x y z : Int} {q' : Nat} {acc : List Tri} (j : Nat) {f f' : Nat → Value} {w w' : World} (hb : Below w.heap.size w w') (hf : ∀ t ∈ andM j, f' t = f t) (h : andR T W B v b o x y z q' acc j f w) : andR T W B v b o x y z q' acc j f' w' := by
  match j, hf, h with
  | 0, hf, h => exact (hf 14 (by decide)).trans h
  | 1, hf, h => exact (hf 15 (by decide)).trans h
  | 2, hf, h => exact (hf 16 (by decide)).trans h
  | 3, hf, h => exact (hf 17 (by decide)).trans h
  | 4, hf, h => exact (hf 18 (by decide)).trans h
  | 5, hf, h => exact (hf 19 (by decide)).trans h
  | 6, hf, h => exact (hf 20 (by decide)).trans h
  | 7, hf, h => exact (hf 21 (by decide)).trans h
  | 8, hf, h => exact (hf 22 (by decide)).trans h
  | 9, hf, h => exact (hf 23 (by decide)).trans h
  | 10, hf, h => exact (hf 24 (by decide)).trans h
  | 11, hf, h =>
    obtain ⟨g, h1, h2, h3⟩ := h
    exact ⟨g, (hf 25 (by decide)).trans h1, h2, (hb.block g (lt_of_block h3)).trans h3⟩
  | 12, hf, h =>
    show OwnC w' B T 3 (f' 26) _
    rw [hf 26 (by decide)]; exact OwnC.keep h hb
  | 13, hf, h => exact (hf 5 (by decide)).trans (Eq.trans h (hf 26 (by decide)).symm)
  | _ + 14, _, _ => trivial
/-- the append changes no more than the list's own block -/
theorem and_stab12 {T : TypeId} {W : World} {B : Nat} {v : Value} {b o : Nat} {x y z : Int} {q' : Nat} {acc : List Tri} (j : Nat) (hj : j ≠ 12) {f f' : Nat → Value} {w w' : World} (hb : ∀ g, W.heap.size ≤ g → g < w.heap.size → w'.heap[g]? = w.heap[g]?) (hf : ∀ t ∈ andM j, f' t = f t) (h : andR T W B v b o x y z q' acc j f w) : andR T W B v b o x y z q' acc j f' w' := by
  match j, hf, h with
  | 0, hf, h => exact (hf 14 (by decide)).trans h
  | 1, hf, h => exact (hf 15 (by decide)).trans h
  | 2, hf, h => exact (hf 16 (by decide)).trans h
  | 3, hf, h => exact (hf 17 (by decide)).trans h
  | 4, hf, h => exact (hf 18 (by decide)).trans h
  | 5, hf, h => exact (hf 19 (by decide)).trans h
  | 6, hf, h => exact (hf 20 (by decide)).trans h
  | 7, hf, h => exact (hf 21 (by decide)).trans h
  | 8, hf, h => exact (hf 22 (by decide)).trans h
  | 9, hf, h => exact (hf 23 (by decide)).trans h
  | 10, hf, h => exact (hf 24 (by decide)).trans h
  | 11, hf, h =>
    obtain ⟨g, h1, h2, h3⟩ := h
    exact ⟨g, (hf 25 (by decide)).trans h1, h2, (hb g h2 (lt_of_block h3)).trans h3⟩
  | 12, _, _ => exact absurd rfl hj
  | 13, hf, h => exact (hf 5 (by decide)).trans (Eq.trans h (hf 26 (by decide)).symm)
  | _ + 14, _, _ => trivial
def TrisP (T : TypeId) (R : Nat) (A : Option Addr) (L : List (List UInt8)) (q wh : Nat) (w : World) (r : List Tri × Nat) (e : Ending) (w' : World) : Prop :=
  ∃ v, e = .returned v ∧ OwnC w' w.heap.size T 3 v (tris r.1) ∧ Src R A L q wh r.2 w' ∧ Ext R w w'
set_option maxHeartbeats 2000000 in
set_option maxRecDepth 100000 in
theorem ands_run {R : Nat} {A : Option Addr} {L : List (List UInt8)} {q wh a : Nat} (n : Nat) (w : World) (h : Src R A L q wh a w) (hn : n ≤ 1099511627776) :
    Calls Tryz.prog 43 #[.pointer (some ⟨R, 0, none⟩), .int .i64 n] w (Runs R w (manyGo L wh formAnd n a []) (TrisP 51 R A L q wh w)) := by
  have H := Lib.hid h
  have HRW : Hid (R < w.heap.size) := h.lt
  clear h
  obtain ⟨goal, hgoal⟩ : ∃ g, g = manyGo L wh formAnd n a [] := ⟨_, rfl⟩
  have HG := Lib.hid hgoal
  rw [← hgoal]
  clear hgoal
  go_enter Tryz.func43, Tryz.ntmps43
  go_wp2
  go_loopw [8, 5] (fun i v wr => ∃ (j : Nat) (vv : Value) (acc : List Tri), j ≤ n ∧ i = .int .i64 j ∧ vv = v ∧ acc.length = j ∧ goal = manyGo L wh formAnd (n - j) (a + j) acc ∧ OwnC wr w.heap.size 51 3 vv (tris acc) ∧ Src R A L q wh (a + j) wr ∧ Ext R w wr) (fun i _ _ => n - (intOf i).toNat)
  case atStart => exact ⟨0, _, [], Nat.zero_le _, rfl, rfl, rfl, HG.out, OwnC.nil _ _ _ _, H.out, Ext.refl _ _⟩
  case round =>
    obtain ⟨j, v, acc, hj, rfl, rfl, hacc, hg, how, hS, hE⟩ := hrel
    have GG := Lib.hid hg
    have HO := Lib.hid how
    have HS := Lib.hid hS
    have HE := Lib.hid hE
    have HA := Lib.hid hacc
    clear hg how hS hE hacc
    by_cases hlt : j < n
    · have NR := Lib.hid (numbers_run 3 wr HS.out)
      have hst : n - j = (n - (j + 1)) + 1 := by omega
      have GS := Lib.hid hst
      clear hst
      go_wp2_with fail
      refine NR.out.mono ?_
      intro e w2 hr
      cases hq : readAt L wh (formNums 3) (a + j) with
      | error b =>
        rw [hq] at hr
        obtain ⟨rfl, hE2⟩ := hr
        have HGE : Hid (goal = .error b) := by
          unfold Hid
          rw [GG.out, GS.out, manyGo, read_error (g := formAnd) (fun l hl => by unfold formAnd; rw [hl]; rfl) hq]
        have HX := Lib.hid (HE.out.trans hE2)
        clear hq hE2 NR
        refine ⟨rfl, ?_⟩
        exact runs_error (b := b.1) (t := b.2) HGE.out ⟨rfl, HX.out⟩
      | ok ns =>
        rw [hq] at hr
        obtain ⟨A', q', rfl, hol, hS2, hE2⟩ := hr
        have hlr := own_row hol
        obtain ⟨hca, hform⟩ := read_get hq
        obtain ⟨hl1, -, -⟩ := formNums_get 3 _ ns hform
        match ns, hl1 with
        | [x, y, z], _ =>
        have HGO : Hid (goal = manyGo L wh formAnd (n - (j + 1)) (a + (j + 1)) (acc ++ [⟨x, y, z⟩])) := by
          unfold Hid
          rw [GG.out, GS.out, manyGo]
          have : readAt L wh formAnd (a + j) = .ok ⟨x, y, z⟩ := readAt_some hca (by unfold formAnd; rw [hform]; rfl)
          rw [this]
          rfl
        obtain ⟨b, o, rfl, hbb, hx⟩ := hlr.int (k := 0) (by simp)
        obtain ⟨b1, o1, e1, -, hy⟩ := hlr.int (k := 1) (by simp)
        obtain ⟨b2, o2, e2, -, hz⟩ := hlr.int (k := 2) (by simp)
        injection e1 with e1; injection e1 with e1 e1'; subst e1; subst e1'
        injection e2 with e2; injection e2 with e2 e2'; subst e2; subst e2'
        rw [Nat.add_zero] at hx
        simp only [List.getElem_cons_zero, List.getElem_cons_succ] at hx hy hz
        have EW : Hid (Ext R w w2) := HE.out.trans hE2
        have O2 := Lib.hid (own_ext HO.out hE2 HRW.out)
        have S2 := Lib.hid hS2
        have HL : Hid ((tris acc).length ≤ 65537) := by
          have h1 := HA.out
          have h2 := HS.out.ale
          have h3 := HS.out.whl
          have h4 := HS.out.len
          unfold Hid; rw [tris_length1]; omega
        clear hE2 hS2 hlr hq hform hca NR
        simp only [List.length_cons, List.length_nil]
        have HBX : Hid (w.heap.size ≤ b ∧ some b ≠ v.ownBlock ∧ b < w2.heap.size) := by
          have h1 := hol.block_lt b rfl
          have h2 := HE.out.size
          refine ⟨by omega, fun e => ?_, h1.2⟩
          have h3 := HO.out.block_lt b e.symm
          omega
        have HON : Hid (∀ g, v.ownBlock = some g → w.heap.size ≤ g ∧ g < w2.heap.size) := fun g hg => O2.out.block_lt g hg
        clear hol
        go_wp2
        refine wp_region_vals (by kernel_rfl) (by kernel_rfl) andM (by kernel_rfl) (by kernel_rfl)
          (fun d w' => (d 12 = false → Below w2.heap.size w2 w') ∧ Below w.heap.size w2 w' ∧ ∀ k, k < w2.heap.size → some k ≠ v.ownBlock → w'.heap[k]? = w2.heap[k]?)
          (andR 51 w2 w.heap.size v b o x y z q' acc) ⟨fun _ => (Below.refl _ _).drew, (Below.refl _ _).drew, fun _ _ _ => rfl⟩ (fun j f f' w w' hb hf h => and_stab j hb hf h) ?_ ?_
        · intro i oo d a' w' ho hd hun hok hD K hK hK0
          have hcell : ∀ k, w'.cell? ⟨b, k, none⟩ = w2.cell? ⟨b, k, none⟩ := fun k => World.cell?_of_block (w := w2) (hok.2.2 b HBX.out.2.2 HBX.out.2.1)
          have okq : i ≠ 12 → ((fun j => decide (j = i) || d j) 12 = false → Below w2.heap.size w2 w') ∧ Below w.heap.size w2 w' ∧ ∀ k, k < w2.heap.size → some k ≠ v.ownBlock → w'.heap[k]? = w2.heap[k]? := fun hne =>
            ⟨fun h => hok.1 (by simp only [Bool.or_eq_false_iff] at h; exact h.2), hok.2.1, hok.2.2⟩
          match i, ho, hd, hD, hK, hK0, hun, okq with
          | 0, ho, hd, hD, hK, hK0, hun, okq =>
            have e := (congrArg Oper.op (Option.some.inj ho)).symm
            obtain rfl := Option.some.inj ho
            exact wp_val (op_move a' w' 5 _ e) (hK _ _ (Below.refl _ _) (okq (by decide)) (fun f h1 _ => (h1 _ rfl).trans (hun 5 (by kernel_rfl))))
          | 1, ho, hd, hD, hK, hK0, hun, okq =>
            have e := (congrArg Oper.op (Option.some.inj ho)).symm
            obtain rfl := Option.some.inj ho
            exact wp_val (op_move a' w' 6 _ e) (hK _ _ (Below.refl _ _) (okq (by decide)) (fun f h1 _ => (h1 _ rfl).trans (hun 6 (by kernel_rfl))))
          | 2, ho, hd, hD, hK, hK0, hun, okq =>
            have e := (congrArg Oper.op (Option.some.inj ho)).symm
            obtain rfl := Option.some.inj ho
            exact wp_val (op_index_int a' w' b o 3 q' 0 15 (hD 1 (by kernel_rfl)) (by decide) _ e) (hK _ _ (Below.refl _ _) (okq (by decide)) (fun f h1 _ => h1 _ rfl))
          | 3, ho, hd, hD, hK, hK0, hun, okq =>
            have e := (congrArg Oper.op (Option.some.inj ho)).symm
            obtain rfl := Option.some.inj ho
            exact wp_val (op_load_int a' w' _ 16 _ (hD 2 (by kernel_rfl)) ((hcell _).trans hx) _ e) (hK _ _ (Below.refl _ _) (okq (by decide)) (fun f h1 _ => h1 _ rfl))
          | 4, ho, hd, hD, hK, hK0, hun, okq =>
            have e := (congrArg Oper.op (Option.some.inj ho)).symm
            obtain rfl := Option.some.inj ho
            exact wp_val (op_move a' w' 6 _ e) (hK _ _ (Below.refl _ _) (okq (by decide)) (fun f h1 _ => (h1 _ rfl).trans (hun 6 (by kernel_rfl))))
          | 5, ho, hd, hD, hK, hK0, hun, okq =>
            have e := (congrArg Oper.op (Option.some.inj ho)).symm
            obtain rfl := Option.some.inj ho
            exact wp_val (op_index_int a' w' b o 3 q' 1 18 (hD 4 (by kernel_rfl)) (by decide) _ e) (hK _ _ (Below.refl _ _) (okq (by decide)) (fun f h1 _ => h1 _ rfl))
          | 6, ho, hd, hD, hK, hK0, hun, okq =>
            have e := (congrArg Oper.op (Option.some.inj ho)).symm
            obtain rfl := Option.some.inj ho
            exact wp_val (op_load_int a' w' _ 19 _ (hD 5 (by kernel_rfl)) ((hcell _).trans hy) _ e) (hK _ _ (Below.refl _ _) (okq (by decide)) (fun f h1 _ => h1 _ rfl))
          | 7, ho, hd, hD, hK, hK0, hun, okq =>
            have e := (congrArg Oper.op (Option.some.inj ho)).symm
            obtain rfl := Option.some.inj ho
            exact wp_val (op_move a' w' 6 _ e) (hK _ _ (Below.refl _ _) (okq (by decide)) (fun f h1 _ => (h1 _ rfl).trans (hun 6 (by kernel_rfl))))
          | 8, ho, hd, hD, hK, hK0, hun, okq =>
            have e := (congrArg Oper.op (Option.some.inj ho)).symm
            obtain rfl := Option.some.inj ho
            exact wp_val (op_index_int a' w' b o 3 q' 2 21 (hD 7 (by kernel_rfl)) (by decide) _ e) (hK _ _ (Below.refl _ _) (okq (by decide)) (fun f h1 _ => h1 _ rfl))
          | 9, ho, hd, hD, hK, hK0, hun, okq =>
            have e := (congrArg Oper.op (Option.some.inj ho)).symm
            obtain rfl := Option.some.inj ho
            exact wp_val (op_load_int a' w' _ 22 _ (hD 8 (by kernel_rfl)) ((hcell _).trans hz) _ e) (hK _ _ (Below.refl _ _) (okq (by decide)) (fun f h1 _ => h1 _ rfl))
          | 10, ho, hd, hD, hK, hK0, hun, okq =>
            have e := (congrArg Oper.op (Option.some.inj ho)).symm
            obtain rfl := Option.some.inj ho
            exact wp_val (op_build_and a' w' x y z 17 20 23 (hD 3 (by kernel_rfl)) (hD 6 (by kernel_rfl)) (hD 9 (by kernel_rfl)) _ e) (hK _ _ (Below.refl _ _) (okq (by decide)) (fun f h1 _ => h1 _ rfl))
          | 11, ho, hd, hD, hK, hK0, hun, okq =>
            have e := (congrArg Oper.op (Option.some.inj ho)).symm
            obtain rfl := Option.some.inj ho
            have q := okq (by decide)
            refine wp_val (op_slice_and a' w' x y z 24 (hD 10 (by kernel_rfl)) _ e) (hK _ _ ((Below.refl _ _).alloc (Nat.le_refl _) _) ?_ (fun f h1 _ => ⟨w'.heap.size, h1 25 rfl, hok.2.1.size, Array.getElem?_push_size⟩))
            exact ⟨fun h => (q.1 h).alloc (q.1 h).size _, q.2.1.alloc (Nat.le_trans EW.out.size q.2.1.size) _, fun k hk hne => (Below.heap_alloc _ _ _ (Nat.lt_of_lt_of_le hk q.2.1.size)).trans (q.2.2 k hk hne)⟩
          | 12, ho, hd, hD, hK, hK0, hun, okq =>
            have e := (congrArg Oper.op (Option.some.inj ho)).symm
            obtain rfl := Option.some.inj ho
            obtain ⟨g, h25, hg, hgc⟩ : ∃ g, vals a' 25 = .slice (some ⟨g, 0, none⟩) 1 1 ∧ w2.heap.size ≤ g ∧ w'.heap[g]? = some (.cells #[.int .i64 x, .int .i64 y, .int .i64 z] 51 (0, 0)) := hD 11 (by kernel_rfl)
            have hB := hok.1 (hd 12 (by kernel_rfl))
            refine step_push w' (.tmp 14) (.tmp 25) 24 e 51 3 24 _ Tryz.underlying24 infoAnd rfl (by decide) w.heap.size v (tris acc) (O2.out.keep hB) (hD 0 (by kernel_rfl)) g 1 h25 (Tri.cells ⟨x, y, z⟩) (fun j u hu => ?_) rfl (fun u hu => ?_) (by have := HL.out; omega) (by have := HL.out; omega) (Nat.le_trans EW.out.size hB.size) ?_
            · simp only [World.cell?, hgc]; simpa [Tri.cells] using hu
            · simp [Tri.cells] at hu; rcases hu with rfl | rfl | rfl <;> rfl
            intro v' w'' hown hbel hblk
            rw [tris_snoc] at hown
            refine hK0 _ _ ⟨fun h => ?_, hok.2.1.trans hbel, fun k hk hne => (hblk k (Nat.lt_of_lt_of_le hk hB.size) hne).trans (hok.2.2 k hk hne)⟩ (fun f h1 _ => ?_) (fun j f hj hf hq => and_stab12 j hj (fun g' hg' hg2 => hblk g' hg2 (fun e2 => ?_)) hf hq)
            · simp at h
            · show OwnC w'' _ _ _ (f 26) _; rw [h1 26 rfl]; exact hown
            · have := (HON.out g' e2.symm).2; omega
          | 13, ho, hd, hD, hK, hK0, hun, okq =>
            have e := (congrArg Oper.op (Option.some.inj ho)).symm
            obtain rfl := Option.some.inj ho
            refine wp_val (op_assign a' w' 26 _ e) (hK _ _ (Below.refl _ _) (okq (by decide)) (fun f h1 h2 => ?_))
            show f 5 = f 26
            rw [h1 5 rfl, h2 26 (by decide)]; rfl
          | i + 14, ho, _, _, _, _, _, _ => exact absurd ho (by simp)
        · intro a' w3 hsz hdf hkt hok hR
          obtain ⟨tm, df⟩ := a'
          obtain rfl : df = [] := hdf
          have hs : tm.size = 29 := hsz
          obtain ⟨d, hok⟩ := hok
          have k0 : tm.getD 0 undef = .pointer (some ⟨R, 0, none⟩) := hkt 0 (by decide)
          have k1 : tm.getD 1 undef = .int .i64 n := hkt 1 (by decide)
          have k2 : tm.getD 2 undef = undef := hkt 2 (by decide)
          have k3 : tm.getD 3 undef = undef := hkt 3 (by decide)
          have k4 : tm.getD 4 undef = .slice none 0 0 := hkt 4 (by decide)
          have k7 : tm.getD 7 undef = .int .i64 n := hkt 7 (by decide)
          have k8 : tm.getD 8 undef = .int .i64 j := hkt 8 (by decide)
          have k28 : tm.getD 28 undef = undef := hkt 28 (by decide)
          have k5 : tm.getD 5 undef = tm.getD 26 undef := hR 13 (by decide)
          have hown : OwnC w3 w.heap.size 51 3 (tm.getD 26 undef) (tris (acc ++ [⟨x, y, z⟩])) := hR 12 (by decide)
          have hl : tm = #[tm.getD 0 undef, tm.getD 1 undef, tm.getD 2 undef, tm.getD 3 undef, tm.getD 4 undef, tm.getD 5 undef, tm.getD 6 undef, tm.getD 7 undef, tm.getD 8 undef, tm.getD 9 undef, tm.getD 10 undef, tm.getD 11 undef, tm.getD 12 undef, tm.getD 13 undef, tm.getD 14 undef, tm.getD 15 undef, tm.getD 16 undef, tm.getD 17 undef, tm.getD 18 undef, tm.getD 19 undef, tm.getD 20 undef, tm.getD 21 undef, tm.getD 22 undef, tm.getD 23 undef, tm.getD 24 undef, tm.getD 25 undef, tm.getD 26 undef, tm.getD 27 undef, tm.getD 28 undef] := (lit_tm tm 29 hs).trans rfl
          rw [k0, k1, k2, k3, k4, k7, k8, k28, k5] at hl
          generalize tm.getD 6 undef = y6 at hl
          generalize tm.getD 9 undef = y9 at hl
          generalize tm.getD 10 undef = y10 at hl
          generalize tm.getD 11 undef = y11 at hl
          generalize tm.getD 12 undef = y12 at hl
          generalize tm.getD 13 undef = y13 at hl
          generalize tm.getD 14 undef = y14 at hl
          generalize tm.getD 15 undef = y15 at hl
          generalize tm.getD 16 undef = y16 at hl
          generalize tm.getD 17 undef = y17 at hl
          generalize tm.getD 18 undef = y18 at hl
          generalize tm.getD 19 undef = y19 at hl
          generalize tm.getD 20 undef = y20 at hl
          generalize tm.getD 21 undef = y21 at hl
          generalize tm.getD 22 undef = y22 at hl
          generalize tm.getD 23 undef = y23 at hl
          generalize tm.getD 24 undef = y24 at hl
          generalize tm.getD 25 undef = y25 at hl
          generalize tm.getD 26 undef = y26 at hl hown k5
          generalize tm.getD 27 undef = y27 at hl
          clear k0 k1 k2 k3 k4 k7 k8 k28 k5 hs hkt hR hsz
          subst hl
          have HO4 := Lib.hid hown
          have HS4 := Lib.hid (H.out.later S2.out EW.out hok.2.1)
          have HE4 := Lib.hid (EW.out.then hok.2.1)
          clear hown hok
          go_wp2
          go_roundw
          case rel => exact ⟨j + 1, _, acc ++ [⟨x, y, z⟩], by omega, by go_num, rfl, by rw [List.length_append, HA.out]; rfl, HGO.out, HO4.out, HS4.out, HE4.out⟩
          case measure => simp [intOf]; omega
    · obtain rfl : j = n := by omega
      have HGE : Hid (goal = .ok (acc, a + j)) := by
        unfold Hid
        rw [GG.out, Nat.sub_self]; rfl
      go_wp2
      go_ret
      exact runs_ok HGE.out ⟨v, rfl, HO.out, HS.out, HE.out⟩
end Go.Proofs.YtckdlbfndmmjjaaGreatDoor.Aag
