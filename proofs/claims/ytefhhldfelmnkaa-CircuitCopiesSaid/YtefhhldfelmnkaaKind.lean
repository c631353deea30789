/- circuit.Kind, and the pages' own: what they tell of any circuit and variable; no condition. -/
import Derived.Test.YtefhhldfelmnkaaGates
import Derived.Deep.Draws
import Derived.Laws.EntriesVeiled
namespace Go.Proofs.Ytefhhldfelmnkaa.Cw
open Go.ChangeShapes Go.WideShapes Go.ChangeAt Go.RowKit Circ

def isVar (v x : Int) : Bool := decide (cnt x / 2 = v)

set_option maxHeartbeats 400000 in
theorem kind1_any (x v : Int) (g B : Nat) (W w : World) (hx : I64 x) (hc : w.cell? ⟨g, 0, none⟩ = some (.int .i64 v)) (hb : Below B W w) :
    Calls Try.prog 51 #[.int .i64 x, .pointer (some ⟨g, 0, none⟩)] w fun e w' => e = .returned (.bool (isVar v x)) ∧ Below B W w' := by
  have V := Lib.hid (fun w => var_any x w hx.2)
  unfold isVar
  generalize cnt x / 2 = r at *
  go_enter Try.func51, Try.ntmps51
  go_wp2
  go_quiet ((go_at_call 38; exact Calls.quiet_of_same ((V.out _).mono (by rintro e w' ⟨rfl, rfl⟩; exact ⟨rfl, rfl⟩))))
  go_wp2
  go_ret
  exact ⟨ret_bool (by rw [Bool.beq_eq_decide_eq]), hb.os, hb.tape, hb.output, hb.size, hb.block⟩

set_option maxHeartbeats 400000 in
theorem kind2_any (t : Tri) (v : Int) (gv gf B : Nat) (W w : World) (ht : t.fits) (hcv : W.cell? ⟨gv, 0, none⟩ = some (.int .i64 v)) (hcf : W.cell? ⟨gf, 0, none⟩ = some (.func (.func 51) #[] #[.pointer (some ⟨gv, 0, none⟩)])) (hB : W.heap.size = B) (hb : Below B W w) :
    Calls Try.prog 54 #[triV t, .pointer (some ⟨gf, 0, none⟩)] w fun e w' => e = .returned (.bool (isVar v t.a)) ∧ Below B W w' := by
  subst hB
  obtain ⟨a, b, c⟩ := t
  have K := Lib.hid (fun w2 h2 => kind1_any a v gv W.heap.size W w2 ht.1 (cell_later h2 hcv) h2)
  have hcf' := cell_later hb hcf
  have hgf : gf < w.heap.size := World.block_lt_of_cell? _ _ hcf'
  unfold triV
  have hb1 := hb.alloc hb.size (.cells #[.int .i64 a, .int .i64 b, .int .i64 c] 47)
  go_enter Try.func54, Try.ntmps54
  go_wp2_with fail
  refine (K.out _ hb1).mono ?_
  rintro e w' ⟨rfl, hb2⟩
  go_wp2
  go_ret
  exact ⟨rfl, hb2⟩
set_option maxHeartbeats 400000 in
theorem kind3_any (t : Tri) (v : Int) (gv gf B : Nat) (W w : World) (ht : t.fits) (hcv : W.cell? ⟨gv, 0, none⟩ = some (.int .i64 v)) (hcf : W.cell? ⟨gf, 0, none⟩ = some (.func (.func 51) #[] #[.pointer (some ⟨gv, 0, none⟩)])) (hB : W.heap.size = B) (hb : Below B W w) :
    Calls Try.prog 56 #[triV t, .pointer (some ⟨gf, 0, none⟩)] w fun e w' => e = .returned (.bool (isVar v t.a)) ∧ Below B W w' := by
  subst hB
  obtain ⟨a, b, c⟩ := t
  have K := Lib.hid (fun w2 h2 => kind1_any a v gv W.heap.size W w2 ht.1 (cell_later h2 hcv) h2)
  have hcf' := cell_later hb hcf
  have hgf : gf < w.heap.size := World.block_lt_of_cell? _ _ hcf'
  unfold triV
  have hb1 := hb.alloc hb.size (.cells #[.int .i64 a, .int .i64 b, .int .i64 c] 40)
  go_enter Try.func56, Try.ntmps56
  go_wp2_with fail
  refine (K.out _ hb1).mono ?_
  rintro e w' ⟨rfl, hb2⟩
  go_wp2
  go_ret
  exact ⟨rfl, hb2⟩

theorem isVar_any (l : List Int) (v : Int) (hv : v ≠ 0) : l.any (isVar v) = hasVar l v := by
  unfold hasVar
  congr 1
  funext x
  unfold isVar
  by_cases h : 0 ≤ x
  · rw [cnt_pos x h]; simp [h]
  · rw [cnt_neg x (by omega)]; simp [h]; omega
theorem isTri_any (l : List Tri) (v : Int) (hv : v ≠ 0) : l.any (fun t => isVar v t.a) = hasTri l v := by
  unfold hasTri; rw [← isVar_any _ v hv, List.any_map]; rfl

set_option maxHeartbeats 2000000 in
theorem kind_any (c : Cir) (s : Places) (v : Int) (w : World) (h : CLies w w.heap.size c s) (hf : CFits c s) :
    Calls Try.prog 17 #[cirV c s, .int .i64 v] w fun e w' => e = .returned (.string (kindOf c v)) ∧ Below w.heap.size w w' := by
  have hmf : ∀ (fn : Fn) (first cap : Array Value) (w : World), (Instr.makeFunc fn first cap).run Try.prog w = .ok (.func fn first cap) w := fun _ _ _ _ => rfl
  obtain ⟨W, hW⟩ : ∃ W, W = ((w.alloc (.cells (cirC c s) 27)).alloc (.cells #[.int .i64 v] 3)).alloc (.cells #[.func (.func 51) #[] #[.pointer (some ⟨w.heap.size + 1, 0, none⟩)]] 78) := ⟨_, rfl⟩
  have hb1 : Below w.heap.size w (w.alloc (.cells (cirC c s) 27)) := (Below.refl _ _).alloc (Nat.le_refl _) _
  have hb2 := hb1.alloc hb1.size (.cells #[.int .i64 v] 3)
  have hb3 := hb2.alloc hb2.size (.cells #[.func (.func 51) #[] #[.pointer (some ⟨w.heap.size + 1, 0, none⟩)]] 78)
  rw [← hW] at hb3
  have hs1 : (w.alloc (.cells (cirC c s) 27)).heap.size = w.heap.size + 1 := by simp
  have hs2 : ((w.alloc (.cells (cirC c s) 27)).alloc (.cells #[.int .i64 v] 3)).heap.size = w.heap.size + 2 := by simp
  have hs3 : W.heap.size = w.heap.size + 3 := by rw [hW]; simp
  have bx : Box W w.heap.size c s := by
    rw [hW]
    exact ((Box.made w c s).keep ((Below.refl (w.heap.size + 1) _).alloc (Nat.le_of_eq hs1.symm) _) (Nat.lt_succ_self _)).keep ((Below.refl (w.heap.size + 1) _).alloc (by rw [hs2]; omega) _) (Nat.lt_succ_self _)
  have hcv : W.cell? ⟨w.heap.size + 1, 0, none⟩ = some (.int .i64 v) := by
    have := new_cell (w.alloc (.cells (cirC c s) 27)) #[.int .i64 v] 3 0
    rw [hs1] at this
    rw [hW, World.cell?_alloc_lt _ _ _ (by rw [hs2]; exact Nat.lt_succ_self _), this]; rfl
  have hcf : W.cell? ⟨w.heap.size + 1 + 1, 0, none⟩ = some (.func (.func 51) #[] #[.pointer (some ⟨w.heap.size + 1, 0, none⟩)]) := by
    have := new_cell ((w.alloc (.cells (cirC c s) 27)).alloc (.cells #[.int .i64 v] 3)) #[.func (.func 51) #[] #[.pointer (some ⟨w.heap.size + 1, 0, none⟩)]] 78 0
    rw [hs2] at this
    rw [hW, this]; rfl
  have li := hf.li
  have ll := hf.ll
  have la := hf.la
  have E51 : Enters Try.prog 51 := enters_of Try.func51 (by kernel_rfl) rfl
  have E54 : Enters Try.prog 54 := enters_of Try.func54 (by kernel_rfl) rfl
  have E56 : Enters Try.prog 56 := enters_of Try.func56 (by kernel_rfl) rfl
  have C1 := Lib.hid (contains52_any 51 #[.pointer (some ⟨w.heap.size + 1, 0, none⟩)] c.ins s.ai s.ki (isVar v) W (by omega) E51 ((h.ins.below hb3).more (by omega)) (fun i hi w2 h2 => kind1_any c.ins[i] v (w.heap.size + 1) W.heap.size W w2 (hf.ins _ (List.getElem_mem _)) (cell_later h2 hcv) h2))
  have C2 := Lib.hid (fun w1 (hb : Below W.heap.size W w1) => contains53_any 54 #[.pointer (some ⟨w.heap.size + 1 + 1, 0, none⟩)] c.lats s.al s.kl (fun t => isVar v t.a) w1 (by omega) E54 ((h.lats.below (hb3.trans (hb.mono (by omega)))).more (by have := hb.size; omega)) (fun i hi w2 h2 => kind2_any c.lats[i] v (w.heap.size + 1) (w.heap.size + 1 + 1) w1.heap.size w1 w2 (hf.lats _ (List.getElem_mem _)) (cell_later hb hcv) (cell_later hb hcf) rfl h2))
  have C3 := Lib.hid (fun w1 (hb : Below W.heap.size W w1) => contains55_any 56 #[.pointer (some ⟨w.heap.size + 1 + 1, 0, none⟩)] c.ands s.aa s.ka (fun t => isVar v t.a) w1 (by omega) E56 ((h.ands.below (hb3.trans (hb.mono (by omega)))).more (by have := hb.size; omega)) (fun i hi w2 h2 => kind3_any c.ands[i] v (w.heap.size + 1) (w.heap.size + 1 + 1) w1.heap.size w1 w2 (hf.ands _ (List.getElem_mem _)) (cell_later hb hcv) (cell_later hb hcf) rfl h2))
  clear h hf E51 E54 E56
  by_cases hv : v = 0
  · subst hv
    have hk : Hid (kindOf c 0 = ⟨#[48]⟩) := by unfold Hid kindOf; rw [if_pos rfl]
    have HW := Lib.hid hW
    clear hW
    unfold cirV cirC at *
    go_enter Try.func17, Try.ntmps17
    go_wp2
    go_ret
    exact ⟨ret_str (by rw [hk.out]), by rw [← HW.out]; exact hb3⟩
  have h1 := isVar_any c.ins v hv
  have h2 := isTri_any c.lats v hv
  have h3 := isTri_any c.ands v hv
  rw [h1] at C1
  rw [h2] at C2
  rw [h3] at C3
  clear h1 h2 h3
  have hk : kindOf c v = if hasVar c.ins v = true then ⟨#[105]⟩ else if hasTri c.lats v = true then ⟨#[108]⟩ else if hasTri c.ands v = true then ⟨#[97]⟩ else ⟨#[]⟩ := by unfold kindOf; rw [if_neg hv]
  have HK := Lib.hid hk
  clear hk
  generalize kindOf c v = kd at *
  generalize hasVar c.ins v = q1 at *
  generalize hasTri c.lats v = q2 at *
  generalize hasTri c.ands v = q3 at *
  have hv1 : (v == 0) = false := by simpa using hv
  obtain ⟨e0, e1, e2, e3, e4, e5, e6, e7⟩ := bx.cells
  have HB := Lib.hid bx
  have HV := Lib.hid hcv
  have HF := Lib.hid hcf
  clear bx hcv hs1 hs2
  have HS3 := Lib.hid hs3
  clear hs3
  unfold cirV cirC at *
  go_enter Try.func17, Try.ntmps17
  go_wp2_with fail
  rw [← hW]
  have HW := Lib.hid hW
  clear hW
  refine C1.out.mono ?_
  rintro e w1 ⟨rfl, hw1⟩
  have hbw1 := hb3.trans (hw1.mono (by rw [HS3.out]; omega))
  cases q1
  case true =>
    go_wp2
    go_ret
    exact ⟨ret_str HK.out.symm, hbw1⟩
  obtain ⟨a0, a1, a2, a3, a4, a5, a6, a7⟩ := (HB.out.keep hw1 (by rw [HS3.out]; omega)).cells
  have hcf1 := cell_later hw1 HF.out
  have D2 := Lib.hid (C2.out w1 hw1)
  go_wp2_with fail
  refine D2.out.mono ?_
  rintro e w2 ⟨rfl, hw2⟩
  have hw2' := hw1.trans (hw2.mono hw1.size)
  have hbw2 := hb3.trans (hw2'.mono (by rw [HS3.out]; omega))
  cases q2
  case true =>
    go_wp2
    go_ret
    exact ⟨ret_str HK.out.symm, hbw2⟩
  obtain ⟨b0, b1, b2, b3, b4, b5, b6, b7⟩ := (HB.out.keep hw2' (by rw [HS3.out]; omega)).cells
  have hcf2 := cell_later hw2' HF.out
  have D3 := Lib.hid (C3.out w2 hw2')
  go_wp2_with fail
  refine D3.out.mono ?_
  rintro e w3 ⟨rfl, hw3⟩
  have hbw3 := hb3.trans ((hw2'.trans (hw3.mono hw2'.size)).mono (by rw [HS3.out]; omega))
  cases q3
  all_goals
    go_wp2
    go_ret
    exact ⟨ret_str HK.out.symm, hbw3⟩
end Go.Proofs.Ytefhhldfelmnkaa.Cw
