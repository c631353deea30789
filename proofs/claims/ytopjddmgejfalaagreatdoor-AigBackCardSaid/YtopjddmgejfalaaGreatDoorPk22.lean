/- The walk of aig's reading of a name; no condition. -/
import Derived.Test.YtopjddmgejfalaaGreatDoorPk19
namespace Go.Proofs.YtopjddmgejfalaaGreatDoor.Aig
open Go.ChangeShapes Go.WideShapes Go.ChangeAt Go.RowKit Dig Circ Cw Aag

theorem nam5_no {l : List UInt8} (h : rdLine (wl [2]) l = none) : rdLine formNam l = none := by
  unfold rdLine at h ⊢
  cases hc : lineCut l with
  | none => rfl
  | some x =>
    rw [hc] at h
    simp only [Option.bind_some, wl] at h ⊢
    split at h
    · cases h
    · rename_i hw
      rw [formNam_no (show wordsOk [2] x.1 = false by simpa using hw)]; rfl
/-- what operation j of the region leaves -/
def anam2R (b o n q' : Nat) (b0 : UInt8) (t0 : List UInt8) : Nat → (Nat → Value) → World → Prop
  | 0, f, _ => f 11 = .slice (some ⟨b, o, none⟩) n q'
  | 1, f, _ => f 12 = .pointer (some ⟨b, o + 0, none⟩)
  | 2, f, _ => f 13 = sv (b0 :: t0)
  | 3, f, _ => f 14 = sv [b0]
  | 4, f, _ => f 15 = .slice (some ⟨b, o, none⟩) n q'
  | 5, f, _ => f 16 = .pointer (some ⟨b, o + 0, none⟩)
  | 6, f, _ => f 17 = sv (b0 :: t0)
  | 7, f, _ => f 18 = sv t0
  | 8, f, _ => f 4 = sv [b0]
  | 9, f, _ => f 5 = sv t0
  | _, _, _ => True
def anam2M : Nat → List Nat
  | 0 => [11]
  | 1 => [12]
  | 2 => [13]
  | 3 => [14]
  | 4 => [15]
  | 5 => [16]
  | 6 => [17]
  | 7 => [18]
  | 8 => [4]
  | 9 => [5]
  | _ => []
theorem anam2_stab {b o n q' : Nat} {b0 : UInt8} {t0 : List UInt8} (jj : Nat) {f f' : Nat → Value} {w w' : World}  (hf : ∀ t ∈ anam2M jj, f' t = f t) (h : anam2R b o n q' b0 t0 jj f w) : anam2R b o n q' b0 t0 jj f' w' := by
  match jj, hf, h with
  | 0, hf, h => exact (hf 11 (by decide)).trans h
  | 1, hf, h => exact (hf 12 (by decide)).trans h
  | 2, hf, h => exact (hf 13 (by decide)).trans h
  | 3, hf, h => exact (hf 14 (by decide)).trans h
  | 4, hf, h => exact (hf 15 (by decide)).trans h
  | 5, hf, h => exact (hf 16 (by decide)).trans h
  | 6, hf, h => exact (hf 17 (by decide)).trans h
  | 7, hf, h => exact (hf 18 (by decide)).trans h
  | 8, hf, h => exact (hf 4 (by decide)).trans h
  | 9, hf, h => exact (hf 5 (by decide)).trans h
  | _ + 10, _, _ => trivial
/-- what operation j of the region leaves -/
def anam3R (R : Nat) (b0 : UInt8) : Nat → (Nat → Value) → World → Prop
  | 0, f, _ => f 19 = .pointer (some ⟨R, 0, none⟩)
  | 1, f, _ => f 20 = .pointer (some ⟨R, 0, none⟩)
  | 2, f, _ => f 21 = .pointer (some ⟨R, 0, none⟩)
  | 3, f, _ => f 22 = sv [b0]
  | 4, f, _ => f 23 = .bool (kindsL.contains b0)
  | 5, _, _ => kindsL.contains b0 = true
  | _, _, _ => True
def anam3M : Nat → List Nat
  | 0 => [19]
  | 1 => [20]
  | 2 => [21]
  | 3 => [22]
  | 4 => [23]
  | 5 => []
  | _ => []
theorem anam3_stab {R : Nat} {b0 : UInt8} (jj : Nat) {f f' : Nat → Value} {w w' : World}  (hf : ∀ t ∈ anam3M jj, f' t = f t) (h : anam3R R b0 jj f w) : anam3R R b0 jj f' w' := by
  match jj, hf, h with
  | 0, hf, h => exact (hf 19 (by decide)).trans h
  | 1, hf, h => exact (hf 20 (by decide)).trans h
  | 2, hf, h => exact (hf 21 (by decide)).trans h
  | 3, hf, h => exact (hf 22 (by decide)).trans h
  | 4, hf, h => exact (hf 23 (by decide)).trans h
  | 5, hf, h =>
    exact h
  | _ + 6, _, _ => trivial
/-- what operation j of the region leaves -/
def anam4R (T : TypeId) (R X b o n q' : Nat) (b0 : UInt8) (t0 y1 : List UInt8) : Nat → (Nat → Value) → World → Prop
  | 0, f, _ => f 25 = sv [b0]
  | 1, f, _ => f 26 = .pointer (some ⟨R, 0, none⟩)
  | 2, f, _ => f 27 = .pointer (some ⟨R, 0, none⟩)
  | 3, f, _ => f 28 = .pointer (some ⟨R, 0, none⟩)
  | 4, f, _ => f 29 = sv t0
  | 5, f, _ => f 30 = .int .i64 (numV t0) ∧ numOk t0 = true
  | 6, f, _ => f 31 = .slice (some ⟨b, o, none⟩) n q'
  | 7, f, _ => f 32 = .pointer (some ⟨b, o + 1, none⟩)
  | 8, f, _ => f 33 = sv y1
  | 9, f, _ => f 34 = .agg #[.string ⟨#[b0]⟩, .int .i64 (numV t0), .string ⟨y1.toArray⟩]
  | 10, _, w => w.heap[X]? = some (.cells #[.string ⟨#[b0]⟩, .int .i64 (numV t0), .string ⟨y1.toArray⟩] T (0, 0))
  | _, _, _ => True
def anam4M : Nat → List Nat
  | 0 => [25]
  | 1 => [26]
  | 2 => [27]
  | 3 => [28]
  | 4 => [29]
  | 5 => [30]
  | 6 => [31]
  | 7 => [32]
  | 8 => [33]
  | 9 => [34]
  | 10 => []
  | _ => []
theorem anam4_stab {T : TypeId} {R X b o n q' : Nat} {b0 : UInt8} {t0 y1 : List UInt8} (jj : Nat) {f f' : Nat → Value} {w w' : World} (h10 : jj = 10 → Below w.heap.size w w') (hf : ∀ t ∈ anam4M jj, f' t = f t) (h : anam4R T R X b o n q' b0 t0 y1 jj f w) : anam4R T R X b o n q' b0 t0 y1 jj f' w' := by
  match jj, hf, h, h10 with
  | 0, hf, h, _ => exact (hf 25 (by decide)).trans h
  | 1, hf, h, _ => exact (hf 26 (by decide)).trans h
  | 2, hf, h, _ => exact (hf 27 (by decide)).trans h
  | 3, hf, h, _ => exact (hf 28 (by decide)).trans h
  | 4, hf, h, _ => exact (hf 29 (by decide)).trans h
  | 5, hf, h, h10 =>
    exact ⟨(hf 30 (by decide)).trans h.1, h.2⟩
  | 6, hf, h, _ => exact (hf 31 (by decide)).trans h
  | 7, hf, h, _ => exact (hf 32 (by decide)).trans h
  | 8, hf, h, _ => exact (hf 33 (by decide)).trans h
  | 9, hf, h, _ => exact (hf 34 (by decide)).trans h
  | 10, hf, h, h10 =>
    exact ((h10 rfl).block X (lt_of_block h)).trans h
  | _ + 11, _, _, _ => trivial
set_option maxHeartbeats 4000000 in
set_option maxRecDepth 100000 in
theorem name_run {S R : Nat} (l : List UInt8) (w : World) (h : Src S R l w) :
    Calls Tryz.prog 39 #[.pointer (some ⟨R, 0, none⟩)] w (Runs5 S R w (rdLine formNam l) (fun t e _ => e = .returned (.agg #[.string t.kind, .int .i64 t.num, .string t.text]))) := by
  have hb1 : Below w.heap.size w (w.alloc (.cells #[.string ⟨#[]⟩, .int .i64 0, .string ⟨#[]⟩] 57)) := (Below.refl _ _).alloc (Nat.le_refl _) _
  have hs1 : (w.alloc (.cells #[.string ⟨#[]⟩, .int .i64 0, .string ⟨#[]⟩] 57)).heap.size = w.heap.size + 1 := by simp
  have hb2 : Below w.heap.size w ((w.alloc (.cells #[.string ⟨#[]⟩, .int .i64 0, .string ⟨#[]⟩] 57)).alloc (.cells #[.int .i64 2] 3)) := hb1.alloc hb1.size _
  have hs2 : ((w.alloc (.cells #[.string ⟨#[]⟩, .int .i64 0, .string ⟨#[]⟩] 57)).alloc (.cells #[.int .i64 2] 3)).heap.size = w.heap.size + 2 := by simp
  have hrow : LRow ((w.alloc (.cells #[.string ⟨#[]⟩, .int .i64 0, .string ⟨#[]⟩] 57)).alloc (.cells #[.int .i64 2] 3)) (w.heap.size + 2) 1 (some ⟨w.heap.size + 1, 0, none⟩) (ints ([2].map fun x : Nat => (x : Int))) := by
    have := ints_row (w.alloc (.cells #[.string ⟨#[]⟩, .int .i64 0, .string ⟨#[]⟩] 57)) [2] #[.int .i64 2] 3 rfl
    rw [hs1] at this
    exact this
  have HRW : Hid (R < w.heap.size) := Nat.lt_of_lt_of_le h.ins h.bd
  have HSW : Hid (S ≤ w.heap.size) := h.bd
  have hlen := h.len
  have WO := Lib.hid (reader_words [2] _ 1 _ _ (h.below hb2) hrow (by rw [hs2]; exact Nat.le_refl _) (fun p hp => by cases hp; exact Nat.ne_of_gt (Nat.lt_succ_of_lt HRW.out)) (by simp))
  have HB2 := Lib.hid hb2
  have KZ0 : Hid (((w.alloc (.cells #[.string ⟨#[]⟩, .int .i64 0, .string ⟨#[]⟩] 57)).alloc (.cells #[.int .i64 2] 3)).heap[w.heap.size]? = some (.cells #[.string ⟨#[]⟩, .int .i64 0, .string ⟨#[]⟩] 57 (0, 0))) := by
    unfold Hid
    rw [Below.heap_alloc _ _ _ (by rw [hs1]; omega)]; exact Array.getElem?_push_size
  have EN : Hid (∀ args w, (callFunc 60 args).run Tryz.prog w = .ok (.enter 60 args) w) := enters_of Tryz.func60 (by kernel_rfl) rfl
  have ED : Hid (∀ args w, (callFunc 21 args).run Tryz.prog w = .ok (.enter 21 args) w) := enters_of Tryz.func21 (by kernel_rfl) rfl
  have EC : Hid (∀ args w, (callFunc 63 args).run Tryz.prog w = .ok (.enter 63 args) w) := enters_of Tryz.func63 (by kernel_rfl) rfl
  clear h hb1 hb2 hs1 hs2 hrow
  obtain ⟨goal, hgoal⟩ : ∃ g, g = rdLine formNam l := ⟨_, rfl⟩
  have HG := Lib.hid hgoal
  rw [← hgoal]
  clear hgoal
  go_enter Tryz.func39, Tryz.ntmps39
  go_wp2_with fail
  refine WO.out.mono ?_
  intro e w2 hr
  cases hq : rdLine (wl [2]) l with
  | none =>
    rw [hq] at hr
    obtain ⟨rfl, hE⟩ := hr
    exact ⟨rfl, runs5_none (HG.out.trans (nam5_no hq)) ⟨rfl, (Ext.of HB2.out).trans hE⟩⟩
  | some x =>
  obtain ⟨ws, r⟩ := x
  rw [hq] at hr
  obtain ⟨⟨A1, q1, rfl, hrd, -⟩, hS, hE⟩ := hr
  replace hrd : ReadsAt A1 ws w2 := hrd
  replace hS : Src S R r w2 := hS
  have HWF := Lib.hid (wl_fit4 hq hlen)
  obtain ⟨y, hcy, hwy, hky⟩ := wl_get hq
  have hgo : goal = (formNam y).map fun t => (t, r) := by rw [HG.out, rdLine_some hcy]
  have hl2 : ws.length = 2 := by rw [hwy]; exact nam_counts hky
  obtain ⟨b0, t0, h0⟩ : ∃ b0 t0, ws.getD 0 [] = b0 :: t0 := by
    have hne := words_ne y
    rw [← hwy] at hne
    match ws, hl2 with
    | [w0, w1], _ =>
      have := (hne w0 List.mem_cons_self).1
      cases w0 with
      | nil => exact absurd rfl this
      | cons b t => exact ⟨b, t, rfl⟩
  have T0L : Hid (t0.length ≤ 4194304) := by
    have := HWF.out 0
    rw [h0, List.length_cons] at this
    unfold Hid; omega
  have h0y : (wordsL y).getD 0 [] = b0 :: t0 := by rw [← hwy]; exact h0
  have E2 : Hid (Ext R w w2) := (Ext.of HB2.out).trans hE
  have KZ1 : Hid (w2.heap[w.heap.size]? = some (.cells #[.string ⟨#[]⟩, .int .i64 0, .string ⟨#[]⟩] 57 (0, 0))) := (hE.block _ (lt_of_block KZ0.out) (by have := HRW.out; omega)).trans KZ0.out
  have KZ : Hid (∀ x, Below w2.heap.size w2 x → x.heap[w.heap.size]? = some (.cells #[.string ⟨#[]⟩, .int .i64 0, .string ⟨#[]⟩] 57 (0, 0))) := fun x hx => (hx.block _ (lt_of_block KZ1.out)).trans KZ1.out
  have HS2 := Lib.hid hS
  have FA0 : Hid (kindsL.contains b0 = false → ∀ x, Ext R w x → Runs5 S R w goal (fun t e _ => e = .returned (.agg #[.string t.kind, .int .i64 t.num, .string t.text])) (.panicked fault5) x) := fun hy x hx => runs5_none (by rw [hgo, formNam_no0 h0y hy]; rfl) ⟨rfl, hx⟩
  have FA1 : Hid (numOk t0 = false → ∀ x, Ext R w x → Runs5 S R w goal (fun t e _ => e = .returned (.agg #[.string t.kind, .int .i64 t.num, .string t.text])) (.panicked fault5) x) := fun hy x hx => runs5_none (by rw [hgo, formNam_no1 h0y hy]; rfl) ⟨rfl, hx⟩
  have OKH : Hid (kindsL.contains b0 = true → numOk t0 = true → goal = some (⟨⟨#[b0]⟩, numV t0, ⟨(ws.getD 1 []).toArray⟩⟩, r)) := fun h1 h2 => by rw [hgo, formNam_yes hky h0y h1 h2, hwy]; rfl
  obtain ⟨b, o, rfl, hc0⟩ := reads_cellD hrd 0 (by omega)
  rw [h0] at hc0
  have HBB : Hid (b < w2.heap.size) := World.block_lt_of_cell? _ _ hc0
  have HC0 : Hid (∀ x, Below w2.heap.size w2 x → x.cell? ⟨b, o + 0, none⟩ = some (sv (b0 :: t0))) := fun x hx => (hx.cell HBB.out).trans hc0
  have HCC : Hid (∀ x, Below w2.heap.size w2 x → x.cell? ⟨b, o + 1, none⟩ = some (sv (ws.getD 1 []))) := fun x hx => by
    obtain ⟨b1, o1, e1, hc1⟩ := reads_cellD hrd 1 (by omega)
    injection e1 with e1; injection e1 with e1 e1'; subst e1; subst e1'
    exact (hx.cell HBB.out).trans hc1
  have HL2 := Lib.hid hl2
  simp only [hl2]
  clear hrd hS hE hc0 hgo hq WO KZ0 KZ1 HB2 HG hcy hwy hky h0y h0 hl2
  go_wp2
  refine wp_region_valsD (by kernel_rfl) (by kernel_rfl) anam2M (by kernel_rfl) (by kernel_rfl)
    (fun _ w' => Below w2.heap.size w2 w') (anam2R b o 2 q1 b0 t0) (Below.refl _ _).drew (fun jj f f' w w' hb hf h => anam2_stab jj  hf h) ?_ ?_
  · intro i oo d a' w' ho hd hun hdf hok hD K hK hK0
    match i, ho, hd, hD, hK, hK0, hun with
    | 0, ho, hd, hD, hK, hK0, hun =>
      have e := (congrArg Oper.op (Option.some.inj ho)).symm
      obtain rfl := Option.some.inj ho
      exact wp_val (op_move a' w' 3 _ e) (hK _ _ (Below.refl _ _) hok (fun f h1 _ => (h1 _ rfl).trans (hun 3 (by kernel_rfl))))
    | 1, ho, hd, hD, hK, hK0, hun =>
      have e := (congrArg Oper.op (Option.some.inj ho)).symm
      obtain rfl := Option.some.inj ho
      exact wp_val (op_index_Lstring a' w' _ _ _ _ 0 11 (hD 0 (by kernel_rfl)) (by first | decide | omega) _ e) (hK _ _ (Below.refl _ _) hok (fun f h1 _ => h1 _ rfl))
    | 2, ho, hd, hD, hK, hK0, hun =>
      have e := (congrArg Oper.op (Option.some.inj ho)).symm
      obtain rfl := Option.some.inj ho
      exact wp_val (op_load_string a' w' _ 12 _ (hD 1 (by kernel_rfl)) (HC0.out _ hok) _ e) (hK _ _ (Below.refl _ _) hok (fun f h1 _ => h1 _ rfl))
    | 3, ho, hd, hD, hK, hK0, hun =>
      have e := (congrArg Oper.op (Option.some.inj ho)).symm
      obtain rfl := Option.some.inj ho
      exact wp_val (op_take1 a' w' b0 t0 13 (hD 2 (by kernel_rfl)) T0L.out _ e) (hK _ _ (Below.refl _ _) hok (fun f h1 _ => h1 _ rfl))
    | 4, ho, hd, hD, hK, hK0, hun =>
      have e := (congrArg Oper.op (Option.some.inj ho)).symm
      obtain rfl := Option.some.inj ho
      exact wp_val (op_move a' w' 3 _ e) (hK _ _ (Below.refl _ _) hok (fun f h1 _ => (h1 _ rfl).trans (hun 3 (by kernel_rfl))))
    | 5, ho, hd, hD, hK, hK0, hun =>
      have e := (congrArg Oper.op (Option.some.inj ho)).symm
      obtain rfl := Option.some.inj ho
      exact wp_val (op_index_Lstring a' w' _ _ _ _ 0 15 (hD 4 (by kernel_rfl)) (by first | decide | omega) _ e) (hK _ _ (Below.refl _ _) hok (fun f h1 _ => h1 _ rfl))
    | 6, ho, hd, hD, hK, hK0, hun =>
      have e := (congrArg Oper.op (Option.some.inj ho)).symm
      obtain rfl := Option.some.inj ho
      exact wp_val (op_load_string a' w' _ 16 _ (hD 5 (by kernel_rfl)) (HC0.out _ hok) _ e) (hK _ _ (Below.refl _ _) hok (fun f h1 _ => h1 _ rfl))
    | 7, ho, hd, hD, hK, hK0, hun =>
      have e := (congrArg Oper.op (Option.some.inj ho)).symm
      obtain rfl := Option.some.inj ho
      exact wp_val (op_drop1 a' w' b0 t0 17 (hD 6 (by kernel_rfl)) T0L.out _ e) (hK _ _ (Below.refl _ _) hok (fun f h1 _ => h1 _ rfl))
    | 8, ho, hd, hD, hK, hK0, hun =>
      have e := (congrArg Oper.op (Option.some.inj ho)).symm
      obtain rfl := Option.some.inj ho
      exact wp_val (op_assign a' w' 14 _ e) (hK _ _ (Below.refl _ _) hok (fun f h1 _ => (h1 _ rfl).trans (hD 3 (by kernel_rfl))))
    | 9, ho, hd, hD, hK, hK0, hun =>
      have e := (congrArg Oper.op (Option.some.inj ho)).symm
      obtain rfl := Option.some.inj ho
      exact wp_val (op_assign a' w' 18 _ e) (hK _ _ (Below.refl _ _) hok (fun f h1 _ => (h1 _ rfl).trans (hD 7 (by kernel_rfl))))
    | i + 10, ho, _, _, _, _, _ => exact absurd ho (by simp)
  · intro a' w3 hsz hdf hkt hok hR
    have HF3 := frame_sets [4, 5, 11, 12, 13, 14, 15, 16, 17, 18] (by kernel_rfl) hsz hkt
    obtain ⟨d, hok⟩ := hok
    have h4 : a'.tmps.getD 4 undef = sv [b0] := hR 8 (by decide)
    have h5 : a'.tmps.getD 5 undef = sv t0 := hR 9 (by decide)
    obtain ⟨tm, df⟩ := a'
    obtain rfl : df = _ := hdf
    simp only [List.foldl_cons, List.foldl_nil] at HF3
    clear hkt hR hsz
    replace h4 : tm.getD 4 undef = _ := h4
    rw [h4] at HF3
    clear h4
    replace h5 : tm.getD 5 undef = _ := h5
    rw [h5] at HF3
    clear h5
    generalize tm.getD 11 undef = y11 at HF3
    generalize tm.getD 12 undef = y12 at HF3
    generalize tm.getD 13 undef = y13 at HF3
    generalize tm.getD 14 undef = y14 at HF3
    generalize tm.getD 15 undef = y15 at HF3
    generalize tm.getD 16 undef = y16 at HF3
    generalize tm.getD 17 undef = y17 at HF3
    generalize tm.getD 18 undef = y18 at HF3
    simp only [List.setIfInBounds_toArray, List.set_cons_succ, List.set_cons_zero] at HF3
    subst HF3
    have B3 : Hid (Below w2.heap.size w2 w3) := hok
    have E3 : Hid (Ext R w w3) := E2.out.trans (Ext.of hok)
    clear hok HC0
    go_wp2
    refine wp_region_valsD (by kernel_rfl) (by kernel_rfl) anam3M (by kernel_rfl) (by kernel_rfl)
      (fun _ w' => Below w3.heap.size w3 w') (anam3R R b0) (Below.refl _ _).drew (fun jj f f' w w' hb hf h => anam3_stab jj  hf h) ?_ ?_
    · intro i oo d a' w' ho hd hun hdf hok hD K hK hK0
      match i, ho, hd, hD, hK, hK0, hun with
      | 0, ho, hd, hD, hK, hK0, hun =>
        have e := (congrArg Oper.op (Option.some.inj ho)).symm
        obtain rfl := Option.some.inj ho
        exact wp_val (op_move a' w' 0 _ e) (hK _ _ (Below.refl _ _) hok (fun f h1 _ => (h1 _ rfl).trans (hun 0 (by kernel_rfl))))
      | 1, ho, hd, hD, hK, hK0, hun =>
        have e := (congrArg Oper.op (Option.some.inj ho)).symm
        obtain rfl := Option.some.inj ho
        exact wp_val (op_nil a' w' _ 19 (hD 0 (by kernel_rfl)) _ e) (hK _ _ (Below.refl _ _) hok (fun f h1 _ => h1 _ rfl))
      | 2, ho, hd, hD, hK, hK0, hun =>
        have e := (congrArg Oper.op (Option.some.inj ho)).symm
        obtain rfl := Option.some.inj ho
        exact wp_val (op_field_aig_reader_0 a' w' _ 20 (hD 1 (by kernel_rfl)) _ e) (hK _ _ (Below.refl _ _) hok (fun f h1 _ => h1 _ rfl))
      | 3, ho, hd, hD, hK, hK0, hun =>
        have e := (congrArg Oper.op (Option.some.inj ho)).symm
        obtain rfl := Option.some.inj ho
        exact wp_val (op_move a' w' 4 _ e) (hK _ _ (Below.refl _ _) hok (fun f h1 _ => (h1 _ rfl).trans (hun 4 (by kernel_rfl))))
      | 4, ho, hd, hD, hK, hK0, hun =>
        have e := (congrArg Oper.op (Option.some.inj ho)).symm
        obtain rfl := Option.some.inj ho
        refine wp_enter (op_call_c a' w' _ 22 _ _ _ EC.out _ e) ?_
        rw [show a'.tmps.getD 22 undef = sv [b0] from hD 3 (by kernel_rfl)]
        refine (kinds_any b0 w').mono ?_
        rintro e w'' ⟨rfl, hw⟩
        exact .inl ⟨_, rfl, hK _ _ (hw ▸ Below.refl _ _) (hw ▸ hok) (fun f h1 _ => h1 _ rfl)⟩
      | 5, ho, hd, hD, hK, hK0, hun =>
        have e := (congrArg Oper.op (Option.some.inj ho)).symm
        obtain rfl := Option.some.inj ho
        refine wp_enter (op_call2 a' w' _ 21 23 _ _ ED.out _ e) ?_
        rw [show a'.tmps.getD 21 undef = .pointer (some ⟨R, 0, none⟩) from hD 2 (by kernel_rfl), show a'.tmps.getD 23 undef = .bool (kindsL.contains b0) from hD 4 (by kernel_rfl)]
        refine (need_any _ _ w').mono ?_
        rintro e w'' ⟨⟨hy, rfl⟩ | ⟨hy, rfl⟩, rfl⟩
        · exact .inl ⟨_, rfl, hK _ _ (Below.refl _ _) hok (fun f h1 _ => hy)⟩
        · exact .inr ⟨_, rfl, hdf, FA0.out hy _ (E3.out.trans (Ext.of hok))⟩
      | i + 6, ho, _, _, _, _, _ => exact absurd ho (by simp)
    · intro a' w4 hsz hdf hkt hok hR
      have HF3 := frame_sets [19, 20, 21, 22, 23, 24] (by kernel_rfl) hsz hkt
      obtain ⟨d, hok⟩ := hok
      have K0 : Hid (kindsL.contains b0 = true) := hR 5 (by decide)
      obtain ⟨tm, df⟩ := a'
      obtain rfl : df = _ := hdf
      simp only [List.foldl_cons, List.foldl_nil] at HF3
      clear hkt hR hsz
      generalize tm.getD 19 undef = y19 at HF3
      generalize tm.getD 20 undef = y20 at HF3
      generalize tm.getD 21 undef = y21 at HF3
      generalize tm.getD 22 undef = y22 at HF3
      generalize tm.getD 23 undef = y23 at HF3
      generalize tm.getD 24 undef = y24 at HF3
      simp only [List.setIfInBounds_toArray, List.set_cons_succ, List.set_cons_zero] at HF3
      subst HF3
      have BA : Hid (Below w2.heap.size w2 w4) := B3.out.trans (hok.mono B3.out.size)
      have E4 : Hid (Ext R w w4) := E2.out.trans (Ext.of BA.out)
      have HS4 : Hid (w.heap.size ≤ w4.heap.size) := E4.out.size
      have CZ : Hid (w4.heap[w.heap.size]? = some (.cells #[.string ⟨#[]⟩, .int .i64 0, .string ⟨#[]⟩] 57 (0, 0))) := KZ.out _ BA.out
      have HC1 : Hid (∀ x, Below w4.heap.size w4 x → x.cell? ⟨b, o + 1, none⟩ = some (sv (ws.getD 1 []))) := fun x hx => HCC.out x (BA.out.trans (hx.mono BA.out.size))
      clear hok HCC FA0
      go_wp2
      refine wp_region_valsD (by kernel_rfl) (by kernel_rfl) anam4M (by kernel_rfl) (by kernel_rfl)
        (fun d w' => (d 10 = false → Below w4.heap.size w4 w') ∧ Below w.heap.size w4 w') (anam4R 57 R w.heap.size b o 2 q1 b0 t0 (ws.getD 1 [])) ⟨fun _ => (Below.refl _ _).drew, (Below.refl _ _).drew⟩ (fun jj f f' w w' hb hf h => anam4_stab jj (fun _ => hb) hf h) ?_ ?_
      · intro i oo d a' w' ho hd hun hdf hok hD K hK hK0
        match i, ho, hd, hD, hK, hK0, hun with
        | 0, ho, hd, hD, hK, hK0, hun =>
          have e := (congrArg Oper.op (Option.some.inj ho)).symm
          obtain rfl := Option.some.inj ho
          exact wp_val (op_move a' w' 4 _ e) (hK _ _ (Below.refl _ _) ⟨fun h => hok.1 (by simp only [Bool.or_eq_false_iff] at h; exact h.2), hok.2⟩ (fun f h1 _ => (h1 _ rfl).trans (hun 4 (by kernel_rfl))))
        | 1, ho, hd, hD, hK, hK0, hun =>
          have e := (congrArg Oper.op (Option.some.inj ho)).symm
          obtain rfl := Option.some.inj ho
          exact wp_val (op_move a' w' 0 _ e) (hK _ _ (Below.refl _ _) ⟨fun h => hok.1 (by simp only [Bool.or_eq_false_iff] at h; exact h.2), hok.2⟩ (fun f h1 _ => (h1 _ rfl).trans (hun 0 (by kernel_rfl))))
        | 2, ho, hd, hD, hK, hK0, hun =>
          have e := (congrArg Oper.op (Option.some.inj ho)).symm
          obtain rfl := Option.some.inj ho
          exact wp_val (op_nil a' w' _ 26 (hD 1 (by kernel_rfl)) _ e) (hK _ _ (Below.refl _ _) ⟨fun h => hok.1 (by simp only [Bool.or_eq_false_iff] at h; exact h.2), hok.2⟩ (fun f h1 _ => h1 _ rfl))
        | 3, ho, hd, hD, hK, hK0, hun =>
          have e := (congrArg Oper.op (Option.some.inj ho)).symm
          obtain rfl := Option.some.inj ho
          exact wp_val (op_field_aig_reader_0 a' w' _ 27 (hD 2 (by kernel_rfl)) _ e) (hK _ _ (Below.refl _ _) ⟨fun h => hok.1 (by simp only [Bool.or_eq_false_iff] at h; exact h.2), hok.2⟩ (fun f h1 _ => h1 _ rfl))
        | 4, ho, hd, hD, hK, hK0, hun =>
          have e := (congrArg Oper.op (Option.some.inj ho)).symm
          obtain rfl := Option.some.inj ho
          exact wp_val (op_move a' w' 5 _ e) (hK _ _ (Below.refl _ _) ⟨fun h => hok.1 (by simp only [Bool.or_eq_false_iff] at h; exact h.2), hok.2⟩ (fun f h1 _ => (h1 _ rfl).trans (hun 5 (by kernel_rfl))))
        | 5, ho, hd, hD, hK, hK0, hun =>
          have e := (congrArg Oper.op (Option.some.inj ho)).symm
          obtain rfl := Option.some.inj ho
          have hb8 := hok.1 (hd 10 (by kernel_rfl))
          refine wp_enter (op_call2 a' w' _ 28 29 _ _ EN.out _ e) ?_
          rw [show a'.tmps.getD 28 undef = .pointer (some ⟨R, 0, none⟩) from hD 3 (by kernel_rfl), show a'.tmps.getD 29 undef = sv t0 from hD 4 (by kernel_rfl)]
          refine (parsed_any (R := R) t0 w' T0L.out).mono ?_
          rintro e w'' ⟨hb, ⟨hy, rfl⟩ | ⟨hy, rfl⟩⟩
          · exact .inl ⟨_, rfl, hK _ _ hb ⟨fun _ => hb8.trans (hb.mono hb8.size), hok.2.trans (hb.mono (Nat.le_trans HS4.out hb8.size))⟩ (fun f h1 _ => ⟨h1 _ rfl, hy⟩)⟩
          · exact .inr ⟨_, rfl, hdf, FA1.out hy _ (E4.out.trans (Ext.of (hb8.trans (hb.mono hb8.size))))⟩
        | 6, ho, hd, hD, hK, hK0, hun =>
          have e := (congrArg Oper.op (Option.some.inj ho)).symm
          obtain rfl := Option.some.inj ho
          exact wp_val (op_move a' w' 3 _ e) (hK _ _ (Below.refl _ _) ⟨fun h => hok.1 (by simp only [Bool.or_eq_false_iff] at h; exact h.2), hok.2⟩ (fun f h1 _ => (h1 _ rfl).trans (hun 3 (by kernel_rfl))))
        | 7, ho, hd, hD, hK, hK0, hun =>
          have e := (congrArg Oper.op (Option.some.inj ho)).symm
          obtain rfl := Option.some.inj ho
          exact wp_val (op_index_Lstring a' w' _ _ _ _ 1 31 (hD 6 (by kernel_rfl)) (by first | decide | omega) _ e) (hK _ _ (Below.refl _ _) ⟨fun h => hok.1 (by simp only [Bool.or_eq_false_iff] at h; exact h.2), hok.2⟩ (fun f h1 _ => h1 _ rfl))
        | 8, ho, hd, hD, hK, hK0, hun =>
          have e := (congrArg Oper.op (Option.some.inj ho)).symm
          obtain rfl := Option.some.inj ho
          exact wp_val (op_load_string a' w' _ 32 _ (hD 7 (by kernel_rfl)) (HC1.out _ (hok.1 (hd 10 (by kernel_rfl)))) _ e) (hK _ _ (Below.refl _ _) ⟨fun h => hok.1 (by simp only [Bool.or_eq_false_iff] at h; exact h.2), hok.2⟩ (fun f h1 _ => h1 _ rfl))
        | 9, ho, hd, hD, hK, hK0, hun =>
          have e := (congrArg Oper.op (Option.some.inj ho)).symm
          obtain rfl := Option.some.inj ho
          exact wp_val (op_build_nam a' w' [b0] (ws.getD 1 []) (numV t0) 25 30 33 (hD 0 (by kernel_rfl)) (hD 5 (by kernel_rfl)).1 (hD 8 (by kernel_rfl)) _ e) (hK _ _ (Below.refl _ _) ⟨fun h => hok.1 (by simp only [Bool.or_eq_false_iff] at h; exact h.2), hok.2⟩ (fun f h1 _ => h1 _ rfl))
        | 10, ho, hd, hD, hK, hK0, hun =>
          have e := (congrArg Oper.op (Option.some.inj ho)).symm
          obtain rfl := Option.some.inj ho
          have hb8 := hok.1 (hd 10 (by kernel_rfl))
          obtain ⟨w'', hr, hgc2, hbut⟩ := op_store_nam a' w' _ _ ((hb8.block _ (lt_of_block CZ.out)).trans CZ.out) rfl _ _ _ 2 34 (hun 2 (by kernel_rfl)) (hD 9 (by kernel_rfl)) _ e
          refine wp_skip' hr (hK0 _ _ ⟨fun h => by simp at h, hbut.below hok.2 (Nat.le_refl _)⟩ (fun f h1 h2 => hgc2) (fun j f hj hf hq => anam4_stab j (fun e2 => absurd e2 hj) hf hq))
        | i + 11, ho, _, _, _, _, _ => exact absurd ho (by simp)
      · intro a' w5 hsz hdf hkt hok hR
        have HF3 := frame_sets [25, 26, 27, 28, 29, 30, 31, 32, 33, 34] (by kernel_rfl) hsz hkt
        obtain ⟨d, hok⟩ := hok
        have GC9 : Hid (w5.heap[w.heap.size]? = some (.cells #[.string ⟨#[b0]⟩, .int .i64 (numV t0), .string ⟨(ws.getD 1 []).toArray⟩] 57 (0, 0))) := hR 10 (by decide)
        have N1 := Lib.hid (hR 5 (by decide) : _ ∧ numOk t0 = true).2
        obtain ⟨tm, df⟩ := a'
        obtain rfl : df = _ := hdf
        simp only [List.foldl_cons, List.foldl_nil] at HF3
        clear hkt hR hsz
        generalize tm.getD 25 undef = y25 at HF3
        generalize tm.getD 26 undef = y26 at HF3
        generalize tm.getD 27 undef = y27 at HF3
        generalize tm.getD 28 undef = y28 at HF3
        generalize tm.getD 29 undef = y29 at HF3
        generalize tm.getD 30 undef = y30 at HF3
        generalize tm.getD 31 undef = y31 at HF3
        generalize tm.getD 32 undef = y32 at HF3
        generalize tm.getD 33 undef = y33 at HF3
        generalize tm.getD 34 undef = y34 at HF3
        simp only [List.setIfInBounds_toArray, List.set_cons_succ, List.set_cons_zero] at HF3
        subst HF3
        have OKG : Hid (goal = some (⟨⟨#[b0]⟩, numV t0, ⟨(ws.getD 1 []).toArray⟩⟩, r)) := OKH.out K0.out N1.out
        have r0 : w5.cell? ⟨w.heap.size, 0, none⟩ = some (.string ⟨#[b0]⟩) := by have := GC9.out; simp [World.cell?, this]
        have r1 : w5.cell? ⟨w.heap.size, 1, none⟩ = some (.int .i64 (numV t0)) := by have := GC9.out; simp [World.cell?, this]
        have r2 : w5.cell? ⟨w.heap.size, 2, none⟩ = some (.string ⟨(ws.getD 1 []).toArray⟩) := by have := GC9.out; simp [World.cell?, this]
        have SF : Hid (Src S R r w5) := (HS2.out.below BA.out).later (hok.2.mono HSW.out)
        have EF : Hid (Ext R w w5) := E4.out.then hok.2
        clear hok OKH N1 K0 HC1 FA1
        generalize numV t0 = nv at *
        generalize ws.getD 1 [] = y1 at *
        go_wp2
        (try simp only [Exit.inBlock, Exit.then])
        have hres : ∀ tmps : Array Value, tmps.getD 2 undef = .pointer (some ⟨w.heap.size, 0, none⟩) → (results Tryz.f39 tmps).run Tryz.prog w5 = .ok (.agg #[.string ⟨#[b0]⟩, .int .i64 nv, .string ⟨y1.toArray⟩]) w5 := fun tmps ht => by
          simp only [results, show Tryz.f39.results = #[ResultVar.cell 2 57] from rfl]
          have ht' : tmps[2]?.getD undef = .pointer (some ⟨w.heap.size, 0, none⟩) := by simpa using ht
          go_simp
        refine bodyPost_ret (hres _ rfl) rfl ?_
        exact runs5_some OKG.out ⟨rfl, SF.out, EF.out⟩
end Go.Proofs.YtopjddmgejfalaaGreatDoor.Aig
