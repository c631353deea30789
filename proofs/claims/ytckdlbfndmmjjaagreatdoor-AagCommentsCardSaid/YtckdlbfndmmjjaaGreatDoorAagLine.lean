/- The walks of aag's printing of lines; conditions: the table of powers of ten is as it is laid, sizes as stated. -/
import Derived.Test.YtckdlbfndmmjjaaGreatDoorAagPrint
import Derived.Test.YtckdlbfndmmjjaaGreatDoorWBuilder
import Derived.Test.YtckdlbfndmmjjaaGreatDoorItoaLen
namespace Go.Proofs.YtckdlbfndmmjjaaGreatDoor.Aag
open Go.ChangeShapes Go.WideShapes Go.ChangeAt Go.RowKit Dig Circ Cw

/-- the writer in block b has gathered l -/
def WS (B b : Nat) (l : List UInt8) (w : World) : Prop := Lib.IsBuilder 44 5 B b (Lib.byteCells l) w
theorem builderAt_below {T e : TypeId} {B b : Nat} {p : Value} {bs : List Value} {w w' : World} (h : Lib.BuilderAt T e B b p bs w) (hb : Below w.heap.size w w') : Lib.BuilderAt T e B b p bs w' := by
  obtain ⟨h1, v, h2, h3, h4⟩ := h
  exact ⟨h1, v, (hb.block b (lt_of_block h2)).trans h2, ownsRow_below h3 hb, h4⟩
theorem WS.below {B b : Nat} {l : List UInt8} {w w' : World} (h : WS B b l w) (hb : Below w.heap.size w w') : WS B b l w' := by
  rcases h with h | h
  · exact .inl (builderAt_below h hb)
  · exact .inr (builderAt_below h hb)
theorem WS.write {B b : Nat} {l m : List UInt8} {w : World} (h : WS B b l w) (hlen : l.length + m.length ≤ 140737488355328) (hBw : B ≤ w.heap.size) :
    Calls Tryz.prog 32 #[.pointer (some ⟨b, 0, none⟩), sv m] w fun e w' => e = .returned (.tuple #[.int .i64 m.length, .nilIface]) ∧ (WS B b (l ++ m) w' ∧ Below B w w' ∧ Bldw.KeptT b w w') :=
  (Bldw.write_string B b (Lib.byteCells l) ⟨m.toArray⟩ w h (by rw [Lib.byteCells_length]; exact hlen) hBw).mono fun e w' ⟨he, hb, hbe, hk⟩ => ⟨he, .inr (by rw [Lib.byteCells_append]; exact hb), hbe, hk⟩
theorem WS.fresh (w : World) : WS w.heap.size w.heap.size [] (w.alloc (.cells #[.pointer none, .slice none 0 0] 44)) :=
  .inl ⟨Nat.le_refl _, _, heap_alloc_new _ _, World.ownsRow_nil _ _ _ _, by simp [Value.ownBlock]⟩

theorem op_nil (a : Act) (w : World) (A : Addr) (t : Nat) (h : a.tmps.getD t undef = .pointer (some A)) (oo : Oper) (ho : oo.op = .nilCheck (.tmp t)) : (execOp a.eval oo).run Tryz.prog w = .ok (.value (.pointer (some A))) w := by
  have h' : a.tmps[t]?.getD undef = .pointer (some A) := by simpa using h
  unfold execOp
  rw [ho]
  go_simp
theorem op_field_writer (a : Act) (w : World) (b : Nat) (t : Nat) (h : a.tmps.getD t undef = .pointer (some ⟨b, 0, none⟩)) (oo : Oper) (ho : oo.op = .fieldAddr 44 (.tmp t) 0) : (execOp a.eval oo).run Tryz.prog w = .ok (.value (.pointer (some ⟨b, 0, none⟩))) w := by
  have h' : a.tmps[t]?.getD undef = .pointer (some ⟨b, 0, none⟩) := by simpa using h
  unfold execOp
  rw [ho]
  go_simp
theorem op_call1 (a : Act) (w : World) (f t T : Nat) (hf : ∀ args w, (callFunc f args).run Tryz.prog w = .ok (.enter f args) w) (oo : Oper) (ho : oo.op = .call { callee := .value (.func f), args := #[.tmp t], argTypes := #[T] }) : (execOp a.eval oo).run Tryz.prog w = .ok (.enter f #[a.tmps.getD t undef]) w := by
  unfold execOp
  rw [ho]
  go_simp
theorem op_call2 (a : Act) (w : World) (f t s T S : Nat) (hf : ∀ args w, (callFunc f args).run Tryz.prog w = .ok (.enter f args) w) (oo : Oper) (ho : oo.op = .call { callee := .value (.func f), args := #[.tmp t, .tmp s], argTypes := #[T, S] }) : (execOp a.eval oo).run Tryz.prog w = .ok (.enter f #[a.tmps.getD t undef, a.tmps.getD s undef]) w := by
  unfold execOp
  rw [ho]
  go_simp
def lineR (B b : Nat) (v : Value) (l J : List UInt8) : Nat → (Nat → Value) → World → Prop
  | 0, f, _ => f 4 = .pointer (some ⟨b, 0, none⟩)
  | 1, f, _ => f 5 = .pointer (some ⟨b, 0, none⟩)
  | 2, f, _ => f 6 = .pointer (some ⟨b, 0, none⟩)
  | 3, f, _ => f 7 = v
  | 4, f, _ => f 8 = sv J
  | 5, _, w => WS B b (l ++ J) w
  | _, _, _ => True
def lineM (j : Nat) : List Nat := if j < 5 then [4 + j] else []
theorem line_stab {B b : Nat} {v : Value} {l J : List UInt8} (j : Nat) {f f' : Nat → Value} {w w' : World} (hb : j = 5 → Below w.heap.size w w') (hf : ∀ t ∈ lineM j, f' t = f t) (h : lineR B b v l J j f w) : lineR B b v l J j f' w' := by
  match j, hb, hf, h with
  | 0, _, hf, h => exact (hf 4 (by decide)).trans h
  | 1, _, hf, h => exact (hf 5 (by decide)).trans h
  | 2, _, hf, h => exact (hf 6 (by decide)).trans h
  | 3, _, hf, h => exact (hf 7 (by decide)).trans h
  | 4, _, hf, h => exact (hf 8 (by decide)).trans h
  | 5, hb, _, h => exact WS.below h (hb rfl)
  | _ + 6, _, _, _ => trivial
set_option maxHeartbeats 2000000 in
set_option maxRecDepth 100000 in
theorem wline_any (B b : Nat) (v : Value) (L : List (List UInt8)) (l : List UInt8) (w : World) (h : WS B b l w) (hB : B ≤ w.heap.size) (hv : ReadsTexts v L w) (hs : L.flatten.length + L.length ≤ 4194304) (hl : l.length ≤ 70368744177664) :
    Calls Tryz.prog 15 #[.pointer (some ⟨b, 0, none⟩), v] w fun e w' => e = .returned (.tuple #[]) ∧ WS B b (l ++ (joinL L ++ [10])) w' ∧ Below B w w' ∧ Bldw.KeptT b w w' := by
  have H := Lib.hid h
  have HV := Lib.hid hv
  have hj := join_size L
  have E33 : Hid (∀ args w, (callFunc 33 args).run Tryz.prog w = .ok (.enter 33 args) w) := enters_of Tryz.func33 (by kernel_rfl) rfl
  have E32 : Hid (∀ args w, (callFunc 32 args).run Tryz.prog w = .ok (.enter 32 args) w) := enters_of Tryz.func32 (by kernel_rfl) rfl
  clear h hv
  go_enter Tryz.func15, Tryz.ntmps15
  go_wp2
  refine wp_region_vals (by kernel_rfl) (by kernel_rfl) lineM (by kernel_rfl) (by kernel_rfl)
    (fun d w' => (d 5 = false → Below w.heap.size w w') ∧ Below B w w' ∧ Bldw.KeptT b w w') (lineR B b v l (joinL L)) ⟨fun _ => (Below.refl _ _).drew, (Below.refl _ _).drew, fun _ _ _ _ => rfl⟩ (fun j f f' w w' hb hf h => line_stab j (fun _ => hb) hf h) ?_ ?_
  · intro i oo d a' w' ho hd hun hok hD K hK hK0
    have okq : i ≠ 5 → ((fun j => decide (j = i) || d j) 5 = false → Below w.heap.size w w') ∧ Below B w w' ∧ Bldw.KeptT b w w' := fun hne =>
      ⟨fun h => hok.1 (by simp only [Bool.or_eq_false_iff] at h; exact h.2), hok.2⟩
    match i, ho, hd, hD, hK, hK0, hun, okq with
    | 0, ho, hd, hD, hK, hK0, hun, okq =>
      have e := (congrArg Oper.op (Option.some.inj ho)).symm
      obtain rfl := Option.some.inj ho
      exact wp_val (op_move a' w' 0 _ e) (hK _ _ (Below.refl _ _) (okq (by decide)) (fun f h1 _ => (h1 _ rfl).trans (hun 0 (by kernel_rfl))))
    | 1, ho, hd, hD, hK, hK0, hun, okq =>
      have e := (congrArg Oper.op (Option.some.inj ho)).symm
      obtain rfl := Option.some.inj ho
      exact wp_val (op_nil a' w' _ 4 (hD 0 (by kernel_rfl)) _ e) (hK _ _ (Below.refl _ _) (okq (by decide)) (fun f h1 _ => h1 _ rfl))
    | 2, ho, hd, hD, hK, hK0, hun, okq =>
      have e := (congrArg Oper.op (Option.some.inj ho)).symm
      obtain rfl := Option.some.inj ho
      exact wp_val (op_field_writer a' w' b 5 (hD 1 (by kernel_rfl)) _ e) (hK _ _ (Below.refl _ _) (okq (by decide)) (fun f h1 _ => h1 _ rfl))
    | 3, ho, hd, hD, hK, hK0, hun, okq =>
      have e := (congrArg Oper.op (Option.some.inj ho)).symm
      obtain rfl := Option.some.inj ho
      exact wp_val (op_move a' w' 1 _ e) (hK _ _ (Below.refl _ _) (okq (by decide)) (fun f h1 _ => (h1 _ rfl).trans (hun 1 (by kernel_rfl))))
    | 4, ho, hd, hD, hK, hK0, hun, okq =>
      have e := (congrArg Oper.op (Option.some.inj ho)).symm
      obtain rfl := Option.some.inj ho
      have q := okq (by decide)
      refine wp_enter (op_call1 a' w' _ 7 _ E33.out _ e) ?_
      rw [show a'.tmps.getD 7 undef = v from hD 3 (by kernel_rfl)]
      have h5 := hd 5 (by kernel_rfl)
      refine (join_any v L w' (HV.out.below (hok.1 h5)) hs).mono ?_
      rintro e w'' ⟨rfl, hb⟩
      have hbw : Below w.heap.size w w'' := (hok.1 h5).trans (hb.mono (hok.1 h5).size)
      exact .inl ⟨_, rfl, hK _ _ hb ⟨fun _ => hbw, hbw.mono hB, Bldw.KeptT.of hbw⟩ (fun f h1 _ => h1 _ rfl)⟩
    | 5, ho, hd, hD, hK, hK0, hun, okq =>
      have e := (congrArg Oper.op (Option.some.inj ho)).symm
      obtain rfl := Option.some.inj ho
      refine wp_enter (op_call2 a' w' _ 6 8 _ _ E32.out _ e) ?_
      rw [show a'.tmps.getD 6 undef = _ from hD 2 (by kernel_rfl), show a'.tmps.getD 8 undef = _ from hD 4 (by kernel_rfl)]
      have hb := hok.1 (hd 5 (by kernel_rfl))
      refine ((H.out.below hb).write (by omega) (Nat.le_trans hB hb.size)).mono ?_
      rintro e w'' ⟨rfl, hws, hbe, hkt⟩
      exact .inl ⟨_, rfl, hK0 _ _ ⟨fun h => by simp at h, hok.2.1.trans hbe, hok.2.2.trans hok.2.1.size hkt⟩ (fun f _ _ => hws) (fun j f hj hf hq => line_stab j (fun e => absurd e hj) hf hq)⟩
    | i + 6, ho, _, _, _, _, _, _ => exact absurd ho (by simp)
  · intro a' w3 hsz hdf hkt hok hR
    obtain ⟨tm, df⟩ := a'
    obtain rfl : df = [] := hdf
    have hs14 : tm.size = 14 := hsz
    obtain ⟨d, hok⟩ := hok
    have k0 : tm.getD 0 undef = .pointer (some ⟨b, 0, none⟩) := hkt 0 (by decide)
    have k1 : tm.getD 1 undef = v := hkt 1 (by decide)
    have hws : WS B b (l ++ joinL L) w3 := hR 5 (by decide)
    have hl14 : tm = #[tm.getD 0 undef, tm.getD 1 undef, tm.getD 2 undef, tm.getD 3 undef, tm.getD 4 undef, tm.getD 5 undef, tm.getD 6 undef, tm.getD 7 undef, tm.getD 8 undef, tm.getD 9 undef, tm.getD 10 undef, tm.getD 11 undef, tm.getD 12 undef, tm.getD 13 undef] := (lit_tm tm 14 hs14).trans rfl
    rw [k0, k1] at hl14
    generalize tm.getD 2 undef = y2 at hl14
    generalize tm.getD 3 undef = y3 at hl14
    generalize tm.getD 4 undef = y4 at hl14
    generalize tm.getD 5 undef = y5 at hl14
    generalize tm.getD 6 undef = y6 at hl14
    generalize tm.getD 7 undef = y7 at hl14
    generalize tm.getD 8 undef = y8 at hl14
    generalize tm.getD 9 undef = y9 at hl14
    generalize tm.getD 10 undef = y10 at hl14
    generalize tm.getD 11 undef = y11 at hl14
    generalize tm.getD 12 undef = y12 at hl14
    generalize tm.getD 13 undef = y13 at hl14
    clear k0 k1 hs14 hkt hR hsz
    subst hl14
    have WN := Lib.hid (hws.write (m := [10]) (by simp; omega) (Nat.le_trans hB hok.2.1.size))
    have HBB := Lib.hid hok.2.1
    have HKK := Lib.hid hok.2.2
    clear hws hok
    unfold sv at WN
    go_wp2_with fail
    refine WN.out.mono ?_
    rintro e w4 ⟨rfl, hws4, hb4, hk4⟩
    have HW4 := Lib.hid hws4
    have HB4 := Lib.hid (HBB.out.trans hb4)
    have HK4 := Lib.hid (HKK.out.trans HBB.out.size hk4)
    clear hws4 hb4 hk4
    go_wp2
    go_end0
    exact ⟨rfl, by rw [← List.append_assoc]; exact HW4.out, HB4.out, HK4.out⟩

theorem WS.block {B b : Nat} {l : List UInt8} {w : World} (h : WS B b l w) : ∃ c, w.heap[b]? = some (.cells c 44 (0, 0)) := by
  rcases h with ⟨_, v, h, _⟩ | ⟨_, v, h, _⟩ <;> exact ⟨_, h⟩
theorem own_type {w : World} {base : Nat} {e : TypeId} {m : Nat} {v : Value} {xs : List (List Value)} (h : OwnC w base e m v xs) {g : Nat} (hg : v.ownBlock = some g) : ∃ cur, w.heap[g]? = some (.cells cur e (0, 0)) := by
  obtain ⟨_, h⟩ := h
  rcases h with ⟨rfl, h0⟩ | ⟨g', cap, cur, rfl, hb, hh, _⟩
  · simp [Value.ownBlock] at hg
  · have : g' = g := by simpa [Value.ownBlock] using hg
    subst this
    exact ⟨cur, hh⟩
/-- a list of texts of the call's own stays while lines are written -/
theorem own_kept {w w' : World} {B b base : Nat} {l : List UInt8} {v : Value} {xs : List (List Value)} (h : OwnC w base 9 1 v xs) (hw : WS B b l w) (hk : Bldw.KeptT b w w') : OwnC w' base 9 1 v xs := h.keep_at fun g hg hv => by
  obtain ⟨cur, hc⟩ := own_type h hv
  refine hk g (lt_of_block hc) (fun e => ?_) (fun c f e => ?_)
  · subst e
    obtain ⟨c, h2⟩ := hw.block
    rw [hc] at h2
    simp at h2
  · rw [hc] at e
    simp at e
theorem nl_snoc (l : List (List UInt8)) (x : List UInt8) : nlL (l ++ [x]) = nlL l ++ (x ++ [10]) := by rw [nl_append]; simp [nlL]
theorem one_text (w : World) (s : List UInt8) : ReadsTexts (.slice (some ⟨w.heap.size, 0, none⟩) 1 1) [s] (w.alloc (.cells #[sv s] 9)) :=
  .inr ⟨w.heap.size, 0, 1, rfl, by simp, fun i hi => by
    have : i = 0 := by simpa using hi
    subst this
    rw [Nat.add_zero, new_cell]; rfl⟩
theorem itoa_short (n : Int) (h : I64 n) : (Lib.itoa n).length ≤ 21 := itoa_len n h.1 h.2
theorem nl_lits (l : List Int) (h : ∀ x ∈ l, I64 x) : (nlL (l.map litL)).length ≤ 22 * l.length := by
  induction l with
  | nil => simp [nlL]
  | cons x l ih =>
    have h1 := ih fun y hy => h y (List.mem_cons_of_mem _ hy)
    have h2 := itoa_short x (h x List.mem_cons_self)
    have e : nlL ((x :: l).map litL) = (Lib.itoa x ++ [10]) ++ nlL (l.map litL) := by unfold nlL litL nums; rfl
    rw [e, List.length_append, List.length_append, List.length_cons]
    simp only [List.length_cons, List.length_nil]
    omega
set_option maxHeartbeats 2000000 in
set_option maxRecDepth 100000 in
theorem wliterals_any (B b : Nat) (ls : List Int) (A : Option Addr) (q : Nat) (l : List UInt8) (w : World) (h : WS B b l w) (hB : B ≤ w.heap.size) (hls : ls.length ≤ 65537) (hr : LRow w B 1 A (ints ls)) (hI : ∀ x ∈ ls, I64 x) (htab : Tab w) (hl : l.length ≤ 35184372088832) :
    Calls Tryz.prog 13 #[.pointer (some ⟨b, 0, none⟩), .slice A ls.length q] w fun e w' => e = .returned (.tuple #[]) ∧ WS B b (l ++ nlL (ls.map litL)) w' ∧ Below B w w' := by
  have H := Lib.hid h
  have PA := Lib.hid (printed_any ls A q B w hls hr hB hI htab)
  have HI := Lib.hid hI
  clear h hr hI htab
  go_enter Tryz.func13, Tryz.ntmps13
  go_wp2_with fail
  refine PA.out.mono ?_
  rintro e w1 ⟨v, rfl, hown, hb1⟩
  have O1 := Lib.hid hown
  have B1 := Lib.hid hb1
  have W1 := Lib.hid (h := H.out.below hb1)
  have hnl : (svs (nums ls)).length = ls.length := by rw [svs_length]; simp [nums]
  obtain ⟨A1, q1, hv, -, -, -⟩ := hown.row (by decide) (by intro y hy; unfold svs at hy; obtain ⟨s, _, rfl⟩ := List.mem_map.1 hy; rfl)
  subst hv
  rw [hnl] at O1
  have HNL := Lib.hid hnl
  clear hown hb1 PA hnl
  rw [HNL.out]
  go_wp2
  go_loopw [9] (fun i wr => ∃ j : Nat, j ≤ ls.length ∧ i = .int .i64 j ∧ WS B b (l ++ nlL ((ls.take j).map litL)) wr ∧ OwnC wr w.heap.size 9 1 (.slice A1 ls.length q1) (svs (nums ls)) ∧ Below B w wr) (fun i _ => ls.length - (intOf i).toNat)
  case atStart => exact ⟨0, Nat.zero_le _, rfl, by simpa [nlL] using W1.out, O1.out, B1.out.mono hB⟩
  case round =>
    obtain ⟨j, hj, rfl, hws, how, hb⟩ := hrel
    have HW := Lib.hid hws
    have HO := Lib.hid how
    have HB := Lib.hid hb
    clear hws how hb
    by_cases hlt : j < ls.length
    · obtain ⟨g, off, hA1, hc⟩ := reads_cellD ((ReadsTexts.at_ (svs_texts HO.out).reads).elim fun a h => h.elim fun c h => by
        obtain ⟨h1, h2⟩ := h
        injection h1 with h1 _ _
        subst h1
        exact h2) j (by simpa [nums] using hlt)
      subst hA1
      have hgd : (nums ls).getD j [] = Lib.itoa ls[j] := by
        unfold nums
        rw [List.getD_eq_getElem?_getD, List.getElem?_map, List.getElem?_eq_getElem hlt]; rfl
      rw [hgd] at hc
      have HT := Lib.hid (show nlL ((ls.take (j + 1)).map litL) = nlL ((ls.take j).map litL) ++ (litL ls[j] ++ [10]) by rw [List.take_succ_eq_append_getElem hlt, List.map_append, List.map_cons, List.map_nil, nl_snoc])
      have hlen := nl_lits (ls.take j) (fun x hx => HI.out x (List.mem_of_mem_take hx))
      rw [List.length_take] at hlen
      have hlx := itoa_short ls[j] (HI.out ls[j] (List.getElem_mem _))
      have HLT : Hid (litL ls[j] = Lib.itoa ls[j]) := rfl
      have hal : Below wr.heap.size wr (wr.alloc (.cells #[sv (Lib.itoa ls[j])] 9)) := (Below.refl _ _).alloc (Nat.le_refl _) _
      have LN := Lib.hid (wline_any B b _ [Lib.itoa ls[j]] _ _ (HW.out.below hal) (Nat.le_trans hB (Nat.le_trans HB.out.size hal.size)) (one_text wr (Lib.itoa ls[j])) (by simp; omega) (by rw [List.length_append]; omega))
      have HO2 := Lib.hid (HO.out.keep hal)
      have HAL := Lib.hid (HB.out.trans (hal.mono (Nat.le_trans hB HB.out.size)))
      have HW2 := Lib.hid (HW.out.below hal)
      rw [HLT.out] at HT
      have HJ : Hid (joinL [Lib.itoa ls[j]] = Lib.itoa ls[j]) := rfl
      rw [HJ.out] at LN
      clear hgd hlen hlx hal HLT HJ
      generalize Lib.itoa ls[j] = y at *
      unfold sv at hc LN
      go_wp2_with fail
      refine LN.out.mono ?_
      rintro e w3 ⟨rfl, hws3, hb3, hk3⟩
      have HW3 := Lib.hid hws3
      have HO3 := Lib.hid (own_kept HO2.out HW2.out hk3)
      have HB3 := Lib.hid (HAL.out.trans hb3)
      clear hws3 hb3 hk3
      go_wp2
      go_roundw
      case rel => exact ⟨j + 1, by omega, by go_num, by rw [HT.out, ← List.append_assoc]; exact HW3.out, HO3.out, HB3.out⟩
      case measure => simp [intOf]; omega
    · obtain rfl : j = ls.length := by omega
      rw [List.take_length] at HW
      go_wp2
      go_end0
      exact ⟨rfl, HW.out, HB.out⟩
end Go.Proofs.YtckdlbfndmmjjaaGreatDoor.Aag
