/- The walks of aig's writing of lines and of numbers in groups, into the bytes.Buffer that the writer embeds; conditions: sizes as stated. The walks of aig's writing of a latch's line and of the header; conditions: the table of powers of ten is as it is laid, sizes as stated. The walk of aag's Print of a circuit that may be; condition: the table of powers of ten is as it is laid. -/
import Derived.Test.YtopjddmgejfalaaGreatDoorPk07
import Derived.Test.YtopjddmgejfalaaGreatDoorPk27
import Derived.Lib.BufferAt
import Derived.Shelf.Bytes.WriteStringAt
import Derived.Shelf.Bytes.WriteByteAt
import Derived.Test.YtopjddmgejfalaaGreatDoorPk25
namespace Go.Proofs.YtopjddmgejfalaaGreatDoor.Aig
open Go.ChangeShapes Go.WideShapes Go.ChangeAt Go.RowKit Dig Circ Cw Aag

/-- the writer in block b has gathered l -/
def WS (B b : Nat) (l : List UInt8) (w : World) : Prop := LibA.IsBuffer 45 (fun _ => none) 5 B b 0 (Lib.byteCells l) w
theorem WS.below {B b : Nat} {l : List UInt8} {w w' : World} (h : WS B b l w) (hb : Below w.heap.size w w') : WS B b l w' := by
  obtain ⟨h1, v, lr, h2, h3, h4⟩ := h
  exact ⟨h1, v, lr, h2.of_heap (hb.block b h2.lt), ownsRow_below h3 hb, h4⟩
theorem WS.block {B b : Nat} {l : List UInt8} {w : World} (h : WS B b l w) : ∃ c, w.heap[b]? = some (.cells c 45 (0, 0)) := by
  obtain ⟨_, v, lr, ⟨cs, h, _⟩, _⟩ := h
  exact ⟨cs, h⟩
theorem kept_of {b : Nat} {w w' : World} (h : Lib.OthersKept 5 (some b) w w') : Bldw.KeptT b w w' := fun k hk hb hc => by
  obtain ⟨o, ho⟩ : ∃ o, w.heap[k]? = some o := ⟨w.heap[k], Array.getElem?_eq_getElem hk⟩
  rw [ho]
  exact h k o ho (by simpa using hb) (fun c fz e => hc c fz (by rw [ho, e]))
theorem WS.write {B b : Nat} {l m : List UInt8} {w : World} (h : WS B b l w) (hlen : l.length + m.length ≤ 140737488355328) (hBw : B ≤ w.heap.size) :
    Calls Tryz.prog 25 #[.pointer (some ⟨b, 0, none⟩), sv m] w fun e w' => e = .returned (.tuple #[.int .i64 m.length, .nilIface]) ∧ (WS B b (l ++ m) w' ∧ Below B w w' ∧ Bldw.KeptT b w w') :=
  (Tryz.Buffer_WriteString_at 45 (fun _ => none) B b 0 (Lib.byteCells l) ⟨m.toArray⟩ w h hBw (Lib.byteCells_one l) (by rw [Lib.byteCells_length]; exact hlen)).mono fun e w' ⟨he, hb, hbe, hk⟩ => ⟨he, by unfold WS; rw [Lib.byteCells_append]; exact hb, hbe, kept_of hk⟩
theorem WS.byte {B b : Nat} {l : List UInt8} {w : World} (c : UInt8) (h : WS B b l w) (hlen : l.length + 1 ≤ 140737488355328) (hBw : B ≤ w.heap.size) :
    Calls Tryz.prog 27 #[.pointer (some ⟨b, 0, none⟩), .int .u8 c.toNat] w fun e w' => e = .returned .nilIface ∧ (WS B b (l ++ [c]) w' ∧ Below B w w' ∧ Bldw.KeptT b w w') :=
  (Tryz.Buffer_WriteByte_at 45 (fun _ => none) B b 0 (Lib.byteCells l) c.toNat w h hBw (Lib.byteCells_one l) (by rw [Lib.byteCells_length]; exact hlen)).mono fun e w' ⟨he, hb, hbe, hk⟩ => ⟨he, by unfold WS; rw [Lib.byteCells_append]; exact hb, hbe, kept_of hk⟩
theorem WS.fresh (w : World) : WS w.heap.size w.heap.size [] (w.alloc (.cells #[.slice none 0 0, .int .i64 0, .int .i8 0] 45)) :=
  LibA.zero_isBuffer (Nat.le_refl _) (LibA.three_whole (heap_alloc_new _ _))
theorem op_field_wr (a : Act) (w : World) (b : Nat) (t : Nat) (h : a.tmps.getD t undef = .pointer (some ⟨b, 0, none⟩)) (oo : Oper) (ho : oo.op = .fieldAddr 45 (.tmp t) 0) : (execOp a.eval oo).run Tryz.prog w = .ok (.value (.pointer (some ⟨b, 0, none⟩))) w := by
  have h' : a.tmps[t]?.getD undef = .pointer (some ⟨b, 0, none⟩) := by simpa using h
  unfold execOp
  rw [ho]
  go_simp
def lineR (B b : Nat) (v : Value) (l J : List UInt8) : Nat → (Nat → Value) → World → Prop
  | 0, f, _ => f 4 = .pointer (some ⟨b, 0, none⟩)
  | 1, f, _ => f 5 = .pointer (some ⟨b, 0, none⟩)
  | 2, f, _ => f 6 = .pointer (some ⟨b, 0, none⟩)
  | 3, f, _ => f 7 = v
  | 4, f, _ => f 8 = sv J
  | 5, _, w => WS B b (l ++ J) w
  | _, _, _ => True
def lineM (j : Nat) : List Nat := if j < 5 then [4 + j] else []
theorem line_stab {B b : Nat} {v : Value} {l J : List UInt8} (j : Nat) {f f' : Nat → Value} {w w' : World} (hb : j = 5 → Below w.heap.size w w') (hf : ∀ t ∈ lineM j, f' t = f t) (h : lineR B b v l J j f w) : lineR B b v l J j f' w' := by
  match j, hb, hf, h with
  | 0, _, hf, h => exact (hf 4 (by decide)).trans h
  | 1, _, hf, h => exact (hf 5 (by decide)).trans h
  | 2, _, hf, h => exact (hf 6 (by decide)).trans h
  | 3, _, hf, h => exact (hf 7 (by decide)).trans h
  | 4, _, hf, h => exact (hf 8 (by decide)).trans h
  | 5, hb, _, h => exact WS.below h (hb rfl)
  | _ + 6, _, _, _ => trivial
set_option maxHeartbeats 2000000 in
set_option maxRecDepth 100000 in
theorem wline_any (B b : Nat) (v : Value) (L : List (List UInt8)) (l : List UInt8) (w : World) (h : WS B b l w) (hB : B ≤ w.heap.size) (hv : ReadsTexts v L w) (hs : L.flatten.length + L.length ≤ 4194304) (hl : l.length ≤ 70368744177664) :
    Calls Tryz.prog 14 #[.pointer (some ⟨b, 0, none⟩), v] w fun e w' => e = .returned (.tuple #[]) ∧ WS B b (l ++ (joinL L ++ [10])) w' ∧ Below B w w' ∧ Bldw.KeptT b w w' := by
  have H := Lib.hid h
  have HV := Lib.hid hv
  have hj := join_size L
  have E33 : Hid (∀ args w, (callFunc 26 args).run Tryz.prog w = .ok (.enter 26 args) w) := enters_of Tryz.func26 (by kernel_rfl) rfl
  have E32 : Hid (∀ args w, (callFunc 25 args).run Tryz.prog w = .ok (.enter 25 args) w) := enters_of Tryz.func25 (by kernel_rfl) rfl
  clear h hv
  go_enter Tryz.func14, Tryz.ntmps14
  go_wp2
  refine wp_region_vals (by kernel_rfl) (by kernel_rfl) lineM (by kernel_rfl) (by kernel_rfl)
    (fun d w' => (d 5 = false → Below w.heap.size w w') ∧ Below B w w' ∧ Bldw.KeptT b w w') (lineR B b v l (joinL L)) ⟨fun _ => (Below.refl _ _).drew, (Below.refl _ _).drew, fun _ _ _ _ => rfl⟩ (fun j f f' w w' hb hf h => line_stab j (fun _ => hb) hf h) ?_ ?_
  · intro i oo d a' w' ho hd hun hok hD K hK hK0
    have okq : i ≠ 5 → ((fun j => decide (j = i) || d j) 5 = false → Below w.heap.size w w') ∧ Below B w w' ∧ Bldw.KeptT b w w' := fun hne =>
      ⟨fun h => hok.1 (by simp only [Bool.or_eq_false_iff] at h; exact h.2), hok.2⟩
    match i, ho, hd, hD, hK, hK0, hun, okq with
    | 0, ho, hd, hD, hK, hK0, hun, okq =>
      have e := (congrArg Oper.op (Option.some.inj ho)).symm
      obtain rfl := Option.some.inj ho
      exact wp_val (op_move a' w' 0 _ e) (hK _ _ (Below.refl _ _) (okq (by decide)) (fun f h1 _ => (h1 _ rfl).trans (hun 0 (by kernel_rfl))))
    | 1, ho, hd, hD, hK, hK0, hun, okq =>
      have e := (congrArg Oper.op (Option.some.inj ho)).symm
      obtain rfl := Option.some.inj ho
      exact wp_val (op_nil a' w' _ 4 (hD 0 (by kernel_rfl)) _ e) (hK _ _ (Below.refl _ _) (okq (by decide)) (fun f h1 _ => h1 _ rfl))
    | 2, ho, hd, hD, hK, hK0, hun, okq =>
      have e := (congrArg Oper.op (Option.some.inj ho)).symm
      obtain rfl := Option.some.inj ho
      exact wp_val (op_field_wr a' w' b 5 (hD 1 (by kernel_rfl)) _ e) (hK _ _ (Below.refl _ _) (okq (by decide)) (fun f h1 _ => h1 _ rfl))
    | 3, ho, hd, hD, hK, hK0, hun, okq =>
      have e := (congrArg Oper.op (Option.some.inj ho)).symm
      obtain rfl := Option.some.inj ho
      exact wp_val (op_move a' w' 1 _ e) (hK _ _ (Below.refl _ _) (okq (by decide)) (fun f h1 _ => (h1 _ rfl).trans (hun 1 (by kernel_rfl))))
    | 4, ho, hd, hD, hK, hK0, hun, okq =>
      have e := (congrArg Oper.op (Option.some.inj ho)).symm
      obtain rfl := Option.some.inj ho
      have q := okq (by decide)
      refine wp_enter (op_call1 a' w' _ 7 _ E33.out _ e) ?_
      rw [show a'.tmps.getD 7 undef = v from hD 3 (by kernel_rfl)]
      have h5 := hd 5 (by kernel_rfl)
      refine (join_any v L w' (HV.out.below (hok.1 h5)) hs).mono ?_
      rintro e w'' ⟨rfl, hb⟩
      have hbw : Below w.heap.size w w'' := (hok.1 h5).trans (hb.mono (hok.1 h5).size)
      exact .inl ⟨_, rfl, hK _ _ hb ⟨fun _ => hbw, hbw.mono hB, Bldw.KeptT.of hbw⟩ (fun f h1 _ => h1 _ rfl)⟩
    | 5, ho, hd, hD, hK, hK0, hun, okq =>
      have e := (congrArg Oper.op (Option.some.inj ho)).symm
      obtain rfl := Option.some.inj ho
      refine wp_enter (op_call2 a' w' _ 6 8 _ _ E32.out _ e) ?_
      rw [show a'.tmps.getD 6 undef = _ from hD 2 (by kernel_rfl), show a'.tmps.getD 8 undef = _ from hD 4 (by kernel_rfl)]
      have hb := hok.1 (hd 5 (by kernel_rfl))
      refine ((H.out.below hb).write (by omega) (Nat.le_trans hB hb.size)).mono ?_
      rintro e w'' ⟨rfl, hws, hbe, hkt⟩
      exact .inl ⟨_, rfl, hK0 _ _ ⟨fun h => by simp at h, hok.2.1.trans hbe, hok.2.2.trans hok.2.1.size hkt⟩ (fun f _ _ => hws) (fun j f hj hf hq => line_stab j (fun e => absurd e hj) hf hq)⟩
    | i + 6, ho, _, _, _, _, _, _ => exact absurd ho (by simp)
  · intro a' w3 hsz hdf hkt hok hR
    obtain ⟨tm, df⟩ := a'
    obtain rfl : df = [] := hdf
    have hs14 : tm.size = 14 := hsz
    obtain ⟨d, hok⟩ := hok
    have k0 : tm.getD 0 undef = .pointer (some ⟨b, 0, none⟩) := hkt 0 (by decide)
    have k1 : tm.getD 1 undef = v := hkt 1 (by decide)
    have hws : WS B b (l ++ joinL L) w3 := hR 5 (by decide)
    have hl14 : tm = #[tm.getD 0 undef, tm.getD 1 undef, tm.getD 2 undef, tm.getD 3 undef, tm.getD 4 undef, tm.getD 5 undef, tm.getD 6 undef, tm.getD 7 undef, tm.getD 8 undef, tm.getD 9 undef, tm.getD 10 undef, tm.getD 11 undef, tm.getD 12 undef, tm.getD 13 undef] := (lit_tm tm 14 hs14).trans rfl
    rw [k0, k1] at hl14
    generalize tm.getD 2 undef = y2 at hl14
    generalize tm.getD 3 undef = y3 at hl14
    generalize tm.getD 4 undef = y4 at hl14
    generalize tm.getD 5 undef = y5 at hl14
    generalize tm.getD 6 undef = y6 at hl14
    generalize tm.getD 7 undef = y7 at hl14
    generalize tm.getD 8 undef = y8 at hl14
    generalize tm.getD 9 undef = y9 at hl14
    generalize tm.getD 10 undef = y10 at hl14
    generalize tm.getD 11 undef = y11 at hl14
    generalize tm.getD 12 undef = y12 at hl14
    generalize tm.getD 13 undef = y13 at hl14
    clear k0 k1 hs14 hkt hR hsz
    subst hl14
    have WN := Lib.hid (hws.byte 10 (by simp; omega) (Nat.le_trans hB hok.2.1.size))
    rw [show (((10 : UInt8).toNat : Nat) : Int) = 10 from rfl] at WN
    have HBB := Lib.hid hok.2.1
    have HKK := Lib.hid hok.2.2
    clear hws hok
    go_wp2_with fail
    refine WN.out.mono ?_
    rintro e w4 ⟨rfl, hws4, hb4, hk4⟩
    have HW4 := Lib.hid hws4
    have HB4 := Lib.hid (HBB.out.trans hb4)
    have HK4 := Lib.hid (HKK.out.trans HBB.out.size hk4)
    clear hws4 hb4 hk4
    go_wp2
    go_end0
    exact ⟨rfl, by rw [← List.append_assoc]; exact HW4.out, HB4.out, HK4.out⟩


/-- a number, in its groups -/
theorem grp_len (n : Nat) : ∀ m, n ≤ m → (grp n).length ≤ n + 1 := by
  intro m
  induction m generalizing n with
  | zero => intro h; obtain rfl : n = 0 := (by omega); rw [grp_small 0 (by omega)]; simp
  | succ m ih =>
    intro h
    by_cases hn : n < 128
    · rw [grp_small n hn]; simp
    · rw [grp_great n hn, List.length_cons]
      have := ih (n / 128) (by omega)
      omega
set_option maxHeartbeats 2000000 in
set_option maxRecDepth 100000 in
theorem wnumber_any (B b n : Nat) (l : List UInt8) (w : World) (h : WS B b l w) (hB : B ≤ w.heap.size) (hn : n ≤ 65536) (hl : l.length ≤ 70368744177664) :
    Calls Tryz.prog 16 #[.pointer (some ⟨b, 0, none⟩), .int .i64 n] w fun e w' => e = .returned (.tuple #[]) ∧ WS B b (l ++ grp n) w' ∧ Below B w w' ∧ Bldw.KeptT b w w' := by
  have H := Lib.hid h
  have HG := Lib.hid (grp_len n n (Nat.le_refl _))
  clear h
  go_enter Tryz.func16, Tryz.ntmps16
  go_wp2
  go_loopw [1] (fun x wr => ∃ (m : Nat) (g : List UInt8), x = .int .i64 m ∧ m ≤ n ∧ g ++ grp m = grp n ∧ WS B b (l ++ g) wr ∧ Below B w wr ∧ Bldw.KeptT b w wr) (fun x _ => (intOf x).toNat)
  case atStart => exact ⟨n, [], rfl, Nat.le_refl _, rfl, by rw [List.append_nil]; exact H.out, Below.refl _ _, fun _ _ _ _ => rfl⟩
  case round =>
    obtain ⟨m, g, rfl, hm, hg, hws, hb, hk⟩ := hrel
    have HW := Lib.hid hws
    have HB := Lib.hid hb
    have HK := Lib.hid hk
    have HGL : Hid (g.length ≤ 65537) := by
      have h1 := congrArg List.length hg
      rw [List.length_append] at h1
      have h2 := HG.out
      unfold Hid; omega
    have HGE := Lib.hid hg
    clear hws hb hk hg
    by_cases hlt : m < 128
    · have WN := Lib.hid (HW.out.byte (UInt8.ofNat m) (by rw [List.length_append]; have := HGL.out; omega) (Nat.le_trans hB HB.out.size))
      have e : ((UInt8.ofNat m).toNat : Int) = (m : Int) := by rw [UInt8.toNat_ofNat']; omega
      rw [e] at WN
      have HS : Hid (grp m = [UInt8.ofNat m]) := grp_small m hlt
      clear e
      go_wp2_with fail
      refine WN.out.mono ?_
      rintro e w4 ⟨rfl, hws4, hb4, hk4⟩
      have HW4 := Lib.hid hws4
      have HB4 := Lib.hid (HB.out.trans hb4)
      have HK4 := Lib.hid (HK.out.trans HB.out.size hk4)
      clear hws4 hb4 hk4
      go_wp2
      go_end0
      exact ⟨rfl, by rw [← HGE.out, HS.out, ← List.append_assoc]; exact HW4.out, HB4.out, HK4.out⟩
    · have WN := Lib.hid (HW.out.byte (UInt8.ofNat (128 + m % 128)) (by rw [List.length_append]; have := HGL.out; omega) (Nat.le_trans hB HB.out.size))
      have e : ((UInt8.ofNat (128 + m % 128)).toNat : Int) = 128 + (m : Int) % 128 := by rw [UInt8.toNat_ofNat']; omega
      rw [e] at WN
      have HS : Hid (grp m = UInt8.ofNat (128 + m % 128) :: grp (m / 128)) := grp_great m hlt
      clear e
      go_wp2_with fail
      refine WN.out.mono ?_
      rintro e w4 ⟨rfl, hws4, hb4, hk4⟩
      have HW4 := Lib.hid hws4
      have HB4 := Lib.hid (HB.out.trans hb4)
      have HK4 := Lib.hid (HK.out.trans HB.out.size hk4)
      clear hws4 hb4 hk4
      go_wp2
      go_roundw
      case rel => exact ⟨m / 128, g ++ [UInt8.ofNat (128 + m % 128)], by go_num, by omega, by rw [← HGE.out, HS.out]; simp, by rw [← List.append_assoc]; exact HW4.out, HB4.out, HK4.out⟩
      case measure => simp [intOf]; omega
end Go.Proofs.YtopjddmgejfalaaGreatDoor.Aig
namespace Go.Proofs.YtopjddmgejfalaaGreatDoor.Aig
open Go.ChangeShapes Go.WideShapes Go.ChangeAt Go.RowKit Dig Circ Cw Aag

set_option maxHeartbeats 4000000 in
set_option maxRecDepth 100000 in
theorem wlatch_any (B b : Nat) (t : Tri) (l : List UInt8) (w : World) (h : WS B b l w) (hB : B ≤ w.heap.size) (ht : t.fits) (htab : Tab w) (hl : l.length ≤ 35184372088832) :
    Calls Tryz.prog 13 #[.pointer (some ⟨b, 0, none⟩), .agg #[.int .i64 t.a, .int .i64 t.b, .int .i64 t.c]] w fun e w' => e = .returned (.tuple #[]) ∧ WS B b (l ++ (lat5 t ++ [10])) w' ∧ Below B w w' := by
  obtain ⟨x, y, z⟩ := t
  obtain ⟨hx, hy, hz⟩ := ht
  obtain ⟨wA, hwA⟩ : ∃ a, w.alloc (.cells #[.int .i64 x, .int .i64 y, .int .i64 z] 48) = a := ⟨_, rfl⟩
  have sA : wA.heap.size = w.heap.size + 1 := by rw [← hwA]; simp
  have bA : Below w.heap.size w wA := by rw [← hwA]; exact (Below.refl _ _).alloc (Nat.le_refl _) _
  have kA : wA.heap[w.heap.size]? = some (.cells #[.int .i64 x, .int .i64 y, .int .i64 z] 48 (0, 0)) := by rw [← hwA]; exact Array.getElem?_push_size
  have c1 : wA.cell? ⟨w.heap.size, 1, none⟩ = some (.int .i64 y) := by rw [Lib.cell_of_heap kA]; rfl
  have HA := Lib.hid bA
  have KA := Lib.hid kA
  have HT := Lib.hid htab
  have H := Lib.hid h
  have PY := Lib.hid (print_any y hy.1 hy.2 wA (HT.out wA HA.out))
  have HY : Hid ((Lib.itoa y).length ≤ 21) := itoa_short y hy
  have HZ : Hid ((Lib.itoa z).length ≤ 21) := itoa_short z hz
  have HZI := Lib.hid hz
  clear h htab hx hy hz bA kA
  unfold lat5
  simp only
  go_enter Tryz.func13, Tryz.ntmps13
  go_wp2_with fail
  refine PY.out.mono ?_
  rintro e w1 ⟨rfl, hb1⟩
  have B1 : Hid (Below w.heap.size w w1) := HA.out.trans (hb1.mono HA.out.size)
  have K1 : Hid (w1.heap[w.heap.size]? = some (.cells #[.int .i64 x, .int .i64 y, .int .i64 z] 48 (0, 0))) := (hb1.block _ (lt_of_block KA.out)).trans KA.out
  clear hb1 PY sA hwA c1
  have O1 := Lib.hid (own_one w1 w1.heap.size 9 (sv (Lib.itoa y)) (Nat.le_refl _))
  have T1 := Lib.hid (one_text w1 (Lib.itoa y))
  obtain ⟨w2, hw2⟩ : ∃ a, w1.alloc (.cells #[sv (Lib.itoa y)] 9) = a := ⟨_, rfl⟩
  have b2 : Below w1.heap.size w1 w2 := by rw [← hw2]; exact (Below.refl _ _).alloc (Nat.le_refl _) _
  have B2 : Hid (Below w.heap.size w w2) := B1.out.trans (b2.mono B1.out.size)
  have kk : w2.heap[w.heap.size]? = some (.cells #[.int .i64 x, .int .i64 y, .int .i64 z] 48 (0, 0)) := (b2.block _ (lt_of_block K1.out)).trans K1.out
  have c2 : w2.cell? ⟨w.heap.size, 2, none⟩ = some (.int .i64 z) := by rw [Lib.cell_of_heap kk]; rfl
  rw [hw2] at O1 T1
  clear b2 kk
  unfold sv at hw2
  by_cases hz' : z = 0
  · subst hz'
    have LN := Lib.hid (wline_any B b (.slice (some ⟨w1.heap.size, 0, none⟩) 1 1) (nums [y]) l w2 (H.out.below B2.out) (Nat.le_trans hB B2.out.size) T1.out (by have := HY.out; simp [nums]; omega) (by omega))
    go_wp2_with fail
    refine LN.out.mono ?_
    rintro e w3 ⟨rfl, hws, hb3, -⟩
    have HW := Lib.hid hws
    have HB3 := Lib.hid ((B2.out.mono hB).trans hb3)
    clear hws hb3
    go_wp2
    go_end0
    exact ⟨rfl, HW.out, HB3.out⟩
  · have hzb : (z == 0) = false := by simpa using hz'
    have PZ := Lib.hid (print_any z HZI.out.1 HZI.out.2 w2 (HT.out w2 B2.out))
    go_wp2_with fail
    refine PZ.out.mono ?_
    rintro e w3 ⟨rfl, hb3⟩
    have B3 : Hid (Below w.heap.size w w3) := B2.out.trans (hb3.mono B2.out.size)
    have al4 : Below w3.heap.size w3 (w3.alloc (.cells #[.string ⟨(Lib.itoa z).toArray⟩] 9)) := (Below.refl _ _).alloc (Nat.le_refl _) _
    have O4 := Lib.hid ((O1.out.keep hb3).keep al4)
    have B4 : Hid (Below w.heap.size w (w3.alloc (.cells #[.string ⟨(Lib.itoa z).toArray⟩] 9))) := B3.out.trans (al4.mono B3.out.size)
    have HC : Hid (∀ (j : Nat) u, [Value.string ⟨(Lib.itoa z).toArray⟩][j]? = some u → (w3.alloc (.cells #[.string ⟨(Lib.itoa z).toArray⟩] 9)).cell? ⟨w3.heap.size, j, none⟩ = some u) := fun j u hu => by
      rw [new_cell]; simpa using hu
    have HONE : Hid (∀ u ∈ [Value.string ⟨(Lib.itoa z).toArray⟩], u.oneCell' = true) := fun u hu => by
      simp only [List.mem_singleton] at hu
      subst hu; rfl
    have HBS : Hid (w1.heap.size ≤ (w3.alloc (.cells #[.string ⟨(Lib.itoa z).toArray⟩] 9)).heap.size) := by
      have h1 := (O1.out.block_lt w1.heap.size rfl).2
      have h2 := hb3.size
      have h3 := al4.size
      unfold Hid; omega
    clear hb3 al4 PZ hw2 c2
    go_wp2_with (at_builtin; refine wpList_push _ rfl (.tmp 12) (.tmp 16) 71 rfl 9 1 16 (.string ⟨#[]⟩) Tryz.underlying71 info9 rfl (by decide) w1.heap.size _ _ O4.out rfl w3.heap.size 1 rfl [.string ⟨(Lib.itoa z).toArray⟩] HC.out rfl HONE.out (by simp) (by simp) HBS.out ?_)
    intro v2 w5 hown hbel _
    have B5 : Hid (Below w.heap.size w w5) := B4.out.trans (hbel.mono B1.out.size)
    have LN := Lib.hid (wline_any B b v2 (nums [y, z]) l w5 (H.out.below B5.out) (Nat.le_trans hB B5.out.size) (svs_texts hown).reads (by have := HY.out; have := HZ.out; simp [nums]; omega) (by omega))
    clear hown hbel
    go_wp2_with fail
    refine LN.out.mono ?_
    rintro e w6 ⟨rfl, hws, hb6, -⟩
    have HW := Lib.hid hws
    have HB6 := Lib.hid ((B5.out.mono hB).trans hb6)
    clear hws hb6
    go_wp2
    go_end0
    exact ⟨rfl, HW.out, HB6.out⟩

theorem head5_eq (c : Cir) : head5 c = joinL ([97, 105, 103] :: nums (headNs c)) := rfl
theorem nums_short (L : List Int) (h : ∀ x ∈ L, (Lib.itoa x).length ≤ 21) : (nums L).flatten.length ≤ 21 * L.length := by
  induction L with
  | nil => simp [nums]
  | cons x L ih =>
    have := ih fun y hy => h y (List.mem_cons_of_mem _ hy)
    have h2 := h x List.mem_cons_self
    have e : (nums (x :: L)).flatten = Lib.itoa x ++ (nums L).flatten := rfl
    rw [e, List.length_append, List.length_cons]
    omega
theorem svs_more (L : List (List UInt8)) (x : List UInt8) (ns : List Int) (j : Nat) (h : j < ns.length) (e : L = x :: nums (ns.take j)) : svs L ++ [[sv (Lib.itoa ns[j])]] = svs (x :: nums (ns.take (j + 1))) := by
  rw [e, svs_snoc, nums_take ns j h]; rfl

set_option maxHeartbeats 4000000 in
set_option maxRecDepth 100000 in
theorem wheader_any (B b : Nat) (c : Cir) (s : Places) (l : List UInt8) (w : World) (h : WS B b l w) (hB : B ≤ w.heap.size) (hf : CFits c s) (htab : Tab w) (hl : l.length ≤ 35184372088832) :
    Calls Tryz.prog 12 #[.pointer (some ⟨b, 0, none⟩), cirV c s] w fun e w' => e = .returned (.tuple #[]) ∧ WS B b (l ++ (head5 c ++ [10])) w' ∧ Below B w w' := by
  have hI : ∀ x ∈ headNs c, I64 x := by
    have h0 := hf.max
    have h1 := hf.li; have h2 := hf.ll; have h3 := hf.lo; have h4 := hf.la; have h5 := hf.lb; have h6 := hf.lc
    intro x hx
    unfold headNs at hx
    simp only [List.mem_cons, List.not_mem_nil, or_false] at hx
    rcases hx with rfl | rfl | rfl | rfl | rfl | rfl | rfl
    · exact h0
    all_goals (constructor <;> omega)
  have HI := Lib.hid hI
  have HT := Lib.hid htab
  have H := Lib.hid h
  obtain ⟨wA, hwA⟩ : ∃ a, w.alloc (.cells #[.int .i64 c.max, .slice s.ai c.ins.length s.ki, .slice s.al c.lats.length s.kl, .slice s.ao c.outs.length s.ko, .slice s.ab c.bads.length s.kb, .slice s.ac c.invs.length s.kc, .slice s.aa c.ands.length s.ka, .slice s.an c.names.length s.kn] 27) = a := ⟨_, rfl⟩
  have sA : wA.heap.size = w.heap.size + 1 := by rw [← hwA]; simp
  have bA : Below w.heap.size w wA := by rw [← hwA]; exact (Below.refl _ _).alloc (Nat.le_refl _) _
  have kA : wA.heap[w.heap.size]? = some (.cells (cirC c s) 27 (0, 0)) := by rw [← hwA]; exact Array.getElem?_push_size
  obtain ⟨wB, hwB⟩ : ∃ a, wA.alloc (.cells #[.string ⟨#[97, 105, 103]⟩] 9) = a := ⟨_, rfl⟩
  have bB : Below wA.heap.size wA wB := by rw [← hwB]; exact (Below.refl _ _).alloc (Nat.le_refl _) _
  have sB : wB.heap.size = w.heap.size + 2 := by rw [← hwB]; simp [sA]
  obtain ⟨ns, hns⟩ : ∃ ns, ns = headNs c := ⟨_, rfl⟩
  obtain ⟨wC, hwC⟩ : ∃ a, wB.alloc (.cells #[.int .i64 c.max, .int .i64 c.ins.length, .int .i64 c.lats.length, .int .i64 c.outs.length, .int .i64 c.ands.length, .int .i64 c.bads.length, .int .i64 c.invs.length] 3) = a := ⟨_, rfl⟩
  have bC : Below wB.heap.size wB wC := by rw [← hwC]; exact (Below.refl _ _).alloc (Nat.le_refl _) _
  have LR : Hid (LRow wC wC.heap.size 1 (some ⟨w.heap.size + 2, 0, none⟩) (ints ns)) := by
    have := ints_row wB (headNs c) #[.int .i64 c.max, .int .i64 c.ins.length, .int .i64 c.lats.length, .int .i64 c.outs.length, .int .i64 c.ands.length, .int .i64 c.bads.length, .int .i64 c.invs.length] 3 rfl
    rw [hwC, sB] at this
    rw [hns]
    exact this.more (by have := bC.size; rw [← hwC]; simp [sB])
  have O0 : Hid (OwnC wC (w.heap.size + 1) 9 1 (.slice (some ⟨w.heap.size + 1, 0, none⟩) 1 1) (svs ([97, 105, 103] :: nums (ns.take 0)))) := by
    have := own_one wA wA.heap.size 9 (sv [97, 105, 103]) (Nat.le_refl _)
    unfold sv at this
    rw [hwB] at this
    have h2 := this.keep bC
    rw [sA] at h2
    exact h2
  have BC : Hid (Below w.heap.size w wC) := bA.trans ((bB.mono bA.size).trans (bC.mono (by omega)))
  obtain ⟨e0, e1, e2, e3, e4, e5, e6, e7⟩ := cells8 ((bB.block _ (by omega)).trans kA)
  have SC : Hid (w.heap.size + 2 ≤ wC.heap.size) := by have := bC.size; unfold Hid; omega
  have QC : Hid (wC.heap[w.heap.size + 2]? = some (.cells #[.int .i64 c.max, .int .i64 c.ins.length, .int .i64 c.lats.length, .int .i64 c.outs.length, .int .i64 c.ands.length, .int .i64 c.bads.length, .int .i64 c.invs.length] 3 (0, 0))) := by unfold Hid; rw [← hwC, ← sB]; exact Array.getElem?_push_size
  have N7 : Hid (ns.length = 7) := by unfold Hid; rw [hns]; rfl
  have NI : Hid (∀ x ∈ ns, I64 x) := by rw [hns]; exact HI.out
  rw [head5_eq, ← hns]
  clear h htab hI hf bA bB bC kA HI hns
  rw [show cirV c s = .agg #[.int .i64 c.max, .slice s.ai c.ins.length s.ki, .slice s.al c.lats.length s.kl, .slice s.ao c.outs.length s.ko, .slice s.ab c.bads.length s.kb, .slice s.ac c.invs.length s.kc, .slice s.aa c.ands.length s.ka, .slice s.an c.names.length s.kn] from rfl]
  go_enter Tryz.func12, Tryz.ntmps12
  go_wp2
  clear hwA sA hwB sB hwC e0 e1 e2 e3 e4 e5 e6 e7
  go_loopw [30, 4] (fun i v wr => ∃ (j : Nat) (vv : Value), j ≤ 7 ∧ i = .int .i64 j ∧ vv = v ∧ OwnC wr (w.heap.size + 1) 9 1 vv (svs ([97, 105, 103] :: nums (ns.take j))) ∧ Below (w.heap.size + 1) wC wr ∧ wr.heap[w.heap.size + 2]? = wC.heap[w.heap.size + 2]?) (fun i _ _ => 7 - (intOf i).toNat)
  case atStart => exact ⟨0, _, Nat.zero_le _, rfl, rfl, O0.out, Below.refl _ _, rfl⟩
  case round =>
    obtain ⟨j, v, hj, rfl, rfl, how, hb, hq⟩ := hrel
    have HO := Lib.hid how
    have HB := Lib.hid hb
    have HQ := Lib.hid hq
    clear how hb hq
    by_cases hlt : j < 7
    · have hlt2 : j < ns.length := by rw [N7.out]; exact hlt
      obtain ⟨g, o, hgo, -, hc⟩ := LR.out.int hlt2
      simp only [Option.some.injEq, Addr.mk.injEq, and_true] at hgo
      obtain ⟨rfl, rfl⟩ := hgo
      rw [Nat.zero_add] at hc
      have hc2 : wr.cell? ⟨w.heap.size + 2, j, none⟩ = wC.cell? ⟨w.heap.size + 2, j, none⟩ := by simp [World.cell?, HQ.out]
      rw [hc] at hc2
      clear hc
      have HX := Lib.hid (svs_more _ [97, 105, 103] ns j hlt2 rfl)
      obtain ⟨i1, i2⟩ := NI.out ns[j] (List.getElem_mem _)
      generalize ns[j] = x at *
      clear hlt2
      have BWR : Hid (Below w.heap.size w wr) := BC.out.trans (HB.out.mono (by omega))
      have PR := Lib.hid (print_any x i1 i2 wr (HT.out wr BWR.out))
      go_wp2_with fail
      refine PR.out.mono ?_
      rintro e w2 ⟨rfl, hb2⟩
      have hal2 : Below w2.heap.size w2 (w2.alloc (.cells #[.string ⟨(Lib.itoa x).toArray⟩] 9)) := (Below.refl _ _).alloc (Nat.le_refl _) _
      have O3 := Lib.hid ((HO.out.keep hb2).keep hal2)
      have hqr : wr.heap[w.heap.size + 2]? = _ := HQ.out.trans QC.out
      have Q3 : Hid ((w2.alloc (.cells #[.string ⟨(Lib.itoa x).toArray⟩] 9)).heap[w.heap.size + 2]? = some (.cells #[.int .i64 c.max, .int .i64 c.ins.length, .int .i64 c.lats.length, .int .i64 c.outs.length, .int .i64 c.ands.length, .int .i64 c.bads.length, .int .i64 c.invs.length] 3 (0, 0))) := by
        have h2 := (hb2.block _ (lt_of_block hqr)).trans hqr
        exact (hal2.block _ (lt_of_block h2)).trans h2
      have B3 : Hid (Below (w.heap.size + 1) wC (w2.alloc (.cells #[.string ⟨(Lib.itoa x).toArray⟩] 9))) := HB.out.trans ((hb2.mono (by have := HB.out.size; have := SC.out; omega)).trans (hal2.mono (by have := HB.out.size; have := SC.out; have := hb2.size; omega)))
      have HC : Hid (∀ (j : Nat) u, [Value.string ⟨(Lib.itoa x).toArray⟩][j]? = some u → (w2.alloc (.cells #[.string ⟨(Lib.itoa x).toArray⟩] 9)).cell? ⟨w2.heap.size, j, none⟩ = some u) := fun j u hu => by
        rw [new_cell]; simpa using hu
      have HONE : Hid (∀ u ∈ [Value.string ⟨(Lib.itoa x).toArray⟩], u.oneCell' = true) := fun u hu => by
        simp only [List.mem_singleton] at hu
        subst hu; rfl
      have HL : Hid ((svs ([97, 105, 103] :: nums (ns.take j))).length ≤ 65537) := by unfold Hid; rw [svs_length]; simp [nums]; omega
      have HBS : Hid (w.heap.size + 1 ≤ (w2.alloc (.cells #[.string ⟨(Lib.itoa x).toArray⟩] 9)).heap.size) := by have := B3.out.size; have := SC.out; unfold Hid; omega
      clear hb2 hal2 PR HO hqr hc2
      go_wp2_with (at_builtin; refine wpList_push _ rfl (.tmp 34) (.tmp 37) 71 rfl 9 1 16 (.string ⟨#[]⟩) Tryz.underlying71 info9 rfl (by decide) (w.heap.size + 1) v _ O3.out rfl w2.heap.size 1 rfl [.string ⟨(Lib.itoa x).toArray⟩] HC.out rfl HONE.out (by have := HL.out; omega) (by have := HL.out; omega) HBS.out ?_)
      intro v2 w3 hown hbel hoth
      have HO4 := Lib.hid hown
      have HB4 : Hid (Below (w.heap.size + 1) wC w3) := B3.out.trans hbel
      have HQ4 : Hid (w3.heap[w.heap.size + 2]? = wC.heap[w.heap.size + 2]?) := by
        unfold Hid
        rw [QC.out, hoth _ (by have := lt_of_block Q3.out; simpa using this) (fun e => by
          obtain ⟨cur, hcur⟩ := own_type O3.out e.symm
          rw [Q3.out] at hcur
          simp at hcur)]
        exact Q3.out
      clear hown hbel hoth O3 Q3
      go_wp2
      go_roundw
      case rel => exact ⟨j + 1, _, by omega, by go_num, rfl, by rw [← HX.out]; exact HO4.out, HB4.out, HQ4.out⟩
      case measure => simp [intOf]; omega
    · obtain rfl : j = 7 := by omega
      rw [show ns.take 7 = ns by rw [← N7.out]; exact List.take_length] at HO
      have BWR : Hid (Below w.heap.size w wr) := BC.out.trans (HB.out.mono (by omega))
      have hsz : (([97, 105, 103] : List UInt8) :: nums ns).flatten.length + (([97, 105, 103] : List UInt8) :: nums ns).length ≤ 4194304 := by
        have h1 := nums_short ns (fun x hx => itoa_short x (NI.out x hx))
        rw [N7.out] at h1
        have h3 : (nums ns).length = 7 := by unfold nums; rw [List.length_map, N7.out]
        simp only [List.flatten_cons, List.length_append, List.length_cons, List.length_nil, h3]
        omega
      have LN := Lib.hid (wline_any B b v ([97, 105, 103] :: nums ns) l wr (H.out.below BWR.out) (Nat.le_trans hB BWR.out.size) (svs_texts HO.out).reads hsz (by omega))
      clear hsz HO
      go_wp2_with fail
      refine LN.out.mono ?_
      rintro e w6 ⟨rfl, hws, hb6, -⟩
      have HW := Lib.hid hws
      have HB6 := Lib.hid ((BWR.out.mono hB).trans hb6)
      clear hws hb6
      go_wp2
      go_end0
      exact ⟨rfl, HW.out, HB6.out⟩
end Go.Proofs.YtopjddmgejfalaaGreatDoor.Aig
namespace Go.Proofs.YtopjddmgejfalaaGreatDoor.Aag
open Go.ChangeShapes Go.WideShapes Go.ChangeAt Go.RowKit Go.Maps Dig Circ Cw

theorem cat_size {x : Nam} (hf : NamFine x) (hi : x.fits) : x.kind.size + (⟨(Lib.itoa x.num).toArray⟩ : ByteArray).size ≤ 140737488355328 := by
  obtain ⟨⟨k, _, hk⟩, _, _⟩ := hf
  have h1 : x.kind.data.toList.length = 1 := by rw [hk]; rfl
  have h2 := itoa_short x.num hi.2.1
  have h3 : x.kind.size = x.kind.data.toList.length := by simp
  have h4 : (⟨(Lib.itoa x.num).toArray⟩ : ByteArray).size = (Lib.itoa x.num).length := by simp [ByteArray.size]
  omega
theorem nam_size {x : Nam} (hf : NamFine x) (hi : x.fits) (ht : x.text.data.toList.length ≤ 32) : ([x.kind.data.toList ++ Lib.itoa x.num, x.text.data.toList] : List (List UInt8)).flatten.length + ([x.kind.data.toList ++ Lib.itoa x.num, x.text.data.toList] : List (List UInt8)).length ≤ 4194304 := by
  obtain ⟨⟨k, _, hk⟩, _, _⟩ := hf
  have h1 : x.kind.data.toList.length = 1 := by rw [hk]; rfl
  have h2 := itoa_short x.num hi.2.1
  simp only [List.flatten_cons, List.flatten_nil, List.length_append, List.length_cons, List.length_nil]
  omega
theorem names_short (l : List Nam) (hf : ∀ x ∈ l, NamFine x) (ht : ∀ x ∈ l, x.text.data.toList.length ≤ 32) (hl : l.length ≤ 320) : (nlL (l.map namL)).length ≤ 100000 := by
  have h : ∀ (l : List Nam), (∀ x ∈ l, NamFine x) → (∀ x ∈ l, x.text.data.toList.length ≤ 32) → (nlL (l.map namL)).length ≤ 70 * l.length := by
    intro l
    induction l with
    | nil => intro _ _; simp [nlL]
    | cons x l ih =>
      intro hf ht
      have h1 := ih (fun y hy => hf y (List.mem_cons_of_mem _ hy)) (fun y hy => ht y (List.mem_cons_of_mem _ hy))
      have h2 := ht x List.mem_cons_self
      obtain ⟨⟨k, _, hk⟩, hn, _⟩ := hf x List.mem_cons_self
      have h3 := itoa_short x.num ⟨by have := hn.1; omega, by have := hn.2; omega⟩
      have e : nlL ((x :: l).map namL) = (namL x ++ [10]) ++ nlL (l.map namL) := by unfold nlL; rfl
      have e2 : (namL x ++ [10]).length ≤ 60 := by
        unfold namL
        have h5 : x.text.data.toList.length = x.text.size := by simp
        rw [hk, List.length_append]
        simp [joinL]
        omega
      rw [e, List.length_append, List.length_cons]
      omega
  have := h l hf ht
  omega
theorem len_more {a b : List UInt8} {n m k : Nat} (h : a.length ≤ n) (h2 : b.length ≤ m) (h3 : n + m ≤ k) : (a ++ b).length ≤ k := by rw [List.length_append]; omega
end Go.Proofs.YtopjddmgejfalaaGreatDoor.Aag
