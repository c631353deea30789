/- The pages' numerals and groups, walked; no condition. -/
import Derived.Test.YtopjddmgejfalaaDoorPk23
namespace Go.Proofs.YtopjddmgejfalaaDoor.Aig
open Go.ChangeShapes Go.WideShapes Go.ChangeAt Go.RowKit Dig Circ Cw Aag

theorem byte48 (u : Nat) : ((48 + u % 10 : Nat) : Int) = ((UInt8.ofNat (48 + u % 10)).toNat : Int) := by
  rw [UInt8.toNat_ofNat']
  omega
theorem bytes_eq5 (a : ByteArray) (l : List UInt8) (h : a.data.toList = l) : a = ⟨l.toArray⟩ := by
  cases a with
  | mk d => simp only at h; rw [← h]
theorem wrap_u64 {x : Int} (h0 : 0 ≤ x) (h1 : x < 18446744073709551616) : IntKind.u64.wrap x = x := by
  simp only [IntKind.wrap, IntKind.bits, IntKind.signed]
  simp
  omega
theorem wrap_u8 {x : Int} (h0 : 0 ≤ x) (h1 : x < 256) : IntKind.u8.wrap x = x := by
  simp only [IntKind.wrap, IntKind.bits, IntKind.signed]
  simp
  omega
theorem dec_len (u : Nat) : (Lib.decDigits u).length ≤ u + 1 := by
  induction u using Nat.strongRecOn with
  | ind u ih =>
    rw [Lib.decDigits]
    split
    · simp
    · have := ih (u / 10) (by omega)
      rw [List.length_append, List.length_cons, List.length_nil]; omega
theorem op_quo10 (a : Act) (w : World) (u t : Nat) (h : a.tmps.getD t undef = .int .u64 u) (hu : u < 18446744073709551616) (oo : Oper) (ho : oo.op = .binOp .quo 67 (.tmp t) (.const (.int .u64 10)) 67) : (execOp a.eval oo).run Tryd.prog w = .ok (.value (.int .u64 (u / 10 : Nat))) w := by
  have h' : a.tmps[t]?.getD undef = .int .u64 u := by simpa using h
  have hw : IntKind.u64.wrap ((u : Int) / 10) = u / 10 := wrap_u64 (by omega) (by omega)
  unfold execOp
  rw [ho]
  go_simp
theorem op_rem10 (a : Act) (w : World) (u t : Nat) (h : a.tmps.getD t undef = .int .u64 u) (hu : u < 18446744073709551616) (oo : Oper) (ho : oo.op = .binOp .rem 67 (.tmp t) (.const (.int .u64 10)) 67) : (execOp a.eval oo).run Tryd.prog w = .ok (.value (.int .u64 (u % 10 : Nat))) w := by
  have h' : a.tmps[t]?.getD undef = .int .u64 u := by simpa using h
  have hw : (u : Int).tmod 10 = u % 10 := Int.tmod_eq_emod_of_nonneg (by omega)
  unfold execOp
  rw [ho]
  go_simp
theorem op_add48 (a : Act) (w : World) (u t : Nat) (h : a.tmps.getD t undef = .int .u64 u) (hu : u < 10) (oo : Oper) (ho : oo.op = .binOp .add 67 (.const (.int .u64 48)) (.tmp t) 67) : (execOp a.eval oo).run Tryd.prog w = .ok (.value (.int .u64 (48 + u : Nat))) w := by
  have h' : a.tmps[t]?.getD undef = .int .u64 u := by simpa using h
  have hw : IntKind.u64.wrap (48 + (u : Int)) = 48 + u := wrap_u64 (by omega) (by omega)
  unfold execOp
  rw [ho]
  go_simp
theorem op_conv8 (a : Act) (w : World) (u t : Nat) (h : a.tmps.getD t undef = .int .u64 u) (hu : u < 256) (oo : Oper) (ho : oo.op = .convert 67 5 (.tmp t)) : (execOp a.eval oo).run Tryd.prog w = .ok (.value (.int .u8 u)) w := by
  have h' : a.tmps[t]?.getD undef = .int .u64 u := by simpa using h
  have hw : IntKind.u8.wrap (u : Int) = u := wrap_u8 (by omega) (by omega)
  unfold execOp
  rw [ho]
  go_simp
theorem op_slice8 (a : Act) (w : World) (u i : Nat) (h1 : a.tmps.getD i undef = .int .u8 u) (oo : Oper) (ho : oo.op = .buildSlice 36 1 #[(0, .tmp i)]) : (execOp a.eval oo).run Tryd.prog w = .ok (.value (.slice (some ⟨w.heap.size, 0, none⟩) 1 1)) (w.alloc (.cells #[.int .u8 u] 5)) := by
  have h1' : a.tmps[i]?.getD undef = .int .u8 u := by simpa using h1
  unfold execOp
  rw [ho]
  go_simp
theorem op_text1 (a : Act) (w : World) (g : Nat) (b : UInt8) (t : Nat) (h : a.tmps.getD t undef = .slice (some ⟨g, 0, none⟩) 1 1) (hc : w.cell? ⟨g, 0, none⟩ = some (.int .u8 b.toNat)) (oo : Oper) (ho : oo.op = .convert 36 9 (.tmp t)) : (execOp a.eval oo).run Tryd.prog w = .ok (.value (sv [b])) w := by
  have h' : a.tmps[t]?.getD undef = .slice (some ⟨g, 0, none⟩) 1 1 := by simpa using h
  have hcv := conv_cells (w := w) (g := g) (o := 0) (n := 1) (cap := 1) (l := [b]) rfl (fun i x hi => by
    match i, hi with
    | 0, hi => simp at hi; rw [← hi]; exact hc)
  unfold execOp
  rw [ho]
  go_simp
theorem op_cat (a : Act) (w : World) (x y : List UInt8) (t s : Nat) (h1 : a.tmps.getD t undef = sv x) (h2 : a.tmps.getD s undef = sv y) (hl : x.length + y.length ≤ 9223372036854775807) (oo : Oper) (ho : oo.op = .binOp .add 9 (.tmp t) (.tmp s) 9) : (execOp a.eval oo).run Tryd.prog w = .ok (.value (sv (x ++ y))) w := by
  have h1' : a.tmps[t]?.getD undef = sv x := by simpa using h1
  have h2' : a.tmps[s]?.getD undef = sv y := by simpa using h2
  have e : (⟨x.toArray⟩ : ByteArray) ++ ⟨y.toArray⟩ = ⟨(x ++ y).toArray⟩ := ByteArray.ext (by simp)
  unfold sv at *
  unfold execOp
  rw [ho]
  go_simp
theorem op_call1d (a : Act) (w : World) (f t T : Nat) (hf : ∀ args w, (callFunc f args).run Tryd.prog w = .ok (.enter f args) w) (oo : Oper) (ho : oo.op = .call { callee := .value (.func f), args := #[.tmp t], argTypes := #[T] }) : (execOp a.eval oo).run Tryd.prog w = .ok (.enter f #[a.tmps.getD t undef]) w := by
  unfold execOp
  rw [ho]
  go_simp
/-- what operation j of the region leaves -/
def dig3R (u : Nat) : Nat → (Nat → Value) → World → Prop
  | 0, f, _ => f 10 = .int .u64 u
  | 1, f, _ => f 11 = .int .u64 (u / 10 : Nat)
  | 2, f, _ => f 12 = sv (Lib.decDigits (u / 10))
  | 3, f, _ => f 13 = .int .u64 u
  | 4, f, _ => f 14 = .int .u64 (u % 10 : Nat)
  | 5, f, _ => f 15 = .int .u64 (48 + u % 10 : Nat)
  | 6, f, _ => f 16 = .int .u8 (48 + u % 10 : Nat)
  | 7, f, w => ∃ g, f 17 = .slice (some ⟨g, 0, none⟩) 1 1 ∧ w.cell? ⟨g, 0, none⟩ = some (.int .u8 (48 + u % 10 : Nat))
  | 8, f, _ => f 18 = sv [UInt8.ofNat (48 + u % 10)]
  | 9, f, _ => f 19 = sv (Lib.decDigits (u / 10) ++ [UInt8.ofNat (48 + u % 10)])
  | 10, f, _ => f 2 = sv (Lib.decDigits (u / 10) ++ [UInt8.ofNat (48 + u % 10)])
  | _, _, _ => True
def dig3M : Nat → List Nat
  | 0 => [10]
  | 1 => [11]
  | 2 => [12]
  | 3 => [13]
  | 4 => [14]
  | 5 => [15]
  | 6 => [16]
  | 7 => [17]
  | 8 => [18]
  | 9 => [19]
  | 10 => [2]
  | _ => []
theorem dig3_stab {u : Nat} (jj : Nat) {f f' : Nat → Value} {w w' : World} (h7 : jj = 7 → Below w.heap.size w w') (hf : ∀ t ∈ dig3M jj, f' t = f t) (h : dig3R u jj f w) : dig3R u jj f' w' := by
  match jj, hf, h, h7 with
  | 0, hf, h, _ => exact (hf 10 (by decide)).trans h
  | 1, hf, h, _ => exact (hf 11 (by decide)).trans h
  | 2, hf, h, _ => exact (hf 12 (by decide)).trans h
  | 3, hf, h, _ => exact (hf 13 (by decide)).trans h
  | 4, hf, h, _ => exact (hf 14 (by decide)).trans h
  | 5, hf, h, _ => exact (hf 15 (by decide)).trans h
  | 6, hf, h, _ => exact (hf 16 (by decide)).trans h
  | 7, hf, h, h7 =>
    obtain ⟨g, h1, h2⟩ := h
    exact ⟨g, (hf 17 (by decide)).trans h1, ((h7 rfl).cell (World.block_lt_of_cell? _ _ h2)).trans h2⟩
  | 8, hf, h, _ => exact (hf 18 (by decide)).trans h
  | 9, hf, h, _ => exact (hf 19 (by decide)).trans h
  | 10, hf, h, _ => exact (hf 2 (by decide)).trans h
  | _ + 11, _, _, _ => trivial
theorem conv1 (w : World) (b : UInt8) : (convert 36 9 (.slice (some ⟨w.heap.size, 0, none⟩) 1 1)).run Tryd.prog (w.alloc (.cells #[.int .u8 b.toNat] 5)) = .ok (sv [b]) (w.alloc (.cells #[.int .u8 b.toNat] 5)) :=
  conv_cells (o := 0) (l := [b]) rfl (fun i x hi => by
    match i, hi with
    | 0, hi => simp at hi; rw [← hi, World.cell?_alloc_new]; rfl)
set_option maxHeartbeats 4000000 in
set_option maxRecDepth 100000 in
theorem digits_any (u : Nat) (hu : u < 18446744073709551616) (w : World) : Calls Tryd.prog 30 #[.int .u64 u] w fun e w' => e = .returned (sv (Lib.decDigits u)) ∧ Below w.heap.size w w' := by
  induction u using Nat.strongRecOn generalizing w with
  | ind u ih =>
  by_cases h : u < 10
  · have hd : decide ((u : Int) < 10) = true := by simp; omega
    have hdd : Lib.decDigits u = [UInt8.ofNat (48 + u)] := by rw [Lib.decDigits, dif_pos h]
    rw [hdd]
    obtain ⟨bb, hbb⟩ : ∃ b, b = UInt8.ofNat (48 + u) := ⟨_, rfl⟩
    have hcv := conv1 w bb
    have hb : (bb.toNat : Int) = 48 + (u : Int) := by rw [hbb, UInt8.toNat_ofNat']; omega
    rw [← hbb]
    clear hbb
    have hw1 : IntKind.u64.wrap (48 + (u : Int)) = 48 + u := wrap_u64 (by omega) (by omega)
    have hw2 : IntKind.u8.wrap (48 + (u : Int)) = 48 + u := wrap_u8 (by omega) (by omega)
    rw [hb] at hcv
    go_enter Tryd.func30, Tryd.ntmps30
    go_wp2
    go_ret
    exact ⟨rfl, (Below.refl _ _).alloc (Nat.le_refl _) _⟩
  · have hd : decide ((u : Int) < 10) = false := by simp; omega
    have hdd : Lib.decDigits u = Lib.decDigits (u / 10) ++ [UInt8.ofNat (48 + u % 10)] := by rw [Lib.decDigits, dif_neg h]
    rw [hdd]
    have IH : Hid (∀ w, Calls Tryd.prog 30 #[.int .u64 (u / 10 : Nat)] w fun e w' => e = .returned (sv (Lib.decDigits (u / 10))) ∧ Below w.heap.size w w') := ih (u / 10) (by omega) (by omega)
    have HU := Lib.hid hu
    have DL : Hid ((Lib.decDigits (u / 10)).length + [UInt8.ofNat (48 + u % 10)].length ≤ 9223372036854775807) := by
      have := dec_len (u / 10)
      unfold Hid
      simp only [List.length_cons, List.length_nil]; omega
    have ED : Hid (∀ args w, (callFunc 30 args).run Tryd.prog w = .ok (.enter 30 args) w) := enters_of Tryd.func30 (by kernel_rfl) rfl
    clear ih
    go_enter Tryd.func30, Tryd.ntmps30
    go_wp2
    refine wp_region_valsD (by kernel_rfl) (by kernel_rfl) dig3M (by kernel_rfl) (by kernel_rfl)
      (fun _ w' => Below w.heap.size w w') (dig3R u) (Below.refl _ _).drew (fun jj f f' w w' hb hf h => dig3_stab jj (fun _ => hb) hf h) ?_ ?_
    · intro i oo d a' w' ho hd hun hdf hok hD K hK hK0
      match i, ho, hd, hD, hK, hK0, hun with
      | 0, ho, hd, hD, hK, hK0, hun =>
        have e := (congrArg Oper.op (Option.some.inj ho)).symm
        obtain rfl := Option.some.inj ho
        exact wp_val (op_move a' w' 0 _ e) (hK _ _ (Below.refl _ _) hok (fun f h1 _ => (h1 _ rfl).trans (hun 0 (by kernel_rfl))))
      | 1, ho, hd, hD, hK, hK0, hun =>
        have e := (congrArg Oper.op (Option.some.inj ho)).symm
        obtain rfl := Option.some.inj ho
        exact wp_val (op_quo10 a' w' u 10 (hD 0 (by kernel_rfl)) HU.out _ e) (hK _ _ (Below.refl _ _) hok (fun f h1 _ => h1 _ rfl))
      | 2, ho, hd, hD, hK, hK0, hun =>
        have e := (congrArg Oper.op (Option.some.inj ho)).symm
        obtain rfl := Option.some.inj ho
        refine wp_enter (op_call1d a' w' _ 11 _ ED.out _ e) ?_
        rw [show a'.tmps.getD 11 undef = .int .u64 (u / 10 : Nat) from hD 1 (by kernel_rfl)]
        refine (IH.out w').mono ?_
        rintro e w'' ⟨rfl, hw⟩
        exact .inl ⟨_, rfl, hK _ _ hw (hok.trans (hw.mono hok.size)) (fun f h1 _ => h1 _ rfl)⟩
      | 3, ho, hd, hD, hK, hK0, hun =>
        have e := (congrArg Oper.op (Option.some.inj ho)).symm
        obtain rfl := Option.some.inj ho
        exact wp_val (op_move a' w' 0 _ e) (hK _ _ (Below.refl _ _) hok (fun f h1 _ => (h1 _ rfl).trans (hun 0 (by kernel_rfl))))
      | 4, ho, hd, hD, hK, hK0, hun =>
        have e := (congrArg Oper.op (Option.some.inj ho)).symm
        obtain rfl := Option.some.inj ho
        exact wp_val (op_rem10 a' w' u 13 (hD 3 (by kernel_rfl)) HU.out _ e) (hK _ _ (Below.refl _ _) hok (fun f h1 _ => h1 _ rfl))
      | 5, ho, hd, hD, hK, hK0, hun =>
        have e := (congrArg Oper.op (Option.some.inj ho)).symm
        obtain rfl := Option.some.inj ho
        exact wp_val (op_add48 a' w' (u % 10) 14 (hD 4 (by kernel_rfl)) (Nat.mod_lt _ (by decide)) _ e) (hK _ _ (Below.refl _ _) hok (fun f h1 _ => h1 _ rfl))
      | 6, ho, hd, hD, hK, hK0, hun =>
        have e := (congrArg Oper.op (Option.some.inj ho)).symm
        obtain rfl := Option.some.inj ho
        exact wp_val (op_conv8 a' w' (48 + u % 10) 15 (hD 5 (by kernel_rfl)) (by have := Nat.mod_lt u (show 10 > 0 by decide); omega) _ e) (hK _ _ (Below.refl _ _) hok (fun f h1 _ => h1 _ rfl))
      | 7, ho, hd, hD, hK, hK0, hun =>
        have e := (congrArg Oper.op (Option.some.inj ho)).symm
        obtain rfl := Option.some.inj ho
        exact wp_val (op_slice8 a' w' (48 + u % 10) 16 (hD 6 (by kernel_rfl)) _ e) (hK _ _ ((Below.refl _ _).alloc (Nat.le_refl _) _) (hok.alloc hok.size _) (fun f h1 _ => ⟨_, h1 _ rfl, by rw [World.cell?_alloc_new]; rfl⟩))
      | 8, ho, hd, hD, hK, hK0, hun =>
        have e := (congrArg Oper.op (Option.some.inj ho)).symm
        obtain rfl := Option.some.inj ho
        obtain ⟨g, h8, hc8⟩ := hD 7 (by kernel_rfl)
        exact wp_val (op_text1 a' w' g (UInt8.ofNat (48 + u % 10)) 17 h8 (by rw [hc8, byte48]) _ e) (hK _ _ (Below.refl _ _) hok (fun f h1 _ => h1 _ rfl))
      | 9, ho, hd, hD, hK, hK0, hun =>
        have e := (congrArg Oper.op (Option.some.inj ho)).symm
        obtain rfl := Option.some.inj ho
        exact wp_val (op_cat a' w' _ _ 12 18 (hD 2 (by kernel_rfl)) (hD 8 (by kernel_rfl)) DL.out _ e) (hK _ _ (Below.refl _ _) hok (fun f h1 _ => h1 _ rfl))
      | 10, ho, hd, hD, hK, hK0, hun =>
        have e := (congrArg Oper.op (Option.some.inj ho)).symm
        obtain rfl := Option.some.inj ho
        exact wp_val (op_assign a' w' 19 _ e) (hK _ _ (Below.refl _ _) hok (fun f h1 _ => (h1 _ rfl).trans (hD 9 (by kernel_rfl))))
      | i + 11, ho, _, _, _, _, _ => exact absurd ho (by simp)
    · intro a' w3 hsz hdf hkt hok hR
      have HF3 := frame_sets [2, 10, 11, 12, 13, 14, 15, 16, 17, 18, 19] (by kernel_rfl) hsz hkt
      obtain ⟨d, hok⟩ := hok
      have h2 : a'.tmps.getD 2 undef = sv (Lib.decDigits (u / 10) ++ [UInt8.ofNat (48 + u % 10)]) := hR 10 (by decide)
      obtain ⟨tm, df⟩ := a'
      obtain rfl : df = _ := hdf
      simp only [List.foldl_cons, List.foldl_nil] at HF3
      clear hkt hR hsz
      replace h2 : tm.getD 2 undef = _ := h2
      rw [h2] at HF3
      clear h2
      generalize tm.getD 10 undef = y10 at HF3
      generalize tm.getD 11 undef = y11 at HF3
      generalize tm.getD 12 undef = y12 at HF3
      generalize tm.getD 13 undef = y13 at HF3
      generalize tm.getD 14 undef = y14 at HF3
      generalize tm.getD 15 undef = y15 at HF3
      generalize tm.getD 16 undef = y16 at HF3
      generalize tm.getD 17 undef = y17 at HF3
      generalize tm.getD 18 undef = y18 at HF3
      generalize tm.getD 19 undef = y19 at HF3
      simp only [List.setIfInBounds_toArray, List.set_cons_succ, List.set_cons_zero] at HF3
      subst HF3
      have HB := Lib.hid hok
      go_wp2
      go_ret
      exact ⟨rfl, HB.out⟩
set_option maxHeartbeats 4000000 in
set_option maxRecDepth 100000 in
theorem group_any (n : Nat) (hn : n < 4611686018427387904) (w : World) : Calls Tryd.prog 14 #[.int .i64 n] w fun e w' => e = .returned (sv (grp n)) ∧ Below w.heap.size w w' := by
  go_enter Tryd.func14, Tryd.ntmps14
  go_wp2
  go_loopw [0, 3] (fun i t wr => ∃ (m : Nat) (p : List UInt8), i = .int .i64 m ∧ t = sv p ∧ p ++ grp m = grp n ∧ p.length + m ≤ n ∧ Below w.heap.size w wr) (fun i _ _ => (intOf i).toNat)
  case atStart => exact ⟨n, [], rfl, rfl, rfl, by simp, Below.refl _ _⟩
  case round =>
    obtain ⟨m, p, rfl, rfl, hp, hl, hb⟩ := hrel
    have HP := Lib.hid hp
    have HB := Lib.hid hb
    clear hp hb
    by_cases hm : m < 128
    · obtain ⟨bb, hbb⟩ : ∃ b, b = UInt8.ofNat m := ⟨_, rfl⟩
      have hcv := conv1 wr bb
      have hb8 : (bb.toNat : Int) = m := by rw [hbb, UInt8.toNat_ofNat']; omega
      rw [hb8] at hcv
      have hw8 : IntKind.u8.wrap (m : Int) = m := wrap_u8 (by omega) (by omega)
      have HE : Hid (grp n = p ++ [bb]) := by unfold Hid; rw [← HP.out, grp_small m hm, hbb]
      have hpl : p.length + 1 ≤ 9223372036854775807 := by omega
      clear hbb
      unfold sv at hcv ⊢
      go_wp2
      go_ret
      exact ⟨congrArg Ending.returned (congrArg Value.string (by rw [HE.out]; exact bytes_eq5 _ _ (by simp))), HB.out.alloc HB.out.size _⟩
    · obtain ⟨bb, hbb⟩ : ∃ b, b = UInt8.ofNat (128 + m % 128) := ⟨_, rfl⟩
      have hcv := conv1 wr bb
      have hb8 : (bb.toNat : Int) = (m : Int) % 128 + 128 := by rw [hbb, UInt8.toNat_ofNat']; omega
      rw [hb8] at hcv
      have ht : (m : Int).tmod 128 = (m : Int) % 128 := Int.tmod_eq_emod_of_nonneg (by omega)
      have hw64 : wrap64 ((m : Int) % 128 + 128) = (m : Int) % 128 + 128 := by unfold wrap64; omega
      have hw8 : IntKind.u8.wrap ((m : Int) % 128 + 128) = (m : Int) % 128 + 128 := wrap_u8 (by omega) (by omega)
      have hq : wrap64 ((m : Int) / 128) = (m : Int) / 128 := by unfold wrap64; omega
      have HE : Hid (grp n = (p ++ [bb]) ++ grp (m / 128)) := by unfold Hid; rw [← HP.out, grp_great m hm, hbb]; simp
      have hpl : p.length + 1 ≤ 9223372036854775807 := by omega
      clear hbb
      unfold sv at hcv ⊢
      go_wp2
      go_roundw
      case rel => exact ⟨m / 128, p ++ [bb], by simp, congrArg Value.string (bytes_eq5 _ _ (by simp)), HE.out.symm, by simp; omega, HB.out.alloc HB.out.size _⟩
      case measure => simp [intOf]; omega
theorem neg_of {x : Int} (h : x < 0) : ∃ v : Nat, x = -(v + 1) := ⟨(-x - 1).toNat, by omega⟩
set_option maxHeartbeats 4000000 in
set_option maxRecDepth 100000 in
theorem refprint_any (x : Int) (hx : I64 x) (w : World) : Calls Tryd.prog 13 #[.int .i64 x] w fun e w' => e = .returned (sv (Lib.itoa x)) ∧ Below w.heap.size w w' := by
  have hlen := itoa_short x hx
  obtain ⟨hx0, hx1⟩ := hx
  by_cases h : x < 0
  · obtain ⟨v, hv⟩ := neg_of h
    have e : Lib.itoa x = 45 :: Lib.decDigits (v + 1) := by
      unfold Lib.itoa
      rw [if_pos h, show x.natAbs = v + 1 by omega]
    rw [e] at hlen ⊢
    have DA := Lib.hid (digits_any (v + 1) (by omega) w)
    have hd : decide (x < 0) = true := by simpa using h
    have hl2 : 1 + (Lib.decDigits (v + 1)).length ≤ 9223372036854775807 := by rw [List.length_cons] at hlen; omega
    rw [show (((v + 1 : Nat)) : Int) = -(x + 1) + 1 by omega] at DA
    generalize Lib.decDigits (v + 1) = dd at *
    clear e hv
    unfold sv at DA ⊢
    go_enter Tryd.func13, Tryd.ntmps13
    go_wp2_with fail
    refine DA.out.mono ?_
    rintro e w1 ⟨rfl, hb⟩
    have HB := Lib.hid hb
    clear hb DA
    go_wp2
    go_ret
    exact ⟨congrArg Ending.returned (congrArg Value.string (bytes_eq5 _ _ (by simp))), HB.out⟩
  · obtain ⟨v, rfl⟩ : ∃ v : Nat, x = v := ⟨x.toNat, by omega⟩
    have e : Lib.itoa (v : Int) = Lib.decDigits v := by unfold Lib.itoa; rw [if_neg h]; simp
    rw [e]
    have DA := Lib.hid (digits_any v (by omega) w)
    have h3 : IntKind.u64.wrap (v : Int) = v := wrap_u64 (by omega) (by omega)
    have hd : decide ((v : Int) < 0) = false := by simp
    clear hlen e h
    unfold sv at DA ⊢
    generalize Lib.decDigits v = dd at *
    go_enter Tryd.func13, Tryd.ntmps13
    go_wp2_with fail
    refine DA.out.mono ?_
    rintro e w1 ⟨rfl, hb⟩
    have HB := Lib.hid hb
    clear hb DA
    go_wp2
    go_ret
    exact ⟨rfl, HB.out⟩
end Go.Proofs.YtopjddmgejfalaaDoor.Aig
