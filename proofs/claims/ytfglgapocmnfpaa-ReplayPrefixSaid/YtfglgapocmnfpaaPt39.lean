/- The program's goes: a step more of a path; condition: the circuit may be and lies below the path's box, as the clauses do; the bits are as many as they should. Goes, from input to input; condition: the circuit may be and lies below the path's box, as the clauses and the inputs do; the bits are as many as they should. -/
import Derived.Test.YtfglgapocmnfpaaPt38
import Derived.Test.YtfglgapocmnfpaaPt24
import Derived.Test.YtfglgapocmnfpaaPt16
namespace Go.Proofs.Ytfglgapocmnfpaa.Rep
open Go.ChangeShapes Go.WideShapes Go.ChangeAt Go.RowKit Go.Maps Circ Cw
open Str Sim

/-- w' is w but for block P, and for what is new -/
structure But2 (P : Nat) (w w' : World) : Prop where
  b : Below P w w'
  keep : ∀ k, k < w.heap.size → k ≠ P → w'.heap[k]? = w.heap[k]?
theorem But2.refl (P : Nat) (w : World) : But2 P w w := ⟨Below.refl _ _, fun _ _ _ => rfl⟩
theorem But2.drew (P : Nat) (w : World) : But2 P w w.drew := ⟨(Below.refl _ _).drew, fun _ _ _ => rfl⟩
theorem But2.size {P : Nat} {w w' : World} (h : But2 P w w') : w.heap.size ≤ w'.heap.size := h.b.size
theorem But2.trans {P : Nat} {a b c : World} (h : But2 P a b) (k : But2 P b c) : But2 P a c := ⟨h.b.trans k.b, fun i hi hp => (k.keep i (Nat.lt_of_lt_of_le hi h.size) hp).trans (h.keep i hi hp)⟩
theorem But2.of {P : Nat} {w w' : World} (hp : P ≤ w.heap.size) (h : Below w.heap.size w w') : But2 P w w' := ⟨h.mono hp, fun k hk _ => h.block k hk⟩
theorem But2.but {P : Nat} {a b c : World} (h : But2 P a b) (k : But P b c) : But2 P a c := ⟨k.below h.b (Nat.le_refl _), fun i hi hp => (k.b i hp).trans (h.keep i hi hp)⟩
theorem op_call2r (a : Act) (w : World) (f t s T S : Nat) (hf : ∀ args w, (callFunc f args).run Try.prog w = .ok (.enter f args) w) (oo : Oper) (ho : oo.op = .call { callee := .value (.func f), args := #[.tmp t, .tmp s], argTypes := #[T, S] }) : (execOp a.eval oo).run Try.prog w = .ok (.enter f #[a.tmps.getD t undef, a.tmps.getD s undef]) w := by
  unfold execOp
  rw [ho]
  go_simp
theorem op_store_str (a : Act) (w : World) (g k : Nat) (u : Value) (x : ByteArray) (t s : Nat) (h1 : a.tmps.getD t undef = .pointer (some ⟨g, k, none⟩)) (h2 : a.tmps.getD s undef = .string x) (hc : w.cell? ⟨g, k, none⟩ = some u) (hz : w.frozen? ⟨g, k, none⟩ = false) (oo : Oper) (ho : oo.op = .store 9 (.tmp t) (.tmp s)) : (execOp a.eval oo).run Try.prog w = .ok .skip (w.setCell ⟨g, k, none⟩ (.string x)) := by
  have h1' : a.tmps[t]?.getD undef = .pointer (some ⟨g, k, none⟩) := by simpa using h1
  have h2' : a.tmps[s]?.getD undef = .string x := by simpa using h2
  unfold execOp
  rw [ho]
  go_simp
theorem op_field_replay_path_3 (a : Act) (w : World) (b : Nat) (t : Nat) (h : a.tmps.getD t undef = .pointer (some ⟨b, 0, none⟩)) (oo : Oper) (ho : oo.op = .fieldAddr 100 (.tmp t) 3) : (execOp a.eval oo).run Try.prog w = .ok (.value (.pointer (some ⟨b, 10, none⟩))) w := by
  have h' : a.tmps[t]?.getD undef = .pointer (some ⟨b, 0, none⟩) := by simpa using h
  unfold execOp
  rw [ho]
  go_simp
theorem op_load_replay_step (a : Act) (w : World) (A : Addr) (t : Nat) (v : Value) (h : a.tmps.getD t undef = .pointer (some A)) (hc : w.cell? A = some v) (oo : Oper) (ho : oo.op = .load 98 (.tmp t)) : (execOp a.eval oo).run Try.prog w = .ok (.value v) w := by
  have h' : a.tmps[t]?.getD undef = .pointer (some A) := by simpa using h
  unfold execOp
  rw [ho]
  go_simp
theorem op_field_replay_path_0 (a : Act) (w : World) (b : Nat) (t : Nat) (h : a.tmps.getD t undef = .pointer (some ⟨b, 0, none⟩)) (oo : Oper) (ho : oo.op = .fieldAddr 100 (.tmp t) 0) : (execOp a.eval oo).run Try.prog w = .ok (.value (.pointer (some ⟨b, 0, none⟩))) w := by
  have h' : a.tmps[t]?.getD undef = .pointer (some ⟨b, 0, none⟩) := by simpa using h
  unfold execOp
  rw [ho]
  go_simp
theorem op_field_api_Circuit_2 (a : Act) (w : World) (b : Nat) (t : Nat) (h : a.tmps.getD t undef = .pointer (some ⟨b, 0, none⟩)) (oo : Oper) (ho : oo.op = .fieldAddr 27 (.tmp t) 2) : (execOp a.eval oo).run Try.prog w = .ok (.value (.pointer (some ⟨b, 2, none⟩))) w := by
  have h' : a.tmps[t]?.getD undef = .pointer (some ⟨b, 0, none⟩) := by simpa using h
  unfold execOp
  rw [ho]
  go_simp
theorem op_load_Lapi_Latch (a : Act) (w : World) (A : Addr) (t : Nat) (v : Value) (h : a.tmps.getD t undef = .pointer (some A)) (hc : w.cell? A = some v) (oo : Oper) (ho : oo.op = .load 23 (.tmp t)) : (execOp a.eval oo).run Try.prog w = .ok (.value v) w := by
  have h' : a.tmps[t]?.getD undef = .pointer (some A) := by simpa using h
  unfold execOp
  rw [ho]
  go_simp
theorem op_field_replay_path_2 (a : Act) (w : World) (b : Nat) (t : Nat) (h : a.tmps.getD t undef = .pointer (some ⟨b, 0, none⟩)) (oo : Oper) (ho : oo.op = .fieldAddr 100 (.tmp t) 2) : (execOp a.eval oo).run Try.prog w = .ok (.value (.pointer (some ⟨b, 9, none⟩))) w := by
  have h' : a.tmps[t]?.getD undef = .pointer (some ⟨b, 0, none⟩) := by simpa using h
  unfold execOp
  rw [ho]
  go_simp
/-- what operation j of the region leaves -/
def goes3R (P : Nat) (c : Cir) (s : Places) (A : Option Addr) (n q : Nat) (la nx : ByteArray) : Nat → (Nat → Value) → World → Prop
  | 0, f, _ => f 24 = .pointer (some ⟨P, 0, none⟩)
  | 1, f, _ => f 25 = .pointer (some ⟨P, 0, none⟩)
  | 2, f, _ => f 26 = .pointer (some ⟨P, 0, none⟩)
  | 3, f, _ => f 27 = .pointer (some ⟨P, 10, none⟩)
  | 4, f, _ => f 28 = .string la
  | 5, f, _ => f 29 = .pointer (some ⟨P, 0, none⟩)
  | 6, f, _ => f 30 = .pointer (some ⟨P, 0, none⟩)
  | 7, f, _ => f 31 = .pointer (some ⟨P, 0, none⟩)
  | 8, f, _ => f 32 = .pointer (some ⟨P, 2, none⟩)
  | 9, f, _ => f 33 = .slice s.al c.lats.length s.kl
  | 10, f, _ => f 34 = .string nx
  | 11, f, _ => f 35 = .pointer (some ⟨P, 0, none⟩)
  | 12, f, _ => f 36 = .pointer (some ⟨P, 9, none⟩)
  | 13, _, w => PathAt w P c s A n q nx la
  | _, _, _ => True
def goes3M : Nat → List Nat
  | 0 => [24]
  | 1 => [25]
  | 2 => [26]
  | 3 => [27]
  | 4 => [28]
  | 5 => [29]
  | 6 => [30]
  | 7 => [31]
  | 8 => [32]
  | 9 => [33]
  | 10 => [34]
  | 11 => [35]
  | 12 => [36]
  | 13 => []
  | _ => []
theorem goes3_stab {P : Nat} {c : Cir} {s : Places} {A : Option Addr} {n q : Nat} {la nx : ByteArray} (jj : Nat) {f f' : Nat → Value} {w w' : World} (h13 : jj = 13 → Below w.heap.size w w') (hf : ∀ t ∈ goes3M jj, f' t = f t) (h : goes3R P c s A n q la nx jj f w) : goes3R P c s A n q la nx jj f' w' := by
  match jj, hf, h, h13 with
  | 0, hf, h, _ => exact (hf 24 (by decide)).trans h
  | 1, hf, h, _ => exact (hf 25 (by decide)).trans h
  | 2, hf, h, _ => exact (hf 26 (by decide)).trans h
  | 3, hf, h, _ => exact (hf 27 (by decide)).trans h
  | 4, hf, h, _ => exact (hf 28 (by decide)).trans h
  | 5, hf, h, _ => exact (hf 29 (by decide)).trans h
  | 6, hf, h, _ => exact (hf 30 (by decide)).trans h
  | 7, hf, h, _ => exact (hf 31 (by decide)).trans h
  | 8, hf, h, _ => exact (hf 32 (by decide)).trans h
  | 9, hf, h, _ => exact (hf 33 (by decide)).trans h
  | 10, hf, h, _ => exact (hf 34 (by decide)).trans h
  | 11, hf, h, _ => exact (hf 35 (by decide)).trans h
  | 12, hf, h, _ => exact (hf 36 (by decide)).trans h
  | 13, hf, h, h13 =>
    exact h.below (h13 rfl)
  | _ + 14, _, _, _ => trivial
set_option maxHeartbeats 16000000 in
set_option maxRecDepth 100000 in
theorem goes_any (P : Nat) (c : Cir) (s : Places) (L : List Clz) (A : Option Addr) (q : Nat) (st la inp : ByteArray) (w : World) (hP : PathAt w P c s A L.length q st la) (h : CLies w P c s) (hf : CFits c s) (ha : ALies w P A L) (hr : refOk c = true) (hs : bitsM st (c.lats.length : Int) = true) (hi : bitsM inp (c.ins.length : Int) = true) :
    Calls Try.prog 74 #[.pointer (some ⟨P, 0, none⟩), .string inp] w fun e w' => e = .returned (.bool (allowedM c (L.map Clz.l) (valsM c st inp))) ∧ But2 P w w' ∧ PathAt w' P c s A L.length q (nxt1 c st inp) (sb (valsM c st inp)) := by
  have hpl := lt_of_block hP
  have HP0 := Lib.hid hP
  have HF := Lib.hid hf
  have LW : Hid (∀ x, Below P w x → CLies x x.heap.size c s) := fun x hx => (h.below hx).more (by have := hx.size; omega)
  have LA : Hid (∀ x, Below P w x → ALies x x.heap.size A L) := fun x hx => (ha.below hx).more (by have := hx.size; omega)
  have HVL : (valsM c st inp).length ≤ 1048576 := by
    obtain ⟨m, hm, hm1⟩ := max_nat hr
    rw [vals_len, hm]; simp; omega
  have HZ := ref_sizes hr
  have zl : c.lats.length ≤ 64 := HZ.2.1
  obtain ⟨vv, hvv⟩ : ∃ x, sb (valsM c st inp) = x := ⟨_, rfl⟩
  have hvl : vv.data.toList = valsM c st inp := by rw [← hvv]; rfl
  have HVZ : Hid (vv.size ≤ 9223372036854775807) := by unfold Hid; rw [← hvv, sb_size]; omega
  obtain ⟨nn, hnn⟩ : ∃ x, nxt1 c st inp = x := ⟨_, rfl⟩
  have HAM : Hid (allowedM c (L.map Clz.l) vv.data.toList = allowedM c (L.map Clz.l) (valsM c st inp)) := by unfold Hid; rw [hvl]
  have K1 := Lib.hid (fun (u : Wd w.heap.size w) => Calls.in_wd u (values_any c s st inp u.w (LW.out u.w (u.ok.mono (Nat.le_of_lt hpl))) hf) (Nat.le_refl _))
  rw [str_ok (err_ok hr (by unfold okB; rw [hs, hi]; rfl)), err_ok hr (by unfold okB; rw [hs, hi]; rfl), show sv (valsM c st inp) = .string vv from by unfold sv; rw [← hvv]; rfl] at K1
  unfold cirV at K1
  rw [show cirC c s = #[.int .i64 c.max, .slice s.ai c.ins.length s.ki, .slice s.al c.lats.length s.kl, .slice s.ao c.outs.length s.ko, .slice s.ab c.bads.length s.kb, .slice s.ac c.invs.length s.kc, .slice s.aa c.ands.length s.ka, .slice s.an c.names.length s.kn] from rfl] at K1
  have KNX : Hid (∀ x, Below P w x → Calls Try.prog 108 #[.string vv, .slice s.al c.lats.length s.kl] x fun e w' => e = .returned (.string nn) ∧ Below x.heap.size x w') := fun x hx => by
    have := pnext_any vv c.lats s.al s.kl x HVZ.out (by omega) hf.lats (LW.out x hx).lats
    rw [hvl, show sv (bitL (fun i => trueM (valsM c st inp) (c.lats.getD i ⟨0, 0, 0⟩).b) c.lats.length) = .string nn from by rw [← hnn]; rfl] at this
    exact this
  obtain ⟨bb, hbb⟩ : ∃ x, allowedM c (L.map Clz.l) (valsM c st inp) = x := ⟨_, rfl⟩
  rw [hvv, hnn, hbb]
  rw [hbb] at HAM
  have HPL0 := Lib.hid hpl
  obtain ⟨e0, e1, e2, e3, e4, e5, e6, e7, e8, e9, e10⟩ := cells11 HP0.out
  have u0 := Wd.cell e0
  have u1 := Wd.cell e1
  have u2 := Wd.cell e2
  have u3 := Wd.cell e3
  have u4 := Wd.cell e4
  have u5 := Wd.cell e5
  have u6 := Wd.cell e6
  have u7 := Wd.cell e7
  have u9 := Wd.cell e9
  have EN : Hid (∀ args w, (callFunc 108 args).run Try.prog w = .ok (.enter 108 args) w) := enters_of Try.func108 (by kernel_rfl) rfl
  clear e0 e1 e2 e3 e4 e5 e6 e7 e8 e9 e10
  clear h hf ha hr hs hi hP hpl hvv hvl hnn hbb HZ HVL zl
  go_enter Try.func74, Try.ntmps74
  go_wp2
  refine wp_region_wd (by kernel_rfl) (by kernel_rfl) ?_
  repeat (first | go_big_quiet_skip | (go_big_quiet_want; go_big_quiet_op; first | go_big_quiet_on | (apply Exists.intro; refine ⟨fun u => ?_, ?_⟩; (first | (go_at_call 21; with_reducible exact K1.out u)); go_big_quiet_on)))
  refine wpQuiet_nil ?_
  intro w1 hw'
  obtain ⟨⟨_, hb1⟩, hw''⟩ := hw'
  subst hw''
  have HP1 : Hid (PathAt w1 P c s A L.length q st la) := HP0.out.below hb1
  have B1 : Hid (But2 P w w1) := But2.of (Nat.le_of_lt HPL0.out) hb1
  have HPL1 : Hid (P < w1.heap.size) := lt_of_block HP1.out
  clear hb1 K1 u0 u1 u2 u3 u4 u5 u6 u7 u9
  obtain ⟨W2, u2, ⟨hW2, pW2, tW2⟩, EW2, FW2⟩ := step_set w1 _ 10 (.string vv) HP1.out (by simp [pathC])
  have HP2 : Hid (PathAt W2 P c s A L.length q st vv) := EW2
  have B2 : Hid (But2 P w W2) := B1.out.but FW2
  have HPL : Hid (P < W2.heap.size) := lt_of_block HP2.out
  have KN : Hid (∀ x, Below P W2 x → Calls Try.prog 108 #[.string vv, .slice s.al c.lats.length s.kl] x fun e w' => e = .returned (.string nn) ∧ Below x.heap.size x w') := fun x hx => KNX.out x (B2.out.b.trans hx)
  clear EW2 FW2 KNX
  go_wp2
  clear hW2 pW2 tW2
  refine wp_region_valsD (by kernel_rfl) (by kernel_rfl) goes3M (by kernel_rfl) (by kernel_rfl)
    (fun d w' => But2 P W2 w' ∧ (d 13 = false → PathAt w' P c s A L.length q st vv)) (goes3R P c s A L.length q vv nn) ⟨But2.drew _ _, fun _ => HP2.out⟩ (fun jj f f' w w' hb hf h => goes3_stab jj (fun _ => hb) hf h) ?_ ?_
  · intro i oo d a' w' ho hd hun hdf hok hD K hK hK0
    match i, ho, hd, hD, hK, hK0, hun with
    | 0, ho, hd, hD, hK, hK0, hun =>
      have e := (congrArg Oper.op (Option.some.inj ho)).symm
      obtain rfl := Option.some.inj ho
      exact wp_val (op_move a' w' 0 _ e) (hK _ _ (Below.refl _ _) ⟨hok.1, fun h => hok.2 (by simp only [Bool.or_eq_false_iff] at h; exact h.2)⟩ (fun f h1 _ => (h1 _ rfl).trans (hun 0 (by kernel_rfl))))
    | 1, ho, hd, hD, hK, hK0, hun =>
      have e := (congrArg Oper.op (Option.some.inj ho)).symm
      obtain rfl := Option.some.inj ho
      exact wp_val (op_move a' w' 0 _ e) (hK _ _ (Below.refl _ _) ⟨hok.1, fun h => hok.2 (by simp only [Bool.or_eq_false_iff] at h; exact h.2)⟩ (fun f h1 _ => (h1 _ rfl).trans (hun 0 (by kernel_rfl))))
    | 2, ho, hd, hD, hK, hK0, hun =>
      have e := (congrArg Oper.op (Option.some.inj ho)).symm
      obtain rfl := Option.some.inj ho
      exact wp_val (op_nil a' w' _ 25 (hD 1 (by kernel_rfl)) _ e) (hK _ _ (Below.refl _ _) ⟨hok.1, fun h => hok.2 (by simp only [Bool.or_eq_false_iff] at h; exact h.2)⟩ (fun f h1 _ => h1 _ rfl))
    | 3, ho, hd, hD, hK, hK0, hun =>
      have e := (congrArg Oper.op (Option.some.inj ho)).symm
      obtain rfl := Option.some.inj ho
      exact wp_val (op_field_replay_path_3 a' w' _ 26 (hD 2 (by kernel_rfl)) _ e) (hK _ _ (Below.refl _ _) ⟨hok.1, fun h => hok.2 (by simp only [Bool.or_eq_false_iff] at h; exact h.2)⟩ (fun f h1 _ => h1 _ rfl))
    | 4, ho, hd, hD, hK, hK0, hun =>
      have e := (congrArg Oper.op (Option.some.inj ho)).symm
      obtain rfl := Option.some.inj ho
      exact wp_val (op_load_replay_step a' w' _ 27 _ (hD 3 (by kernel_rfl)) (cells11 (hok.2 (hd 13 (by kernel_rfl)))).2.2.2.2.2.2.2.2.2.2 _ e) (hK _ _ (Below.refl _ _) ⟨hok.1, fun h => hok.2 (by simp only [Bool.or_eq_false_iff] at h; exact h.2)⟩ (fun f h1 _ => h1 _ rfl))
    | 5, ho, hd, hD, hK, hK0, hun =>
      have e := (congrArg Oper.op (Option.some.inj ho)).symm
      obtain rfl := Option.some.inj ho
      exact wp_val (op_move a' w' 0 _ e) (hK _ _ (Below.refl _ _) ⟨hok.1, fun h => hok.2 (by simp only [Bool.or_eq_false_iff] at h; exact h.2)⟩ (fun f h1 _ => (h1 _ rfl).trans (hun 0 (by kernel_rfl))))
    | 6, ho, hd, hD, hK, hK0, hun =>
      have e := (congrArg Oper.op (Option.some.inj ho)).symm
      obtain rfl := Option.some.inj ho
      exact wp_val (op_nil a' w' _ 29 (hD 5 (by kernel_rfl)) _ e) (hK _ _ (Below.refl _ _) ⟨hok.1, fun h => hok.2 (by simp only [Bool.or_eq_false_iff] at h; exact h.2)⟩ (fun f h1 _ => h1 _ rfl))
    | 7, ho, hd, hD, hK, hK0, hun =>
      have e := (congrArg Oper.op (Option.some.inj ho)).symm
      obtain rfl := Option.some.inj ho
      exact wp_val (op_field_replay_path_0 a' w' _ 30 (hD 6 (by kernel_rfl)) _ e) (hK _ _ (Below.refl _ _) ⟨hok.1, fun h => hok.2 (by simp only [Bool.or_eq_false_iff] at h; exact h.2)⟩ (fun f h1 _ => h1 _ rfl))
    | 8, ho, hd, hD, hK, hK0, hun =>
      have e := (congrArg Oper.op (Option.some.inj ho)).symm
      obtain rfl := Option.some.inj ho
      exact wp_val (op_field_api_Circuit_2 a' w' _ 31 (hD 7 (by kernel_rfl)) _ e) (hK _ _ (Below.refl _ _) ⟨hok.1, fun h => hok.2 (by simp only [Bool.or_eq_false_iff] at h; exact h.2)⟩ (fun f h1 _ => h1 _ rfl))
    | 9, ho, hd, hD, hK, hK0, hun =>
      have e := (congrArg Oper.op (Option.some.inj ho)).symm
      obtain rfl := Option.some.inj ho
      exact wp_val (op_load_Lapi_Latch a' w' _ 32 _ (hD 8 (by kernel_rfl)) (cells11 (hok.2 (hd 13 (by kernel_rfl)))).2.2.1 _ e) (hK _ _ (Below.refl _ _) ⟨hok.1, fun h => hok.2 (by simp only [Bool.or_eq_false_iff] at h; exact h.2)⟩ (fun f h1 _ => h1 _ rfl))
    | 10, ho, hd, hD, hK, hK0, hun =>
      have e := (congrArg Oper.op (Option.some.inj ho)).symm
      obtain rfl := Option.some.inj ho
      refine wp_enter (op_call2r a' w' _ 28 33 _ _ EN.out _ e) ?_
      rw [show a'.tmps.getD 28 undef = .string vv from hD 4 (by kernel_rfl), show a'.tmps.getD 33 undef = .slice s.al c.lats.length s.kl from hD 9 (by kernel_rfl)]
      refine (KN.out w' hok.1.b).mono ?_
      rintro e w'' ⟨rfl, hb⟩
      exact .inl ⟨_, rfl, hK _ _ hb ⟨hok.1.trans (But2.of (by have h1 := hok.1.size; have h2 := HPL.out; omega) hb), fun h => (hok.2 (by simp only [Bool.or_eq_false_iff] at h; exact h.2)).below hb⟩ (fun f h1 _ => h1 _ rfl)⟩
    | 11, ho, hd, hD, hK, hK0, hun =>
      have e := (congrArg Oper.op (Option.some.inj ho)).symm
      obtain rfl := Option.some.inj ho
      exact wp_val (op_nil a' w' _ 24 (hD 0 (by kernel_rfl)) _ e) (hK _ _ (Below.refl _ _) ⟨hok.1, fun h => hok.2 (by simp only [Bool.or_eq_false_iff] at h; exact h.2)⟩ (fun f h1 _ => h1 _ rfl))
    | 12, ho, hd, hD, hK, hK0, hun =>
      have e := (congrArg Oper.op (Option.some.inj ho)).symm
      obtain rfl := Option.some.inj ho
      exact wp_val (op_field_replay_path_2 a' w' _ 35 (hD 11 (by kernel_rfl)) _ e) (hK _ _ (Below.refl _ _) ⟨hok.1, fun h => hok.2 (by simp only [Bool.or_eq_false_iff] at h; exact h.2)⟩ (fun f h1 _ => h1 _ rfl))
    | 13, ho, hd, hD, hK, hK0, hun =>
      have e := (congrArg Oper.op (Option.some.inj ho)).symm
      obtain rfl := Option.some.inj ho
      obtain ⟨Z, u, ⟨hZ, pZ, tZ⟩, EZ, FZ⟩ := step_set w' _ 9 (.string nn) (hok.2 (hd 13 (by kernel_rfl))) (by simp [pathC])
      have hr := op_store_str a' w' P 9 _ _ 36 34 (hD 12 (by kernel_rfl)) (hD 10 (by kernel_rfl)) pZ tZ _ e
      rw [hZ] at hr
      exact wp_skip' hr (hK0 _ _ ⟨hok.1.but FZ, fun h => by simp at h⟩ (fun f h1 h2 => EZ) (fun j f hj hf hq => goes3_stab j (fun e2 => absurd e2 hj) hf hq))
    | i + 14, ho, _, _, _, _, _ => exact absurd ho (by simp)
  · intro a' w3 hsz hdf hkt hok hR
    have HF3 := frame_sets [24, 25, 26, 27, 28, 29, 30, 31, 32, 33, 34, 35, 36] (by kernel_rfl) hsz hkt
    obtain ⟨d, hok⟩ := hok
    have hp3 : PathAt w3 P c s A L.length q nn vv := hR 13 (by decide)
    have HP3 := Lib.hid hp3
    have HB3 := Lib.hid hok.1
    clear hp3 hok
    obtain ⟨tm, df⟩ := a'
    obtain rfl : df = _ := hdf
    simp only [List.foldl_cons, List.foldl_nil] at HF3
    clear hkt hR hsz
    generalize tm.getD 24 undef = y24 at HF3
    generalize tm.getD 25 undef = y25 at HF3
    generalize tm.getD 26 undef = y26 at HF3
    generalize tm.getD 27 undef = y27 at HF3
    generalize tm.getD 28 undef = y28 at HF3
    generalize tm.getD 29 undef = y29 at HF3
    generalize tm.getD 30 undef = y30 at HF3
    generalize tm.getD 31 undef = y31 at HF3
    generalize tm.getD 32 undef = y32 at HF3
    generalize tm.getD 33 undef = y33 at HF3
    generalize tm.getD 34 undef = y34 at HF3
    generalize tm.getD 35 undef = y35 at HF3
    generalize tm.getD 36 undef = y36 at HF3
    simp only [List.setIfInBounds_toArray, List.set_cons_succ, List.set_cons_zero] at HF3
    subst HF3
    clear HP2
    have hsz3 := HB3.out.size
    have HL3 : Hid (P < w3.heap.size) := by have := HPL.out; unfold Hid; omega
    have BB3 : Hid (But2 P w w3) := B2.out.trans HB3.out
    have BW3 : Hid (Below P w w3) := BB3.out.b
    have K4 := Lib.hid (fun (u : Wd w3.heap.size w3) => Calls.in_wd u (pallowed_any c s L A q vv u.w (LW.out u.w (BW3.out.trans (u.ok.mono (Nat.le_of_lt HL3.out)))) HF.out HVZ.out (LA.out u.w (BW3.out.trans (u.ok.mono (Nat.le_of_lt HL3.out))))) (Nat.le_refl _))
    rw [HAM.out] at K4
    unfold cirV at K4
    rw [show cirC c s = #[.int .i64 c.max, .slice s.ai c.ins.length s.ki, .slice s.al c.lats.length s.kl, .slice s.ao c.outs.length s.ko, .slice s.ab c.bads.length s.kb, .slice s.ac c.invs.length s.kc, .slice s.aa c.ands.length s.ka, .slice s.an c.names.length s.kn] from rfl] at K4
    obtain ⟨e0, e1, e2, e3, e4, e5, e6, e7, e8, e9, e10⟩ := cells11 HP3.out
    have u0 := Wd.cell e0
    have u1 := Wd.cell e1
    have u2 := Wd.cell e2
    have u3 := Wd.cell e3
    have u4 := Wd.cell e4
    have u5 := Wd.cell e5
    have u6 := Wd.cell e6
    have u7 := Wd.cell e7
    have u8 := Wd.cell e8
    clear e0 e1 e2 e3 e4 e5 e6 e7 e8 e9 e10
    clear hsz3
    go_wp2
    refine wp_region_wd (by kernel_rfl) (by kernel_rfl) ?_
    repeat (first | go_big_quiet_skip | (go_big_quiet_want; go_big_quiet_op; first | go_big_quiet_on | (apply Exists.intro; refine ⟨fun u => ?_, ?_⟩; (first | (go_at_call 38; with_reducible exact K4.out u)); go_big_quiet_on)))
    refine wpQuiet_nil ?_
    intro w4 hw'
    obtain ⟨⟨_, hb4⟩, hw''⟩ := hw'
    subst hw''
    have HP4 : Hid (PathAt w4 P c s A L.length q nn vv) := HP3.out.below hb4
    have BF : Hid (But2 P w w4) := BB3.out.trans (But2.of (Nat.le_of_lt HL3.out) hb4)
    clear hb4 K4 u0 u1 u2 u3 u4 u5 u6 u7 u8
    go_wp2
    go_ret
    exact ⟨rfl, BF.out, HP4.out⟩
end Go.Proofs.Ytfglgapocmnfpaa.Rep
namespace Go.Proofs.Ytfglgapocmnfpaa.Rep
open Go.ChangeShapes Go.WideShapes Go.ChangeAt Go.RowKit Go.Maps Circ Cw
open Str Sim

/-- the state that is come to -/
def stM (c : Cir) : ByteArray → List ByteArray → ByteArray
  | s, [] => s
  | s, i :: r => stM c (nxt1 c s i) r
theorem stM_snoc (c : Cir) : ∀ (l : List ByteArray) (s i : ByteArray), stM c s (l ++ [i]) = nxt1 c (stM c s l) i
  | [], _, _ => rfl
  | j :: r, s, i => stM_snoc c r (nxt1 c s j) i
theorem lastV_snoc (c : Cir) : ∀ (l : List ByteArray) (v : List UInt8) (s i : ByteArray), lastV c v s (l ++ [i]) = valsM c (stM c s l) i
  | [], _, _, _ => rfl
  | j :: r, _, s, i => lastV_snoc c r (valsM c s j) (nxt1 c s j) i
theorem goesM_snoc (c : Cir) (cl : List (List Int)) : ∀ (l : List ByteArray) (s i : ByteArray), goesM c cl s (l ++ [i]) = (goesM c cl s l && allowedM c cl (valsM c (stM c s l) i))
  | [], s, i => by show (allowedM c cl (valsM c s i) && true) = (true && _); rw [Bool.and_true, Bool.true_and]; rfl
  | j :: r, s, i => by
    show (allowedM c cl (valsM c s j) && goesM c cl (nxt1 c s j) (r ++ [i])) = ((allowedM c cl (valsM c s j) && goesM c cl (nxt1 c s j) r) && _)
    rw [goesM_snoc c cl r (nxt1 c s j) i, Bool.and_assoc]; rfl
theorem stM_bits (c : Cir) : ∀ (l : List ByteArray) (s : ByteArray), bitsM s (c.lats.length : Int) = true → bitsM (stM c s l) (c.lats.length : Int) = true
  | [], _, h => h
  | i :: r, s, _ => stM_bits c r (nxt1 c s i) (nxt1_bits c s i)
theorem statesL_snoc (c : Cir) : ∀ (l : List ByteArray) (s i : ByteArray), statesL c s (l ++ [i]) = statesL c s l ++ [stM c s (l ++ [i])]
  | [], _, _ => rfl
  | j :: r, s, i => by
    show s :: statesL c (nxt1 c s j) (r ++ [i]) = s :: statesL c (nxt1 c s j) r ++ _
    rw [statesL_snoc c r (nxt1 c s j) i]; rfl
theorem take_snoc {α : Type} (l : List α) (k : Nat) (h : k < l.length) : l.take (k + 1) = l.take k ++ [l[k]] := List.take_succ_eq_append_getElem h
/-- is the step from input number k allowed? -/
def stepB (c : Cir) (cl : List (List Int)) (st : ByteArray) (l : List ByteArray) (k : Nat) : Bool := allowedM c cl (valsM c (stM c st (l.take k)) (l.getD k default))
theorem allB_goes (c : Cir) (cl : List (List Int)) (st : ByteArray) (l : List ByteArray) : ∀ n, n ≤ l.length → allB (stepB c cl st l) n = goesM c cl st (l.take n)
  | 0, _ => rfl
  | n + 1, h => by
    unfold allB
    rw [List.range_succ, List.all_append]
    show (allB (stepB c cl st l) n && ([n].all (stepB c cl st l))) = _
    rw [allB_goes c cl st l n (by omega), take_snoc l n (by omega), goesM_snoc]
    have e : l.getD n default = l[n] := by rw [List.getD_eq_getElem?_getD, List.getElem?_eq_getElem (by omega)]; rfl
    rw [show [n].all (stepB c cl st l) = stepB c cl st l n from by simp]
    unfold stepB
    rw [e]
set_option maxHeartbeats 16000000 in
set_option maxRecDepth 100000 in
/-- all of goes: the path's box tells what was come to, where all steps are allowed -/
theorem allS_goes (P : Nat) (c : Cir) (s : Places) (L : List Clz) (A : Option Addr) (q : Nat) (st : ByteArray) (la : List UInt8) (l : List ByteArray) (AI : Option Addr) (qi : Nat) (w : World) (hP : PathAt w P c s A L.length q st (sb la)) (h : CLies w P c s) (hf : CFits c s) (ha : ALies w P A L) (hr : refOk c = true) (hs : bitsM st (c.lats.length : Int) = true) (hi : ∀ i ∈ l, bitsM i (c.ins.length : Int) = true) (hl : SLies w P AI l) :
    Calls Try.prog 73 #[.func (.func 74) #[.pointer (some ⟨P, 0, none⟩)] #[], .slice AI l.length qi] w fun e w' => e = .returned (.bool (goesM c (L.map Clz.l) st l)) ∧ But2 P w w' ∧ (goesM c (L.map Clz.l) st l = true → PathAt w' P c s A L.length q (stM c st l) (sb (lastV c la st l))) := by
  have EV : ∀ args w, (callFunc 74 args).run Try.prog w = .ok (.enter 74 args) w := enters_of Try.func74 (by kernel_rfl) rfl
  refine (allS_any 74 (.pointer (some ⟨P, 0, none⟩)) l AI qi (stepB c (L.map Clz.l) st l) (fun k W => But2 P w W ∧ PathAt W P c s A L.length q (stM c st (l.take k)) (sb (lastV c la st (l.take k)))) (fun W => But2 P w W) w hl.len EV (fun k W hW => ((hl.below hW.1.b).more (by have := lt_of_block hW.2; omega)).row) (fun k hk W hW => ?_) ⟨But2.refl _ _, hP⟩).mono ?_
  · have e : l.getD k default = l[k] := by rw [List.getD_eq_getElem?_getD, List.getElem?_eq_getElem hk]; rfl
    refine (goes_any P c s L A q _ _ l[k] W hW.2 (h.below hW.1.b) hf (ha.below hW.1.b) hr (stM_bits c _ _ hs) (hi _ (List.getElem_mem hk))).mono ?_
    rintro e' w' ⟨rfl, hb, hp⟩
    unfold stepB
    rw [e]
    refine ⟨rfl, fun _ => ⟨hW.1.trans hb, ?_⟩, fun _ => hW.1.trans hb⟩
    rw [take_snoc l k hk, stM_snoc, lastV_snoc]
    exact hp
  · rintro e w' ⟨rfl, h1, h2⟩
    rw [allB_goes c _ st l l.length (Nat.le_refl _), List.take_length] at h1 h2 ⊢
    refine ⟨rfl, ?_, fun hg => (h1 hg).2⟩
    cases hq : goesM c (L.map Clz.l) st l with
    | true => exact (h1 hq).1
    | false => exact h2 hq
section
variable {c : Cir} {cl : List (List Int)} {w : Wit}
theorem path_state (h : refOk c = false) : pathE c cl w = 9 := by unfold pathE; rw [if_pos h]
theorem path_range (h : refOk c = true) (h2 : w.bad < 0 ∨ (c.bads.length : Int) ≤ w.bad) : pathE c cl w = 4 := by unfold pathE; rw [h, if_neg (by decide), if_pos h2]
theorem path_short (h : refOk c = true) (h2 : ¬ (w.bad < 0 ∨ (c.bads.length : Int) ≤ w.bad)) (h3 : w.inputs = []) : pathE c cl w = 8 := by unfold pathE; rw [h, if_neg (by decide), if_neg h2, if_pos h3]
theorem path_long (h : refOk c = true) (h2 : ¬ (w.bad < 0 ∨ (c.bads.length : Int) ≤ w.bad)) (h3 : w.inputs ≠ []) (h4 : (bitsM w.state (c.lats.length : Int) && w.inputs.all (fun i => bitsM i (c.ins.length : Int))) = false) : pathE c cl w = 5 := by
  unfold pathE
  rw [h, if_neg (by decide), if_neg h2, if_neg h3]
  cases h5 : bitsM w.state (c.lats.length : Int) with
  | false => rw [if_pos rfl]
  | true => rw [h5, Bool.true_and] at h4; rw [if_neg (by decide), if_pos h4]
theorem path_first (h : refOk c = true) (h2 : ¬ (w.bad < 0 ∨ (c.bads.length : Int) ≤ w.bad)) (h3 : w.inputs ≠ []) (h4 : (bitsM w.state (c.lats.length : Int) && w.inputs.all (fun i => bitsM i (c.ins.length : Int))) = true) (h5 : initM c w.state = false) : pathE c cl w = 9 := by
  rw [Bool.and_eq_true] at h4
  unfold pathE
  rw [h, if_neg (by decide), if_neg h2, if_neg h3, h4.1, if_neg (by decide), h4.2, if_neg (by decide), if_pos h5]
theorem path_false (h : refOk c = true) (h2 : ¬ (w.bad < 0 ∨ (c.bads.length : Int) ≤ w.bad)) (h3 : w.inputs ≠ []) (h4 : (bitsM w.state (c.lats.length : Int) && w.inputs.all (fun i => bitsM i (c.ins.length : Int))) = true) (h5 : initM c w.state = true) (h6 : stepsM c cl w.bad w.state w.inputs = false) : pathE c cl w = 51 := by
  rw [Bool.and_eq_true] at h4
  unfold pathE
  rw [h, if_neg (by decide), if_neg h2, if_neg h3, h4.1, if_neg (by decide), h4.2, if_neg (by decide), h5, if_neg (by decide), if_pos h6]
theorem path_right (h : refOk c = true) (h2 : ¬ (w.bad < 0 ∨ (c.bads.length : Int) ≤ w.bad)) (h3 : w.inputs ≠ []) (h4 : (bitsM w.state (c.lats.length : Int) && w.inputs.all (fun i => bitsM i (c.ins.length : Int))) = true) (h5 : initM c w.state = true) (h6 : stepsM c cl w.bad w.state w.inputs = true) : pathE c cl w = 0 := by
  rw [Bool.and_eq_true] at h4
  unfold pathE
  rw [h, if_neg (by decide), if_neg h2, if_neg h3, h4.1, if_neg (by decide), h4.2, if_neg (by decide), h5, if_neg (by decide), h6, if_neg (by decide)]
end
end Go.Proofs.Ytfglgapocmnfpaa.Rep
