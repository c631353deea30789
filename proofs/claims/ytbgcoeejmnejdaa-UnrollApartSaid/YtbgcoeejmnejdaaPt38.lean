/- unroll.ahead, latches; condition: the circuit lies in memory and may be, the frame is from 0 to 81. unroll's closure over latches, each; tseitin.Clause; condition: the circuit lies in memory and may be, a list takes at most 2^47 bytes. unroll.Base, First; condition: the circuit lies in memory. -/
import Derived.Test.YtbgcoeejmnejdaaPt37
import Derived.Test.YtbgcoeejmnejdaaPt30
import Derived.Test.YtbgcoeejmnejdaaPt23
namespace Go.Proofs.Ytbgcoeejmnejdaa.Unr
open Go.ChangeShapes Go.WideShapes Go.ChangeAt Go.RowKit Go.Maps Circ Cw Str Sim Rep Cla Tse

theorem ahead_fits {m f : Int} (hm : 0 ≤ m ∧ m ≤ 2048) (hf : 0 ≤ f ∧ f ≤ 81) : 0 ≤ f * (m + 1) ∧ f * (m + 1) ≤ 165969 := by
  refine ⟨Int.mul_nonneg hf.1 (by omega), ?_⟩
  have h1 : f * (m + 1) ≤ 81 * (m + 1) := Int.mul_le_mul_of_nonneg_right hf.2 (by omega)
  omega
set_option maxHeartbeats 8000000 in
set_option maxRecDepth 100000 in
theorem ahead_any (c : Cir) (s : Places) (f : Int) (w : World) (hm : 0 ≤ c.max ∧ c.max ≤ 2048) (hf : 0 ≤ f ∧ f ≤ 81) :
    Calls Try.prog 76 #[cirV c s, .int .i64 f] w fun e w' => e = .returned (.int .i64 (f * (c.max + 1))) ∧ Below w.heap.size w w' := by
  obtain ⟨WA, hWA⟩ : ∃ x, w.alloc (.cells #[.int .i64 c.max, .slice s.ai c.ins.length s.ki, .slice s.al c.lats.length s.kl, .slice s.ao c.outs.length s.ko, .slice s.ab c.bads.length s.kb, .slice s.ac c.invs.length s.kc, .slice s.aa c.ands.length s.ka, .slice s.an c.names.length s.kn] 27) = x := ⟨_, rfl⟩
  have bA : Hid (Below w.heap.size w WA) := by unfold Hid; rw [← hWA]; exact (Below.refl _ _).alloc (Nat.le_refl _) _
  have GA : Hid (WA.heap[w.heap.size]? = some (.cells (cirC c s) 27 (0, 0))) := by unfold Hid; rw [← hWA]; exact Array.getElem?_push_size
  obtain ⟨e0, e1, e2, e3, e4, e5, e6, e7⟩ := cells8 GA.out
  obtain ⟨g0, g1⟩ := ahead_fits hm hf
  obtain ⟨hm0, hm1⟩ := hm
  obtain ⟨hf0, hf1⟩ := hf
  unfold cirV
  rw [show cirC c s = #[.int .i64 c.max, .slice s.ai c.ins.length s.ki, .slice s.al c.lats.length s.kl, .slice s.ao c.outs.length s.ko, .slice s.ab c.bads.length s.kb, .slice s.ac c.invs.length s.kc, .slice s.aa c.ands.length s.ka, .slice s.an c.names.length s.kn] from rfl]
  generalize c.max = m at *
  go_enter Try.func76, Try.ntmps76
  go_wp2
  go_ret
  exact ⟨by go_num, bA.out⟩
def latV (bk bb bc : Nat) : Value := .func (.func 119) #[] #[.pointer (some ⟨bk, 0, none⟩), .pointer (some ⟨bb, 0, none⟩), .pointer (some ⟨bc, 0, none⟩)]
/-- the boxes that the closure over latches reads -/
structure LatAt (w : World) (c : Cir) (s : Places) (b : Int) (bk bb bc : Nat) : Prop where
  hk : w.heap[bk]? = some (.cells #[.int .i64 (c.lats.length : Int)] 3 (0, 0))
  hb : w.heap[bb]? = some (.cells #[.int .i64 b] 3 (0, 0))
  hc : w.heap[bc]? = some (.cells (cirC c s) 27 (0, 0))
  hl : CLies w w.heap.size c s
theorem LatAt.below {w w' : World} {c : Cir} {s : Places} {b : Int} {bk bb bc : Nat} (h : LatAt w c s b bk bb bc) (hb : Below w.heap.size w w') : LatAt w' c s b bk bb bc :=
  ⟨(hb.block _ (Array.getElem?_eq_some_iff.1 h.hk).1).trans h.hk, (hb.block _ (Array.getElem?_eq_some_iff.1 h.hb).1).trans h.hb, (hb.block _ (Array.getElem?_eq_some_iff.1 h.hc).1).trans h.hc, (h.hl.below hb).more hb.size⟩
/-- a box of one number that the call makes -/
def BoxI (w : World) (B : Nat) (v : Value) (x : Int) : Prop := ∃ g, v = .pointer (some ⟨g, 0, none⟩) ∧ B ≤ g ∧ w.heap[g]? = some (.cells #[.int .i64 x] 3 (0, 0))
theorem BoxI.far {w w' : World} {B : Nat} {v : Value} {x : Int} (h : BoxI w B v x) (hb : Below w.heap.size w w') : BoxI w' B v x := by
  obtain ⟨g, h1, h2, h3⟩ := h
  exact ⟨g, h1, h2, (hb.block _ (Array.getElem?_eq_some_iff.1 h3).1).trans h3⟩
theorem BoxI.but {w w' : World} {B g : Nat} {v : Value} {x : Int} (h : BoxI w B v x) (hb : But g w w') (hg : v ≠ .pointer (some ⟨g, 0, none⟩)) : BoxI w' B v x := by
  obtain ⟨k, h1, h2, h3⟩ := h
  exact ⟨k, h1, h2, hb.block h3 (fun e => hg (by rw [h1, e]))⟩
structure LatOk (W : World) (x y : Int) (d : Nat → Bool) (f : Nat → Value) (w' : World) : Prop where
  b : Below W.heap.size W w'
  p : d 6 = true → BoxI w' W.heap.size (f 5) (if d 8 = true then x else 0)
  q : d 7 = true → BoxI w' W.heap.size (f 6) (if d 9 = true then y else 0)
  n : d 6 = true → d 7 = true → f 5 ≠ f 6
section
variable {W : World} {x y : Int} {d : Nat → Bool} {f f' : Nat → Value} {w' w'' : World}
theorem LatOk.start (f : Nat → Value) : LatOk W x y (fun _ => false) f W.drew :=
  ⟨(Below.refl _ _).drew, (fun h => absurd h (by decide)), (fun h => absurd h (by decide)), (fun h => absurd h (by decide))⟩
theorem LatOk.far (h : LatOk W x y d f w') (j : Nat) (hj : j < 6) (hb : Below w'.heap.size w' w'') (e5 : f' 5 = f 5) (e6 : f' 6 = f 6) : LatOk W x y (fun k => decide (k = j) || d k) f' w'' := by
  have dk : ∀ n, 6 ≤ n → (decide (n = j) || d n) = d n := fun n hn => by rw [decide_eq_false (show ¬ n = j by omega)]; rfl
  refine ⟨h.b.trans (hb.mono h.b.size), ?_, ?_, ?_⟩
  · show (decide (6 = j) || d 6) = true → BoxI w'' W.heap.size (f' 5) (if (decide (8 = j) || d 8) = true then x else 0)
    rw [dk 6 (by decide), dk 8 (by decide), e5]
    exact fun h1 => (h.p h1).far hb
  · show (decide (7 = j) || d 7) = true → BoxI w'' W.heap.size (f' 6) (if (decide (9 = j) || d 9) = true then y else 0)
    rw [dk 7 (by decide), dk 9 (by decide), e6]
    exact fun h1 => (h.q h1).far hb
  · show (decide (6 = j) || d 6) = true → (decide (7 = j) || d 7) = true → f' 5 ≠ f' 6
    rw [dk 6 (by decide), dk 7 (by decide), e5, e6]
    exact h.n
theorem BoxI.old (h : BoxI w' W.heap.size (f 5) x) : f 5 ≠ .pointer (some ⟨w'.heap.size, 0, none⟩) := by
  obtain ⟨g, h1, h2, h3⟩ := h
  have := (Array.getElem?_eq_some_iff.1 h3).1
  rw [h1]
  intro e
  injection e with e
  injection e with e
  injection e with e
  omega
theorem box_new (w : World) (B : Nat) (hB : B ≤ w.heap.size) : BoxI (w.alloc (.cells #[.int .i64 0] 3)) B (.pointer (some ⟨w.heap.size, 0, none⟩)) 0 := ⟨_, rfl, hB, Array.getElem?_push_size⟩
theorem LatOk.mk6 (h : LatOk W x y d f w') (h8 : d 8 = false) (e5 : f' 5 = .pointer (some ⟨w'.heap.size, 0, none⟩)) (e6 : f' 6 = f 6) : LatOk W x y (fun k => decide (k = 6) || d k) f' (w'.alloc (.cells #[.int .i64 0] 3)) := by
  have hb : Below w'.heap.size w' (w'.alloc (.cells #[.int .i64 0] 3)) := (Below.refl _ _).alloc (Nat.le_refl _) _
  refine ⟨h.b.trans (hb.mono h.b.size), fun _ => ?_, fun h7 => ?_, fun _ h7 => ?_⟩
  · show BoxI _ _ (f' 5) (if (decide (8 = 6) || d 8) = true then x else 0)
    rw [h8, e5]
    exact box_new w' _ h.b.size
  · show BoxI _ _ (f' 6) (if (decide (9 = 6) || d 9) = true then y else 0)
    rw [e6]
    exact (h.q h7).far hb
  · rw [e5, e6]
    exact fun e => BoxI.old (W := W) (w' := w') (f := fun _ => f 6) (h.q h7) e.symm
theorem LatOk.mk7 (h : LatOk W x y d f w') (h9 : d 9 = false) (e6 : f' 6 = .pointer (some ⟨w'.heap.size, 0, none⟩)) (e5 : f' 5 = f 5) : LatOk W x y (fun k => decide (k = 7) || d k) f' (w'.alloc (.cells #[.int .i64 0] 3)) := by
  have hb : Below w'.heap.size w' (w'.alloc (.cells #[.int .i64 0] 3)) := (Below.refl _ _).alloc (Nat.le_refl _) _
  refine ⟨h.b.trans (hb.mono h.b.size), fun h6 => ?_, fun _ => ?_, fun h6 _ => ?_⟩
  · show BoxI _ _ (f' 5) (if (decide (8 = 7) || d 8) = true then x else 0)
    rw [e5]
    exact (h.p h6).far hb
  · show BoxI _ _ (f' 6) (if (decide (9 = 7) || d 9) = true then y else 0)
    rw [h9, e6]
    exact box_new w' _ h.b.size
  · rw [e5, e6]
    exact BoxI.old (W := W) (w' := w') (h.p h6)
theorem LatOk.st8 (h : LatOk W x y d f w') (h6 : d 6 = true) {g : Nat} (hg : f 5 = .pointer (some ⟨g, 0, none⟩)) (hB : W.heap.size ≤ g) (hw : w''.heap[g]? = some (.cells #[.int .i64 x] 3 (0, 0))) (hb : But g w' w'') (e5 : f' 5 = f 5) (e6 : f' 6 = f 6) : LatOk W x y (fun k => decide (k = 8) || d k) f' w'' := by
  refine ⟨hb.below h.b hB, fun _ => ?_, fun h7 => ?_, ?_⟩
  · rw [e5, hg]
    exact ⟨g, rfl, hB, hw⟩
  · show BoxI _ _ (f' 6) (if (decide (9 = 8) || d 9) = true then y else 0)
    rw [e6]
    exact (h.q h7).but hb (fun e => h.n h6 h7 (hg.trans e.symm))
  · show (decide (6 = 8) || d 6) = true → (decide (7 = 8) || d 7) = true → f' 5 ≠ f' 6
    rw [e5, e6]; exact h.n
theorem LatOk.st9 (h : LatOk W x y d f w') (h7 : d 7 = true) {g : Nat} (hg : f 6 = .pointer (some ⟨g, 0, none⟩)) (hB : W.heap.size ≤ g) (hw : w''.heap[g]? = some (.cells #[.int .i64 y] 3 (0, 0))) (hb : But g w' w'') (e5 : f' 5 = f 5) (e6 : f' 6 = f 6) : LatOk W x y (fun k => decide (k = 9) || d k) f' w'' := by
  refine ⟨hb.below h.b hB, fun h6 => ?_, fun _ => ?_, ?_⟩
  · show BoxI _ _ (f' 5) (if (decide (8 = 9) || d 8) = true then x else 0)
    rw [e5]
    exact (h.p h6).but hb (fun e => h.n h6 h7 (e.trans hg.symm))
  · rw [e6, hg]
    exact ⟨g, rfl, hB, hw⟩
  · show (decide (6 = 9) || d 6) = true → (decide (7 = 9) || d 7) = true → f' 5 ≠ f' 6
    rw [e5, e6]; exact h.n
end
theorem op_mvU (a : Act) (w : World) (t : Nat) (oo : Oper) (ho : oo.op = .move (.tmp t)) : (execOp a.eval oo).run Try.prog w = .ok (.value (a.tmps.getD t undef)) w := by
  unfold execOp
  rw [ho]
  go_simp
theorem op_lenU (a : Act) (w : World) (t n q : Nat) (A : Option Addr) (h : a.tmps.getD t undef = .slice A n q) (oo : Oper) (ho : oo.op = .call { callee := .builtin .len, args := #[.tmp t], argTypes := #[23] }) : (execOp a.eval oo).run Try.prog w = .ok (.value (.int .i64 n)) w := by
  have h' : a.tmps[t]?.getD undef = .slice A n q := by simpa using h
  unfold execOp
  rw [ho]
  go_simp
theorem op_allocU (a : Act) (w : World) (oo : Oper) (ho : oo.op = .alloc 3) : (execOp a.eval oo).run Try.prog w = .ok (.value (.pointer (some ⟨w.heap.size, 0, none⟩))) (w.alloc (.cells #[.int .i64 0] 3)) := by
  unfold execOp
  rw [ho]
  go_simp
theorem op_callU (a : Act) (w : World) (f t s T S : Nat) (hf : ∀ args w, (callFunc f args).run Try.prog w = .ok (.enter f args) w) (oo : Oper) (ho : oo.op = .call { callee := .value (.func f), args := #[.tmp t, .tmp s], argTypes := #[T, S] }) : (execOp a.eval oo).run Try.prog w = .ok (.enter f #[a.tmps.getD t undef, a.tmps.getD s undef]) w := by
  unfold execOp
  rw [ho]
  go_simp
def latR (c : Cir) (s : Places) (bx : Nat) (f0 x : Int) : Nat → (Nat → Value) → World → Prop
  | 0, f, _ => f 7 = cirV c s
  | 1, f, _ => f 8 = .int .i64 f0
  | 2, f, _ => f 9 = .int .i64 x
  | 3, f, _ => f 10 = .pointer (some ⟨bx, 2, none⟩)
  | 4, f, _ => f 11 = .slice s.al c.lats.length s.kl
  | 5, f, _ => f 12 = .int .i64 (c.lats.length : Int)
  | _, _, _ => True
def latM : Nat → List Nat
  | 0 => [7]
  | 1 => [8]
  | 2 => [9]
  | 3 => [10]
  | 4 => [11]
  | 5 => [12]
  | _ => []
theorem lat_stab {c : Cir} {s : Places} {bx : Nat} {f0 x : Int} (jj : Nat) {f f' : Nat → Value} {w w' : World} (hf : ∀ t ∈ latM jj, f' t = f t) (h : latR c s bx f0 x jj f w) : latR c s bx f0 x jj f' w' := by
  match jj, hf, h with
  | 0, hf, h => exact (hf 7 (by decide)).trans h
  | 1, hf, h => exact (hf 8 (by decide)).trans h
  | 2, hf, h => exact (hf 9 (by decide)).trans h
  | 3, hf, h => exact (hf 10 (by decide)).trans h
  | 4, hf, h => exact (hf 11 (by decide)).trans h
  | 5, hf, h => exact (hf 12 (by decide)).trans h
  | _ + 6, _, _ => trivial
set_option maxHeartbeats 16000000 in
set_option maxRecDepth 100000 in
theorem latches_any (c : Cir) (s : Places) (f0 : Int) (w : World) (h : CLies w w.heap.size c s) (hr : refOk c = true) (hf : 0 ≤ f0 ∧ f0 ≤ 81) :
    Calls Try.prog 80 #[cirV c s, .int .i64 f0] w fun e w' => (∃ bk bb bc, e = .returned (latV bk bb bc) ∧ LatAt w' c s (f0 * (c.max + 1)) bk bb bc) ∧ Below w.heap.size w w' := by
  obtain ⟨WA, hWA⟩ : ∃ x, w.alloc (.cells #[.int .i64 c.max, .slice s.ai c.ins.length s.ki, .slice s.al c.lats.length s.kl, .slice s.ao c.outs.length s.ko, .slice s.ab c.bads.length s.kb, .slice s.ac c.invs.length s.kc, .slice s.aa c.ands.length s.ka, .slice s.an c.names.length s.kn] 27) = x := ⟨_, rfl⟩
  have bA : Hid (Below w.heap.size w WA) := by unfold Hid; rw [← hWA]; exact (Below.refl _ _).alloc (Nat.le_refl _) _
  have GA : Hid (WA.heap[w.heap.size]? = some (.cells (cirC c s) 27 (0, 0))) := by unfold Hid; rw [← hWA]; exact Array.getElem?_push_size
  have GW : Hid (∀ x, Below WA.heap.size WA x → x.heap[w.heap.size]? = some (.cells (cirC c s) 27 (0, 0))) := fun x hx => (hx.block _ (lt_of_block GA.out)).trans GA.out
  have CW : Hid (∀ x, Below WA.heap.size WA x → CLies x x.heap.size c s) := fun x hx => by
    have h1 := bA.out.trans (hx.mono bA.out.size)
    exact (h.below h1).more h1.size
  have AH := Lib.hid (fun x => ahead_any c s f0 x (max_small hr) hf)
  have EV : Hid (∀ args w, (callFunc 76 args).run Try.prog w = .ok (.enter 76 args) w) := enters_of Try.func76 (by kernel_rfl) rfl
  obtain ⟨xx, hxx⟩ : ∃ y, f0 * (c.max + 1) = y := ⟨_, rfl⟩
  rw [hxx] at AH ⊢
  clear h hr hf hxx
  unfold latV
  unfold cirV
  rw [show cirC c s = #[.int .i64 c.max, .slice s.ai c.ins.length s.ki, .slice s.al c.lats.length s.kl, .slice s.ao c.outs.length s.ko, .slice s.ab c.bads.length s.kb, .slice s.ac c.invs.length s.kc, .slice s.aa c.ands.length s.ka, .slice s.an c.names.length s.kn] from rfl]
  go_enter Try.func80, Try.ntmps80
  go_wp2
  refine wp_region_valsG (by kernel_rfl) (by kernel_rfl) latM (by kernel_rfl) (by kernel_rfl) (LatOk WA xx (c.lats.length : Int)) (latR c s w.heap.size f0 xx) (LatOk.start _) (fun j f f' w w' _ hm h => lat_stab j hm h) ?_ ?_
  · intro i oo d a' w' ho hd hun hdf hok hDE K hK hK0
    match i, ho, hd, hDE, hK, hK0, hun with
    | 0, ho, hd, hDE, hK, hK0, hun =>
      have e := (congrArg Oper.op (Option.some.inj ho)).symm
      obtain rfl := Option.some.inj ho
      exact wp_val (op_load_cirV a' w' w.heap.size 2 c s (hun 2 (by kernel_rfl)) (GW.out _ hok.b) _ e) (hK _ _ (Below.refl _ _) (fun f _ h2 => hok.far 0 (by decide) (Below.refl _ _) (h2 5 (by decide)) (h2 6 (by decide))) (fun f h1 _ => h1 7 rfl))
    | 1, ho, hd, hDE, hK, hK0, hun =>
      have e := (congrArg Oper.op (Option.some.inj ho)).symm
      obtain rfl := Option.some.inj ho
      exact wp_val (op_mvU a' w' 1 _ e) (hK _ _ (Below.refl _ _) (fun f _ h2 => hok.far 1 (by decide) (Below.refl _ _) (h2 5 (by decide)) (h2 6 (by decide))) (fun f h1 _ => (h1 8 rfl).trans (hun 1 (by kernel_rfl))))
    | 2, ho, hd, hDE, hK, hK0, hun =>
      have e := (congrArg Oper.op (Option.some.inj ho)).symm
      obtain rfl := Option.some.inj ho
      refine wp_enter (op_callU a' w' _ 7 8 _ _ EV.out _ e) ?_
      rw [show a'.tmps.getD 7 undef = cirV c s from (hDE 0 (by kernel_rfl)).2, show a'.tmps.getD 8 undef = .int .i64 f0 from (hDE 1 (by kernel_rfl)).2]
      refine (AH.out w').mono ?_
      rintro e w'' ⟨rfl, hb2⟩
      exact .inl ⟨_, rfl, hK _ _ hb2 (fun f h1 h2 => hok.far 2 (by decide) hb2 (h2 5 (by decide)) (h2 6 (by decide))) (fun f h1 _ => h1 9 rfl)⟩
    | 3, ho, hd, hDE, hK, hK0, hun =>
      have e := (congrArg Oper.op (Option.some.inj ho)).symm
      obtain rfl := Option.some.inj ho
      exact wp_val (op_field_api_Circuit_2 a' w' w.heap.size 2 (hun 2 (by kernel_rfl)) _ e) (hK _ _ (Below.refl _ _) (fun f _ h2 => hok.far 3 (by decide) (Below.refl _ _) (h2 5 (by decide)) (h2 6 (by decide))) (fun f h1 _ => h1 10 rfl))
    | 4, ho, hd, hDE, hK, hK0, hun =>
      have e := (congrArg Oper.op (Option.some.inj ho)).symm
      obtain rfl := Option.some.inj ho
      obtain ⟨-, -, c2, -, -, -, -, -⟩ := cells8 (GW.out _ hok.b)
      exact wp_val (op_load_Lapi_Latch a' w' ⟨w.heap.size, 2, none⟩ 10 _ (hDE 3 (by kernel_rfl)).2 c2 _ e) (hK _ _ (Below.refl _ _) (fun f _ h2 => hok.far 4 (by decide) (Below.refl _ _) (h2 5 (by decide)) (h2 6 (by decide))) (fun f h1 _ => h1 11 rfl))
    | 5, ho, hd, hDE, hK, hK0, hun =>
      have e := (congrArg Oper.op (Option.some.inj ho)).symm
      obtain rfl := Option.some.inj ho
      exact wp_val (op_lenU a' w' 11 _ _ _ (hDE 4 (by kernel_rfl)).2 _ e) (hK _ _ (Below.refl _ _) (fun f _ h2 => hok.far 5 (by decide) (Below.refl _ _) (h2 5 (by decide)) (h2 6 (by decide))) (fun f h1 _ => h1 12 rfl))
    | 6, ho, hd, hDE, hK, hK0, hun =>
      have e := (congrArg Oper.op (Option.some.inj ho)).symm
      obtain rfl := Option.some.inj ho
      exact wp_val (op_allocU a' w' _ e) (hK _ _ ((Below.refl _ _).alloc (Nat.le_refl _) _) (fun f h1 h2 => hok.mk6 (hd 8 (by kernel_rfl)) (h1 5 rfl) (h2 6 (by decide))) (fun f h1 _ => trivial))
    | 7, ho, hd, hDE, hK, hK0, hun =>
      have e := (congrArg Oper.op (Option.some.inj ho)).symm
      obtain rfl := Option.some.inj ho
      exact wp_val (op_allocU a' w' _ e) (hK _ _ ((Below.refl _ _).alloc (Nat.le_refl _) _) (fun f h1 h2 => hok.mk7 (hd 9 (by kernel_rfl)) (h1 6 rfl) (h2 5 (by decide))) (fun f h1 _ => trivial))
    | 8, ho, hd, hDE, hK, hK0, hun =>
      have e := (congrArg Oper.op (Option.some.inj ho)).symm
      obtain rfl := Option.some.inj ho
      have d6 := (hDE 6 (by kernel_rfl)).1
      obtain ⟨g, q1, q2, q3⟩ := hok.p d6
      have d8 : d 8 = false := hd 8 (by kernel_rfl)
      obtain ⟨Z, u, ⟨hZ, pZ, tZ⟩, EZ, FZ⟩ := step_set w' _ 0 (.int .i64 xx) q3 (by show 0 < 1; decide)
      have hr := op_store_int_set a' w' g 0 u xx 5 9 q1 (hDE 2 (by kernel_rfl)).2 pZ tZ _ e
      rw [hZ] at hr
      exact wp_skip' hr (hK0 _ _ (fun f h1 h2 => hok.st8 d6 q1 q2 EZ FZ (h2 5 (by decide)) (h2 6 (by decide))) (fun f h1 _ => trivial) (fun j f hj hf hq => lat_stab j hf hq))
    | 9, ho, hd, hDE, hK, hK0, hun =>
      have e := (congrArg Oper.op (Option.some.inj ho)).symm
      obtain rfl := Option.some.inj ho
      have d7 := (hDE 7 (by kernel_rfl)).1
      obtain ⟨g, q1, q2, q3⟩ := hok.q d7
      obtain ⟨Z, u, ⟨hZ, pZ, tZ⟩, EZ, FZ⟩ := step_set w' _ 0 (.int .i64 (c.lats.length : Int)) q3 (by show 0 < 1; decide)
      have hr := op_store_int_set a' w' g 0 u (c.lats.length : Int) 6 12 q1 (hDE 5 (by kernel_rfl)).2 pZ tZ _ e
      rw [hZ] at hr
      exact wp_skip' hr (hK0 _ _ (fun f h1 h2 => hok.st9 d7 q1 q2 EZ FZ (h2 5 (by decide)) (h2 6 (by decide))) (fun f h1 _ => trivial) (fun j f hj hf hq => lat_stab j hf hq))
    | i + 10, ho, _, _, _, _, _ => exact absurd ho (by simp)
  · intro a' w3 hsz hdf hkt hok hR
    have HF3 := frame_sets [7, 8, 9, 10, 11, 12, 5, 6] (by kernel_rfl) hsz hkt
    obtain ⟨d, hok, hall⟩ := hok
    obtain ⟨gb, p5, -, hgb⟩ := hok.p (hall 6 (by decide))
    obtain ⟨gk, p6, -, hgk⟩ := hok.q (hall 7 (by decide))
    rw [if_pos (hall 8 (by decide))] at hgb
    rw [if_pos (hall 9 (by decide))] at hgk
    have HB : Hid (Below w.heap.size w w3) := bA.out.trans (hok.b.mono bA.out.size)
    have HL : Hid (LatAt w3 c s xx gk gb w.heap.size) := ⟨hgk, hgb, GW.out _ hok.b, CW.out _ hok.b⟩
    obtain ⟨tm, df⟩ := a'
    obtain rfl : df = _ := hdf
    simp only [List.foldl_cons, List.foldl_nil] at HF3
    clear hkt hR hsz hok hall hgb hgk
    replace p5 : tm.getD 5 undef = _ := p5
    rw [p5] at HF3
    clear p5
    replace p6 : tm.getD 6 undef = _ := p6
    rw [p6] at HF3
    clear p6
    generalize tm.getD 7 undef = y7 at HF3
    generalize tm.getD 8 undef = y8 at HF3
    generalize tm.getD 9 undef = y9 at HF3
    generalize tm.getD 10 undef = y10 at HF3
    generalize tm.getD 11 undef = y11 at HF3
    generalize tm.getD 12 undef = y12 at HF3
    simp only [List.setIfInBounds_toArray, List.set_cons_succ, List.set_cons_zero] at HF3
    subst HF3
    go_wp2
    go_ret
    exact ⟨⟨gk, gb, _, rfl, HL.out⟩, HB.out⟩
end Go.Proofs.Ytbgcoeejmnejdaa.Unr
namespace Go.Proofs.Ytbgcoeejmnejdaa.Unr
open Go.ChangeShapes Go.WideShapes Go.ChangeAt Go.RowKit Go.Maps Circ Cw Str Sim Rep Cla Tse

set_option maxHeartbeats 16000000 in
set_option maxRecDepth 100000 in
theorem latches1_any (c : Cir) (s : Places) (b : Int) (bk bb bc : Nat) (l : Int) (w : World) (hl : I64 l) (h : LatAt w c s b bk bb bc) (hr : refOk c = true) (hf : CFits c s) :
    Calls Try.prog 119 #[.int .i64 l, .pointer (some ⟨bk, 0, none⟩), .pointer (some ⟨bb, 0, none⟩), .pointer (some ⟨bc, 0, none⟩)] w fun e w' => e = .returned (.int .i64 (latK c b l)) ∧ Below w.heap.size w w' := by
  obtain ⟨-, hn, -, -, -, -⟩ := ref_sizes hr
  obtain ⟨-, -, c2, -, -, -, -, -⟩ := cells8 h.hc
  have ck : w.cell? ⟨bk, 0, none⟩ = some (.int .i64 (c.lats.length : Int)) := by simp [World.cell?, h.hk]
  have cb : w.cell? ⟨bb, 0, none⟩ = some (.int .i64 b) := by simp [World.cell?, h.hb]
  by_cases h1 : 1 ≤ l ∧ l ≤ (c.lats.length : Int)
  · obtain ⟨j, rfl⟩ : ∃ j : Nat, l = (j : Int) + 1 := ⟨(l - 1).toNat, by omega⟩
    have hE : latK c b ((j : Int) + 1) = litT b (c.lats[j]'(by omega)).a := by
      unfold latK
      rw [if_pos h1, show ((j : Int) + 1 - 1).toNat = j by omega, getD_lat (by omega)]
    rw [hE]
    clear hE
    have hj : j < c.lats.length := by omega
    obtain ⟨b0, o, hA, -, d0, d1, d2⟩ := LRow.tri h.hl.lats hj
    have LX := Lib.hid (fun w => plit_any b c.lats[j].a w (hf.lats _ (List.getElem_mem hj)).1)
    have hy := lit_fits b c.lats[j].a
    rw [hA] at c2
    clear h hf hA
    generalize litT b c.lats[j].a = y at *
    generalize c.lats[j] = t at *
    generalize c.lats.length = n at *
    have KV := Lib.hid (fun (u : Wd w.heap.size w) => Calls.in_wd u (LX.out u.w) (Nat.le_refl _))
    have u0 := Wd.cell ck
    have u1 := Wd.cell cb
    have u2 := Wd.cell c2
    have u3 := Wd.cell d0
    clear LX 
    go_enter Try.func119, Try.ntmps119
    go_wp2
    refine wp_region_wd (by kernel_rfl) (by kernel_rfl) ?_
    repeat (first | go_big_quiet_skip | (go_big_quiet_want; go_big_quiet_op; first | go_big_quiet_on | (apply Exists.intro; refine ⟨fun u => ?_, ?_⟩; (first | (go_at_call 120; with_reducible exact KV.out u)); go_big_quiet_on)))
    refine wpQuiet_nil ?_
    intro w5 hw'
    obtain ⟨⟨_, hb9⟩, hw''⟩ := hw'
    subst hw''
    have B5 := Lib.hid hb9
    clear hb9 KV u0 u1 u2 u3
    go_wp2
    go_ret
    exact ⟨by go_num, B5.out⟩
  · by_cases h2 : -(c.lats.length : Int) ≤ l ∧ l ≤ -1
    · obtain ⟨j, rfl⟩ : ∃ j : Nat, l = -((j : Int) + 1) := ⟨(-l - 1).toNat, by omega⟩
      have hE : latK c b (-((j : Int) + 1)) = -litT b (c.lats[j]'(by omega)).a := by
        unfold latK
        rw [if_neg h1, if_pos h2, show (- -((j : Int) + 1) - 1).toNat = j by omega, getD_lat (by omega)]
      rw [hE]
      clear hE
      have hj : j < c.lats.length := by omega
      obtain ⟨b0, o, hA, -, d0, d1, d2⟩ := LRow.tri h.hl.lats hj
      have LX := Lib.hid (fun w => plit_any b c.lats[j].a w (hf.lats _ (List.getElem_mem hj)).1)
      have hy := lit_fits b c.lats[j].a
      rw [hA] at c2
      clear h hf hA
      have k1 : ¬ (1 : Int) ≤ -((j : Int) + 1) := by omega
      have k3 : -(c.lats.length : Int) ≤ -((j : Int) + 1) := h2.1
      have k4 : -((j : Int) + 1) ≤ -1 := h2.2
      generalize litT b c.lats[j].a = y at *
      generalize c.lats[j] = t at *
      generalize c.lats.length = n at *
      have KV := Lib.hid (fun (u : Wd w.heap.size w) => Calls.in_wd u (LX.out u.w) (Nat.le_refl _))
      have u0 := Wd.cell ck
      have u1 := Wd.cell cb
      have u2 := Wd.cell c2
      have u3 := Wd.cell d0
      clear LX h1 h2 cb c2 d0 d1 d2
      go_enter Try.func119, Try.ntmps119
      go_wp2
      refine wp_region_wd (by kernel_rfl) (by kernel_rfl) ?_
      repeat (first | go_big_quiet_skip | (go_big_quiet_want; go_big_quiet_op; first | go_big_quiet_on | (apply Exists.intro; refine ⟨fun u => ?_, ?_⟩; (first | (go_at_call 120; with_reducible exact KV.out u)); go_big_quiet_on)))
      refine wpQuiet_nil ?_
      intro w5 hw'
      obtain ⟨⟨_, hb9⟩, hw''⟩ := hw'
      subst hw''
      have B5 := Lib.hid hb9
      clear hb9 KV u0 u1 u2 u3
      go_wp2
      go_ret
      exact ⟨by go_num, B5.out⟩
    · have hE : latK c b l = 0 := by unfold latK; rw [if_neg h1, if_neg h2]
      rw [hE]
      have h64 := hl
      unfold I64 at h64
      clear h hf hE hl c2 cb
      generalize c.lats.length = n at *
      by_cases k1 : 1 ≤ l
      · have k2 : ¬ l ≤ (n : Int) := by omega
        have k3 : -(n : Int) ≤ l := by omega
        have k4 : ¬ l ≤ -1 := by omega
        go_enter Try.func119, Try.ntmps119
        go_wp2
        go_ret
        exact ⟨rfl, Below.refl _ _⟩
      · by_cases k3 : -(n : Int) ≤ l
        · have k4 : ¬ l ≤ -1 := by omega
          go_enter Try.func119, Try.ntmps119
          go_wp2
          go_ret
          exact ⟨rfl, Below.refl _ _⟩
        · go_enter Try.func119, Try.ntmps119
          go_wp2
          go_ret
          exact ⟨rfl, Below.refl _ _⟩
set_option maxHeartbeats 8000000 in
set_option maxRecDepth 100000 in
theorem each_lat (c : Cir) (s : Places) (hr : refOk c = true) (hf : CFits c s) (b : Int) (bk bb bc : Nat) (l : List Int) (A : Option Addr) (q : Nat) (w : World) (hl : ILies w w.heap.size A l) (hbx : LatAt w c s b bk bb bc) (hn : l.length * 8 ≤ 140737488355328) :
    Calls Try.prog 81 #[.slice A l.length q, latV bk bb bc] w fun e w' => (∃ A' q', e = .returned (.slice A' (l.map (latK c b)).length q') ∧ Mz w' ⟨l.map (latK c b), A', q'⟩) ∧ Below w.heap.size w w' := by
  have HL := Lib.hid hl
  have HBX := Lib.hid hbx
  have HN := Lib.hid hn
  have hll := hl.len
  have hmk := make_list l.length hn
  have O0 := Lib.hid (made_list l.length hn w)
  obtain ⟨wm, hwm⟩ : ∃ x, w.alloc (.cells (madeCells #[.int .i64 0] l.length) 3) = x := ⟨_, rfl⟩
  have BM : Hid (Below w.heap.size w wm) := by unfold Hid; rw [← hwm]; exact (Below.refl _ _).alloc (Nat.le_refl _) _
  rw [hwm] at O0
  have HWM := Lib.hid hwm
  clear hl hbx hn hwm
  unfold latV
  go_enter Try.func81, Try.ntmps81
  go_wp2
  rw [HWM.out]
  clear hmk
  go_loopw [5, 13] (fun v i wr => ∃ (k : Nat) (vv : Value), k ≤ l.length ∧ i = .int .i64 k ∧ vv = v ∧ OwnC wr w.heap.size 3 1 vv (ints ((l.map (latK c b)).take k)) ∧ Below w.heap.size w wr) (fun _ i _ => l.length - (intOf i).toNat)
  case atStart => exact ⟨0, _, Nat.zero_le _, rfl, rfl, O0.out, BM.out⟩
  case round =>
    clear O0 BM HWM
    obtain ⟨k, v1, hk, rfl, rfl, how, hb⟩ := hrel
    have HO := Lib.hid how
    have HB := Lib.hid hb
    clear how hb
    by_cases hlt : k < l.length
    · obtain ⟨b0, o, rfl, -, hc⟩ := LRow.int (HL.out.below HB.out).row hlt
      have LX := Lib.hid (latches1_any c s b bk bb bc l[k] wr (HL.out.fits _ (List.getElem_mem hlt)) (HBX.out.below HB.out) hr hf)
      have HTN : Hid (ints ((l.map (latK c b)).take (k + 1)) = ints ((l.map (latK c b)).take k) ++ [[.int .i64 (latK c b l[k])]]) := by
        unfold Hid
        rw [List.take_succ_eq_append_getElem (by simpa using hlt), List.getElem_map]
        simp [ints]
      have HLN : Hid ((ints ((l.map (latK c b)).take k)).length = k) := by unfold Hid; simp [ints]; omega
      generalize latK c b l[k] = y at *
      generalize l[k] = x at *
      go_wp2_with fail
      refine LX.out.mono ?_
      rintro e w2 ⟨rfl, hb2⟩
      have O2 := Lib.hid (HO.out.keep hb2)
      have B2 := Lib.hid (HB.out.trans (hb2.mono HB.out.size))
      clear hb2 LX hc
      have hal : Below w2.heap.size w2 (w2.alloc (.cells #[.int .i64 y] 3)) := (Below.refl _ _).alloc (Nat.le_refl _) _
      have O6 := Lib.hid (O2.out.keep hal)
      have B6 : Hid (Below w.heap.size w (w2.alloc (.cells #[.int .i64 y] 3))) := B2.out.trans (hal.mono B2.out.size)
      have HC : Hid (∀ (i : Nat) u, [Value.int .i64 y][i]? = some u → (w2.alloc (.cells #[.int .i64 y] 3)).cell? ⟨w2.heap.size, i, none⟩ = some u) := fun i u hu => by
        rw [Lib.cell_of_heap (show (w2.alloc (.cells #[.int .i64 y] 3)).heap[w2.heap.size]? = some (.cells #[.int .i64 y] 3 (0, 0)) from Array.getElem?_push_size)]; simpa using hu
      have HONE : Hid (∀ u ∈ [Value.int .i64 y], u.oneCell' = true) := fun u hu => by
        simp only [List.mem_singleton] at hu
        subst hu; rfl
      clear hal
      go_wp2_with (at_builtin; refine wpList_push _ rfl (.tmp 17) (.tmp 21) 22 rfl 3 1 8 (.int .i64 0) Try.underlying22 int_info rfl (by decide) w.heap.size v1 _ O6.out rfl w2.heap.size 1 rfl [.int .i64 y] HC.out rfl HONE.out (by have h1 := HLN.out; have h3 := HN.out; omega) (by have h1 := HLN.out; have h3 := HN.out; omega) B6.out.size ?_)
      intro v2 w6 hown hbel _
      have HO7 : Hid (OwnC w6 w.heap.size 3 1 v2 (ints ((l.map (latK c b)).take (k + 1)))) := by unfold Hid; rw [HTN.out]; exact hown
      have B7 : Hid (Below w.heap.size w w6) := B6.out.trans hbel
      clear hown hbel O6 B6 HC HONE O2 B2 HTN HLN HO HB
      go_wp2
      go_roundw
      case rel => exact ⟨k + 1, _, by omega, by go_num, rfl, HO7.out, B7.out⟩
      case measure => simp [intOf]; omega
    · obtain rfl : k = l.length := by omega
      have HE : Hid (OwnC wr w.heap.size 3 1 v1 (ints (l.map (latK c b)))) := by have := HO.out; rwa [List.take_of_length_le (by simp)] at this
      obtain ⟨A', q', hv, hz⟩ := own_mz HE.out (fun x hx => by obtain ⟨y, _, rfl⟩ := List.mem_map.1 hx; exact latK_i64 c b y)
      have HV := Lib.hid hv
      have HZ := Lib.hid hz
      clear hv hz HE HO
      go_wp2
      go_ret
      exact ⟨⟨A', q', by rw [← HV.out]; rfl, HZ.out⟩, HB.out⟩
set_option maxHeartbeats 4000000 in
set_option maxRecDepth 100000 in
theorem clause_any (b : Int) (l : List Int) (A : Option Addr) (q : Nat) (w : World) (hl : ILies w w.heap.size A l) (hn : l.length * 8 ≤ 140737488355328) :
    Calls Try.prog 79 #[.int .i64 b, .slice A l.length q] w fun e w' => (∃ A' q', e = .returned (.slice A' (l.map (litT b)).length q') ∧ Mz w' ⟨l.map (litT b), A', q'⟩) ∧ Below w.heap.size w w' := by
  have FA := Lib.hid (from_any b w)
  have EA := Lib.hid (fun bx x (hx : Below w.heap.size w x) hbx => each_any b bx l A q x ((hl.below hx).more hx.size) hbx hn)
  clear hl hn
  unfold litV at FA EA
  generalize l.map (litT b) = ys at *
  go_enter Try.func79, Try.ntmps79
  go_wp2_with fail
  refine FA.out.mono ?_
  rintro e w1 ⟨⟨bx, rfl, -, h1⟩, hb⟩
  have HB := Lib.hid hb
  have E1 := Lib.hid (EA.out bx w1 hb h1)
  clear h1 hb EA FA
  go_wp2_with fail
  refine E1.out.mono ?_
  rintro e w2 ⟨⟨A', q', rfl, hz⟩, hb2⟩
  have HB2 := Lib.hid (HB.out.trans (hb2.mono HB.out.size))
  have HZ := Lib.hid hz
  clear hz hb2 E1
  go_wp2
  go_ret
  exact ⟨⟨A', q', rfl, HZ.out⟩, HB2.out⟩
end Go.Proofs.Ytbgcoeejmnejdaa.Unr
namespace Go.Proofs.Ytbgcoeejmnejdaa.Unr
open Go.ChangeShapes Go.WideShapes Go.ChangeAt Go.RowKit Go.Maps Circ Cw Str Sim Rep Cla Tse

theorem ints_one (w : World) (f : Int) (hf : I64 f) : ILies (w.alloc (.cells #[.int .i64 f] 3)) (w.alloc (.cells #[.int .i64 f] 3)).heap.size (some ⟨w.heap.size, 0, none⟩) [f] := clz_lies (mz_one w f hf).lies
theorem ints_two (w : World) (f g : Int) (hf : I64 f) (hg : I64 g) : ILies (w.alloc (.cells #[.int .i64 f, .int .i64 g] 3)) (w.alloc (.cells #[.int .i64 f, .int .i64 g] 3)).heap.size (some ⟨w.heap.size, 0, none⟩) [f, g] := clz_lies (mz_two w f g hf hg).lies
theorem ints_none (w : World) : ILies w w.heap.size none [] := ⟨.inl rfl, fun _ h => (List.not_mem_nil h).elim, by decide⟩
theorem may_nil (c : Cir) : mayM c [] = refOk c := by unfold mayM; simp
theorem may_two (c : Cir) (f g : Int) (hf : 0 ≤ f ∧ f ≤ 80) (hg : 0 ≤ g ∧ g ≤ 80) : mayM c [f, g] = refOk c := by
  unfold mayM notF
  simp only [List.any_cons, List.any_nil, Bool.or_false]
  rw [decide_eq_false (show ¬ f < 0 by omega), decide_eq_false (show ¬ 80 < f by omega), decide_eq_false (show ¬ g < 0 by omega), decide_eq_false (show ¬ 80 < g by omega)]
  rfl
theorem right_parts {c : Cir} {f : Int} (h : rightM c f = true) : refOk c = true ∧ 0 ≤ f ∧ f ≤ 80 := by
  unfold rightM at h
  simp only [Bool.and_eq_true, decide_eq_true_eq] at h
  exact ⟨h.2.2, h.1, h.2.1⟩
set_option maxHeartbeats 16000000 in
set_option maxRecDepth 100000 in
theorem base_any (c : Cir) (s : Places) (f : Int) (w : World) (h : CLies w w.heap.size c s) (hf : CFits c s) (h64 : I64 f) :
    Calls Try.prog 74 #[cirV c s, .int .i64 f] w fun e w' => e = .returned (.int .i64 (baseM c f)) ∧ Below w.heap.size w w' := by
  obtain ⟨WA, hWA⟩ : ∃ x, w.alloc (.cells #[.int .i64 c.max, .slice s.ai c.ins.length s.ki, .slice s.al c.lats.length s.kl, .slice s.ao c.outs.length s.ko, .slice s.ab c.bads.length s.kb, .slice s.ac c.invs.length s.kc, .slice s.aa c.ands.length s.ka, .slice s.an c.names.length s.kn] 27) = x := ⟨_, rfl⟩
  have bA : Hid (Below w.heap.size w WA) := by unfold Hid; rw [← hWA]; exact (Below.refl _ _).alloc (Nat.le_refl _) _
  have GA : Hid (WA.heap[w.heap.size]? = some (.cells (cirC c s) 27 (0, 0))) := by unfold Hid; rw [← hWA]; exact Array.getElem?_push_size
  have GW : Hid (∀ x, Below WA.heap.size WA x → x.heap[w.heap.size]? = some (.cells (cirC c s) 27 (0, 0))) := fun x hx => (hx.block _ (lt_of_block GA.out)).trans GA.out
  have CW : Hid (∀ x, Below WA.heap.size WA x → CLies x x.heap.size c s) := fun x hx => by
    have h1 := bA.out.trans (hx.mono bA.out.size)
    exact (h.below h1).more h1.size
  obtain ⟨WB, hWB⟩ : ∃ x, WA.alloc (.cells #[.int .i64 f] 3) = x := ⟨_, rfl⟩
  have bB : Hid (Below WA.heap.size WA WB) := by unfold Hid; rw [← hWB]; exact (Below.refl _ _).alloc (Nat.le_refl _) _
  have IL := ints_one WA f h64
  rw [hWB] at IL
  have MY := Lib.hid (may_any c s [f] _ 1 WB (CW.out _ bB.out) hf IL)
  rw [may_right, show [f].length = 1 from rfl] at MY
  obtain ⟨e0, e1, e2, e3, e4, e5, e6, e7⟩ := cells8 GA.out
  clear IL
  cases hr : rightM c f with
  | false =>
    have HE : baseM c f = 0 := by unfold baseM; rw [hr]; rfl
    rw [HE]
    rw [hr] at MY
    clear h hf HE hr
    unfold cirV at MY ⊢
    rw [show cirC c s = #[.int .i64 c.max, .slice s.ai c.ins.length s.ki, .slice s.al c.lats.length s.kl, .slice s.ao c.outs.length s.ko, .slice s.ab c.bads.length s.kb, .slice s.ac c.invs.length s.kc, .slice s.aa c.ands.length s.ka, .slice s.an c.names.length s.kn] from rfl] at MY ⊢
    go_enter Try.func74, Try.ntmps74
    go_wp2_with fail
    refine MY.out.mono ?_
    rintro e w1 ⟨rfl, hb⟩
    have B1 : Hid (Below w.heap.size w w1) := bA.out.trans ((bB.out.trans (hb.mono bB.out.size)).mono bA.out.size)
    clear hb MY hWA hWB e0 e1 e2 e3 e4 e5 e6 e7
    go_wp2
    go_ret
    exact ⟨rfl, B1.out⟩
  | true =>
    obtain ⟨hok, hf0, hf1⟩ := right_parts hr
    have HE : baseM c f = f * (c.max + 1) := by unfold baseM; rw [hr]; rfl
    rw [HE]
    have AH := Lib.hid (fun x => ahead_any c s f x (max_small hok) ⟨hf0, by omega⟩)
    rw [hr] at MY
    generalize f * (c.max + 1) = y at *
    clear h hf HE hr hok
    unfold cirV at MY AH ⊢
    rw [show cirC c s = #[.int .i64 c.max, .slice s.ai c.ins.length s.ki, .slice s.al c.lats.length s.kl, .slice s.ao c.outs.length s.ko, .slice s.ab c.bads.length s.kb, .slice s.ac c.invs.length s.kc, .slice s.aa c.ands.length s.ka, .slice s.an c.names.length s.kn] from rfl] at MY AH ⊢
    go_enter Try.func74, Try.ntmps74
    go_wp2_with fail
    refine MY.out.mono ?_
    rintro e w1 ⟨rfl, hb⟩
    have B1 : Hid (Below WA.heap.size WA w1) := bB.out.trans (hb.mono bB.out.size)
    clear hb MY hWA hWB e0 e1 e2 e3 e4 e5 e6 e7
    obtain ⟨e0, e1, e2, e3, e4, e5, e6, e7⟩ := cells8 (GW.out _ B1.out)
    go_wp2_with fail
    refine (AH.out w1).mono ?_
    rintro e w2 ⟨rfl, hb⟩
    have B2 : Hid (Below w.heap.size w w2) := bA.out.trans ((B1.out.trans (hb.mono B1.out.size)).mono bA.out.size)
    clear hb AH e0 e1 e2 e3 e4 e5 e6 e7
    go_wp2
    go_ret
    exact ⟨rfl, B2.out⟩
set_option maxHeartbeats 16000000 in
set_option maxRecDepth 100000 in
theorem first_no (c : Cir) (s : Places) (w : World) (h : CLies w w.heap.size c s) (hf : CFits c s) (hr : refOk c = false) :
    Calls Try.prog 42 #[cirV c s] w fun e w' => e = .returned (.slice none 0 0) ∧ Below w.heap.size w w' := by
  obtain ⟨WA, hWA⟩ : ∃ x, w.alloc (.cells #[.int .i64 c.max, .slice s.ai c.ins.length s.ki, .slice s.al c.lats.length s.kl, .slice s.ao c.outs.length s.ko, .slice s.ab c.bads.length s.kb, .slice s.ac c.invs.length s.kc, .slice s.aa c.ands.length s.ka, .slice s.an c.names.length s.kn] 27) = x := ⟨_, rfl⟩
  have bA : Hid (Below w.heap.size w WA) := by unfold Hid; rw [← hWA]; exact (Below.refl _ _).alloc (Nat.le_refl _) _
  have GA : Hid (WA.heap[w.heap.size]? = some (.cells (cirC c s) 27 (0, 0))) := by unfold Hid; rw [← hWA]; exact Array.getElem?_push_size
  have GW : Hid (∀ x, Below WA.heap.size WA x → x.heap[w.heap.size]? = some (.cells (cirC c s) 27 (0, 0))) := fun x hx => (hx.block _ (lt_of_block GA.out)).trans GA.out
  have CW : Hid (∀ x, Below WA.heap.size WA x → CLies x x.heap.size c s) := fun x hx => by
    have h1 := bA.out.trans (hx.mono bA.out.size)
    exact (h.below h1).more h1.size
  have MY := Lib.hid (may_any c s [] none 0 WA (CW.out _ (Below.refl _ _)) hf (ints_none WA))
  rw [may_nil, hr, show ([] : List Int).length = 0 from rfl] at MY
  obtain ⟨e0, e1, e2, e3, e4, e5, e6, e7⟩ := cells8 GA.out
  clear h hf hr
  unfold cirV at MY ⊢
  rw [show cirC c s = #[.int .i64 c.max, .slice s.ai c.ins.length s.ki, .slice s.al c.lats.length s.kl, .slice s.ao c.outs.length s.ko, .slice s.ab c.bads.length s.kb, .slice s.ac c.invs.length s.kc, .slice s.aa c.ands.length s.ka, .slice s.an c.names.length s.kn] from rfl] at MY ⊢
  go_enter Try.func42, Try.ntmps42
  go_wp2_with fail
  refine MY.out.mono ?_
  rintro e w1 ⟨rfl, hb⟩
  have B1 : Hid (Below w.heap.size w w1) := bA.out.trans (hb.mono bA.out.size)
  clear hb MY hWA e0 e1 e2 e3 e4 e5 e6 e7
  go_wp2
  go_ret
  exact ⟨rfl, B1.out⟩
set_option maxHeartbeats 16000000 in
set_option maxRecDepth 100000 in
theorem first_yes (c : Cir) (s : Places) (w : World) (h : CLies w w.heap.size c s) (hf : CFits c s) (hr : refOk c = true) :
    Calls Try.prog 42 #[cirV c s] w fun e w' => (∃ K A' q', e = .returned (.slice A' K.length q') ∧ ALies w' w'.heap.size A' K ∧ K.map Clz.l = c.lats.flatMap firstL) ∧ Below w.heap.size w w' := by
  obtain ⟨WA, hWA⟩ : ∃ x, w.alloc (.cells #[.int .i64 c.max, .slice s.ai c.ins.length s.ki, .slice s.al c.lats.length s.kl, .slice s.ao c.outs.length s.ko, .slice s.ab c.bads.length s.kb, .slice s.ac c.invs.length s.kc, .slice s.aa c.ands.length s.ka, .slice s.an c.names.length s.kn] 27) = x := ⟨_, rfl⟩
  have bA : Hid (Below w.heap.size w WA) := by unfold Hid; rw [← hWA]; exact (Below.refl _ _).alloc (Nat.le_refl _) _
  have GA : Hid (WA.heap[w.heap.size]? = some (.cells (cirC c s) 27 (0, 0))) := by unfold Hid; rw [← hWA]; exact Array.getElem?_push_size
  have GW : Hid (∀ x, Below WA.heap.size WA x → x.heap[w.heap.size]? = some (.cells (cirC c s) 27 (0, 0))) := fun x hx => (hx.block _ (lt_of_block GA.out)).trans GA.out
  have CW : Hid (∀ x, Below WA.heap.size WA x → CLies x x.heap.size c s) := fun x hx => by
    have h1 := bA.out.trans (hx.mono bA.out.size)
    exact (h.below h1).more h1.size
  have MY := Lib.hid (may_any c s [] none 0 WA (CW.out _ (Below.refl _ _)) hf (ints_none WA))
  rw [may_nil, hr, show ([] : List Int).length = 0 from rfl] at MY
  obtain ⟨e0, e1, e2, e3, e4, e5, e6, e7⟩ := cells8 GA.out
  have LA := Lib.hid (fun x (hx : Below WA.heap.size WA x) => latches_any c s 0 x (CW.out x hx) hr (by decide))
  rw [Int.zero_mul] at LA
  have HR := Lib.hid hr
  have HF := Lib.hid hf
  have HZ := Lib.hid (ref_sizes hr)
  have HMX := Lib.hid (max_small hr)
  clear h hf hr
  unfold cirV at MY LA ⊢
  rw [show cirC c s = #[.int .i64 c.max, .slice s.ai c.ins.length s.ki, .slice s.al c.lats.length s.kl, .slice s.ao c.outs.length s.ko, .slice s.ab c.bads.length s.kb, .slice s.ac c.invs.length s.kc, .slice s.aa c.ands.length s.ka, .slice s.an c.names.length s.kn] from rfl] at MY LA ⊢
  unfold latV at LA
  go_enter Try.func42, Try.ntmps42
  go_wp2_with fail
  refine MY.out.mono ?_
  rintro e w1 ⟨rfl, hb⟩
  have B1 := Lib.hid hb
  clear hb MY hWA e0 e1 e2 e3 e4 e5 e6 e7
  obtain ⟨e0, e1, e2, e3, e4, e5, e6, e7⟩ := cells8 (GW.out _ B1.out)
  have LA1 := Lib.hid (LA.out w1 B1.out)
  go_wp2_with fail
  refine LA1.out.mono ?_
  rintro e w3 ⟨⟨bk, bb, bc, rfl, hlt⟩, hb⟩
  have LT := Lib.hid hlt
  have B3 : Hid (Below WA.heap.size WA w3) := B1.out.trans (hb.mono B1.out.size)
  have BW3 : Hid (Below w.heap.size w w3) := bA.out.trans (B3.out.mono bA.out.size)
  clear hb hlt LA LA1 e0 e1 e2 e3 e4 e5 e6 e7
  obtain ⟨e0, e1, e2, e3, e4, e5, e6, e7⟩ := cells8 (GW.out _ B3.out)
  go_wp2
  clear e0 e1 e2 e3 e4 e5 e6 e7
  go_loopw [3, 15] (fun v i wr => ∃ (k : Nat) (vv : Value) (K : List Clz), k ≤ c.lats.length ∧ i = .int .i64 k ∧ vv = v ∧ Mk wr w3.heap.size vv K ∧ K.map Clz.l = (c.lats.take k).flatMap firstL ∧ K.length ≤ k ∧ Below w3.heap.size w3 wr) (fun _ i _ => c.lats.length - (intOf i).toNat)
  case atStart => exact ⟨0, _, [], Nat.zero_le _, rfl, rfl, Mk.nil _ _, rfl, Nat.le_refl _, Below.refl _ _⟩
  case round =>
    obtain ⟨k, v1, K, hk, rfl, rfl, hmk, hkl, hkn, hb⟩ := hrel
    have MK := Lib.hid hmk
    have HKF := Lib.hid hkl
    have HKL := Lib.hid hkn
    have BK := Lib.hid hb
    clear hmk hkl hkn hb
    have zi : c.lats.length ≤ 64 := HZ.out.2.1
    by_cases hlt : k < c.lats.length
    · obtain ⟨b0, o, hA, -, c0, c1, c2⟩ := LRow.tri (CW.out wr (B3.out.trans (BK.out.mono B3.out.size))).lats hlt
      have HNX : Hid ((c.lats.take (k + 1)).flatMap firstL = (c.lats.take k).flatMap firstL ++ firstL c.lats[k]) := by
        unfold Hid
        rw [List.take_succ_eq_append_getElem hlt, List.flatMap_append]; simp
      have HLO := Lib.hid (lat_own HR.out hlt)
      have HLT : Hid (litT 0 c.lats[k].a = c.lats[k].a / 2 + 1) := by
        have h1 := HLO.out
        have h2 := HMX.out
        unfold Hid
        rw [lit_own (by decide) (by decide) h1.1 h1.2.1 (by omega)]
        omega
      have HPOS : Hid (latK c 0 ((k : Int) + 1) = litT 0 c.lats[k].a) := by
        unfold Hid latK
        rw [if_pos (by omega), show ((k : Int) + 1 - 1).toNat = k by omega, getD_lat hlt]
      have HNEG : Hid (latK c 0 (-(k : Int) - 1) = -litT 0 c.lats[k].a) := by
        unfold Hid latK
        rw [if_neg (by omega), if_pos (by omega), show (-(-(k : Int) - 1) - 1).toNat = k by omega, getD_lat hlt]
      rw [HLT.out] at HPOS HNEG
      have HLB : Hid (I64 (c.lats[k].a / 2 + 1) ∧ I64 (-(c.lats[k].a / 2 + 1))) := by
        have h1 := HLO.out
        have h2 := HMX.out
        unfold Hid I64; omega
      rw [hA]
      clear hA HLT HLO
      generalize c.lats[k] = t at *
      obtain ⟨wt, hwt⟩ : ∃ x, wr.alloc (.cells #[.int .i64 t.a, .int .i64 t.b, .int .i64 t.c] 39) = x := ⟨_, rfl⟩
      have bt : Below wr.heap.size wr wt := by rw [← hwt]; exact (Below.refl _ _).alloc (Nat.le_refl _) _
      have KT : Hid (wt.heap[wr.heap.size]? = some (.cells #[.int .i64 t.a, .int .i64 t.b, .int .i64 t.c] 39 (0, 0))) := by unfold Hid; rw [← hwt]; exact Array.getElem?_push_size
      have MT := Lib.hid (MK.out.below bt)
      have BT : Hid (Below w3.heap.size w3 wt) := BK.out.trans (bt.mono BK.out.size)
      obtain ⟨r0, r1, r2⟩ := Tse.two_cells KT.out
      clear bt
      by_cases h0 : t.c = 0
      · have HN2 : Hid (K.map Clz.l ++ [[-(t.a / 2 + 1)]] = (c.lats.take (k + 1)).flatMap firstL) := by unfold Hid; rw [HNX.out, HKF.out]; unfold firstL; rw [if_pos h0]
        have HY := Lib.hid HLB.out.2
        clear HNX HPOS HLB
        have k0 : (t.c == 0) = true := by rw [beq_iff_eq]; exact h0
        clear h0
        have L1 := Lib.hid (latches1_any c s 0 bk bb bc (-(k : Int) - 1) wt (by unfold I64; omega) (LT.out.below BT.out) HR.out HF.out)
        rw [HNEG.out] at L1
        generalize -(t.a / 2 + 1) = y at *
        clear HNEG
        go_wp2_with fail
        refine L1.out.mono ?_
        rintro e w2 ⟨rfl, hb2⟩
        have MK2 := Lib.hid (MT.out.below hb2)
        have B2 := Lib.hid (BT.out.trans (hb2.mono BT.out.size))
        clear hb2 L1 MK MT r0 r1 r2
        obtain ⟨V1, V2, hV1, hV2, bV, mV, cV, lV⟩ := one_made w2 y HY.out
        have MV := Lib.hid mV
        have BV := Lib.hid bV
        have CV := Lib.hid cV
        have LV := Lib.hid lV
        have O2 := Lib.hid (MK2.out.below bV)
        have HONE : Hid (∀ u ∈ [Value.slice (some ⟨w2.heap.size, 0, none⟩) 1 1], u.oneCell' = true) := fun u hu => by
          simp only [List.mem_singleton] at hu
          subst hu; rfl
        clear mV bV cV lV
        go_wp2_with (at_builtin; refine wpList_push_far _ rfl (.tmp 24) (.tmp 31) 58 rfl 22 1 24 (.slice none 0 0) Try.underlying58 row_info rfl (by decide) w3.heap.size v1 _ O2.out.own rfl V1.heap.size 1 rfl [.slice (some ⟨w2.heap.size, 0, none⟩) 1 1] CV.out rfl HONE.out (by have h1 := HKL.out; rw [List.length_map]; omega) (by have h1 := HKL.out; rw [List.length_map]; omega) (Nat.le_trans B2.out.size BV.out.size) ?_)
        intro v2 w6 hown hbel hkeep
        have MK6 : Hid (Mk w6 w3.heap.size v2 (K ++ [(⟨[y], some ⟨w2.heap.size, 0, none⟩, 1⟩ : Clz)])) := O2.out.push MV.out hown hkeep
        have B6 : Hid (Below w3.heap.size w3 w6) := (B2.out.trans (BV.out.mono B2.out.size)).trans hbel
        clear hown hbel hkeep hV1 hV2
        go_wp2
        go_roundw
        case rel => exact ⟨k + 1, _, _, by omega, by go_num, rfl, MK6.out, by rw [List.map_append]; exact HN2.out, by have := HKL.out; simp; omega, B6.out⟩
        case measure => simp [intOf]; omega
      · by_cases h1 : t.c = 1
        · have HN2 : Hid (K.map Clz.l ++ [[t.a / 2 + 1]] = (c.lats.take (k + 1)).flatMap firstL) := by unfold Hid; rw [HNX.out, HKF.out]; unfold firstL; rw [if_neg h0, if_pos h1]
          have HY := Lib.hid HLB.out.1
          clear HNX HNEG HLB
          have k0 : (t.c == 0) = false := by rw [beq_eq_false_iff_ne]; exact h0
          have k1 : (t.c == 1) = true := by rw [beq_iff_eq]; exact h1
          clear h0 h1
          have L1 := Lib.hid (latches1_any c s 0 bk bb bc ((k : Int) + 1) wt (by unfold I64; omega) (LT.out.below BT.out) HR.out HF.out)
          rw [HPOS.out] at L1
          generalize t.a / 2 + 1 = y at *
          clear HPOS
          go_wp2_with fail
          refine L1.out.mono ?_
          rintro e w2 ⟨rfl, hb2⟩
          have MK2 := Lib.hid (MT.out.below hb2)
          have B2 := Lib.hid (BT.out.trans (hb2.mono BT.out.size))
          clear hb2 L1 MK MT r0 r1 r2
          obtain ⟨V1, V2, hV1, hV2, bV, mV, cV, lV⟩ := one_made w2 y HY.out
          have MV := Lib.hid mV
          have BV := Lib.hid bV
          have CV := Lib.hid cV
          have LV := Lib.hid lV
          have O2 := Lib.hid (MK2.out.below bV)
          have HONE : Hid (∀ u ∈ [Value.slice (some ⟨w2.heap.size, 0, none⟩) 1 1], u.oneCell' = true) := fun u hu => by
            simp only [List.mem_singleton] at hu
            subst hu; rfl
          clear mV bV cV lV
          go_wp2_with (at_builtin; refine wpList_push_far _ rfl (.tmp 35) (.tmp 41) 58 rfl 22 1 24 (.slice none 0 0) Try.underlying58 row_info rfl (by decide) w3.heap.size v1 _ O2.out.own rfl V1.heap.size 1 rfl [.slice (some ⟨w2.heap.size, 0, none⟩) 1 1] CV.out rfl HONE.out (by have h1 := HKL.out; rw [List.length_map]; omega) (by have h1 := HKL.out; rw [List.length_map]; omega) (Nat.le_trans B2.out.size BV.out.size) ?_)
          intro v2 w6 hown hbel hkeep
          have MK6 : Hid (Mk w6 w3.heap.size v2 (K ++ [(⟨[y], some ⟨w2.heap.size, 0, none⟩, 1⟩ : Clz)])) := O2.out.push MV.out hown hkeep
          have B6 : Hid (Below w3.heap.size w3 w6) := (B2.out.trans (BV.out.mono B2.out.size)).trans hbel
          clear hown hbel hkeep hV1 hV2
          go_wp2
          go_roundw
          case rel => exact ⟨k + 1, _, _, by omega, by go_num, rfl, MK6.out, by rw [List.map_append]; exact HN2.out, by have := HKL.out; simp; omega, B6.out⟩
          case measure => simp [intOf]; omega
        · have HN2 : Hid (K.map Clz.l = (c.lats.take (k + 1)).flatMap firstL) := by unfold Hid; rw [HNX.out, HKF.out]; unfold firstL; rw [if_neg h0, if_neg h1, List.append_nil]
          have k0 : (t.c == 0) = false := by rw [beq_eq_false_iff_ne]; exact h0
          have k1 : (t.c == 1) = false := by rw [beq_eq_false_iff_ne]; exact h1
          clear HNX HNEG HLB HPOS
          go_wp2
          go_roundw
          case rel => exact ⟨k + 1, _, K, by omega, by go_num, rfl, MT.out, HN2.out, by have := HKL.out; omega, BT.out⟩
          case measure => simp [intOf]; omega
    · obtain rfl : k = c.lats.length := by omega
      have HE : Hid (K.map Clz.l = c.lats.flatMap firstL) := by unfold Hid; rw [HKF.out, List.take_length]
      obtain ⟨A', q', hv, hz⟩ := MK.out.lies
      have HV := Lib.hid hv
      have HL := Lib.hid hz
      have BE := Lib.hid (BW3.out.trans (BK.out.mono BW3.out.size))
      clear hv hz HKF
      go_wp2
      go_ret
      exact ⟨⟨K, A', q', by rw [← HV.out]; rfl, HL.out, HE.out⟩, BE.out⟩
theorem first_any (c : Cir) (s : Places) (w : World) (h : CLies w w.heap.size c s) (hf : CFits c s) :
    Calls Try.prog 42 #[cirV c s] w fun e w' => (∃ K A' q', e = .returned (.slice A' K.length q') ∧ ALies w' w'.heap.size A' K ∧ K.map Clz.l = firstM c) ∧ Below w.heap.size w w' := by
  cases hr : refOk c with
  | true =>
    have : firstM c = c.lats.flatMap firstL := by unfold firstM; rw [if_pos hr]
    rw [this]
    exact first_yes c s w h hf hr
  | false =>
    refine (first_no c s w h hf hr).mono ?_
    rintro e w' ⟨rfl, hb⟩
    exact ⟨⟨[], none, 0, rfl, ⟨.inl rfl, fun z hz => (List.not_mem_nil hz).elim, by decide⟩, by unfold firstM; rw [hr]; rfl⟩, hb⟩
end Go.Proofs.Ytbgcoeejmnejdaa.Unr
