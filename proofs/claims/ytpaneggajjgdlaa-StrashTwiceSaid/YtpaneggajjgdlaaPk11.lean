/- What hashed.add does, walked; no condition but that the numbers fit. -/
import Derived.Test.YtpaneggajjgdlaaPk10
namespace Go.Proofs.Ytpaneggajjgdlaa.Str
open Go.ChangeShapes Go.WideShapes Go.ChangeAt Go.RowKit Go.Maps Circ Cw

theorem op_field_strash_hashed_1 (a : Act) (w : World) (b : Nat) (t : Nat) (h : a.tmps.getD t undef = .pointer (some ⟨b, 0, none⟩)) (oo : Oper) (ho : oo.op = .fieldAddr 65 (.tmp t) 1) : (execOp a.eval oo).run Try.prog w = .ok (.value (.pointer (some ⟨b, 1, none⟩))) w := by
  have h' : a.tmps[t]?.getD undef = .pointer (some ⟨b, 0, none⟩) := by simpa using h
  unfold execOp
  rw [ho]
  go_simp
theorem op_load_map_strash_pair_int (a : Act) (w : World) (A : Addr) (t : Nat) (v : Value) (h : a.tmps.getD t undef = .pointer (some A)) (hc : w.cell? A = some v) (oo : Oper) (ho : oo.op = .load 63 (.tmp t)) : (execOp a.eval oo).run Try.prog w = .ok (.value v) w := by
  have h' : a.tmps[t]?.getD undef = .pointer (some A) := by simpa using h
  unfold execOp
  rw [ho]
  go_simp
/-- what operation j of the region leaves -/
def add4R (p m2 : Nat) (x y u : Int) (bb : Bool) : Nat → (Nat → Value) → World → Prop
  | 0, f, _ => f 29 = .pointer (some ⟨p, 0, none⟩)
  | 1, f, _ => f 30 = .pointer (some ⟨p, 0, none⟩)
  | 2, f, _ => f 31 = .pointer (some ⟨p, 1, none⟩)
  | 3, f, _ => f 32 = .map (some m2)
  | 4, f, _ => f 33 = pairV x y
  | 5, f, _ => f 34 = .tuple #[.int .i64 u, .bool bb]
  | 6, f, _ => f 28 = .tuple #[.int .i64 u, .bool bb]
  | 7, f, _ => f 35 = .int .i64 u
  | 8, f, _ => f 36 = .bool bb
  | 9, f, _ => f 5 = .int .i64 u
  | 10, f, _ => f 6 = .bool bb
  | _, _, _ => True
def add4M : Nat → List Nat
  | 0 => [29]
  | 1 => [30]
  | 2 => [31]
  | 3 => [32]
  | 4 => [33]
  | 5 => [34]
  | 6 => [28]
  | 7 => [35]
  | 8 => [36]
  | 9 => [5]
  | 10 => [6]
  | _ => []
theorem add4_stab {p m2 : Nat} {x y u : Int} {bb : Bool} (jj : Nat) {f f' : Nat → Value} {w w' : World}  (hf : ∀ t ∈ add4M jj, f' t = f t) (h : add4R p m2 x y u bb jj f w) : add4R p m2 x y u bb jj f' w' := by
  match jj, hf, h with
  | 0, hf, h => exact (hf 29 (by decide)).trans h
  | 1, hf, h => exact (hf 30 (by decide)).trans h
  | 2, hf, h => exact (hf 31 (by decide)).trans h
  | 3, hf, h => exact (hf 32 (by decide)).trans h
  | 4, hf, h => exact (hf 33 (by decide)).trans h
  | 5, hf, h => exact (hf 34 (by decide)).trans h
  | 6, hf, h => exact (hf 28 (by decide)).trans h
  | 7, hf, h => exact (hf 35 (by decide)).trans h
  | 8, hf, h => exact (hf 36 (by decide)).trans h
  | 9, hf, h => exact (hf 5 (by decide)).trans h
  | 10, hf, h => exact (hf 6 (by decide)).trans h
  | _ + 11, _, _ => trivial
theorem op_field_strash_hashed_0 (a : Act) (w : World) (b : Nat) (t : Nat) (h : a.tmps.getD t undef = .pointer (some ⟨b, 0, none⟩)) (oo : Oper) (ho : oo.op = .fieldAddr 65 (.tmp t) 0) : (execOp a.eval oo).run Try.prog w = .ok (.value (.pointer (some ⟨b, 0, none⟩))) w := by
  have h' : a.tmps[t]?.getD undef = .pointer (some ⟨b, 0, none⟩) := by simpa using h
  unfold execOp
  rw [ho]
  go_simp
theorem op_load_map_int_int (a : Act) (w : World) (A : Addr) (t : Nat) (v : Value) (h : a.tmps.getD t undef = .pointer (some A)) (hc : w.cell? A = some v) (oo : Oper) (ho : oo.op = .load 62 (.tmp t)) : (execOp a.eval oo).run Try.prog w = .ok (.value v) w := by
  have h' : a.tmps[t]?.getD undef = .pointer (some A) := by simpa using h
  unfold execOp
  rw [ho]
  go_simp
theorem op_field_api_And_0 (a : Act) (w : World) (b : Nat) (t : Nat) (h : a.tmps.getD t undef = .pointer (some ⟨b, 0, none⟩)) (oo : Oper) (ho : oo.op = .fieldAddr 43 (.tmp t) 0) : (execOp a.eval oo).run Try.prog w = .ok (.value (.pointer (some ⟨b, 0, none⟩))) w := by
  have h' : a.tmps[t]?.getD undef = .pointer (some ⟨b, 0, none⟩) := by simpa using h
  unfold execOp
  rw [ho]
  go_simp
theorem op_load_int (a : Act) (w : World) (A : Addr) (t : Nat) (v : Value) (h : a.tmps.getD t undef = .pointer (some A)) (hc : w.cell? A = some v) (oo : Oper) (ho : oo.op = .load 3 (.tmp t)) : (execOp a.eval oo).run Try.prog w = .ok (.value v) w := by
  have h' : a.tmps[t]?.getD undef = .pointer (some A) := by simpa using h
  unfold execOp
  rw [ho]
  go_simp
/-- what operation j of the region leaves -/
def add6R (p g3 m1 : Nat) (a s : Int) : Nat → (Nat → Value) → World → Prop
  | 0, f, _ => f 38 = .pointer (some ⟨p, 0, none⟩)
  | 1, f, _ => f 39 = .pointer (some ⟨p, 0, none⟩)
  | 2, f, _ => f 40 = .pointer (some ⟨p, 0, none⟩)
  | 3, f, _ => f 41 = .map (some m1)
  | 4, f, _ => f 42 = .pointer (some ⟨g3, 0, none⟩)
  | 5, f, _ => f 43 = .int .i64 a
  | 6, f, _ => f 44 = .int .i64 (cnt a / 2)
  | 7, f, _ => f 45 = .int .i64 s
  | 8, _, _ => True
  | _, _, _ => True
def add6M : Nat → List Nat
  | 0 => [38]
  | 1 => [39]
  | 2 => [40]
  | 3 => [41]
  | 4 => [42]
  | 5 => [43]
  | 6 => [44]
  | 7 => [45]
  | 8 => []
  | _ => []
theorem add6_stab {p g3 m1 : Nat} {a s : Int} (jj : Nat) {f f' : Nat → Value} {w w' : World}  (hf : ∀ t ∈ add6M jj, f' t = f t) (h : add6R p g3 m1 a s jj f w) : add6R p g3 m1 a s jj f' w' := by
  match jj, hf, h with
  | 0, hf, h => exact (hf 38 (by decide)).trans h
  | 1, hf, h => exact (hf 39 (by decide)).trans h
  | 2, hf, h => exact (hf 40 (by decide)).trans h
  | 3, hf, h => exact (hf 41 (by decide)).trans h
  | 4, hf, h => exact (hf 42 (by decide)).trans h
  | 5, hf, h => exact (hf 43 (by decide)).trans h
  | 6, hf, h => exact (hf 44 (by decide)).trans h
  | 7, hf, h => exact (hf 45 (by decide)).trans h
  | 8, _, _ => trivial
  | _ + 9, _, _ => trivial
/-- what operation j of the region leaves -/
def add7R (p g3 m2 : Nat) (a x y : Int) : Nat → (Nat → Value) → World → Prop
  | 0, f, _ => f 46 = .pointer (some ⟨p, 0, none⟩)
  | 1, f, _ => f 47 = .pointer (some ⟨p, 0, none⟩)
  | 2, f, _ => f 48 = .pointer (some ⟨p, 1, none⟩)
  | 3, f, _ => f 49 = .map (some m2)
  | 4, f, _ => f 50 = pairV x y
  | 5, f, _ => f 51 = .pointer (some ⟨g3, 0, none⟩)
  | 6, f, _ => f 52 = .int .i64 a
  | 7, _, _ => True
  | _, _, _ => True
def add7M : Nat → List Nat
  | 0 => [46]
  | 1 => [47]
  | 2 => [48]
  | 3 => [49]
  | 4 => [50]
  | 5 => [51]
  | 6 => [52]
  | 7 => []
  | _ => []
theorem add7_stab {p g3 m2 : Nat} {a x y : Int} (jj : Nat) {f f' : Nat → Value} {w w' : World}  (hf : ∀ t ∈ add7M jj, f' t = f t) (h : add7R p g3 m2 a x y jj f w) : add7R p g3 m2 a x y jj f' w' := by
  match jj, hf, h with
  | 0, hf, h => exact (hf 46 (by decide)).trans h
  | 1, hf, h => exact (hf 47 (by decide)).trans h
  | 2, hf, h => exact (hf 48 (by decide)).trans h
  | 3, hf, h => exact (hf 49 (by decide)).trans h
  | 4, hf, h => exact (hf 50 (by decide)).trans h
  | 5, hf, h => exact (hf 51 (by decide)).trans h
  | 6, hf, h => exact (hf 52 (by decide)).trans h
  | 7, _, _ => trivial
  | _ + 8, _, _ => trivial
theorem op_field_strash_hashed_2 (a : Act) (w : World) (b : Nat) (t : Nat) (h : a.tmps.getD t undef = .pointer (some ⟨b, 0, none⟩)) (oo : Oper) (ho : oo.op = .fieldAddr 65 (.tmp t) 2) : (execOp a.eval oo).run Try.prog w = .ok (.value (.pointer (some ⟨b, 2, none⟩))) w := by
  have h' : a.tmps[t]?.getD undef = .pointer (some ⟨b, 0, none⟩) := by simpa using h
  unfold execOp
  rw [ho]
  go_simp
theorem op_load_Lapi_And (a : Act) (w : World) (A : Addr) (t : Nat) (v : Value) (h : a.tmps.getD t undef = .pointer (some A)) (hc : w.cell? A = some v) (oo : Oper) (ho : oo.op = .load 24 (.tmp t)) : (execOp a.eval oo).run Try.prog w = .ok (.value v) w := by
  have h' : a.tmps[t]?.getD undef = .pointer (some A) := by simpa using h
  unfold execOp
  rw [ho]
  go_simp
/-- what operation j of the region leaves -/
def add8R (p gs : Nat) (v v2 : Value) (a b c : Int) : Nat → (Nat → Value) → World → Prop
  | 0, f, _ => f 53 = .pointer (some ⟨p, 0, none⟩)
  | 1, f, _ => f 54 = .pointer (some ⟨p, 0, none⟩)
  | 2, f, _ => f 55 = .pointer (some ⟨p, 0, none⟩)
  | 3, f, _ => f 56 = .pointer (some ⟨p, 2, none⟩)
  | 4, f, _ => f 57 = v
  | 5, f, _ => f 58 = .agg #[.int .i64 a, .int .i64 b, .int .i64 c]
  | 6, f, _ => f 59 = .slice (some ⟨gs, 0, none⟩) 1 1
  | 7, f, _ => f 60 = v2
  | 8, f, _ => f 61 = .pointer (some ⟨p, 0, none⟩)
  | 9, f, _ => f 62 = .pointer (some ⟨p, 2, none⟩)
  | 10, _, _ => True
  | _, _, _ => True
def add8M : Nat → List Nat
  | 0 => [53]
  | 1 => [54]
  | 2 => [55]
  | 3 => [56]
  | 4 => [57]
  | 5 => [58]
  | 6 => [59]
  | 7 => [60]
  | 8 => [61]
  | 9 => [62]
  | 10 => []
  | _ => []
theorem add8_stab {p gs : Nat} {v v2 : Value} {a b c : Int} (jj : Nat) {f f' : Nat → Value} {w w' : World}  (hf : ∀ t ∈ add8M jj, f' t = f t) (h : add8R p gs v v2 a b c jj f w) : add8R p gs v v2 a b c jj f' w' := by
  match jj, hf, h with
  | 0, hf, h => exact (hf 53 (by decide)).trans h
  | 1, hf, h => exact (hf 54 (by decide)).trans h
  | 2, hf, h => exact (hf 55 (by decide)).trans h
  | 3, hf, h => exact (hf 56 (by decide)).trans h
  | 4, hf, h => exact (hf 57 (by decide)).trans h
  | 5, hf, h => exact (hf 58 (by decide)).trans h
  | 6, hf, h => exact (hf 59 (by decide)).trans h
  | 7, hf, h => exact (hf 60 (by decide)).trans h
  | 8, hf, h => exact (hf 61 (by decide)).trans h
  | 9, hf, h => exact (hf 62 (by decide)).trans h
  | 10, _, _ => trivial
  | _ + 11, _, _ => trivial

theorem plain_bd {a b s : Int} (h : plainM a b = some s) : s = 0 ∨ s = cnt a ∨ s = cnt b := by
  unfold plainM at h
  split at h
  · cases h; exact .inl rfl
  · split at h
    · cases h; exact .inr (.inr rfl)
    · split at h
      · cases h; exact .inr (.inl rfl)
      · cases h
set_option maxHeartbeats 16000000 in
set_option maxRecDepth 100000 in
theorem add_any (C p m1 m2 n : Nat) (v : Value) (h : Hs) (a b c : Int) (w : World) (H : HsAt w C p m1 m2 v h n) (ha : I64 a) (hb : I64 b) (hc : I64 c) (hC : C ≤ w.heap.size) (hG : ∀ q s, h.G q = some s → I64 s) (hn : n ≤ 1099511627776) (hl : h.st.length ≤ 1099511627776) :
    Calls Try.prog 73 #[.pointer (some ⟨p, 0, none⟩), .agg #[.int .i64 a, .int .i64 b, .int .i64 c]] w fun e w' => e = .returned (.tuple #[]) ∧ (∃ v', HsAt w' C p m1 m2 v' (addM h ⟨a, b, c⟩) (n + 1)) ∧ Below C w w' := by
  obtain ⟨WA, hWA⟩ : ∃ x, w.alloc (.cells #[.int .i64 a, .int .i64 b, .int .i64 c] 43) = x := ⟨_, rfl⟩
  obtain ⟨WB, hWB⟩ : ∃ x, WA.alloc (.cells #[.int .i64 0, .int .i64 0] 128) = x := ⟨_, rfl⟩
  obtain ⟨g3, hg3⟩ : ∃ x, w.heap.size = x := ⟨_, rfl⟩
  obtain ⟨g4, hg4⟩ : ∃ x, WA.heap.size = x := ⟨_, rfl⟩
  have gA : WA.heap[w.heap.size]? = some (.cells #[.int .i64 a, .int .i64 b, .int .i64 c] 43 (0, 0)) := by rw [← hWA]; exact Array.getElem?_push_size
  have bA : Below w.heap.size w WA := by rw [← hWA]; exact (Below.refl _ _).alloc (Nat.le_refl _) _
  have sA : WA.heap.size = w.heap.size + 1 := by rw [← hWA]; simp
  have gB : WB.heap[WA.heap.size]? = some (.cells #[.int .i64 0, .int .i64 0] 128 (0, 0)) := by rw [← hWB]; exact Array.getElem?_push_size
  have bB : Below WA.heap.size WA WB := by rw [← hWB]; exact (Below.refl _ _).alloc (Nat.le_refl _) _
  have BX0 : ∀ X, But WA.heap.size WB X → Below WA.heap.size WA X := fun X FX => FX.below bB (Nat.le_refl _)
  have HX0 : ∀ X, Below w.heap.size w X → HsAt X C p m1 m2 v h n := fun X hX => H.below hX
  rw [hg3] at gA bA sA HX0
  rw [hg4] at gB bB sA BX0
  obtain ⟨Z1, X, u0, u1, ⟨s0, q0, f0⟩, ⟨s1, q1, f1⟩, EX, FX⟩ := store2 gB rfl (.int .i64 (min b c)) (.int .i64 (max b c))
  have bX : Below g4 WA X := BX0 X FX
  have bW : Below g3 w X := bA.trans (bX.mono (by omega))
  have HX := Lib.hid (HX0 X bW)
  have BX : Hid (Below g3 w X) := bW
  have GT : X.heap[g3]? = some (.cells #[.int .i64 a, .int .i64 b, .int .i64 c] 43 (0, 0)) := (bX.block _ (by omega)).trans gA
  have T0 : Hid (X.drew.cell? ⟨g3, 0, none⟩ = some (.int .i64 a)) := (two_cells GT).1
  have T1 : Hid (X.drew.cell? ⟨g3, 1, none⟩ = some (.int .i64 b)) := (two_cells GT).2.1
  have T2 : Hid (X.drew.cell? ⟨g3, 2, none⟩ = some (.int .i64 c)) := (two_cells GT).2.2
  have P0 : Hid (X.drew.cell? ⟨g4, 0, none⟩ = some (.int .i64 (min b c))) := by unfold Hid; show X.cell? _ = _; simp [World.cell?, EX]
  have P1 : Hid (X.drew.cell? ⟨g4, 1, none⟩ = some (.int .i64 (max b c))) := by unfold Hid; show X.cell? _ = _; simp [World.cell?, EX]
  have M1 : Hid (X.drew.cell? ⟨p, 1, none⟩ = some (.map (some m2))) := (HX0 X bW).cells.2.1
  have GT3 := Lib.hid GT
  have PL := Lib.hid (plain_any b c hb hc X)
  obtain ⟨t0, t1, t2⟩ := two_cells gA
  obtain ⟨-, x1, x2⟩ := two_cells GT
  have HA := Lib.hid ha
  have HBC : Hid (I64 b ∧ I64 c) := ⟨hb, hc⟩
  have HL := Lib.hid hl
  have HGI := Lib.hid hG
  have HC : Hid (C ≤ g3) := by rw [← hg3]; exact hC
  have hvar : I64 (cnt a / 2) := by obtain ⟨b0, b1⟩ := cnt_bd a ha.2; unfold I64; omega
  have hmn : I64 (min b c) := by unfold I64 at *; omega
  have hmx : I64 (max b c) := by unfold I64 at *; omega
  have HNUM : Hid (I64 (cnt a / 2) ∧ I64 (min b c) ∧ I64 (max b c)) := ⟨hvar, hmn, hmx⟩
  have HN := Lib.hid hn
  have HG3 := Lib.hid hg3
  have EV : Hid (∀ args w, (callFunc 46 args).run Try.prog w = .ok (.enter 46 args) w) := enters_of Try.func46 (by kernel_rfl) rfl
  clear H ha hb hc hC hG hn hl gA bA sA bB bX bW EX FX hvar hmn hmx BX0 HX0 GT
  go_enter Try.func73, Try.ntmps73
  go_wp2_with fail
  refine PL.out.mono ?_
  rintro e w' ⟨rfl, rfl⟩
  clear PL s0 q0 f0 s1 q1 f1 gB hWA hWB t0 t1 t2 x1 x2 hg3 hg4
  cases hp : plainM b c with
  | some s0 =>
    have HGN : Hid (goneM h b c = some s0) := by unfold Hid goneM; rw [hp]; rfl
    have HSI : Hid (I64 s0) := by
      obtain ⟨y0, y1⟩ := cnt_bd b HBC.out.1.2
      obtain ⟨z0, z1⟩ := cnt_bd c HBC.out.2.2
      have := plain_bd hp
      unfold Hid I64; omega
    simp only [Option.isSome_some, Option.getD_some]
    clear hp M1 P0 P1 T1 T2 GT3
    go_wp2
    obtain ⟨WX, hWX⟩ : ∃ x, x = X := ⟨_, rfl⟩
    obtain ⟨s, hs⟩ : ∃ x, x = s0 := ⟨_, rfl⟩
    rw [← hs] at HSI HGN ⊢
    rw [← hWX] at HX BX T0 ⊢
    clear hWX hs
    obtain ⟨WY, hy1, hy2, hy3⟩ := HX.out.f.store (w := WX.drew) HNUM.out.1 s HSI.out (by have := HN.out; omega)
    have US := Lib.hid hy1
    have M0 : Hid (WX.drew.cell? ⟨p, 0, none⟩ = some (.map (some m1))) := HX.out.cells.1
    have HY : Hid (HsAt WY C p m1 m2 v (addM h ⟨a, b, c⟩) (n + 1)) := by
      obtain ⟨l1, l2, l3⟩ := HX.out.lt
      obtain ⟨a1, a2⟩ := HX.out.apart
      have kp : ∀ k, k < WX.heap.size → k ≠ m1 → WY.heap[k]? = WX.heap[k]? := fun k hk hne => hy3.block k hk (fun e => hne (Option.some.inj e))
      have H1 := HX.out.more (Nat.le_succ n)
      rw [add_some (t := ⟨a, b, c⟩) HGN.out]
      exact ⟨(kp p l1 a1).trans HX.out.box, hy2, H1.g.keep (kp m2 l3 (fun e => HX.out.ne e.symm)), HX.out.st.keep_at (fun g _ hg => kp g (HX.out.st.block_lt g hg).2 (HX.out.own g hg).2.1), HX.out.lo, HX.out.ne, HX.out.own⟩
    have BY : Hid (Below C w WY) := (BX.out.mono HC.out).trans ⟨hy3.os, hy3.tape, hy3.output, hy3.size, fun k hk => hy3.block k (by have := HX.out.lt.2.1; have := HX.out.lo.2.1; show k < WX.heap.size; omega) (fun e => by have := HX.out.lo.2.1; have := Option.some.inj e; omega)⟩
    clear hy1 hy2 hy3
    refine wp_region_valsE (by kernel_rfl) (by kernel_rfl) add6M (by kernel_rfl) (by kernel_rfl)
      (Sole 8 WX.drew WY) (add6R p g3 m1 a s) (Sole.start _ _ _) (fun jj f f' w w' hb hf h => add6_stab jj  hf h) ?_ ?_
    · intro i oo d a' w' ho hd hun hdf hok hDE K hK hK0
      match i, ho, hd, hDE, hK, hK0, hun with
      | 0, ho, hd, hDE, hK, hK0, hun =>
        have e := (congrArg Oper.op (Option.some.inj ho)).symm
        obtain rfl := Option.some.inj ho
        exact wp_val (op_move a' w' 0 _ e) (hK _ _ (Below.refl _ _) (hok.read (by decide)) (fun f h1 _ => (h1 _ rfl).trans (hun 0 (by kernel_rfl))))
      | 1, ho, hd, hDE, hK, hK0, hun =>
        have e := (congrArg Oper.op (Option.some.inj ho)).symm
        obtain rfl := Option.some.inj ho
        exact wp_val (op_nil a' w' _ 38 (hDE 0 (by kernel_rfl)).2 _ e) (hK _ _ (Below.refl _ _) (hok.read (by decide)) (fun f h1 _ => h1 _ rfl))
      | 2, ho, hd, hDE, hK, hK0, hun =>
        have e := (congrArg Oper.op (Option.some.inj ho)).symm
        obtain rfl := Option.some.inj ho
        exact wp_val (op_field_strash_hashed_0 a' w' _ 39 (hDE 1 (by kernel_rfl)).2 _ e) (hK _ _ (Below.refl _ _) (hok.read (by decide)) (fun f h1 _ => h1 _ rfl))
      | 3, ho, hd, hDE, hK, hK0, hun =>
        have e := (congrArg Oper.op (Option.some.inj ho)).symm
        obtain rfl := Option.some.inj ho
        exact wp_val (op_load_map_int_int a' w' _ 40 _ (hDE 2 (by kernel_rfl)).2 (by rw [hok.c0 (hd 8 (by kernel_rfl))]; exact M0.out) _ e) (hK _ _ (Below.refl _ _) (hok.read (by decide)) (fun f h1 _ => h1 _ rfl))
      | 4, ho, hd, hDE, hK, hK0, hun =>
        have e := (congrArg Oper.op (Option.some.inj ho)).symm
        obtain rfl := Option.some.inj ho
        exact wp_val (op_field_api_And_0 a' w' _ 3 (hun 3 (by kernel_rfl)) _ e) (hK _ _ (Below.refl _ _) (hok.read (by decide)) (fun f h1 _ => h1 _ rfl))
      | 5, ho, hd, hDE, hK, hK0, hun =>
        have e := (congrArg Oper.op (Option.some.inj ho)).symm
        obtain rfl := Option.some.inj ho
        exact wp_val (op_load_int a' w' _ 42 _ (hDE 4 (by kernel_rfl)).2 (by rw [hok.c0 (hd 8 (by kernel_rfl))]; exact T0.out) _ e) (hK _ _ (Below.refl _ _) (hok.read (by decide)) (fun f h1 _ => h1 _ rfl))
      | 6, ho, hd, hDE, hK, hK0, hun =>
        have e := (congrArg Oper.op (Option.some.inj ho)).symm
        obtain rfl := Option.some.inj ho
        refine wp_enter (op_call1 a' w' _ 43 _ EV.out _ e) ?_
        rw [show a'.tmps.getD 43 undef = .int .i64 a from (hDE 5 (by kernel_rfl)).2]
        refine (var_any a w' HA.out.2).mono ?_
        rintro e w'' ⟨rfl, rfl⟩
        exact .inl ⟨_, rfl, hK _ _ (Below.refl _ _) (hok.read (by decide)) (fun f h1 _ => h1 _ rfl)⟩
      | 7, ho, hd, hDE, hK, hK0, hun =>
        have e := (congrArg Oper.op (Option.some.inj ho)).symm
        obtain rfl := Option.some.inj ho
        exact wp_val (op_move a' w' 5 _ e) (hK _ _ (Below.refl _ _) (hok.read (by decide)) (fun f h1 _ => (h1 _ rfl).trans (hun 5 (by kernel_rfl))))
      | 8, ho, hd, hDE, hK, hK0, hun =>
        have e := (congrArg Oper.op (Option.some.inj ho)).symm
        obtain rfl := Option.some.inj ho
        rw [hok.c0 (hd 8 (by kernel_rfl))]
        exact wp_skip' (op_update a' _ _ _ 41 44 45 _ _ _ (hDE 3 (by kernel_rfl)).2 (hDE 6 (by kernel_rfl)).2 (hDE 7 (by kernel_rfl)).2 US.out _ e) (hK0 _ _ (Sole.did _ _ _ _) (fun f h1 h2 => trivial) (fun j f hj hf hq => add6_stab j hf hq))
      | i + 9, ho, _, _, _, _, _ => exact absurd ho (by simp)
    · intro a' w6 hsz hdf hkt hok hR
      have HF3 := frame_sets [38, 39, 40, 41, 42, 43, 44, 45] (by kernel_rfl) hsz hkt
      obtain ⟨d, hok, hall⟩ := hok
      have hw := hok.c1 (hall 8 (by decide))
      subst hw
      obtain ⟨tm, df⟩ := a'
      obtain rfl : df = _ := hdf
      simp only [List.foldl_cons, List.foldl_nil] at HF3
      clear hkt hR hsz
      generalize tm.getD 38 undef = y38 at HF3
      generalize tm.getD 39 undef = y39 at HF3
      generalize tm.getD 40 undef = y40 at HF3
      generalize tm.getD 41 undef = y41 at HF3
      generalize tm.getD 42 undef = y42 at HF3
      generalize tm.getD 43 undef = y43 at HF3
      generalize tm.getD 44 undef = y44 at HF3
      generalize tm.getD 45 undef = y45 at HF3
      simp only [List.setIfInBounds_toArray, List.set_cons_succ, List.set_cons_zero] at HF3
      subst HF3
      clear hok hall
      go_wp2
      refine bodyPost_ret (results_none rfl _ _ _) rfl ?_
      exact ⟨rfl, ⟨v, HY.out⟩, BY.out⟩
  | none =>
    simp only [Option.isSome_none, Option.getD_none]
    obtain ⟨u, lk, lku⟩ := (show IsPairs X.drew m2 h.G n from HX.out.g).look HNUM.out.2.1 HNUM.out.2.2
    obtain ⟨BB, hBB⟩ : ∃ x, x = (h.G (min b c, max b c)).isSome := ⟨_, rfl⟩
    rw [← hBB] at lk
    have LK := Lib.hid lk
    have LKU := Lib.hid lku
    have HBB := Lib.hid hBB
    have HP := Lib.hid hp
    clear lk lku hBB hp
    go_wp2
    refine wp_region_valsD (by kernel_rfl) (by kernel_rfl) add4M (by kernel_rfl) (by kernel_rfl)
      (fun _ w' => w' = X.drew) (add4R p m2 (min b c) (max b c) u BB) rfl (fun jj f f' w w' hb hf h => add4_stab jj  hf h) ?_ ?_
    · intro i oo d a' w' ho hd hun hdf hok hD K hK hK0
      match i, ho, hd, hD, hK, hK0, hun with
      | 0, ho, hd, hD, hK, hK0, hun =>
        have e := (congrArg Oper.op (Option.some.inj ho)).symm
        obtain rfl := Option.some.inj ho
        exact wp_val (op_move a' w' 0 _ e) (hK _ _ (Below.refl _ _) hok (fun f h1 _ => (h1 _ rfl).trans (hun 0 (by kernel_rfl))))
      | 1, ho, hd, hD, hK, hK0, hun =>
        have e := (congrArg Oper.op (Option.some.inj ho)).symm
        obtain rfl := Option.some.inj ho
        exact wp_val (op_nil a' w' _ 29 (hD 0 (by kernel_rfl)) _ e) (hK _ _ (Below.refl _ _) hok (fun f h1 _ => h1 _ rfl))
      | 2, ho, hd, hD, hK, hK0, hun =>
        have e := (congrArg Oper.op (Option.some.inj ho)).symm
        obtain rfl := Option.some.inj ho
        exact wp_val (op_field_strash_hashed_1 a' w' _ 30 (hD 1 (by kernel_rfl)) _ e) (hK _ _ (Below.refl _ _) hok (fun f h1 _ => h1 _ rfl))
      | 3, ho, hd, hD, hK, hK0, hun =>
        have e := (congrArg Oper.op (Option.some.inj ho)).symm
        obtain rfl := Option.some.inj ho
        exact wp_val (op_load_map_strash_pair_int a' w' _ 31 _ (hD 2 (by kernel_rfl)) (by rw [hok]; exact M1.out) _ e) (hK _ _ (Below.refl _ _) hok (fun f h1 _ => h1 _ rfl))
      | 4, ho, hd, hD, hK, hK0, hun =>
        have e := (congrArg Oper.op (Option.some.inj ho)).symm
        obtain rfl := Option.some.inj ho
        exact wp_val (op_load_pr a' w' _ _ _ 4 (hun 4 (by kernel_rfl)) (by rw [hok]; exact P0.out) (by rw [hok]; exact P1.out) _ e) (hK _ _ (Below.refl _ _) hok (fun f h1 _ => h1 _ rfl))
      | 5, ho, hd, hD, hK, hK0, hun =>
        have e := (congrArg Oper.op (Option.some.inj ho)).symm
        obtain rfl := Option.some.inj ho
        exact wp_val (op_look a' w' _ 32 33 _ _ _ (hD 3 (by kernel_rfl)) (hD 4 (by kernel_rfl)) (by rw [hok]; exact LK.out) _ e) (hK _ _ (Below.refl _ _) hok (fun f h1 _ => h1 _ rfl))
      | 6, ho, hd, hD, hK, hK0, hun =>
        have e := (congrArg Oper.op (Option.some.inj ho)).symm
        obtain rfl := Option.some.inj ho
        exact wp_val (op_move a' w' 34 _ e) (hK _ _ (Below.refl _ _) hok (fun f h1 _ => (h1 _ rfl).trans (hD 5 (by kernel_rfl))))
      | 7, ho, hd, hD, hK, hK0, hun =>
        have e := (congrArg Oper.op (Option.some.inj ho)).symm
        obtain rfl := Option.some.inj ho
        exact wp_val (op_ext0 a' w' 28 _ _ (hD 6 (by kernel_rfl)) _ e) (hK _ _ (Below.refl _ _) hok (fun f h1 _ => h1 _ rfl))
      | 8, ho, hd, hD, hK, hK0, hun =>
        have e := (congrArg Oper.op (Option.some.inj ho)).symm
        obtain rfl := Option.some.inj ho
        exact wp_val (op_ext1 a' w' 28 _ _ (hD 6 (by kernel_rfl)) _ e) (hK _ _ (Below.refl _ _) hok (fun f h1 _ => h1 _ rfl))
      | 9, ho, hd, hD, hK, hK0, hun =>
        have e := (congrArg Oper.op (Option.some.inj ho)).symm
        obtain rfl := Option.some.inj ho
        exact wp_val (op_assign a' w' 35 _ e) (hK _ _ (Below.refl _ _) hok (fun f h1 _ => (h1 _ rfl).trans (hD 7 (by kernel_rfl))))
      | 10, ho, hd, hD, hK, hK0, hun =>
        have e := (congrArg Oper.op (Option.some.inj ho)).symm
        obtain rfl := Option.some.inj ho
        exact wp_val (op_assign a' w' 36 _ e) (hK _ _ (Below.refl _ _) hok (fun f h1 _ => (h1 _ rfl).trans (hD 8 (by kernel_rfl))))
      | i + 11, ho, _, _, _, _, _ => exact absurd ho (by simp)
    · intro a' w5 hsz hdf hkt hok hR
      have HF3 := frame_sets [5, 6, 28, 29, 30, 31, 32, 33, 34, 35, 36] (by kernel_rfl) hsz hkt
      obtain ⟨d, hok⟩ := hok
      have h5 : a'.tmps.getD 5 undef = .int .i64 u := hR 9 (by decide)
      have h6 : a'.tmps.getD 6 undef = .bool BB := hR 10 (by decide)
      subst hok
      obtain ⟨tm, df⟩ := a'
      obtain rfl : df = _ := hdf
      simp only [List.foldl_cons, List.foldl_nil] at HF3
      clear hkt hR hsz
      replace h5 : tm.getD 5 undef = _ := h5
      rw [h5] at HF3
      clear h5
      replace h6 : tm.getD 6 undef = _ := h6
      rw [h6] at HF3
      clear h6
      generalize tm.getD 28 undef = y28 at HF3
      generalize tm.getD 29 undef = y29 at HF3
      generalize tm.getD 30 undef = y30 at HF3
      generalize tm.getD 31 undef = y31 at HF3
      generalize tm.getD 32 undef = y32 at HF3
      generalize tm.getD 33 undef = y33 at HF3
      generalize tm.getD 34 undef = y34 at HF3
      generalize tm.getD 35 undef = y35 at HF3
      generalize tm.getD 36 undef = y36 at HF3
      simp only [List.setIfInBounds_toArray, List.set_cons_succ, List.set_cons_zero] at HF3
      subst HF3
      cases hq : h.G (min b c, max b c) with
      | some x =>
        obtain rfl := LKU.out x hq
        have hb1 : BB = true := by rw [HBB.out, hq]; rfl
        subst hb1
        have HGN : Hid (goneM h b c = some u) := by unfold Hid goneM pairM; rw [HP.out, hq]; rfl
        have HSI : Hid (I64 u) := HGI.out _ _ hq
        have HX2 : Hid (HsAt X.drew C p m1 m2 v h n) := HX.out.keep fun k hk => rfl
        have BX2 : Hid (Below g3 w X.drew) := BX.out.trans (Below.refl _ _).drew
        have T02 : Hid (X.drew.drew.cell? ⟨g3, 0, none⟩ = some (.int .i64 a)) := T0.out
        clear hq LK LKU HBB HP P0 P1 M1 T1 T2 GT3 HX BX T0
        have HX := HX2
        have BX := BX2
        have T0 := T02
        clear HX2 BX2 T02
        go_wp2
        obtain ⟨WX, hWX⟩ : ∃ x, x = X.drew := ⟨_, rfl⟩
        obtain ⟨s, hs⟩ : ∃ x, x = u := ⟨_, rfl⟩
        rw [← hs] at HSI HGN ⊢
        rw [← hWX] at HX BX T0 ⊢
        clear hWX hs
        obtain ⟨WY, hy1, hy2, hy3⟩ := HX.out.f.store (w := WX.drew) HNUM.out.1 s HSI.out (by have := HN.out; omega)
        have US := Lib.hid hy1
        have M0 : Hid (WX.drew.cell? ⟨p, 0, none⟩ = some (.map (some m1))) := HX.out.cells.1
        have HY : Hid (HsAt WY C p m1 m2 v (addM h ⟨a, b, c⟩) (n + 1)) := by
          obtain ⟨l1, l2, l3⟩ := HX.out.lt
          obtain ⟨a1, a2⟩ := HX.out.apart
          have kp : ∀ k, k < WX.heap.size → k ≠ m1 → WY.heap[k]? = WX.heap[k]? := fun k hk hne => hy3.block k hk (fun e => hne (Option.some.inj e))
          have H1 := HX.out.more (Nat.le_succ n)
          rw [add_some (t := ⟨a, b, c⟩) HGN.out]
          exact ⟨(kp p l1 a1).trans HX.out.box, hy2, H1.g.keep (kp m2 l3 (fun e => HX.out.ne e.symm)), HX.out.st.keep_at (fun g _ hg => kp g (HX.out.st.block_lt g hg).2 (HX.out.own g hg).2.1), HX.out.lo, HX.out.ne, HX.out.own⟩
        have BY : Hid (Below C w WY) := (BX.out.mono HC.out).trans ⟨hy3.os, hy3.tape, hy3.output, hy3.size, fun k hk => hy3.block k (by have := HX.out.lt.2.1; have := HX.out.lo.2.1; show k < WX.heap.size; omega) (fun e => by have := HX.out.lo.2.1; have := Option.some.inj e; omega)⟩
        clear hy1 hy2 hy3
        refine wp_region_valsE (by kernel_rfl) (by kernel_rfl) add6M (by kernel_rfl) (by kernel_rfl)
          (Sole 8 WX.drew WY) (add6R p g3 m1 a s) (Sole.start _ _ _) (fun jj f f' w w' hb hf h => add6_stab jj  hf h) ?_ ?_
        · intro i oo d a' w' ho hd hun hdf hok hDE K hK hK0
          match i, ho, hd, hDE, hK, hK0, hun with
          | 0, ho, hd, hDE, hK, hK0, hun =>
            have e := (congrArg Oper.op (Option.some.inj ho)).symm
            obtain rfl := Option.some.inj ho
            exact wp_val (op_move a' w' 0 _ e) (hK _ _ (Below.refl _ _) (hok.read (by decide)) (fun f h1 _ => (h1 _ rfl).trans (hun 0 (by kernel_rfl))))
          | 1, ho, hd, hDE, hK, hK0, hun =>
            have e := (congrArg Oper.op (Option.some.inj ho)).symm
            obtain rfl := Option.some.inj ho
            exact wp_val (op_nil a' w' _ 38 (hDE 0 (by kernel_rfl)).2 _ e) (hK _ _ (Below.refl _ _) (hok.read (by decide)) (fun f h1 _ => h1 _ rfl))
          | 2, ho, hd, hDE, hK, hK0, hun =>
            have e := (congrArg Oper.op (Option.some.inj ho)).symm
            obtain rfl := Option.some.inj ho
            exact wp_val (op_field_strash_hashed_0 a' w' _ 39 (hDE 1 (by kernel_rfl)).2 _ e) (hK _ _ (Below.refl _ _) (hok.read (by decide)) (fun f h1 _ => h1 _ rfl))
          | 3, ho, hd, hDE, hK, hK0, hun =>
            have e := (congrArg Oper.op (Option.some.inj ho)).symm
            obtain rfl := Option.some.inj ho
            exact wp_val (op_load_map_int_int a' w' _ 40 _ (hDE 2 (by kernel_rfl)).2 (by rw [hok.c0 (hd 8 (by kernel_rfl))]; exact M0.out) _ e) (hK _ _ (Below.refl _ _) (hok.read (by decide)) (fun f h1 _ => h1 _ rfl))
          | 4, ho, hd, hDE, hK, hK0, hun =>
            have e := (congrArg Oper.op (Option.some.inj ho)).symm
            obtain rfl := Option.some.inj ho
            exact wp_val (op_field_api_And_0 a' w' _ 3 (hun 3 (by kernel_rfl)) _ e) (hK _ _ (Below.refl _ _) (hok.read (by decide)) (fun f h1 _ => h1 _ rfl))
          | 5, ho, hd, hDE, hK, hK0, hun =>
            have e := (congrArg Oper.op (Option.some.inj ho)).symm
            obtain rfl := Option.some.inj ho
            exact wp_val (op_load_int a' w' _ 42 _ (hDE 4 (by kernel_rfl)).2 (by rw [hok.c0 (hd 8 (by kernel_rfl))]; exact T0.out) _ e) (hK _ _ (Below.refl _ _) (hok.read (by decide)) (fun f h1 _ => h1 _ rfl))
          | 6, ho, hd, hDE, hK, hK0, hun =>
            have e := (congrArg Oper.op (Option.some.inj ho)).symm
            obtain rfl := Option.some.inj ho
            refine wp_enter (op_call1 a' w' _ 43 _ EV.out _ e) ?_
            rw [show a'.tmps.getD 43 undef = .int .i64 a from (hDE 5 (by kernel_rfl)).2]
            refine (var_any a w' HA.out.2).mono ?_
            rintro e w'' ⟨rfl, rfl⟩
            exact .inl ⟨_, rfl, hK _ _ (Below.refl _ _) (hok.read (by decide)) (fun f h1 _ => h1 _ rfl)⟩
          | 7, ho, hd, hDE, hK, hK0, hun =>
            have e := (congrArg Oper.op (Option.some.inj ho)).symm
            obtain rfl := Option.some.inj ho
            exact wp_val (op_move a' w' 5 _ e) (hK _ _ (Below.refl _ _) (hok.read (by decide)) (fun f h1 _ => (h1 _ rfl).trans (hun 5 (by kernel_rfl))))
          | 8, ho, hd, hDE, hK, hK0, hun =>
            have e := (congrArg Oper.op (Option.some.inj ho)).symm
            obtain rfl := Option.some.inj ho
            rw [hok.c0 (hd 8 (by kernel_rfl))]
            exact wp_skip' (op_update a' _ _ _ 41 44 45 _ _ _ (hDE 3 (by kernel_rfl)).2 (hDE 6 (by kernel_rfl)).2 (hDE 7 (by kernel_rfl)).2 US.out _ e) (hK0 _ _ (Sole.did _ _ _ _) (fun f h1 h2 => trivial) (fun j f hj hf hq => add6_stab j hf hq))
          | i + 9, ho, _, _, _, _, _ => exact absurd ho (by simp)
        · intro a' w6 hsz hdf hkt hok hR
          have HF3 := frame_sets [38, 39, 40, 41, 42, 43, 44, 45] (by kernel_rfl) hsz hkt
          obtain ⟨d, hok, hall⟩ := hok
          have hw := hok.c1 (hall 8 (by decide))
          subst hw
          obtain ⟨tm, df⟩ := a'
          obtain rfl : df = _ := hdf
          simp only [List.foldl_cons, List.foldl_nil] at HF3
          clear hkt hR hsz
          generalize tm.getD 38 undef = y38 at HF3
          generalize tm.getD 39 undef = y39 at HF3
          generalize tm.getD 40 undef = y40 at HF3
          generalize tm.getD 41 undef = y41 at HF3
          generalize tm.getD 42 undef = y42 at HF3
          generalize tm.getD 43 undef = y43 at HF3
          generalize tm.getD 44 undef = y44 at HF3
          generalize tm.getD 45 undef = y45 at HF3
          simp only [List.setIfInBounds_toArray, List.set_cons_succ, List.set_cons_zero] at HF3
          subst HF3
          clear hok hall
          go_wp2
          refine bodyPost_ret (results_none rfl _ _ _) rfl ?_
          exact ⟨rfl, ⟨v, HY.out⟩, BY.out⟩
      | none =>
        have hb1 : BB = false := by rw [HBB.out, hq]; rfl
        subst hb1
        have HGN : Hid (goneM h b c = none) := by unfold Hid goneM pairM; rw [HP.out, hq]; rfl
        clear hq LK LKU HBB HP
        go_wp2
        obtain ⟨WX, hWX⟩ : ∃ x, x = X.drew := ⟨_, rfl⟩
        have T0x : Hid (WX.drew.cell? ⟨g3, 0, none⟩ = some (.int .i64 a)) := by rw [hWX]; exact T0.out
        have P0x : Hid (WX.drew.cell? ⟨g4, 0, none⟩ = some (.int .i64 (min b c))) := by rw [hWX]; exact P0.out
        have P1x : Hid (WX.drew.cell? ⟨g4, 1, none⟩ = some (.int .i64 (max b c))) := by rw [hWX]; exact P1.out
        have M1x : Hid (WX.drew.cell? ⟨p, 1, none⟩ = some (.map (some m2))) := by rw [hWX]; exact M1.out
        have GTx : Hid (WX.heap[g3]? = some (.cells #[.int .i64 a, .int .i64 b, .int .i64 c] 43 (0, 0))) := by rw [hWX]; exact GT3.out
        have HXx : Hid (HsAt WX C p m1 m2 v h n) := by rw [hWX]; exact HX.out.keep fun k hk => rfl
        have BXx : Hid (Below g3 w WX) := by rw [hWX]; exact BX.out.trans (Below.refl _ _).drew
        rw [← hWX]
        clear T0 P0 P1 M1 GT3 HX BX hWX
        have T0 := T0x
        have P0 := P0x
        have P1 := P1x
        have M1 := M1x
        clear T0x P0x P1x M1x
        obtain ⟨WY, hy1, hy2, hy3⟩ := HXx.out.g.store (w := WX.drew) HNUM.out.2.1 HNUM.out.2.2 a HA.out (by have := HN.out; omega)
        have US := Lib.hid hy1
        have kY : ∀ k, k < WX.heap.size → k ≠ m2 → WY.heap[k]? = WX.heap[k]? := fun k hk hne => hy3.block k hk (fun e => hne (Option.some.inj e))
        have hz3 : g3 < WX.heap.size := (Array.getElem?_eq_some_iff.1 GTx.out).1
        have hg3m : g3 ≠ m2 := HXx.out.g.ne_ (two_cells GTx.out).1
        have HY : Hid (HsAt WY C p m1 m2 v ⟨h.F, fun q => if q = pairM b c then some a else h.G q, h.st⟩ (n + 1)) := by
          obtain ⟨l1, l2, l3⟩ := HXx.out.lt
          obtain ⟨a1, a2⟩ := HXx.out.apart
          have H1 := HXx.out.more (Nat.le_succ n)
          exact ⟨(kY p l1 a2).trans HXx.out.box, H1.f.keep (kY m1 l2 HXx.out.ne), hy2, HXx.out.st.keep_at (fun g _ hg => kY g (HXx.out.st.block_lt g hg).2 (HXx.out.own g hg).2.2), HXx.out.lo, HXx.out.ne, HXx.out.own⟩
        have BY : Hid (Below C w WY) := (BXx.out.mono HC.out).trans ⟨hy3.os, hy3.tape, hy3.output, hy3.size, fun k hk => hy3.block k (by have := HXx.out.lt.2.2; have := HXx.out.lo.2.2; show k < WX.heap.size; omega) (fun e => by have := HXx.out.lo.2.2; have := Option.some.inj e; omega)⟩
        have GY : Hid (WY.heap[g3]? = some (.cells #[.int .i64 a, .int .i64 b, .int .i64 c] 43 (0, 0))) := (kY g3 hz3 hg3m).trans GTx.out
        have WZ : Hid (C ≤ WY.heap.size) := by have := HY.out.lt.1; have := HY.out.lo.1; unfold Hid; omega
        clear hy1 hy2 hy3 kY hz3 hg3m
        refine wp_region_valsE (by kernel_rfl) (by kernel_rfl) add7M (by kernel_rfl) (by kernel_rfl)
          (Sole 7 WX.drew WY) (add7R p g3 m2 a (min b c) (max b c)) (Sole.start _ _ _) (fun jj f f' w w' hb hf h => add7_stab jj  hf h) ?_ ?_
        · intro i oo d a' w' ho hd hun hdf hok hDE K hK hK0
          match i, ho, hd, hDE, hK, hK0, hun with
          | 0, ho, hd, hDE, hK, hK0, hun =>
            have e := (congrArg Oper.op (Option.some.inj ho)).symm
            obtain rfl := Option.some.inj ho
            exact wp_val (op_move a' w' 0 _ e) (hK _ _ (Below.refl _ _) (hok.read (by decide)) (fun f h1 _ => (h1 _ rfl).trans (hun 0 (by kernel_rfl))))
          | 1, ho, hd, hDE, hK, hK0, hun =>
            have e := (congrArg Oper.op (Option.some.inj ho)).symm
            obtain rfl := Option.some.inj ho
            exact wp_val (op_nil a' w' _ 46 (hDE 0 (by kernel_rfl)).2 _ e) (hK _ _ (Below.refl _ _) (hok.read (by decide)) (fun f h1 _ => h1 _ rfl))
          | 2, ho, hd, hDE, hK, hK0, hun =>
            have e := (congrArg Oper.op (Option.some.inj ho)).symm
            obtain rfl := Option.some.inj ho
            exact wp_val (op_field_strash_hashed_1 a' w' _ 47 (hDE 1 (by kernel_rfl)).2 _ e) (hK _ _ (Below.refl _ _) (hok.read (by decide)) (fun f h1 _ => h1 _ rfl))
          | 3, ho, hd, hDE, hK, hK0, hun =>
            have e := (congrArg Oper.op (Option.some.inj ho)).symm
            obtain rfl := Option.some.inj ho
            exact wp_val (op_load_map_strash_pair_int a' w' _ 48 _ (hDE 2 (by kernel_rfl)).2 (by rw [hok.c0 (hd 7 (by kernel_rfl))]; exact M1.out) _ e) (hK _ _ (Below.refl _ _) (hok.read (by decide)) (fun f h1 _ => h1 _ rfl))
          | 4, ho, hd, hDE, hK, hK0, hun =>
            have e := (congrArg Oper.op (Option.some.inj ho)).symm
            obtain rfl := Option.some.inj ho
            exact wp_val (op_load_pr a' w' _ _ _ 4 (hun 4 (by kernel_rfl)) (by rw [hok.c0 (hd 7 (by kernel_rfl))]; exact P0.out) (by rw [hok.c0 (hd 7 (by kernel_rfl))]; exact P1.out) _ e) (hK _ _ (Below.refl _ _) (hok.read (by decide)) (fun f h1 _ => h1 _ rfl))
          | 5, ho, hd, hDE, hK, hK0, hun =>
            have e := (congrArg Oper.op (Option.some.inj ho)).symm
            obtain rfl := Option.some.inj ho
            exact wp_val (op_field_api_And_0 a' w' _ 3 (hun 3 (by kernel_rfl)) _ e) (hK _ _ (Below.refl _ _) (hok.read (by decide)) (fun f h1 _ => h1 _ rfl))
          | 6, ho, hd, hDE, hK, hK0, hun =>
            have e := (congrArg Oper.op (Option.some.inj ho)).symm
            obtain rfl := Option.some.inj ho
            exact wp_val (op_load_int a' w' _ 51 _ (hDE 5 (by kernel_rfl)).2 (by rw [hok.c0 (hd 7 (by kernel_rfl))]; exact T0.out) _ e) (hK _ _ (Below.refl _ _) (hok.read (by decide)) (fun f h1 _ => h1 _ rfl))
          | 7, ho, hd, hDE, hK, hK0, hun =>
            have e := (congrArg Oper.op (Option.some.inj ho)).symm
            obtain rfl := Option.some.inj ho
            rw [hok.c0 (hd 7 (by kernel_rfl))]
            exact wp_skip' (op_update a' _ _ _ 49 50 52 _ _ _ (hDE 3 (by kernel_rfl)).2 (hDE 4 (by kernel_rfl)).2 (hDE 6 (by kernel_rfl)).2 US.out _ e) (hK0 _ _ (Sole.did _ _ _ _) (fun f h1 h2 => trivial) (fun j f hj hf hq => add7_stab j hf hq))
          | i + 8, ho, _, _, _, _, _ => exact absurd ho (by simp)
        · intro a' w6 hsz hdf hkt hok hR
          have HF3 := frame_sets [46, 47, 48, 49, 50, 51, 52] (by kernel_rfl) hsz hkt
          obtain ⟨d, hok, hall⟩ := hok
          have hw := hok.c1 (hall 7 (by decide))
          subst hw
          obtain ⟨tm, df⟩ := a'
          obtain rfl : df = _ := hdf
          simp only [List.foldl_cons, List.foldl_nil] at HF3
          clear hkt hR hsz
          generalize tm.getD 46 undef = y46 at HF3
          generalize tm.getD 47 undef = y47 at HF3
          generalize tm.getD 48 undef = y48 at HF3
          generalize tm.getD 49 undef = y49 at HF3
          generalize tm.getD 50 undef = y50 at HF3
          generalize tm.getD 51 undef = y51 at HF3
          generalize tm.getD 52 undef = y52 at HF3
          simp only [List.setIfInBounds_toArray, List.set_cons_succ, List.set_cons_zero] at HF3
          subst HF3
          clear hok hall T0 P0 P1 M1 US HXx BXx GTx
          have T0 : Hid (w6.drew.cell? ⟨g3, 0, none⟩ = some (.int .i64 a)) := (two_cells GY.out).1
          have T1 : Hid (w6.drew.cell? ⟨g3, 1, none⟩ = some (.int .i64 b)) := (two_cells GY.out).2.1
          have T2 : Hid (w6.drew.cell? ⟨g3, 2, none⟩ = some (.int .i64 c)) := (two_cells GY.out).2.2
          have V0 : Hid (w6.drew.cell? ⟨p, 2, none⟩ = some v) := HY.out.cells.2.2
          obtain ⟨W1, hW1⟩ : ∃ x, w6.drew.alloc (.cells #[.int .i64 a, .int .i64 b, .int .i64 c] 43) = x := ⟨_, rfl⟩
          have HW1 := Lib.hid hW1
          have k1 : ∀ k, k < w6.heap.size → W1.heap[k]? = w6.heap[k]? := fun k hk => by rw [← hW1]; exact Below.heap_alloc w6.drew _ k hk
          have s1 : W1.heap.size = w6.heap.size + 1 := by rw [← hW1]; simp
          have g1 : W1.heap[w6.heap.size]? = some (.cells #[.int .i64 a, .int .i64 b, .int .i64 c] 43 (0, 0)) := by rw [← hW1]; exact Array.getElem?_push_size
          have H1 := HY.out.keep k1
          have V1 : Hid (W1.cell? ⟨p, 2, none⟩ = some v) := H1.cells.2.2
          obtain ⟨v2, W2, ap, own2, gr2, loc2⟩ := push_runs W1 C v h.st ⟨a, b, c⟩ w6.heap.size 1 H1.st g1 HL.out (by have := WZ.out; omega)
          have AP := Lib.hid ap
          obtain ⟨A2, q2, v2e, -, -, -⟩ := own2.row (by decide) (fun y hy => by obtain ⟨t, _, rfl⟩ := List.mem_map.1 hy; rfl)
          have V2E := Lib.hid v2e
          obtain ⟨l1, l2, l3⟩ := H1.lt
          obtain ⟨a1, a2⟩ := H1.apart
          have kk : ∀ k, k < W1.heap.size → (∀ g, v.ownBlock = some g → k ≠ g) → W2.heap[k]? = W1.heap[k]? := fun k hk hne => gr2.block k hk (fun e => hne k e.symm rfl)
          have p2 : W2.heap[p]? = some (.cells #[.map (some m1), .map (some m2), v] 65 (0, 0)) := (kk p l1 (fun g hg e => (H1.own g hg).1 e.symm)).trans H1.box
          obtain ⟨W3, u3, ⟨hW3, hc3, hz3⟩, p3, B3⟩ := step_set W2 _ 2 (.slice A2 (tris (h.st ++ [⟨a, b, c⟩])).length q2) p2 (Nat.lt_of_lt_of_eq (show 2 < 3 by decide) rfl)
          have C2 := Lib.hid hc3
          have Z2 := Lib.hid hz3
          have HW3 := Lib.hid hW3
          have nv2 : ∀ k, v2.ownBlock = some k → k ≠ p ∧ k ≠ m1 ∧ k ≠ m2 := fun k hk => by
            rcases loc2 with e | e
            · exact H1.own k (e ▸ hk)
            · rw [hk] at e
              have := Option.some.inj e
              omega
          have FIN : Hid (HsAt W3 C p m1 m2 v2 (addM h ⟨a, b, c⟩) (n + 1)) := by
            rw [add_none (t := ⟨a, b, c⟩) HGN.out]
            refine ⟨?_, ?_, ?_, ?_, H1.lo, H1.ne, nv2⟩
            · rw [p3, v2e]; rfl
            · exact H1.f.keep ((B3.b m1 a1.symm).trans (kk m1 l2 (fun g hg e => (H1.own g hg).2.1 e.symm)))
            · exact H1.g.keep ((B3.b m2 a2.symm).trans (kk m2 l3 (fun g hg e => (H1.own g hg).2.2 e.symm)))
            · exact own2.keep_at (fun g _ hg => B3.b g (nv2 g hg).1)
          have BFI : Hid (Below C w W3) := by
            refine BY.out.trans ?_
            have b1 : Below C w6 W1 := by rw [← hW1]; exact ((Below.refl _ _).drew).alloc WZ.out _
            have b2 : Below C W1 W2 := ⟨gr2.os, gr2.tape, gr2.output, gr2.size, fun k hk => gr2.block k (by have := WZ.out; omega) (fun e => by have := (H1.st.block_lt k e.symm).1; omega)⟩
            exact b1.trans (B3.below b2 H1.lo.1)
          clear ap own2 gr2 loc2 v2e l1 l2 l3 a1 a2 kk p2 hW3 hc3 hz3 p3 B3 nv2 H1 g1 s1 k1 hW1 HY BY GY WZ
          go_wp2
          refine wp_region_valsE (by kernel_rfl) (by kernel_rfl) add8M (by kernel_rfl) (by kernel_rfl)
            (Chain 6 7 10 w6.drew W1 W2 W3) (add8R p w6.heap.size v v2 a b c) Chain.start (fun jj f f' w w' hb hf h => add8_stab jj  hf h) ?_ ?_
          · intro i oo d a' w' ho hd hun hdf hok hDE K hK hK0
            match i, ho, hd, hDE, hK, hK0, hun with
            | 0, ho, hd, hDE, hK, hK0, hun =>
              have e := (congrArg Oper.op (Option.some.inj ho)).symm
              obtain rfl := Option.some.inj ho
              exact wp_val (op_move a' w' 0 _ e) (hK _ _ (Below.refl _ _) (hok.read (by decide) (by decide) (by decide)) (fun f h1 _ => (h1 _ rfl).trans (hun 0 (by kernel_rfl))))
            | 1, ho, hd, hDE, hK, hK0, hun =>
              have e := (congrArg Oper.op (Option.some.inj ho)).symm
              obtain rfl := Option.some.inj ho
              exact wp_val (op_move a' w' 0 _ e) (hK _ _ (Below.refl _ _) (hok.read (by decide) (by decide) (by decide)) (fun f h1 _ => (h1 _ rfl).trans (hun 0 (by kernel_rfl))))
            | 2, ho, hd, hDE, hK, hK0, hun =>
              have e := (congrArg Oper.op (Option.some.inj ho)).symm
              obtain rfl := Option.some.inj ho
              exact wp_val (op_nil a' w' _ 54 (hDE 1 (by kernel_rfl)).2 _ e) (hK _ _ (Below.refl _ _) (hok.read (by decide) (by decide) (by decide)) (fun f h1 _ => h1 _ rfl))
            | 3, ho, hd, hDE, hK, hK0, hun =>
              have e := (congrArg Oper.op (Option.some.inj ho)).symm
              obtain rfl := Option.some.inj ho
              exact wp_val (op_field_strash_hashed_2 a' w' _ 55 (hDE 2 (by kernel_rfl)).2 _ e) (hK _ _ (Below.refl _ _) (hok.read (by decide) (by decide) (by decide)) (fun f h1 _ => h1 _ rfl))
            | 4, ho, hd, hDE, hK, hK0, hun =>
              have e := (congrArg Oper.op (Option.some.inj ho)).symm
              obtain rfl := Option.some.inj ho
              exact wp_val (op_load_Lapi_And a' w' _ 56 _ (hDE 3 (by kernel_rfl)).2 (by cases e6 : d 6 with | false => rw [hok.c0 e6]; exact V0.out | true => rw [hok.c1 e6 (hd 7 (by kernel_rfl))]; exact V1.out) _ e) (hK _ _ (Below.refl _ _) (hok.read (by decide) (by decide) (by decide)) (fun f h1 _ => h1 _ rfl))
            | 5, ho, hd, hDE, hK, hK0, hun =>
              have e := (congrArg Oper.op (Option.some.inj ho)).symm
              obtain rfl := Option.some.inj ho
              exact wp_val (op_load_tri a' w' _ _ _ _ 3 (hun 3 (by kernel_rfl)) (by rw [hok.c0 (hd 6 (by kernel_rfl))]; exact T0.out) (by rw [hok.c0 (hd 6 (by kernel_rfl))]; exact T1.out) (by rw [hok.c0 (hd 6 (by kernel_rfl))]; exact T2.out) _ e) (hK _ _ (Below.refl _ _) (hok.read (by decide) (by decide) (by decide)) (fun f h1 _ => h1 _ rfl))
            | 6, ho, hd, hDE, hK, hK0, hun =>
              have e := (congrArg Oper.op (Option.some.inj ho)).symm
              obtain rfl := Option.some.inj ho
              rw [hok.c0 (hd 6 (by kernel_rfl))]
              exact wp_val (op_slice_tri a' _ _ _ _ 58 (hDE 5 (by kernel_rfl)).2 _ e) (hK0 _ _ (by rw [HW1.out]; exact Chain.first (hd 7 (by kernel_rfl)) (hd 10 (by kernel_rfl)) (by decide) (by decide)) (fun f h1 _ => h1 _ rfl) (fun j f hj hf hq => add8_stab j hf hq))
            | 7, ho, hd, hDE, hK, hK0, hun =>
              have e := (congrArg Oper.op (Option.some.inj ho)).symm
              obtain rfl := Option.some.inj ho
              rw [hok.c1 (hDE 6 (by kernel_rfl)).1 (hd 7 (by kernel_rfl))]
              exact wp_val (op_apps a' _ _ _ 57 59 _ _ _ (hDE 4 (by kernel_rfl)).2 (hDE 6 (by kernel_rfl)).2 _ AP.out e) (hK0 _ _ (Chain.second (hDE 6 (by kernel_rfl)).1 (hd 10 (by kernel_rfl)) (by decide)) (fun f h1 _ => h1 _ rfl) (fun j f hj hf hq => add8_stab j hf hq))
            | 8, ho, hd, hDE, hK, hK0, hun =>
              have e := (congrArg Oper.op (Option.some.inj ho)).symm
              obtain rfl := Option.some.inj ho
              exact wp_val (op_nil a' w' _ 53 (hDE 0 (by kernel_rfl)).2 _ e) (hK _ _ (Below.refl _ _) (hok.read (by decide) (by decide) (by decide)) (fun f h1 _ => h1 _ rfl))
            | 9, ho, hd, hDE, hK, hK0, hun =>
              have e := (congrArg Oper.op (Option.some.inj ho)).symm
              obtain rfl := Option.some.inj ho
              exact wp_val (op_field_strash_hashed_2 a' w' _ 61 (hDE 8 (by kernel_rfl)).2 _ e) (hK _ _ (Below.refl _ _) (hok.read (by decide) (by decide) (by decide)) (fun f h1 _ => h1 _ rfl))
            | 10, ho, hd, hDE, hK, hK0, hun =>
              have e := (congrArg Oper.op (Option.some.inj ho)).symm
              obtain rfl := Option.some.inj ho
              rw [hok.c2 (hDE 7 (by kernel_rfl)).1 (hd 10 (by kernel_rfl))]
              exact wp_skip' (op_store_set a' _ _ _ _ _ _ _ 62 60 (hDE 9 (by kernel_rfl)).2 ((hDE 7 (by kernel_rfl)).2.trans V2E.out) C2.out Z2.out _ e) (hK0 _ _ (by rw [HW3.out]; exact hok.third (hDE 7 (by kernel_rfl)).1) (fun f h1 h2 => trivial) (fun j f hj hf hq => add8_stab j hf hq))
            | i + 11, ho, _, _, _, _, _ => exact absurd ho (by simp)
          · intro a' w8 hsz hdf hkt hok hR
            have HF3 := frame_sets [53, 54, 55, 56, 57, 58, 59, 60, 61, 62] (by kernel_rfl) hsz hkt
            obtain ⟨d, hok, hall⟩ := hok
            have hw := hok.c3 (hall 10 (by decide))
            subst hw
            obtain ⟨tm, df⟩ := a'
            obtain rfl : df = _ := hdf
            simp only [List.foldl_cons, List.foldl_nil] at HF3
            clear hkt hR hsz
            generalize tm.getD 53 undef = y53 at HF3
            generalize tm.getD 54 undef = y54 at HF3
            generalize tm.getD 55 undef = y55 at HF3
            generalize tm.getD 56 undef = y56 at HF3
            generalize tm.getD 57 undef = y57 at HF3
            generalize tm.getD 58 undef = y58 at HF3
            generalize tm.getD 59 undef = y59 at HF3
            generalize tm.getD 60 undef = y60 at HF3
            generalize tm.getD 61 undef = y61 at HF3
            generalize tm.getD 62 undef = y62 at HF3
            simp only [List.setIfInBounds_toArray, List.set_cons_succ, List.set_cons_zero] at HF3
            subst HF3
            clear hok hall
            go_wp2
            first | refine bodyPost_end (results_none rfl _ _ _) rfl ?_ | refine bodyPost_ret (results_none rfl _ _ _) rfl ?_
            exact ⟨rfl, ⟨v2, FIN.out⟩, BFI.out⟩
end Go.Proofs.Ytpaneggajjgdlaa.Str
