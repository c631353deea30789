/- unroll.Apart of frames 0 and 1; condition: the circuit lies in memory, the new variables begin behind 0 to 8192. -/
import Derived.Test.YtbgcoeejmnejdaaPt38
namespace Go.Proofs.Ytbgcoeejmnejdaa.Unr
open Go.ChangeShapes Go.WideShapes Go.ChangeAt Go.RowKit Go.Maps Circ Cw Str Sim Rep Cla Tse

/-- one element more, and where the list lies then -/
theorem wpList_push_at {ops : Array Oper} {rest : List Oper} {o : Oper} {a : Act} {Q : Exit → Act → World → Prop} (w : World) (hgd : o.guard = none) (s x : Operand) (T : TypeId)
    (ho : o.op = .call { callee := .builtin .append, args := #[s, x], argTypes := #[T, T] })
    (e m bytes : Nat) (z : Value) (hT : Try.prog.underlying T = some (.slice e)) (hi : (Try.prog.info? e).map (fun i => (i.zero, i.size, i.bytes)) = some (some z, m, bytes)) (hzs : z.cells.size = m) (hm : 0 < m)
    (base : Nat) (v : Value) (xs : List (List Value)) (hown : OwnC w base e m v xs) (hs : a.eval s = v) (g : Nat) (c : Nat) (hx : a.eval x = .slice (some ⟨g, 0, none⟩) 1 c) (y : List Value) (hy : ∀ j u, y[j]? = some u → w.cell? ⟨g, j, none⟩ = some u)
    (hlen : y.length = m) (hone : ∀ u ∈ y, u.oneCell' = true) (hbytes : (xs.length + 1) * bytes ≤ 140737488355328) (hmax : xs.length + 1 ≤ 9223372036854775807) (hbase : base ≤ w.heap.size)
    (h : ∀ v' w', OwnC w' base e m v' (xs ++ [y]) → Below base w w' → (∀ k, k < w.heap.size → some k ≠ v.ownBlock → w'.heap[k]? = w.heap[k]?) → (v'.ownBlock = v.ownBlock ∨ v'.ownBlock = some w.heap.size) → wpList Try.prog ops Q rest (a.put o.dst v') w') : wpList Try.prog ops Q (o :: rest) a w := by
  obtain ⟨i0, hi0, hz0, hz1, hz2⟩ := info_parts hi
  obtain ⟨v', w', h1, h2, h3, _, h5⟩ := run_append_own_at (P := Try.prog) w base T o.type e i0 z m bytes hT hi0 hz0 hz1 hz2 hzs hm v xs.length xs.flatten hown ⟨g, 0, none⟩ 1 c y (by rw [Nat.one_mul]; exact hlen) (fun j u hj => by
    have e : (⟨g, 0, none⟩ : Addr).add j = ⟨g, j, none⟩ := by unfold Addr.add; by_cases hz : j = 0 <;> simp [hz]
    rw [e]; exact hy j u hj) hone (by unfold maxLen; omega) hbytes hbase
  refine wpList_plain hgd fun K hK => ?_
  unfold Oper.wp execOp
  simp only [ho, resolve, invoke, builtin, Sem.run_bind, Sem.run_pure, Result.andThen_ok, List.map_toArray, List.map_cons, List.map_nil, hs, hx, h1]
  refine hK _ _ (h v' w' ?_ ?_ ?_ h5)
  · unfold OwnC
    simpa using h2
  · exact ⟨h3.os, h3.tape, h3.output, h3.size, fun k hk => h3.block k (by omega) (fun e => by have := hown.block_lt k e.symm; omega)⟩
  · exact fun k hk hne => h3.block k hk hne
theorem Mz.keep_at {w w' : World} {z : Clz} (h : Mz w z) {b : Nat} (hA : z.A = some ⟨b, 0, none⟩) (hk : w'.heap[b]? = w.heap[b]?) : Mz w' z := by
  refine ⟨?_, h.fits, h.len⟩
  rcases h.row with h0 | ⟨g, cs, hg, hb, hc⟩
  · exact .inl h0
  · rw [hA] at hg
    injection hg with hg
    injection hg with hg
    subst hg
    exact .inr ⟨b, cs, hA, hk.trans hb, hc⟩
theorem own_other {w : World} {B B' m m' : Nat} {E E' : TypeId} {v v' : Value} {xs xs' : List (List Value)} (h : OwnC w B E m v xs) (h' : OwnC w B' E' m' v' xs') (hE : E ≠ E') (g : Nat) (hg : v.ownBlock = some g) : some g ≠ v'.ownBlock := by
  intro e
  obtain ⟨_, h⟩ := h
  obtain ⟨_, h'⟩ := h'
  rcases h with ⟨rfl, h0⟩ | ⟨b, cap, cur, rfl, -, hh, -⟩
  · simp [Value.ownBlock] at hg
  · rcases h' with ⟨rfl, h0⟩ | ⟨b', cap', cur', rfl, -, hh', -⟩
    · simp [Value.ownBlock] at e
    · have e1 : b = g := by simpa [Value.ownBlock] using hg
      have e2 : g = b' := by simpa [Value.ownBlock] using e
      subst e1
      subst e2
      rw [hh] at hh'
      injection hh' with hh'
      injection hh' with _ hh' _
      exact hE hh'
/-- two clauses and a list of them -/
theorem list_two (V : World) (z1 z2 : Clz) : LRow (V.alloc (.cells #[.slice z1.A z1.l.length z1.q, .slice z2.A z2.l.length z2.q] 22)) (V.alloc (.cells #[.slice z1.A z1.l.length z1.q, .slice z2.A z2.l.length z2.q] 22)).heap.size 1 (some ⟨V.heap.size, 0, none⟩) ([z1, z2].map Clz.cells) := by
  have hh : (V.alloc (.cells #[.slice z1.A z1.l.length z1.q, .slice z2.A z2.l.length z2.q] 22)).heap[V.heap.size]? = some (.cells #[.slice z1.A z1.l.length z1.q, .slice z2.A z2.l.length z2.q] 22 (0, 0)) := Array.getElem?_push_size
  generalize V.alloc (.cells #[.slice z1.A z1.l.length z1.q, .slice z2.A z2.l.length z2.q] 22) = V3 at *
  refine .inr ⟨V.heap.size, 0, rfl, (Array.getElem?_eq_some_iff.1 hh).1, fun i ys hi j u hj => ?_⟩
  have hx := Lib.cell_of_heap hh
  match i, hi with
  | 0, hi =>
    obtain rfl : z1.cells = ys := by simpa using hi
    match j, hj with
    | 0, hj => obtain rfl : Value.slice z1.A z1.l.length z1.q = u := by simpa [Clz.cells] using hj
               exact hx 0
  | 1, hi =>
    obtain rfl : z2.cells = ys := by simpa using hi
    match j, hj with
    | 0, hj => obtain rfl : Value.slice z2.A z2.l.length z2.q = u := by simpa [Clz.cells] using hj
               exact hx 1
theorem latT_neg (c : Cir) (b : Int) (k : Nat) : latT c b (-((k : Int) + 1)) = -latT c b ((k : Int) + 1) := by
  unfold latT
  rw [if_pos (by omega), if_neg (by omega), show (- -((k : Int) + 1) - 1).toNat = k by omega, show ((k : Int) + 1 - 1).toNat = k by omega]
def ap5R (c : Cir) (s : Places) : Nat → (Nat → Value) → World → Prop
  | 0, f, _ => f 20 = cirV c s
  | 1, f, _ => f 21 = .int .i64 0
  | 2, f, w => ∃ bk bb bc, f 22 = latV bk bb bc ∧ LatAt w c s 0 bk bb bc
  | 3, f, _ => f 23 = cirV c s
  | 4, f, _ => f 24 = .int .i64 1
  | 5, f, w => ∃ bk bb bc, f 25 = latV bk bb bc ∧ LatAt w c s (c.max + 1) bk bb bc
  | 6, f, w => ∃ bk bb bc, f 11 = latV bk bb bc ∧ LatAt w c s 0 bk bb bc
  | 7, f, w => ∃ bk bb bc, f 12 = latV bk bb bc ∧ LatAt w c s (c.max + 1) bk bb bc
  | _, _, _ => True
def ap5M : Nat → List Nat
  | 0 => [20]
  | 1 => [21]
  | 2 => [22]
  | 3 => [23]
  | 4 => [24]
  | 5 => [25]
  | 6 => [11]
  | 7 => [12]
  | _ => []
theorem ap5_stab {c : Cir} {s : Places} (jj : Nat) {f f' : Nat → Value} {w w' : World} (hb : Below w.heap.size w w') (hf : ∀ t ∈ ap5M jj, f' t = f t) (h : ap5R c s jj f w) : ap5R c s jj f' w' := by
  match jj, hf, h with
  | 0, hf, h => exact (hf 20 (by decide)).trans h
  | 1, hf, h => exact (hf 21 (by decide)).trans h
  | 2, hf, h => obtain ⟨bk, bb, bc, q1, q2⟩ := h; exact ⟨bk, bb, bc, (hf 22 (by decide)).trans q1, q2.below hb⟩
  | 3, hf, h => exact (hf 23 (by decide)).trans h
  | 4, hf, h => exact (hf 24 (by decide)).trans h
  | 5, hf, h => obtain ⟨bk, bb, bc, q1, q2⟩ := h; exact ⟨bk, bb, bc, (hf 25 (by decide)).trans q1, q2.below hb⟩
  | 6, hf, h => obtain ⟨bk, bb, bc, q1, q2⟩ := h; exact ⟨bk, bb, bc, (hf 11 (by decide)).trans q1, q2.below hb⟩
  | 7, hf, h => obtain ⟨bk, bb, bc, q1, q2⟩ := h; exact ⟨bk, bb, bc, (hf 12 (by decide)).trans q1, q2.below hb⟩
  | _ + 8, _, _ => trivial
theorem op_asU (a : Act) (w : World) (t : Nat) (oo : Oper) (ho : oo.op = .assign (.tmp t)) : (execOp a.eval oo).run Try.prog w = .ok (.value (a.tmps.getD t undef)) w := by
  unfold execOp
  rw [ho]
  go_simp
set_option maxHeartbeats 16000000 in
set_option maxRecDepth 100000 in
theorem apart_no (c : Cir) (s : Places) (x : Int) (w : World) (h : CLies w w.heap.size c s) (hf : CFits c s) (hr : refOk c = false) :
    Calls Try.prog 41 #[cirV c s, .int .i64 0, .int .i64 1, .int .i64 x] w fun e w' => e = .returned (.slice none 0 0) ∧ Below w.heap.size w w' := by
  obtain ⟨WA, hWA⟩ : ∃ x, w.alloc (.cells #[.int .i64 c.max, .slice s.ai c.ins.length s.ki, .slice s.al c.lats.length s.kl, .slice s.ao c.outs.length s.ko, .slice s.ab c.bads.length s.kb, .slice s.ac c.invs.length s.kc, .slice s.aa c.ands.length s.ka, .slice s.an c.names.length s.kn] 27) = x := ⟨_, rfl⟩
  have bA : Hid (Below w.heap.size w WA) := by unfold Hid; rw [← hWA]; exact (Below.refl _ _).alloc (Nat.le_refl _) _
  have GA : Hid (WA.heap[w.heap.size]? = some (.cells (cirC c s) 27 (0, 0))) := by unfold Hid; rw [← hWA]; exact Array.getElem?_push_size
  have GW : Hid (∀ x, Below WA.heap.size WA x → x.heap[w.heap.size]? = some (.cells (cirC c s) 27 (0, 0))) := fun x hx => (hx.block _ (lt_of_block GA.out)).trans GA.out
  have CW : Hid (∀ x, Below WA.heap.size WA x → CLies x x.heap.size c s) := fun x hx => by
    have h1 := bA.out.trans (hx.mono bA.out.size)
    exact (h.below h1).more h1.size
  obtain ⟨WB, hWB⟩ : ∃ x, WA.alloc (.cells #[.int .i64 0, .int .i64 1] 3) = x := ⟨_, rfl⟩
  have bB : Hid (Below WA.heap.size WA WB) := by unfold Hid; rw [← hWB]; exact (Below.refl _ _).alloc (Nat.le_refl _) _
  have IL := ints_two WA 0 1 (by unfold I64; decide) (by unfold I64; decide)
  rw [hWB] at IL
  have MY := Lib.hid (may_any c s [0, 1] _ 2 WB (CW.out _ bB.out) hf IL)
  rw [may_two c 0 1 (by decide) (by decide), hr, show [(0 : Int), 1].length = 2 from rfl] at MY
  obtain ⟨e0, e1, e2, e3, e4, e5, e6, e7⟩ := cells8 GA.out
  clear IL
  clear h hf hr
  unfold cirV at MY ⊢
  rw [show cirC c s = #[.int .i64 c.max, .slice s.ai c.ins.length s.ki, .slice s.al c.lats.length s.kl, .slice s.ao c.outs.length s.ko, .slice s.ab c.bads.length s.kb, .slice s.ac c.invs.length s.kc, .slice s.aa c.ands.length s.ka, .slice s.an c.names.length s.kn] from rfl] at MY ⊢
  go_enter Try.func41, Try.ntmps41
  go_wp2_with fail
  refine MY.out.mono ?_
  rintro e w1 ⟨rfl, hb⟩
  have B1 : Hid (Below w.heap.size w w1) := bA.out.trans ((bB.out.trans (hb.mono bB.out.size)).mono bA.out.size)
  clear hb MY hWA hWB e0 e1 e2 e3 e4 e5 e6 e7
  go_wp2
  go_ret
  exact ⟨rfl, B1.out⟩
set_option maxHeartbeats 16000000 in
set_option maxRecDepth 100000 in
theorem apart_yes (c : Cir) (s : Places) (x : Int) (w : World) (h : CLies w w.heap.size c s) (hf : CFits c s) (hx0 : 0 ≤ x) (hx1 : x ≤ 8192) (hr : refOk c = true) :
    Calls Try.prog 41 #[cirV c s, .int .i64 0, .int .i64 1, .int .i64 x] w fun e w' => (∃ K A' q', e = .returned (.slice A' K.length q') ∧ ALies w' w'.heap.size A' K ∧ K.map Clz.l = apartL c 0 (c.max + 1) x) ∧ Below w.heap.size w w' := by
  obtain ⟨WA, hWA⟩ : ∃ x, w.alloc (.cells #[.int .i64 c.max, .slice s.ai c.ins.length s.ki, .slice s.al c.lats.length s.kl, .slice s.ao c.outs.length s.ko, .slice s.ab c.bads.length s.kb, .slice s.ac c.invs.length s.kc, .slice s.aa c.ands.length s.ka, .slice s.an c.names.length s.kn] 27) = x := ⟨_, rfl⟩
  have bA : Hid (Below w.heap.size w WA) := by unfold Hid; rw [← hWA]; exact (Below.refl _ _).alloc (Nat.le_refl _) _
  have GA : Hid (WA.heap[w.heap.size]? = some (.cells (cirC c s) 27 (0, 0))) := by unfold Hid; rw [← hWA]; exact Array.getElem?_push_size
  have GW : Hid (∀ x, Below WA.heap.size WA x → x.heap[w.heap.size]? = some (.cells (cirC c s) 27 (0, 0))) := fun x hx => (hx.block _ (lt_of_block GA.out)).trans GA.out
  have CW : Hid (∀ x, Below WA.heap.size WA x → CLies x x.heap.size c s) := fun x hx => by
    have h1 := bA.out.trans (hx.mono bA.out.size)
    exact (h.below h1).more h1.size
  obtain ⟨WB, hWB⟩ : ∃ x, WA.alloc (.cells #[.int .i64 0, .int .i64 1] 3) = x := ⟨_, rfl⟩
  have bB : Hid (Below WA.heap.size WA WB) := by unfold Hid; rw [← hWB]; exact (Below.refl _ _).alloc (Nat.le_refl _) _
  have IL := ints_two WA 0 1 (by unfold I64; decide) (by unfold I64; decide)
  rw [hWB] at IL
  have MY := Lib.hid (may_any c s [0, 1] _ 2 WB (CW.out _ bB.out) hf IL)
  rw [may_two c 0 1 (by decide) (by decide), hr, show [(0 : Int), 1].length = 2 from rfl] at MY
  obtain ⟨e0, e1, e2, e3, e4, e5, e6, e7⟩ := cells8 GA.out
  clear IL
  have LA := Lib.hid (fun x (hx : Below WA.heap.size WA x) => latches_any c s 0 x (CW.out x hx) hr (by decide))
  rw [Int.zero_mul] at LA
  have LB := Lib.hid (fun x (hx : Below WA.heap.size WA x) => latches_any c s 1 x (CW.out x hx) hr (by decide))
  rw [Int.one_mul] at LB
  have EV : Hid (∀ args w, (callFunc 80 args).run Try.prog w = .ok (.enter 80 args) w) := enters_of Try.func80 (by kernel_rfl) rfl
  have HR := Lib.hid hr
  have HF := Lib.hid hf
  have HZ := Lib.hid (ref_sizes hr)
  have HMX := Lib.hid (max_small hr)
  clear h hf hr
  unfold cirV at MY ⊢
  rw [show cirC c s = #[.int .i64 c.max, .slice s.ai c.ins.length s.ki, .slice s.al c.lats.length s.kl, .slice s.ao c.outs.length s.ko, .slice s.ab c.bads.length s.kb, .slice s.ac c.invs.length s.kc, .slice s.aa c.ands.length s.ka, .slice s.an c.names.length s.kn] from rfl] at MY ⊢
  go_enter Try.func41, Try.ntmps41
  go_wp2_with fail
  refine MY.out.mono ?_
  rintro e w1 ⟨rfl, hb⟩
  have B1 : Hid (Below WA.heap.size WA w1) := bB.out.trans (hb.mono bB.out.size)
  clear hb MY hWA hWB e0 e1 e2 e3 e4 e5 e6 e7
  go_wp2
  refine wp_region_valsD (by kernel_rfl) (by kernel_rfl) ap5M (by kernel_rfl) (by kernel_rfl)
    (fun _ w' => Below w1.heap.size w1 w') (ap5R c s) (Below.refl _ _).drew (fun jj f f' w w' hb hf h => ap5_stab jj hb hf h) ?_ ?_
  · intro i oo d a' w' ho hd hun hdf hok hD K hK hK0
    match i, ho, hd, hD, hK, hK0, hun with
    | 0, ho, hd, hD, hK, hK0, hun =>
      have e := (congrArg Oper.op (Option.some.inj ho)).symm
      obtain rfl := Option.some.inj ho
      exact wp_val (op_load_cirV a' w' w.heap.size 4 c s (hun 4 (by kernel_rfl)) (GW.out _ (B1.out.trans (hok.mono B1.out.size))) _ e) (hK _ _ (Below.refl _ _) hok (fun f h1 _ => h1 20 rfl))
    | 1, ho, hd, hD, hK, hK0, hun =>
      have e := (congrArg Oper.op (Option.some.inj ho)).symm
      obtain rfl := Option.some.inj ho
      exact wp_val (op_mvU a' w' 1 _ e) (hK _ _ (Below.refl _ _) hok (fun f h1 _ => (h1 21 rfl).trans (hun 1 (by kernel_rfl))))
    | 2, ho, hd, hD, hK, hK0, hun =>
      have e := (congrArg Oper.op (Option.some.inj ho)).symm
      obtain rfl := Option.some.inj ho
      refine wp_enter (op_callU a' w' _ 20 21 _ _ EV.out _ e) ?_
      rw [show a'.tmps.getD 20 undef = cirV c s from hD 0 (by kernel_rfl), show a'.tmps.getD 21 undef = .int .i64 0 from hD 1 (by kernel_rfl)]
      refine (LA.out w' (B1.out.trans (hok.mono B1.out.size))).mono ?_
      rintro ee w2 ⟨⟨bk, bb, bc, rfl, hat⟩, hb2⟩
      exact .inl ⟨_, rfl, hK _ _ hb2 (hok.trans (hb2.mono hok.size)) (fun f h1 _ => ⟨bk, bb, bc, h1 22 rfl, hat⟩)⟩
    | 3, ho, hd, hD, hK, hK0, hun =>
      have e := (congrArg Oper.op (Option.some.inj ho)).symm
      obtain rfl := Option.some.inj ho
      exact wp_val (op_load_cirV a' w' w.heap.size 4 c s (hun 4 (by kernel_rfl)) (GW.out _ (B1.out.trans (hok.mono B1.out.size))) _ e) (hK _ _ (Below.refl _ _) hok (fun f h1 _ => h1 23 rfl))
    | 4, ho, hd, hD, hK, hK0, hun =>
      have e := (congrArg Oper.op (Option.some.inj ho)).symm
      obtain rfl := Option.some.inj ho
      exact wp_val (op_mvU a' w' 2 _ e) (hK _ _ (Below.refl _ _) hok (fun f h1 _ => (h1 24 rfl).trans (hun 2 (by kernel_rfl))))
    | 5, ho, hd, hD, hK, hK0, hun =>
      have e := (congrArg Oper.op (Option.some.inj ho)).symm
      obtain rfl := Option.some.inj ho
      refine wp_enter (op_callU a' w' _ 23 24 _ _ EV.out _ e) ?_
      rw [show a'.tmps.getD 23 undef = cirV c s from hD 3 (by kernel_rfl), show a'.tmps.getD 24 undef = .int .i64 1 from hD 4 (by kernel_rfl)]
      refine (LB.out w' (B1.out.trans (hok.mono B1.out.size))).mono ?_
      rintro ee w2 ⟨⟨bk, bb, bc, rfl, hat⟩, hb2⟩
      exact .inl ⟨_, rfl, hK _ _ hb2 (hok.trans (hb2.mono hok.size)) (fun f h1 _ => ⟨bk, bb, bc, h1 25 rfl, hat⟩)⟩
    | 6, ho, hd, hD, hK, hK0, hun =>
      have e := (congrArg Oper.op (Option.some.inj ho)).symm
      obtain rfl := Option.some.inj ho
      obtain ⟨bk, bb, bc, q1, q2⟩ := hD 2 (by kernel_rfl)
      exact wp_val (op_asU a' w' 22 _ e) (hK _ _ (Below.refl _ _) hok (fun f h1 _ => ⟨bk, bb, bc, (h1 11 rfl).trans q1, q2⟩))
    | 7, ho, hd, hD, hK, hK0, hun =>
      have e := (congrArg Oper.op (Option.some.inj ho)).symm
      obtain rfl := Option.some.inj ho
      obtain ⟨bk, bb, bc, q1, q2⟩ := hD 5 (by kernel_rfl)
      exact wp_val (op_asU a' w' 25 _ e) (hK _ _ (Below.refl _ _) hok (fun f h1 _ => ⟨bk, bb, bc, (h1 12 rfl).trans q1, q2⟩))
    | i + 8, ho, _, _, _, _, _ => exact absurd ho (by simp)
  · intro a' w5 hsz hdf hkt hok hR
    have HF3 := frame_sets [20, 21, 22, 23, 24, 25, 11, 12] (by kernel_rfl) hsz hkt
    obtain ⟨d, hok⟩ := hok
    obtain ⟨ak, ab, ac, p11, hla⟩ := hR 6 (by decide)
    obtain ⟨bk, bb, bc, p12, hlb⟩ := hR 7 (by decide)
    have LTA := Lib.hid hla
    have LTB := Lib.hid hlb
    have B5 : Hid (Below WA.heap.size WA w5) := B1.out.trans (hok.mono B1.out.size)
    unfold latV vals at p11 p12
    obtain ⟨tm, df⟩ := a'
    obtain rfl : df = _ := hdf
    simp only [List.foldl_cons, List.foldl_nil] at HF3
    clear hkt hR hsz
    replace p11 : tm.getD 11 undef = _ := p11
    rw [p11] at HF3
    clear p11
    replace p12 : tm.getD 12 undef = _ := p12
    rw [p12] at HF3
    clear p12
    generalize tm.getD 20 undef = y20 at HF3
    generalize tm.getD 21 undef = y21 at HF3
    generalize tm.getD 22 undef = y22 at HF3
    generalize tm.getD 23 undef = y23 at HF3
    generalize tm.getD 24 undef = y24 at HF3
    generalize tm.getD 25 undef = y25 at HF3
    simp only [List.setIfInBounds_toArray, List.set_cons_succ, List.set_cons_zero] at HF3
    subst HF3
    clear hok hla hlb LA LB EV
    go_wp2
    go_loopw [9, 10, 13] (fun v u i wr => ∃ (k : Nat) (vv uu : Value) (K : List Clz), k ≤ c.lats.length ∧ i = .int .i64 ((k : Int) + 1) ∧ vv = v ∧ uu = u ∧ Mk wr w5.heap.size vv K ∧ K.map Clz.l = (List.range k).flatMap (twoL c 0 (c.max + 1) x) ∧ K.length ≤ 2 * k ∧ OwnC wr w5.heap.size 3 1 uu (ints ((List.range k).map fun (i : Nat) => x + (i : Int) + 1)) ∧ (∀ z ∈ K, ∃ b, z.A = some ⟨b, 0, none⟩ ∧ b < wr.heap.size ∧ some b ≠ uu.ownBlock) ∧ Below w5.heap.size w5 wr) (fun _ _ i _ => c.lats.length + 1 - (intOf i).toNat)
    case atStart => exact ⟨0, _, _, [], Nat.zero_le _, rfl, rfl, rfl, Mk.nil _ _, rfl, Nat.le_refl _, OwnC.nil _ _ _ _, fun _ h => (List.not_mem_nil h).elim, Below.refl _ _⟩
    case round =>
      obtain ⟨k, v1, u1, K, hk, rfl, rfl, rfl, hmk, hkl, hkn, hown, hoff, hb⟩ := hrel
      have MK := Lib.hid hmk
      have HKF := Lib.hid hkl
      have HKL := Lib.hid hkn
      have HOW := Lib.hid hown
      have HOF := Lib.hid hoff
      have BK := Lib.hid hb
      clear hmk hkl hkn hb hown hoff
      have zi : c.lats.length ≤ 64 := HZ.out.2.1
      have GR : Hid (wr.heap[w.heap.size]? = some (.cells (cirC c s) 27 (0, 0))) := GW.out _ (B5.out.trans (BK.out.mono B5.out.size))
      obtain ⟨e0, e1, e2, e3, e4, e5, e6, e7⟩ := cells8 GR.out
      by_cases hlt : k < c.lats.length
      · have HMX2 := HMX.out
        have HP1 : Hid (latK c 0 ((k : Int) + 1) = latT c 0 ((k : Int) + 1)) := latK_lat HR.out (by decide) (by decide) (by omega) (by omega) (by omega)
        have HP2 : Hid (latK c (c.max + 1) ((k : Int) + 1) = latT c (c.max + 1) ((k : Int) + 1)) := latK_lat HR.out (by omega) (by omega) (by omega) (by omega) (by omega)
        have HP3 : Hid (latK c 0 (-((k : Int) + 1)) = -latT c 0 ((k : Int) + 1)) := (latK_lat HR.out (by decide) (by decide) (by omega) (by omega) (by omega)).trans (latT_neg c 0 k)
        have HP4 : Hid (latK c (c.max + 1) (-((k : Int) + 1)) = -latT c (c.max + 1) ((k : Int) + 1)) := (latK_lat HR.out (by omega) (by omega) (by omega) (by omega) (by omega)).trans (latT_neg c (c.max + 1) k)
        have LX1 := Lib.hid (fun z (hz : Below w5.heap.size w5 z) => latches1_any c s 0 ak ab ac ((k : Int) + 1) z (by unfold I64; omega) (LTA.out.below hz) HR.out HF.out)
        have LX2 := Lib.hid (fun z (hz : Below w5.heap.size w5 z) => latches1_any c s (c.max + 1) bk bb bc ((k : Int) + 1) z (by unfold I64; omega) (LTB.out.below hz) HR.out HF.out)
        have LX3 := Lib.hid (fun z (hz : Below w5.heap.size w5 z) => latches1_any c s 0 ak ab ac (-((k : Int) + 1)) z (by unfold I64; omega) (LTA.out.below hz) HR.out HF.out)
        have LX4 := Lib.hid (fun z (hz : Below w5.heap.size w5 z) => latches1_any c s (c.max + 1) bk bb bc (-((k : Int) + 1)) z (by unfold I64; omega) (LTB.out.below hz) HR.out HF.out)
        have HA := latK_fits c 0 ((k : Int) + 1)
        have HBB := latK_fits c (c.max + 1) ((k : Int) + 1)
        rw [HP1.out] at LX1 HA
        rw [HP2.out] at LX2 HBB
        rw [HP3.out] at LX3
        rw [HP4.out] at LX4
        have HNX : Hid ((List.range (k + 1)).flatMap (twoL c 0 (c.max + 1) x) = (List.range k).flatMap (twoL c 0 (c.max + 1) x) ++ [[-(x + (k : Int) + 1), latT c 0 ((k : Int) + 1), latT c (c.max + 1) ((k : Int) + 1)], [-(x + (k : Int) + 1), -latT c 0 ((k : Int) + 1), -latT c (c.max + 1) ((k : Int) + 1)]]) := by
          unfold Hid
          rw [List.range_succ, List.flatMap_append]; rfl
        have HNO : Hid (ints ((List.range (k + 1)).map fun (i : Nat) => x + (i : Int) + 1) = ints ((List.range k).map fun (i : Nat) => x + (i : Int) + 1) ++ [[.int .i64 (x + (k : Int) + 1)]]) := by
          unfold Hid
          rw [List.range_succ, List.map_append]; simp [ints]
        clear HP1 HP2 HP3 HP4 HMX2
        obtain ⟨ya, hya⟩ : ∃ y, latT c 0 ((k : Int) + 1) = y := ⟨_, rfl⟩
        obtain ⟨yb, hyb⟩ : ∃ y, latT c (c.max + 1) ((k : Int) + 1) = y := ⟨_, rfl⟩
        rw [hya] at LX1 LX3 HNX HA
        rw [hyb] at LX2 LX4 HNX HBB
        clear hya hyb
        obtain ⟨hya0, hya1⟩ := HA
        obtain ⟨hyb0, hyb1⟩ := HBB
        have hq1 : -x - ((k : Int) + 1) = -(x + (k : Int) + 1) := by omega
        have hq2 : x + ((k : Int) + 1) = x + (k : Int) + 1 := by omega
        have HQ1 := Lib.hid hq1
        have HQ2 := Lib.hid hq2
        clear hq1 hq2
        have LY1 := Lib.hid (LX1.out wr BK.out)
        go_wp2_with fail
        refine LY1.out.mono ?_
        rintro e wa ⟨rfl, hb2⟩
        have BA2 := Lib.hid (BK.out.trans (hb2.mono BK.out.size))
        have MA := Lib.hid (MK.out.below hb2)
        have OA := Lib.hid (HOW.out.keep hb2)
        have SA : Hid (wr.heap.size ≤ wa.heap.size) := hb2.size
        clear hb2 LX1 LY1 MK e0 e1 e2 e3 e4 e5 e6 e7
        have LY2 := Lib.hid (LX2.out wa BA2.out)
        go_wp2_with fail
        refine LY2.out.mono ?_
        rintro e wb ⟨rfl, hb2⟩
        have BB2 := Lib.hid (BA2.out.trans (hb2.mono BA2.out.size))
        have MB := Lib.hid (MA.out.below hb2)
        have OB := Lib.hid (OA.out.keep hb2)
        have SB : Hid (wr.heap.size ≤ wb.heap.size) := Nat.le_trans SA.out hb2.size
        clear hb2 LX2 LY2 MA OA SA BA2
        obtain ⟨V1, hV1⟩ : ∃ z, wb.alloc (.cells #[.int .i64 (-x - ((k : Int) + 1)), .int .i64 ya, .int .i64 yb] 3) = z := ⟨_, rfl⟩
        have bV1 : Below wb.heap.size wb V1 := by rw [← hV1]; exact (Below.refl _ _).alloc (Nat.le_refl _) _
        have mz1 := mz_three wb (-x - ((k : Int) + 1)) ya yb (by unfold I64; omega) (by unfold I64; omega) (by unfold I64; omega)
        rw [hV1] at mz1
        have SV1 : Hid (V1.heap.size = wb.heap.size + 1) := by unfold Hid; rw [← hV1]; simp
        have BV1 := Lib.hid (BB2.out.trans (bV1.mono BB2.out.size))
        have MV1 := Lib.hid (MB.out.below bV1)
        have OV1 := Lib.hid (OB.out.keep bV1)
        have MZ1 := Lib.hid mz1
        clear bV1 mz1 MB OB BB2
        have LY3 := Lib.hid (LX3.out V1 BV1.out)
        go_wp2_with fail
        refine LY3.out.mono ?_
        rintro e wc ⟨rfl, hb2⟩
        have BC2 := Lib.hid (BV1.out.trans (hb2.mono BV1.out.size))
        have MC := Lib.hid (MV1.out.below hb2)
        have OC := Lib.hid (OV1.out.keep hb2)
        have MZ1c := Lib.hid (MZ1.out.below hb2)
        have SC : Hid (V1.heap.size ≤ wc.heap.size) := hb2.size
        clear hb2 LX3 LY3 MV1 OV1 MZ1 BV1 hV1
        have LY4 := Lib.hid (LX4.out wc BC2.out)
        go_wp2_with fail
        refine LY4.out.mono ?_
        rintro e wd ⟨rfl, hb2⟩
        have BD2 := Lib.hid (BC2.out.trans (hb2.mono BC2.out.size))
        have MD := Lib.hid (MC.out.below hb2)
        have OD := Lib.hid (OC.out.keep hb2)
        have MZ1d := Lib.hid (MZ1c.out.below hb2)
        have SD : Hid (V1.heap.size ≤ wd.heap.size) := Nat.le_trans SC.out hb2.size
        clear hb2 LX4 LY4 MC OC MZ1c BC2 SC
        obtain ⟨V2, hV2⟩ : ∃ z, wd.alloc (.cells #[.int .i64 (-x - ((k : Int) + 1)), .int .i64 (-ya), .int .i64 (-yb)] 3) = z := ⟨_, rfl⟩
        have bV2 : Below wd.heap.size wd V2 := by rw [← hV2]; exact (Below.refl _ _).alloc (Nat.le_refl _) _
        have mz2 := mz_three wd (-x - ((k : Int) + 1)) (-ya) (-yb) (by unfold I64; omega) (by unfold I64; omega) (by unfold I64; omega)
        rw [hV2] at mz2
        have SV2 : Hid (V2.heap.size = wd.heap.size + 1) := by unfold Hid; rw [← hV2]; simp
        obtain ⟨V3, hV3⟩ : ∃ z, V2.alloc (.cells #[.slice (some ⟨wb.heap.size, 0, none⟩) 3 3, .slice (some ⟨wd.heap.size, 0, none⟩) 3 3] 22) = z := ⟨_, rfl⟩
        have bV3 : Below V2.heap.size V2 V3 := by rw [← hV3]; exact (Below.refl _ _).alloc (Nat.le_refl _) _
        have rv := list_two V2 ⟨[-x - ((k : Int) + 1), ya, yb], some ⟨wb.heap.size, 0, none⟩, 3⟩ ⟨[-x - ((k : Int) + 1), -ya, -yb], some ⟨wd.heap.size, 0, none⟩, 3⟩
        rw [show V2.alloc (.cells #[.slice (⟨[-x - ((k : Int) + 1), ya, yb], some ⟨wb.heap.size, 0, none⟩, 3⟩ : Clz).A (⟨[-x - ((k : Int) + 1), ya, yb], some ⟨wb.heap.size, 0, none⟩, 3⟩ : Clz).l.length (⟨[-x - ((k : Int) + 1), ya, yb], some ⟨wb.heap.size, 0, none⟩, 3⟩ : Clz).q, .slice (⟨[-x - ((k : Int) + 1), -ya, -yb], some ⟨wd.heap.size, 0, none⟩, 3⟩ : Clz).A (⟨[-x - ((k : Int) + 1), -ya, -yb], some ⟨wd.heap.size, 0, none⟩, 3⟩ : Clz).l.length (⟨[-x - ((k : Int) + 1), -ya, -yb], some ⟨wd.heap.size, 0, none⟩, 3⟩ : Clz).q] 22) = V3 from hV3] at rv
        have RV := Lib.hid rv
        have MV : Hid (∀ q ∈ [(⟨[-x - ((k : Int) + 1), ya, yb], some ⟨wb.heap.size, 0, none⟩, 3⟩ : Clz), ⟨[-x - ((k : Int) + 1), -ya, -yb], some ⟨wd.heap.size, 0, none⟩, 3⟩], Mz V3 q) := fun q hq => by
          rcases List.mem_cons.1 hq with rfl | hq
          · exact (MZ1d.out.below bV2).below bV3
          · rw [List.mem_singleton.1 hq]; exact mz2.below bV3
        have M3 := Lib.hid ((MD.out.below bV2).below bV3)
        have O3 := Lib.hid ((OD.out.keep bV2).keep bV3)
        have B3 := Lib.hid ((BD2.out.trans (bV2.mono BD2.out.size)).trans (bV3.mono (Nat.le_trans BD2.out.size bV2.size)))
        have S3 : Hid (V2.heap.size ≤ V3.heap.size) := bV3.size
        clear bV2 bV3 mz2 rv MD OD MZ1d BD2
        go_wp2_with (at_builtin; refine wpList_append_row _ rfl (.tmp 33) (.tmp 58) 58 rfl w5.heap.size V3.heap.size 22 1 24 (.slice none 0 0) Try.underlying58 row_info rfl (by decide) v1 _ _ rfl M3.out.own (some ⟨V2.heap.size, 0, none⟩) 2 2 rfl rfl RV.out (fun y hy => cells_len _ y hy) (fun y hy => cells_one _ y hy) (by have h1 := HKL.out; rw [List.length_map]; simp; omega) (by have h1 := HKL.out; rw [List.length_map]; simp; omega) B3.out.size ?_)
        intro v2 w6 hown hbel hkeep
        have MK6 : Hid (Mk w6 w5.heap.size v2 (K ++ [(⟨[-x - ((k : Int) + 1), ya, yb], some ⟨wb.heap.size, 0, none⟩, 3⟩ : Clz), ⟨[-x - ((k : Int) + 1), -ya, -yb], some ⟨wd.heap.size, 0, none⟩, 3⟩])) := M3.out.push MV.out hown hkeep
        have B6 : Hid (Below w5.heap.size w5 w6) := B3.out.trans hbel
        have OO6 : Hid (OwnC w6 w5.heap.size 3 1 u1 (ints ((List.range k).map fun (i : Nat) => x + (i : Int) + 1))) := O3.out.keep_at (fun g _ hg => hkeep g (O3.out.block_lt g hg).2 (own_other O3.out M3.out.own (by decide) g hg))
        have HLT6 : Hid (V3.heap.size ≤ w6.heap.size) := hbel.size
        clear hown hbel hkeep hV2 hV3 MV RV M3 O3 B3
        obtain ⟨V4, hV4⟩ : ∃ z, w6.alloc (.cells #[.int .i64 (x + ((k : Int) + 1))] 3) = z := ⟨_, rfl⟩
        have bV4 : Below w6.heap.size w6 V4 := by rw [← hV4]; exact (Below.refl _ _).alloc (Nat.le_refl _) _
        have SV4 : Hid (V4.heap.size = w6.heap.size + 1) := by unfold Hid; rw [← hV4]; simp
        have MK7 := Lib.hid (MK6.out.below bV4)
        have OO7 := Lib.hid (OO6.out.keep bV4)
        have B7 := Lib.hid (B6.out.trans (bV4.mono B6.out.size))
        have CV : Hid (∀ (j : Nat) u, [Value.int .i64 (x + ((k : Int) + 1))][j]? = some u → V4.cell? ⟨w6.heap.size, j, none⟩ = some u) := fun j u hj => by
          rw [← hV4, Lib.cell_of_heap (show (w6.alloc (.cells #[.int .i64 (x + ((k : Int) + 1))] 3)).heap[w6.heap.size]? = some (.cells #[.int .i64 (x + ((k : Int) + 1))] 3 (0, 0)) from Array.getElem?_push_size)]; simpa using hj
        have HONE : Hid (∀ u ∈ [Value.int .i64 (x + ((k : Int) + 1))], u.oneCell' = true) := fun u hu => by
          simp only [List.mem_singleton] at hu
          subst hu; rfl
        have HLN : Hid ((ints ((List.range k).map fun (i : Nat) => x + (i : Int) + 1)).length = k) := by unfold Hid; simp [ints]
        have HOF7 : Hid (∀ z ∈ K ++ [(⟨[-x - ((k : Int) + 1), ya, yb], some ⟨wb.heap.size, 0, none⟩, 3⟩ : Clz), ⟨[-x - ((k : Int) + 1), -ya, -yb], some ⟨wd.heap.size, 0, none⟩, 3⟩], ∃ b, z.A = some ⟨b, 0, none⟩ ∧ b < V4.heap.size ∧ some b ≠ u1.ownBlock) := fun z hz => by
          have s1 := SB.out
          have s2 := SV1.out
          have s3 := SD.out
          have s4 := SV2.out
          have s5 := S3.out
          have s6 := HLT6.out
          have s7 := SV4.out
          rcases List.mem_append.1 hz with hz | hz
          · obtain ⟨b, q1, q2, q3⟩ := HOF.out z hz
            exact ⟨b, q1, by omega, q3⟩
          · rcases List.mem_cons.1 hz with rfl | hz
            · refine ⟨_, rfl, by omega, fun e => ?_⟩
              have := (HOW.out.block_lt _ e.symm).2
              omega
            · rw [List.mem_singleton.1 hz]
              refine ⟨_, rfl, by omega, fun e => ?_⟩
              have := (HOW.out.block_lt _ e.symm).2
              omega
        clear bV4 MK6 OO6 B6 HOF HOW
        go_wp2_with (at_builtin; refine wpList_push_at _ rfl (.tmp 60) (.tmp 64) 22 rfl 3 1 8 (.int .i64 0) Try.underlying22 int_info rfl (by decide) w5.heap.size u1 _ OO7.out rfl w6.heap.size 1 rfl [.int .i64 (x + ((k : Int) + 1))] CV.out rfl HONE.out (by have h1 := HLN.out; omega) (by have h1 := HLN.out; omega) B7.out.size ?_)
        intro u2 w8 hown hbel hkeep hwhere
        have OO8 : Hid (OwnC w8 w5.heap.size 3 1 u2 (ints ((List.range (k + 1)).map fun (i : Nat) => x + (i : Int) + 1))) := by unfold Hid; rw [HNO.out, ← HQ2.out]; exact hown
        have B8 : Hid (Below w5.heap.size w5 w8) := B7.out.trans hbel
        have MK8 : Hid (Mk w8 w5.heap.size v2 (K ++ [(⟨[-x - ((k : Int) + 1), ya, yb], some ⟨wb.heap.size, 0, none⟩, 3⟩ : Clz), ⟨[-x - ((k : Int) + 1), -ya, -yb], some ⟨wd.heap.size, 0, none⟩, 3⟩])) := by
          refine ⟨MK7.out.own.keep_at (fun g _ hg => hkeep g (MK7.out.own.block_lt g hg).2 (own_other MK7.out.own OO7.out (by decide) g hg)), fun z hz => ?_⟩
          obtain ⟨b, q1, q2, q3⟩ := HOF7.out z hz
          exact Mz.keep_at (MK7.out.each z hz) q1 (hkeep b q2 q3)
        have HOF8 : Hid (∀ z ∈ K ++ [(⟨[-x - ((k : Int) + 1), ya, yb], some ⟨wb.heap.size, 0, none⟩, 3⟩ : Clz), ⟨[-x - ((k : Int) + 1), -ya, -yb], some ⟨wd.heap.size, 0, none⟩, 3⟩], ∃ b, z.A = some ⟨b, 0, none⟩ ∧ b < w8.heap.size ∧ some b ≠ u2.ownBlock) := fun z hz => by
          obtain ⟨b, q1, q2, q3⟩ := HOF7.out z hz
          have s1 := hbel.size
          refine ⟨b, q1, by omega, ?_⟩
          rcases hwhere with e | e
          · rw [e]; exact q3
          · rw [e]
            intro e2
            injection e2 with e2
            omega
        have HN2 : Hid ((K ++ [(⟨[-x - ((k : Int) + 1), ya, yb], some ⟨wb.heap.size, 0, none⟩, 3⟩ : Clz), ⟨[-x - ((k : Int) + 1), -ya, -yb], some ⟨wd.heap.size, 0, none⟩, 3⟩]).map Clz.l = (List.range (k + 1)).flatMap (twoL c 0 (c.max + 1) x)) := by
          unfold Hid
          rw [HNX.out, List.map_append, HKF.out, ← HQ1.out]; rfl
        clear hown hbel hkeep hwhere hV4 MK7 OO7 HOF7 CV HONE
        go_wp2
        go_roundw
        case rel => exact ⟨k + 1, _, _, _, by omega, by go_num, rfl, rfl, MK8.out, HN2.out, by have := HKL.out; simp; omega, OO8.out, HOF8.out, B8.out⟩
        case measure => simp [intOf]; omega
      · obtain rfl : k = c.lats.length := by omega
        obtain ⟨wq, rfl⟩ : ∃ x, x = wr := ⟨_, rfl⟩
        obtain ⟨A5, q5, hv5, hz5⟩ := own_mz HOW.out (fun y hy => by
          obtain ⟨i, hi, rfl⟩ := List.mem_map.1 hy
          have := List.mem_range.1 hi
          unfold I64; omega)
        subst hv5
        have HYS : Hid (((List.range c.lats.length).map fun (i : Nat) => x + (i : Int) + 1).length = c.lats.length) := by unfold Hid; rw [List.length_map, List.length_range]
        obtain ⟨ys, hys⟩ : ∃ z, ((List.range c.lats.length).map fun (i : Nat) => x + (i : Int) + 1) = z := ⟨_, rfl⟩
        have HAP : Hid (apartL c 0 (c.max + 1) x = (List.range c.lats.length).flatMap (twoL c 0 (c.max + 1) x) ++ [ys]) := by unfold Hid apartL; rw [hys]
        rw [hys] at hz5 HYS ⊢
        have MZ5 := Lib.hid hz5
        clear hz5 HOW HOF hys
        obtain ⟨V2, hV2⟩ : ∃ z, wq.alloc (.cells #[.slice A5 ys.length q5] 22) = z := ⟨_, rfl⟩
        have bV : Below wq.heap.size wq V2 := by rw [← hV2]; exact (Below.refl _ _).alloc (Nat.le_refl _) _
        have CV : Hid (∀ (j : Nat) u, [Value.slice A5 ys.length q5][j]? = some u → V2.cell? ⟨wq.heap.size, j, none⟩ = some u) := fun j u hj => by
          rw [← hV2, Lib.cell_of_heap (show (wq.alloc (.cells #[.slice A5 ys.length q5] 22)).heap[wq.heap.size]? = some (.cells #[.slice A5 ys.length q5] 22 (0, 0)) from Array.getElem?_push_size)]; simpa using hj
        have MV : Hid (∀ q ∈ [(⟨ys, A5, q5⟩ : Clz)], Mz V2 q) := fun q hq => by rw [List.mem_singleton.1 hq]; exact MZ5.out.below bV
        have O2 := Lib.hid (MK.out.below bV)
        have BV : Hid (Below w5.heap.size w5 V2) := BK.out.trans (bV.mono BK.out.size)
        have HONE : Hid (∀ u ∈ [Value.slice A5 ys.length q5], u.oneCell' = true) := fun u hu => by
          simp only [List.mem_singleton] at hu
          subst hu; rfl
        clear bV MZ5 MK BK
        go_wp2_with (at_builtin; refine wpList_push_far _ rfl (.tmp 66) (.tmp 68) 58 rfl 22 1 24 (.slice none 0 0) Try.underlying58 row_info rfl (by decide) w5.heap.size v1 _ O2.out.own rfl wq.heap.size 1 rfl [.slice A5 ys.length q5] CV.out rfl HONE.out (by have h1 := HKL.out; rw [List.length_map]; omega) (by have h1 := HKL.out; rw [List.length_map]; omega) BV.out.size ?_)
        intro v2 w6 hown hbel hkeep
        have MK6 : Hid (Mk w6 w5.heap.size v2 (K ++ [(⟨ys, A5, q5⟩ : Clz)])) := O2.out.push MV.out hown hkeep
        have B6 : Hid (Below w.heap.size w w6) := (bA.out.trans (B5.out.mono bA.out.size)).trans ((BV.out.trans hbel).mono (Nat.le_trans bA.out.size B5.out.size))
        have HE : Hid ((K ++ [(⟨ys, A5, q5⟩ : Clz)]).map Clz.l = apartL c 0 (c.max + 1) x) := by unfold Hid; rw [HAP.out, List.map_append, HKF.out]; rfl
        obtain ⟨A', q', hv, hz⟩ := MK6.out.lies
        have HV := Lib.hid hv
        have HL := Lib.hid hz
        clear hv hz hown hbel hkeep hV2 HKF HAP MK6
        go_wp2
        go_ret
        exact ⟨⟨_, A', q', by rw [← HV.out]; rfl, HL.out, HE.out⟩, B6.out⟩
theorem apart_any (c : Cir) (s : Places) (x : Int) (w : World) (h : CLies w w.heap.size c s) (hf : CFits c s) (hx0 : 0 ≤ x) (hx1 : x ≤ 8192) :
    Calls Try.prog 41 #[cirV c s, .int .i64 0, .int .i64 1, .int .i64 x] w fun e w' => (∃ K A' q', e = .returned (.slice A' K.length q') ∧ ALies w' w'.heap.size A' K ∧ K.map Clz.l = if refOk c = true then apartL c 0 (c.max + 1) x else []) ∧ Below w.heap.size w w' := by
  cases hr : refOk c with
  | true =>
    rw [if_pos rfl]
    exact apart_yes c s x w h hf hx0 hx1 hr
  | false =>
    refine (apart_no c s x w h hf hr).mono ?_
    rintro e w' ⟨rfl, hb⟩
    exact ⟨⟨[], none, 0, rfl, ⟨.inl rfl, fun z hz => (List.not_mem_nil hz).elim, by decide⟩, rfl⟩, hb⟩
end Go.Proofs.Ytbgcoeejmnejdaa.Unr
