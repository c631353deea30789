/- The setter's place and sets, in memory. Condition: a literal of the formula's variables, or 0; at most 2^18 variables. Single operations of another's regions; an append to a list of waiting clauses. No condition but what each states. -/
import Derived.Test.YtefbknpoehmfaaaPb23
import Derived.Test.YtefbknpoehmfaaaPb24
import Derived.Test.YtefbknpoehmfaaaPb10
import Derived.Deep.QuietTactic
import Derived.BigQuiet
import Derived.RangeFuncOwn
import Derived.Test.YtefbknpoehmfaaaPb22
namespace Go.Proofs.Ytefbknpoehmfaaa.For
open Go.ChangeShapes Go.WideShapes Go.ChangeAt Go.RowKit Go.Maps Circ Cw Cla Rep

/-- what a call on the setter leaves -/
def Post (B : Nat) (W : World) (M : Mem) (s : St) (r : Option St) (e : Ending) (W' : World) : Prop :=
  (r = none → e = .panicked (faultI 0) ∧ Below B W W') ∧
  ∀ s', r = some s' → e = .returned (.tuple #[]) ∧ (∃ M' : Mem, Mat W' B M' s' ∧ M'.R = M.R ∧ M'.bs = M.bs ∧ M'.bw = M.bw ∧ (∃ t, M'.bl = M.bl ++ t) ∧ ∀ p, s'.waits.getD p [] = s.waits.getD p [] → M'.vs[p]? = M.vs[p]?) ∧ Below B W W'
set_option maxRecDepth 100000 in
theorem place_any (x : Int) (w : World) (h : x.natAbs ≤ 262144) : Calls Try.prog 27 #[.int .i64 x] w fun e w' => e = .returned (.int .i64 (plc x : Int)) ∧ w' = w := by
  have VA := Lib.hid (var_small x w h)
  by_cases hx : x < 0
  · have hp : (plc x : Int) = 2 * (x.natAbs : Int) + 1 := by unfold plc; rw [if_pos hx]; omega
    rw [hp]
    obtain ⟨k, hk⟩ : ∃ k : Nat, x.natAbs = k := ⟨_, rfl⟩
    rw [hk] at VA ⊢
    have hk2 : k ≤ 262144 := by omega
    clear hp hk
    go_enter Try.func27, Try.ntmps27
    go_wp2_with fail
    refine VA.out.mono ?_
    rintro e w' ⟨rfl, rfl⟩
    go_wp2
    go_ret
    exact ⟨rfl, rfl⟩
  · have hp : (plc x : Int) = 2 * x := by unfold plc; rw [if_neg hx]; omega
    rw [hp]
    have h0 : 0 ≤ x := by omega
    have h1 : x ≤ 262144 := by omega
    clear VA hp
    go_enter Try.func27, Try.ntmps27
    go_wp2
    go_ret
    exact ⟨rfl, rfl⟩
theorem nums_cell {W : World} {b : Nat} {l : List Int} {T : TypeId} (h : W.heap[b]? = some (.cells (numsA l) T (0, 0))) {k : Nat} (hk : k < l.length) : W.cell? ⟨b, k, none⟩ = some (.int .i64 (l.getD k 0)) := by
  unfold numsA at h
  simp [World.cell?, h, hk]
theorem Below.drewN_self (w : World) (k n : Nat) : Below k w (w.drewN n) := below_drewN' (Below.refl _ _) n
theorem keeps_drewN (W : World) (n : Nat) : KeepsOthers W (W.drewN n) := ⟨by simp, fun k o h _ => by simpa using h⟩
theorem _root_.Go.Proofs.Ytefbknpoehmfaaa.Cw.OwnI.cells_of {w : World} {base : Nat} {v : Value} {xs : List Int} (h : OwnI w base v xs) : ∀ (j : Nat) (o : Obj), v.ownBlock = some j → w.heap[j]? = some o → o.isCells = true := fun j o hj ho => by
  rcases h.2 with ⟨rfl, _⟩ | ⟨g, cap, cur, rfl, _, hh, _⟩
  · simp [Value.ownBlock] at hj
  · obtain rfl : g = j := by simpa [Value.ownBlock] using hj
    rw [hh] at ho
    obtain rfl := Option.some.inj ho
    rfl
set_option maxHeartbeats 16000000 in
set_option maxRecDepth 100000 in
theorem sets_mem (W : World) (B : Nat) (M : Mem) (s : St) (x : Int) (h : Mat W B M s) (hB : B ≤ W.heap.size) (hx : x.natAbs < s.set.length) (hN : s.set.length ≤ 262145) (hq : s.queue.length ≤ 1048576) :
    Calls Try.prog 28 #[.pointer (some ⟨M.R, 0, none⟩), .int .i64 x] W fun e W' => Post B W M s (setsP s x) e W' ∧ KeepsOthers W W' := by
  obtain ⟨c0, c1, c2⟩ := cells3 h.box
  have hcz := nums_cell h.set hx
  obtain ⟨z, hz⟩ : ∃ z, atS s x = z := ⟨_, rfl⟩
  rw [show s.set.getD x.natAbs 0 = z from hz] at hcz
  have hfz := thaw3 h.set x.natAbs
  have VA := Lib.hid (fun w => var_small x w (by omega))
  have HNX : IntKind.i64.wrap (-x) = -x := IntWalk.i64_in _ (by omega)
  have HM := Lib.hid h
  have HB := Lib.hid hB
  have HQ := Lib.hid hq
  have HK : Hid (∃ k : Nat, k = x.natAbs) := ⟨_, rfl⟩
  obtain ⟨k, hk⟩ := HK.out
  rw [← hk] at VA hcz hfz
  have hkz : (k : Int) < (s.set.length : Int) := by omega
  have hk0 : (0 : Int) ≤ (k : Int) := by omega
  have hxk : x = (k : Int) ∨ x = -(k : Int) := by omega
  have hk2 : k ≤ 262144 := by omega
  have hks : k < s.set.length := by omega
  have HP : Hid (setsP s x = if x = 0 then none else if z = -x then none else if z = 0 then some { s with set := s.set.set k x, queue := s.queue ++ [x] } else some s) := by
    unfold Hid setsP
    rw [hz, hk]
  rw [HP.out]
  have HPN : Hid (∀ nq : Nat, Post B W M s none (.panicked (faultI 0)) (W.drewN nq) ∧ KeepsOthers W (W.drewN nq)) := fun nq => ⟨⟨fun _ => ⟨rfl, Below.drewN_self _ _ _⟩, (fun s' h => by cases h)⟩, keeps_drewN W nq⟩
  clear HP HK h hB hq hx hz hk
  by_cases hx0 : x = 0
  · have hd : (x != 0) = false := by simp [hx0]
    rw [if_pos hx0]
    clear hx0
    go_enter Try.func28, Try.ntmps28
    go_wp2
    go_quiet ((go_at_call 47; exact Calls.quiet_of_same ((VA.out _).mono (by rintro e w' ⟨rfl, rfl⟩; exact ⟨rfl, rfl⟩))))
    go_wp2_with fail
    refine (need_no _ _).mono ?_
    rintro e w' ⟨rfl, rfl⟩
    exact ⟨rfl, HPN.out _⟩
  · have hd : (x != 0) = true := by simpa using hx0
    rw [if_neg hx0]
    clear hx0
    by_cases hz1 : z = -x
    · have hd1 : (z != -x) = false := by simp [hz1]
      rw [if_pos hz1]
      clear hz1
      go_enter Try.func28, Try.ntmps28
      go_wp2
      go_quiet ((go_at_call 47; exact Calls.quiet_of_same ((VA.out _).mono (by rintro e w' ⟨rfl, rfl⟩; exact ⟨rfl, rfl⟩))))
      go_wp2_with fail
      refine (need_no _ _).mono ?_
      rintro e w' ⟨rfl, rfl⟩
      exact ⟨rfl, HPN.out _⟩
    · have hd1 : (z != -x) = true := by simpa using hz1
      rw [if_neg hz1]
      clear hz1
      by_cases hz2 : z = 0
      · have hd2 : (z == 0) = true := by simp [hz2]
        rw [if_pos hz2]
        clear hz2
        go_enter Try.func28, Try.ntmps28
        go_wp2
        go_quiet ((go_at_call 47; exact Calls.quiet_of_same ((VA.out _).mono (by rintro e w' ⟨rfl, rfl⟩; exact ⟨rfl, rfl⟩))))
        go_wp2_with fail
        refine (need_yes _ _).mono ?_
        rintro e w' ⟨rfl, rfl⟩
        obtain ⟨W1, hW1⟩ : ∃ y, W.drewN nq = y := ⟨_, rfl⟩
        have b1 : Below W.heap.size W W1 := by rw [← hW1]; exact Below.drewN_self _ _ _
        have KO1 : KeepsOthers W W1 := by rw [← hW1]; exact keeps_drewN W nq
        have HM1 := HM.out.keep HB.out b1
        have hB1 : B ≤ W1.heap.size := Nat.le_trans HB.out b1.size
        have hcz1 := (b1.cell (p := ⟨M.bs, k, none⟩) (at_heap HM.out.set)).trans hcz
        have hfz1 := (b1.frozen (p := ⟨M.bs, k, none⟩) (at_heap HM.out.set)).trans hfz
        rw [hW1]
        clear hW1
        obtain ⟨W2, hW2⟩ : ∃ y, W1.setCell ⟨M.bs, k, none⟩ (.int .i64 x) = y := ⟨_, rfl⟩
        obtain ⟨HM2, B2⟩ := HM1.put k x
        rw [hW2] at HM2 B2
        have KO2 := Lib.hid (KO1.trans (hW2 ▸ KeepsOthers.setCell W1 ⟨M.bs, k, none⟩ (.int .i64 x)))
        clear KO1
        have hB2 : B ≤ W2.heap.size := Nat.le_trans hB1 B2.size
        obtain ⟨d0, d1, d2⟩ := cells3 HM2.box
        obtain ⟨A, qc, hqv, -, -, -⟩ := HM2.que.row
        have H2 := Lib.hid HM2
        have HBW2 : Hid (Below B W W2) := (b1.mono HB.out).trans B2
        have HB2 := Lib.hid hB2
        have hba : Below W2.heap.size W2 (W2.alloc (.cells #[.int .i64 x] 3)) := (Below.refl _ _).alloc (Nat.le_refl _) _
        have HQA := Lib.hid (HM2.que.keep hba)
        have HBA : Hid (B ≤ (W2.alloc (.cells #[.int .i64 x] 3)).heap.size) := Nat.le_trans hB2 hba.size
        have HONE := Lib.hid (one_row W2 x 3)
        have HLn : Hid ((s.queue.length + [x].length) * 8 ≤ 140737488355328) := by
          have := HQ.out
          unfold Hid
          simp only [List.length_singleton]
          omega
        clear HM1 hB1 b1 HM2 B2 hB2 hba c0 c1 c2 hcz hfz
        generalize hQV : M.qv = qv at *
        subst hqv
        go_wp2_with (at_builtin; refine wpList_app _ rfl (.tmp 34) (.tmp 36) rfl B _ _ s.queue [x] rfl HQA.out _ 1 1 rfl rfl HONE.out HLn.out HBA.out ?_)
        intro v2 w3 hown2 hg2 hloc2
        have KO3 : KeepsOthers W w3 := KO2.out.trans ((KeepsOthers.alloc W2 _).trans (KeepsOthers.of_grownBy hg2 HQA.out.cells_of))
        rw [← hQV] at hg2 hloc2
        obtain ⟨MQ, BQ, cq, fq⟩ := H2.out.pushQ HB2.out x hown2 hg2 (by rw [World.size_alloc]; exact hloc2)
        obtain ⟨A3, q3, rfl, -, -, -⟩ := hown2.row
        rw [List.length_append, List.length_singleton] at MQ BQ
        have KO := Lib.hid (KO3.trans (KeepsOthers.setCell w3 ⟨M.R, 1, none⟩ (.slice A3 (s.queue.length + 1) q3)))
        have HMQ := Lib.hid MQ
        have HBQ : Hid (Below B W _) := HBW2.out.trans BQ
        rw [hQV] at cq
        clear KO3 KO2 MQ BQ hown2 hg2 hloc2 H2 HBW2 HQA HONE hW2 d0 d1 d2 hQV
        go_wp2
        go_end0
        exact ⟨⟨(fun h => by cases h), fun s' h => by
          obtain rfl := Option.some.inj h
          exact ⟨rfl, ⟨_, HMQ.out, rfl, rfl, rfl, ⟨[], (List.append_nil _).symm⟩, fun _ _ => rfl⟩, HBQ.out⟩⟩, KO.out⟩
      · have hd2 : (z == 0) = false := by simpa using hz2
        rw [if_neg hz2]
        clear hz2
        go_enter Try.func28, Try.ntmps28
        go_wp2
        go_quiet ((go_at_call 47; exact Calls.quiet_of_same ((VA.out _).mono (by rintro e w' ⟨rfl, rfl⟩; exact ⟨rfl, rfl⟩))))
        go_wp2_with fail
        refine (need_yes _ _).mono ?_
        rintro e w' ⟨rfl, rfl⟩
        go_wp2
        go_end0
        exact ⟨⟨(fun h => by cases h), fun s' h => by
          obtain rfl := Option.some.inj h
          exact ⟨rfl, ⟨M, HM.out.keep HB.out (Below.drewN_self _ _ _), rfl, rfl, rfl, ⟨[], (List.append_nil _).symm⟩, fun _ _ => rfl⟩, Below.drewN_self _ _ _⟩⟩, keeps_drewN _ _⟩
end Go.Proofs.Ytefbknpoehmfaaa.For
namespace Go.Proofs.Ytefbknpoehmfaaa.For
open Go.ChangeShapes Go.WideShapes Go.ChangeAt Go.RowKit Go.Maps Circ Cw Cla Rep Str

theorem op_fld_waiting_0 (a : Act) (w : World) (b : Nat) (t : Nat) (h : a.tmps.getD t undef = .pointer (some ⟨b, 0, none⟩)) (oo : Oper) (ho : oo.op = .fieldAddr 83 (.tmp t) 0) : (execOp a.eval oo).run Try.prog w = .ok (.value (.pointer (some ⟨b, 0, none⟩))) w := by
  have h' : a.tmps[t]?.getD undef = .pointer (some ⟨b, 0, none⟩) := by simpa using h
  unfold execOp
  rw [ho]
  go_simp
theorem op_fld_waiting_1 (a : Act) (w : World) (b : Nat) (t : Nat) (h : a.tmps.getD t undef = .pointer (some ⟨b, 0, none⟩)) (oo : Oper) (ho : oo.op = .fieldAddr 83 (.tmp t) 1) : (execOp a.eval oo).run Try.prog w = .ok (.value (.pointer (some ⟨b, 1, none⟩))) w := by
  have h' : a.tmps[t]?.getD undef = .pointer (some ⟨b, 0, none⟩) := by simpa using h
  unfold execOp
  rw [ho]
  go_simp
theorem op_fld_waiting_2 (a : Act) (w : World) (b : Nat) (t : Nat) (h : a.tmps.getD t undef = .pointer (some ⟨b, 0, none⟩)) (oo : Oper) (ho : oo.op = .fieldAddr 83 (.tmp t) 2) : (execOp a.eval oo).run Try.prog w = .ok (.value (.pointer (some ⟨b, 2, none⟩))) w := by
  have h' : a.tmps[t]?.getD undef = .pointer (some ⟨b, 0, none⟩) := by simpa using h
  unfold execOp
  rw [ho]
  go_simp
theorem op_fld_setter_2 (a : Act) (w : World) (b : Nat) (t : Nat) (h : a.tmps.getD t undef = .pointer (some ⟨b, 0, none⟩)) (oo : Oper) (ho : oo.op = .fieldAddr 60 (.tmp t) 2) : (execOp a.eval oo).run Try.prog w = .ok (.value (.pointer (some ⟨b, 2, none⟩))) w := by
  have h' : a.tmps[t]?.getD undef = .pointer (some ⟨b, 0, none⟩) := by simpa using h
  unfold execOp
  rw [ho]
  go_simp
theorem op_put_int (a : Act) (w : World) (g k : Nat) (u : Value) (x : Int) (t s : Nat) (h1 : a.tmps.getD t undef = .pointer (some ⟨g, k, none⟩)) (h2 : a.tmps.getD s undef = .int .i64 x) (hc : w.cell? ⟨g, k, none⟩ = some u) (hz : w.frozen? ⟨g, k, none⟩ = false) (oo : Oper) (ho : oo.op = .store 3 (.tmp t) (.tmp s)) : (execOp a.eval oo).run Try.prog w = .ok .skip (w.setCell ⟨g, k, none⟩ (.int .i64 x)) := by
  have h1' : a.tmps[t]?.getD undef = .pointer (some ⟨g, k, none⟩) := by simpa using h1
  have h2' : a.tmps[s]?.getD undef = .int .i64 x := by simpa using h2
  unfold execOp
  rw [ho]
  go_simp
theorem op_put_ints (a : Act) (w : World) (g k : Nat) (u : Value) (A : Option Addr) (n q : Nat) (t s : Nat) (h1 : a.tmps.getD t undef = .pointer (some ⟨g, k, none⟩)) (h2 : a.tmps.getD s undef = .slice A n q) (hc : w.cell? ⟨g, k, none⟩ = some u) (hz : w.frozen? ⟨g, k, none⟩ = false) (oo : Oper) (ho : oo.op = .store 25 (.tmp t) (.tmp s)) : (execOp a.eval oo).run Try.prog w = .ok .skip (w.setCell ⟨g, k, none⟩ (.slice A n q)) := by
  have h1' : a.tmps[t]?.getD undef = .pointer (some ⟨g, k, none⟩) := by simpa using h1
  have h2' : a.tmps[s]?.getD undef = .slice A n q := by simpa using h2
  unfold execOp
  rw [ho]
  go_simp
theorem op_put_list (a : Act) (w : World) (g k : Nat) (u : Value) (A : Option Addr) (n q : Nat) (t s : Nat) (h1 : a.tmps.getD t undef = .pointer (some ⟨g, k, none⟩)) (h2 : a.tmps.getD s undef = .slice A n q) (hc : w.cell? ⟨g, k, none⟩ = some u) (hz : w.frozen? ⟨g, k, none⟩ = false) (oo : Oper) (ho : oo.op = .store 85 (.tmp t) (.tmp s)) : (execOp a.eval oo).run Try.prog w = .ok .skip (w.setCell ⟨g, k, none⟩ (.slice A n q)) := by
  have h1' : a.tmps[t]?.getD undef = .pointer (some ⟨g, k, none⟩) := by simpa using h1
  have h2' : a.tmps[s]?.getD undef = .slice A n q := by simpa using h2
  unfold execOp
  rw [ho]
  go_simp
theorem op_one_ptr (a : Act) (w : World) (u : Value) (i : Nat) (A : Addr) (hu : u = .pointer (some A)) (h1 : a.tmps.getD i undef = u) (oo : Oper) (ho : oo.op = .buildSlice 85 1 #[(0, .tmp i)]) : (execOp a.eval oo).run Try.prog w = .ok (.value (.slice (some ⟨w.heap.size, 0, none⟩) 1 1)) (w.alloc (.cells #[u] 81)) := by
  subst hu
  have h1' : a.tmps[i]?.getD undef = .pointer (some A) := by simpa using h1
  unfold execOp
  rw [ho]
  go_simp
theorem info_ptr : (Try.prog.info? 81).map (fun i => (i.zero, i.size, i.bytes)) = some (some (.pointer none), 1, 8) := by kernel_rfl
theorem ptr_runs (w : World) (base : Nat) (v : Value) (bl is : List Nat) (i : Nat) (g c : Nat) (hown : OwnC w base 81 1 v (ptrs bl is)) (hg : w.heap[g]? = some (.cells #[.pointer (some ⟨bl.getD i 0, 0, none⟩)] 81 (0, 0))) (hl : is.length ≤ 1099511627776) (hb : base ≤ w.heap.size) :
    ∃ v' w', (∀ ty, (Builtin.append_ #[85, 85] ty #[v, .slice (some ⟨g, 0, none⟩) 1 c]).run Try.prog w = .ok v' w') ∧ OwnC w' base 81 1 v' (ptrs bl (is ++ [i])) ∧ w.grownBy w' v.ownBlock ∧ (v'.ownBlock = v.ownBlock ∨ v'.ownBlock = some w.heap.size) := by
  obtain ⟨i0, hi0, hz0, hz1, hz2⟩ := info_parts info_ptr
  have hln : (ptrs bl is).length = is.length := by simp [ptrs]
  obtain ⟨v', w', h1, h2, h3, _, h5⟩ := run_append_own_at (P := Try.prog) w base 85 85 81 i0 _ 1 8 Try.underlying85 hi0 hz0 hz1 hz2 rfl (by decide) v (ptrs bl is).length (ptrs bl is).flatten hown ⟨g, 0, none⟩ 1 c [.pointer (some ⟨bl.getD i 0, 0, none⟩)] rfl (fun j u hj => by
    have e : (⟨g, 0, none⟩ : Addr).add j = ⟨g, j, none⟩ := by unfold Addr.add; by_cases hz : j = 0 <;> simp [hz]
    rw [e]
    match j, hj with
    | 0, hj =>
      obtain rfl : Value.pointer (some ⟨bl.getD i 0, 0, none⟩) = u := by simpa using hj
      simp [World.cell?, hg]) (fun u hu => by
      simp only [List.mem_cons, List.not_mem_nil, or_false] at hu
      subst hu; rfl) (by unfold maxLen; omega) (by omega) hb
  refine ⟨v', w', fun ty => h1, ?_, h3, h5⟩
  unfold OwnC
  have e : ptrs bl (is ++ [i]) = ptrs bl is ++ [[.pointer (some ⟨bl.getD i 0, 0, none⟩)]] := by simp [ptrs]
  rw [e]
  simpa using h2
theorem _root_.Go.Proofs.Ytefbknpoehmfaaa.Str.Chain.any {i j k : Nat} {W0 W1 W2 W3 : World} {d : Nat → Bool} {w : World} (h : Chain i j k W0 W1 W2 W3 d w) (hk : d k = false) : w = W0 ∨ w = W1 ∨ w = W2 := by
  cases hi : d i with
  | false => exact .inl (h.c0 hi)
  | true =>
    cases hj : d j with
    | false => exact .inr (.inl (h.c1 hi hj))
    | true => exact .inr (.inr (h.c2 hj hk))
theorem _root_.Go.Proofs.Ytefbknpoehmfaaa.Str.Chain.two {i j k : Nat} {W0 W1 W2 W3 : World} {d : Nat → Bool} {w : World} (h : Chain i j k W0 W1 W2 W3 d w) (hj : d j = false) : w = W0 ∨ w = W1 := by
  cases hi : d i with
  | false => exact .inl (h.c0 hi)
  | true => exact .inr (h.c1 hi hj)
end Go.Proofs.Ytefbknpoehmfaaa.For
