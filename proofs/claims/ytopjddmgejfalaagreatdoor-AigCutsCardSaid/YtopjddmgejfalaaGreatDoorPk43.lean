/- The walk of AigCuts; conditions: the table of powers of ten is as it is laid, the cell of bytealg.MaxLen holds a number, what is asked of it fits. AigCuts, from what a row hands over; condition: the listed package-level variables are as they are laid. -/
import Derived.Test.YtopjddmgejfalaaGreatDoorPk42
import Derived.OwnWalk
namespace Go.Proofs.YtopjddmgejfalaaGreatDoor.Aig
open Go.ChangeShapes Go.WideShapes Go.ChangeAt Go.RowKit Go.Maps Dig Circ Cw Aag

set_option maxHeartbeats 16000000 in
set_option maxRecDepth 100000 in
theorem cuts_walk (c : Cir) (s : Places) (at_ : Int) (w : World) (h : CLies w w.heap.size c s) (hf : CFits c s) (htab : Tab w) (hm : MaxCell w) :
    Calls Tryz.prog 4 #[cirV c s, .int .i64 at_] w fun e w' => e = .returned (.bool true) ∧ Below w.heap.size w w' := by
  obtain ⟨WA, hWA⟩ : ∃ x, w.alloc (.cells #[.int .i64 c.max, .slice s.ai c.ins.length s.ki, .slice s.al c.lats.length s.kl, .slice s.ao c.outs.length s.ko, .slice s.ab c.bads.length s.kb, .slice s.ac c.invs.length s.kc, .slice s.aa c.ands.length s.ka, .slice s.an c.names.length s.kn] 27) = x := ⟨_, rfl⟩
  have bA : Below w.heap.size w WA := by rw [← hWA]; exact (Below.refl _ _).alloc (Nat.le_refl _) _
  have hA : WA.heap[w.heap.size]? = some (.cells #[.int .i64 c.max, .slice s.ai c.ins.length s.ki, .slice s.al c.lats.length s.kl, .slice s.ao c.outs.length s.ko, .slice s.ab c.bads.length s.kb, .slice s.ac c.invs.length s.kc, .slice s.aa c.ands.length s.ka, .slice s.an c.names.length s.kn] 27 (0, 0)) := by rw [← hWA]; exact Array.getElem?_push_size
  have TB : Hid (∀ x, Below w.heap.size w x → Tab x) := fun x hx => Tab.later htab hx
  have MX : Hid (∀ x, Below w.heap.size w x → MaxCell x) := fun x hx => hm.below hm.lt hx
  obtain ⟨c0, hc0⟩ : ∃ d : Cir, d = { c with names := [] } := ⟨_, rfl⟩
  obtain ⟨s0, hs0⟩ : ∃ d : Places, d = { s with an := none, kn := 0 } := ⟨_, rfl⟩
  have LW : Hid (∀ x, Below w.heap.size w x → CLies x x.heap.size c0 s0) := fun x hx => by
    obtain ⟨l1, l2, l3, l4, l5, l6, l7⟩ := (h.below hx).more hx.size
    rw [hc0, hs0]
    exact ⟨l1, l2, l3, l4, l5, l6, .inl rfl⟩
  have HF : Hid (CFits c0 s0) := by
    rw [hc0, hs0]
    exact { max := hf.max, ins := hf.ins, outs := hf.outs, bads := hf.bads, invs := hf.invs, lats := hf.lats, ands := hf.ands, names := fun x hx => by simp at hx, li := hf.li, lo := hf.lo, lb := hf.lb, lc := hf.lc, ll := hf.ll, la := hf.la, ln := by simp, ki := hf.ki, ko := hf.ko, kb := hf.kb, kc := hf.kc, kl := hf.kl, ka := hf.ka, kn := by simp }
  have CV : Hid (cirV c0 s0 = .agg #[.int .i64 c.max, .slice s.ai c.ins.length s.ki, .slice s.al c.lats.length s.kl, .slice s.ao c.outs.length s.ko, .slice s.ab c.bads.length s.kb, .slice s.ac c.invs.length s.kc, .slice s.aa c.ands.length s.ka, .slice none 0 0]) := by unfold Hid; rw [hc0, hs0]; rfl
  have HNM : Hid (c0.names = []) := by unfold Hid; rw [hc0]
  have AL := Lib.hid (alive_any WA (TB.out _ bA))
  have HA := Lib.hid hA
  have BA := Lib.hid bA
  clear h hf htab hm bA hA hc0 hs0
  unfold cirV
  rw [show cirC c s = #[.int .i64 c.max, .slice s.ai c.ins.length s.ki, .slice s.al c.lats.length s.kl, .slice s.ao c.outs.length s.ko, .slice s.ab c.bads.length s.kb, .slice s.ac c.invs.length s.kc, .slice s.aa c.ands.length s.ka, .slice s.an c.names.length s.kn] from rfl]
  go_enter Tryz.func4, Tryz.ntmps4
  go_wp2_with fail
  refine AL.out.mono ?_
  rintro e w1 ⟨rfl, hb⟩
  have B1 : Hid (Below w.heap.size w w1) := BA.out.trans (hb.mono BA.out.size)
  have K1 := (hb.block _ (lt_of_block HA.out)).trans HA.out
  obtain ⟨V, u, ⟨hS, p0, t0⟩, EV, FV⟩ := step_set w1 _ 7 (.slice none 0 0) K1 (Nat.lt_of_lt_of_eq (show 7 < 8 by decide) rfl)
  have KV : V.heap[w.heap.size]? = some (.cells #[.int .i64 c.max, .slice s.ai c.ins.length s.ki, .slice s.al c.lats.length s.kl, .slice s.ao c.outs.length s.ko, .slice s.ab c.bads.length s.kb, .slice s.ac c.invs.length s.kc, .slice s.aa c.ands.length s.ka, .slice none 0 0] 27 (0, 0)) := EV
  have BV : Hid (Below w.heap.size w V) := FV.below B1.out (Nat.le_refl _)
  have e0 : V.cell? ⟨w.heap.size, 0, none⟩ = some (.int .i64 c.max) := by simp [World.cell?, KV]
  have e1 : V.cell? ⟨w.heap.size, 1, none⟩ = some (.slice s.ai c.ins.length s.ki) := by simp [World.cell?, KV]
  have e2 : V.cell? ⟨w.heap.size, 2, none⟩ = some (.slice s.al c.lats.length s.kl) := by simp [World.cell?, KV]
  have e3 : V.cell? ⟨w.heap.size, 3, none⟩ = some (.slice s.ao c.outs.length s.ko) := by simp [World.cell?, KV]
  have e4 : V.cell? ⟨w.heap.size, 4, none⟩ = some (.slice s.ab c.bads.length s.kb) := by simp [World.cell?, KV]
  have e5 : V.cell? ⟨w.heap.size, 5, none⟩ = some (.slice s.ac c.invs.length s.kc) := by simp [World.cell?, KV]
  have e6 : V.cell? ⟨w.heap.size, 6, none⟩ = some (.slice s.aa c.ands.length s.ka) := by simp [World.cell?, KV]
  have e7 : V.cell? ⟨w.heap.size, 7, none⟩ = some (.slice none 0 0) := by simp [World.cell?, KV]
  clear hb K1 EV FV AL
  cases ho : ordV c0
  · have WR := Lib.hid (write_no c0 s0 V (LW.out _ BV.out) HF.out ho)
    rw [CV.out] at WR
    go_wp2_with fail
    refine WR.out.mono ?_
    rintro e w2 ⟨rfl, hb⟩
    have B2 : Hid (Below w.heap.size w w2) := BV.out.trans (hb.mono BV.out.size)
    clear hb WR hWA hS p0 t0 e0 e1 e2 e3 e4 e5 e6 e7
    go_wp2_with (go_at_call 7; refine (num_any _ _).mono ?_; rintro e w' ⟨rfl, rfl⟩)
    go_ret
    exact ⟨rfl, B2.out⟩
  · have WR := Lib.hid (write_yes c0 s0 V (LW.out _ BV.out) HF.out ho (TB.out _ BV.out))
    rw [CV.out] at WR
    have hco : chk c0 = true ∧ ordB c0 = true := by unfold ordV at ho; simpa using ho
    have HCO := Lib.hid hco
    clear hco
    have CUT : Hid (∀ k, (oct5 c0).length ≤ 65536 → k < (oct5 c0).length → read5 ordV ((oct5 c0).take k) = .error 33) := fun k h1 h2 => read5_cut ordV c0 (fine5_of c0 HCO.out.1 HCO.out.2) HNM.out h1 k h2
    have hne : oct5 c0 ≠ [] := by simp [oct5, core5, lines5, nlL]
    have hpos : 0 < (oct5 c0).length := List.length_pos_iff.2 hne
    clear ho hne
    generalize oct5 c0 = tc at *
    go_wp2_with fail
    refine WR.out.mono ?_
    rintro e w2 ⟨⟨g, cap, rfl, how⟩, hb⟩
    have B2 : Hid (Below w.heap.size w w2) := BV.out.trans (hb.mono BV.out.size)
    have OC := Lib.hid (octs_row how).2
    clear how hb WR hWA hS p0 t0 e0 e1 e2 e3 e4 e5 e6 e7
    by_cases hlen : tc.length ≤ 65536
    · have hd : decide ((65536 : Int) < tc.length) = false := by simp; omega
      have HLEN := Lib.hid hlen
      have hp : (0 : Int) < tc.length := by omega
      have q1 := Int.tmod_lt_of_pos at_ hp
      have q2 : -(tc.length : Int) < at_.tmod tc.length := by
        have q5 := Int.tmod_lt_of_pos (-at_) hp
        rw [Int.neg_tmod] at q5
        omega
      have hw : wrap64 (at_.tmod tc.length + tc.length) = at_.tmod tc.length + tc.length := by
        generalize at_.tmod tc.length = am at q1 q2
        unfold wrap64; omega
      obtain ⟨k, hk, hk2⟩ : ∃ k : Nat, k < tc.length ∧ ((at_.tmod tc.length + tc.length).tmod tc.length) = (k : Int) := by
        have q3 : 0 ≤ (at_.tmod tc.length + tc.length).tmod tc.length := Int.tmod_nonneg _ (by omega)
        have q4 := Int.tmod_lt_of_pos (at_.tmod tc.length + tc.length) hp
        exact ⟨((at_.tmod tc.length + tc.length).tmod tc.length).toNat, by omega, by omega⟩
      have hz : ((tc.length : Int) == 0) = false := by rw [beq_eq_false_iff_ne]; omega
      obtain ⟨hkl, hko⟩ := OC.out.take k (Nat.le_of_lt hk)
      have RD := Lib.hid (read_any (tc.take k) (some ⟨g, 0, none⟩) cap w2 hko (MX.out _ B2.out))
      rw [hkl] at RD
      have HC := Lib.hid (CUT.out k hlen hk)
      have hcap : tc.length ≤ cap := OC.out.le
      have hcm : cap ≤ 9223372036854775807 := OC.out.mx
      clear hpos q1 q2 hkl hko CUT hlen
      go_wp2_with (first | (go_at_call 7; refine (num_any _ _).mono ?_; rintro e w' ⟨rfl, rfl⟩) | fail)
      refine RD.out.mono ?_
      rintro e w3 ⟨hb3, c9, s9, t9, rfl, hl9, hf9, hr9⟩
      rw [HC.out] at hr9
      obtain ⟨rfl, rfl, rfl⟩ := hr9
      have B3 : Hid (Below w.heap.size w w3) := B2.out.trans (hb3.mono B2.out.size)
      clear hl9 hf9 RD HC
      obtain ⟨W4, hW4⟩ : ∃ x, w3.alloc (.cells #[.int .i64 0, .slice none 0 0, .slice none 0 0, .slice none 0 0, .slice none 0 0, .slice none 0 0, .slice none 0 0, .slice none 0 0] 27) = x := ⟨_, rfl⟩
      have g4 : W4.heap[w3.heap.size]? = some (.cells #[.int .i64 0, .slice none 0 0, .slice none 0 0, .slice none 0 0, .slice none 0 0, .slice none 0 0, .slice none 0 0, .slice none 0 0] 27 (0, 0)) := by rw [← hW4]; exact Array.getElem?_push_size
      have b4 : Below w3.heap.size w3 W4 := by rw [← hW4]; exact (Below.refl _ _).alloc (Nat.le_refl _) _
      obtain ⟨X1, X2, X3, X4, X5, X6, X7, X8, v0, v1, v2, v3, v4, v5, v6, v7, ⟨hX1, a0, b0⟩, ⟨hX2, a1, b1⟩, ⟨hX3, a2, b2⟩, ⟨hX4, a3, b3⟩, ⟨hX5, a4, b4'⟩, ⟨hX6, a5, b5⟩, ⟨hX7, a6, b6⟩, ⟨hX8, a7, b7⟩, E8, FC⟩ := store8 g4 rfl (.int .i64 0) (.slice none 0 0) (.slice none 0 0) (.slice none 0 0) (.slice none 0 0) (.slice none 0 0) (.slice none 0 0) (.slice none 0 0)
      have B8 : Hid (Below w.heap.size w X8) := FC.below (B3.out.trans (b4.mono B3.out.size)) B3.out.size
      have SM := Lib.hid (refsame_any nilC nilP nilP X8 (nil_lies _ _) (nil_lies _ _) nil_fits)
      rw [show cirV nilC nilP = .agg #[.int .i64 0, .slice none 0 0, .slice none 0 0, .slice none 0 0, .slice none 0 0, .slice none 0 0, .slice none 0 0, .slice none 0 0] from rfl] at SM
      rw [show cirV nilC nilP = .agg #[.int .i64 0, .slice none 0 0, .slice none 0 0, .slice none 0 0, .slice none 0 0, .slice none 0 0, .slice none 0 0, .slice none 0 0] from rfl]
      have f0 : X8.cell? ⟨w3.heap.size, 0, none⟩ = some (.int .i64 0) := by simp [World.cell?, E8]
      have f1 : X8.cell? ⟨w3.heap.size, 1, none⟩ = some (.slice none 0 0) := by simp [World.cell?, E8]
      have f2 : X8.cell? ⟨w3.heap.size, 2, none⟩ = some (.slice none 0 0) := by simp [World.cell?, E8]
      have f3 : X8.cell? ⟨w3.heap.size, 3, none⟩ = some (.slice none 0 0) := by simp [World.cell?, E8]
      have f4 : X8.cell? ⟨w3.heap.size, 4, none⟩ = some (.slice none 0 0) := by simp [World.cell?, E8]
      have f5 : X8.cell? ⟨w3.heap.size, 5, none⟩ = some (.slice none 0 0) := by simp [World.cell?, E8]
      have f6 : X8.cell? ⟨w3.heap.size, 6, none⟩ = some (.slice none 0 0) := by simp [World.cell?, E8]
      have f7 : X8.cell? ⟨w3.heap.size, 7, none⟩ = some (.slice none 0 0) := by simp [World.cell?, E8]
      clear g4 b4 E8 FC
      go_wp2_with (first | (go_at_call 7; refine (num_any _ _).mono ?_; rintro e w' ⟨rfl, rfl⟩) | fail)
      refine SM.out.mono ?_
      rintro e w9 ⟨rfl, hb9⟩
      have B9 : Hid (Below w.heap.size w w9) := B8.out.trans (hb9.mono B8.out.size)
      clear hb9 SM
      go_wp2
      go_ret
      exact ⟨rfl, B9.out⟩
    · have hd : decide ((65536 : Int) < tc.length) = true := by simp; omega
      clear hlen hpos CUT
      go_wp2_with (go_at_call 7; refine (num_any _ _).mono ?_; rintro e w' ⟨rfl, rfl⟩)
      go_ret
      exact ⟨rfl, B2.out⟩
end Go.Proofs.YtopjddmgejfalaaGreatDoor.Aig
namespace Go.Proofs.YtopjddmgejfalaaGreatDoor.Aig
open Go.ChangeShapes Go.WideShapes Go.ChangeAt Go.RowKit Go.Maps Dig Circ Cw Aag

theorem g0 : Tryz.prog.globalNamed "internal/strconv.uint64pow10" = some 1 := by kernel_rfl
theorem g0type : (Tryz.prog.globals[1]?).map (·.type) = some 162 := by kernel_rfl
theorem cells20 : Tryz.prog.cellsOf 162 = 20 := by kernel_rfl
theorem cells1 : Tryz.prog.cellsOf 146 = 1 := by kernel_rfl
/-- what the row's list gives -/
theorem tab_of {W : World} (h : laidMetH Tryz.prog Rows.aigCutsRow.laid W) : Tab W := by
  have h1 : laidMet Tryz.prog Rows.aigCutsRow.laid W := h
  have ht : Lib.TabIs Tryz.prog W "internal/strconv.uint64pow10" .u64 Lib.pow10Tab :=
    Lib.tabIs_of_head (rest := _) g0 g0type Tryz.underlying162 Tryz.underlying146 cells1 cells20 (Frame.laid_tail (Frame.laid_tail h1))
  have hc := ht.cell g0 0 (by decide)
  have hlt : 1 < W.heap.size := by
    rcases Nat.lt_or_ge 1 W.heap.size with h | h
    · exact h
    · unfold World.cell? at hc; rw [Array.getElem?_eq_none h] at hc; cases hc
  intro w' hb
  exact var?_below hb g0 hlt ht
theorem first_weights {H : Type} {t : TypeId} {d : DataW H} {ts : List TypeId} {ds : List (DataW H)} (hsz : (DataW.weightsEach Tryz.prog (t :: ts) (d :: ds)).all (· ≤ reachBytes) = true) : ∀ n ∈ DataW.weights Tryz.prog t d, n ≤ reachBytes := fun n hn => by
  have := List.all_eq_true.1 hsz n (DataW.weights_mem_each (j := 0) rfl rfl n hn)
  simpa using this
set_option maxRecDepth 100000 in
theorem cuts_core {H : Type} {enc : TypeId × Value → H} (W : World) (v : Value) (d : DataW H) (p : List MemPlace) {r : Reach} {b0 : Nat} (hv : Value.okWide Tryz.prog W r b0 27 v) (h : DataW.Trod enc Tryz.prog W 0 (fun _ => true) true 27 v d p) (x : Int) (_h0 : -9223372036854775808 ≤ x) (_h1 : x ≤ 9223372036854775807)
    {ts : List TypeId} {ds : List (DataW H)} (hsz : (DataW.weightsEach Tryz.prog (27 :: ts) (d :: ds)).all (· ≤ reachBytes) = true) (hL : laidMetH Tryz.prog Rows.aigCutsRow.laid W) (hopen : W.ShapedOpen Tryz.prog) :
    Calls Tryz.prog 4 #[v, .int .i64 x] W fun e W' => e = .returned (.bool true) ∧ Below W.heap.size W W' := by
  obtain ⟨c, s, rfl, hl, hf⟩ := open_circ hv h (first_weights hsz)
  exact cuts_walk c s x W hl hf (tab_of hL) (Tryz.laysM219.s1_3 W hopen)
end Go.Proofs.YtopjddmgejfalaaGreatDoor.Aig
