/- The walks of circuit.Same of two circuits with lists as long as each other's and the same names, and of aig's Ordered; no condition. -/
import Derived.Test.YtopjddmgejfalaaDoorPk19
import Derived.Test.YtopjddmgejfalaaDoorPk20
namespace Go.Proofs.YtopjddmgejfalaaDoor.Aig
open Go.ChangeShapes Go.WideShapes Go.ChangeAt Go.RowKit Go.Maps Circ Cw

theorem all_eqI (l m : List Int) (h : m.length = l.length) : (List.range l.length).all (fun i => cnt (l.getD i 0) == cnt (m.getD i 0)) = eqI l m := by
  rw [Bool.eq_iff_iff, List.all_eq_true]
  unfold eqI
  rw [beq_iff_eq]
  constructor
  · intro g
    apply List.ext_getElem (by simp [h])
    intro i h1 h2
    have hi : i < l.length := by simpa using h1
    have := g i (List.mem_range.2 hi)
    rw [beq_iff_eq, List.getD_eq_getElem?_getD, List.getD_eq_getElem?_getD, List.getElem?_eq_getElem hi, List.getElem?_eq_getElem (by omega)] at this
    simpa using this
  · intro g i hi
    have hi := List.mem_range.1 hi
    have e := congrArg (fun x : List Int => x[i]?) g
    simp only [List.getElem?_map, List.getElem?_eq_getElem hi, List.getElem?_eq_getElem (show i < m.length by omega), Option.map_some, Option.some.injEq] at e
    rw [beq_iff_eq, List.getD_eq_getElem?_getD, List.getD_eq_getElem?_getD, List.getElem?_eq_getElem hi, List.getElem?_eq_getElem (by omega)]
    simpa using e
theorem all_eqT (l m : List Tri) (h : m.length = l.length) : (List.range l.length).all (fun i => triC (l.getD i ⟨0, 0, 0⟩) == triC (m.getD i ⟨0, 0, 0⟩)) = eqT l m := by
  rw [Bool.eq_iff_iff, List.all_eq_true]
  unfold eqT
  rw [beq_iff_eq]
  constructor
  · intro g
    apply List.ext_getElem (by simp [h])
    intro i h1 h2
    have hi : i < l.length := by simpa using h1
    have := g i (List.mem_range.2 hi)
    rw [beq_iff_eq, List.getD_eq_getElem?_getD, List.getD_eq_getElem?_getD, List.getElem?_eq_getElem hi, List.getElem?_eq_getElem (by omega)] at this
    simpa using this
  · intro g i hi
    have hi := List.mem_range.1 hi
    have e := congrArg (fun x : List (Int × Int × Int) => x[i]?) g
    simp only [List.getElem?_map, List.getElem?_eq_getElem hi, List.getElem?_eq_getElem (show i < m.length by omega), Option.map_some, Option.some.injEq] at e
    rw [beq_iff_eq, List.getD_eq_getElem?_getD, List.getD_eq_getElem?_getD, List.getElem?_eq_getElem hi, List.getElem?_eq_getElem (by omega)]
    simpa using e
theorem getD_at {α : Type} (l : List α) (i : Nat) (d : α) (h : i < l.length) : l.getD i d = l[i] := by
  rw [List.getD_eq_getElem?_getD, List.getElem?_eq_getElem h]; rfl

/-- the boxes of two circuits, and the cell behind them that holds the comparison of literals -/
structure Duo (g : Nat) (c d : Cir) (s s' : Places) (w : World) : Prop where
  l : CLies w w.heap.size c s
  l' : CLies w w.heap.size d s'
  b : w.heap[g]? = some (.cells (cirC c s) 27 (0, 0))
  b' : w.heap[g + 1]? = some (.cells (cirC d s') 27 (0, 0))
  f : w.cell? ⟨g + 2, 0, none⟩ = some (.func (.func 31) #[] #[])
  z : g + 3 ≤ w.heap.size
theorem Duo.below {g : Nat} {c d : Cir} {s s' : Places} {w w' : World} (h : Duo g c d s s' w) (hb : Below w.heap.size w w') : Duo g c d s s' w' :=
  ⟨(h.l.below hb).more hb.size, (h.l'.below hb).more hb.size, (hb.block _ (lt_of_block h.b)).trans h.b, (hb.block _ (lt_of_block h.b')).trans h.b', cell_later hb h.f, Nat.le_trans h.z hb.size⟩

set_option maxHeartbeats 4000000 in
set_option maxRecDepth 100000 in
theorem sameD_any (c d : Cir) (s s' : Places) (w : World) (h : CLies w w.heap.size c s) (h' : CLies w w.heap.size d s') (hf : CFits c s) (hl : d.ins.length = c.ins.length ∧ d.lats.length = c.lats.length ∧ d.outs.length = c.outs.length ∧ d.bads.length = c.bads.length ∧ d.invs.length = c.invs.length ∧ d.ands.length = c.ands.length ∧ d.names = c.names) :
    Calls Tryd.prog 15 #[cirV c s, cirV d s'] w fun e w' => e = .returned (.bool (sameV c d)) ∧ Below w.heap.size w w' := by
  have hk28 : ∀ args w, (callFunc 31 args).run Tryd.prog w = .ok (.enter 31 args) w := enters_of Tryd.func31 (by kernel_rfl) rfl
  have hk30 : ∀ args w, (callFunc 33 args).run Tryd.prog w = .ok (.enter 33 args) w := enters_of Tryd.func33 (by kernel_rfl) rfl
  have hk31 : ∀ args w, (callFunc 34 args).run Tryd.prog w = .ok (.enter 34 args) w := enters_of Tryd.func34 (by kernel_rfl) rfl
  have E28 := Lib.hid hk28
  have E30 := Lib.hid hk30
  have E31 := Lib.hid hk31
  clear hk28 hk30 hk31
  have LN := Lib.hid hl
  obtain ⟨li, lo, lb, lc, ll, la, ln⟩ : _ ∧ _ ∧ _ ∧ _ ∧ _ ∧ _ ∧ _ := ⟨hf.li, hf.lo, hf.lb, hf.lc, hf.ll, hf.la, hf.ln⟩
  obtain ⟨WA, hWA⟩ : ∃ x, w.alloc (.cells #[.int .i64 c.max, .slice s.ai c.ins.length s.ki, .slice s.al c.lats.length s.kl, .slice s.ao c.outs.length s.ko, .slice s.ab c.bads.length s.kb, .slice s.ac c.invs.length s.kc, .slice s.aa c.ands.length s.ka, .slice s.an c.names.length s.kn] 27) = x := ⟨_, rfl⟩
  have sA : WA.heap.size = w.heap.size + 1 := by rw [← hWA]; simp
  have bA : Below w.heap.size w WA := by rw [← hWA]; exact (Below.refl _ _).alloc (Nat.le_refl _) _
  have hA : WA.heap[w.heap.size]? = some (.cells (cirC c s) 27 (0, 0)) := by rw [← hWA]; exact Array.getElem?_push_size
  obtain ⟨WB, hWB⟩ : ∃ x, WA.alloc (.cells #[.int .i64 d.max, .slice s'.ai d.ins.length s'.ki, .slice s'.al d.lats.length s'.kl, .slice s'.ao d.outs.length s'.ko, .slice s'.ab d.bads.length s'.kb, .slice s'.ac d.invs.length s'.kc, .slice s'.aa d.ands.length s'.ka, .slice s'.an d.names.length s'.kn] 27) = x := ⟨_, rfl⟩
  have bB : Below (w.heap.size + 1) WA WB := by rw [← hWB]; exact (Below.refl _ _).alloc (by omega) _
  have hB : WB.heap[w.heap.size + 1]? = some (.cells (cirC d s') 27 (0, 0)) := by rw [← hWB, ← sA]; exact Array.getElem?_push_size
  have sB : WB.heap.size = w.heap.size + 2 := by rw [← hWB]; simp [sA]
  obtain ⟨WC, hWC⟩ : ∃ x, WB.alloc (.cells #[.func (.func 31) #[] #[]] 68) = x := ⟨_, rfl⟩
  have bC : Below (w.heap.size + 2) WB WC := by rw [← hWC]; exact (Below.refl _ _).alloc (by omega) _
  have hC : WC.heap[w.heap.size + 2]? = some (.cells #[.func (.func 31) #[] #[]] 68 (0, 0)) := by rw [← hWC, ← sB]; exact Array.getElem?_push_size
  have sC : WC.heap.size = w.heap.size + 3 := by rw [← hWC]; simp [sB]
  have HB0 : Hid (Below w.heap.size w WC) := bA.trans ((bB.mono (by omega)).trans (bC.mono (by omega)))
  have T0 : Hid (Duo w.heap.size c d s s' WC) := ⟨(h.below HB0.out).more (by omega), (h'.below HB0.out).more (by omega), by rw [bC.block _ (by omega), bB.block _ (by omega)]; exact hA, by rw [bC.block _ (by omega)]; exact hB, cell_one hC, by omega⟩
  have g0 := T0.out.f
  obtain ⟨e0, e1, e2, e3, e4, e5, e6, e7⟩ := Aag.cells8 T0.out.b
  obtain ⟨f0, f1, f2, f3, f4, f5, f6, f7⟩ := Aag.cells8 T0.out.b'
  obtain ⟨b0, hb0⟩ : ∃ b, (c.max == d.max) = b := ⟨_, rfl⟩
  obtain ⟨b1, hb1⟩ : ∃ b, eqI c.ins d.ins = b := ⟨_, rfl⟩
  obtain ⟨b2, hb2⟩ : ∃ b, eqT c.lats d.lats = b := ⟨_, rfl⟩
  obtain ⟨b3, hb3⟩ : ∃ b, eqI c.outs d.outs = b := ⟨_, rfl⟩
  obtain ⟨b4, hb4⟩ : ∃ b, eqI c.bads d.bads = b := ⟨_, rfl⟩
  obtain ⟨b5, hb5⟩ : ∃ b, eqI c.invs d.invs = b := ⟨_, rfl⟩
  obtain ⟨b6, hb6⟩ : ∃ b, eqT c.ands d.ands = b := ⟨_, rfl⟩
  have SV : Hid (sameV c d = (b0 && (b1 && (b2 && (b3 && (b4 && (b5 && b6))))))) := by
    unfold Hid sameV
    rw [hb1, hb2, hb3, hb4, hb5, hb6, ← hb0]
    congr 1
  have INT1 : Hid (∀ (l m : List Int) (b : Bool) (A A' : Option Addr) (q q' : Nat) (W : World), eqI l m = b → m.length = l.length → l.length ≤ 9223372036854775807 → LRow W W.heap.size 1 A (ints l) → LRow W W.heap.size 1 A' (ints m) → Calls Tryd.prog 35 #[.slice A l.length q, .slice A' m.length q', .func (.func 31) #[] #[]] W fun e w' => e = .returned (.bool b) ∧ Below W.heap.size W w') := fun l m b A A' q q' W hb hlm hll hr hr' => by
    rw [← hb, ← all_eqI l m hlm]
    exact equalU32_any 31 #[] l m A A' q q' _ W hlm hll E28.out hr hr' fun i hi w' hbw => (oneU_any l[i] (m[i]'(by omega)) w').mono (by rintro e w'' ⟨rfl, rfl⟩; exact ⟨by rw [getD_at l i 0 hi, getD_at m i 0 (by omega)], hbw⟩)
  have LAT1 : Hid (∀ (l m : List Tri) (b : Bool) (A A' : Option Addr) (q q' g : Nat) (W : World), eqT l m = b → W.cell? ⟨g, 0, none⟩ = some (.func (.func 31) #[] #[]) → m.length = l.length → l.length ≤ 9223372036854775807 → LRow W W.heap.size 3 A (tris l) → LRow W W.heap.size 3 A' (tris m) → Calls Tryd.prog 36 #[.slice A l.length q, .slice A' m.length q', .func (.func 33) #[] #[.pointer (some ⟨g, 0, none⟩)]] W fun e w' => e = .returned (.bool b) ∧ Below W.heap.size W w') := fun l m b A A' q q' g W hb hg hlm hll hr hr' => by
    rw [← hb, ← all_eqT l m hlm]
    exact equalU33_any 33 #[.pointer (some ⟨g, 0, none⟩)] l m A A' q q' _ W hlm hll E30.out hr hr' fun i hi w' hbw => (sameU30_any l[i] (m[i]'(by omega)) g w' (cell_later hbw hg)).mono (by rintro e w'' ⟨rfl, hx⟩; exact ⟨by rw [getD_at l i _ hi, getD_at m i _ (by omega)], hbw.trans (hx.mono hbw.size)⟩)
  have AND1 : Hid (∀ (l m : List Tri) (b : Bool) (A A' : Option Addr) (q q' g : Nat) (W : World), eqT l m = b → W.cell? ⟨g, 0, none⟩ = some (.func (.func 31) #[] #[]) → m.length = l.length → l.length ≤ 9223372036854775807 → LRow W W.heap.size 3 A (tris l) → LRow W W.heap.size 3 A' (tris m) → Calls Tryd.prog 37 #[.slice A l.length q, .slice A' m.length q', .func (.func 34) #[] #[.pointer (some ⟨g, 0, none⟩)]] W fun e w' => e = .returned (.bool b) ∧ Below W.heap.size W w') := fun l m b A A' q q' g W hb hg hlm hll hr hr' => by
    rw [← hb, ← all_eqT l m hlm]
    exact equalU34_any 34 #[.pointer (some ⟨g, 0, none⟩)] l m A A' q q' _ W hlm hll E31.out hr hr' fun i hi w' hbw => (sameU31_any l[i] (m[i]'(by omega)) g w' (cell_later hbw hg)).mono (by rintro e w'' ⟨rfl, hx⟩; exact ⟨by rw [getD_at l i _ hi, getD_at m i _ (by omega)], hbw.trans (hx.mono hbw.size)⟩)
  have Q1 := Lib.hid hb1
  have Q2 := Lib.hid hb2
  have Q3 := Lib.hid hb3
  have Q4 := Lib.hid hb4
  have Q5 := Lib.hid hb5
  have Q6 := Lib.hid hb6
  clear h h' hf bA bB bC hA hB hC hb1 hb2 hb3 hb4 hb5 hb6 hl
  rw [show cirV c s = .agg #[.int .i64 c.max, .slice s.ai c.ins.length s.ki, .slice s.al c.lats.length s.kl, .slice s.ao c.outs.length s.ko, .slice s.ab c.bads.length s.kb, .slice s.ac c.invs.length s.kc, .slice s.aa c.ands.length s.ka, .slice s.an c.names.length s.kn] from rfl, show cirV d s' = .agg #[.int .i64 d.max, .slice s'.ai d.ins.length s'.ki, .slice s'.al d.lats.length s'.kl, .slice s'.ao d.outs.length s'.ko, .slice s'.ab d.bads.length s'.kb, .slice s'.ac d.invs.length s'.kc, .slice s'.aa d.ands.length s'.ka, .slice s'.an d.names.length s'.kn] from rfl]
  go_enter Tryd.func15, Tryd.ntmps15
  cases b0 with
  | false =>
    clear INT1 LAT1 AND1
    go_wp2
    go_ret
    exact ⟨by rw [SV.out]; rfl, HB0.out⟩
  | true =>
    go_wp2_with fail
    refine (INT1.out c.ins d.ins b1 _ _ _ _ _ Q1.out (LN.out.1) (by omega) T0.out.l.ins T0.out.l'.ins).mono ?_
    rintro e w1 ⟨rfl, hb⟩
    have T1 := Lib.hid (T0.out.below hb)
    have HB1 := Lib.hid (HB0.out.trans (hb.mono (by have := T0.out.z; omega)))
    clear e0 e1 e2 e3 e4 e5 e6 e7 f0 f1 f2 f3 f4 f5 f6 f7 g0 hb HB0 T0 hWA hWB hWC sA sB sC hb0
    have g0 := T1.out.f
    obtain ⟨e0, e1, e2, e3, e4, e5, e6, e7⟩ := Aag.cells8 T1.out.b
    obtain ⟨f0, f1, f2, f3, f4, f5, f6, f7⟩ := Aag.cells8 T1.out.b'
    cases b1 with
    | false =>
      clear INT1 LAT1 AND1
      go_wp2
      go_ret
      exact ⟨by rw [SV.out]; rfl, HB1.out⟩
    | true =>
      go_wp2_with fail
      refine (LAT1.out c.lats d.lats b2 _ _ _ _ _ _ Q2.out T1.out.f (LN.out.2.1) (by omega) T1.out.l.lats T1.out.l'.lats).mono ?_
      rintro e w2 ⟨rfl, hb⟩
      have T2 := Lib.hid (T1.out.below hb)
      have HB2 := Lib.hid (HB1.out.trans (hb.mono (by have := T1.out.z; omega)))
      clear e0 e1 e2 e3 e4 e5 e6 e7 f0 f1 f2 f3 f4 f5 f6 f7 g0 hb HB1 T1
      have g0 := T2.out.f
      obtain ⟨e0, e1, e2, e3, e4, e5, e6, e7⟩ := Aag.cells8 T2.out.b
      obtain ⟨f0, f1, f2, f3, f4, f5, f6, f7⟩ := Aag.cells8 T2.out.b'
      cases b2 with
      | false =>
        clear INT1 LAT1 AND1
        go_wp2
        go_ret
        exact ⟨by rw [SV.out]; rfl, HB2.out⟩
      | true =>
        go_wp2_with fail
        refine (INT1.out c.outs d.outs b3 _ _ _ _ _ Q3.out (LN.out.2.2.1) (by omega) T2.out.l.outs T2.out.l'.outs).mono ?_
        rintro e w3 ⟨rfl, hb⟩
        have T3 := Lib.hid (T2.out.below hb)
        have HB3 := Lib.hid (HB2.out.trans (hb.mono (by have := T2.out.z; omega)))
        clear e0 e1 e2 e3 e4 e5 e6 e7 f0 f1 f2 f3 f4 f5 f6 f7 g0 hb HB2 T2
        have g0 := T3.out.f
        obtain ⟨e0, e1, e2, e3, e4, e5, e6, e7⟩ := Aag.cells8 T3.out.b
        obtain ⟨f0, f1, f2, f3, f4, f5, f6, f7⟩ := Aag.cells8 T3.out.b'
        cases b3 with
        | false =>
          clear INT1 LAT1 AND1
          go_wp2
          go_ret
          exact ⟨by rw [SV.out]; rfl, HB3.out⟩
        | true =>
          go_wp2_with fail
          refine (INT1.out c.bads d.bads b4 _ _ _ _ _ Q4.out (LN.out.2.2.2.1) (by omega) T3.out.l.bads T3.out.l'.bads).mono ?_
          rintro e w4 ⟨rfl, hb⟩
          have T4 := Lib.hid (T3.out.below hb)
          have HB4 := Lib.hid (HB3.out.trans (hb.mono (by have := T3.out.z; omega)))
          clear e0 e1 e2 e3 e4 e5 e6 e7 f0 f1 f2 f3 f4 f5 f6 f7 g0 hb HB3 T3
          have g0 := T4.out.f
          obtain ⟨e0, e1, e2, e3, e4, e5, e6, e7⟩ := Aag.cells8 T4.out.b
          obtain ⟨f0, f1, f2, f3, f4, f5, f6, f7⟩ := Aag.cells8 T4.out.b'
          cases b4 with
          | false =>
            clear INT1 LAT1 AND1
            go_wp2
            go_ret
            exact ⟨by rw [SV.out]; rfl, HB4.out⟩
          | true =>
            go_wp2_with fail
            refine (INT1.out c.invs d.invs b5 _ _ _ _ _ Q5.out (LN.out.2.2.2.2.1) (by omega) T4.out.l.invs T4.out.l'.invs).mono ?_
            rintro e w5 ⟨rfl, hb⟩
            have T5 := Lib.hid (T4.out.below hb)
            have HB5 := Lib.hid (HB4.out.trans (hb.mono (by have := T4.out.z; omega)))
            clear e0 e1 e2 e3 e4 e5 e6 e7 f0 f1 f2 f3 f4 f5 f6 f7 g0 hb HB4 T4
            have g0 := T5.out.f
            obtain ⟨e0, e1, e2, e3, e4, e5, e6, e7⟩ := Aag.cells8 T5.out.b
            obtain ⟨f0, f1, f2, f3, f4, f5, f6, f7⟩ := Aag.cells8 T5.out.b'
            cases b5 with
            | false =>
              clear INT1 LAT1 AND1
              go_wp2
              go_ret
              exact ⟨by rw [SV.out]; rfl, HB5.out⟩
            | true =>
              go_wp2_with fail
              refine (AND1.out c.ands d.ands b6 _ _ _ _ _ _ Q6.out T5.out.f (LN.out.2.2.2.2.2.1) (by omega) T5.out.l.ands T5.out.l'.ands).mono ?_
              rintro e w6 ⟨rfl, hb⟩
              have T6 := Lib.hid (T5.out.below hb)
              have HB6 := Lib.hid (HB5.out.trans (hb.mono (by have := T5.out.z; omega)))
              clear e0 e1 e2 e3 e4 e5 e6 e7 f0 f1 f2 f3 f4 f5 f6 f7 g0 hb HB5 T5
              have g0 := T6.out.f
              obtain ⟨e0, e1, e2, e3, e4, e5, e6, e7⟩ := Aag.cells8 T6.out.b
              obtain ⟨f0, f1, f2, f3, f4, f5, f6, f7⟩ := Aag.cells8 T6.out.b'
              cases b6 with
              | false =>
                clear INT1 LAT1 AND1
                go_wp2
                go_ret
                exact ⟨by rw [SV.out]; rfl, HB6.out⟩
              | true =>
                have NMS : Hid (d.names = c.names) := LN.out.2.2.2.2.2.2
                have hr7 : LRow w6 w6.heap.size 3 s'.an (nams c.names) := by rw [← NMS.out]; exact T6.out.l'.names
                have NM := Lib.hid (equal35_any c.names s.an s'.an s.kn s'.kn _ _ w6 (by omega) T6.out.l.names hr7)
                have hnl : d.names.length = c.names.length := by rw [NMS.out]
                clear hr7
                rw [hnl] at f7
                try rw [hnl]
                go_wp2_with fail
                refine NM.out.mono ?_
                rintro e w7 ⟨rfl, hb⟩
                have HB7 := Lib.hid (HB6.out.trans (hb.mono (by have := T6.out.z; omega)))
                clear hb
                go_wp2
                go_ret
                exact ⟨by rw [SV.out]; rfl, HB7.out⟩

/-- is it what Order makes of it? -/
def ordV (c : Cir) : Bool := chk c && ordB c
theorem order_fits {c : Cir} {s s' : Places} {w : World} {B : Nat} (h : refOk c = true) (hf : CFits c s) (ho : Owned w B (orderM c) s') : CFits (orderM c) s' := by
  have hl := all_lits h
  have hm := own_count h
  rw [own_len] at hm
  have rb : ∀ x, Lits c x → I64 (ren c x) := fun x hx => by have := ren_bd h x hx.1; exact ⟨by omega, by omega⟩
  have lb : ∀ (l : List Int), (∀ x ∈ l, Lits c x) → ∀ y ∈ l.map (ren c), I64 y := fun l hl y hy => by obtain ⟨x, hx, rfl⟩ := List.mem_map.1 hy; exact rb x (hl x hx)
  obtain ⟨k1, k2, k3, k4, k5, k6, k7⟩ := Owned.caps ho
  refine ⟨?_, lb _ hl.ins, lb _ hl.outs, lb _ hl.bads, lb _ hl.invs, fun t ht => ?_, fun t ht => ?_, hf.names, ?_, ?_, ?_, ?_, ?_, ?_, hf.ln, k1, k2, k3, k4, k5, k6, k7⟩
  · unfold orderM; simp only; exact ⟨by omega, by omega⟩
  · obtain ⟨x, hx, rfl⟩ := List.mem_map.1 ht
    have := hl.lats x hx
    exact ⟨rb _ this.1, rb _ this.2.1, rb _ this.2.2⟩
  · obtain ⟨x, hx, rfl⟩ := List.mem_map.1 ht
    have := hl.ands x hx
    have h1 := rb _ this.2.1
    have h2 := rb _ this.2.2
    refine ⟨rb _ this.1, ?_, ?_⟩
    · unfold renAnd; simp only; rw [Int.max_def]; split
      · exact h2
      · exact h1
    · unfold renAnd; simp only; rw [Int.min_def]; split
      · exact h1
      · exact h2
  · have := hf.li; unfold orderM; simp only [List.length_map]; exact this
  · have := hf.lo; unfold orderM; simp only [List.length_map]; exact this
  · have := hf.lb; unfold orderM; simp only [List.length_map]; exact this
  · have := hf.lc; unfold orderM; simp only [List.length_map]; exact this
  · have := hf.ll; unfold orderM; simp only [List.length_map]; exact this
  · have := hf.la; unfold orderM; simp only [List.length_map]; exact this
set_option maxHeartbeats 4000000 in
set_option maxRecDepth 100000 in
theorem ordered_any (c : Cir) (s : Places) (w : World) (h : CLies w w.heap.size c s) (hf : CFits c s) :
    Calls Tryd.prog 6 #[cirV c s] w fun e w' => e = .returned (.bool (ordV c)) ∧ Below w.heap.size w w' := by
  obtain ⟨WA, hWA⟩ : ∃ x, w.alloc (.cells #[.int .i64 c.max, .slice s.ai c.ins.length s.ki, .slice s.al c.lats.length s.kl, .slice s.ao c.outs.length s.ko, .slice s.ab c.bads.length s.kb, .slice s.ac c.invs.length s.kc, .slice s.aa c.ands.length s.ka, .slice s.an c.names.length s.kn] 27) = x := ⟨_, rfl⟩
  have sA : WA.heap.size = w.heap.size + 1 := by rw [← hWA]; simp
  have bA : Below w.heap.size w WA := by rw [← hWA]; exact (Below.refl _ _).alloc (Nat.le_refl _) _
  have hA : WA.heap[w.heap.size]? = some (.cells (cirC c s) 27 (0, 0)) := by rw [← hWA]; exact Array.getElem?_push_size
  obtain ⟨e0, e1, e2, e3, e4, e5, e6, e7⟩ := Aag.cells8 hA
  have HB0 := Lib.hid bA
  have SA := Lib.hid sA
  have HA := Lib.hid hA
  have H := Lib.hid h
  have HF := Lib.hid hf
  have lA : CLies WA WA.heap.size c s := (h.below bA).more (by omega)
  clear h hf bA hA
  cases hc : chk c with
  | false =>
    have OV : Hid (ordV c = false) := by unfold Hid ordV; rw [hc]; rfl
    have ON := Lib.hid (order_no c s WA lA HF.out hc)
    clear hc lA
    rw [show cirV c s = .agg #[.int .i64 c.max, .slice s.ai c.ins.length s.ki, .slice s.al c.lats.length s.kl, .slice s.ao c.outs.length s.ko, .slice s.ab c.bads.length s.kb, .slice s.ac c.invs.length s.kc, .slice s.aa c.ands.length s.ka, .slice s.an c.names.length s.kn] from rfl] at ON ⊢
    rw [show cirV cirZ plZ = .agg #[.int .i64 0, .slice none 0 0, .slice none 0 0, .slice none 0 0, .slice none 0 0, .slice none 0 0, .slice none 0 0, .slice none 0 0] from rfl] at ON
    go_enter Tryd.func6, Tryd.ntmps6
    go_wp2_with fail
    refine ON.out.mono ?_
    rintro e w1 ⟨rfl, hb⟩
    have HB1 := Lib.hid (HB0.out.trans (hb.mono (by rw [SA.out]; omega)))
    clear e0 e1 e2 e3 e4 e5 e6 e7 hWA sA hb
    have HB2 : Hid (Below w.heap.size w (w1.alloc (.cells #[.int .i64 0, .slice none 0 0, .slice none 0 0, .slice none 0 0, .slice none 0 0, .slice none 0 0, .slice none 0 0, .slice none 0 0] 27))) := HB1.out.alloc HB1.out.size _
    go_wp2
    go_ret
    exact ⟨by rw [OV.out]; rfl, HB2.out⟩
  | true =>
    have hr : refOk c = true := by rw [← chk_same]; exact hc
    have OV : Hid (ordV c = sameV (orderM c) c) := by unfold Hid ordV; rw [hc, same_iff hr]; rfl
    have OY := Lib.hid (order_yes c s WA lA HF.out hc)
    have RK := Lib.hid hr
    clear hc lA hr
    rw [show cirV c s = .agg #[.int .i64 c.max, .slice s.ai c.ins.length s.ki, .slice s.al c.lats.length s.kl, .slice s.ao c.outs.length s.ko, .slice s.ab c.bads.length s.kb, .slice s.ac c.invs.length s.kc, .slice s.aa c.ands.length s.ka, .slice s.an c.names.length s.kn] from rfl] at OY ⊢
    go_enter Tryd.func6, Tryd.ntmps6
    go_wp2_with fail
    refine OY.out.mono ?_
    rintro e w1 ⟨⟨s', rfl, hown⟩, hb⟩
    clear e0 e1 e2 e3 e4 e5 e6 e7 hWA sA
    have HB1 := Lib.hid (HB0.out.trans (hb.mono (by rw [SA.out]; omega)))
    have G1 : Hid (w1.heap[w.heap.size]? = some (.cells (cirC c s) 27 (0, 0))) := (hb.block _ (by rw [SA.out]; omega)).trans HA.out
    have FO := Lib.hid (order_fits RK.out HF.out hown)
    have LO := Lib.hid (Owned.lies hown)
    have LC : Hid (CLies w1 w1.heap.size c s) := (H.out.below HB1.out).more HB1.out.size
    have HLT : Hid (w.heap.size < w1.heap.size) := lt_of_block G1.out
    clear hown hb
    obtain ⟨d, hd⟩ : ∃ d, d = orderM c := ⟨_, rfl⟩
    rw [← hd] at OV FO LO ⊢
    have LL : Hid (c.ins.length = d.ins.length ∧ c.lats.length = d.lats.length ∧ c.outs.length = d.outs.length ∧ c.bads.length = d.bads.length ∧ c.invs.length = d.invs.length ∧ c.ands.length = d.ands.length ∧ c.names = d.names) := by
      rw [hd]; unfold Hid orderM; simp
    clear hd
    obtain ⟨WX, hWX⟩ : ∃ x, w1.alloc (.cells #[.int .i64 d.max, .slice s'.ai d.ins.length s'.ki, .slice s'.al d.lats.length s'.kl, .slice s'.ao d.outs.length s'.ko, .slice s'.ab d.bads.length s'.kb, .slice s'.ac d.invs.length s'.kc, .slice s'.aa d.ands.length s'.ka, .slice s'.an d.names.length s'.kn] 27) = x := ⟨_, rfl⟩
    have bX : Below w1.heap.size w1 WX := by rw [← hWX]; exact (Below.refl _ _).alloc (Nat.le_refl _) _
    have hX : WX.heap[w1.heap.size]? = some (.cells (cirC d s') 27 (0, 0)) := by rw [← hWX]; exact Array.getElem?_push_size
    have HBX := Lib.hid (HB1.out.trans (bX.mono HB1.out.size))
    obtain ⟨e0, e1, e2, e3, e4, e5, e6, e7⟩ := Aag.cells8 ((bX.block _ HLT.out).trans G1.out)
    obtain ⟨f0, f1, f2, f3, f4, f5, f6, f7⟩ := Aag.cells8 hX
    have SM := Lib.hid (sameD_any d c s' s WX ((LO.out.below bX).more bX.size) ((LC.out.below bX).more bX.size) FO.out LL.out)
    rw [show cirV c s = .agg #[.int .i64 c.max, .slice s.ai c.ins.length s.ki, .slice s.al c.lats.length s.kl, .slice s.ao c.outs.length s.ko, .slice s.ab c.bads.length s.kb, .slice s.ac c.invs.length s.kc, .slice s.aa c.ands.length s.ka, .slice s.an c.names.length s.kn] from rfl, show cirV d s' = .agg #[.int .i64 d.max, .slice s'.ai d.ins.length s'.ki, .slice s'.al d.lats.length s'.kl, .slice s'.ao d.outs.length s'.ko, .slice s'.ab d.bads.length s'.kb, .slice s'.ac d.invs.length s'.kc, .slice s'.aa d.ands.length s'.ka, .slice s'.an d.names.length s'.kn] from rfl] at SM
    clear bX hX
    rw [show cirV d s' = .agg #[.int .i64 d.max, .slice s'.ai d.ins.length s'.ki, .slice s'.al d.lats.length s'.kl, .slice s'.ao d.outs.length s'.ko, .slice s'.ab d.bads.length s'.kb, .slice s'.ac d.invs.length s'.kc, .slice s'.aa d.ands.length s'.ka, .slice s'.an d.names.length s'.kn] from rfl]
    generalize sameV d c = bv at *
    go_wp2_with fail
    refine SM.out.mono ?_
    rintro e w2 ⟨rfl, hb⟩
    have HB2 := Lib.hid (HBX.out.trans (hb.mono HBX.out.size))
    clear hb
    go_wp2
    go_ret
    exact ⟨by rw [OV.out]; rfl, HB2.out⟩
end Go.Proofs.YtopjddmgejfalaaDoor.Aig
