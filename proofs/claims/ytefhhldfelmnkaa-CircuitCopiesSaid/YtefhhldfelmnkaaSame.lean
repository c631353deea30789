/- The walk of circuit's Same, of circuits that are one; no condition. -/
import Derived.Test.YtefhhldfelmnkaaSameP
namespace Go.Proofs.Ytefhhldfelmnkaa.Cw
open Go.ChangeShapes Go.WideShapes Go.ChangeAt Go.RowKit Go.Maps Circ

/-- the boxes, and the cell behind them that holds the comparison of literals -/
structure Trio (g : Nat) (c : Cir) (s s' : Places) (w : World) : Prop where
  t : Two g c s s' w
  f : w.cell? ⟨g + 2, 0, none⟩ = some (.func (.func 28) #[] #[])
  z : g + 3 ≤ w.heap.size
theorem Trio.below {g : Nat} {c : Cir} {s s' : Places} {w w' : World} (h : Trio g c s s' w) (hb : Below w.heap.size w w') : Trio g c s s' w' :=
  ⟨h.t.below hb, cell_later hb h.f, Nat.le_trans h.z hb.size⟩
theorem trio_made (w : World) (c : Cir) (s s' : Places) (h : CLies w w.heap.size c s) (h' : CLies w w.heap.size c s') : Trio w.heap.size c s s' (((w.alloc (.cells (cirC c s) 27)).alloc (.cells (cirC c s') 27)).alloc (.cells #[.func (.func 28) #[] #[]] 55)) := by
  have hs2 : ((w.alloc (.cells (cirC c s) 27)).alloc (.cells (cirC c s') 27)).heap.size = w.heap.size + 2 := by simp
  refine ⟨(two_made w c s s' h h').below ((Below.refl _ _).alloc (Nat.le_refl _) _), ?_, by simp⟩
  have := new_cell ((w.alloc (.cells (cirC c s) 27)).alloc (.cells (cirC c s') 27)) #[.func (.func 28) #[] #[]] 55 0
  rw [hs2] at this
  rw [this]; rfl

set_option maxHeartbeats 4000000 in
set_option maxRecDepth 100000 in
theorem same_any (c : Cir) (s s' : Places) (w : World) (h : CLies w w.heap.size c s) (h' : CLies w w.heap.size c s') (hf : CFits c s) :
    Calls Try.prog 12 #[cirV c s, cirV c s'] w fun e w' => e = .returned (.bool true) ∧ Below w.heap.size w w' := by
  have hmf : ∀ (fn : Fn) (first cap : Array Value) (w : World), (Instr.makeFunc fn first cap).run Try.prog w = .ok (.func fn first cap) w := fun _ _ _ _ => rfl
  have hk28 : ∀ args w, (callFunc 28 args).run Try.prog w = .ok (.enter 28 args) w := enters_of Try.func28 (by kernel_rfl) rfl
  have hk30 : ∀ args w, (callFunc 30 args).run Try.prog w = .ok (.enter 30 args) w := enters_of Try.func30 (by kernel_rfl) rfl
  have hk31 : ∀ args w, (callFunc 31 args).run Try.prog w = .ok (.enter 31 args) w := enters_of Try.func31 (by kernel_rfl) rfl
  have E28 := Lib.hid hk28
  have E30 := Lib.hid hk30
  have E31 := Lib.hid hk31
  clear hk28 hk30 hk31
  obtain ⟨li, lo, lb, lc, ll, la, ln⟩ : _ ∧ _ ∧ _ ∧ _ ∧ _ ∧ _ ∧ _ := ⟨hf.li, hf.lo, hf.lb, hf.lc, hf.ll, hf.la, hf.ln⟩
  have HB0 : Hid (Below w.heap.size w (((w.alloc (.cells (cirC c s) 27)).alloc (.cells (cirC c s') 27)).alloc (.cells #[.func (.func 28) #[] #[]] 55))) := (((Below.refl _ _).alloc (Nat.le_refl _) _).alloc (by simp) _).alloc (by simp; omega) _
  have T0 := Lib.hid (trio_made w c s s' h h')
  have g0 := T0.out.f
  obtain ⟨e0, e1, e2, e3, e4, e5, e6, e7⟩ := T0.out.t.b.cells
  obtain ⟨f0, f1, f2, f3, f4, f5, f6, f7⟩ := T0.out.t.b'.cells
  clear h h' hf
  have hmm : (c.max == c.max) = true := by simp
  have ONE : Hid (∀ (l : List Int) (W : World) (i : Nat) (hi : i < l.length), Twin 28 #[] W.heap.size W (.int .i64 l[i])) := fun l W i hi w' hb => (one_any l[i] w').mono (by rintro e w'' ⟨rfl, rfl⟩; exact ⟨rfl, hb⟩)
  have LAT : Hid (∀ (l : List Tri) (g : Nat) (W : World) (hg : W.cell? ⟨g, 0, none⟩ = some (.func (.func 28) #[] #[])) (i : Nat) (hi : i < l.length), Twin 30 #[.pointer (some ⟨g, 0, none⟩)] W.heap.size W (triV l[i])) := fun l g W hg i hi w' hb =>
    (same30_any l[i] g w' (cell_later hb hg)).mono (by rintro e w'' ⟨rfl, h⟩; exact ⟨rfl, hb.trans (h.mono hb.size)⟩)
  have AND : Hid (∀ (l : List Tri) (g : Nat) (W : World) (hg : W.cell? ⟨g, 0, none⟩ = some (.func (.func 28) #[] #[])) (i : Nat) (hi : i < l.length), Twin 31 #[.pointer (some ⟨g, 0, none⟩)] W.heap.size W (triV l[i])) := fun l g W hg i hi w' hb =>
    (same31_any l[i] g w' (cell_later hb hg)).mono (by rintro e w'' ⟨rfl, h⟩; exact ⟨rfl, hb.trans (h.mono hb.size)⟩)
  unfold cirV
  rw [show cirC c s = #[.int .i64 c.max, .slice s.ai c.ins.length s.ki, .slice s.al c.lats.length s.kl, .slice s.ao c.outs.length s.ko, .slice s.ab c.bads.length s.kb, .slice s.ac c.invs.length s.kc, .slice s.aa c.ands.length s.ka, .slice s.an c.names.length s.kn] from rfl] at *
  rw [show cirC c s' = #[.int .i64 c.max, .slice s'.ai c.ins.length s'.ki, .slice s'.al c.lats.length s'.kl, .slice s'.ao c.outs.length s'.ko, .slice s'.ab c.bads.length s'.kb, .slice s'.ac c.invs.length s'.kc, .slice s'.aa c.ands.length s'.ka, .slice s'.an c.names.length s'.kn] from rfl] at *
  go_enter Try.func12, Try.ntmps12
  go_wp2_with fail
  refine (equal32_any 28 #[] c.ins _ _ _ _ _ (by omega) E28.out (T0.out.t.l.ins.more (by have := T0.out.z; omega)) (T0.out.t.l'.ins.more (by have := T0.out.z; omega)) (ONE.out c.ins _)).mono ?_
  rintro e w1 ⟨rfl, hb1⟩
  have T1 := Lib.hid (T0.out.below hb1)
  have HB1 := Lib.hid (HB0.out.trans (hb1.mono (by have := T0.out.z; omega)))
  clear e0 e1 e2 e3 e4 e5 e6 e7 f0 f1 f2 f3 f4 f5 f6 f7 g0 hb1 HB0 T0
  have g0 := T1.out.f
  obtain ⟨e0, e1, e2, e3, e4, e5, e6, e7⟩ := T1.out.t.b.cells
  obtain ⟨f0, f1, f2, f3, f4, f5, f6, f7⟩ := T1.out.t.b'.cells
  go_wp2_with fail
  refine (equal33_any 30 #[.pointer (some ⟨w.heap.size + 2, 0, none⟩)] c.lats _ _ _ _ _ (by omega) E30.out (T1.out.t.l.lats.more (by have := T1.out.z; omega)) (T1.out.t.l'.lats.more (by have := T1.out.z; omega)) (LAT.out c.lats _ _ T1.out.f)).mono ?_
  rintro e w2 ⟨rfl, hb1⟩
  have T2 := Lib.hid (T1.out.below hb1)
  have HB2 := Lib.hid (HB1.out.trans (hb1.mono (by have := T1.out.z; omega)))
  clear e0 e1 e2 e3 e4 e5 e6 e7 f0 f1 f2 f3 f4 f5 f6 f7 g0 hb1 HB1 T1
  have g0 := T2.out.f
  obtain ⟨e0, e1, e2, e3, e4, e5, e6, e7⟩ := T2.out.t.b.cells
  obtain ⟨f0, f1, f2, f3, f4, f5, f6, f7⟩ := T2.out.t.b'.cells
  go_wp2_with fail
  refine (equal32_any 28 #[] c.outs _ _ _ _ _ (by omega) E28.out (T2.out.t.l.outs.more (by have := T2.out.z; omega)) (T2.out.t.l'.outs.more (by have := T2.out.z; omega)) (ONE.out c.outs _)).mono ?_
  rintro e w3 ⟨rfl, hb1⟩
  have T3 := Lib.hid (T2.out.below hb1)
  have HB3 := Lib.hid (HB2.out.trans (hb1.mono (by have := T2.out.z; omega)))
  clear e0 e1 e2 e3 e4 e5 e6 e7 f0 f1 f2 f3 f4 f5 f6 f7 g0 hb1 HB2 T2
  have g0 := T3.out.f
  obtain ⟨e0, e1, e2, e3, e4, e5, e6, e7⟩ := T3.out.t.b.cells
  obtain ⟨f0, f1, f2, f3, f4, f5, f6, f7⟩ := T3.out.t.b'.cells
  go_wp2_with fail
  refine (equal32_any 28 #[] c.bads _ _ _ _ _ (by omega) E28.out (T3.out.t.l.bads.more (by have := T3.out.z; omega)) (T3.out.t.l'.bads.more (by have := T3.out.z; omega)) (ONE.out c.bads _)).mono ?_
  rintro e w4 ⟨rfl, hb1⟩
  have T4 := Lib.hid (T3.out.below hb1)
  have HB4 := Lib.hid (HB3.out.trans (hb1.mono (by have := T3.out.z; omega)))
  clear e0 e1 e2 e3 e4 e5 e6 e7 f0 f1 f2 f3 f4 f5 f6 f7 g0 hb1 HB3 T3
  have g0 := T4.out.f
  obtain ⟨e0, e1, e2, e3, e4, e5, e6, e7⟩ := T4.out.t.b.cells
  obtain ⟨f0, f1, f2, f3, f4, f5, f6, f7⟩ := T4.out.t.b'.cells
  go_wp2_with fail
  refine (equal32_any 28 #[] c.invs _ _ _ _ _ (by omega) E28.out (T4.out.t.l.invs.more (by have := T4.out.z; omega)) (T4.out.t.l'.invs.more (by have := T4.out.z; omega)) (ONE.out c.invs _)).mono ?_
  rintro e w5 ⟨rfl, hb1⟩
  have T5 := Lib.hid (T4.out.below hb1)
  have HB5 := Lib.hid (HB4.out.trans (hb1.mono (by have := T4.out.z; omega)))
  clear e0 e1 e2 e3 e4 e5 e6 e7 f0 f1 f2 f3 f4 f5 f6 f7 g0 hb1 HB4 T4
  have g0 := T5.out.f
  obtain ⟨e0, e1, e2, e3, e4, e5, e6, e7⟩ := T5.out.t.b.cells
  obtain ⟨f0, f1, f2, f3, f4, f5, f6, f7⟩ := T5.out.t.b'.cells
  go_wp2_with fail
  refine (equal34_any 31 #[.pointer (some ⟨w.heap.size + 2, 0, none⟩)] c.ands _ _ _ _ _ (by omega) E31.out (T5.out.t.l.ands.more (by have := T5.out.z; omega)) (T5.out.t.l'.ands.more (by have := T5.out.z; omega)) (AND.out c.ands _ _ T5.out.f)).mono ?_
  rintro e w6 ⟨rfl, hb1⟩
  have T6 := Lib.hid (T5.out.below hb1)
  have HB6 := Lib.hid (HB5.out.trans (hb1.mono (by have := T5.out.z; omega)))
  clear e0 e1 e2 e3 e4 e5 e6 e7 f0 f1 f2 f3 f4 f5 f6 f7 g0 hb1 HB5 T5
  have g0 := T6.out.f
  obtain ⟨e0, e1, e2, e3, e4, e5, e6, e7⟩ := T6.out.t.b.cells
  obtain ⟨f0, f1, f2, f3, f4, f5, f6, f7⟩ := T6.out.t.b'.cells
  go_wp2_with fail
  refine (equal35_any c.names _ _ _ _ _ _ _ (by omega) T6.out.t.l.names T6.out.t.l'.names).mono ?_
  rintro e w7 ⟨rfl, hb1⟩
  have HB7 := Lib.hid (HB6.out.trans (hb1.mono (by have := T6.out.z; omega)))
  go_wp2
  go_ret
  exact ⟨rfl, HB7.out⟩
end Go.Proofs.Ytefhhldfelmnkaa.Cw
