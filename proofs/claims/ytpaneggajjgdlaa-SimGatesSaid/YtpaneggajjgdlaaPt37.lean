/- SimTells; no condition. -/
import Derived.Test.YtpaneggajjgdlaaPt36
import Derived.Test.YtpaneggajjgdlaaPt28
import Derived.OwnWalk
namespace Go.Proofs.Ytpaneggajjgdlaa.Sim
open Go.ChangeShapes Go.WideShapes Go.ChangeAt Go.RowKit Go.Maps Circ Cw
open Str

set_option maxHeartbeats 16000000 in
set_option maxRecDepth 100000 in
theorem tells_walk (c : Cir) (s : Places) (st inp vs : ByteArray) (l : Int) (cl : List Int) (A : Option Addr) (q : Nat) (w : World) (h : CLies w w.heap.size c s) (hf : CFits c s) (hzs : st.size ≤ 9223372036854775807) (hzi : inp.size ≤ 9223372036854775807) (hzv : vs.size ≤ 9223372036854775807) (hl : I64 l) (hcl : ∀ x ∈ cl, I64 x) (hcn : cl.length ≤ 9223372036854775807) (hr : LRow w w.heap.size 1 A (ints cl)) :
    Calls Try.prog 6 #[cirV c s, .string st, .string inp, .int .i64 l, .slice A cl.length q, .string vs] w fun e w' => e = .returned (.bool true) ∧ Below w.heap.size w w' := by
  obtain ⟨WA, hWA⟩ : ∃ x, w.alloc (.cells #[.int .i64 c.max, .slice s.ai c.ins.length s.ki, .slice s.al c.lats.length s.kl, .slice s.ao c.outs.length s.ko, .slice s.ab c.bads.length s.kb, .slice s.ac c.invs.length s.kc, .slice s.aa c.ands.length s.ka, .slice s.an c.names.length s.kn] 27) = x := ⟨_, rfl⟩
  have bA : Hid (Below w.heap.size w WA) := by unfold Hid; rw [← hWA]; exact (Below.refl _ _).alloc (Nat.le_refl _) _
  have GA : Hid (WA.heap[w.heap.size]? = some (.cells (cirC c s) 27 (0, 0))) := by unfold Hid; rw [← hWA]; exact Array.getElem?_push_size
  obtain ⟨e0, e1, e2, e3, e4, e5, e6, e7⟩ := cells8 GA.out
  have LW : Hid (∀ x, Below w.heap.size w x → CLies x x.heap.size c s) := fun x hx => (h.below hx).more hx.size
  have LR : Hid (∀ x, Below w.heap.size w x → LRow x x.heap.size 1 A (ints cl)) := fun x hx => (hr.below hx).more hx.size
  have HF := Lib.hid hf
  have VA := Lib.hid (fun x hx => values_any c s st inp x (LW.out x hx) hf)
  have VB := Lib.hid (fun x hx => refvalues_any c s st inp x (LW.out x hx) hf hzs hzi)
  have NA := Lib.hid (fun x hx => next_any c s st inp x (LW.out x hx) hf)
  have NB := Lib.hid (fun x hx => refnext_any c s st inp x (LW.out x hx) hf hzs hzi)
  have TA := Lib.hid (fun x => true_any vs l x hzv hl.2)
  have TB := Lib.hid (fun x => reftrue_any vs l x hzv hl.2)
  have HA := Lib.hid (fun x hx => holdsM_any vs cl A q x hzv hcl hcn (LR.out x hx))
  have HB := Lib.hid (fun x hx => refholds_any vs cl A q x hzv hcl hcn (LR.out x hx))
  have SA := Lib.hid (fun x => bits_text st (c.lats.length : Int) x)
  have SB := Lib.hid (fun x => refbits_any st (c.lats.length : Int) x hzs)
  have BV := Lib.hid (fun x => refbits_any vs (vs.size : Int) x hzv)
  have HZV := Lib.hid hzv
  unfold sv at VA VB NA NB
  generalize trueM vs.data.toList l = y1 at *
  generalize holdsM vs.data.toList cl = y2 at *
  generalize bitsM st (c.lats.length : Int) = y3 at *
  generalize (⟨(vStr c st inp).toArray⟩ : ByteArray) = s1 at *
  generalize (⟨(nStr c st inp).toArray⟩ : ByteArray) = s2 at *
  have hx := err_range c st inp
  generalize vErr c st inp = x at *
  clear h hf hr hzs hzi hcl hcn hl
  unfold cirV at VA VB NA NB ⊢
  rw [show cirC c s = #[.int .i64 c.max, .slice s.ai c.ins.length s.ki, .slice s.al c.lats.length s.kl, .slice s.ao c.outs.length s.ko, .slice s.ab c.bads.length s.kb, .slice s.ac c.invs.length s.kc, .slice s.aa c.ands.length s.ka, .slice s.an c.names.length s.kn] from rfl] at VA VB NA NB ⊢
  go_enter Try.func6, Try.ntmps6
  go_wp2_with fail
  refine (VA.out WA bA.out).mono ?_
  rintro e w1 ⟨rfl, hb⟩
  have B1 : Hid (Below w.heap.size w w1) := bA.out.trans (hb.mono bA.out.size)
  have G1 : Hid (w1.heap[w.heap.size]? = some (.cells (cirC c s) 27 (0, 0))) := (hb.block _ (lt_of_block GA.out)).trans GA.out
  clear e0 e1 e2 e3 e4 e5 e6 e7 hb
  obtain ⟨e0, e1, e2, e3, e4, e5, e6, e7⟩ := cells8 G1.out
  go_wp2_with fail
  refine (VB.out w1 B1.out).mono ?_
  rintro e w2 ⟨rfl, hb⟩
  have B2 : Hid (Below w.heap.size w w2) := B1.out.trans (hb.mono B1.out.size)
  have G2 : Hid (w2.heap[w.heap.size]? = some (.cells (cirC c s) 27 (0, 0))) := (hb.block _ (lt_of_block G1.out)).trans G1.out
  clear e0 e1 e2 e3 e4 e5 e6 e7 hb
  obtain ⟨e0, e1, e2, e3, e4, e5, e6, e7⟩ := cells8 G2.out
  go_wp2_with fail
  refine (NA.out w2 B2.out).mono ?_
  rintro e w3 ⟨rfl, hb⟩
  have B3 : Hid (Below w.heap.size w w3) := B2.out.trans (hb.mono B2.out.size)
  have G3 : Hid (w3.heap[w.heap.size]? = some (.cells (cirC c s) 27 (0, 0))) := (hb.block _ (lt_of_block G2.out)).trans G2.out
  clear e0 e1 e2 e3 e4 e5 e6 e7 hb
  obtain ⟨e0, e1, e2, e3, e4, e5, e6, e7⟩ := cells8 G3.out
  go_wp2_with fail
  refine (NB.out w3 B3.out).mono ?_
  rintro e w4 ⟨rfl, hb⟩
  have B4 : Hid (Below w.heap.size w w4) := B3.out.trans (hb.mono B3.out.size)
  have G4 : Hid (w4.heap[w.heap.size]? = some (.cells (cirC c s) 27 (0, 0))) := (hb.block _ (lt_of_block G3.out)).trans G3.out
  clear e0 e1 e2 e3 e4 e5 e6 e7 hb
  obtain ⟨e0, e1, e2, e3, e4, e5, e6, e7⟩ := cells8 G4.out
  go_wp2_with (go_at_call 22; refine (num_any _ _).mono ?_; rintro e w' ⟨rfl, rfl⟩)
  refine (alive_any w4).mono ?_
  rintro e w5 ⟨rfl, hb⟩
  have B5 : Hid (Below w.heap.size w w5) := B4.out.trans (hb.mono B4.out.size)
  have G5 : Hid (w5.heap[w.heap.size]? = some (.cells (cirC c s) 27 (0, 0))) := (hb.block _ (lt_of_block G4.out)).trans G4.out
  clear e0 e1 e2 e3 e4 e5 e6 e7 hb
  obtain ⟨e0, e1, e2, e3, e4, e5, e6, e7⟩ := cells8 G5.out
  clear hWA VA VB NA NB
  cases hq : bitsM vs (vs.size : Int) with
  | false =>
    rw [hq] at BV
    clear hq
    go_wp2_with fail
    refine (BV.out w5).mono ?_
    rintro e w' ⟨rfl, rfl⟩
    go_wp2
    go_ret
    exact ⟨rfl, B5.out⟩
  | true =>
    rw [hq] at BV
    clear hq
    go_wp2_with fail
    refine (BV.out w5).mono ?_
    rintro e w' ⟨rfl, rfl⟩
    clear BV
    have K1 := Lib.hid (fun (u : Wd w5.heap.size w5) => Calls.in_wd u (TA.out u.w) (Nat.le_refl _))
    have K2 := Lib.hid (fun (u : Wd w5.heap.size w5) => Calls.in_wd u ((TB.out u.w).mono fun e w' ⟨h1, h2⟩ => ⟨h1, h2 ▸ Below.refl _ _⟩) (Nat.le_refl _))
    have K3 := Lib.hid (fun (u : Wd w5.heap.size w5) => Calls.in_wd u (HA.out u.w (B5.out.trans (u.ok.mono B5.out.size))) (Nat.le_refl _))
    have K4 := Lib.hid (fun (u : Wd w5.heap.size w5) => Calls.in_wd u ((HB.out u.w (B5.out.trans (u.ok.mono B5.out.size))).mono fun e w' ⟨h1, h2⟩ => ⟨h1, h2 ▸ Below.refl _ _⟩) (Nat.le_refl _))
    have K5 := Lib.hid (fun (u : Wd w5.heap.size w5) => Calls.in_wd u (SA.out u.w) (Nat.le_refl _))
    have K6 := Lib.hid (fun (u : Wd w5.heap.size w5) => Calls.in_wd u ((SB.out u.w).mono fun e w' ⟨h1, h2⟩ => ⟨h1, h2 ▸ Below.refl _ _⟩) (Nat.le_refl _))
    clear TA TB HA HB SA SB
    go_wp2
    have u2 := Wd.cell e2
    refine wp_region_wd (by kernel_rfl) (by kernel_rfl) ?_
    repeat (first | go_big_quiet_skip | (go_big_quiet_want; go_big_quiet_op; first | go_big_quiet_on | (apply Exists.intro; refine ⟨fun u => ?_, ?_⟩; (first | (go_at_call 25; with_reducible exact K1.out u) | (go_at_call 26; with_reducible exact K2.out u) | (go_at_call 27; with_reducible exact K3.out u) | (go_at_call 28; with_reducible exact K4.out u) | (go_at_call 29; with_reducible exact K5.out u) | (go_at_call 24; with_reducible exact K6.out u)); go_big_quiet_on)))
    refine wpQuiet_nil ?_
    intro wz9 hw'
    obtain ⟨⟨_, hb9⟩, hw''⟩ := hw'
    subst hw''
    have BZ : Hid (Below w.heap.size w wz9) := B5.out.trans (hb9.mono B5.out.size)
    clear K1 K2 K3 K4 K5 K6 hb9 e0 e1 e2 e3 e4 e5 e6 e7
    go_wp2
    go_ret
    exact ⟨rfl, BZ.out⟩
theorem all_weights {H : Type} {ts : List TypeId} {ds : List (DataW H)} (hsz : (DataW.weightsEach Try.prog ts ds).all (· ≤ reachBytes) = true) (j : Nat) {t : TypeId} {d : DataW H} (ht : ts[j]? = some t) (hd : ds[j]? = some d) : ∀ n ∈ DataW.weights Try.prog t d, n ≤ reachBytes := fun n hn => by
  have := List.all_eq_true.1 hsz n (DataW.weights_mem_each (j := j) ht hd n hn)
  simpa using this
set_option maxRecDepth 100000 in
theorem tells_core {H : Type} {enc : TypeId × Value → H} (W : World) (v : Value) (d : DataW H) (p : List MemPlace) {r : Reach} {b0 : Nat} (hv : Value.okWide Try.prog W r b0 27 v) (h : DataW.Trod enc Try.prog W 0 (fun _ => true) true 27 v d p)
    (st : ByteArray) (hst : st.size ≤ maxLen) (inp : ByteArray) (hinp : inp.size ≤ maxLen) (l : Int) (l0 : -9223372036854775808 ≤ l) (l1 : l ≤ 9223372036854775807)
    (v1 : Value) (d1 : DataW H) (p1 : List MemPlace) {r1 : Reach} {b1 : Nat} (hv1 : Value.okWide Try.prog W r1 b1 22 v1) (h1 : DataW.Trod enc Try.prog W 0 (fun _ => true) true 22 v1 d1 p1)
    (vs : ByteArray) (hvs : vs.size ≤ maxLen) {e1 e2 e3 e5 : DataW H} {t1 t2 t3 t5 : TypeId} {ts : List TypeId} {ds : List (DataW H)} (hsz : (DataW.weightsEach Try.prog (27 :: t1 :: t2 :: t3 :: 22 :: t5 :: ts) (d :: e1 :: e2 :: e3 :: d1 :: e5 :: ds)).all (· ≤ reachBytes) = true) :
    Calls Try.prog 6 #[v, .string st, .string inp, .int .i64 l, v1, .string vs] W fun e W' => e = .returned (.bool true) ∧ Below W.heap.size W W' := by
  obtain ⟨c, s, rfl, hl, hf⟩ := open_circ hv h (all_weights hsz 0 rfl rfl)
  have hw1 := all_weights hsz 4 (t := 22) (d := d1) rfl rfl
  obtain ⟨fuel, ht⟩ := h1
  obtain ⟨A1, cl, q1, e1, r1', f1, k1, z1⟩ := open_rows 1 (by decide) (fun x : Int => [Value.int .i64 x]) I64 (fun _ => rfl) Try.underlying22 c3 (fun n cs' y h => el_int h) ht
  have hv1 : v1 = .slice A1 cl.length q1 := by
    obtain ⟨a0, len, cap, rfl⟩ := okWide_slice Try.underlying22 hv1
    simpa [Value.cells] using e1
  subst hv1
  have hbl : cl.length * 8 ≤ 140737488355328 := row_bytes (l := cl) 8 (by kernel_rfl) Try.underlying22 z1 hw1
  unfold maxLen at hst hinp hvs
  exact tells_walk c s st inp vs l cl A1 q1 W hl hf hst hinp hvs ⟨l0, l1⟩ f1 (by omega) r1'
end Go.Proofs.Ytpaneggajjgdlaa.Sim
