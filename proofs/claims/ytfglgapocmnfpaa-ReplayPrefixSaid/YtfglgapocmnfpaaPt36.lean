/- sim.Next, First and Initial, and what the pages say of Next; condition: the circuit lies in memory, texts are as long as Go's may be. Paths, gone again: which steps are allowed, which witnesses are right; no program is named here, no condition. Arguments that are a witness, opened; no condition. -/
import Derived.Test.YtfglgapocmnfpaaPt35
import Derived.Test.YtfglgapocmnfpaaPt28
namespace Go.Proofs.Ytfglgapocmnfpaa.Sim
open Go.ChangeShapes Go.WideShapes Go.ChangeAt Go.RowKit Go.Maps Circ Cw
open Str

/-- may values be asked? -/
def okB (c : Cir) (st inp : ByteArray) : Bool := bitsM st (c.lats.length : Int) && bitsM inp (c.ins.length : Int)
def vErr (c : Cir) (st inp : ByteArray) : Int := if refOk c = true then (if okB c st inp = true then 0 else 5) else 9
def vStr (c : Cir) (st inp : ByteArray) : List UInt8 := if vErr c st inp = 0 then valsM c st inp else []
theorem err_no {c : Cir} {st inp : ByteArray} (h : refOk c = false) : vErr c st inp = 9 := by unfold vErr; rw [h]; rfl
theorem err_long {c : Cir} {st inp : ByteArray} (h : refOk c = true) (h2 : okB c st inp = false) : vErr c st inp = 5 := by unfold vErr; rw [h, h2]; rfl
theorem err_ok {c : Cir} {st inp : ByteArray} (h : refOk c = true) (h2 : okB c st inp = true) : vErr c st inp = 0 := by unfold vErr; rw [h, h2]; rfl
theorem str_bad {c : Cir} {st inp : ByteArray} (h : vErr c st inp ≠ 0) : vStr c st inp = [] := if_neg h
theorem str_ok {c : Cir} {st inp : ByteArray} (h : vErr c st inp = 0) : vStr c st inp = valsM c st inp := if_pos h
theorem err_is {c : Cir} {st inp : ByteArray} (h : vErr c st inp = 0) : refOk c = true ∧ bitsM st (c.lats.length : Int) = true ∧ bitsM inp (c.ins.length : Int) = true := by
  cases h1 : refOk c with
  | false => rw [err_no h1] at h; exact absurd h (by decide)
  | true =>
    cases h2 : okB c st inp with
    | false => rw [err_long h1 h2] at h; exact absurd h (by decide)
    | true =>
      unfold okB at h2
      rw [Bool.and_eq_true] at h2
      exact ⟨rfl, h2⟩
theorem err_range (c : Cir) (st inp : ByteArray) : 0 ≤ vErr c st inp ∧ vErr c st inp ≤ 9 := by unfold vErr; split <;> (try split) <;> omega
theorem values_any (c : Cir) (s : Places) (st inp : ByteArray) (w : World) (h : CLies w w.heap.size c s) (hf : CFits c s) :
    Calls Try.prog 21 #[cirV c s, .string st, .string inp] w fun e w' => e = .returned (.tuple #[sv (vStr c st inp), .int .i64 (vErr c st inp)]) ∧ Below w.heap.size w w' := by
  cases h1 : refOk c with
  | false =>
    rw [str_bad (by rw [err_no h1]; decide), err_no h1]
    exact values_no c s st inp w h hf (by rw [chk_same]; exact h1)
  | true =>
    cases h2 : okB c st inp with
    | false =>
      rw [str_bad (by rw [err_long h1 h2]; decide), err_long h1 h2]
      cases hs : bitsM st (c.lats.length : Int) with
      | false => exact values_long1 c s st inp w h hf (by rw [chk_same]; exact h1) hs
      | true =>
        unfold okB at h2
        rw [hs, Bool.true_and] at h2
        exact values_long2 c s st inp w h hf (by rw [chk_same]; exact h1) hs h2
    | true =>
      rw [str_ok (err_ok h1 h2), err_ok h1 h2]
      unfold okB at h2
      rw [Bool.and_eq_true] at h2
      exact values_yes c s st inp w h hf (by rw [chk_same]; exact h1) h2.1 h2.2
theorem refvalues_any (c : Cir) (s : Places) (st inp : ByteArray) (w : World) (h : CLies w w.heap.size c s) (hf : CFits c s) (hzs : st.size ≤ 9223372036854775807) (hzi : inp.size ≤ 9223372036854775807) :
    Calls Try.prog 22 #[cirV c s, .string st, .string inp] w fun e w' => e = .returned (.tuple #[sv (vStr c st inp), .int .i64 (vErr c st inp)]) ∧ Below w.heap.size w w' := by
  cases h1 : refOk c with
  | false =>
    rw [str_bad (by rw [err_no h1]; decide), err_no h1]
    exact refvalues_no c s st inp w h hf hzs hzi h1
  | true =>
    cases h2 : okB c st inp with
    | false =>
      rw [str_bad (by rw [err_long h1 h2]; decide), err_long h1 h2]
      cases hs : bitsM st (c.lats.length : Int) with
      | false => exact refvalues_long1 c s st inp w h hf hzs hzi h1 hs
      | true =>
        unfold okB at h2
        rw [hs, Bool.true_and] at h2
        exact refvalues_long2 c s st inp w h hf hzs hzi h1 hs h2
    | true =>
      rw [str_ok (err_ok h1 h2), err_ok h1 h2]
      unfold okB at h2
      rw [Bool.and_eq_true] at h2
      exact refvalues_yes c s st inp w h hf hzs hzi h1 h2.1 h2.2
/-- the state behind values -/
def nxtL (c : Cir) (v : List UInt8) : List UInt8 := bitL (fun i => trueM v (c.lats.getD i ⟨0, 0, 0⟩).b) c.lats.length
def nStr (c : Cir) (st inp : ByteArray) : List UInt8 := if vErr c st inp = 0 then nxtL c (valsM c st inp) else []
theorem lat_at (c : Cir) {i : Nat} (h : i < c.lats.length) : c.lats.getD i ⟨0, 0, 0⟩ = c.lats[i] := by rw [List.getD_eq_getElem?_getD, List.getElem?_eq_getElem h]; rfl
/-- what the closure of Next answers of latch number i -/
theorem next1_any (g gc b o n q i : Nat) (x : Int) (v : List UInt8) (w : World) (hg : w.cell? ⟨g, 0, none⟩ = some (sv v)) (hc : w.cell? ⟨gc, 2, none⟩ = some (.slice (some ⟨b, o, none⟩) n q)) (hx : w.cell? ⟨b, o + i * 3 + 1, none⟩ = some (.int .i64 x)) (hi : i < n) (hv : v.length ≤ 1048576) (hx2 : x ≤ 9223372036854775807) :
    Tells 62 #[.pointer (some ⟨g, 0, none⟩), .pointer (some ⟨gc, 0, none⟩)] w (.int .i64 (i : Int)) (trueM v x) := by
  unfold Tells
  show Calls Try.prog 62 #[.int .i64 (i : Int), .pointer (some ⟨g, 0, none⟩), .pointer (some ⟨gc, 0, none⟩)] w _
  have KT := Lib.hid (fun (u : Wd w.heap.size w) => Calls.in_wd u (true_any ⟨v.toArray⟩ x u.w (by rw [sv_size]; omega) hx2) (Nat.le_refl _))
  rw [show (⟨v.toArray⟩ : ByteArray).data.toList = v from rfl] at KT
  unfold sv at hg
  generalize (⟨v.toArray⟩ : ByteArray) = sx at *
  generalize trueM v x = y at *
  go_enter Try.func62, Try.ntmps62
  go_wp2
  have u1 := Wd.cell hg
  have u2 := Wd.cell hc
  have u3 := Wd.cell hx
  refine wp_region_wd (by kernel_rfl) (by kernel_rfl) ?_
  repeat (first | go_big_quiet_skip | (go_big_quiet_want; go_big_quiet_op; first | go_big_quiet_on | (apply Exists.intro; refine ⟨fun u => ?_, ?_⟩; (go_at_call 28; with_reducible exact KT.out u); go_big_quiet_on)))
  refine wpQuiet_nil ?_
  intro wz9 hw'
  obtain ⟨⟨_, hb9⟩, hw''⟩ := hw'
  subst hw''
  go_wp2
  go_ret
  exact ⟨rfl, hb9⟩
set_option maxHeartbeats 16000000 in
set_option maxRecDepth 100000 in
theorem next_any (c : Cir) (s : Places) (st inp : ByteArray) (w : World) (h : CLies w w.heap.size c s) (hf : CFits c s) :
    Calls Try.prog 23 #[cirV c s, .string st, .string inp] w fun e w' => e = .returned (.tuple #[sv (nStr c st inp), .int .i64 (vErr c st inp)]) ∧ Below w.heap.size w w' := by
  have hmf : ∀ (fn : Fn) (first cap : Array Value) (w : World), (Instr.makeFunc fn first cap).run Try.prog w = .ok (.func fn first cap) w := fun _ _ _ _ => rfl
  obtain ⟨WA, hWA⟩ : ∃ x, w.alloc (.cells #[.int .i64 c.max, .slice s.ai c.ins.length s.ki, .slice s.al c.lats.length s.kl, .slice s.ao c.outs.length s.ko, .slice s.ab c.bads.length s.kb, .slice s.ac c.invs.length s.kc, .slice s.aa c.ands.length s.ka, .slice s.an c.names.length s.kn] 27) = x := ⟨_, rfl⟩
  have bA : Hid (Below w.heap.size w WA) := by unfold Hid; rw [← hWA]; exact (Below.refl _ _).alloc (Nat.le_refl _) _
  have GA : Hid (WA.heap[w.heap.size]? = some (.cells (cirC c s) 27 (0, 0))) := by unfold Hid; rw [← hWA]; exact Array.getElem?_push_size
  obtain ⟨e0, e1, e2, e3, e4, e5, e6, e7⟩ := cells8 GA.out
  have CK := Lib.hid (values_any c s st inp WA ((h.below bA.out).more bA.out.size) hf)
  have HF := Lib.hid hf
  have LW : Hid (∀ x, Below w.heap.size w x → CLies x x.heap.size c s) := fun x hx => (h.below hx).more hx.size
  have hr := err_range c st inp
  by_cases hv : vErr c st inp = 0
  · have HE := Lib.hid hv
    have hnn : nStr c st inp = nxtL c (valsM c st inp) := if_pos hv
    rw [hnn]
    rw [str_ok hv, hv] at CK
    rw [hv]
    clear h hf hnn hr hv
    unfold cirV at CK ⊢
    rw [show cirC c s = #[.int .i64 c.max, .slice s.ai c.ins.length s.ki, .slice s.al c.lats.length s.kl, .slice s.ao c.outs.length s.ko, .slice s.ab c.bads.length s.kb, .slice s.ac c.invs.length s.kc, .slice s.aa c.ands.length s.ka, .slice s.an c.names.length s.kn] from rfl] at CK ⊢
    go_enter Try.func23, Try.ntmps23
    go_wp2_with fail
    refine CK.out.mono ?_
    rintro e w1 ⟨rfl, hb⟩
    have B1 : Hid (Below w.heap.size w w1) := bA.out.trans (hb.mono bA.out.size)
    have G1 : Hid (w1.heap[w.heap.size]? = some (.cells (cirC c s) 27 (0, 0))) := (hb.block _ (lt_of_block GA.out)).trans GA.out
    clear e0 e1 e2 e3 e4 e5 e6 e7 hWA CK hb
    obtain ⟨hr, hbs, hbi⟩ := err_is HE.out
    have HVL : Hid ((valsM c st inp).length ≤ 1048576) := by
      obtain ⟨m, hm, hm1⟩ := max_nat hr
      unfold Hid; rw [vals_len, hm]; simp; omega
    have HZ := Lib.hid (ref_sizes hr)
    clear hr hbs hbi
    obtain ⟨W0, hW0⟩ : ∃ x, w1.alloc (.cells #[.string ⟨#[]⟩] 9) = x := ⟨_, rfl⟩
    have b0 : Below w1.heap.size w1 W0 := by rw [← hW0]; exact (Below.refl _ _).alloc (Nat.le_refl _) _
    have h0 : W0.heap[w1.heap.size]? = some (.cells #[.string ⟨#[]⟩] 9 (0, 0)) := by rw [← hW0]; exact Array.getElem?_push_size
    unfold sv
    obtain ⟨sx, hsx⟩ : ∃ q, (⟨(valsM c st inp).toArray⟩ : ByteArray) = q := ⟨_, rfl⟩
    rw [hsx]
    obtain ⟨W2, u2, ⟨hW2, pW2, tW2⟩, EW2, FW2⟩ := step_set W0 _ 0 (.string sx) h0 (by simp)
    have K2 : Hid (W2.heap[w1.heap.size]? = some (.cells #[sv (valsM c st inp)] 9 (0, 0))) := by unfold Hid sv; rw [hsx]; exact EW2
    have b2 : Below w1.heap.size w1 W2 := FW2.below b0 (Nat.le_refl _)
    clear b0 h0 EW2 FW2 hsx
    have B2 := Lib.hid b2
    have G2 : Hid (W2.heap[w.heap.size]? = some (.cells (cirC c s) 27 (0, 0))) := (b2.block _ (lt_of_block G1.out)).trans G1.out
    obtain ⟨e0, e1, e2, e3, e4, e5, e6, e7⟩ := cells8 G2.out
    have EV : ∀ args w, (callFunc 62 args).run Try.prog w = .ok (.enter 62 args) w := enters_of Try.func62 (by kernel_rfl) rfl
    have zl : c.lats.length ≤ 64 := HZ.out.2.1
    have BT := Lib.hid (bits_any c.lats.length 62 #[.pointer (some ⟨w1.heap.size, 0, none⟩), .pointer (some ⟨w.heap.size, 0, none⟩)] (fun i => trueM (valsM c st inp) (c.lats.getD i ⟨0, 0, 0⟩).b) W2 (by omega) EV (fun X hX i hi => by
      have bX : Below w.heap.size w X := B1.out.trans ((B2.out.trans (hX.mono B2.out.size)).mono B1.out.size)
      obtain ⟨b0, o, hA, -, c0, c1, c2⟩ := LRow.tri (LW.out X bX).lats hi
      have hk := (cells8 ((hX.block _ (lt_of_block G2.out)).trans G2.out)).2.2.1
      rw [hA] at hk
      have hg : X.cell? ⟨w1.heap.size, 0, none⟩ = some (sv (valsM c st inp)) := by rw [Lib.cell_of_heap ((hX.block _ (lt_of_block K2.out)).trans K2.out)]; rfl
      show Tells _ _ _ _ (trueM (valsM c st inp) (c.lats.getD i ⟨0, 0, 0⟩).b)
      rw [lat_at c hi]
      exact next1_any _ _ b0 o c.lats.length s.kl i _ _ X hg hk c1 hi HVL.out (HF.out.lats _ (List.getElem_mem hi)).2.1.2))
    rw [show bitL (fun i => trueM (valsM c st inp) (c.lats.getD i ⟨0, 0, 0⟩).b) c.lats.length = nxtL c (valsM c st inp) from rfl] at BT
    clear EV b2
    unfold sv at BT
    go_wp2_with fail
    refine BT.out.mono ?_
    rintro e w3 ⟨rfl, hb⟩
    have BF : Hid (Below w.heap.size w w3) := B1.out.trans ((B2.out.trans (hb.mono B2.out.size)).mono B1.out.size)
    clear hb BT hW0 hW2 pW2 tW2 e0 e1 e2 e3 e4 e5 e6 e7
    go_wp2
    go_ret2
    exact ⟨rfl, BF.out⟩
  · have hnn : nStr c st inp = [] := if_neg hv
    rw [hnn]
    rw [str_bad hv] at CK
    have hz : (vErr c st inp == 0) = false := beq_eq_false_iff_ne.2 hv
    have hz2 : (vErr c st inp != 0) = true := bne_iff_ne.2 hv
    clear h hf hnn
    generalize vErr c st inp = x at *
    unfold cirV at CK ⊢
    rw [show cirC c s = #[.int .i64 c.max, .slice s.ai c.ins.length s.ki, .slice s.al c.lats.length s.kl, .slice s.ao c.outs.length s.ko, .slice s.ab c.bads.length s.kb, .slice s.ac c.invs.length s.kc, .slice s.aa c.ands.length s.ka, .slice s.an c.names.length s.kn] from rfl] at CK ⊢
    go_enter Try.func23, Try.ntmps23
    go_wp2_with fail
    refine CK.out.mono ?_
    rintro e w1 ⟨rfl, hb⟩
    have B1 : Hid (Below w.heap.size w w1) := bA.out.trans (hb.mono bA.out.size)
    clear e0 e1 e2 e3 e4 e5 e6 e7 hWA CK hb
    obtain ⟨W0, hW0⟩ : ∃ x, w1.alloc (.cells #[.string ⟨#[]⟩] 9) = x := ⟨_, rfl⟩
    have b0 : Below w1.heap.size w1 W0 := by rw [← hW0]; exact (Below.refl _ _).alloc (Nat.le_refl _) _
    have h0 : W0.heap[w1.heap.size]? = some (.cells #[.string ⟨#[]⟩] 9 (0, 0)) := by rw [← hW0]; exact Array.getElem?_push_size
    obtain ⟨W2, u2, ⟨hW2, pW2, tW2⟩, EW2, FW2⟩ := step_set W0 _ 0 (.string ⟨#[]⟩) h0 (by simp)
    have BF : Hid (Below w.heap.size w W2) := B1.out.trans ((FW2.below b0 (Nat.le_refl _)).mono B1.out.size)
    clear b0 h0 EW2 FW2
    unfold sv
    go_wp2
    go_ret2
    exact ⟨rfl, BF.out⟩
set_option maxHeartbeats 16000000 in
set_option maxRecDepth 100000 in
theorem refnext_any (c : Cir) (s : Places) (st inp : ByteArray) (w : World) (h : CLies w w.heap.size c s) (hf : CFits c s) (hzs : st.size ≤ 9223372036854775807) (hzi : inp.size ≤ 9223372036854775807) :
    Calls Try.prog 24 #[cirV c s, .string st, .string inp] w fun e w' => e = .returned (.tuple #[sv (nStr c st inp), .int .i64 (vErr c st inp)]) ∧ Below w.heap.size w w' := by
  obtain ⟨WA, hWA⟩ : ∃ x, w.alloc (.cells #[.int .i64 c.max, .slice s.ai c.ins.length s.ki, .slice s.al c.lats.length s.kl, .slice s.ao c.outs.length s.ko, .slice s.ab c.bads.length s.kb, .slice s.ac c.invs.length s.kc, .slice s.aa c.ands.length s.ka, .slice s.an c.names.length s.kn] 27) = x := ⟨_, rfl⟩
  have bA : Hid (Below w.heap.size w WA) := by unfold Hid; rw [← hWA]; exact (Below.refl _ _).alloc (Nat.le_refl _) _
  have GA : Hid (WA.heap[w.heap.size]? = some (.cells (cirC c s) 27 (0, 0))) := by unfold Hid; rw [← hWA]; exact Array.getElem?_push_size
  obtain ⟨e0, e1, e2, e3, e4, e5, e6, e7⟩ := cells8 GA.out
  have CK := Lib.hid (refvalues_any c s st inp WA ((h.below bA.out).more bA.out.size) hf hzs hzi)
  have HF := Lib.hid hf
  have LW : Hid (∀ x, Below w.heap.size w x → CLies x x.heap.size c s) := fun x hx => (h.below hx).more hx.size
  by_cases hv : vErr c st inp = 0
  · have HE := Lib.hid hv
    have hnn : nStr c st inp = nxtL c (valsM c st inp) := if_pos hv
    rw [hnn]
    rw [str_ok hv, hv] at CK
    rw [hv]
    clear h hf hnn hv
    unfold cirV at CK ⊢
    rw [show cirC c s = #[.int .i64 c.max, .slice s.ai c.ins.length s.ki, .slice s.al c.lats.length s.kl, .slice s.ao c.outs.length s.ko, .slice s.ab c.bads.length s.kb, .slice s.ac c.invs.length s.kc, .slice s.aa c.ands.length s.ka, .slice s.an c.names.length s.kn] from rfl] at CK ⊢
    go_enter Try.func24, Try.ntmps24
    go_wp2_with fail
    refine CK.out.mono ?_
    rintro e w1 ⟨rfl, hb⟩
    have B1 : Hid (Below w.heap.size w w1) := bA.out.trans (hb.mono bA.out.size)
    have G1 : Hid (w1.heap[w.heap.size]? = some (.cells (cirC c s) 27 (0, 0))) := (hb.block _ (lt_of_block GA.out)).trans GA.out
    clear e0 e1 e2 e3 e4 e5 e6 e7 hWA CK hb
    obtain ⟨hr, hbs, hbi⟩ := err_is HE.out
    have HVL : Hid ((valsM c st inp).length ≤ 1048576) := by
      obtain ⟨m, hm, hm1⟩ := max_nat hr
      unfold Hid; rw [vals_len, hm]; simp; omega
    have HZ := Lib.hid (ref_sizes hr)
    clear hr hbs hbi
    have QT : Hid (∀ x, x ≤ 9223372036854775807 → Calls Try.prog 29 #[sv (valsM c st inp), .int .i64 x] w1 fun e w' => e = .returned (.bool (trueM (valsM c st inp) x)) ∧ w1 = w') := fun x hx => reftrue_any ⟨(valsM c st inp).toArray⟩ x w1 (by rw [sv_size]; have := HVL.out; omega) hx
    obtain ⟨e0, e1, e2, e3, e4, e5, e6, e7⟩ := cells8 G1.out
    generalize sv (valsM c st inp) = vz at QT ⊢
    go_wp2
    clear e0 e1 e2 e3 e4 e5 e6 e7
    go_loop [10, 11] (fun t i => ∃ j : Nat, j ≤ c.lats.length ∧ i = .int .i64 j ∧ t = .string ⟨(bitL (fun i => trueM (valsM c st inp) (c.lats.getD i ⟨0, 0, 0⟩).b) j).toArray⟩) (fun _ i => c.lats.length - (intOf i).toNat)
    case atStart => exact ⟨0, Nat.zero_le _, rfl, rfl⟩
    case round =>
      obtain ⟨j, hj, rfl, rfl⟩ := hrel
      have zl : c.lats.length ≤ 64 := HZ.out.2.1
      obtain ⟨e0, e1, e2, e3, e4, e5, e6, e7⟩ := cells8 G1.out
      by_cases hlt : j < c.lats.length
      · obtain ⟨b0, o, hA, -, c0, c1, c2⟩ := LRow.tri (LW.out w1 B1.out).lats hlt
        rw [hA] at e2
        clear hA
        have QJ := Lib.hid (QT.out _ (HF.out.lats _ (List.getElem_mem hlt)).2.1.2)
        have HSN : Hid ((⟨(bitL (fun i => trueM (valsM c st inp) (c.lats.getD i ⟨0, 0, 0⟩).b) j).toArray⟩ : ByteArray) ++ ⟨[bitB (trueM (valsM c st inp) c.lats[j].b)].toArray⟩ = ⟨(bitL (fun i => trueM (valsM c st inp) (c.lats.getD i ⟨0, 0, 0⟩).b) (j + 1)).toArray⟩) := by
          unfold Hid
          rw [bitL_snoc, lat_at c hlt]
          apply ByteArray.ext
          rw [ByteArray.data_append]
          apply Array.toList_inj.1
          simp
        have hsz : (⟨(bitL (fun i => trueM (valsM c st inp) (c.lats.getD i ⟨0, 0, 0⟩).b) j).toArray⟩ : ByteArray).size ≤ 64 := by rw [sv_size, bitL_len]; omega
        obtain ⟨s0, hs0⟩ : ∃ q, (⟨(bitL (fun i => trueM (valsM c st inp) (c.lats.getD i ⟨0, 0, 0⟩).b) j).toArray⟩ : ByteArray) = q := ⟨_, rfl⟩
        rw [hs0] at HSN hsz ⊢
        clear hs0
        generalize c.lats[j] = t at *
        generalize trueM (valsM c st inp) t.b = y at *
        have RB := Lib.hid (refbit_any y w1)
        unfold sv at RB
        have hz1 : (⟨[bitB y].toArray⟩ : ByteArray).size ≤ 64 := by rw [sv_size]; simp
        generalize (⟨[bitB y].toArray⟩ : ByteArray) = s1 at *
        go_wp2_with fail
        refine QJ.out.mono ?_
        rintro e w' ⟨rfl, rfl⟩
        go_wp2_with fail
        refine RB.out.mono ?_
        rintro e w' ⟨rfl, rfl⟩
        clear RB QJ
        go_wp2
        go_round
        case rel => exact ⟨j + 1, by omega, by go_num, by rw [← HSN.out]⟩
        case measure => simp [intOf]; omega
      · obtain rfl : j = c.lats.length := by omega
        go_wp2
        go_ret2
        exact ⟨rfl, B1.out⟩
  · have hnn : nStr c st inp = [] := if_neg hv
    rw [hnn]
    rw [str_bad hv] at CK
    have hr := err_range c st inp
    have hz : (vErr c st inp == 0) = false := beq_eq_false_iff_ne.2 hv
    have hz2 : (vErr c st inp != 0) = true := bne_iff_ne.2 hv
    clear h hf hnn
    generalize vErr c st inp = x at *
    unfold cirV at CK ⊢
    rw [show cirC c s = #[.int .i64 c.max, .slice s.ai c.ins.length s.ki, .slice s.al c.lats.length s.kl, .slice s.ao c.outs.length s.ko, .slice s.ab c.bads.length s.kb, .slice s.ac c.invs.length s.kc, .slice s.aa c.ands.length s.ka, .slice s.an c.names.length s.kn] from rfl] at CK ⊢
    go_enter Try.func24, Try.ntmps24
    go_wp2_with fail
    refine CK.out.mono ?_
    rintro e w1 ⟨rfl, hb⟩
    have B1 : Hid (Below w.heap.size w w1) := bA.out.trans (hb.mono bA.out.size)
    clear e0 e1 e2 e3 e4 e5 e6 e7 hWA CK hb
    go_wp2
    go_ret2
    exact ⟨rfl, B1.out⟩
end Go.Proofs.Ytfglgapocmnfpaa.Sim
namespace Go.Proofs.Ytfglgapocmnfpaa.Rep
open Circ Cw Str Sim

def sb (l : List UInt8) : ByteArray := ⟨l.toArray⟩
theorem sb_list (l : List UInt8) : (sb l).data.toList = l := rfl
theorem sb_size (l : List UInt8) : (sb l).size = l.length := sv_size l
structure Wit where
  bad : Int
  state : ByteArray
  inputs : List ByteArray
/-- is a step allowed, of values? -/
def allowedM (c : Cir) (cl : List (List Int)) (v : List UInt8) : Bool := c.invs.all (trueM v) && cl.all (holdsM v)
/-- the state behind one, and an input -/
def nxt1 (c : Cir) (s i : ByteArray) : ByteArray := sb (nxtL c (valsM c s i))
/-- is a step right, the last one or not? -/
def stepM (c : Cir) (cl : List (List Int)) (bad : Int) (s i : ByteArray) (last : Bool) : Bool := allowedM c cl (valsM c s i) && (!last || trueM (valsM c s i) (c.bads.getD bad.toNat 0))
def stepsM (c : Cir) (cl : List (List Int)) (bad : Int) : ByteArray → List ByteArray → Bool
  | _, [] => true
  | s, i :: r => stepM c cl bad s i r.isEmpty && stepsM c cl bad (nxt1 c s i) r
/-- might a latch be so at first? -/
def initB (t : Tri) (x : UInt8) : Bool := decide (t.c = t.a) || (decide (t.c = 1) == decide (x.toNat = 49))
/-- might a state be a first one? -/
def initM (c : Cir) (s : ByteArray) : Bool := bitsM s (c.lats.length : Int) && (List.range c.lats.length).all fun i => initB (c.lats.getD i ⟨0, 0, 0⟩) (s.data.toList.getD i 0)
/-- the state ahead of each input, and behind the last one -/
def statesL (c : Cir) : ByteArray → List ByteArray → List ByteArray
  | s, [] => [s]
  | s, i :: r => s :: statesL c (nxt1 c s i) r
/-- Check's answer -/
def pathE (c : Cir) (cl : List (List Int)) (w : Wit) : Int :=
  if refOk c = false then 9
  else if w.bad < 0 ∨ (c.bads.length : Int) ≤ w.bad then 4
  else if w.inputs = [] then 8
  else if bitsM w.state (c.lats.length : Int) = false then 5
  else if w.inputs.all (fun i => bitsM i (c.ins.length : Int)) = false then 5
  else if initM c w.state = false then 9
  else if stepsM c cl w.bad w.state w.inputs = false then 51
  else 0
theorem nxtL_bits (c : Cir) (v : List UInt8) : bitsM (sb (nxtL c v)) (c.lats.length : Int) = true := by
  unfold bitsM
  rw [sb_size, sb_list, decide_eq_true (by unfold nxtL; rw [bitL_len]), Bool.true_and, List.all_eq_true]
  intro y hy
  unfold nxtL bitL at hy
  obtain ⟨i, _, rfl⟩ := List.mem_map.1 hy
  show isBit (bitB (trueM v (c.lats.getD i ⟨0, 0, 0⟩).b)) = true
  generalize trueM v (c.lats.getD i ⟨0, 0, 0⟩).b = y
  cases y <;> rfl
theorem nxt1_bits (c : Cir) (s i : ByteArray) : bitsM (nxt1 c s i) (c.lats.length : Int) = true := nxtL_bits c _
/-- what the answer OK says -/
theorem path_ok {c : Cir} {cl : List (List Int)} {w : Wit} : pathE c cl w = 0 ↔ refOk c = true ∧ 0 ≤ w.bad ∧ w.bad < (c.bads.length : Int) ∧ w.inputs ≠ [] ∧ bitsM w.state (c.lats.length : Int) = true ∧ w.inputs.all (fun i => bitsM i (c.ins.length : Int)) = true ∧ initM c w.state = true ∧ stepsM c cl w.bad w.state w.inputs = true := by
  unfold pathE
  constructor
  · intro h
    cases h1 : refOk c with
    | false => rw [h1, if_pos rfl] at h; exact absurd h (by decide)
    | true =>
      rw [h1, if_neg (by decide)] at h
      by_cases h2 : w.bad < 0 ∨ (c.bads.length : Int) ≤ w.bad
      · rw [if_pos h2] at h; exact absurd h (by decide)
      · rw [if_neg h2] at h
        by_cases h3 : w.inputs = []
        · rw [if_pos h3] at h; exact absurd h (by decide)
        · rw [if_neg h3] at h
          cases h4 : bitsM w.state (c.lats.length : Int) with
          | false => rw [h4, if_pos rfl] at h; exact absurd h (by decide)
          | true =>
            rw [h4, if_neg (by decide)] at h
            cases h5 : w.inputs.all (fun i => bitsM i (c.ins.length : Int)) with
            | false => rw [h5, if_pos rfl] at h; exact absurd h (by decide)
            | true =>
              rw [h5, if_neg (by decide)] at h
              cases h6 : initM c w.state with
              | false => rw [h6, if_pos rfl] at h; exact absurd h (by decide)
              | true =>
                rw [h6, if_neg (by decide)] at h
                cases h7 : stepsM c cl w.bad w.state w.inputs with
                | false => rw [h7, if_pos rfl] at h; exact absurd h (by decide)
                | true => exact ⟨rfl, by omega, by omega, h3, rfl, rfl, rfl, rfl⟩
  · rintro ⟨h1, h2, h3, h4, h5, h6, h7, h8⟩
    rw [h1, if_neg (by decide), if_neg (by omega), if_neg h4, h5, if_neg (by decide), h6, if_neg (by decide), h7, if_neg (by decide), h8, if_neg (by decide)]
theorem allowed_more {c : Cir} {cl : List (List Int)} {m : List Int} {v : List UInt8} (h : allowedM c (cl ++ [m]) v = true) : allowedM c cl v = true := by
  unfold allowedM at h ⊢
  rw [List.all_append] at h
  simp only [Bool.and_eq_true] at h ⊢
  exact ⟨h.1, h.2.1⟩
theorem steps_more {c : Cir} {cl : List (List Int)} {m : List Int} {bad : Int} : ∀ (l : List ByteArray) (s : ByteArray), stepsM c (cl ++ [m]) bad s l = true → stepsM c cl bad s l = true
  | [], _, _ => rfl
  | i :: r, s, h => by
    unfold stepsM at h ⊢
    rw [Bool.and_eq_true] at h ⊢
    refine ⟨?_, steps_more r _ h.2⟩
    have h1 := h.1
    unfold stepM at h1 ⊢
    rw [Bool.and_eq_true] at h1 ⊢
    exact ⟨allowed_more h1.1, h1.2⟩
/-- WITH MORE THAT IS ASSUMED a wrong witness is not right -/
theorem path_more {c : Cir} {cl : List (List Int)} {m : List Int} {w : Wit} (h : pathE c (cl ++ [m]) w = 0) : pathE c cl w = 0 := by
  obtain ⟨h1, h2, h3, h4, h5, h6, h7, h8⟩ := path_ok.1 h
  exact path_ok.2 ⟨h1, h2, h3, h4, h5, h6, h7, steps_more _ _ h8⟩
theorem states_len (c : Cir) : ∀ (l : List ByteArray) (s : ByteArray), (statesL c s l).length = l.length + 1
  | [], _ => rfl
  | i :: r, s => by unfold statesL; rw [List.length_cons, states_len c r]; rfl
theorem states_zero (c : Cir) (s : ByteArray) (l : List ByteArray) : (statesL c s l)[0]? = some s := by cases l <;> rfl
/-- step by step: each is right of the state that it meets -/
theorem steps_at {c : Cir} {cl : List (List Int)} {bad : Int} : ∀ (l : List ByteArray) (s : ByteArray), stepsM c cl bad s l = true → ∀ (k : Nat) (hk : k < l.length), ∃ t, (statesL c s l)[k]? = some t ∧ stepM c cl bad t l[k] (decide (k + 1 = l.length)) = true
  | [], _, _, k, hk => absurd hk (Nat.not_lt_zero _)
  | i :: r, s, h, k, hk => by
    unfold stepsM at h
    rw [Bool.and_eq_true] at h
    cases k with
    | zero =>
      refine ⟨s, rfl, ?_⟩
      have e : (decide (0 + 1 = (i :: r).length)) = r.isEmpty := by cases r <;> simp
      rw [e]; exact h.1
    | succ k =>
      obtain ⟨t, h1, h2⟩ := steps_at r _ h.2 k (by simpa using hk)
      refine ⟨t, h1, ?_⟩
      have e : (decide (k + 1 + 1 = (i :: r).length)) = decide (k + 1 = r.length) := by
        rw [Bool.eq_iff_iff, decide_eq_true_eq, decide_eq_true_eq, List.length_cons]; omega
      rw [e]; exact h2
/-- all states of a path are bits -/
theorem states_bits (c : Cir) : ∀ (l : List ByteArray) (s : ByteArray), bitsM s (c.lats.length : Int) = true → ∀ t ∈ statesL c s l, bitsM t (c.lats.length : Int) = true
  | [], s, h, t, ht => by rw [List.mem_singleton.1 ht]; exact h
  | i :: r, s, h, t, ht => by
    unfold statesL at ht
    rcases List.mem_cons.1 ht with rfl | ht
    · exact h
    · exact states_bits c r _ (nxt1_bits c s i) t ht
end Go.Proofs.Ytfglgapocmnfpaa.Rep
namespace Go.Proofs.Ytfglgapocmnfpaa.Rep
open Go.ChangeShapes Go.WideShapes Go.RowKit Go.Deep Circ Cw

def strs (l : List ByteArray) : List (List Value) := l.map fun s => [.string s]
/-- the texts lie in memory below block B -/
structure SLies (w : World) (B : Nat) (A : Option Addr) (L : List ByteArray) : Prop where
  row : LRow w B 1 A (strs L)
  each : ∀ s ∈ L, s.size ≤ 9223372036854775807
  len : L.length ≤ 9223372036854775807
section
variable {w w' : World} {B B' : Nat} {A : Option Addr} {S : List ByteArray}
theorem SLies.below (h : SLies w B A S) (hb : Below B w w') : SLies w' B A S := ⟨h.row.below hb, h.each, h.len⟩
theorem SLies.more (h : SLies w B A S) (hB : B ≤ B') : SLies w B' A S := ⟨h.row.more hB, h.each, h.len⟩
theorem SLies.at (h : SLies w B A S) {k : Nat} (hk : k < S.length) : ∃ b o, A = some ⟨b, o, none⟩ ∧ b < B ∧ w.cell? ⟨b, o + k, none⟩ = some (.string S[k]) :=
  LRow_one h.row (by unfold strs; simpa using hk) (by unfold strs; rw [List.getElem_map])
end
instance : Inhabited ByteArray := ⟨⟨#[]⟩⟩
section
variable {H : Type} {enc : TypeId × Value → H} {w : World}
def witV (w : Wit) (A : Option Addr) (q : Nat) : Value := .agg #[.int .i64 w.bad, .string w.state, .slice A w.inputs.length q]
set_option maxRecDepth 100000 in
/-- an argument that is a witness -/
theorem open_wit {r : Reach} {b0 : Nat} {v : Value} {d : DataW H} {p : List MemPlace} (hv : Value.okWide Try.prog w r b0 61 v) (h : DataW.Trod enc Try.prog w 0 (fun _ => true) true 61 v d p)
    (hw : ∀ n ∈ DataW.weights Try.prog 61 d, n ≤ reachBytes) : ∃ (x : Wit) (A : Option Addr) (q : Nat), v = witV x A q ∧ SLies w w.heap.size A x.inputs ∧ x.state.size ≤ 9223372036854775807 ∧ I64 x.bad ∧ x.inputs.length * 16 ≤ 140737488355328 := by
  obtain ⟨cs, rfl, hsz⟩ := okWide_struct Try.underlying61 hv
  have c3w : Try.prog.cellsOf 61 = 3 := by kernel_rfl
  rw [c3w] at hsz
  obtain ⟨l⟩ := cs
  obtain ⟨u0, u1, u2, rfl⟩ := three_of l hsz
  obtain ⟨fuel, hf⟩ := h
  obtain ⟨xs, n, _, hx, _, hlen, hg⟩ := DataW.trod_struct Try.underlying61 hf
  obtain ⟨y0, y1, y2, rfl⟩ := three_of xs hlen
  have cS : Try.prog.cellsOf 59 = 1 := by kernel_rfl
  have g0 := hg 0 _ rfl
  have g1 := hg 1 _ rfl
  have g2 := hg 2 _ rfl
  simp [Value.cells, c3, c9, cS] at g0 g1 g2
  have hd : d = .agg [y0.1, y1.1, y2.1] := by
    simp only [Prod.mk.injEq] at hx
    simpa using hx.1
  subst hd
  have hm : ∀ (j : Nat) (t : TypeId) (x : DataW H), ([3, 9, 59] : List TypeId)[j]? = some t → ([y0.1, y1.1, y2.1] : List (DataW H))[j]? = some x → ∀ n ∈ DataW.weights Try.prog t x, n ≤ reachBytes := fun j t x ht hx n hn => by
    refine hw n ?_
    simp only [DataW.weights, Try.underlying61]
    exact DataW.weights_mem_each (ts := [3, 9, 59]) ht hx n hn
  obtain ⟨x0, e0, f0⟩ := el_int g0
  obtain ⟨x1, e1, f1⟩ := el_str g1
  obtain ⟨A2, l2, q2, e2, r2, f2, k2, z2⟩ := open_rows 1 (by decide) (fun s : ByteArray => [Value.string s]) (fun s => s.size ≤ 9223372036854775807) (fun _ => rfl) Try.underlying59 c9 (fun n cs' y h => el_str h) g2
  have hbl : l2.length * 16 ≤ 140737488355328 := row_bytes (l := l2) 16 (by kernel_rfl) Try.underlying59 z2 (hm 2 59 _ rfl rfl)
  have hlen : l2.length ≤ 9223372036854775807 := by omega
  simp at e0 e1 e2
  subst e0; subst e1; subst e2
  exact ⟨⟨x0, x1, l2⟩, A2, q2, rfl, ⟨r2, f2, hlen⟩, f1, f0, hbl⟩
end
end Go.Proofs.Ytfglgapocmnfpaa.Rep
