/- What the pages say of bits, truth and clauses; no condition but that texts are as long as Go's may be. interlockref07.Values; condition: the circuit lies in memory, texts are as long as Go's may be. sim.Next, First and Initial, and what the pages say of Next; condition: the circuit lies in memory, texts are as long as Go's may be. sim.First, Initial, and the page's example; condition: the circuit may be, and lies in memory. SimTells; no condition. What values are, and-gate by and-gate; no program is named here, no condition. -/
import Derived.Test.YtpaneggajjgdlaaPc32
import Derived.Test.YtpaneggajjgdlaaPc30
import Derived.Laws.CopyOwn
import Derived.Test.YtpaneggajjgdlaaPc15
import Derived.Test.YtpaneggajjgdlaaPc28
import Derived.OwnWalk
import Derived.Test.YtpaneggajjgdlaaPc21
namespace Go.Proofs.Ytpaneggajjgdlaa.Sim
open Go.ChangeShapes Go.WideShapes Go.ChangeAt Go.RowKit Go.Maps Circ Cw

theorem rvar2_any (x : Int) (hx : x ≤ 9223372036854775807) (w : World) : Calls Try.prog 41 #[.int .i64 x] w fun e w' => e = .returned (.int .i64 (cnt x / 2)) ∧ w = w' := by
  by_cases h : x < 0
  · rw [cnt_neg x h]
    go_enter Try.func41, Try.ntmps41
    go_wp2
    go_ret
    exact ⟨rfl, rfl⟩
  · rw [cnt_pos x (by omega)]
    exact Str.rvar_any x (by omega) ⟨by omega, hx⟩ w
theorem sv_size (v : List UInt8) : (⟨v.toArray⟩ : ByteArray).size = v.length := by show v.toArray.size = _; simp
end Go.Proofs.Ytpaneggajjgdlaa.Sim
namespace Go.Proofs.Ytpaneggajjgdlaa.Sim
open Go.ChangeShapes Go.WideShapes Go.ChangeAt Go.RowKit Go.Maps Circ Cw
open Str

theorem getD_at (l : List Int) {j : Nat} (h : j < l.length) : l.getD j 0 = l[j] := by rw [List.getD_eq_getElem?_getD, List.getElem?_eq_getElem h]; rfl
end Go.Proofs.Ytpaneggajjgdlaa.Sim
namespace Go.Proofs.Ytpaneggajjgdlaa.Sim
open Go.ChangeShapes Go.WideShapes Go.ChangeAt Go.RowKit Go.Maps Circ Cw
open Str

/-- may values be asked? -/
def okB (c : Cir) (st inp : ByteArray) : Bool := bitsM st (c.lats.length : Int) && bitsM inp (c.ins.length : Int)
def vErr (c : Cir) (st inp : ByteArray) : Int := if refOk c = true then (if okB c st inp = true then 0 else 5) else 9
def vStr (c : Cir) (st inp : ByteArray) : List UInt8 := if vErr c st inp = 0 then valsM c st inp else []
theorem err_no {c : Cir} {st inp : ByteArray} (h : refOk c = false) : vErr c st inp = 9 := by unfold vErr; rw [h]; rfl
theorem err_long {c : Cir} {st inp : ByteArray} (h : refOk c = true) (h2 : okB c st inp = false) : vErr c st inp = 5 := by unfold vErr; rw [h, h2]; rfl
theorem err_ok {c : Cir} {st inp : ByteArray} (h : refOk c = true) (h2 : okB c st inp = true) : vErr c st inp = 0 := by unfold vErr; rw [h, h2]; rfl
theorem str_bad {c : Cir} {st inp : ByteArray} (h : vErr c st inp ≠ 0) : vStr c st inp = [] := if_neg h
theorem str_ok {c : Cir} {st inp : ByteArray} (h : vErr c st inp = 0) : vStr c st inp = valsM c st inp := if_pos h
theorem err_is {c : Cir} {st inp : ByteArray} (h : vErr c st inp = 0) : refOk c = true ∧ bitsM st (c.lats.length : Int) = true ∧ bitsM inp (c.ins.length : Int) = true := by
  cases h1 : refOk c with
  | false => rw [err_no h1] at h; exact absurd h (by decide)
  | true =>
    cases h2 : okB c st inp with
    | false => rw [err_long h1 h2] at h; exact absurd h (by decide)
    | true =>
      unfold okB at h2
      rw [Bool.and_eq_true] at h2
      exact ⟨rfl, h2⟩
theorem err_range (c : Cir) (st inp : ByteArray) : 0 ≤ vErr c st inp ∧ vErr c st inp ≤ 9 := by unfold vErr; split <;> (try split) <;> omega
theorem values_any (c : Cir) (s : Places) (st inp : ByteArray) (w : World) (h : CLies w w.heap.size c s) (hf : CFits c s) :
    Calls Try.prog 18 #[cirV c s, .string st, .string inp] w fun e w' => e = .returned (.tuple #[sv (vStr c st inp), .int .i64 (vErr c st inp)]) ∧ Below w.heap.size w w' := by
  cases h1 : refOk c with
  | false =>
    rw [str_bad (by rw [err_no h1]; decide), err_no h1]
    exact values_no c s st inp w h hf (by rw [chk_same]; exact h1)
  | true =>
    cases h2 : okB c st inp with
    | false =>
      rw [str_bad (by rw [err_long h1 h2]; decide), err_long h1 h2]
      cases hs : bitsM st (c.lats.length : Int) with
      | false => exact values_long1 c s st inp w h hf (by rw [chk_same]; exact h1) hs
      | true =>
        unfold okB at h2
        rw [hs, Bool.true_and] at h2
        exact values_long2 c s st inp w h hf (by rw [chk_same]; exact h1) hs h2
    | true =>
      rw [str_ok (err_ok h1 h2), err_ok h1 h2]
      unfold okB at h2
      rw [Bool.and_eq_true] at h2
      exact values_yes c s st inp w h hf (by rw [chk_same]; exact h1) h2.1 h2.2
/-- the state behind values -/
def nxtL (c : Cir) (v : List UInt8) : List UInt8 := bitL (fun i => trueM v (c.lats.getD i ⟨0, 0, 0⟩).b) c.lats.length
def nStr (c : Cir) (st inp : ByteArray) : List UInt8 := if vErr c st inp = 0 then nxtL c (valsM c st inp) else []
theorem lat_at (c : Cir) {i : Nat} (h : i < c.lats.length) : c.lats.getD i ⟨0, 0, 0⟩ = c.lats[i] := by rw [List.getD_eq_getElem?_getD, List.getElem?_eq_getElem h]; rfl
/-- what the closure of Next answers of latch number i -/
theorem next1_any (g gc b o n q i : Nat) (x : Int) (v : List UInt8) (w : World) (hg : w.cell? ⟨g, 0, none⟩ = some (sv v)) (hc : w.cell? ⟨gc, 2, none⟩ = some (.slice (some ⟨b, o, none⟩) n q)) (hx : w.cell? ⟨b, o + i * 3 + 1, none⟩ = some (.int .i64 x)) (hi : i < n) (hv : v.length ≤ 1048576) (hx2 : x ≤ 9223372036854775807) :
    Tells 51 #[.pointer (some ⟨g, 0, none⟩), .pointer (some ⟨gc, 0, none⟩)] w (.int .i64 (i : Int)) (trueM v x) := by
  unfold Tells
  show Calls Try.prog 51 #[.int .i64 (i : Int), .pointer (some ⟨g, 0, none⟩), .pointer (some ⟨gc, 0, none⟩)] w _
  have KT := Lib.hid (fun (u : Wd w.heap.size w) => Calls.in_wd u (true_any ⟨v.toArray⟩ x u.w (by rw [sv_size]; omega) hx2) (Nat.le_refl _))
  rw [show (⟨v.toArray⟩ : ByteArray).data.toList = v from rfl] at KT
  unfold sv at hg
  generalize (⟨v.toArray⟩ : ByteArray) = sx at *
  generalize trueM v x = y at *
  go_enter Try.func51, Try.ntmps51
  go_wp2
  have u1 := Wd.cell hg
  have u2 := Wd.cell hc
  have u3 := Wd.cell hx
  refine wp_region_wd (by kernel_rfl) (by kernel_rfl) ?_
  repeat (first | go_big_quiet_skip | (go_big_quiet_want; go_big_quiet_op; first | go_big_quiet_on | (apply Exists.intro; refine ⟨fun u => ?_, ?_⟩; (go_at_call 25; with_reducible exact KT.out u); go_big_quiet_on)))
  refine wpQuiet_nil ?_
  intro wz9 hw'
  obtain ⟨⟨_, hb9⟩, hw''⟩ := hw'
  subst hw''
  go_wp2
  go_ret
  exact ⟨rfl, hb9⟩
set_option maxHeartbeats 16000000 in
set_option maxRecDepth 100000 in
theorem next_any (c : Cir) (s : Places) (st inp : ByteArray) (w : World) (h : CLies w w.heap.size c s) (hf : CFits c s) :
    Calls Try.prog 20 #[cirV c s, .string st, .string inp] w fun e w' => e = .returned (.tuple #[sv (nStr c st inp), .int .i64 (vErr c st inp)]) ∧ Below w.heap.size w w' := by
  have hmf : ∀ (fn : Fn) (first cap : Array Value) (w : World), (Instr.makeFunc fn first cap).run Try.prog w = .ok (.func fn first cap) w := fun _ _ _ _ => rfl
  obtain ⟨WA, hWA⟩ : ∃ x, w.alloc (.cells #[.int .i64 c.max, .slice s.ai c.ins.length s.ki, .slice s.al c.lats.length s.kl, .slice s.ao c.outs.length s.ko, .slice s.ab c.bads.length s.kb, .slice s.ac c.invs.length s.kc, .slice s.aa c.ands.length s.ka, .slice s.an c.names.length s.kn] 27) = x := ⟨_, rfl⟩
  have bA : Hid (Below w.heap.size w WA) := by unfold Hid; rw [← hWA]; exact (Below.refl _ _).alloc (Nat.le_refl _) _
  have GA : Hid (WA.heap[w.heap.size]? = some (.cells (cirC c s) 27 (0, 0))) := by unfold Hid; rw [← hWA]; exact Array.getElem?_push_size
  obtain ⟨e0, e1, e2, e3, e4, e5, e6, e7⟩ := cells8 GA.out
  have CK := Lib.hid (values_any c s st inp WA ((h.below bA.out).more bA.out.size) hf)
  have HF := Lib.hid hf
  have LW : Hid (∀ x, Below w.heap.size w x → CLies x x.heap.size c s) := fun x hx => (h.below hx).more hx.size
  have hr := err_range c st inp
  by_cases hv : vErr c st inp = 0
  · have HE := Lib.hid hv
    have hnn : nStr c st inp = nxtL c (valsM c st inp) := if_pos hv
    rw [hnn]
    rw [str_ok hv, hv] at CK
    rw [hv]
    clear h hf hnn hr hv
    unfold cirV at CK ⊢
    rw [show cirC c s = #[.int .i64 c.max, .slice s.ai c.ins.length s.ki, .slice s.al c.lats.length s.kl, .slice s.ao c.outs.length s.ko, .slice s.ab c.bads.length s.kb, .slice s.ac c.invs.length s.kc, .slice s.aa c.ands.length s.ka, .slice s.an c.names.length s.kn] from rfl] at CK ⊢
    go_enter Try.func20, Try.ntmps20
    go_wp2_with fail
    refine CK.out.mono ?_
    rintro e w1 ⟨rfl, hb⟩
    have B1 : Hid (Below w.heap.size w w1) := bA.out.trans (hb.mono bA.out.size)
    have G1 : Hid (w1.heap[w.heap.size]? = some (.cells (cirC c s) 27 (0, 0))) := (hb.block _ (lt_of_block GA.out)).trans GA.out
    clear e0 e1 e2 e3 e4 e5 e6 e7 hWA CK hb
    obtain ⟨hr, hbs, hbi⟩ := err_is HE.out
    have HVL : Hid ((valsM c st inp).length ≤ 1048576) := by
      obtain ⟨m, hm, hm1⟩ := max_nat hr
      unfold Hid; rw [vals_len, hm]; simp; omega
    have HZ := Lib.hid (ref_sizes hr)
    clear hr hbs hbi
    obtain ⟨W0, hW0⟩ : ∃ x, w1.alloc (.cells #[.string ⟨#[]⟩] 9) = x := ⟨_, rfl⟩
    have b0 : Below w1.heap.size w1 W0 := by rw [← hW0]; exact (Below.refl _ _).alloc (Nat.le_refl _) _
    have h0 : W0.heap[w1.heap.size]? = some (.cells #[.string ⟨#[]⟩] 9 (0, 0)) := by rw [← hW0]; exact Array.getElem?_push_size
    unfold sv
    obtain ⟨sx, hsx⟩ : ∃ q, (⟨(valsM c st inp).toArray⟩ : ByteArray) = q := ⟨_, rfl⟩
    rw [hsx]
    obtain ⟨W2, u2, ⟨hW2, pW2, tW2⟩, EW2, FW2⟩ := step_set W0 _ 0 (.string sx) h0 (by simp)
    have K2 : Hid (W2.heap[w1.heap.size]? = some (.cells #[sv (valsM c st inp)] 9 (0, 0))) := by unfold Hid sv; rw [hsx]; exact EW2
    have b2 : Below w1.heap.size w1 W2 := FW2.below b0 (Nat.le_refl _)
    clear b0 h0 EW2 FW2 hsx
    have B2 := Lib.hid b2
    have G2 : Hid (W2.heap[w.heap.size]? = some (.cells (cirC c s) 27 (0, 0))) := (b2.block _ (lt_of_block G1.out)).trans G1.out
    obtain ⟨e0, e1, e2, e3, e4, e5, e6, e7⟩ := cells8 G2.out
    have EV : ∀ args w, (callFunc 51 args).run Try.prog w = .ok (.enter 51 args) w := enters_of Try.func51 (by kernel_rfl) rfl
    have zl : c.lats.length ≤ 64 := HZ.out.2.1
    have BT := Lib.hid (bits_any c.lats.length 51 #[.pointer (some ⟨w1.heap.size, 0, none⟩), .pointer (some ⟨w.heap.size, 0, none⟩)] (fun i => trueM (valsM c st inp) (c.lats.getD i ⟨0, 0, 0⟩).b) W2 (by omega) EV (fun X hX i hi => by
      have bX : Below w.heap.size w X := B1.out.trans ((B2.out.trans (hX.mono B2.out.size)).mono B1.out.size)
      obtain ⟨b0, o, hA, -, c0, c1, c2⟩ := LRow.tri (LW.out X bX).lats hi
      have hk := (cells8 ((hX.block _ (lt_of_block G2.out)).trans G2.out)).2.2.1
      rw [hA] at hk
      have hg : X.cell? ⟨w1.heap.size, 0, none⟩ = some (sv (valsM c st inp)) := by rw [Lib.cell_of_heap ((hX.block _ (lt_of_block K2.out)).trans K2.out)]; rfl
      show Tells _ _ _ _ (trueM (valsM c st inp) (c.lats.getD i ⟨0, 0, 0⟩).b)
      rw [lat_at c hi]
      exact next1_any _ _ b0 o c.lats.length s.kl i _ _ X hg hk c1 hi HVL.out (HF.out.lats _ (List.getElem_mem hi)).2.1.2))
    rw [show bitL (fun i => trueM (valsM c st inp) (c.lats.getD i ⟨0, 0, 0⟩).b) c.lats.length = nxtL c (valsM c st inp) from rfl] at BT
    clear EV b2
    unfold sv at BT
    go_wp2_with fail
    refine BT.out.mono ?_
    rintro e w3 ⟨rfl, hb⟩
    have BF : Hid (Below w.heap.size w w3) := B1.out.trans ((B2.out.trans (hb.mono B2.out.size)).mono B1.out.size)
    clear hb BT hW0 hW2 pW2 tW2 e0 e1 e2 e3 e4 e5 e6 e7
    go_wp2
    go_ret2
    exact ⟨rfl, BF.out⟩
  · have hnn : nStr c st inp = [] := if_neg hv
    rw [hnn]
    rw [str_bad hv] at CK
    have hz : (vErr c st inp == 0) = false := beq_eq_false_iff_ne.2 hv
    have hz2 : (vErr c st inp != 0) = true := bne_iff_ne.2 hv
    clear h hf hnn
    generalize vErr c st inp = x at *
    unfold cirV at CK ⊢
    rw [show cirC c s = #[.int .i64 c.max, .slice s.ai c.ins.length s.ki, .slice s.al c.lats.length s.kl, .slice s.ao c.outs.length s.ko, .slice s.ab c.bads.length s.kb, .slice s.ac c.invs.length s.kc, .slice s.aa c.ands.length s.ka, .slice s.an c.names.length s.kn] from rfl] at CK ⊢
    go_enter Try.func20, Try.ntmps20
    go_wp2_with fail
    refine CK.out.mono ?_
    rintro e w1 ⟨rfl, hb⟩
    have B1 : Hid (Below w.heap.size w w1) := bA.out.trans (hb.mono bA.out.size)
    clear e0 e1 e2 e3 e4 e5 e6 e7 hWA CK hb
    obtain ⟨W0, hW0⟩ : ∃ x, w1.alloc (.cells #[.string ⟨#[]⟩] 9) = x := ⟨_, rfl⟩
    have b0 : Below w1.heap.size w1 W0 := by rw [← hW0]; exact (Below.refl _ _).alloc (Nat.le_refl _) _
    have h0 : W0.heap[w1.heap.size]? = some (.cells #[.string ⟨#[]⟩] 9 (0, 0)) := by rw [← hW0]; exact Array.getElem?_push_size
    obtain ⟨W2, u2, ⟨hW2, pW2, tW2⟩, EW2, FW2⟩ := step_set W0 _ 0 (.string ⟨#[]⟩) h0 (by simp)
    have BF : Hid (Below w.heap.size w W2) := B1.out.trans ((FW2.below b0 (Nat.le_refl _)).mono B1.out.size)
    clear b0 h0 EW2 FW2
    unfold sv
    go_wp2
    go_ret2
    exact ⟨rfl, BF.out⟩
end Go.Proofs.Ytpaneggajjgdlaa.Sim
namespace Go.Proofs.Ytpaneggajjgdlaa.Sim
open Go.ChangeShapes Go.WideShapes Go.ChangeAt Go.RowKit Go.Maps Circ Cw
open Str

/-- a latch's first bit, where x is the free one -/
def firstB (t : Tri) (x : UInt8) : Bool := if t.c = t.a then (((x.toNat : Nat) : Int) == 49) else (t.c == 1)
def fstL (c : Cir) (s : ByteArray) : List UInt8 := bitL (fun i => firstB (c.lats.getD i ⟨0, 0, 0⟩) (s.data.toList.getD i 0)) c.lats.length
theorem first1_any (gc gf b o n q i : Nat) (t : Tri) (s : ByteArray) (w : World) (hc : w.cell? ⟨gc, 2, none⟩ = some (.slice (some ⟨b, o, none⟩) n q)) (h0 : w.cell? ⟨b, o + i * 3, none⟩ = some (.int .i64 t.a)) (h1 : w.cell? ⟨b, o + i * 3 + 1, none⟩ = some (.int .i64 t.b)) (h2 : w.cell? ⟨b, o + i * 3 + 2, none⟩ = some (.int .i64 t.c)) (hf : w.cell? ⟨gf, 0, none⟩ = some (.string s)) (hi : i < n) (hs : i < s.size) :
    Tells 106 #[.pointer (some ⟨gc, 0, none⟩), .pointer (some ⟨gf, 0, none⟩)] w (.int .i64 (i : Int)) (firstB t (s.data.toList.getD i 0)) := by
  unfold Tells
  show Calls Try.prog 106 #[.int .i64 (i : Int), .pointer (some ⟨gc, 0, none⟩), .pointer (some ⟨gf, 0, none⟩)] w _
  have hgd : s.data.toList.getD i 0 = s[i]'hs := by
    have hl : i < s.data.toList.length := by simpa using hs
    rw [List.getD_eq_getElem?_getD, List.getElem?_eq_getElem hl, Option.getD_some, Array.getElem_toList]; rfl
  rw [hgd]
  clear hgd
  obtain ⟨wt, hwt⟩ : ∃ x, w.alloc (.cells #[.int .i64 t.a, .int .i64 t.b, .int .i64 t.c] 39) = x := ⟨_, rfl⟩
  have bt : Below w.heap.size w wt := by rw [← hwt]; exact (Below.refl _ _).alloc (Nat.le_refl _) _
  have KT : wt.heap[w.heap.size]? = some (.cells #[.int .i64 t.a, .int .i64 t.b, .int .i64 t.c] 39 (0, 0)) := by rw [← hwt]; exact Array.getElem?_push_size
  obtain ⟨r0, r1, r2⟩ := two_cells KT
  have hf2 := cell_later bt hf
  have HB := Lib.hid bt
  clear KT bt
  by_cases ht : t.c = t.a
  · have hb : (t.c != t.a) = false := by rw [bne_eq_false_iff_eq]; exact ht
    have HF : Hid (firstB t (s[i]'hs) = ((((s[i]'hs).toNat : Nat) : Int) == 49)) := if_pos ht
    rw [HF.out]
    rw [ht] at r2 h2 hb hwt
    clear HF
    have hb : (t.a != t.a) = false := by rw [bne_eq_false_iff_eq]
    clear ht
    go_enter Try.func106, Try.ntmps106
    go_wp2
    go_ret
    exact ⟨rfl, HB.out⟩
  · have hb : (t.c != t.a) = true := by rw [bne_iff_ne]; exact ht
    have HF : Hid (firstB t (s[i]'hs) = (t.c == 1)) := if_neg ht
    rw [HF.out]
    clear HF
    go_enter Try.func106, Try.ntmps106
    go_wp2
    go_ret
    exact ⟨rfl, HB.out⟩
set_option maxHeartbeats 16000000 in
set_option maxRecDepth 100000 in
theorem first_yes (c : Cir) (s : Places) (st : ByteArray) (w : World) (h : CLies w w.heap.size c s) (hf : CFits c s) (hr : refOk c = true) (hs : bitsM st (c.lats.length : Int) = true) :
    Calls Try.prog 86 #[cirV c s, .string st] w fun e w' => e = .returned (.tuple #[sv (fstL c st), .int .i64 0]) ∧ Below w.heap.size w w' := by
  have hmf : ∀ (fn : Fn) (first cap : Array Value) (w : World), (Instr.makeFunc fn first cap).run Try.prog w = .ok (.func fn first cap) w := fun _ _ _ _ => rfl
  obtain ⟨W0, hW0⟩ : ∃ x, w.alloc (.cells #[.int .i64 c.max, .slice s.ai c.ins.length s.ki, .slice s.al c.lats.length s.kl, .slice s.ao c.outs.length s.ko, .slice s.ab c.bads.length s.kb, .slice s.ac c.invs.length s.kc, .slice s.aa c.ands.length s.ka, .slice s.an c.names.length s.kn] 27) = x := ⟨_, rfl⟩
  have b0 : Below w.heap.size w W0 := by rw [← hW0]; exact (Below.refl _ _).alloc (Nat.le_refl _) _
  have g0 : W0.heap[w.heap.size]? = some (.cells (cirC c s) 27 (0, 0)) := by rw [← hW0]; exact Array.getElem?_push_size
  have s0 : W0.heap.size = w.heap.size + 1 := by rw [← hW0]; simp
  obtain ⟨WA, hWA⟩ : ∃ x, W0.alloc (.cells #[.string st] 9) = x := ⟨_, rfl⟩
  have b1 : Below W0.heap.size W0 WA := by rw [← hWA]; exact (Below.refl _ _).alloc (Nat.le_refl _) _
  have g1 : WA.heap[W0.heap.size]? = some (.cells #[.string st] 9 (0, 0)) := by rw [← hWA]; exact Array.getElem?_push_size
  rw [s0] at g1
  have bA : Hid (Below w.heap.size w WA) := b0.trans (b1.mono b0.size)
  have GA : Hid (WA.heap[w.heap.size]? = some (.cells (cirC c s) 27 (0, 0))) := (b1.block _ (lt_of_block g0)).trans g0
  have KA : Hid (WA.heap[w.heap.size + 1]? = some (.cells #[.string st] 9 (0, 0))) := g1
  obtain ⟨e0, e1, e2, e3, e4, e5, e6, e7⟩ := cells8 GA.out
  have k0 : WA.cell? ⟨w.heap.size + 1, 0, none⟩ = some (.string st) := by rw [Lib.cell_of_heap KA.out]; rfl
  have CK := Lib.hid (check_any c s WA ((h.below bA.out).more bA.out.size) hf)
  rw [chkV_yes c (by rw [chk_same]; exact hr)] at CK
  have T1 : Hid (∀ w, Calls Try.prog 29 #[.string st, .int .i64 (c.lats.length : Int)] w fun e w' => e = .returned (.bool true) ∧ Below w.heap.size w w') := fun w => by
    have := bits_text st c.lats.length w
    rw [hs] at this
    exact this
  have HZ := Lib.hid (ref_sizes hr)
  have HST := Lib.hid (bits_parts hs).1
  have LW : Hid (∀ x, Below w.heap.size w x → CLies x x.heap.size c s) := fun x hx => (h.below hx).more hx.size
  clear h hf hs hr b0 g0 b1 g1
  unfold cirV at CK ⊢
  rw [show cirC c s = #[.int .i64 c.max, .slice s.ai c.ins.length s.ki, .slice s.al c.lats.length s.kl, .slice s.ao c.outs.length s.ko, .slice s.ab c.bads.length s.kb, .slice s.ac c.invs.length s.kc, .slice s.aa c.ands.length s.ka, .slice s.an c.names.length s.kn] from rfl] at CK ⊢
  go_enter Try.func86, Try.ntmps86
  go_wp2_with fail
  refine CK.out.mono ?_
  rintro e w1 ⟨rfl, hb⟩
  have B1 : Hid (Below w.heap.size w w1) := bA.out.trans (hb.mono bA.out.size)
  have G1 : Hid (w1.heap[w.heap.size]? = some (.cells (cirC c s) 27 (0, 0))) := (hb.block _ (lt_of_block GA.out)).trans GA.out
  have K1 : Hid (w1.heap[w.heap.size + 1]? = some (.cells #[.string st] 9 (0, 0))) := (hb.block _ (lt_of_block KA.out)).trans KA.out
  clear e0 e1 e2 e3 e4 e5 e6 e7 k0 hWA hW0 s0 CK hb
  obtain ⟨e0, e1, e2, e3, e4, e5, e6, e7⟩ := cells8 G1.out
  have k0 : w1.cell? ⟨w.heap.size + 1, 0, none⟩ = some (.string st) := by rw [Lib.cell_of_heap K1.out]; rfl
  go_wp2_with fail
  refine (T1.out w1).mono ?_
  rintro e w2 ⟨rfl, hb⟩
  have B2 : Hid (Below w.heap.size w w2) := B1.out.trans (hb.mono B1.out.size)
  have G2 : Hid (w2.heap[w.heap.size]? = some (.cells (cirC c s) 27 (0, 0))) := (hb.block _ (lt_of_block G1.out)).trans G1.out
  have K2 : Hid (w2.heap[w.heap.size + 1]? = some (.cells #[.string st] 9 (0, 0))) := (hb.block _ (lt_of_block K1.out)).trans K1.out
  clear e0 e1 e2 e3 e4 e5 e6 e7 k0 hb
  obtain ⟨e0, e1, e2, e3, e4, e5, e6, e7⟩ := cells8 G2.out
  have EV : ∀ args w, (callFunc 106 args).run Try.prog w = .ok (.enter 106 args) w := enters_of Try.func106 (by kernel_rfl) rfl
  have zl : c.lats.length ≤ 64 := HZ.out.2.1
  have BT := Lib.hid (bits_any c.lats.length 106 #[.pointer (some ⟨w.heap.size, 0, none⟩), .pointer (some ⟨w.heap.size + 1, 0, none⟩)] (fun i => firstB (c.lats.getD i ⟨0, 0, 0⟩) (st.data.toList.getD i 0)) w2 (by omega) EV (fun X hX i hi => by
    obtain ⟨b0, o, hA, -, c0, c1, c2⟩ := LRow.tri (LW.out X (B2.out.trans (hX.mono B2.out.size))).lats hi
    have hk := (cells8 ((hX.block _ (lt_of_block G2.out)).trans G2.out)).2.2.1
    rw [hA] at hk
    have hg : X.cell? ⟨w.heap.size + 1, 0, none⟩ = some (.string st) := by rw [Lib.cell_of_heap ((hX.block _ (lt_of_block K2.out)).trans K2.out)]; rfl
    show Tells _ _ _ _ (firstB (c.lats.getD i ⟨0, 0, 0⟩) _)
    rw [lat_at c hi]
    exact first1_any _ _ b0 o c.lats.length s.kl i _ st X hk c0 c1 c2 hg hi (by have := HST.out; omega)))
  rw [show bitL (fun i => firstB (c.lats.getD i ⟨0, 0, 0⟩) (st.data.toList.getD i 0)) c.lats.length = fstL c st from rfl] at BT
  clear EV
  go_wp2_with fail
  refine BT.out.mono ?_
  rintro e w3 ⟨rfl, hb⟩
  have BF : Hid (Below w.heap.size w w3) := B2.out.trans (hb.mono B2.out.size)
  clear hb BT e0 e1 e2 e3 e4 e5 e6 e7
  go_wp2
  go_ret2
  exact ⟨rfl, BF.out⟩
set_option maxHeartbeats 16000000 in
set_option maxRecDepth 100000 in
theorem initial_yes (c : Cir) (s : Places) (st : ByteArray) (w : World) (h : CLies w w.heap.size c s) (hf : CFits c s) (hr : refOk c = true) (hs : bitsM st (c.lats.length : Int) = true) (he : sv (fstL c st) = .string st) :
    Calls Try.prog 53 #[cirV c s, .string st] w fun e w' => e = .returned (.bool true) ∧ Below w.heap.size w w' := by
  obtain ⟨WA, hWA⟩ : ∃ x, w.alloc (.cells #[.int .i64 c.max, .slice s.ai c.ins.length s.ki, .slice s.al c.lats.length s.kl, .slice s.ao c.outs.length s.ko, .slice s.ab c.bads.length s.kb, .slice s.ac c.invs.length s.kc, .slice s.aa c.ands.length s.ka, .slice s.an c.names.length s.kn] 27) = x := ⟨_, rfl⟩
  have bA : Hid (Below w.heap.size w WA) := by unfold Hid; rw [← hWA]; exact (Below.refl _ _).alloc (Nat.le_refl _) _
  have GA : Hid (WA.heap[w.heap.size]? = some (.cells (cirC c s) 27 (0, 0))) := by unfold Hid; rw [← hWA]; exact Array.getElem?_push_size
  obtain ⟨e0, e1, e2, e3, e4, e5, e6, e7⟩ := cells8 GA.out
  have FK := Lib.hid (first_yes c s st WA ((h.below bA.out).more bA.out.size) hf hr hs)
  rw [he] at FK
  clear h hf hs hr he
  unfold cirV at FK ⊢
  rw [show cirC c s = #[.int .i64 c.max, .slice s.ai c.ins.length s.ki, .slice s.al c.lats.length s.kl, .slice s.ao c.outs.length s.ko, .slice s.ab c.bads.length s.kb, .slice s.ac c.invs.length s.kc, .slice s.aa c.ands.length s.ka, .slice s.an c.names.length s.kn] from rfl] at FK ⊢
  go_enter Try.func53, Try.ntmps53
  go_wp2_with fail
  refine FK.out.mono ?_
  rintro e w1 ⟨rfl, hb⟩
  have BF : Hid (Below w.heap.size w w1) := bA.out.trans (hb.mono bA.out.size)
  clear e0 e1 e2 e3 e4 e5 e6 e7 hWA FK hb
  go_wp2
  go_ret
  exact ⟨rfl, BF.out⟩
theorem num_any (x : Int) (w : World) : Calls Try.prog 22 #[.int .i64 x] w fun e w' => e = .returned (.int .i64 x) ∧ w = w' := by
  go_enter Try.func22, Try.ntmps22
  go_wp2
  go_ret
  exact ⟨rfl, rfl⟩
def cA : Cir := ⟨1, [], [⟨2, 3, 0⟩], [], [], [], [], []⟩
def sA (b : Nat) : Places := ⟨none, some ⟨b, 0, none⟩, none, none, none, none, none, 0, 1, 0, 0, 0, 0, 0⟩
theorem cA_fits (b : Nat) : CFits cA (sA b) := by
  constructor <;> simp [cA, sA, I64, Tri.fits]
theorem cA_ok : refOk cA = true := by decide +kernel
theorem cA_bits : bitsM ⟨#[48]⟩ (cA.lats.length : Int) = true := by decide +kernel
theorem cA_next : nStr cA ⟨#[48]⟩ ⟨#[]⟩ = [49] := by decide +kernel
theorem cA_err : vErr cA ⟨#[48]⟩ ⟨#[]⟩ = 0 := by decide +kernel
theorem cA_first : fstL cA ⟨#[48]⟩ = [48] := by decide +kernel
theorem cA_lies (w w' : World) (hb : Below (w.heap.size + 1) (w.alloc (.cells #[.int .i64 2, .int .i64 3, .int .i64 0] 39)) w') : CLies w' (w.heap.size + 1) cA (sA w.heap.size) := by
  refine ⟨.inl rfl, .inr ⟨_, 0, rfl, Nat.lt_succ_self _, fun i ys hi j u hj => ?_⟩, .inl rfl, .inl rfl, .inl rfl, .inl rfl, .inl rfl⟩
  match i, hi with
  | 0, hi =>
    obtain rfl : [Value.int .i64 2, .int .i64 3, .int .i64 0] = ys := by simpa [tris, cA, Tri.cells] using hi
    rw [hb.cell (by exact Nat.lt_succ_self _), World.cell?_alloc_new]
    match j, hj with
    | 0, hj => simpa using hj
    | 1, hj => simpa using hj
    | 2, hj => simpa using hj
set_option maxHeartbeats 16000000 in
set_option maxRecDepth 100000 in
theorem alive_any (w : World) : Calls Try.prog 23 #[] w fun e w' => e = .returned (.bool true) ∧ Below w.heap.size w w' := by
  obtain ⟨W0, hW0⟩ : ∃ x, w.alloc (.cells #[.int .i64 2, .int .i64 3, .int .i64 0] 39) = x := ⟨_, rfl⟩
  have b0 : Below w.heap.size w W0 := by rw [← hW0]; exact (Below.refl _ _).alloc (Nat.le_refl _) _
  have s0 : W0.heap.size = w.heap.size + 1 := by rw [← hW0]; simp
  have LL : Hid (∀ x, Below (w.heap.size + 1) W0 x → CLies x x.heap.size cA (sA w.heap.size)) := fun x hx => (cA_lies w x (by rw [hW0]; exact hx)).more (by have := hx.size; omega)
  obtain ⟨W1, hW1⟩ : ∃ x, W0.alloc (.cells #[.int .i64 0, .slice none 0 0, .slice none 0 0, .slice none 0 0, .slice none 0 0, .slice none 0 0, .slice none 0 0, .slice none 0 0] 27) = x := ⟨_, rfl⟩
  have b1 : Below W0.heap.size W0 W1 := by rw [← hW1]; exact (Below.refl _ _).alloc (Nat.le_refl _) _
  have g1 : W1.heap[W0.heap.size]? = some (.cells #[.int .i64 0, .slice none 0 0, .slice none 0 0, .slice none 0 0, .slice none 0 0, .slice none 0 0, .slice none 0 0, .slice none 0 0] 27 (0, 0)) := by rw [← hW1]; exact Array.getElem?_push_size
  obtain ⟨r1, r2, r3, r4, r5, r6, r7, Xr, rv0, rv1, rv2, rv3, rv4, rv5, rv6, rv7, ⟨rh1, ra0, rb0⟩, ⟨rh2, ra1, rb1⟩, ⟨rh3, ra2, rb2⟩, ⟨rh4, ra3, rb3⟩, ⟨rh5, ra4, rb4⟩, ⟨rh6, ra5, rb5⟩, ⟨rh7, ra6, rb6⟩, ⟨rh8, ra7, rb7⟩, E8r, FCr⟩ := Cw.store8 g1 rfl (.int .i64 1) (.slice none 0 0) (.slice (some ⟨w.heap.size, 0, none⟩) 1 1) (.slice none 0 0) (.slice none 0 0) (.slice none 0 0) (.slice none 0 0) (.slice none 0 0)
  rw [s0] at rh1 ra0 rb0 rh2 ra1 rb1 rh3 ra2 rb2 rh4 ra3 rb3 rh5 ra4 rb4 rh6 ra5 rb5 rh7 ra6 rb6 rh8 ra7 rb7 E8r FCr b1
  have bX : Hid (Below (w.heap.size + 1) W0 Xr) := FCr.below b1 (Nat.le_refl _)
  have BX : Hid (Below w.heap.size w Xr) := b0.trans (bX.out.mono (by omega))
  have GX : Hid (Xr.heap[w.heap.size + 1]? = some (.cells (cirC cA (sA w.heap.size)) 27 (0, 0))) := E8r
  have NX := Lib.hid (next_any cA (sA w.heap.size) ⟨#[48]⟩ ⟨#[]⟩ Xr (LL.out _ bX.out) (cA_fits _))
  rw [cA_next, cA_err] at NX
  have IN : Hid (∀ x, Below Xr.heap.size Xr x → Calls Try.prog 53 #[cirV cA (sA w.heap.size), .string ⟨#[48]⟩] x fun e w' => e = .returned (.bool true) ∧ Below x.heap.size x w') := fun x hx =>
    initial_yes cA (sA w.heap.size) ⟨#[48]⟩ x (LL.out _ (bX.out.trans (hx.mono (by have := bX.out.size; omega)))) (cA_fits _) cA_ok cA_bits (by rw [cA_first]; rfl)
  have hcv : cirV cA (sA w.heap.size) = .agg #[.int .i64 1, .slice none 0 0, .slice (some ⟨w.heap.size, 0, none⟩) 1 1, .slice none 0 0, .slice none 0 0, .slice none 0 0, .slice none 0 0, .slice none 0 0] := rfl
  rw [hcv] at NX IN
  obtain ⟨e0, e1, e2, e3, e4, e5, e6, e7⟩ := cells8 GX.out
  simp only [cA, sA, List.length_nil, List.length_cons] at e0 e1 e2 e3 e4 e5 e6 e7
  clear hcv E8r FCr g1 b1 b0
  unfold sv at NX
  go_enter Try.func23, Try.ntmps23
  go_wp2_with fail
  clear hW0 hW1 rh1 ra0 rb0 rh2 ra1 rb1 rh3 ra2 rb2 rh4 ra3 rb3 rh5 ra4 rb4 rh6 ra5 rb5 rh7 ra6 rb6 rh8 ra7 rb7
  refine NX.out.mono ?_
  rintro e w1 ⟨rfl, hb⟩
  have B1 := Lib.hid hb
  have G1 : Hid (w1.heap[w.heap.size + 1]? = some (.cells (cirC cA (sA w.heap.size)) 27 (0, 0))) := (hb.block _ (lt_of_block GX.out)).trans GX.out
  clear e0 e1 e2 e3 e4 e5 e6 e7 NX hb
  obtain ⟨e0, e1, e2, e3, e4, e5, e6, e7⟩ := cells8 G1.out
  simp only [cA, sA, List.length_nil, List.length_cons] at e0 e1 e2 e3 e4 e5 e6 e7
  go_wp2_with (go_at_call 22; refine (num_any _ _).mono ?_; rintro e w' ⟨rfl, rfl⟩)
  refine (IN.out w1 B1.out).mono ?_
  rintro e w2 ⟨rfl, hb⟩
  have BF : Hid (Below w.heap.size w w2) := BX.out.trans ((B1.out.trans (hb.mono B1.out.size)).mono BX.out.size)
  clear hb IN
  go_wp2
  go_ret
  exact ⟨rfl, BF.out⟩
end Go.Proofs.Ytpaneggajjgdlaa.Sim
namespace Go.Proofs.Ytpaneggajjgdlaa.Sim
open Go.ChangeShapes Go.WideShapes Go.ChangeAt Go.RowKit Go.Maps Circ Cw
open Str

theorem all_weights {H : Type} {ts : List TypeId} {ds : List (DataW H)} (hsz : (DataW.weightsEach Try.prog ts ds).all (· ≤ reachBytes) = true) (j : Nat) {t : TypeId} {d : DataW H} (ht : ts[j]? = some t) (hd : ds[j]? = some d) : ∀ n ∈ DataW.weights Try.prog t d, n ≤ reachBytes := fun n hn => by
  have := List.all_eq_true.1 hsz n (DataW.weights_mem_each (j := j) ht hd n hn)
  simpa using this
end Go.Proofs.Ytpaneggajjgdlaa.Sim
namespace Go.Proofs.Ytpaneggajjgdlaa.Sim
open Circ Cw Str

/-- the bit of variable n -/
def bitV (v : List UInt8) (n : Int) : Bool := decide (v[n.toNat]? = some 49)
theorem true_bit (v : List UInt8) {l : Int} (h : 0 ≤ l) : trueM v l = bitM (bitV v) l := by
  unfold trueM bitM bitV
  rw [cnt_pos l h]
theorem eval_other (n : Int) : ∀ (l : List Tri) (V : Int → Bool), (∀ u ∈ l, u.a / 2 ≠ n) → evalM V l n = V n
  | [], _, _ => rfl
  | t :: l, V, h => by
    have e : evalM V (t :: l) n = evalM (setM V (t.a / 2) (bitM V t.b && bitM V t.c)) l n := rfl
    rw [e, eval_other n l _ fun u hu => h u (List.mem_cons_of_mem _ hu)]
    unfold setM
    rw [if_neg fun e => h t List.mem_cons_self e.symm]
theorem bitV_put (v : List UInt8) {l n : Int} (hl : 0 ≤ l) (hn : 0 ≤ n) (hlt : l / 2 < (v.length : Int)) (x : UInt8) : bitV (putV v l x) n = if n = l / 2 then decide (some x = some (49 : UInt8)) else bitV v n := by
  unfold bitV putV
  rw [List.getElem?_set]
  by_cases h : n = l / 2
  · rw [if_pos h, if_pos (by omega), if_pos (by omega)]
  · rw [if_neg h, if_neg (by omega)]
theorem gates_eval {B : Int → Prop} {l : List Tri} (hg : Str.Good B l) (v0 : List UInt8) (hlen : ∀ t ∈ l, t.a / 2 < (v0.length : Int)) (h0 : ∀ t ∈ l, bitV v0 (t.a / 2) = false) : ∀ n, 0 ≤ n → bitV (gatesV v0 l) n = evalM (bitV v0) l n := by
  induction hg with
  | nil => intro n _; rfl
  | snoc l t h1 h2 h3 h4 h5 h6 h7 h8 h9 h10 h11 ih =>
    intro n hn
    have ih := ih (fun u hu => hlen u (List.mem_append_left _ hu)) (fun u hu => h0 u (List.mem_append_left _ hu))
    have ht := hlen t (List.mem_append_right _ (List.mem_singleton.2 rfl))
    have ht0 := h0 t (List.mem_append_right _ (List.mem_singleton.2 rfl))
    have e : gatesV v0 (l ++ [t]) = gateV (gatesV v0 l) t := by unfold gatesV; rw [List.foldl_append]; rfl
    rw [e, eval_snoc]
    have hlv : (gatesV v0 l).length = v0.length := gatesV_len _ _
    have eb : trueM (gatesV v0 l) t.b = bitM (evalM (bitV v0) l) t.b := by
      rw [true_bit _ h5]; unfold bitM; rw [ih _ (by omega)]
    have ec : trueM (gatesV v0 l) t.c = bitM (evalM (bitV v0) l) t.c := by
      rw [true_bit _ h7]; unfold bitM; rw [ih _ (by omega)]
    unfold gateV
    rw [eb, ec]
    cases hq : (bitM (evalM (bitV v0) l) t.b && bitM (evalM (bitV v0) l) t.c) with
    | true =>
      rw [if_pos rfl, bitV_put _ (by omega) hn (by rw [hlv]; exact ht)]
      unfold setM
      by_cases h : n = t.a / 2
      · rw [if_pos h, if_pos h]; rfl
      · rw [if_neg h, if_neg h, ih n hn]
    | false =>
      rw [if_neg (by decide), ih n hn]
      unfold setM
      by_cases h : n = t.a / 2
      · rw [if_pos h, h, eval_other _ _ _ fun u hu => ?_, ht0]
        have := h4 u hu
        have := (h1.mem u hu).2.1
        omega
      · rw [if_neg h]
theorem puts_other (n : Int) (hn : 0 ≤ n) (L : List Int) (s : ByteArray) (v : List UInt8) (hL : ∀ x ∈ L, 0 ≤ x ∧ x / 2 < (v.length : Int)) (ho : ∀ x ∈ L, x / 2 ≠ n) : ∀ k, k ≤ L.length → bitV (putsV v L s k) n = bitV v n
  | 0, _ => rfl
  | k + 1, hk => by
    have hm : L.getD k 0 ∈ L := by rw [List.getD_eq_getElem?_getD, List.getElem?_eq_getElem hk]; exact List.getElem_mem hk
    unfold putsV
    rw [bitV_put _ (hL _ hm).1 hn (by rw [putsV_len]; exact (hL _ hm).2), if_neg (fun e => ho _ hm e.symm), puts_other n hn L s v hL ho k (by omega)]
theorem zero_bit (c : Cir) (n : Int) : bitV (zeroV c) n = false := by
  unfold bitV zeroV
  rw [List.getElem?_replicate]
  split <;> rfl
section
variable {c : Cir} (st inp : ByteArray)
theorem max_len (hr : refOk c = true) : ((zeroV c).length : Int) = c.max + 1 := by
  obtain ⟨m, hm, _⟩ := max_nat hr
  unfold zeroV
  rw [List.length_replicate, hm]; simp
theorem own_in (hr : refOk c = true) {x : Int} (hx : x ∈ own c) : 2 ≤ x ∧ x % 2 = 0 ∧ x / 2 < ((zeroV c).length : Int) := by
  have := (own_facts hr).2 x hx
  rw [max_len hr]; omega
/-- what is no input's, and no latch's, is 0 to begin with -/
theorem base_bit (hr : refOk c = true) (n : Int) (hn : 0 ≤ n) (h1 : ∀ x ∈ c.ins, x / 2 ≠ n) (h2 : ∀ x ∈ c.lats.map Tri.a, x / 2 ≠ n) : bitV (baseB c st inp) n = false := by
  have hi : ∀ x ∈ c.ins, 0 ≤ x ∧ x / 2 < ((zeroV c).length : Int) := fun x hx => by
    have := own_in hr (show x ∈ own c from List.mem_append.2 (.inl hx)); omega
  have hl : ∀ x ∈ c.lats.map Tri.a, 0 ≤ x ∧ x / 2 < ((zeroV c).length : Int) := fun x hx => by
    have := own_in hr (show x ∈ own c from List.mem_append.2 (.inr (List.mem_append.2 (.inl hx)))); omega
  unfold baseB
  rw [puts_other n hn _ _ _ (by rw [putsV_len]; exact hl) h2 _ (by simp), puts_other n hn _ _ _ hi h1 _ (Nat.le_refl _), zero_bit]
theorem vals_eval (hr : refOk c = true) : ∀ n, 0 ≤ n → bitV (valsM c st inp) n = evalM (bitV (baseB c st inp)) c.ands n := by
  have hbl : ((baseB c st inp).length : Int) = ((zeroV c).length : Int) := by unfold baseB; rw [putsV_len, putsV_len]
  refine gates_eval (good_ands hr) _ (fun t ht => ?_) (fun t ht => ?_)
  · rw [hbl]
    exact (own_in hr (List.mem_append.2 (.inr (List.mem_append.2 (.inr (List.mem_map_of_mem ht)))))).2.2
  · have hm : t.a ∈ c.ands.map Tri.a := List.mem_map_of_mem ht
    obtain ⟨a1, a2, _⟩ := own_in hr (List.mem_append.2 (.inr (List.mem_append.2 (.inr hm))))
    have hnd := (own_facts hr).1
    unfold own at hnd
    rw [List.nodup_append] at hnd
    obtain ⟨-, hn2, hn3⟩ := hnd
    rw [List.nodup_append] at hn2
    refine base_bit st inp hr _ (by omega) (fun x hx e => ?_) (fun x hx e => ?_)
    · obtain ⟨b1, b2, _⟩ := own_in hr (show x ∈ own c from List.mem_append.2 (.inl hx))
      exact hn3 x hx t.a (List.mem_append.2 (.inr hm)) (by omega)
    · obtain ⟨b1, b2, _⟩ := own_in hr (show x ∈ own c from List.mem_append.2 (.inr (List.mem_append.2 (.inl hx))))
      exact hn2.2.2 x hx t.a hm (by omega)
end
end Go.Proofs.Ytpaneggajjgdlaa.Sim
