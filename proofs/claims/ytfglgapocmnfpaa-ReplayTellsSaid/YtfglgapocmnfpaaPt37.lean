/- sim.First, Initial, and the page's example; condition: the circuit may be, and lies in memory. sim.Initial of any state, and what the program's loop over the inputs does, as the pages' steps do; condition: the circuit may be, and lies in memory. SimTells; no condition. -/
import Derived.Test.YtfglgapocmnfpaaPt36
import Derived.Test.YtfglgapocmnfpaaPt28
import Derived.OwnWalk
namespace Go.Proofs.Ytfglgapocmnfpaa.Sim
open Go.ChangeShapes Go.WideShapes Go.ChangeAt Go.RowKit Go.Maps Circ Cw
open Str

/-- a latch's first bit, where x is the free one -/
def firstB (t : Tri) (x : UInt8) : Bool := if t.c = t.a then (((x.toNat : Nat) : Int) == 49) else (t.c == 1)
def fstL (c : Cir) (s : ByteArray) : List UInt8 := bitL (fun i => firstB (c.lats.getD i ⟨0, 0, 0⟩) (s.data.toList.getD i 0)) c.lats.length
theorem first1_any (gc gf b o n q i : Nat) (t : Tri) (s : ByteArray) (w : World) (hc : w.cell? ⟨gc, 2, none⟩ = some (.slice (some ⟨b, o, none⟩) n q)) (h0 : w.cell? ⟨b, o + i * 3, none⟩ = some (.int .i64 t.a)) (h1 : w.cell? ⟨b, o + i * 3 + 1, none⟩ = some (.int .i64 t.b)) (h2 : w.cell? ⟨b, o + i * 3 + 2, none⟩ = some (.int .i64 t.c)) (hf : w.cell? ⟨gf, 0, none⟩ = some (.string s)) (hi : i < n) (hs : i < s.size) :
    Tells 126 #[.pointer (some ⟨gc, 0, none⟩), .pointer (some ⟨gf, 0, none⟩)] w (.int .i64 (i : Int)) (firstB t (s.data.toList.getD i 0)) := by
  unfold Tells
  show Calls Try.prog 126 #[.int .i64 (i : Int), .pointer (some ⟨gc, 0, none⟩), .pointer (some ⟨gf, 0, none⟩)] w _
  have hgd : s.data.toList.getD i 0 = s[i]'hs := by
    have hl : i < s.data.toList.length := by simpa using hs
    rw [List.getD_eq_getElem?_getD, List.getElem?_eq_getElem hl, Option.getD_some, Array.getElem_toList]; rfl
  rw [hgd]
  clear hgd
  obtain ⟨wt, hwt⟩ : ∃ x, w.alloc (.cells #[.int .i64 t.a, .int .i64 t.b, .int .i64 t.c] 39) = x := ⟨_, rfl⟩
  have bt : Below w.heap.size w wt := by rw [← hwt]; exact (Below.refl _ _).alloc (Nat.le_refl _) _
  have KT : wt.heap[w.heap.size]? = some (.cells #[.int .i64 t.a, .int .i64 t.b, .int .i64 t.c] 39 (0, 0)) := by rw [← hwt]; exact Array.getElem?_push_size
  obtain ⟨r0, r1, r2⟩ := two_cells KT
  have hf2 := cell_later bt hf
  have HB := Lib.hid bt
  clear KT bt
  by_cases ht : t.c = t.a
  · have hb : (t.c != t.a) = false := by rw [bne_eq_false_iff_eq]; exact ht
    have HF : Hid (firstB t (s[i]'hs) = ((((s[i]'hs).toNat : Nat) : Int) == 49)) := if_pos ht
    rw [HF.out]
    rw [ht] at r2 h2 hb hwt
    clear HF
    have hb : (t.a != t.a) = false := by rw [bne_eq_false_iff_eq]
    clear ht
    go_enter Try.func126, Try.ntmps126
    go_wp2
    go_ret
    exact ⟨rfl, HB.out⟩
  · have hb : (t.c != t.a) = true := by rw [bne_iff_ne]; exact ht
    have HF : Hid (firstB t (s[i]'hs) = (t.c == 1)) := if_neg ht
    rw [HF.out]
    clear HF
    go_enter Try.func126, Try.ntmps126
    go_wp2
    go_ret
    exact ⟨rfl, HB.out⟩
set_option maxHeartbeats 16000000 in
set_option maxRecDepth 100000 in
theorem first_yes (c : Cir) (s : Places) (st : ByteArray) (w : World) (h : CLies w w.heap.size c s) (hf : CFits c s) (hr : refOk c = true) (hs : bitsM st (c.lats.length : Int) = true) :
    Calls Try.prog 104 #[cirV c s, .string st] w fun e w' => e = .returned (.tuple #[sv (fstL c st), .int .i64 0]) ∧ Below w.heap.size w w' := by
  have hmf : ∀ (fn : Fn) (first cap : Array Value) (w : World), (Instr.makeFunc fn first cap).run Try.prog w = .ok (.func fn first cap) w := fun _ _ _ _ => rfl
  obtain ⟨W0, hW0⟩ : ∃ x, w.alloc (.cells #[.int .i64 c.max, .slice s.ai c.ins.length s.ki, .slice s.al c.lats.length s.kl, .slice s.ao c.outs.length s.ko, .slice s.ab c.bads.length s.kb, .slice s.ac c.invs.length s.kc, .slice s.aa c.ands.length s.ka, .slice s.an c.names.length s.kn] 27) = x := ⟨_, rfl⟩
  have b0 : Below w.heap.size w W0 := by rw [← hW0]; exact (Below.refl _ _).alloc (Nat.le_refl _) _
  have g0 : W0.heap[w.heap.size]? = some (.cells (cirC c s) 27 (0, 0)) := by rw [← hW0]; exact Array.getElem?_push_size
  have s0 : W0.heap.size = w.heap.size + 1 := by rw [← hW0]; simp
  obtain ⟨WA, hWA⟩ : ∃ x, W0.alloc (.cells #[.string st] 9) = x := ⟨_, rfl⟩
  have b1 : Below W0.heap.size W0 WA := by rw [← hWA]; exact (Below.refl _ _).alloc (Nat.le_refl _) _
  have g1 : WA.heap[W0.heap.size]? = some (.cells #[.string st] 9 (0, 0)) := by rw [← hWA]; exact Array.getElem?_push_size
  rw [s0] at g1
  have bA : Hid (Below w.heap.size w WA) := b0.trans (b1.mono b0.size)
  have GA : Hid (WA.heap[w.heap.size]? = some (.cells (cirC c s) 27 (0, 0))) := (b1.block _ (lt_of_block g0)).trans g0
  have KA : Hid (WA.heap[w.heap.size + 1]? = some (.cells #[.string st] 9 (0, 0))) := g1
  obtain ⟨e0, e1, e2, e3, e4, e5, e6, e7⟩ := cells8 GA.out
  have k0 : WA.cell? ⟨w.heap.size + 1, 0, none⟩ = some (.string st) := by rw [Lib.cell_of_heap KA.out]; rfl
  have CK := Lib.hid (check_any c s WA ((h.below bA.out).more bA.out.size) hf)
  rw [chkV_yes c (by rw [chk_same]; exact hr)] at CK
  have T1 : Hid (∀ w, Calls Try.prog 32 #[.string st, .int .i64 (c.lats.length : Int)] w fun e w' => e = .returned (.bool true) ∧ Below w.heap.size w w') := fun w => by
    have := bits_text st c.lats.length w
    rw [hs] at this
    exact this
  have HZ := Lib.hid (ref_sizes hr)
  have HST := Lib.hid (bits_parts hs).1
  have LW : Hid (∀ x, Below w.heap.size w x → CLies x x.heap.size c s) := fun x hx => (h.below hx).more hx.size
  clear h hf hs hr b0 g0 b1 g1
  unfold cirV at CK ⊢
  rw [show cirC c s = #[.int .i64 c.max, .slice s.ai c.ins.length s.ki, .slice s.al c.lats.length s.kl, .slice s.ao c.outs.length s.ko, .slice s.ab c.bads.length s.kb, .slice s.ac c.invs.length s.kc, .slice s.aa c.ands.length s.ka, .slice s.an c.names.length s.kn] from rfl] at CK ⊢
  go_enter Try.func104, Try.ntmps104
  go_wp2_with fail
  refine CK.out.mono ?_
  rintro e w1 ⟨rfl, hb⟩
  have B1 : Hid (Below w.heap.size w w1) := bA.out.trans (hb.mono bA.out.size)
  have G1 : Hid (w1.heap[w.heap.size]? = some (.cells (cirC c s) 27 (0, 0))) := (hb.block _ (lt_of_block GA.out)).trans GA.out
  have K1 : Hid (w1.heap[w.heap.size + 1]? = some (.cells #[.string st] 9 (0, 0))) := (hb.block _ (lt_of_block KA.out)).trans KA.out
  clear e0 e1 e2 e3 e4 e5 e6 e7 k0 hWA hW0 s0 CK hb
  obtain ⟨e0, e1, e2, e3, e4, e5, e6, e7⟩ := cells8 G1.out
  have k0 : w1.cell? ⟨w.heap.size + 1, 0, none⟩ = some (.string st) := by rw [Lib.cell_of_heap K1.out]; rfl
  go_wp2_with fail
  refine (T1.out w1).mono ?_
  rintro e w2 ⟨rfl, hb⟩
  have B2 : Hid (Below w.heap.size w w2) := B1.out.trans (hb.mono B1.out.size)
  have G2 : Hid (w2.heap[w.heap.size]? = some (.cells (cirC c s) 27 (0, 0))) := (hb.block _ (lt_of_block G1.out)).trans G1.out
  have K2 : Hid (w2.heap[w.heap.size + 1]? = some (.cells #[.string st] 9 (0, 0))) := (hb.block _ (lt_of_block K1.out)).trans K1.out
  clear e0 e1 e2 e3 e4 e5 e6 e7 k0 hb
  obtain ⟨e0, e1, e2, e3, e4, e5, e6, e7⟩ := cells8 G2.out
  have EV : ∀ args w, (callFunc 126 args).run Try.prog w = .ok (.enter 126 args) w := enters_of Try.func126 (by kernel_rfl) rfl
  have zl : c.lats.length ≤ 64 := HZ.out.2.1
  have BT := Lib.hid (bits_any c.lats.length 126 #[.pointer (some ⟨w.heap.size, 0, none⟩), .pointer (some ⟨w.heap.size + 1, 0, none⟩)] (fun i => firstB (c.lats.getD i ⟨0, 0, 0⟩) (st.data.toList.getD i 0)) w2 (by omega) EV (fun X hX i hi => by
    obtain ⟨b0, o, hA, -, c0, c1, c2⟩ := LRow.tri (LW.out X (B2.out.trans (hX.mono B2.out.size))).lats hi
    have hk := (cells8 ((hX.block _ (lt_of_block G2.out)).trans G2.out)).2.2.1
    rw [hA] at hk
    have hg : X.cell? ⟨w.heap.size + 1, 0, none⟩ = some (.string st) := by rw [Lib.cell_of_heap ((hX.block _ (lt_of_block K2.out)).trans K2.out)]; rfl
    show Tells _ _ _ _ (firstB (c.lats.getD i ⟨0, 0, 0⟩) _)
    rw [lat_at c hi]
    exact first1_any _ _ b0 o c.lats.length s.kl i _ st X hk c0 c1 c2 hg hi (by have := HST.out; omega)))
  rw [show bitL (fun i => firstB (c.lats.getD i ⟨0, 0, 0⟩) (st.data.toList.getD i 0)) c.lats.length = fstL c st from rfl] at BT
  clear EV
  go_wp2_with fail
  refine BT.out.mono ?_
  rintro e w3 ⟨rfl, hb⟩
  have BF : Hid (Below w.heap.size w w3) := B2.out.trans (hb.mono B2.out.size)
  clear hb BT e0 e1 e2 e3 e4 e5 e6 e7
  go_wp2
  go_ret2
  exact ⟨rfl, BF.out⟩
set_option maxHeartbeats 16000000 in
set_option maxRecDepth 100000 in
theorem initial_yes (c : Cir) (s : Places) (st : ByteArray) (w : World) (h : CLies w w.heap.size c s) (hf : CFits c s) (hr : refOk c = true) (hs : bitsM st (c.lats.length : Int) = true) (he : sv (fstL c st) = .string st) :
    Calls Try.prog 64 #[cirV c s, .string st] w fun e w' => e = .returned (.bool true) ∧ Below w.heap.size w w' := by
  obtain ⟨WA, hWA⟩ : ∃ x, w.alloc (.cells #[.int .i64 c.max, .slice s.ai c.ins.length s.ki, .slice s.al c.lats.length s.kl, .slice s.ao c.outs.length s.ko, .slice s.ab c.bads.length s.kb, .slice s.ac c.invs.length s.kc, .slice s.aa c.ands.length s.ka, .slice s.an c.names.length s.kn] 27) = x := ⟨_, rfl⟩
  have bA : Hid (Below w.heap.size w WA) := by unfold Hid; rw [← hWA]; exact (Below.refl _ _).alloc (Nat.le_refl _) _
  have GA : Hid (WA.heap[w.heap.size]? = some (.cells (cirC c s) 27 (0, 0))) := by unfold Hid; rw [← hWA]; exact Array.getElem?_push_size
  obtain ⟨e0, e1, e2, e3, e4, e5, e6, e7⟩ := cells8 GA.out
  have FK := Lib.hid (first_yes c s st WA ((h.below bA.out).more bA.out.size) hf hr hs)
  rw [he] at FK
  clear h hf hs hr he
  unfold cirV at FK ⊢
  rw [show cirC c s = #[.int .i64 c.max, .slice s.ai c.ins.length s.ki, .slice s.al c.lats.length s.kl, .slice s.ao c.outs.length s.ko, .slice s.ab c.bads.length s.kb, .slice s.ac c.invs.length s.kc, .slice s.aa c.ands.length s.ka, .slice s.an c.names.length s.kn] from rfl] at FK ⊢
  go_enter Try.func64, Try.ntmps64
  go_wp2_with fail
  refine FK.out.mono ?_
  rintro e w1 ⟨rfl, hb⟩
  have BF : Hid (Below w.heap.size w w1) := bA.out.trans (hb.mono bA.out.size)
  clear e0 e1 e2 e3 e4 e5 e6 e7 hWA FK hb
  go_wp2
  go_ret
  exact ⟨rfl, BF.out⟩
theorem num_any (x : Int) (w : World) : Calls Try.prog 25 #[.int .i64 x] w fun e w' => e = .returned (.int .i64 x) ∧ w = w' := by
  go_enter Try.func25, Try.ntmps25
  go_wp2
  go_ret
  exact ⟨rfl, rfl⟩
def cA : Cir := ⟨1, [], [⟨2, 3, 0⟩], [], [], [], [], []⟩
def sA (b : Nat) : Places := ⟨none, some ⟨b, 0, none⟩, none, none, none, none, none, 0, 1, 0, 0, 0, 0, 0⟩
theorem cA_fits (b : Nat) : CFits cA (sA b) := by
  constructor <;> simp [cA, sA, I64, Tri.fits]
theorem cA_ok : refOk cA = true := by decide +kernel
theorem cA_bits : bitsM ⟨#[48]⟩ (cA.lats.length : Int) = true := by decide +kernel
theorem cA_next : nStr cA ⟨#[48]⟩ ⟨#[]⟩ = [49] := by decide +kernel
theorem cA_err : vErr cA ⟨#[48]⟩ ⟨#[]⟩ = 0 := by decide +kernel
theorem cA_first : fstL cA ⟨#[48]⟩ = [48] := by decide +kernel
theorem cA_lies (w w' : World) (hb : Below (w.heap.size + 1) (w.alloc (.cells #[.int .i64 2, .int .i64 3, .int .i64 0] 39)) w') : CLies w' (w.heap.size + 1) cA (sA w.heap.size) := by
  refine ⟨.inl rfl, .inr ⟨_, 0, rfl, Nat.lt_succ_self _, fun i ys hi j u hj => ?_⟩, .inl rfl, .inl rfl, .inl rfl, .inl rfl, .inl rfl⟩
  match i, hi with
  | 0, hi =>
    obtain rfl : [Value.int .i64 2, .int .i64 3, .int .i64 0] = ys := by simpa [tris, cA, Tri.cells] using hi
    rw [hb.cell (by exact Nat.lt_succ_self _), World.cell?_alloc_new]
    match j, hj with
    | 0, hj => simpa using hj
    | 1, hj => simpa using hj
    | 2, hj => simpa using hj
set_option maxHeartbeats 16000000 in
set_option maxRecDepth 100000 in
theorem alive_any (w : World) : Calls Try.prog 26 #[] w fun e w' => e = .returned (.bool true) ∧ Below w.heap.size w w' := by
  obtain ⟨W0, hW0⟩ : ∃ x, w.alloc (.cells #[.int .i64 2, .int .i64 3, .int .i64 0] 39) = x := ⟨_, rfl⟩
  have b0 : Below w.heap.size w W0 := by rw [← hW0]; exact (Below.refl _ _).alloc (Nat.le_refl _) _
  have s0 : W0.heap.size = w.heap.size + 1 := by rw [← hW0]; simp
  have LL : Hid (∀ x, Below (w.heap.size + 1) W0 x → CLies x x.heap.size cA (sA w.heap.size)) := fun x hx => (cA_lies w x (by rw [hW0]; exact hx)).more (by have := hx.size; omega)
  obtain ⟨W1, hW1⟩ : ∃ x, W0.alloc (.cells #[.int .i64 0, .slice none 0 0, .slice none 0 0, .slice none 0 0, .slice none 0 0, .slice none 0 0, .slice none 0 0, .slice none 0 0] 27) = x := ⟨_, rfl⟩
  have b1 : Below W0.heap.size W0 W1 := by rw [← hW1]; exact (Below.refl _ _).alloc (Nat.le_refl _) _
  have g1 : W1.heap[W0.heap.size]? = some (.cells #[.int .i64 0, .slice none 0 0, .slice none 0 0, .slice none 0 0, .slice none 0 0, .slice none 0 0, .slice none 0 0, .slice none 0 0] 27 (0, 0)) := by rw [← hW1]; exact Array.getElem?_push_size
  obtain ⟨r1, r2, r3, r4, r5, r6, r7, Xr, rv0, rv1, rv2, rv3, rv4, rv5, rv6, rv7, ⟨rh1, ra0, rb0⟩, ⟨rh2, ra1, rb1⟩, ⟨rh3, ra2, rb2⟩, ⟨rh4, ra3, rb3⟩, ⟨rh5, ra4, rb4⟩, ⟨rh6, ra5, rb5⟩, ⟨rh7, ra6, rb6⟩, ⟨rh8, ra7, rb7⟩, E8r, FCr⟩ := Cw.store8 g1 rfl (.int .i64 1) (.slice none 0 0) (.slice (some ⟨w.heap.size, 0, none⟩) 1 1) (.slice none 0 0) (.slice none 0 0) (.slice none 0 0) (.slice none 0 0) (.slice none 0 0)
  rw [s0] at rh1 ra0 rb0 rh2 ra1 rb1 rh3 ra2 rb2 rh4 ra3 rb3 rh5 ra4 rb4 rh6 ra5 rb5 rh7 ra6 rb6 rh8 ra7 rb7 E8r FCr b1
  have bX : Hid (Below (w.heap.size + 1) W0 Xr) := FCr.below b1 (Nat.le_refl _)
  have BX : Hid (Below w.heap.size w Xr) := b0.trans (bX.out.mono (by omega))
  have GX : Hid (Xr.heap[w.heap.size + 1]? = some (.cells (cirC cA (sA w.heap.size)) 27 (0, 0))) := E8r
  have NX := Lib.hid (next_any cA (sA w.heap.size) ⟨#[48]⟩ ⟨#[]⟩ Xr (LL.out _ bX.out) (cA_fits _))
  rw [cA_next, cA_err] at NX
  have IN : Hid (∀ x, Below Xr.heap.size Xr x → Calls Try.prog 64 #[cirV cA (sA w.heap.size), .string ⟨#[48]⟩] x fun e w' => e = .returned (.bool true) ∧ Below x.heap.size x w') := fun x hx =>
    initial_yes cA (sA w.heap.size) ⟨#[48]⟩ x (LL.out _ (bX.out.trans (hx.mono (by have := bX.out.size; omega)))) (cA_fits _) cA_ok cA_bits (by rw [cA_first]; rfl)
  have hcv : cirV cA (sA w.heap.size) = .agg #[.int .i64 1, .slice none 0 0, .slice (some ⟨w.heap.size, 0, none⟩) 1 1, .slice none 0 0, .slice none 0 0, .slice none 0 0, .slice none 0 0, .slice none 0 0] := rfl
  rw [hcv] at NX IN
  obtain ⟨e0, e1, e2, e3, e4, e5, e6, e7⟩ := cells8 GX.out
  simp only [cA, sA, List.length_nil, List.length_cons] at e0 e1 e2 e3 e4 e5 e6 e7
  clear hcv E8r FCr g1 b1 b0
  unfold sv at NX
  go_enter Try.func26, Try.ntmps26
  go_wp2_with fail
  clear hW0 hW1 rh1 ra0 rb0 rh2 ra1 rb1 rh3 ra2 rb2 rh4 ra3 rb3 rh5 ra4 rb4 rh6 ra5 rb5 rh7 ra6 rb6 rh8 ra7 rb7
  refine NX.out.mono ?_
  rintro e w1 ⟨rfl, hb⟩
  have B1 := Lib.hid hb
  have G1 : Hid (w1.heap[w.heap.size + 1]? = some (.cells (cirC cA (sA w.heap.size)) 27 (0, 0))) := (hb.block _ (lt_of_block GX.out)).trans GX.out
  clear e0 e1 e2 e3 e4 e5 e6 e7 NX hb
  obtain ⟨e0, e1, e2, e3, e4, e5, e6, e7⟩ := cells8 G1.out
  simp only [cA, sA, List.length_nil, List.length_cons] at e0 e1 e2 e3 e4 e5 e6 e7
  go_wp2_with (go_at_call 25; refine (num_any _ _).mono ?_; rintro e w' ⟨rfl, rfl⟩)
  refine (IN.out w1 B1.out).mono ?_
  rintro e w2 ⟨rfl, hb⟩
  have BF : Hid (Below w.heap.size w w2) := BX.out.trans ((B1.out.trans (hb.mono B1.out.size)).mono BX.out.size)
  clear hb IN
  go_wp2
  go_ret
  exact ⟨rfl, BF.out⟩
end Go.Proofs.Ytfglgapocmnfpaa.Sim
namespace Go.Proofs.Ytfglgapocmnfpaa.Rep
open Go.ChangeShapes Go.WideShapes Go.ChangeAt Go.RowKit Go.Maps Circ Cw
open Str Sim

theorem bit_cases {x : UInt8} (h : isBit x = true) : x = 48 ∨ x = 49 := by
  unfold isBit at h
  simp only [Bool.or_eq_true, decide_eq_true_eq] at h
  rcases h with h | h
  · exact .inl (UInt8.toNat_inj.1 h)
  · exact .inr (UInt8.toNat_inj.1 h)
theorem first_eq (t : Tri) {x : UInt8} (h : isBit x = true) : decide (bitB (firstB t x) = x) = initB t x := by
  unfold initB firstB bitB
  rcases bit_cases h with rfl | rfl
  · by_cases ht : t.c = t.a
    · rw [if_pos ht, decide_eq_true ht]; rfl
    · rw [if_neg ht, decide_eq_false ht]
      by_cases h1 : t.c = 1
      · rw [h1]; rfl
      · rw [decide_eq_false h1, show (t.c == 1) = false from beq_eq_false_iff_ne.2 h1]; rfl
  · by_cases ht : t.c = t.a
    · rw [if_pos ht, decide_eq_true ht]; rfl
    · rw [if_neg ht, decide_eq_false ht]
      by_cases h1 : t.c = 1
      · rw [h1]; rfl
      · rw [decide_eq_false h1, show (t.c == 1) = false from beq_eq_false_iff_ne.2 h1]; rfl
theorem bitL_getD (p : Nat → Bool) {n i : Nat} (h : i < n) : (bitL p n).getD i 0 = bitB (p i) := by
  unfold bitL
  rw [List.getD_eq_getElem?_getD, List.getElem?_map, List.getElem?_range h]; rfl
/-- a state might be a first one just if it is the one that it leaves free -/
theorem init_first (c : Cir) (st : ByteArray) (hs : bitsM st (c.lats.length : Int) = true) : (fstL c st == st.data.toList) = initM c st := by
  have h := hs
  unfold bitsM at h
  rw [Bool.and_eq_true, decide_eq_true_eq] at h
  obtain ⟨hz, ha⟩ := h
  have hl : st.data.toList.length = c.lats.length := by have : st.data.toList.length = st.size := by simp
                                                        omega
  rw [List.all_eq_true] at ha
  have hb : ∀ i, i < c.lats.length → isBit (st.data.toList.getD i 0) = true := fun i hi => by
    rw [List.getD_eq_getElem?_getD, List.getElem?_eq_getElem (by omega)]
    exact ha _ (List.getElem_mem _)
  unfold initM
  rw [hs, Bool.true_and, Bool.eq_iff_iff, beq_iff_eq, List.all_eq_true]
  constructor
  · intro h i hi
    have hi := List.mem_range.1 hi
    rw [← first_eq _ (hb i hi), decide_eq_true_eq]
    have h1 : (fstL c st).getD i 0 = st.data.toList.getD i 0 := by rw [h]
    exact Eq.trans (bitL_getD (fun i => firstB (c.lats.getD i ⟨0, 0, 0⟩) (st.data.toList.getD i 0)) hi).symm h1
  · intro h
    apply List.ext_getElem
    · unfold fstL; rw [bitL_len, hl]
    · intro i h1 h2
      have hi : i < c.lats.length := by omega
      have := h i (List.mem_range.2 hi)
      rw [← first_eq _ (hb i hi), decide_eq_true_eq] at this
      have a : (fstL c st).getD i 0 = _ := bitL_getD (fun i => firstB (c.lats.getD i ⟨0, 0, 0⟩) (st.data.toList.getD i 0)) hi
      have b := a.trans this
      rw [List.getD_eq_getElem?_getD, List.getD_eq_getElem?_getD, List.getElem?_eq_getElem h1, List.getElem?_eq_getElem h2] at b
      exact b
set_option maxHeartbeats 16000000 in
set_option maxRecDepth 100000 in
theorem initial_any (c : Cir) (s : Places) (st : ByteArray) (w : World) (h : CLies w w.heap.size c s) (hf : CFits c s) (hr : refOk c = true) (hs : bitsM st (c.lats.length : Int) = true) :
    Calls Try.prog 64 #[cirV c s, .string st] w fun e w' => e = .returned (.bool (initM c st)) ∧ Below w.heap.size w w' := by
  have hq := init_first c st hs
  cases hi : initM c st with
  | true =>
    rw [hi, beq_iff_eq] at hq
    exact initial_yes c s st w h hf hr hs (by unfold sv; rw [hq])
  | false =>
    rw [hi] at hq
    obtain ⟨WA, hWA⟩ : ∃ x, w.alloc (.cells #[.int .i64 c.max, .slice s.ai c.ins.length s.ki, .slice s.al c.lats.length s.kl, .slice s.ao c.outs.length s.ko, .slice s.ab c.bads.length s.kb, .slice s.ac c.invs.length s.kc, .slice s.aa c.ands.length s.ka, .slice s.an c.names.length s.kn] 27) = x := ⟨_, rfl⟩
    have bA : Hid (Below w.heap.size w WA) := by unfold Hid; rw [← hWA]; exact (Below.refl _ _).alloc (Nat.le_refl _) _
    have GA : Hid (WA.heap[w.heap.size]? = some (.cells (cirC c s) 27 (0, 0))) := by unfold Hid; rw [← hWA]; exact Array.getElem?_push_size
    obtain ⟨e0, e1, e2, e3, e4, e5, e6, e7⟩ := cells8 GA.out
    have FK := Lib.hid (first_yes c s st WA ((h.below bA.out).more bA.out.size) hf hr hs)
    obtain ⟨y, hy⟩ : ∃ y : ByteArray, y = ⟨(fstL c st).toArray⟩ := ⟨_, rfl⟩
    have hne : (y.toList == st.toList) = false := by
      rw [hy, Lib.toList_data, Lib.toList_data]; exact hq
    unfold sv at FK
    rw [← hy] at FK
    clear h hf hs hr hi hq hy
    unfold cirV at FK ⊢
    rw [show cirC c s = #[.int .i64 c.max, .slice s.ai c.ins.length s.ki, .slice s.al c.lats.length s.kl, .slice s.ao c.outs.length s.ko, .slice s.ab c.bads.length s.kb, .slice s.ac c.invs.length s.kc, .slice s.aa c.ands.length s.ka, .slice s.an c.names.length s.kn] from rfl] at FK ⊢
    go_enter Try.func64, Try.ntmps64
    go_wp2_with fail
    refine FK.out.mono ?_
    rintro e w1 ⟨rfl, hb⟩
    have BF : Hid (Below w.heap.size w w1) := bA.out.trans (hb.mono bA.out.size)
    clear e0 e1 e2 e3 e4 e5 e6 e7 hWA FK hb
    go_wp2
    go_ret
    exact ⟨rfl, BF.out⟩
/-- are all steps allowed? -/
def goesM (c : Cir) (cl : List (List Int)) : ByteArray → List ByteArray → Bool
  | _, [] => true
  | s, i :: r => allowedM c cl (valsM c s i) && goesM c cl (nxt1 c s i) r
/-- the last step's values -/
def lastV (c : Cir) : List UInt8 → ByteArray → List ByteArray → List UInt8
  | v, _, [] => v
  | _, s, i :: r => lastV c (valsM c s i) (nxt1 c s i) r
theorem steps_goes (c : Cir) (cl : List (List Int)) (bad : Int) : ∀ (l : List ByteArray) (v : List UInt8) (s : ByteArray), l ≠ [] → stepsM c cl bad s l = (goesM c cl s l && trueM (lastV c v s l) (c.bads.getD bad.toNat 0))
  | [], _, _, h => absurd rfl h
  | [i], v, s, _ => by
    show (stepM c cl bad s i true && true) = _
    unfold stepM goesM lastV goesM lastV
    simp
  | i :: j :: r, v, s, _ => by
    have ih := steps_goes c cl bad (j :: r) (valsM c s i) (nxt1 c s i) (by simp)
    show (stepM c cl bad s i false && stepsM c cl bad (nxt1 c s i) (j :: r)) = _
    rw [ih]
    show _ = ((allowedM c cl (valsM c s i) && goesM c cl (nxt1 c s i) (j :: r)) && trueM (lastV c (valsM c s i) (nxt1 c s i) (j :: r)) _)
    unfold stepM
    simp [Bool.and_assoc]
end Go.Proofs.Ytfglgapocmnfpaa.Rep
namespace Go.Proofs.Ytfglgapocmnfpaa.Sim
open Go.ChangeShapes Go.WideShapes Go.ChangeAt Go.RowKit Go.Maps Circ Cw
open Str

set_option maxHeartbeats 16000000 in
set_option maxRecDepth 100000 in
theorem tells_walk (c : Cir) (s : Places) (st inp vs : ByteArray) (l : Int) (cl : List Int) (A : Option Addr) (q : Nat) (w : World) (h : CLies w w.heap.size c s) (hf : CFits c s) (hzs : st.size ≤ 9223372036854775807) (hzi : inp.size ≤ 9223372036854775807) (hzv : vs.size ≤ 9223372036854775807) (hl : I64 l) (hcl : ∀ x ∈ cl, I64 x) (hcn : cl.length ≤ 9223372036854775807) (hr : LRow w w.heap.size 1 A (ints cl)) :
    Calls Try.prog 6 #[cirV c s, .string st, .string inp, .int .i64 l, .slice A cl.length q, .string vs] w fun e w' => e = .returned (.bool true) ∧ Below w.heap.size w w' := by
  obtain ⟨WA, hWA⟩ : ∃ x, w.alloc (.cells #[.int .i64 c.max, .slice s.ai c.ins.length s.ki, .slice s.al c.lats.length s.kl, .slice s.ao c.outs.length s.ko, .slice s.ab c.bads.length s.kb, .slice s.ac c.invs.length s.kc, .slice s.aa c.ands.length s.ka, .slice s.an c.names.length s.kn] 27) = x := ⟨_, rfl⟩
  have bA : Hid (Below w.heap.size w WA) := by unfold Hid; rw [← hWA]; exact (Below.refl _ _).alloc (Nat.le_refl _) _
  have GA : Hid (WA.heap[w.heap.size]? = some (.cells (cirC c s) 27 (0, 0))) := by unfold Hid; rw [← hWA]; exact Array.getElem?_push_size
  obtain ⟨e0, e1, e2, e3, e4, e5, e6, e7⟩ := cells8 GA.out
  have LW : Hid (∀ x, Below w.heap.size w x → CLies x x.heap.size c s) := fun x hx => (h.below hx).more hx.size
  have LR : Hid (∀ x, Below w.heap.size w x → LRow x x.heap.size 1 A (ints cl)) := fun x hx => (hr.below hx).more hx.size
  have HF := Lib.hid hf
  have VA := Lib.hid (fun x hx => values_any c s st inp x (LW.out x hx) hf)
  have VB := Lib.hid (fun x hx => refvalues_any c s st inp x (LW.out x hx) hf hzs hzi)
  have NA := Lib.hid (fun x hx => next_any c s st inp x (LW.out x hx) hf)
  have NB := Lib.hid (fun x hx => refnext_any c s st inp x (LW.out x hx) hf hzs hzi)
  have TA := Lib.hid (fun x => true_any vs l x hzv hl.2)
  have TB := Lib.hid (fun x => reftrue_any vs l x hzv hl.2)
  have HA := Lib.hid (fun x hx => holdsM_any vs cl A q x hzv hcl hcn (LR.out x hx))
  have HB := Lib.hid (fun x hx => refholds_any vs cl A q x hzv hcl hcn (LR.out x hx))
  have SA := Lib.hid (fun x => bits_text st (c.lats.length : Int) x)
  have SB := Lib.hid (fun x => refbits_any st (c.lats.length : Int) x hzs)
  have BV := Lib.hid (fun x => refbits_any vs (vs.size : Int) x hzv)
  have HZV := Lib.hid hzv
  unfold sv at VA VB NA NB
  generalize trueM vs.data.toList l = y1 at *
  generalize holdsM vs.data.toList cl = y2 at *
  generalize bitsM st (c.lats.length : Int) = y3 at *
  generalize (⟨(vStr c st inp).toArray⟩ : ByteArray) = s1 at *
  generalize (⟨(nStr c st inp).toArray⟩ : ByteArray) = s2 at *
  have hx := err_range c st inp
  generalize vErr c st inp = x at *
  clear h hf hr hzs hzi hcl hcn hl
  unfold cirV at VA VB NA NB ⊢
  rw [show cirC c s = #[.int .i64 c.max, .slice s.ai c.ins.length s.ki, .slice s.al c.lats.length s.kl, .slice s.ao c.outs.length s.ko, .slice s.ab c.bads.length s.kb, .slice s.ac c.invs.length s.kc, .slice s.aa c.ands.length s.ka, .slice s.an c.names.length s.kn] from rfl] at VA VB NA NB ⊢
  go_enter Try.func6, Try.ntmps6
  go_wp2_with fail
  refine (VA.out WA bA.out).mono ?_
  rintro e w1 ⟨rfl, hb⟩
  have B1 : Hid (Below w.heap.size w w1) := bA.out.trans (hb.mono bA.out.size)
  have G1 : Hid (w1.heap[w.heap.size]? = some (.cells (cirC c s) 27 (0, 0))) := (hb.block _ (lt_of_block GA.out)).trans GA.out
  clear e0 e1 e2 e3 e4 e5 e6 e7 hb
  obtain ⟨e0, e1, e2, e3, e4, e5, e6, e7⟩ := cells8 G1.out
  go_wp2_with fail
  refine (VB.out w1 B1.out).mono ?_
  rintro e w2 ⟨rfl, hb⟩
  have B2 : Hid (Below w.heap.size w w2) := B1.out.trans (hb.mono B1.out.size)
  have G2 : Hid (w2.heap[w.heap.size]? = some (.cells (cirC c s) 27 (0, 0))) := (hb.block _ (lt_of_block G1.out)).trans G1.out
  clear e0 e1 e2 e3 e4 e5 e6 e7 hb
  obtain ⟨e0, e1, e2, e3, e4, e5, e6, e7⟩ := cells8 G2.out
  go_wp2_with fail
  refine (NA.out w2 B2.out).mono ?_
  rintro e w3 ⟨rfl, hb⟩
  have B3 : Hid (Below w.heap.size w w3) := B2.out.trans (hb.mono B2.out.size)
  have G3 : Hid (w3.heap[w.heap.size]? = some (.cells (cirC c s) 27 (0, 0))) := (hb.block _ (lt_of_block G2.out)).trans G2.out
  clear e0 e1 e2 e3 e4 e5 e6 e7 hb
  obtain ⟨e0, e1, e2, e3, e4, e5, e6, e7⟩ := cells8 G3.out
  go_wp2_with fail
  refine (NB.out w3 B3.out).mono ?_
  rintro e w4 ⟨rfl, hb⟩
  have B4 : Hid (Below w.heap.size w w4) := B3.out.trans (hb.mono B3.out.size)
  have G4 : Hid (w4.heap[w.heap.size]? = some (.cells (cirC c s) 27 (0, 0))) := (hb.block _ (lt_of_block G3.out)).trans G3.out
  clear e0 e1 e2 e3 e4 e5 e6 e7 hb
  obtain ⟨e0, e1, e2, e3, e4, e5, e6, e7⟩ := cells8 G4.out
  go_wp2_with (go_at_call 25; refine (num_any _ _).mono ?_; rintro e w' ⟨rfl, rfl⟩)
  refine (alive_any w4).mono ?_
  rintro e w5 ⟨rfl, hb⟩
  have B5 : Hid (Below w.heap.size w w5) := B4.out.trans (hb.mono B4.out.size)
  have G5 : Hid (w5.heap[w.heap.size]? = some (.cells (cirC c s) 27 (0, 0))) := (hb.block _ (lt_of_block G4.out)).trans G4.out
  clear e0 e1 e2 e3 e4 e5 e6 e7 hb
  obtain ⟨e0, e1, e2, e3, e4, e5, e6, e7⟩ := cells8 G5.out
  clear hWA VA VB NA NB
  cases hq : bitsM vs (vs.size : Int) with
  | false =>
    rw [hq] at BV
    clear hq
    go_wp2_with fail
    refine (BV.out w5).mono ?_
    rintro e w' ⟨rfl, rfl⟩
    go_wp2
    go_ret
    exact ⟨rfl, B5.out⟩
  | true =>
    rw [hq] at BV
    clear hq
    go_wp2_with fail
    refine (BV.out w5).mono ?_
    rintro e w' ⟨rfl, rfl⟩
    clear BV
    have K1 := Lib.hid (fun (u : Wd w5.heap.size w5) => Calls.in_wd u (TA.out u.w) (Nat.le_refl _))
    have K2 := Lib.hid (fun (u : Wd w5.heap.size w5) => Calls.in_wd u ((TB.out u.w).mono fun e w' ⟨h1, h2⟩ => ⟨h1, h2 ▸ Below.refl _ _⟩) (Nat.le_refl _))
    have K3 := Lib.hid (fun (u : Wd w5.heap.size w5) => Calls.in_wd u (HA.out u.w (B5.out.trans (u.ok.mono B5.out.size))) (Nat.le_refl _))
    have K4 := Lib.hid (fun (u : Wd w5.heap.size w5) => Calls.in_wd u ((HB.out u.w (B5.out.trans (u.ok.mono B5.out.size))).mono fun e w' ⟨h1, h2⟩ => ⟨h1, h2 ▸ Below.refl _ _⟩) (Nat.le_refl _))
    have K5 := Lib.hid (fun (u : Wd w5.heap.size w5) => Calls.in_wd u (SA.out u.w) (Nat.le_refl _))
    have K6 := Lib.hid (fun (u : Wd w5.heap.size w5) => Calls.in_wd u ((SB.out u.w).mono fun e w' ⟨h1, h2⟩ => ⟨h1, h2 ▸ Below.refl _ _⟩) (Nat.le_refl _))
    clear TA TB HA HB SA SB
    go_wp2
    have u2 := Wd.cell e2
    refine wp_region_wd (by kernel_rfl) (by kernel_rfl) ?_
    repeat (first | go_big_quiet_skip | (go_big_quiet_want; go_big_quiet_op; first | go_big_quiet_on | (apply Exists.intro; refine ⟨fun u => ?_, ?_⟩; (first | (go_at_call 28; with_reducible exact K1.out u) | (go_at_call 29; with_reducible exact K2.out u) | (go_at_call 30; with_reducible exact K3.out u) | (go_at_call 31; with_reducible exact K4.out u) | (go_at_call 32; with_reducible exact K5.out u) | (go_at_call 27; with_reducible exact K6.out u)); go_big_quiet_on)))
    refine wpQuiet_nil ?_
    intro wz9 hw'
    obtain ⟨⟨_, hb9⟩, hw''⟩ := hw'
    subst hw''
    have BZ : Hid (Below w.heap.size w wz9) := B5.out.trans (hb9.mono B5.out.size)
    clear K1 K2 K3 K4 K5 K6 hb9 e0 e1 e2 e3 e4 e5 e6 e7
    go_wp2
    go_ret
    exact ⟨rfl, BZ.out⟩
theorem all_weights {H : Type} {ts : List TypeId} {ds : List (DataW H)} (hsz : (DataW.weightsEach Try.prog ts ds).all (· ≤ reachBytes) = true) (j : Nat) {t : TypeId} {d : DataW H} (ht : ts[j]? = some t) (hd : ds[j]? = some d) : ∀ n ∈ DataW.weights Try.prog t d, n ≤ reachBytes := fun n hn => by
  have := List.all_eq_true.1 hsz n (DataW.weights_mem_each (j := j) ht hd n hn)
  simpa using this
set_option maxRecDepth 100000 in
theorem tells_core {H : Type} {enc : TypeId × Value → H} (W : World) (v : Value) (d : DataW H) (p : List MemPlace) {r : Reach} {b0 : Nat} (hv : Value.okWide Try.prog W r b0 27 v) (h : DataW.Trod enc Try.prog W 0 (fun _ => true) true 27 v d p)
    (st : ByteArray) (hst : st.size ≤ maxLen) (inp : ByteArray) (hinp : inp.size ≤ maxLen) (l : Int) (l0 : -9223372036854775808 ≤ l) (l1 : l ≤ 9223372036854775807)
    (v1 : Value) (d1 : DataW H) (p1 : List MemPlace) {r1 : Reach} {b1 : Nat} (hv1 : Value.okWide Try.prog W r1 b1 22 v1) (h1 : DataW.Trod enc Try.prog W 0 (fun _ => true) true 22 v1 d1 p1)
    (vs : ByteArray) (hvs : vs.size ≤ maxLen) {e1 e2 e3 e5 : DataW H} {t1 t2 t3 t5 : TypeId} {ts : List TypeId} {ds : List (DataW H)} (hsz : (DataW.weightsEach Try.prog (27 :: t1 :: t2 :: t3 :: 22 :: t5 :: ts) (d :: e1 :: e2 :: e3 :: d1 :: e5 :: ds)).all (· ≤ reachBytes) = true) :
    Calls Try.prog 6 #[v, .string st, .string inp, .int .i64 l, v1, .string vs] W fun e W' => e = .returned (.bool true) ∧ Below W.heap.size W W' := by
  obtain ⟨c, s, rfl, hl, hf⟩ := open_circ hv h (all_weights hsz 0 rfl rfl)
  have hw1 := all_weights hsz 4 (t := 22) (d := d1) rfl rfl
  obtain ⟨fuel, ht⟩ := h1
  obtain ⟨A1, cl, q1, e1, r1', f1, k1, z1⟩ := open_rows 1 (by decide) (fun x : Int => [Value.int .i64 x]) I64 (fun _ => rfl) Try.underlying22 c3 (fun n cs' y h => el_int h) ht
  have hv1 : v1 = .slice A1 cl.length q1 := by
    obtain ⟨a0, len, cap, rfl⟩ := okWide_slice Try.underlying22 hv1
    simpa [Value.cells] using e1
  subst hv1
  have hbl : cl.length * 8 ≤ 140737488355328 := row_bytes (l := cl) 8 (by kernel_rfl) Try.underlying22 z1 hw1
  unfold maxLen at hst hinp hvs
  exact tells_walk c s st inp vs l cl A1 q1 W hl hf hst hinp hvs ⟨l0, l1⟩ f1 (by omega) r1'
end Go.Proofs.Ytfglgapocmnfpaa.Sim
