/- What the laws of layer 9 ask of the program's own functions; the page's example over them. ReplayTells, from what it asks of the program's own functions. ReplayPrefix, from what it asks of the program's own functions. -/
import Derived.Test.YtfglgapocmnfpaaPt43
import Derived.Test.YtfglgapocmnfpaaPt37
namespace Go.Proofs.Ytfglgapocmnfpaa.Rep
open Go.ChangeShapes Go.WideShapes Go.ChangeAt Go.RowKit Go.Maps Circ Cw
open Str Sim

/-- the program's own Check, Allowed, States answer as the pages say -/
structure Prog9 : Prop where
  check : ∀ (c : Cir) (s : Places) (L : List Clz) (A : Option Addr) (q : Nat) (x : Wit) (AI : Option Addr) (qi : Nat) (w : World), CLies w w.heap.size c s → CFits c s → x.state.size ≤ 9223372036854775807 → I64 x.bad → ALies w w.heap.size A L → SLies w w.heap.size AI x.inputs →
    Calls Try.prog 35 #[cirV c s, .slice A L.length q, witV x AI qi] w fun e w' => e = .returned (.int .i64 (pathE c (L.map Clz.l) x)) ∧ Below w.heap.size w w'
  allowed : ∀ (c : Cir) (s : Places) (L : List Clz) (A : Option Addr) (q : Nat) (v : ByteArray) (w : World), CLies w w.heap.size c s → CFits c s → v.size ≤ 9223372036854775807 → bitsM v (v.size : Int) = true → ALies w w.heap.size A L →
    Calls Try.prog 38 #[cirV c s, .slice A L.length q, .string v] w fun e w' => e = .returned (.bool (allowedM c (L.map Clz.l) v.data.toList)) ∧ Below w.heap.size w w'
  states : ∀ (c : Cir) (s : Places) (st : ByteArray) (ins : List ByteArray) (AI : Option Addr) (qi : Nat) (w : World), CLies w w.heap.size c s → CFits c s → refOk c = true → bitsM st (c.lats.length : Int) = true → (∀ i ∈ ins, bitsM i (c.ins.length : Int) = true) → SLies w w.heap.size AI ins → ins.length * 16 ≤ 140737488355328 →
    Calls Try.prog 40 #[cirV c s, .string st, .slice AI ins.length qi] w fun e w' => (∃ A' q', e = .returned (.tuple #[.slice A' (ins.length + 1) q', .int .i64 0]) ∧ SLies w' w'.heap.size A' (statesL c st ins)) ∧ Below w.heap.size w w'
theorem num_any (x : Int) (w : World) : Calls Try.prog 34 #[.int .i64 x] w fun e w' => e = .returned (.int .i64 x) ∧ w = w' := by
  go_enter Try.func34, Try.ntmps34
  go_wp2
  go_ret
  exact ⟨rfl, rfl⟩
def cR : Cir := ⟨0, [], [], [], [1], [], [], []⟩
def sR (b : Nat) : Places := ⟨none, none, none, some ⟨b, 0, none⟩, none, none, none, 0, 0, 0, 1, 0, 0, 0⟩
theorem cR_fits (b : Nat) : CFits cR (sR b) := by
  constructor <;> simp [cR, sR, I64]
theorem cR_ok : pathE cR [] ⟨0, ⟨#[]⟩, [⟨#[]⟩]⟩ = 0 := by decide +kernel
theorem cR_short : pathE cR [] ⟨0, ⟨#[]⟩, []⟩ = 8 := by decide +kernel
theorem cR_lies (w w' : World) (hb : Below (w.heap.size + 1) (w.alloc (.cells #[.int .i64 1] 3)) w') : CLies w' (w.heap.size + 1) cR (sR w.heap.size) := by
  refine ⟨.inl rfl, .inl rfl, .inl rfl, .inr ⟨_, 0, rfl, Nat.lt_succ_self _, fun i ys hi j u hj => ?_⟩, .inl rfl, .inl rfl, .inl rfl⟩
  match i, hi with
  | 0, hi =>
    obtain rfl : [Value.int .i64 1] = ys := by simpa [ints, cR] using hi
    rw [hb.cell (by exact Nat.lt_succ_self _), World.cell?_alloc_new]
    match j, hj with
    | 0, hj => simpa using hj
theorem no_clauses (w : World) (B : Nat) : ALies w B none [] := ⟨.inl rfl, fun z hz => (List.not_mem_nil hz).elim, by decide⟩
theorem one_text (w : World) (s : ByteArray) (hs : s.size ≤ 9223372036854775807) : SLies (w.alloc (.cells #[.string s] 9)) (w.heap.size + 1) (some ⟨w.heap.size, 0, none⟩) [s] := by
  refine ⟨.inr ⟨_, 0, rfl, Nat.lt_succ_self _, fun i ys hi j u hj => ?_⟩, fun y hy => by rw [List.mem_singleton.1 hy]; exact hs, by rw [List.length_singleton]; decide⟩
  match i, hi with
  | 0, hi =>
    obtain rfl : [Value.string s] = ys := by simpa [strs] using hi
    match j, hj with
    | 0, hj =>
      obtain rfl : Value.string s = u := by simpa using hj
      rw [World.cell?_alloc_new]; rfl
set_option maxHeartbeats 16000000 in
set_option maxRecDepth 100000 in
theorem alive_any (P : Prog9) (w : World) : Calls Try.prog 37 #[] w fun e w' => e = .returned (.bool true) ∧ Below w.heap.size w w' := by
  obtain ⟨W0, hW0⟩ : ∃ x, w.alloc (.cells #[.int .i64 1] 3) = x := ⟨_, rfl⟩
  have b0 : Below w.heap.size w W0 := by rw [← hW0]; exact (Below.refl _ _).alloc (Nat.le_refl _) _
  have s0 : W0.heap.size = w.heap.size + 1 := by rw [← hW0]; simp
  have LL : Hid (∀ x, Below (w.heap.size + 1) W0 x → CLies x x.heap.size cR (sR w.heap.size)) := fun x hx => (cR_lies w x (by rw [hW0]; exact hx)).more (by have := hx.size; omega)
  obtain ⟨W1, hW1⟩ : ∃ x, W0.alloc (.cells #[.int .i64 0, .slice none 0 0, .slice none 0 0, .slice none 0 0, .slice none 0 0, .slice none 0 0, .slice none 0 0, .slice none 0 0] 27) = x := ⟨_, rfl⟩
  have b1 : Below W0.heap.size W0 W1 := by rw [← hW1]; exact (Below.refl _ _).alloc (Nat.le_refl _) _
  have g1 : W1.heap[W0.heap.size]? = some (.cells #[.int .i64 0, .slice none 0 0, .slice none 0 0, .slice none 0 0, .slice none 0 0, .slice none 0 0, .slice none 0 0, .slice none 0 0] 27 (0, 0)) := by rw [← hW1]; exact Array.getElem?_push_size
  obtain ⟨r1, r2, r3, r4, r5, r6, r7, Xr, rv0, rv1, rv2, rv3, rv4, rv5, rv6, rv7, ⟨rh1, ra0, rb0⟩, ⟨rh2, ra1, rb1⟩, ⟨rh3, ra2, rb2⟩, ⟨rh4, ra3, rb3⟩, ⟨rh5, ra4, rb4⟩, ⟨rh6, ra5, rb5⟩, ⟨rh7, ra6, rb6⟩, ⟨rh8, ra7, rb7⟩, E8r, FCr⟩ := Cw.store8 g1 rfl (.int .i64 0) (.slice none 0 0) (.slice none 0 0) (.slice none 0 0) (.slice (some ⟨w.heap.size, 0, none⟩) 1 1) (.slice none 0 0) (.slice none 0 0) (.slice none 0 0)
  rw [s0] at rh1 ra0 rb0 rh2 ra1 rb1 rh3 ra2 rb2 rh4 ra3 rb3 rh5 ra4 rb4 rh6 ra5 rb5 rh7 ra6 rb6 rh8 ra7 rb7 E8r FCr b1
  have bX : Hid (Below (w.heap.size + 1) W0 Xr) := FCr.below b1 (Nat.le_refl _)
  have BX : Hid (Below w.heap.size w Xr) := b0.trans (bX.out.mono (by omega))
  have GX : Hid (Xr.heap[w.heap.size + 1]? = some (.cells (cirC cR (sR w.heap.size)) 27 (0, 0))) := E8r
  obtain ⟨X2, hX2⟩ : ∃ x, Xr.alloc (.cells #[.string ⟨#[]⟩] 9) = x := ⟨_, rfl⟩
  have bX2 : Below Xr.heap.size Xr X2 := by rw [← hX2]; exact (Below.refl _ _).alloc (Nat.le_refl _) _
  have BX2 : Hid (Below Xr.heap.size Xr X2) := bX2
  have GX2 : Hid (∀ x, Below Xr.heap.size Xr x → x.heap[w.heap.size + 1]? = some (.cells (cirC cR (sR w.heap.size)) 27 (0, 0))) := fun x hx => (hx.block _ (lt_of_block GX.out)).trans GX.out
  have s2 : X2.heap.size = Xr.heap.size + 1 := by rw [← hX2]; simp
  have LX : Hid (∀ x, Below Xr.heap.size Xr x → CLies x x.heap.size cR (sR w.heap.size)) := fun x hx => LL.out _ (bX.out.trans (hx.mono (by have := bX.out.size; omega)))
  have C1 := Lib.hid (P.check cR (sR w.heap.size) [] none 0 ⟨0, ⟨#[]⟩, [⟨#[]⟩]⟩ (some ⟨Xr.heap.size, 0, none⟩) 1 X2 (LX.out _ bX2) (cR_fits _) (by decide) (by unfold I64; decide) (no_clauses _ _) ((by have h := one_text Xr ⟨#[]⟩ (by decide); rw [hX2] at h; exact h : SLies X2 (Xr.heap.size + 1) _ _).more (by omega)))
  have C2 := Lib.hid (fun x hx => P.check cR (sR w.heap.size) [] none 0 ⟨0, ⟨#[]⟩, []⟩ none 0 x (LX.out x hx) (cR_fits _) (by decide) (by unfold I64; decide) (no_clauses _ _) ⟨.inl rfl, fun z hz => (List.not_mem_nil hz).elim, by decide⟩)
  rw [show ([] : List Clz).map Clz.l = [] from rfl] at C1 C2
  rw [cR_ok] at C1
  rw [cR_short] at C2
  have hcv : cirV cR (sR w.heap.size) = .agg #[.int .i64 0, .slice none 0 0, .slice none 0 0, .slice none 0 0, .slice (some ⟨w.heap.size, 0, none⟩) 1 1, .slice none 0 0, .slice none 0 0, .slice none 0 0] := rfl
  rw [hcv] at C1 C2
  unfold witV at C1 C2
  simp only [List.length_nil, List.length_cons] at C1 C2
  obtain ⟨e0, e1, e2, e3, e4, e5, e6, e7⟩ := cells8 GX.out
  simp only [cR, sR, List.length_nil, List.length_cons] at e0 e1 e2 e3 e4 e5 e6 e7
  clear hcv E8r FCr g1 b1 b0 bX2 s2
  go_enter Try.func37, Try.ntmps37
  go_wp2_with fail
  clear hW0 hW1 hX2 rh1 ra0 rb0 rh2 ra1 rb1 rh3 ra2 rb2 rh4 ra3 rb3 rh5 ra4 rb4 rh6 ra5 rb5 rh7 ra6 rb6 rh8 ra7 rb7
  refine C1.out.mono ?_
  rintro e w1 ⟨rfl, hb⟩
  have B1 : Hid (Below Xr.heap.size Xr w1) := BX2.out.trans (hb.mono BX2.out.size)
  clear e0 e1 e2 e3 e4 e5 e6 e7 C1 hb
  obtain ⟨e0, e1, e2, e3, e4, e5, e6, e7⟩ := cells8 (GX2.out _ B1.out)
  simp only [cR, sR, List.length_nil, List.length_cons] at e0 e1 e2 e3 e4 e5 e6 e7
  go_wp2_with (go_at_call 34; refine (num_any _ _).mono ?_; rintro e w' ⟨rfl, rfl⟩)
  refine (C2.out w1 B1.out).mono ?_
  rintro e w2 ⟨rfl, hb⟩
  have BF : Hid (Below w.heap.size w w2) := BX.out.trans ((B1.out.trans (hb.mono B1.out.size)).mono BX.out.size)
  clear hb C2
  go_wp2
  go_ret
  exact ⟨rfl, BF.out⟩
end Go.Proofs.Ytfglgapocmnfpaa.Rep
namespace Go.Proofs.Ytfglgapocmnfpaa.Rep
open Go.ChangeShapes Go.WideShapes Go.ChangeAt Go.RowKit Go.Maps Circ Cw
open Str Sim

set_option maxHeartbeats 16000000 in
set_option maxRecDepth 100000 in
theorem tells_walk (P : Prog9) (c : Cir) (s : Places) (L : List Clz) (A : Option Addr) (q : Nat) (x : Wit) (AI : Option Addr) (qi : Nat) (vs : ByteArray) (w : World) (h : CLies w w.heap.size c s) (hf : CFits c s) (hz : x.state.size ≤ 9223372036854775807) (hbd : I64 x.bad) (hA : ALies w w.heap.size A L) (hS : SLies w w.heap.size AI x.inputs) (hzv : vs.size ≤ 9223372036854775807) :
    Calls Try.prog 9 #[cirV c s, .slice A L.length q, witV x AI qi, .string vs] w fun e w' => e = .returned (.bool true) ∧ Below w.heap.size w w' := by
  obtain ⟨WA, hWA⟩ : ∃ x, w.alloc (.cells #[.int .i64 c.max, .slice s.ai c.ins.length s.ki, .slice s.al c.lats.length s.kl, .slice s.ao c.outs.length s.ko, .slice s.ab c.bads.length s.kb, .slice s.ac c.invs.length s.kc, .slice s.aa c.ands.length s.ka, .slice s.an c.names.length s.kn] 27) = x := ⟨_, rfl⟩
  have bA : Below w.heap.size w WA := by rw [← hWA]; exact (Below.refl _ _).alloc (Nat.le_refl _) _
  have gA : WA.heap[w.heap.size]? = some (.cells (cirC c s) 27 (0, 0)) := by rw [← hWA]; exact Array.getElem?_push_size
  obtain ⟨WB, hWB⟩ : ∃ y, WA.alloc (.cells #[.int .i64 x.bad, .string x.state, .slice AI x.inputs.length qi] 61) = y := ⟨_, rfl⟩
  have bB : Below WA.heap.size WA WB := by rw [← hWB]; exact (Below.refl _ _).alloc (Nat.le_refl _) _
  have gB : WB.heap[WA.heap.size]? = some (.cells #[.int .i64 x.bad, .string x.state, .slice AI x.inputs.length qi] 61 (0, 0)) := by rw [← hWB]; exact Array.getElem?_push_size
  have BB : Hid (Below w.heap.size w WB) := bA.trans (bB.mono bA.size)
  have GC : Hid (∀ y, Below WB.heap.size WB y → y.heap[w.heap.size]? = some (.cells (cirC c s) 27 (0, 0))) := fun y hy => by
    have h1 := (bB.block _ (lt_of_block gA)).trans gA
    exact (hy.block _ (lt_of_block h1)).trans h1
  have GT : Hid (∀ y, Below WB.heap.size WB y → y.heap[WA.heap.size]? = some (.cells #[.int .i64 x.bad, .string x.state, .slice AI x.inputs.length qi] 61 (0, 0))) := fun y hy => (hy.block _ (lt_of_block gB)).trans gB
  have LW : Hid (∀ y, Below WB.heap.size WB y → CLies y y.heap.size c s) := fun y hy => by
    have hb := BB.out.trans (hy.mono BB.out.size)
    exact (h.below hb).more hb.size
  have AW : Hid (∀ y, Below WB.heap.size WB y → ALies y y.heap.size A L) := fun y hy => by
    have hb := BB.out.trans (hy.mono BB.out.size)
    exact (hA.below hb).more hb.size
  have SW : Hid (∀ y, Below WB.heap.size WB y → SLies y y.heap.size AI x.inputs) := fun y hy => by
    have hb := BB.out.trans (hy.mono BB.out.size)
    exact (hS.below hb).more hb.size
  clear bA gA bB gB
  have CH := Lib.hid (fun y hy => P.check c s L A q x AI qi y (LW.out y hy) hf hz hbd (AW.out y hy) (SW.out y hy))
  have PA := Lib.hid (fun y hy => refpath_any c s L A q x AI qi y (LW.out y hy) hf hz (AW.out y hy) (SW.out y hy))
  have AA := Lib.hid (fun y hy (hb : bitsM vs (vs.size : Int) = true) => P.allowed c s L A q vs y (LW.out y hy) hf hzv hb (AW.out y hy))
  have AR := Lib.hid (fun y hy => refallowed_any c s L A q vs y (LW.out y hy) hf hzv (by have := hf.lc; omega) (AW.out y hy))
  have BV := Lib.hid (fun y => refbits_any vs (vs.size : Int) y hzv)
  have AL := Lib.hid (fun y => alive_any P y)
  obtain ⟨e0, e1, e2, e3, e4, e5, e6, e7⟩ := cells8 (GC.out WB (Below.refl _ _))
  obtain ⟨t0, t1, t2⟩ := two_cells (GT.out WB (Below.refl _ _))
  unfold witV at CH PA ⊢
  generalize pathE c (L.map Clz.l) x = pe at *
  generalize allowedM c (L.map Clz.l) vs.data.toList = ya at *
  clear h hf hz hbd hA hS hzv
  unfold cirV at CH PA AA AR ⊢
  rw [show cirC c s = #[.int .i64 c.max, .slice s.ai c.ins.length s.ki, .slice s.al c.lats.length s.kl, .slice s.ao c.outs.length s.ko, .slice s.ab c.bads.length s.kb, .slice s.ac c.invs.length s.kc, .slice s.aa c.ands.length s.ka, .slice s.an c.names.length s.kn] from rfl] at CH PA AA AR ⊢
  go_enter Try.func9, Try.ntmps9
  have K1 := Lib.hid (fun (u : Wd WB.heap.size WB) => Calls.in_wd u (CH.out u.w u.ok) (Nat.le_refl _))
  have K2 := Lib.hid (fun (u : Wd WB.heap.size WB) => Calls.in_wd u (PA.out u.w u.ok) (Nat.le_refl _))
  have K3 := Lib.hid (fun (u : Wd WB.heap.size WB) => Calls.in_wd u ((num_any pe u.w).mono fun e w' ⟨h1, h2⟩ => ⟨h1, h2 ▸ Below.refl _ _⟩) (Nat.le_refl _))
  have K4 := Lib.hid (fun (u : Wd WB.heap.size WB) => Calls.in_wd u (AL.out u.w) (Nat.le_refl _))
  clear CH PA AL
  go_wp2
  have u0 := Wd.cell e0
  have u1 := Wd.cell e1
  have u2 := Wd.cell e2
  have u3 := Wd.cell e3
  have u4 := Wd.cell e4
  have u5 := Wd.cell e5
  have u6 := Wd.cell e6
  have u7 := Wd.cell e7
  have ut0 := Wd.cell t0
  have ut1 := Wd.cell t1
  have ut2 := Wd.cell t2
  refine wp_region_wd (by kernel_rfl) (by kernel_rfl) ?_
  repeat (first | go_big_quiet_skip | (go_big_quiet_want; go_big_quiet_op; first | go_big_quiet_on | (apply Exists.intro; refine ⟨fun u => ?_, ?_⟩; (first | (go_at_call 35; with_reducible exact K1.out u) | (go_at_call 36; with_reducible exact K2.out u) | (go_at_call 34; with_reducible exact K3.out u) | (go_at_call 37; with_reducible exact K4.out u)); go_big_quiet_on)))
  refine wpQuiet_nil ?_
  intro wz9 hw'
  obtain ⟨⟨_, hb9⟩, hw''⟩ := hw'
  subst hw''
  have B1 : Hid (Below WB.heap.size WB wz9) := hb9
  obtain ⟨w1, rfl⟩ : ∃ z, z = wz9 := ⟨_, rfl⟩
  clear K1 K2 K3 K4 hb9 hWA hWB
  clear u0 u1 u2 u3 u4 u5 u6 u7 ut0 ut1 ut2 e0 e1 e2 e3 e4 e5 e6 e7 t0 t1 t2
  cases hq : bitsM vs (vs.size : Int) with
  | false =>
    rw [hq] at BV
    have K5 := Lib.hid (fun (u : Wd w1.heap.size w1) => Calls.in_wd u ((BV.out u.w).mono fun e w' ⟨h1, h2⟩ => ⟨h1, h2 ▸ Below.refl _ _⟩) (Nat.le_refl _))
    clear hq BV
    obtain ⟨e0, e1, e2, e3, e4, e5, e6, e7⟩ := cells8 (GC.out _ B1.out)
    obtain ⟨t0, t1, t2⟩ := two_cells (GT.out _ B1.out)
    go_wp2
    have u0 := Wd.cell e0
    have u1 := Wd.cell e1
    have u2 := Wd.cell e2
    have u3 := Wd.cell e3
    have u4 := Wd.cell e4
    have u5 := Wd.cell e5
    have u6 := Wd.cell e6
    have u7 := Wd.cell e7
    have ut0 := Wd.cell t0
    have ut1 := Wd.cell t1
    have ut2 := Wd.cell t2
    refine wp_region_wd (by kernel_rfl) (by kernel_rfl) ?_
    repeat (first | go_big_quiet_skip | (go_big_quiet_want; go_big_quiet_op; first | go_big_quiet_on | (apply Exists.intro; refine ⟨fun u => ?_, ?_⟩; (first | (go_at_call 27; with_reducible exact K5.out u)); go_big_quiet_on)))
    refine wpQuiet_nil ?_
    intro wz9 hw'
    obtain ⟨⟨_, hb9⟩, hw''⟩ := hw'
    subst hw''
    have BF : Hid (Below w.heap.size w wz9) := BB.out.trans ((B1.out.trans (hb9.mono B1.out.size)).mono BB.out.size)
    clear hb9 K5
    clear u0 u1 u2 u3 u4 u5 u6 u7 ut0 ut1 ut2 e0 e1 e2 e3 e4 e5 e6 e7 t0 t1 t2
    go_wp2
    go_ret
    exact ⟨rfl, BF.out⟩
  | true =>
    have HQ := Lib.hid hq
    rw [hq] at BV
    have K5 := Lib.hid (fun (u : Wd w1.heap.size w1) => Calls.in_wd u ((BV.out u.w).mono fun e w' ⟨h1, h2⟩ => ⟨h1, h2 ▸ Below.refl _ _⟩) (Nat.le_refl _))
    have K6 := Lib.hid (fun (u : Wd w1.heap.size w1) => Calls.in_wd u (AA.out u.w (B1.out.trans (u.ok.mono B1.out.size)) HQ.out) (Nat.le_refl _))
    have K7 := Lib.hid (fun (u : Wd w1.heap.size w1) => Calls.in_wd u (AR.out u.w (B1.out.trans (u.ok.mono B1.out.size))) (Nat.le_refl _))
    clear hq BV AA AR
    obtain ⟨e0, e1, e2, e3, e4, e5, e6, e7⟩ := cells8 (GC.out _ B1.out)
    obtain ⟨t0, t1, t2⟩ := two_cells (GT.out _ B1.out)
    go_wp2
    have u0 := Wd.cell e0
    have u1 := Wd.cell e1
    have u2 := Wd.cell e2
    have u3 := Wd.cell e3
    have u4 := Wd.cell e4
    have u5 := Wd.cell e5
    have u6 := Wd.cell e6
    have u7 := Wd.cell e7
    have ut0 := Wd.cell t0
    have ut1 := Wd.cell t1
    have ut2 := Wd.cell t2
    refine wp_region_wd (by kernel_rfl) (by kernel_rfl) ?_
    repeat (first | go_big_quiet_skip | (go_big_quiet_want; go_big_quiet_op; first | go_big_quiet_on | (apply Exists.intro; refine ⟨fun u => ?_, ?_⟩; (first | (go_at_call 27; with_reducible exact K5.out u) | (go_at_call 38; with_reducible exact K6.out u) | (go_at_call 39; with_reducible exact K7.out u)); go_big_quiet_on)))
    refine wpQuiet_nil ?_
    intro wz9 hw'
    obtain ⟨⟨_, hb9⟩, hw''⟩ := hw'
    subst hw''
    have BF : Hid (Below w.heap.size w wz9) := BB.out.trans ((B1.out.trans (hb9.mono B1.out.size)).mono BB.out.size)
    clear hb9 K5 K6 K7
    clear u0 u1 u2 u3 u4 u5 u6 u7 ut0 ut1 ut2 e0 e1 e2 e3 e4 e5 e6 e7 t0 t1 t2
    go_wp2
    go_ret
    exact ⟨by simp, BF.out⟩
set_option maxRecDepth 100000 in
theorem tells_core (P : Prog9) {H : Type} {enc : TypeId × Value → H} (W : World) (v : Value) (d : DataW H) (p : List MemPlace) {r : Reach} {b0 : Nat} (hv : Value.okWide Try.prog W r b0 27 v) (h : DataW.Trod enc Try.prog W 0 (fun _ => true) true 27 v d p)
    (v1 : Value) (d1 : DataW H) (p1 : List MemPlace) {r1 : Reach} {b1 : Nat} (hv1 : Value.okWide Try.prog W r1 b1 58 v1) (h1 : DataW.Trod enc Try.prog W 0 (fun _ => true) true 58 v1 d1 p1)
    (v2 : Value) (d2 : DataW H) (p2 : List MemPlace) {r2 : Reach} {b2 : Nat} (hv2 : Value.okWide Try.prog W r2 b2 61 v2) (h2 : DataW.Trod enc Try.prog W 0 (fun _ => true) true 61 v2 d2 p2)
    (vs : ByteArray) (hvs : vs.size ≤ maxLen) {e3 : DataW H} {t3 : TypeId} {ts : List TypeId} {ds : List (DataW H)} (hsz : (DataW.weightsEach Try.prog (27 :: 58 :: 61 :: t3 :: ts) (d :: d1 :: d2 :: e3 :: ds)).all (· ≤ reachBytes) = true) :
    Calls Try.prog 9 #[v, v1, v2, .string vs] W fun e W' => e = .returned (.bool true) ∧ Below W.heap.size W W' := by
  obtain ⟨c, s, rfl, hl, hf⟩ := open_circ hv h (all_weights hsz 0 rfl rfl)
  obtain ⟨A1, L, q1, rfl, a1, _⟩ := open_clauses hv1 h1 (all_weights hsz 1 rfl rfl)
  obtain ⟨x, A2, q2, rfl, a2, z2, i2, _⟩ := open_wit hv2 h2 (all_weights hsz 2 rfl rfl)
  unfold maxLen at hvs
  exact tells_walk P c s L A1 q1 x A2 q2 vs W hl hf z2 i2 a1 a2 hvs
end Go.Proofs.Ytfglgapocmnfpaa.Rep
namespace Go.Proofs.Ytfglgapocmnfpaa.Rep
open Go.ChangeShapes Go.WideShapes Go.ChangeAt Go.RowKit Go.Maps Circ Cw
open Str Sim

set_option maxHeartbeats 16000000 in
set_option maxRecDepth 100000 in
theorem prefix_walk (P : Prog9) (c : Cir) (s : Places) (L : List Clz) (A : Option Addr) (q : Nat) (x : Wit) (AI : Option Addr) (qi : Nat) (w : World) (h : CLies w w.heap.size c s) (hf : CFits c s) (hz : x.state.size ≤ 9223372036854775807) (hbd : I64 x.bad) (hA : ALies w w.heap.size A L) (hS : SLies w w.heap.size AI x.inputs) (hSb : x.inputs.length * 16 ≤ 140737488355328) :
    Calls Try.prog 11 #[cirV c s, .slice A L.length q, witV x AI qi] w fun e w' => e = .returned (.bool true) ∧ Below w.heap.size w w' := by
  obtain ⟨WA, hWA⟩ : ∃ x, w.alloc (.cells #[.int .i64 c.max, .slice s.ai c.ins.length s.ki, .slice s.al c.lats.length s.kl, .slice s.ao c.outs.length s.ko, .slice s.ab c.bads.length s.kb, .slice s.ac c.invs.length s.kc, .slice s.aa c.ands.length s.ka, .slice s.an c.names.length s.kn] 27) = x := ⟨_, rfl⟩
  have bA : Below w.heap.size w WA := by rw [← hWA]; exact (Below.refl _ _).alloc (Nat.le_refl _) _
  have gA : WA.heap[w.heap.size]? = some (.cells (cirC c s) 27 (0, 0)) := by rw [← hWA]; exact Array.getElem?_push_size
  obtain ⟨WB, hWB⟩ : ∃ y, WA.alloc (.cells #[.int .i64 x.bad, .string x.state, .slice AI x.inputs.length qi] 61) = y := ⟨_, rfl⟩
  have bB : Below WA.heap.size WA WB := by rw [← hWB]; exact (Below.refl _ _).alloc (Nat.le_refl _) _
  have gB : WB.heap[WA.heap.size]? = some (.cells #[.int .i64 x.bad, .string x.state, .slice AI x.inputs.length qi] 61 (0, 0)) := by rw [← hWB]; exact Array.getElem?_push_size
  have BB : Hid (Below w.heap.size w WB) := bA.trans (bB.mono bA.size)
  have GC : Hid (∀ y, Below WB.heap.size WB y → y.heap[w.heap.size]? = some (.cells (cirC c s) 27 (0, 0))) := fun y hy => by
    have h1 := (bB.block _ (lt_of_block gA)).trans gA
    exact (hy.block _ (lt_of_block h1)).trans h1
  have GT : Hid (∀ y, Below WB.heap.size WB y → y.heap[WA.heap.size]? = some (.cells #[.int .i64 x.bad, .string x.state, .slice AI x.inputs.length qi] 61 (0, 0))) := fun y hy => (hy.block _ (lt_of_block gB)).trans gB
  have LW : Hid (∀ y, Below WB.heap.size WB y → CLies y y.heap.size c s) := fun y hy => by
    have hb := BB.out.trans (hy.mono BB.out.size)
    exact (h.below hb).more hb.size
  have AW : Hid (∀ y, Below WB.heap.size WB y → ALies y y.heap.size A L) := fun y hy => by
    have hb := BB.out.trans (hy.mono BB.out.size)
    exact (hA.below hb).more hb.size
  have SW : Hid (∀ y, Below WB.heap.size WB y → SLies y y.heap.size AI x.inputs) := fun y hy => by
    have hb := BB.out.trans (hy.mono BB.out.size)
    exact (hS.below hb).more hb.size
  clear bA gA bB gB
  have CH := Lib.hid (fun y hy => P.check c s L A q x AI qi y (LW.out y hy) hf hz hbd (AW.out y hy) (SW.out y hy))
  have AL := Lib.hid (alive_any P WB)
  obtain ⟨e0, e1, e2, e3, e4, e5, e6, e7⟩ := cells8 (GC.out WB (Below.refl _ _))
  obtain ⟨t0, t1, t2⟩ := two_cells (GT.out WB (Below.refl _ _))
  by_cases hp : pathE c (L.map Clz.l) x = 0
  · obtain ⟨hok, hb0, hb1, hne, hsb, hib, him, hst⟩ := path_ok.1 hp
    rw [hp] at CH
    have HIB : Hid (∀ i ∈ x.inputs, bitsM i (c.ins.length : Int) = true) := fun i hi => List.all_eq_true.1 hib i hi
    have STS := Lib.hid (fun y hy => P.states c s x.state x.inputs AI qi y (LW.out y hy) hf hok hsb HIB.out (SW.out y hy) hSb)
    have IN := Lib.hid (fun y hy => refinitial_any c s x.state y (LW.out y hy) hz)
    rw [him] at IN
    have HOK := Lib.hid hok
    have HF := Lib.hid hf
    have HZ := Lib.hid (ref_sizes hok)
    have HAT := Lib.hid (fun k hk => steps_at x.inputs x.state hst k hk)
    have HSB := Lib.hid (states_bits c x.inputs x.state hsb)
    have HSZ := Lib.hid (states_zero c x.state x.inputs)
    have HSL := Lib.hid (states_len c x.inputs x.state)
    have HIS : Hid (∀ s ∈ x.inputs, s.size ≤ 9223372036854775807) := hS.each
    have HLB := Lib.hid hSb
    have PAL := Lib.hid (fun v y hy hv hb => P.allowed c s L A q v y (LW.out y hy) HF.out hv hb (AW.out y hy))
    obtain ⟨bad, st, ins⟩ := x
    simp only at *
    obtain ⟨bn, hbn⟩ : ∃ n : Nat, bad = n := ⟨bad.toNat, by omega⟩
    subst hbn
    have HBN : Hid (bn < c.bads.length) := by unfold Hid; omega
    unfold witV at CH ⊢
    simp only at CH ⊢
    clear h hf hz hbd hA hS hp hok hb0 hb1 hne hsb hib him hst hSb
    unfold cirV at CH STS IN PAL ⊢
    rw [show cirC c s = #[.int .i64 c.max, .slice s.ai c.ins.length s.ki, .slice s.al c.lats.length s.kl, .slice s.ao c.outs.length s.ko, .slice s.ab c.bads.length s.kb, .slice s.ac c.invs.length s.kc, .slice s.aa c.ands.length s.ka, .slice s.an c.names.length s.kn] from rfl] at CH STS IN PAL ⊢
    go_enter Try.func11, Try.ntmps11
    go_wp2_with fail
    refine AL.out.mono ?_
    rintro e w1 ⟨rfl, hb⟩
    have B1 : Hid (Below WB.heap.size WB w1) := hb
    clear e0 e1 e2 e3 e4 e5 e6 e7 t0 t1 t2 hWA hWB AL hb
    obtain ⟨e0, e1, e2, e3, e4, e5, e6, e7⟩ := cells8 (GC.out _ B1.out)
    obtain ⟨t0, t1, t2⟩ := two_cells (GT.out _ B1.out)
    go_wp2_with fail
    refine (CH.out w1 B1.out).mono ?_
    rintro e w2 ⟨rfl, hb⟩
    have B2 : Hid (Below WB.heap.size WB w2) := B1.out.trans (hb.mono B1.out.size)
    clear hb CH
    clear e0 e1 e2 e3 e4 e5 e6 e7 t0 t1 t2
    obtain ⟨e0, e1, e2, e3, e4, e5, e6, e7⟩ := cells8 (GC.out _ B2.out)
    obtain ⟨t0, t1, t2⟩ := two_cells (GT.out _ B2.out)
    go_wp2_with fail
    refine (STS.out w2 B2.out).mono ?_
    rintro e w3 ⟨⟨A3, q3, rfl, hsl⟩, hb⟩
    have B3 : Hid (Below WB.heap.size WB w3) := B2.out.trans (hb.mono B2.out.size)
    have S3 := Lib.hid hsl
    clear hb STS hsl
    clear e0 e1 e2 e3 e4 e5 e6 e7 t0 t1 t2
    have SL3 : Hid (∀ y, Below w3.heap.size w3 y → SLies y y.heap.size A3 (statesL c st ins)) := fun y hy => (S3.out.below hy).more hy.size
    have hl0 : 0 < (statesL c st ins).length := by rw [HSL.out]; omega
    obtain ⟨b9, o9, hA9, -, hc9⟩ := S3.out.at hl0
    have hg0 : (statesL c st ins)[0] = st := by
      have := HSZ.out
      rw [List.getElem?_eq_getElem hl0] at this
      exact Option.some.inj this
    rw [hg0, Nat.add_zero] at hc9
    subst hA9
    have K1 := Lib.hid (fun (u : Wd w3.heap.size w3) => Calls.in_wd u (IN.out u.w (B3.out.trans (u.ok.mono B3.out.size))) (Nat.le_refl _))
    have hil : ins.length ≤ 9223372036854775806 := by have := HLB.out; omega
    have hcc := hc9
    obtain ⟨e0, e1, e2, e3, e4, e5, e6, e7⟩ := cells8 (GC.out _ B3.out)
    obtain ⟨t0, t1, t2⟩ := two_cells (GT.out _ B3.out)
    clear IN hl0 hg0
    go_wp2
    have u0 := Wd.cell e0
    have u1 := Wd.cell e1
    have u2 := Wd.cell e2
    have u3 := Wd.cell e3
    have u4 := Wd.cell e4
    have u5 := Wd.cell e5
    have u6 := Wd.cell e6
    have u7 := Wd.cell e7
    have ut0 := Wd.cell t0
    have ut1 := Wd.cell t1
    have ut2 := Wd.cell t2
    have uq := Wd.cell hcc
    refine wp_region_wd (by kernel_rfl) (by kernel_rfl) ?_
    repeat (first | go_big_quiet_skip | (go_big_quiet_want; go_big_quiet_op; first | go_big_quiet_on | (apply Exists.intro; refine ⟨fun u => ?_, ?_⟩; (first | (go_at_call 41; with_reducible exact K1.out u)); go_big_quiet_on)))
    refine wpQuiet_nil ?_
    intro wz9 hw'
    obtain ⟨⟨_, hb9⟩, hw''⟩ := hw'
    subst hw''
    have B4 : Hid (Below WB.heap.size WB wz9) := B3.out.trans (hb9.mono B3.out.size)
    have SL4 : Hid (∀ y, Below wz9.heap.size wz9 y → SLies y y.heap.size (some ⟨b9, o9, none⟩) (statesL c st ins)) := fun y hy => SL3.out y (hb9.trans (hy.mono hb9.size))
    clear hb9 K1 hcc hc9 uq SL3 S3
    clear u0 u1 u2 u3 u4 u5 u6 u7 ut0 ut1 ut2 e0 e1 e2 e3 e4 e5 e6 e7 t0 t1 t2
    go_wp2
    go_loopw [9] (fun i wr => ∃ k : Nat, k ≤ ins.length ∧ i = .int .i64 k ∧ Below wz9.heap.size wz9 wr) (fun i _ => ins.length - (intOf i).toNat)
    case atStart => exact ⟨0, Nat.zero_le _, rfl, Below.refl _ _⟩
    case round =>
      obtain ⟨k, hk, rfl, hbw⟩ := hrel
      have HB : Hid (Below WB.heap.size WB wr) := B4.out.trans (hbw.mono B4.out.size)
      have HBZ := Lib.hid hbw
      clear hbw
      have BF : Hid (Below w.heap.size w wr) := BB.out.trans (HB.out.mono BB.out.size)
      obtain ⟨e0, e1, e2, e3, e4, e5, e6, e7⟩ := cells8 (GC.out _ HB.out)
      obtain ⟨t0, t1, t2⟩ := two_cells (GT.out _ HB.out)
      by_cases hlt : k < ins.length
      · obtain ⟨t9, ht9, hsm⟩ := HAT.out k hlt
        have hkl : k < (statesL c st ins).length := by rw [HSL.out]; omega
        have hg9 : (statesL c st ins)[k] = t9 := by
          rw [List.getElem?_eq_getElem hkl] at ht9
          exact Option.some.inj ht9
        obtain ⟨b, o, hA2, -, hc⟩ := (SL4.out wr HBZ.out).at hkl
        injection hA2 with hA2
        injection hA2 with hA2 hA3 _
        subst hA2 hA3
        rw [hg9] at hc
        obtain ⟨bi, oi, hAI, -, hci⟩ := (SW.out wr HB.out).at hlt
        rw [hAI] at t2
        have htb := HSB.out t9 (by rw [← hg9]; exact List.getElem_mem hkl)
        have hib := HIB.out _ (List.getElem_mem hlt)
        have hiz := HIS.out _ (List.getElem_mem hlt)
        have htz : t9.size ≤ 9223372036854775807 := by have := (bits_parts htb).1; have := HZ.out.2.1; omega
        have hve : vErr c t9 ins[k] = 0 := err_ok HOK.out (by unfold okB; rw [htb, hib]; rfl)
        have VV := Lib.hid (fun y hy => refvalues_any c s t9 ins[k] y (LW.out y hy) HF.out htz hiz)
        rw [str_ok hve, hve] at VV
        have hvl : (valsM c t9 ins[k]).length ≤ 1048576 := by
          obtain ⟨m, hm, hm1⟩ := max_nat HOK.out
          rw [vals_len, hm]; simp; omega
        have hvb : bitsM (sb (valsM c t9 ins[k])) ((sb (valsM c t9 ins[k])).size : Int) = true := by
          unfold bitsM
          rw [decide_eq_true rfl, Bool.true_and, sb_list, List.all_eq_true]
          intro y hy
          rcases vals_bits htb hib y hy with e | e <;> rw [e] <;> rfl
        have AV := Lib.hid (fun y hy => PAL.out (sb (valsM c t9 ins[k])) y hy (by rw [sb_size]; omega) hvb)
        rw [sb_list] at AV
        have TV := Lib.hid (fun y => reftrue_any (sb (valsM c t9 ins[k])) (c.bads[bn]'HBN.out) y (by rw [sb_size]; omega) (HF.out.bads _ (List.getElem_mem HBN.out)).2)
        rw [sb_list] at TV
        have hsm2 : (allowedM c (L.map Clz.l) (valsM c t9 ins[k]) && (!decide (k + 1 = ins.length) || trueM (valsM c t9 ins[k]) (c.bads[bn]'HBN.out))) = true := by
          unfold stepM at hsm
          rw [Int.toNat_natCast, List.getD_eq_getElem?_getD, List.getElem?_eq_getElem HBN.out] at hsm
          exact hsm
        rw [Bool.and_eq_true] at hsm2
        rw [hsm2.1] at AV
        have HLAST : Hid (k + 1 = ins.length → trueM (valsM c t9 ins[k]) (c.bads[bn]'HBN.out) = true) := fun e => by
          have := hsm2.2
          rw [decide_eq_true e] at this
          exact this
        have hkz : (k : Int) < (ins.length : Int) := by omega
        have hk0 : (0 : Int) ≤ (k : Int) := by omega
        have hkn : (k : Int) < (ins.length : Int) + 1 := by omega
        clear hsm hsm2 hvb hvl hve htz hiz hib htb hg9 hkl ht9 hAI
        unfold sv at VV
        rw [show (⟨(valsM c t9 ins[k]).toArray⟩ : ByteArray) = sb (valsM c t9 ins[k]) from rfl] at VV
        generalize valsM c t9 ins[k] = v at *
        generalize sb v = sv9 at *
        generalize ins[k] = y9 at *
        unfold cirV at VV
        rw [show cirC c s = #[.int .i64 c.max, .slice s.ai c.ins.length s.ki, .slice s.al c.lats.length s.kl, .slice s.ao c.outs.length s.ko, .slice s.ab c.bads.length s.kb, .slice s.ac c.invs.length s.kc, .slice s.aa c.ands.length s.ka, .slice s.an c.names.length s.kn] from rfl] at VV
        have K1 := Lib.hid (fun (u : Wd wr.heap.size wr) => Calls.in_wd u (VV.out u.w (HB.out.trans (u.ok.mono HB.out.size))) (Nat.le_refl _))
        clear VV
        go_wp2
        have u0 := Wd.cell e0
        have u1 := Wd.cell e1
        have u2 := Wd.cell e2
        have u3 := Wd.cell e3
        have u4 := Wd.cell e4
        have u5 := Wd.cell e5
        have u6 := Wd.cell e6
        have u7 := Wd.cell e7
        have ut0 := Wd.cell t0
        have ut1 := Wd.cell t1
        have ut2 := Wd.cell t2
        have uq := Wd.cell hc
        have ui := Wd.cell hci
        refine wp_region_wd (by kernel_rfl) (by kernel_rfl) ?_
        repeat (first | go_big_quiet_skip | (go_big_quiet_want; go_big_quiet_op; first | go_big_quiet_on | (apply Exists.intro; refine ⟨fun u => ?_, ?_⟩; (first | (go_at_call 22; with_reducible exact K1.out u)); go_big_quiet_on)))
        refine wpQuiet_nil ?_
        intro wz9' hw'
        obtain ⟨⟨_, hb9⟩, hw''⟩ := hw'
        subst hw''
        obtain ⟨w5, rfl⟩ : ∃ y, y = wz9' := ⟨_, rfl⟩
        have B5 : Hid (Below WB.heap.size WB w5) := HB.out.trans (hb9.mono HB.out.size)
        have B5Z : Hid (Below wz9.heap.size wz9 w5) := HBZ.out.trans (hb9.mono HBZ.out.size)
        clear hb9 K1 uq ui hc hci
        clear u0 u1 u2 u3 u4 u5 u6 u7 ut0 ut1 ut2 e0 e1 e2 e3 e4 e5 e6 e7 t0 t1 t2
        obtain ⟨e0, e1, e2, e3, e4, e5, e6, e7⟩ := cells8 (GC.out _ B5.out)
        obtain ⟨t0, t1, t2⟩ := two_cells (GT.out _ B5.out)
        go_wp2_with fail
        refine (AV.out w5 B5.out).mono ?_
        rintro e w6 ⟨rfl, hb⟩
        have B6 : Hid (Below WB.heap.size WB w6) := B5.out.trans (hb.mono B5.out.size)
        have B6Z : Hid (Below wz9.heap.size wz9 w6) := B5Z.out.trans (hb.mono B5Z.out.size)
        clear hb AV
        clear e0 e1 e2 e3 e4 e5 e6 e7 t0 t1 t2
        obtain ⟨e0, e1, e2, e3, e4, e5, e6, e7⟩ := cells8 (GC.out _ B6.out)
        obtain ⟨t0, t1, t2⟩ := two_cells (GT.out _ B6.out)
        by_cases hke : k + 1 = ins.length
        · have hkb : ((k : Int) == (ins.length : Int) - 1) = true := by rw [beq_iff_eq]; omega
          have hq := HLAST.out hke
          obtain ⟨bb2, ob2, hAB2, -, hcb⟩ := LRow.int (LW.out w6 B6.out).bads HBN.out
          rw [hAB2] at e4
          have TV6 := Lib.hid (TV.out w6)
          have hbl : (bn : Int) < (c.bads.length : Int) := by have := HBN.out; omega
          have hbl0 : (0 : Int) ≤ (bn : Int) := by omega
          clear hAB2
          generalize c.bads[bn]'HBN.out = xb at *
          rw [hq] at TV6
          clear hq hke
          go_wp2_with fail
          refine TV6.out.mono ?_
          rintro e w' ⟨rfl, rfl⟩
          go_wp2
          go_roundw
          case rel => exact ⟨k + 1, by omega, by go_num, B6Z.out⟩
          case measure => simp [intOf]; omega
        · have hkb : ((k : Int) == (ins.length : Int) - 1) = false := by rw [beq_eq_false_iff_ne]; omega
          go_wp2
          go_roundw
          case rel => exact ⟨k + 1, by omega, by go_num, B6Z.out⟩
          case measure => simp [intOf]; omega
      · obtain rfl : k = ins.length := by omega
        go_wp2
        go_ret
        exact ⟨rfl, BF.out⟩
  · have PA := Lib.hid (fun y hy => refpath_any c s L A q x AI qi y (LW.out y hy) hf hz (AW.out y hy) (SW.out y hy))
    have hz0 : (pathE c (L.map Clz.l) x != 0) = true := bne_iff_ne.2 hp
    unfold witV at CH PA ⊢
    generalize pathE c (L.map Clz.l) x = pe at *
    clear h hf hz hbd hA hS hp hSb
    unfold cirV at CH PA ⊢
    rw [show cirC c s = #[.int .i64 c.max, .slice s.ai c.ins.length s.ki, .slice s.al c.lats.length s.kl, .slice s.ao c.outs.length s.ko, .slice s.ab c.bads.length s.kb, .slice s.ac c.invs.length s.kc, .slice s.aa c.ands.length s.ka, .slice s.an c.names.length s.kn] from rfl] at CH PA ⊢
    go_enter Try.func11, Try.ntmps11
    go_wp2_with fail
    refine AL.out.mono ?_
    rintro e w1 ⟨rfl, hb⟩
    have B1 : Hid (Below WB.heap.size WB w1) := hb
    clear e0 e1 e2 e3 e4 e5 e6 e7 t0 t1 t2 hWA hWB AL hb
    obtain ⟨e0, e1, e2, e3, e4, e5, e6, e7⟩ := cells8 (GC.out _ B1.out)
    obtain ⟨t0, t1, t2⟩ := two_cells (GT.out _ B1.out)
    go_wp2_with fail
    refine (CH.out w1 B1.out).mono ?_
    rintro e w2 ⟨rfl, hb⟩
    have B2 : Hid (Below WB.heap.size WB w2) := B1.out.trans (hb.mono B1.out.size)
    clear hb CH
    clear e0 e1 e2 e3 e4 e5 e6 e7 t0 t1 t2
    obtain ⟨e0, e1, e2, e3, e4, e5, e6, e7⟩ := cells8 (GC.out _ B2.out)
    obtain ⟨t0, t1, t2⟩ := two_cells (GT.out _ B2.out)
    go_wp2_with fail
    refine (PA.out w2 B2.out).mono ?_
    rintro e w3 ⟨rfl, hb⟩
    have BF : Hid (Below w.heap.size w w3) := BB.out.trans ((B2.out.trans (hb.mono B2.out.size)).mono BB.out.size)
    clear hb PA
    go_wp2
    go_ret
    exact ⟨rfl, BF.out⟩
set_option maxRecDepth 100000 in
theorem prefix_core (P : Prog9) {H : Type} {enc : TypeId × Value → H} (W : World) (v : Value) (d : DataW H) (p : List MemPlace) {r : Reach} {b0 : Nat} (hv : Value.okWide Try.prog W r b0 27 v) (h : DataW.Trod enc Try.prog W 0 (fun _ => true) true 27 v d p)
    (v1 : Value) (d1 : DataW H) (p1 : List MemPlace) {r1 : Reach} {b1 : Nat} (hv1 : Value.okWide Try.prog W r1 b1 58 v1) (h1 : DataW.Trod enc Try.prog W 0 (fun _ => true) true 58 v1 d1 p1)
    (v2 : Value) (d2 : DataW H) (p2 : List MemPlace) {r2 : Reach} {b2 : Nat} (hv2 : Value.okWide Try.prog W r2 b2 61 v2) (h2 : DataW.Trod enc Try.prog W 0 (fun _ => true) true 61 v2 d2 p2)
    {ts : List TypeId} {ds : List (DataW H)} (hsz : (DataW.weightsEach Try.prog (27 :: 58 :: 61 :: ts) (d :: d1 :: d2 :: ds)).all (· ≤ reachBytes) = true) :
    Calls Try.prog 11 #[v, v1, v2] W fun e W' => e = .returned (.bool true) ∧ Below W.heap.size W W' := by
  obtain ⟨c, s, rfl, hl, hf⟩ := open_circ hv h (all_weights hsz 0 rfl rfl)
  obtain ⟨A1, L, q1, rfl, a1, _⟩ := open_clauses hv1 h1 (all_weights hsz 1 rfl rfl)
  obtain ⟨x, A2, q2, rfl, a2, z2, i2, l2⟩ := open_wit hv2 h2 (all_weights hsz 2 rfl rfl)
  exact prefix_walk P c s L A1 q1 x A2 q2 W hl hf z2 i2 a1 a2 l2
end Go.Proofs.Ytfglgapocmnfpaa.Rep
