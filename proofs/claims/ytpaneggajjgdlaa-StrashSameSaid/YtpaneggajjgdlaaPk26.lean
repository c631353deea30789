/- The walk of StrashSame; condition: what is asked of it fits. -/
import Derived.Test.YtpaneggajjgdlaaPk24
import Derived.Test.YtpaneggajjgdlaaPk25
import Derived.Test.YtpaneggajjgdlaaPk17
namespace Go.Proofs.Ytpaneggajjgdlaa.Str
open Go.ChangeShapes Go.WideShapes Go.ChangeAt Go.RowKit Go.Maps Circ Cw

theorem eight {w : World} {g : Nat} {x0 x1 x2 x3 x4 x5 x6 x7 : Value} {e : TypeId} (h : w.heap[g]? = some (.cells #[x0, x1, x2, x3, x4, x5, x6, x7] e (0, 0))) : w.cell? ⟨g, 0, none⟩ = some x0 ∧ w.cell? ⟨g, 1, none⟩ = some x1 ∧ w.cell? ⟨g, 2, none⟩ = some x2 ∧ w.cell? ⟨g, 3, none⟩ = some x3 ∧ w.cell? ⟨g, 4, none⟩ = some x4 ∧ w.cell? ⟨g, 5, none⟩ = some x5 ∧ w.cell? ⟨g, 6, none⟩ = some x6 ∧ w.cell? ⟨g, 7, none⟩ = some x7 := by
  have hx := Lib.cell_of_heap h
  exact ⟨hx 0, hx 1, hx 2, hx 3, hx 4, hx 5, hx 6, hx 7⟩
theorem op_load_circ (a : Act) (w : World) (g t : Nat) {x0 x1 x2 x3 x4 x5 x6 x7 : Value} (h : a.tmps.getD t undef = .pointer (some ⟨g, 0, none⟩)) (hh : w.heap[g]? = some (.cells #[x0, x1, x2, x3, x4, x5, x6, x7] 27 (0, 0))) (oo : Oper) (ho : oo.op = .load 27 (.tmp t)) : (execOp a.eval oo).run Try.prog w = .ok (.value (.agg #[x0, x1, x2, x3, x4, x5, x6, x7])) w := by
  have h' : a.tmps[t]?.getD undef = .pointer (some ⟨g, 0, none⟩) := by simpa using h
  obtain ⟨e0, e1, e2, e3, e4, e5, e6, e7⟩ := eight hh
  clear hh h
  unfold execOp
  rw [ho]
  go_simp
theorem two_boxes (w : World) (A B : Obj) : ((w.alloc A).alloc B).heap[w.heap.size]? = some A ∧ ((w.alloc A).alloc B).heap[w.heap.size + 1]? = some B := by
  have s1 : (w.alloc A).heap.size = w.heap.size + 1 := by simp
  have b : Below (w.alloc A).heap.size (w.alloc A) ((w.alloc A).alloc B) := (Below.refl _ _).alloc (Nat.le_refl _) _
  constructor
  · rw [b.block _ (by omega)]; exact Array.getElem?_push_size
  · rw [← s1]; exact Array.getElem?_push_size
theorem baseU_zero (kb : Nat → Bool) (L : List Int) (hL : ∀ x ∈ L, 2 ≤ x) : ∀ j, j ≤ L.length → baseU kb L j 0 = false
  | 0, _ => rfl
  | j + 1, hj => by
    have h1 := hL L[j] (List.getElem_mem (by omega))
    unfold baseU setM
    rw [List.getD_eq_getElem?_getD, List.getElem?_eq_getElem (show j < L.length by omega), if_neg (by simp only [Option.getD_some]; omega)]
    exact baseU_zero kb L hL j (by omega)
theorem told_facts {c : Cir} (h : refOk c = true) (kb : Nat → Bool) {x : Int} (hx : Told c x) : (0 ≤ x ∧ x / 2 < ((c.max.toNat + 1 : Nat) : Int)) ∧ (0 ≤ ofM (runM c.ands).F x ∧ ofM (runM c.ands).F x / 2 < ((c.max.toNat + 1 : Nat) : Int)) ∧ bitM (evalM (baseU kb (c.ins ++ c.lats.map Tri.a) (c.ins.length + c.lats.length)) c.ands) x = bitM (evalM (baseU kb (c.ins ++ c.lats.map Tri.a) (c.ins.length + c.lats.length)) (hashM c).ands) (ofM (runM c.ands).F x) := by
  have h1 := lit_bound h (told_known h hx)
  have h2 := lit_bound (hash_may h) (told_hash h hx)
  have e : (hashM c).max = c.max := rfl
  rw [e] at h2
  refine ⟨by omega, by omega, told_same h _ (baseU_zero _ _ (fun y hy => ?_) _ (by simp)) hx⟩
  refine ((own_facts h).2 y ?_).1
  rcases List.mem_append.1 hy with hy | hy
  · exact List.mem_append_left _ hy
  · exact List.mem_append_right _ (List.mem_append_left _ hy)
theorem max_small {c : Cir} (h : refOk c = true) : c.max.toNat + 1 ≤ 1048576 := by
  obtain ⟨hh, -⟩ := ref_parts h
  unfold refHead at hh
  simp only [Bool.and_eq_true, Bool.not_eq_true', decide_eq_false_iff_not] at hh
  omega
/-- what operation j of the region leaves -/
def same10R (b : Int) (c : Cir) (s s' : Places) (n : Nat) (V1 V2 : Int → Bool) : Nat → (Nat → Value) → World → Prop
  | 0, f, _ => f 72 = .agg #[.int .i64 c.max, .slice s.ai c.ins.length s.ki, .slice s.al c.lats.length s.kl, .slice s.ao c.outs.length s.ko, .slice s.ab c.bads.length s.kb, .slice s.ac c.invs.length s.kc, .slice s.aa c.ands.length s.ka, .slice s.an c.names.length s.kn]
  | 1, f, _ => f 73 = .int .u64 b
  | 2, f, w => ∃ g, f 74 = .slice (some ⟨g, 0, none⟩) n n ∧ IsBits w g n V1
  | 3, f, _ => f 75 = .agg #[.int .i64 c.max, .slice s'.ai c.ins.length s'.ki, .slice s'.al c.lats.length s'.kl, .slice s'.ao c.outs.length s'.ko, .slice s'.ab c.bads.length s'.kb, .slice s'.ac c.invs.length s'.kc, (.slice s'.aa (hashM c).ands.length s'.ka), .slice s'.an c.names.length s'.kn]
  | 4, f, _ => f 76 = .int .u64 b
  | 5, f, w => ∃ g, f 77 = .slice (some ⟨g, 0, none⟩) n n ∧ IsBits w g n V2
  | 6, f, w => ∃ g, f 7 = .slice (some ⟨g, 0, none⟩) n n ∧ IsBits w g n V1
  | 7, f, w => ∃ g, f 8 = .slice (some ⟨g, 0, none⟩) n n ∧ IsBits w g n V2
  | _, _, _ => True
def same10M : Nat → List Nat
  | 0 => [72]
  | 1 => [73]
  | 2 => [74]
  | 3 => [75]
  | 4 => [76]
  | 5 => [77]
  | 6 => [7]
  | 7 => [8]
  | _ => []
theorem same10_stab {b : Int} {c : Cir} {s s' : Places} {n : Nat} {V1 V2 : Int → Bool} (jj : Nat) {f f' : Nat → Value} {w w' : World} (h2 : jj = 2 → Below w.heap.size w w') (h5 : jj = 5 → Below w.heap.size w w') (h6 : jj = 6 → Below w.heap.size w w') (h7 : jj = 7 → Below w.heap.size w w') (hf : ∀ t ∈ same10M jj, f' t = f t) (h : same10R b c s s' n V1 V2 jj f w) : same10R b c s s' n V1 V2 jj f' w' := by
  match jj, hf, h, h2, h5, h6, h7 with
  | 0, hf, h, _, _, _, _ => exact (hf 72 (by decide)).trans h
  | 1, hf, h, _, _, _, _ => exact (hf 73 (by decide)).trans h
  | 2, hf, h, h2, h5, h6, h7 =>
    obtain ⟨g, q1, q2⟩ := h
    exact ⟨g, (hf 74 (by decide)).trans q1, q2.below (h2 rfl)⟩
  | 3, hf, h, _, _, _, _ => exact (hf 75 (by decide)).trans h
  | 4, hf, h, _, _, _, _ => exact (hf 76 (by decide)).trans h
  | 5, hf, h, h2, h5, h6, h7 =>
    obtain ⟨g, q1, q2⟩ := h
    exact ⟨g, (hf 77 (by decide)).trans q1, q2.below (h5 rfl)⟩
  | 6, hf, h, h2, h5, h6, h7 =>
    obtain ⟨g, q1, q2⟩ := h
    exact ⟨g, (hf 7 (by decide)).trans q1, q2.below (h6 rfl)⟩
  | 7, hf, h, h2, h5, h6, h7 =>
    obtain ⟨g, q1, q2⟩ := h
    exact ⟨g, (hf 8 (by decide)).trans q1, q2.below (h7 rfl)⟩
  | _ + 8, _, _, _, _, _, _ => trivial

theorem cirZ_fits : CFits cirZ plZ := by constructor <;> simp [cirZ, plZ, I64]
set_option maxHeartbeats 16000000 in
set_option maxRecDepth 100000 in
theorem same_walk (c : Cir) (s : Places) (b : Int) (w : World) (h : CLies w w.heap.size c s) (hf : CFits c s) (hnm : ∀ x ∈ c.names, x.kind.size ≤ 281474976710656 ∧ x.text.size ≤ 281474976710656) (hb0 : 0 ≤ b) (hb1 : b < 18446744073709551616) :
    Calls Try.prog 3 #[cirV c s, .int .u64 b] w fun e w' => e = .returned (.bool true) ∧ Below w.heap.size w w' := by
  obtain ⟨WA, hWA⟩ : ∃ x, w.alloc (.cells #[.int .i64 c.max, .slice s.ai c.ins.length s.ki, .slice s.al c.lats.length s.kl, .slice s.ao c.outs.length s.ko, .slice s.ab c.bads.length s.kb, .slice s.ac c.invs.length s.kc, .slice s.aa c.ands.length s.ka, .slice s.an c.names.length s.kn] 27) = x := ⟨_, rfl⟩
  have bA : Below w.heap.size w WA := by rw [← hWA]; exact (Below.refl _ _).alloc (Nat.le_refl _) _
  have BA := Lib.hid bA
  have GA : Hid (WA.heap[w.heap.size]? = some (.cells (cirC c s) 27 (0, 0))) := by unfold Hid; rw [← hWA]; exact Array.getElem?_push_size
  obtain ⟨e0, e1, e2, e3, e4, e5, e6, e7⟩ := cells8 GA.out
  have AL := Lib.hid (alive_any WA)
  have HF := Lib.hid hf
  have LW : Hid (∀ x, Below w.heap.size w x → CLies x x.heap.size c s) := fun x hx => (h.below hx).more hx.size
  have HB := Lib.hid (And.intro hb0 hb1)
  clear hb0 hb1
  cases hc : chk c
  · have HH := Lib.hid (hash_no c s WA ((h.below bA).more bA.size) hf hc)
    have hrv : refV c = 9 := refV_no c (by rw [← chk_same]; exact hc)
    rw [show cirV cirZ plZ = .agg #[.int .i64 0, .slice none 0 0, .slice none 0 0, .slice none 0 0, .slice none 0 0, .slice none 0 0, .slice none 0 0, .slice none 0 0] from rfl] at HH
    clear h hf hnm hc bA
    unfold cirV at HH ⊢
    rw [show cirC c s = #[.int .i64 c.max, .slice s.ai c.ins.length s.ki, .slice s.al c.lats.length s.kl, .slice s.ao c.outs.length s.ko, .slice s.ab c.bads.length s.kb, .slice s.ac c.invs.length s.kc, .slice s.aa c.ands.length s.ka, .slice s.an c.names.length s.kn] from rfl] at HH ⊢
    go_enter Try.func3, Try.ntmps3
    go_wp2_with fail
    refine AL.out.mono ?_
    rintro e wq ⟨rfl, rfl⟩
    clear AL
    go_wp2_with fail
    refine HH.out.mono ?_
    rintro e w1 ⟨rfl, hb⟩
    have B1 : Hid (Below w.heap.size w w1) := BA.out.trans (hb.mono BA.out.size)
    have K1 : Hid (w1.heap[w.heap.size]? = some (.cells (cirC c s) 27 (0, 0))) := (hb.block _ (lt_of_block GA.out)).trans GA.out
    clear HH hb e0 e1 e2 e3 e4 e5 e6 e7 hWA
    obtain ⟨W4p, hW4p⟩ : ∃ x, w1.alloc (.cells #[.int .i64 0, .slice none 0 0, .slice none 0 0, .slice none 0 0, .slice none 0 0, .slice none 0 0, .slice none 0 0, .slice none 0 0] 27) = x := ⟨_, rfl⟩
    have g4p : W4p.heap[w1.heap.size]? = some (.cells #[.int .i64 0, .slice none 0 0, .slice none 0 0, .slice none 0 0, .slice none 0 0, .slice none 0 0, .slice none 0 0, .slice none 0 0] 27 (0, 0)) := by rw [← hW4p]; exact Array.getElem?_push_size
    have b4p : Below w1.heap.size w1 W4p := by rw [← hW4p]; exact (Below.refl _ _).alloc (Nat.le_refl _) _
    obtain ⟨p1, p2, p3, p4, p5, p6, p7, Xp, pv0, pv1, pv2, pv3, pv4, pv5, pv6, pv7, ⟨ph1, pa0, pb0⟩, ⟨ph2, pa1, pb1⟩, ⟨ph3, pa2, pb2⟩, ⟨ph4, pa3, pb3⟩, ⟨ph5, pa4, pb4⟩, ⟨ph6, pa5, pb5⟩, ⟨ph7, pa6, pb6⟩, ⟨ph8, pa7, pb7⟩, E8p, FCp⟩ := Cw.store8 g4p rfl (.int .i64 0) (.slice none 0 0) (.slice none 0 0) (.slice none 0 0) (.slice none 0 0) (.slice none 0 0) (.slice none 0 0) (.slice none 0 0)
    have BXp : Hid (Below w1.heap.size w1 Xp) := FCp.below b4p (Nat.le_refl _)
    have GXp : Hid (Xp.heap[w1.heap.size]? = some (.cells #[.int .i64 0, .slice none 0 0, .slice none 0 0, .slice none 0 0, .slice none 0 0, .slice none 0 0, .slice none 0 0, .slice none 0 0] 27 (0, 0))) := E8p
    clear g4p b4p E8p FCp
    have BP : Hid (Below w.heap.size w Xp) := B1.out.trans (BXp.out.mono B1.out.size)
    have K2 : Hid (Xp.heap[w.heap.size]? = some (.cells (cirC c s) 27 (0, 0))) := (BXp.out.block _ (lt_of_block K1.out)).trans K1.out
    obtain ⟨e0, e1, e2, e3, e4, e5, e6, e7⟩ := cells8 K2.out
    have KC := Lib.hid (fun (u : Wd Xp.heap.size Xp) => Calls.in_wd u (refcheck_any c s u.w (LW.out _ (BP.out.trans (u.ok.mono BP.out.size))) HF.out) (Nat.le_refl _))
    have KN := Lib.hid (fun (u : Wd Xp.heap.size Xp) => Calls.in_wd (v := .int .i64 9) u ((num_any 9 u.w).mono fun e w' ⟨h1, h2⟩ => ⟨h1, h2 ▸ Below.refl _ _⟩) (Nat.le_refl _))
    rw [hrv, show cirV c s = .agg #[.int .i64 c.max, .slice s.ai c.ins.length s.ki, .slice s.al c.lats.length s.kl, .slice s.ao c.outs.length s.ko, .slice s.ab c.bads.length s.kb, .slice s.ac c.invs.length s.kc, .slice s.aa c.ands.length s.ka, .slice s.an c.names.length s.kn] from rfl] at KC
    clear hrv
    go_wp2
    clear hW4p ph1 pa0 pb0 ph2 pa1 pb1 ph3 pa2 pb2 ph4 pa3 pb3 ph5 pa4 pb4 ph6 pa5 pb5 ph7 pa6 pb6 ph8 pa7 pb7
    have ua0 := Wd.cell e0
    have ua1 := Wd.cell e1
    have ua2 := Wd.cell e2
    have ua3 := Wd.cell e3
    have ua4 := Wd.cell e4
    have ua5 := Wd.cell e5
    have ua6 := Wd.cell e6
    have ua7 := Wd.cell e7
    refine wp_region_wd (by kernel_rfl) (by kernel_rfl) ?_
    repeat (first | go_big_quiet_skip | (go_big_quiet_want; go_big_quiet_op; first | go_big_quiet_on | (apply Exists.intro; refine ⟨fun u => ?_, ?_⟩; (first | (go_at_call 12; exact KC.out u) | (go_at_call 11; exact KN.out u)); go_big_quiet_on)))
    refine wpQuiet_nil ?_
    intro w9 hw'
    obtain ⟨⟨_, hb9⟩, hw''⟩ := hw'
    subst hw''
    have B4 : Hid (Below w.heap.size w w9) := BP.out.trans (hb9.mono BP.out.size)
    have D4 : Hid (w9.heap[w1.heap.size]? = some (.cells (cirC cirZ plZ) 27 (0, 0))) := (hb9.block _ (lt_of_block GXp.out)).trans GXp.out
    clear ua0 ua1 ua2 ua3 ua4 ua5 ua6 ua7 e0 e1 e2 e3 e4 e5 e6 e7 hb9 KC KN
    obtain ⟨d0, d1, d2, d3, d4, d5, d6, d7⟩ := cells8 D4.out
    simp only [cirZ, plZ, List.length_nil] at d0 d1 d2 d3 d4 d5 d6 d7
    have SM := Lib.hid (refsame_any cirZ plZ plZ w9 (cirZ_lies _ _) (cirZ_lies _ _) cirZ_fits)
    rw [show cirV cirZ plZ = .agg #[.int .i64 0, .slice none 0 0, .slice none 0 0, .slice none 0 0, .slice none 0 0, .slice none 0 0, .slice none 0 0, .slice none 0 0] from rfl] at SM
    go_wp2_with (first | (go_at_call 11; refine (num_any _ _).mono ?_; rintro e w' ⟨rfl, rfl⟩) | fail)
    refine SM.out.mono ?_
    rintro e w5 ⟨rfl, hb⟩
    have B5 : Hid (Below w.heap.size w w5) := B4.out.trans (hb.mono B4.out.size)
    clear hb SM d0 d1 d2 d3 d4 d5 d6 d7
    go_wp2
    go_ret
    exact ⟨rfl, B5.out⟩
  · have HH := Lib.hid (hash_yes c s WA ((h.below bA).more bA.size) hf hc hnm)
    have hr : refOk c = true := by rw [← chk_same]; exact hc
    have HR := Lib.hid hr
    have hrv : refV c = 0 := refV_yes c hr
    have HRD : Hid (refOk (hashM c) = true) := hash_may hr
    have hrd : refV (hashM c) = 0 := refV_yes _ HRD.out
    clear h hf hnm hc bA hr
    unfold cirV at HH ⊢
    rw [show cirC c s = #[.int .i64 c.max, .slice s.ai c.ins.length s.ki, .slice s.al c.lats.length s.kl, .slice s.ao c.outs.length s.ko, .slice s.ab c.bads.length s.kb, .slice s.ac c.invs.length s.kc, .slice s.aa c.ands.length s.ka, .slice s.an c.names.length s.kn] from rfl] at HH ⊢
    go_enter Try.func3, Try.ntmps3
    go_wp2_with fail
    refine AL.out.mono ?_
    rintro e wq ⟨rfl, rfl⟩
    clear AL
    go_wp2_with fail
    refine HH.out.mono ?_
    rintro e w1 ⟨⟨s', rfl, hl1, hf1⟩, hb⟩
    have B1 : Hid (Below w.heap.size w w1) := BA.out.trans (hb.mono BA.out.size)
    have K1 : Hid (w1.heap[w.heap.size]? = some (.cells (cirC c s) 27 (0, 0))) := (hb.block _ (lt_of_block GA.out)).trans GA.out
    have L1 := Lib.hid hl1
    have F1 := Lib.hid hf1
    clear HH hb e0 e1 e2 e3 e4 e5 e6 e7 hWA hl1 hf1
    obtain ⟨na, hna⟩ : ∃ x, (hashM c).ands.length = x := ⟨_, rfl⟩
    have HBX : Hid (cirC (hashM c) s' = #[.int .i64 c.max, .slice s'.ai c.ins.length s'.ki, .slice s'.al c.lats.length s'.kl, .slice s'.ao c.outs.length s'.ko, .slice s'.ab c.bads.length s'.kb, .slice s'.ac c.invs.length s'.kc, (.slice s'.aa na s'.ka), .slice s'.an c.names.length s'.kn]) := by
      have e := boxH_hash c s' s'.aa s'.ka
      rw [hna] at e
      exact e
    clear hna
    rw [HBX.out]
    obtain ⟨W4p, hW4p⟩ : ∃ x, w1.alloc (.cells #[.int .i64 0, .slice none 0 0, .slice none 0 0, .slice none 0 0, .slice none 0 0, .slice none 0 0, .slice none 0 0, .slice none 0 0] 27) = x := ⟨_, rfl⟩
    have g4p : W4p.heap[w1.heap.size]? = some (.cells #[.int .i64 0, .slice none 0 0, .slice none 0 0, .slice none 0 0, .slice none 0 0, .slice none 0 0, .slice none 0 0, .slice none 0 0] 27 (0, 0)) := by rw [← hW4p]; exact Array.getElem?_push_size
    have b4p : Below w1.heap.size w1 W4p := by rw [← hW4p]; exact (Below.refl _ _).alloc (Nat.le_refl _) _
    obtain ⟨p1, p2, p3, p4, p5, p6, p7, Xp, pv0, pv1, pv2, pv3, pv4, pv5, pv6, pv7, ⟨ph1, pa0, pb0⟩, ⟨ph2, pa1, pb1⟩, ⟨ph3, pa2, pb2⟩, ⟨ph4, pa3, pb3⟩, ⟨ph5, pa4, pb4⟩, ⟨ph6, pa5, pb5⟩, ⟨ph7, pa6, pb6⟩, ⟨ph8, pa7, pb7⟩, E8p, FCp⟩ := Cw.store8 g4p rfl (.int .i64 c.max) (.slice s'.ai c.ins.length s'.ki) (.slice s'.al c.lats.length s'.kl) (.slice s'.ao c.outs.length s'.ko) (.slice s'.ab c.bads.length s'.kb) (.slice s'.ac c.invs.length s'.kc) ((.slice s'.aa na s'.ka)) (.slice s'.an c.names.length s'.kn)
    have BXp : Hid (Below w1.heap.size w1 Xp) := FCp.below b4p (Nat.le_refl _)
    have GXp : Hid (Xp.heap[w1.heap.size]? = some (.cells #[.int .i64 c.max, .slice s'.ai c.ins.length s'.ki, .slice s'.al c.lats.length s'.kl, .slice s'.ao c.outs.length s'.ko, .slice s'.ab c.bads.length s'.kb, .slice s'.ac c.invs.length s'.kc, (.slice s'.aa na s'.ka), .slice s'.an c.names.length s'.kn] 27 (0, 0))) := E8p
    clear g4p b4p E8p FCp
    have BP : Hid (Below w.heap.size w Xp) := B1.out.trans (BXp.out.mono B1.out.size)
    have LD : Hid (∀ x, Below Xp.heap.size Xp x → CLies x x.heap.size (hashM c) s') := fun x hx => ((L1.out.below (BXp.out.trans (hx.mono BXp.out.size))).more (by have := BXp.out.size; have := hx.size; omega))
    have K2 : Hid (Xp.heap[w.heap.size]? = some (.cells (cirC c s) 27 (0, 0))) := (BXp.out.block _ (lt_of_block K1.out)).trans K1.out
    obtain ⟨e0, e1, e2, e3, e4, e5, e6, e7⟩ := cells8 K2.out
    have KC := Lib.hid (fun (u : Wd Xp.heap.size Xp) => Calls.in_wd u (refcheck_any c s u.w (LW.out _ (BP.out.trans (u.ok.mono BP.out.size))) HF.out) (Nat.le_refl _))
    have KN := Lib.hid (fun (u : Wd Xp.heap.size Xp) => Calls.in_wd (v := .int .i64 0) u ((num_any 0 u.w).mono fun e w' ⟨h1, h2⟩ => ⟨h1, h2 ▸ Below.refl _ _⟩) (Nat.le_refl _))
    rw [hrv, show cirV c s = .agg #[.int .i64 c.max, .slice s.ai c.ins.length s.ki, .slice s.al c.lats.length s.kl, .slice s.ao c.outs.length s.ko, .slice s.ab c.bads.length s.kb, .slice s.ac c.invs.length s.kc, .slice s.aa c.ands.length s.ka, .slice s.an c.names.length s.kn] from rfl] at KC
    clear hrv
    go_wp2
    clear hW4p ph1 pa0 pb0 ph2 pa1 pb1 ph3 pa2 pb2 ph4 pa3 pb3 ph5 pa4 pb4 ph6 pa5 pb5 ph7 pa6 pb6 ph8 pa7 pb7
    have ua0 := Wd.cell e0
    have ua1 := Wd.cell e1
    have ua2 := Wd.cell e2
    have ua3 := Wd.cell e3
    have ua4 := Wd.cell e4
    have ua5 := Wd.cell e5
    have ua6 := Wd.cell e6
    have ua7 := Wd.cell e7
    refine wp_region_wd (by kernel_rfl) (by kernel_rfl) ?_
    repeat (first | go_big_quiet_skip | (go_big_quiet_want; go_big_quiet_op; first | go_big_quiet_on | (apply Exists.intro; refine ⟨fun u => ?_, ?_⟩; (first | (go_at_call 12; exact KC.out u) | (go_at_call 11; exact KN.out u)); go_big_quiet_on)))
    refine wpQuiet_nil ?_
    intro w9 hw'
    obtain ⟨⟨_, hb9⟩, hw''⟩ := hw'
    subst hw''
    have B4 : Hid (Below Xp.heap.size Xp w9) := hb9
    have K4 : Hid (w9.heap[w.heap.size]? = some (.cells (cirC c s) 27 (0, 0))) := (hb9.block _ (lt_of_block K2.out)).trans K2.out
    have D4 : Hid (w9.heap[w1.heap.size]? = some (.cells #[.int .i64 c.max, .slice s'.ai c.ins.length s'.ki, .slice s'.al c.lats.length s'.kl, .slice s'.ao c.outs.length s'.ko, .slice s'.ab c.bads.length s'.kb, .slice s'.ac c.invs.length s'.kc, (.slice s'.aa na s'.ka), .slice s'.an c.names.length s'.kn] 27 (0, 0))) := (hb9.block _ (lt_of_block GXp.out)).trans GXp.out
    clear ua0 ua1 ua2 ua3 ua4 ua5 ua6 ua7 e0 e1 e2 e3 e4 e5 e6 e7 hb9 KC KN
    obtain ⟨d0, d1, d2, d3, d4, d5, d6, d7⟩ := cells8 (c := hashM c) (s := s') (w := w9) (g := w1.heap.size) (by rw [HBX.out]; exact D4.out)
    obtain ⟨rfl⟩ : (hashM c).ands.length = na := by
      have e := boxH_hash c s' s'.aa s'.ka
      have e2 := (show cirC (hashM c) s' = _ from e).symm.trans HBX.out
      unfold boxH at e2
      simpa using e2
    clear d0 d1 d2 d3 d4 d5 d6 d7
    have RC := Lib.hid (refcheck_any (hashM c) s' w9 (LD.out _ B4.out) F1.out)
    rw [hrd, show cirV (hashM c) s' = .agg (cirC (hashM c) s') from rfl, HBX.out] at RC
    clear hrd
    obtain ⟨d0, d1, d2, d3, d4, d5, d6, d7⟩ := eight D4.out
    go_wp2_with (first | (go_at_call 11; refine (num_any _ _).mono ?_; rintro e w' ⟨rfl, rfl⟩) | fail)
    refine RC.out.mono ?_
    rintro e w5 ⟨rfl, hb5⟩
    have B5 : Hid (Below Xp.heap.size Xp w5) := B4.out.trans (hb5.mono B4.out.size)
    have K5 : Hid (w5.heap[w.heap.size]? = some (.cells (cirC c s) 27 (0, 0))) := (hb5.block _ (lt_of_block K4.out)).trans K4.out
    have D5 : Hid (w5.heap[w1.heap.size]? = some (.cells #[.int .i64 c.max, .slice s'.ai c.ins.length s'.ki, .slice s'.al c.lats.length s'.kl, .slice s'.ao c.outs.length s'.ko, .slice s'.ab c.bads.length s'.kb, .slice s'.ac c.invs.length s'.kc, (.slice s'.aa (hashM c).ands.length s'.ka), .slice s'.an c.names.length s'.kn] 27 (0, 0))) := (hb5.block _ (lt_of_block D4.out)).trans D4.out
    clear d0 d1 d2 d3 d4 d5 d6 d7 RC hb5
    obtain ⟨e0, e1, e2, e3, e4, e5, e6, e7⟩ := cells8 K5.out
    obtain ⟨d0, d1, d2, d3, d4, d5, d6, d7⟩ := eight D5.out
    go_wp2
    clear e0 e1 e2 e3 e4 e5 e6 e7 d0 d1 d2 d3 d4 d5 d6 d7
    obtain ⟨V1, hV1⟩ : ∃ V, V = evalM (baseU (kbM b) (c.ins ++ c.lats.map Tri.a) (c.ins.length + c.lats.length)) c.ands := ⟨_, rfl⟩
    obtain ⟨V2, hV2⟩ : ∃ V, V = evalM (baseU (kbM b) (c.ins ++ c.lats.map Tri.a) (c.ins.length + c.lats.length)) (hashM c).ands := ⟨_, rfl⟩
    have VC : Hid (∀ x, Below Xp.heap.size Xp x → Calls Try.prog 14 #[.agg #[.int .i64 c.max, .slice s.ai c.ins.length s.ki, .slice s.al c.lats.length s.kl, .slice s.ao c.outs.length s.ko, .slice s.ab c.bads.length s.kb, .slice s.ac c.invs.length s.kc, .slice s.aa c.ands.length s.ka, .slice s.an c.names.length s.kn], .int .u64 b] x fun e w' => ∃ g, e = .returned (.slice (some ⟨g, 0, none⟩) (c.max.toNat + 1) (c.max.toNat + 1)) ∧ IsBits w' g (c.max.toNat + 1) V1 ∧ Below x.heap.size x w') := fun x hx => by
      rw [hV1]
      exact values_any c s b x (LW.out x (BP.out.trans (hx.mono BP.out.size))) HF.out HR.out HB.out.1 HB.out.2
    have VD : Hid (∀ x, Below Xp.heap.size Xp x → Calls Try.prog 14 #[.agg #[.int .i64 c.max, .slice s'.ai c.ins.length s'.ki, .slice s'.al c.lats.length s'.kl, .slice s'.ao c.outs.length s'.ko, .slice s'.ab c.bads.length s'.kb, .slice s'.ac c.invs.length s'.kc, (.slice s'.aa (hashM c).ands.length s'.ka), .slice s'.an c.names.length s'.kn], .int .u64 b] x fun e w' => ∃ g, e = .returned (.slice (some ⟨g, 0, none⟩) (c.max.toNat + 1) (c.max.toNat + 1)) ∧ IsBits w' g (c.max.toNat + 1) V2 ∧ Below x.heap.size x w') := fun x hx => by
      have h := values_any (hashM c) s' b x (LD.out x hx) F1.out HRD.out HB.out.1 HB.out.2
      have e1 : (hashM c).lats.map Tri.a = c.lats.map Tri.a := by
        show (c.lats.map _).map Tri.a = _
        rw [List.map_map]; rfl
      have e2 : (hashM c).lats.length = c.lats.length := List.length_map _
      rw [show cirV (hashM c) s' = .agg (cirC (hashM c) s') from rfl, HBX.out, e1, e2] at h
      rw [hV2]
      exact h
    have HV1 := Lib.hid hV1
    have HV2 := Lib.hid hV2
    clear hV1 hV2
    have EV : Hid (∀ args w, (callFunc 14 args).run Try.prog w = .ok (.enter 14 args) w) := enters_of Try.func14 (by kernel_rfl) rfl
    have KX : Hid (∀ x, Below w5.heap.size w5 x → x.heap[w.heap.size]? = some (.cells #[.int .i64 c.max, .slice s.ai c.ins.length s.ki, .slice s.al c.lats.length s.kl, .slice s.ao c.outs.length s.ko, .slice s.ab c.bads.length s.kb, .slice s.ac c.invs.length s.kc, .slice s.aa c.ands.length s.ka, .slice s.an c.names.length s.kn] 27 (0, 0))) := fun x hx => (hx.block _ (lt_of_block K5.out)).trans K5.out
    have DX : Hid (∀ x, Below w5.heap.size w5 x → x.heap[w1.heap.size]? = some (.cells #[.int .i64 c.max, .slice s'.ai c.ins.length s'.ki, .slice s'.al c.lats.length s'.kl, .slice s'.ao c.outs.length s'.ko, .slice s'.ab c.bads.length s'.kb, .slice s'.ac c.invs.length s'.kc, (.slice s'.aa (hashM c).ands.length s'.ka), .slice s'.an c.names.length s'.kn] 27 (0, 0))) := fun x hx => (hx.block _ (lt_of_block D5.out)).trans D5.out
    refine wp_region_valsD (by kernel_rfl) (by kernel_rfl) same10M (by kernel_rfl) (by kernel_rfl)
      (fun _ w' => Below w5.heap.size w5 w') (same10R b c s s' (c.max.toNat + 1) V1 V2) (Below.refl _ _).drew (fun jj f f' w w' hb hf h => same10_stab jj (fun _ => hb) (fun _ => hb) (fun _ => hb) (fun _ => hb) hf h) ?_ ?_
    · intro i oo d a' w' ho hd hun hdf hok hD K hK hK0
      match i, ho, hd, hD, hK, hK0, hun with
      | 0, ho, hd, hD, hK, hK0, hun =>
        have e := (congrArg Oper.op (Option.some.inj ho)).symm
        obtain rfl := Option.some.inj ho
        exact wp_val (op_load_circ a' w' _ 2 (hun 2 (by kernel_rfl)) (KX.out _ hok) _ e) (hK _ _ (Below.refl _ _) hok (fun f h1 _ => h1 _ rfl))
      | 1, ho, hd, hD, hK, hK0, hun =>
        have e := (congrArg Oper.op (Option.some.inj ho)).symm
        obtain rfl := Option.some.inj ho
        exact wp_val (op_move a' w' 1 _ e) (hK _ _ (Below.refl _ _) hok (fun f h1 _ => (h1 _ rfl).trans (hun 1 (by kernel_rfl))))
      | 2, ho, hd, hD, hK, hK0, hun =>
        have e := (congrArg Oper.op (Option.some.inj ho)).symm
        obtain rfl := Option.some.inj ho
        refine wp_enter (op_call2s a' w' _ 72 73 _ _ EV.out _ e) ?_
        rw [show a'.tmps.getD 72 undef = .agg #[.int .i64 c.max, .slice s.ai c.ins.length s.ki, .slice s.al c.lats.length s.kl, .slice s.ao c.outs.length s.ko, .slice s.ab c.bads.length s.kb, .slice s.ac c.invs.length s.kc, .slice s.aa c.ands.length s.ka, .slice s.an c.names.length s.kn] from hD 0 (by kernel_rfl), show a'.tmps.getD 73 undef = .int .u64 b from hD 1 (by kernel_rfl)]
        refine (VC.out _ (B5.out.trans (hok.mono B5.out.size))).mono ?_
        rintro e w'' ⟨g, rfl, hib, hb⟩
        exact .inl ⟨_, rfl, hK _ _ hb (hok.trans (hb.mono hok.size)) (fun f h1 _ => ⟨g, h1 _ rfl, hib⟩)⟩
      | 3, ho, hd, hD, hK, hK0, hun =>
        have e := (congrArg Oper.op (Option.some.inj ho)).symm
        obtain rfl := Option.some.inj ho
        exact wp_val (op_load_circ a' w' _ 5 (hun 5 (by kernel_rfl)) (DX.out _ hok) _ e) (hK _ _ (Below.refl _ _) hok (fun f h1 _ => h1 _ rfl))
      | 4, ho, hd, hD, hK, hK0, hun =>
        have e := (congrArg Oper.op (Option.some.inj ho)).symm
        obtain rfl := Option.some.inj ho
        exact wp_val (op_move a' w' 1 _ e) (hK _ _ (Below.refl _ _) hok (fun f h1 _ => (h1 _ rfl).trans (hun 1 (by kernel_rfl))))
      | 5, ho, hd, hD, hK, hK0, hun =>
        have e := (congrArg Oper.op (Option.some.inj ho)).symm
        obtain rfl := Option.some.inj ho
        refine wp_enter (op_call2s a' w' _ 75 76 _ _ EV.out _ e) ?_
        rw [show a'.tmps.getD 75 undef = .agg #[.int .i64 c.max, .slice s'.ai c.ins.length s'.ki, .slice s'.al c.lats.length s'.kl, .slice s'.ao c.outs.length s'.ko, .slice s'.ab c.bads.length s'.kb, .slice s'.ac c.invs.length s'.kc, (.slice s'.aa (hashM c).ands.length s'.ka), .slice s'.an c.names.length s'.kn] from hD 3 (by kernel_rfl), show a'.tmps.getD 76 undef = .int .u64 b from hD 4 (by kernel_rfl)]
        refine (VD.out _ (B5.out.trans (hok.mono B5.out.size))).mono ?_
        rintro e w'' ⟨g, rfl, hib, hb⟩
        exact .inl ⟨_, rfl, hK _ _ hb (hok.trans (hb.mono hok.size)) (fun f h1 _ => ⟨g, h1 _ rfl, hib⟩)⟩
      | 6, ho, hd, hD, hK, hK0, hun =>
        have e := (congrArg Oper.op (Option.some.inj ho)).symm
        obtain rfl := Option.some.inj ho
        obtain ⟨g, h1, h2⟩ := hD 2 (by kernel_rfl)
        exact wp_val (op_assign a' w' 74 _ e) (hK _ _ (Below.refl _ _) hok (fun f h1' _ => ⟨g, (h1' _ rfl).trans h1, h2⟩))
      | 7, ho, hd, hD, hK, hK0, hun =>
        have e := (congrArg Oper.op (Option.some.inj ho)).symm
        obtain rfl := Option.some.inj ho
        obtain ⟨g, h1, h2⟩ := hD 5 (by kernel_rfl)
        exact wp_val (op_assign a' w' 77 _ e) (hK _ _ (Below.refl _ _) hok (fun f h1' _ => ⟨g, (h1' _ rfl).trans h1, h2⟩))
      | i + 8, ho, _, _, _, _, _ => exact absurd ho (by simp)
    · intro a' w3 hsz hdf hkt hok hR
      have HF3 := frame_sets [7, 8, 72, 73, 74, 75, 76, 77] (by kernel_rfl) hsz hkt
      obtain ⟨d, hok⟩ := hok
      obtain ⟨gA, hA7, IA⟩ := hR 6 (by decide)
      obtain ⟨gB, hB8, IB⟩ := hR 7 (by decide)
      have HIA := Lib.hid IA
      have HIB := Lib.hid IB
      have HOK := Lib.hid hok
      clear IA IB hok
      obtain ⟨tm, df⟩ := a'
      obtain rfl : df = _ := hdf
      simp only [List.foldl_cons, List.foldl_nil] at HF3
      clear hkt hR hsz
      replace hA7 : tm.getD 7 undef = _ := hA7
      rw [hA7] at HF3
      clear hA7
      replace hB8 : tm.getD 8 undef = _ := hB8
      rw [hB8] at HF3
      clear hB8
      generalize tm.getD 72 undef = y72 at HF3
      generalize tm.getD 73 undef = y73 at HF3
      generalize tm.getD 74 undef = y74 at HF3
      generalize tm.getD 75 undef = y75 at HF3
      generalize tm.getD 76 undef = y76 at HF3
      generalize tm.getD 77 undef = y77 at HF3
      simp only [List.setIfInBounds_toArray, List.set_cons_succ, List.set_cons_zero] at HF3
      subst HF3
      clear VC VD EV KX DX
      go_wp2
      have KX : Hid (∀ x, Below w3.heap.size w3 x → x.heap[w.heap.size]? = some (.cells (cirC c s) 27 (0, 0))) := fun x hx => (hx.block _ (Nat.lt_of_lt_of_le (lt_of_block K5.out) HOK.out.size)).trans ((HOK.out.block _ (lt_of_block K5.out)).trans K5.out)
      have DX : Hid (∀ x, Below w3.heap.size w3 x → x.heap[w1.heap.size]? = some (.cells #[.int .i64 c.max, .slice s'.ai c.ins.length s'.ki, .slice s'.al c.lats.length s'.kl, .slice s'.ao c.outs.length s'.ko, .slice s'.ab c.bads.length s'.kb, .slice s'.ac c.invs.length s'.kc, (.slice s'.aa (hashM c).ands.length s'.ka), .slice s'.an c.names.length s'.kn] 27 (0, 0))) := fun x hx => (hx.block _ (Nat.lt_of_lt_of_le (lt_of_block D5.out) HOK.out.size)).trans ((HOK.out.block _ (lt_of_block D5.out)).trans D5.out)
      have BW3 : Hid (Below Xp.heap.size Xp w3) := B5.out.trans (HOK.out.mono B5.out.size)
      have HZ := Lib.hid (ref_sizes HR.out)
      have TF : Hid (∀ x, Told c x → (0 ≤ x ∧ x / 2 < ((c.max.toNat + 1 : Nat) : Int)) ∧ (0 ≤ ofM (runM c.ands).F x ∧ ofM (runM c.ands).F x / 2 < ((c.max.toNat + 1 : Nat) : Int)) ∧ bitM V1 x = bitM V2 (ofM (runM c.ands).F x)) := fun x hx => by rw [HV1.out, HV2.out]; exact told_facts HR.out _ hx
      have MS := Lib.hid (max_small HR.out)
      have BQ : Hid (∀ g V x v, IsBits w3 g (c.max.toNat + 1) V → (0 ≤ x ∧ x / 2 < ((c.max.toNat + 1 : Nat) : Int)) → bitM V x = v → ∀ w4, Below w3.heap.size w3 w4 → ∀ q, Calls Try.prog 15 #[.slice (some ⟨g, 0, none⟩) (c.max.toNat + 1) (c.max.toNat + 1), .int .i64 x] (w4.drewN q) fun e w' => e = .returned (.bool v) ∧ ∃ m, w' = (w4.drewN q).drewN m) := fun g V x v hi hx hv w4 h4 q => by
        rw [← hv]
        exact bit_any g _ V x (w4.drewN q) ((hi.below h4).keep rfl) MS.out hx.1 hx.2
      go_loopw [9] (fun i wr => ∃ j : Nat, j ≤ c.lats.length ∧ i = .int .i64 j ∧ Below w3.heap.size w3 wr) (fun i _ => c.lats.length - (intOf i).toNat)
      case atStart => exact ⟨0, Nat.zero_le _, rfl, Below.refl _ _⟩
      case round =>
        obtain ⟨j, hj, rfl, hbj⟩ := hrel
        have BJ := Lib.hid hbj
        clear hbj
        have zl : c.lats.length ≤ 64 := HZ.out.2.1
        obtain ⟨e0, e1, e2, e3, e4, e5, e6, e7⟩ := cells8 (KX.out wr BJ.out)
        obtain ⟨d0, d1, d2, d3, d4, d5, d6, d7⟩ := eight (DX.out wr BJ.out)
        by_cases hlt : j < c.lats.length
        · have BXJ : Hid (Below Xp.heap.size Xp wr) := BW3.out.trans (BJ.out.mono BW3.out.size)
          obtain ⟨b1, o1, hA1, -, c0, c1, c2⟩ := LRow.tri (LW.out wr (BP.out.trans (BXJ.out.mono BP.out.size))).lats hlt
          obtain ⟨b2, o2, hA2, -, x0, x1, x2⟩ := LRow.tri (LD.out wr BXJ.out).lats (k := j) (by show j < (c.lats.map _).length; rw [List.length_map]; exact hlt)
          have hD : (hashM c).lats[j]'(by show j < (c.lats.map _).length; rw [List.length_map]; exact hlt) = latH (ofM (runM c.ands).F) c.lats[j] := List.getElem_map _
          rw [hD] at x0 x1 x2
          unfold latH at x0 x1 x2
          have HT := Lib.hid (TF.out c.lats[j].b (.inr (.inr (.inr ⟨_, List.getElem_mem hlt, rfl⟩))))
          rw [hA1] at e2
          rw [hA2] at d2
          clear hA1 hA2 hD
          generalize c.lats[j] = t at *
          generalize ofM (runM c.ands).F t.b = y at *
          obtain ⟨v, hv⟩ : ∃ v, bitM V2 y = v := ⟨_, rfl⟩
          have RB1 := Lib.hid (BQ.out gA V1 t.b v HIA.out HT.out.1 (HT.out.2.2.trans hv))
          have RB2 := Lib.hid (BQ.out gB V2 y v HIB.out HT.out.2.1 hv)
          clear hv HT
          have hbl : ∀ x, Below wr.heap.size wr x → x.cell? ⟨w.heap.size, 2, none⟩ = some (.slice (some ⟨b1, o1, none⟩) c.lats.length s.kl) ∧ x.cell? ⟨w1.heap.size, 2, none⟩ = some (.slice (some ⟨b2, o2, none⟩) c.lats.length s'.kl) ∧ x.cell? ⟨b1, o1 + j * 3, none⟩ = some (.int .i64 t.a) ∧ x.cell? ⟨b1, o1 + j * 3 + 1, none⟩ = some (.int .i64 t.b) ∧ x.cell? ⟨b1, o1 + j * 3 + 2, none⟩ = some (.int .i64 t.c) ∧ x.cell? ⟨b2, o2 + j * 3, none⟩ = some (.int .i64 t.a) ∧ x.cell? ⟨b2, o2 + j * 3 + 1, none⟩ = some (.int .i64 y) ∧ x.cell? ⟨b2, o2 + j * 3 + 2, none⟩ = some (.int .i64 t.c) := fun x hx => ⟨cell_later hx e2, cell_later hx d2, cell_later hx c0, cell_later hx c1, cell_later hx c2, cell_later hx x0, cell_later hx x1, cell_later hx x2⟩
          have bz1 : ∀ O, Below wr.heap.size wr (wr.alloc O) := fun O => (Below.refl _ _).alloc (Nat.le_refl _) _
          have bz2 : ∀ O P, Below wr.heap.size wr ((wr.alloc O).alloc P) := fun O P => (bz1 O).alloc (bz1 O).size _
          have f0 : ∀ O, (wr.alloc O).drew.cell? ⟨w.heap.size, 2, none⟩ = some (.slice (some ⟨b1, o1, none⟩) c.lats.length s.kl) := fun O => (hbl _ (bz1 O).drew).1
          have g0 : ∀ O P, ((wr.alloc O).alloc P).drew.cell? ⟨w.heap.size, 2, none⟩ = some (.slice (some ⟨b1, o1, none⟩) c.lats.length s.kl) := fun O P => (hbl _ (bz2 O P).drew).1
          have k0 : ∀ O, (wr.alloc O).cell? ⟨w.heap.size, 2, none⟩ = some (.slice (some ⟨b1, o1, none⟩) c.lats.length s.kl) := fun O => (hbl _ (bz1 O)).1
          have l0 : ∀ O P, ((wr.alloc O).alloc P).cell? ⟨w.heap.size, 2, none⟩ = some (.slice (some ⟨b1, o1, none⟩) c.lats.length s.kl) := fun O P => (hbl _ (bz2 O P)).1
          have f1 : ∀ O, (wr.alloc O).drew.cell? ⟨w1.heap.size, 2, none⟩ = some (.slice (some ⟨b2, o2, none⟩) c.lats.length s'.kl) := fun O => (hbl _ (bz1 O).drew).2.1
          have g1 : ∀ O P, ((wr.alloc O).alloc P).drew.cell? ⟨w1.heap.size, 2, none⟩ = some (.slice (some ⟨b2, o2, none⟩) c.lats.length s'.kl) := fun O P => (hbl _ (bz2 O P).drew).2.1
          have k1 : ∀ O, (wr.alloc O).cell? ⟨w1.heap.size, 2, none⟩ = some (.slice (some ⟨b2, o2, none⟩) c.lats.length s'.kl) := fun O => (hbl _ (bz1 O)).2.1
          have l1 : ∀ O P, ((wr.alloc O).alloc P).cell? ⟨w1.heap.size, 2, none⟩ = some (.slice (some ⟨b2, o2, none⟩) c.lats.length s'.kl) := fun O P => (hbl _ (bz2 O P)).2.1
          have f2 : ∀ O, (wr.alloc O).drew.cell? ⟨b1, o1 + j * 3, none⟩ = some (.int .i64 t.a) := fun O => (hbl _ (bz1 O).drew).2.2.1
          have g2 : ∀ O P, ((wr.alloc O).alloc P).drew.cell? ⟨b1, o1 + j * 3, none⟩ = some (.int .i64 t.a) := fun O P => (hbl _ (bz2 O P).drew).2.2.1
          have k2 : ∀ O, (wr.alloc O).cell? ⟨b1, o1 + j * 3, none⟩ = some (.int .i64 t.a) := fun O => (hbl _ (bz1 O)).2.2.1
          have l2 : ∀ O P, ((wr.alloc O).alloc P).cell? ⟨b1, o1 + j * 3, none⟩ = some (.int .i64 t.a) := fun O P => (hbl _ (bz2 O P)).2.2.1
          have f3 : ∀ O, (wr.alloc O).drew.cell? ⟨b1, o1 + j * 3 + 1, none⟩ = some (.int .i64 t.b) := fun O => (hbl _ (bz1 O).drew).2.2.2.1
          have g3 : ∀ O P, ((wr.alloc O).alloc P).drew.cell? ⟨b1, o1 + j * 3 + 1, none⟩ = some (.int .i64 t.b) := fun O P => (hbl _ (bz2 O P).drew).2.2.2.1
          have k3 : ∀ O, (wr.alloc O).cell? ⟨b1, o1 + j * 3 + 1, none⟩ = some (.int .i64 t.b) := fun O => (hbl _ (bz1 O)).2.2.2.1
          have l3 : ∀ O P, ((wr.alloc O).alloc P).cell? ⟨b1, o1 + j * 3 + 1, none⟩ = some (.int .i64 t.b) := fun O P => (hbl _ (bz2 O P)).2.2.2.1
          have f4 : ∀ O, (wr.alloc O).drew.cell? ⟨b1, o1 + j * 3 + 2, none⟩ = some (.int .i64 t.c) := fun O => (hbl _ (bz1 O).drew).2.2.2.2.1
          have g4 : ∀ O P, ((wr.alloc O).alloc P).drew.cell? ⟨b1, o1 + j * 3 + 2, none⟩ = some (.int .i64 t.c) := fun O P => (hbl _ (bz2 O P).drew).2.2.2.2.1
          have k4 : ∀ O, (wr.alloc O).cell? ⟨b1, o1 + j * 3 + 2, none⟩ = some (.int .i64 t.c) := fun O => (hbl _ (bz1 O)).2.2.2.2.1
          have l4 : ∀ O P, ((wr.alloc O).alloc P).cell? ⟨b1, o1 + j * 3 + 2, none⟩ = some (.int .i64 t.c) := fun O P => (hbl _ (bz2 O P)).2.2.2.2.1
          have f5 : ∀ O, (wr.alloc O).drew.cell? ⟨b2, o2 + j * 3, none⟩ = some (.int .i64 t.a) := fun O => (hbl _ (bz1 O).drew).2.2.2.2.2.1
          have g5 : ∀ O P, ((wr.alloc O).alloc P).drew.cell? ⟨b2, o2 + j * 3, none⟩ = some (.int .i64 t.a) := fun O P => (hbl _ (bz2 O P).drew).2.2.2.2.2.1
          have k5 : ∀ O, (wr.alloc O).cell? ⟨b2, o2 + j * 3, none⟩ = some (.int .i64 t.a) := fun O => (hbl _ (bz1 O)).2.2.2.2.2.1
          have l5 : ∀ O P, ((wr.alloc O).alloc P).cell? ⟨b2, o2 + j * 3, none⟩ = some (.int .i64 t.a) := fun O P => (hbl _ (bz2 O P)).2.2.2.2.2.1
          have f6 : ∀ O, (wr.alloc O).drew.cell? ⟨b2, o2 + j * 3 + 1, none⟩ = some (.int .i64 y) := fun O => (hbl _ (bz1 O).drew).2.2.2.2.2.2.1
          have g6 : ∀ O P, ((wr.alloc O).alloc P).drew.cell? ⟨b2, o2 + j * 3 + 1, none⟩ = some (.int .i64 y) := fun O P => (hbl _ (bz2 O P).drew).2.2.2.2.2.2.1
          have k6 : ∀ O, (wr.alloc O).cell? ⟨b2, o2 + j * 3 + 1, none⟩ = some (.int .i64 y) := fun O => (hbl _ (bz1 O)).2.2.2.2.2.2.1
          have l6 : ∀ O P, ((wr.alloc O).alloc P).cell? ⟨b2, o2 + j * 3 + 1, none⟩ = some (.int .i64 y) := fun O P => (hbl _ (bz2 O P)).2.2.2.2.2.2.1
          have f7 : ∀ O, (wr.alloc O).drew.cell? ⟨b2, o2 + j * 3 + 2, none⟩ = some (.int .i64 t.c) := fun O => (hbl _ (bz1 O).drew).2.2.2.2.2.2.2
          have g7 : ∀ O P, ((wr.alloc O).alloc P).drew.cell? ⟨b2, o2 + j * 3 + 2, none⟩ = some (.int .i64 t.c) := fun O P => (hbl _ (bz2 O P).drew).2.2.2.2.2.2.2
          have k7 : ∀ O, (wr.alloc O).cell? ⟨b2, o2 + j * 3 + 2, none⟩ = some (.int .i64 t.c) := fun O => (hbl _ (bz1 O)).2.2.2.2.2.2.2
          have l7 : ∀ O P, ((wr.alloc O).alloc P).cell? ⟨b2, o2 + j * 3 + 2, none⟩ = some (.int .i64 t.c) := fun O P => (hbl _ (bz2 O P)).2.2.2.2.2.2.2
          clear hbl bz1 bz2
          go_wp2
          go_region
          · clear f0 f1 f2 f3 f4 f5 f6 f7 g0 g1 g2 g3 g4 g5 g6 g7 k0 k1 k2 k3 k4 k5 k6 k7 l0 l1 l2 l3 l4 l5 l6 l7 e0 e1 e2 e3 e4 e5 e6 e7 d0 d1 d2 d3 d4 d5 d6 d7 c0 c1 c2 x0 x1 x2
            obtain ⟨wk, hwk⟩ : ∃ x, ((wr.alloc (.cells #[.int .i64 t.a, .int .i64 t.b, .int .i64 t.c] 39)).alloc (.cells #[.int .i64 t.a, .int .i64 y, .int .i64 t.c] 39)).drew = x := ⟨_, rfl⟩
            have bk : Below wr.heap.size wr wk := by rw [← hwk]; exact (((Below.refl _ _).alloc (Nat.le_refl _) _).alloc (by simp) _).drew
            have q1 : wk.heap[wr.heap.size]? = some (.cells #[.int .i64 t.a, .int .i64 t.b, .int .i64 t.c] 39 (0, 0)) := by
              rw [← hwk]
              exact (two_boxes wr _ _).1
            have q2 : wk.heap[wr.heap.size + 1]? = some (.cells #[.int .i64 t.a, .int .i64 y, .int .i64 t.c] 39 (0, 0)) := by
              rw [← hwk]
              exact (two_boxes wr _ _).2
            have n0 : wk.cell? ⟨wr.heap.size, 0, none⟩ = some (.int .i64 t.a) := by rw [Lib.cell_of_heap q1]; rfl
            have n1 : wk.cell? ⟨wr.heap.size, 1, none⟩ = some (.int .i64 t.b) := by rw [Lib.cell_of_heap q1]; rfl
            have n2 : wk.cell? ⟨wr.heap.size, 2, none⟩ = some (.int .i64 t.c) := by rw [Lib.cell_of_heap q1]; rfl
            have n3 : wk.cell? ⟨wr.heap.size + 1, 0, none⟩ = some (.int .i64 t.a) := by rw [Lib.cell_of_heap q2]; rfl
            have n4 : wk.cell? ⟨wr.heap.size + 1, 1, none⟩ = some (.int .i64 y) := by rw [Lib.cell_of_heap q2]; rfl
            have n5 : wk.cell? ⟨wr.heap.size + 1, 2, none⟩ = some (.int .i64 t.c) := by rw [Lib.cell_of_heap q2]; rfl
            have BK : Hid (Below w3.heap.size w3 wk) := BJ.out.trans (bk.mono BJ.out.size)
            have RC1 := Lib.hid (RB1.out wk BK.out)
            have RC2 := Lib.hid (RB2.out wk BK.out)
            clear q1 q2 bk
            rw [hwk]
            clear hwk
            go_wp2
            go_quiet ((first | (go_at_call 15; with_reducible exact Calls.quiet_of (RC1.out _)) | (go_at_call 15; with_reducible exact Calls.quiet_of (RC2.out _))))
            have BN : Hid (Below w3.heap.size w3 (wk.drewN nq)) := BK.out.trans ((below_drewN _ _).mono BK.out.size)
            clear n0 n1 n2 n3 n4 n5 RC1 RC2
            go_wp2
            go_roundw
            case rel => exact ⟨j + 1, by omega, by go_num, BN.out⟩
            case measure => simp [intOf]; omega
          · clear f0 f1 f2 f3 f4 f5 f6 f7 g0 g1 g2 g3 g4 g5 g6 g7 k0 k1 k2 k3 k4 k5 k6 k7 l0 l1 l2 l3 l4 l5 l6 l7 e0 e1 e2 e3 e4 e5 e6 e7 d0 d1 d2 d3 d4 d5 d6 d7 c0 c1 c2 x0 x1 x2
            obtain ⟨wk, hwk⟩ : ∃ x, ((wr.alloc (.cells #[.int .i64 t.a, .int .i64 y, .int .i64 t.c] 39)).alloc (.cells #[.int .i64 t.a, .int .i64 t.b, .int .i64 t.c] 39)).drew = x := ⟨_, rfl⟩
            have bk : Below wr.heap.size wr wk := by rw [← hwk]; exact (((Below.refl _ _).alloc (Nat.le_refl _) _).alloc (by simp) _).drew
            have q1 : wk.heap[wr.heap.size]? = some (.cells #[.int .i64 t.a, .int .i64 y, .int .i64 t.c] 39 (0, 0)) := by
              rw [← hwk]
              exact (two_boxes wr _ _).1
            have q2 : wk.heap[wr.heap.size + 1]? = some (.cells #[.int .i64 t.a, .int .i64 t.b, .int .i64 t.c] 39 (0, 0)) := by
              rw [← hwk]
              exact (two_boxes wr _ _).2
            have n0 : wk.cell? ⟨wr.heap.size + 1, 0, none⟩ = some (.int .i64 t.a) := by rw [Lib.cell_of_heap q2]; rfl
            have n1 : wk.cell? ⟨wr.heap.size + 1, 1, none⟩ = some (.int .i64 t.b) := by rw [Lib.cell_of_heap q2]; rfl
            have n2 : wk.cell? ⟨wr.heap.size + 1, 2, none⟩ = some (.int .i64 t.c) := by rw [Lib.cell_of_heap q2]; rfl
            have n3 : wk.cell? ⟨wr.heap.size, 0, none⟩ = some (.int .i64 t.a) := by rw [Lib.cell_of_heap q1]; rfl
            have n4 : wk.cell? ⟨wr.heap.size, 1, none⟩ = some (.int .i64 y) := by rw [Lib.cell_of_heap q1]; rfl
            have n5 : wk.cell? ⟨wr.heap.size, 2, none⟩ = some (.int .i64 t.c) := by rw [Lib.cell_of_heap q1]; rfl
            have BK : Hid (Below w3.heap.size w3 wk) := BJ.out.trans (bk.mono BJ.out.size)
            have RC1 := Lib.hid (RB1.out wk BK.out)
            have RC2 := Lib.hid (RB2.out wk BK.out)
            clear q1 q2 bk
            rw [hwk]
            clear hwk
            go_wp2
            go_quiet ((first | (go_at_call 15; with_reducible exact Calls.quiet_of (RC1.out _)) | (go_at_call 15; with_reducible exact Calls.quiet_of (RC2.out _))))
            have BN : Hid (Below w3.heap.size w3 (wk.drewN nq)) := BK.out.trans ((below_drewN _ _).mono BK.out.size)
            clear n0 n1 n2 n3 n4 n5 RC1 RC2
            go_wp2
            go_roundw
            case rel => exact ⟨j + 1, by omega, by go_num, BN.out⟩
            case measure => simp [intOf]; omega
        · obtain rfl : j = c.lats.length := by omega
          obtain ⟨wo9, rfl⟩ : ∃ x, x = wr := ⟨_, rfl⟩
          go_wp2
          clear e0 e1 e2 e3 e4 e5 e6 e7 d0 d1 d2 d3 d4 d5 d6 d7
          go_loopw [12] (fun i wr => ∃ j : Nat, j ≤ c.outs.length ∧ i = .int .i64 j ∧ Below w3.heap.size w3 wr) (fun i _ => c.outs.length - (intOf i).toNat)
          case atStart => exact ⟨0, Nat.zero_le _, rfl, BJ.out⟩
          case round =>
            clear BJ
            obtain ⟨j, hj, rfl, hbj⟩ := hrel
            have BJ := Lib.hid hbj
            clear hbj
            have zl : c.outs.length ≤ 64 := by have := HZ.out; omega
            obtain ⟨e0, e1, e2, e3, e4, e5, e6, e7⟩ := cells8 (KX.out wr BJ.out)
            obtain ⟨d0, d1, d2, d3, d4, d5, d6, d7⟩ := eight (DX.out wr BJ.out)
            by_cases hlt : j < c.outs.length
            · have BXJ : Hid (Below Xp.heap.size Xp wr) := BW3.out.trans (BJ.out.mono BW3.out.size)
              obtain ⟨b1, o1, hA1, -, c0⟩ := LRow.int (LW.out wr (BP.out.trans (BXJ.out.mono BP.out.size))).outs hlt
              obtain ⟨b2, o2, hA2, -, x0⟩ := LRow.int (LD.out wr BXJ.out).outs (k := j) (by show j < (c.outs.map _).length; rw [List.length_map]; exact hlt)
              have hD : (hashM c).outs[j]'(by show j < (c.outs.map _).length; rw [List.length_map]; exact hlt) = ofM (runM c.ands).F c.outs[j] := List.getElem_map _
              rw [hD] at x0
              have HT := Lib.hid (TF.out c.outs[j] (.inl (List.getElem_mem hlt)))
              rw [hA1] at e3
              rw [hA2] at d3
              clear hA1 hA2 hD
              generalize c.outs[j] = t at *
              generalize ofM (runM c.ands).F t = y at *
              obtain ⟨v, hv⟩ : ∃ v, bitM V2 y = v := ⟨_, rfl⟩
              have RC1 := Lib.hid (BQ.out gA V1 t v HIA.out HT.out.1 (HT.out.2.2.trans hv) wr BJ.out)
              have RC2 := Lib.hid (BQ.out gB V2 y v HIB.out HT.out.2.1 hv wr BJ.out)
              clear hv HT
              go_wp2
              go_quiet ((first | (go_at_call 15; with_reducible exact Calls.quiet_of (RC1.out _)) | (go_at_call 15; with_reducible exact Calls.quiet_of (RC2.out _))))
              have BN : Hid (Below w3.heap.size w3 (wr.drewN nq)) := BJ.out.trans ((below_drewN _ _).mono BJ.out.size)
              clear RC1 RC2 c0 x0 e0 e1 e2 e3 e4 e5 e6 e7 d0 d1 d2 d3 d4 d5 d6 d7
              go_wp2
              go_roundw
              case rel => exact ⟨j + 1, by omega, by go_num, BN.out⟩
              case measure => simp [intOf]; omega
            · obtain rfl : j = c.outs.length := by omega
              obtain ⟨wo12, rfl⟩ : ∃ x, x = wr := ⟨_, rfl⟩
              go_wp2
              clear e0 e1 e2 e3 e4 e5 e6 e7 d0 d1 d2 d3 d4 d5 d6 d7
              go_loopw [13] (fun i wr => ∃ j : Nat, j ≤ c.bads.length ∧ i = .int .i64 j ∧ Below w3.heap.size w3 wr) (fun i _ => c.bads.length - (intOf i).toNat)
              case atStart => exact ⟨0, Nat.zero_le _, rfl, BJ.out⟩
              case round =>
                clear BJ
                obtain ⟨j, hj, rfl, hbj⟩ := hrel
                have BJ := Lib.hid hbj
                clear hbj
                have zl : c.bads.length ≤ 64 := by have := HZ.out; omega
                obtain ⟨e0, e1, e2, e3, e4, e5, e6, e7⟩ := cells8 (KX.out wr BJ.out)
                obtain ⟨d0, d1, d2, d3, d4, d5, d6, d7⟩ := eight (DX.out wr BJ.out)
                by_cases hlt : j < c.bads.length
                · have BXJ : Hid (Below Xp.heap.size Xp wr) := BW3.out.trans (BJ.out.mono BW3.out.size)
                  obtain ⟨b1, o1, hA1, -, c0⟩ := LRow.int (LW.out wr (BP.out.trans (BXJ.out.mono BP.out.size))).bads hlt
                  obtain ⟨b2, o2, hA2, -, x0⟩ := LRow.int (LD.out wr BXJ.out).bads (k := j) (by show j < (c.bads.map _).length; rw [List.length_map]; exact hlt)
                  have hD : (hashM c).bads[j]'(by show j < (c.bads.map _).length; rw [List.length_map]; exact hlt) = ofM (runM c.ands).F c.bads[j] := List.getElem_map _
                  rw [hD] at x0
                  have HT := Lib.hid (TF.out c.bads[j] (.inr (.inl (List.getElem_mem hlt))))
                  rw [hA1] at e4
                  rw [hA2] at d4
                  clear hA1 hA2 hD
                  generalize c.bads[j] = t at *
                  generalize ofM (runM c.ands).F t = y at *
                  obtain ⟨v, hv⟩ : ∃ v, bitM V2 y = v := ⟨_, rfl⟩
                  have RC1 := Lib.hid (BQ.out gA V1 t v HIA.out HT.out.1 (HT.out.2.2.trans hv) wr BJ.out)
                  have RC2 := Lib.hid (BQ.out gB V2 y v HIB.out HT.out.2.1 hv wr BJ.out)
                  clear hv HT
                  go_wp2
                  go_quiet ((first | (go_at_call 15; with_reducible exact Calls.quiet_of (RC1.out _)) | (go_at_call 15; with_reducible exact Calls.quiet_of (RC2.out _))))
                  have BN : Hid (Below w3.heap.size w3 (wr.drewN nq)) := BJ.out.trans ((below_drewN _ _).mono BJ.out.size)
                  clear RC1 RC2 c0 x0 e0 e1 e2 e3 e4 e5 e6 e7 d0 d1 d2 d3 d4 d5 d6 d7
                  go_wp2
                  go_roundw
                  case rel => exact ⟨j + 1, by omega, by go_num, BN.out⟩
                  case measure => simp [intOf]; omega
                · obtain rfl : j = c.bads.length := by omega
                  obtain ⟨wo13, rfl⟩ : ∃ x, x = wr := ⟨_, rfl⟩
                  go_wp2
                  clear e0 e1 e2 e3 e4 e5 e6 e7 d0 d1 d2 d3 d4 d5 d6 d7
                  go_loopw [14] (fun i wr => ∃ j : Nat, j ≤ c.invs.length ∧ i = .int .i64 j ∧ Below w3.heap.size w3 wr) (fun i _ => c.invs.length - (intOf i).toNat)
                  case atStart => exact ⟨0, Nat.zero_le _, rfl, BJ.out⟩
                  case round =>
                    clear BJ
                    obtain ⟨j, hj, rfl, hbj⟩ := hrel
                    have BJ := Lib.hid hbj
                    clear hbj
                    have zl : c.invs.length ≤ 64 := by have := HZ.out; omega
                    obtain ⟨e0, e1, e2, e3, e4, e5, e6, e7⟩ := cells8 (KX.out wr BJ.out)
                    obtain ⟨d0, d1, d2, d3, d4, d5, d6, d7⟩ := eight (DX.out wr BJ.out)
                    by_cases hlt : j < c.invs.length
                    · have BXJ : Hid (Below Xp.heap.size Xp wr) := BW3.out.trans (BJ.out.mono BW3.out.size)
                      obtain ⟨b1, o1, hA1, -, c0⟩ := LRow.int (LW.out wr (BP.out.trans (BXJ.out.mono BP.out.size))).invs hlt
                      obtain ⟨b2, o2, hA2, -, x0⟩ := LRow.int (LD.out wr BXJ.out).invs (k := j) (by show j < (c.invs.map _).length; rw [List.length_map]; exact hlt)
                      have hD : (hashM c).invs[j]'(by show j < (c.invs.map _).length; rw [List.length_map]; exact hlt) = ofM (runM c.ands).F c.invs[j] := List.getElem_map _
                      rw [hD] at x0
                      have HT := Lib.hid (TF.out c.invs[j] (.inr (.inr (.inl (List.getElem_mem hlt)))))
                      rw [hA1] at e5
                      rw [hA2] at d5
                      clear hA1 hA2 hD
                      generalize c.invs[j] = t at *
                      generalize ofM (runM c.ands).F t = y at *
                      obtain ⟨v, hv⟩ : ∃ v, bitM V2 y = v := ⟨_, rfl⟩
                      have RC1 := Lib.hid (BQ.out gA V1 t v HIA.out HT.out.1 (HT.out.2.2.trans hv) wr BJ.out)
                      have RC2 := Lib.hid (BQ.out gB V2 y v HIB.out HT.out.2.1 hv wr BJ.out)
                      clear hv HT
                      go_wp2
                      go_quiet ((first | (go_at_call 15; with_reducible exact Calls.quiet_of (RC1.out _)) | (go_at_call 15; with_reducible exact Calls.quiet_of (RC2.out _))))
                      have BN : Hid (Below w3.heap.size w3 (wr.drewN nq)) := BJ.out.trans ((below_drewN _ _).mono BJ.out.size)
                      clear RC1 RC2 c0 x0 e0 e1 e2 e3 e4 e5 e6 e7 d0 d1 d2 d3 d4 d5 d6 d7
                      go_wp2
                      go_roundw
                      case rel => exact ⟨j + 1, by omega, by go_num, BN.out⟩
                      case measure => simp [intOf]; omega
                    · obtain rfl : j = c.invs.length := by omega
                      obtain ⟨wo14, rfl⟩ : ∃ x, x = wr := ⟨_, rfl⟩
                      have BF : Hid (Below w.heap.size w wo14) := BP.out.trans ((BW3.out.trans (BJ.out.mono BW3.out.size)).mono BP.out.size)
                      go_wp2
                      go_ret
                      exact ⟨rfl, BF.out⟩
end Go.Proofs.Ytpaneggajjgdlaa.Str
