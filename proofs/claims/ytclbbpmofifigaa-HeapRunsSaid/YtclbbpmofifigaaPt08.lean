/- heap's knows, stand, swap, better, up, down, move, kept, empty over a tree in memory. Condition: places and numbers are in range. -/
import Derived.Test.YtclbbpmofifigaaPt07
import Derived.BigQuiet
namespace Go.Proofs.Ytclbbpmofifigaa.Hep
open Go.ChangeShapes Go.WideShapes Go.ChangeAt Go.RowKit Go.Maps Circ Cw Cla

set_option maxHeartbeats 4000000 in
set_option maxRecDepth 100000 in
theorem knows_any (t n q : Nat) (A : Option Addr) (x : Int) (w : World) (hc : w.cell? ⟨t, 0, none⟩ = some (.slice A n q)) :
    Calls Try.prog 19 #[.pointer (some ⟨t, 0, none⟩), .int .i64 x] w fun e w' => e = .returned (.bool (decide (0 ≤ x) && decide (x < (n : Int)))) ∧ w' = w := by
  by_cases h0 : 0 ≤ x
  · have d0 : decide (0 ≤ x) = true := decide_eq_true h0
    by_cases h1 : x < (n : Int)
    · have d1 : decide (x < (n : Int)) = true := decide_eq_true h1
      rw [d0, d1]
      go_enter Try.func19, Try.ntmps19
      go_wp2
      go_ret
      exact ⟨rfl, rfl⟩
    · have d1 : decide (x < (n : Int)) = false := decide_eq_false h1
      rw [d0, d1]
      go_enter Try.func19, Try.ntmps19
      go_wp2
      go_ret
      exact ⟨rfl, rfl⟩
  · have d0 : decide (0 ≤ x) = false := decide_eq_false h0
    rw [d0, Bool.false_and]
    go_enter Try.func19, Try.ntmps19
    go_wp2
    go_ret
    exact ⟨rfl, rfl⟩
section
variable {w : World} {t : Nat} {vc vo : Value} {sc pl od : List Int}
set_option maxHeartbeats 4000000 in
set_option maxRecDepth 100000 in
theorem better_any (h : Tree w t vc vo sc pl od) (a b : Nat) (al : a < od.length) (bl : b < od.length) (hx : 0 ≤ at0 od a ∧ at0 od a < (sc.length : Int)) (hy : 0 ≤ at0 od b ∧ at0 od b < (sc.length : Int)) :
    Calls Try.prog 25 #[.pointer (some ⟨t, 0, none⟩), .int .i64 (a : Int), .int .i64 (b : Int)] w fun e w' => e = .returned (.bool (decide (bet sc (at0 od a) (at0 od b)))) ∧ Below w.heap.size w w' := by
  obtain ⟨c0, c1⟩ := h.cells
  obtain ⟨go, qo, rfl, ho1, ho2, co, -⟩ := h.ord (by omega)
  obtain ⟨Ac, qc, rfl, hc1, hc2, hrow⟩ := h.row
  obtain ⟨gc, rfl, cc, -⟩ := hrow (by omega)
  have ca := co a al
  have cb := co b bl
  obtain ⟨x, ex⟩ : ∃ x : Nat, at0 od a = (x : Int) := ⟨(at0 od a).toNat, by omega⟩
  obtain ⟨y, ey⟩ : ∃ y : Nat, at0 od b = (y : Int) := ⟨(at0 od b).toNat, by omega⟩
  rw [ex] at ca hx ⊢
  rw [ey] at cb hy ⊢
  have cx := (cc x (by omega)).1
  have cy := (cc y (by omega)).1
  have HB : Hid (∀ r : Bool, r = decide (at0 sc y < at0 sc x ∨ (at0 sc x = at0 sc y ∧ (x : Int) < (y : Int))) → Ending.returned (.bool r) = .returned (.bool (decide (bet sc (x : Int) (y : Int))))) := fun r hr => by
    rw [hr]; rfl
  generalize at0 sc x = sx at *
  generalize at0 sc y = sy at *
  have a0 : (0 : Int) ≤ (a : Int) := by omega
  have a1 : (a : Int) < (od.length : Int) := by omega
  have b0 : (0 : Int) ≤ (b : Int) := by omega
  have b1 : (b : Int) < (od.length : Int) := by omega
  obtain ⟨x0, x1⟩ := hx
  obtain ⟨y0, y1⟩ := hy
  clear co cc hrow h ex ey
  by_cases he : sx = sy
  · have d1 : (sx != sy) = false := by simp [he]
    have HR : Hid (decide (x < y) = decide (sy < sx ∨ (sx = sy ∧ (x : Int) < (y : Int)))) := by
      unfold Hid
      rw [Bool.eq_iff_iff, decide_eq_true_iff, decide_eq_true_iff]
      omega
    clear he
    go_enter Try.func25, Try.ntmps25
    go_wp2
    go_quiet (fail)
    go_wp2
    go_quiet (fail)
    go_wp2
    go_ret
    exact ⟨HB.out _ HR.out, (by repeat (first | exact Below.refl _ _ | apply below_drewN))⟩
  · have d1 : (sx != sy) = true := by simp [he]
    have HR : Hid (decide (sy < sx) = decide (sy < sx ∨ (sx = sy ∧ (x : Int) < (y : Int)))) := by
      unfold Hid
      rw [Bool.eq_iff_iff, decide_eq_true_iff, decide_eq_true_iff]
      omega
    clear he
    go_enter Try.func25, Try.ntmps25
    go_wp2
    go_quiet (fail)
    go_wp2
    go_quiet (fail)
    go_wp2
    go_quiet (fail)
    go_wp2
    go_ret
    exact ⟨HB.out _ HR.out, (by repeat (first | exact Below.refl _ _ | apply below_drewN))⟩
set_option maxHeartbeats 4000000 in
set_option maxRecDepth 100000 in
theorem stand_any (h : Tree w t vc vo sc pl od) (a x : Nat) (al : a < od.length) (xl : x < sc.length) :
    Calls Try.prog 20 #[.pointer (some ⟨t, 0, none⟩), .int .i64 (a : Int), .int .i64 (x : Int)] w fun e w' => e = .returned (.tuple #[]) ∧ Tree w' t vc vo sc (pl.set x (a : Int)) (od.set a (x : Int)) ∧ Chg (TOwn t vc vo) w w' := by
  obtain ⟨c0, c1⟩ := h.cells
  obtain ⟨go, qo, rfl, ho1, ho2, co, fo⟩ := h.ord (by omega)
  obtain ⟨Ac, qc, rfl, hc1, hc2, hrow⟩ := h.row
  obtain ⟨gc, rfl, -, -⟩ := hrow (by omega)
  have ca := co a al
  have fa := fo a
  obtain ⟨T1, B1⟩ := h.putO a (x : Int)
  obtain ⟨W1, hW1⟩ : ∃ y, w.setCell ⟨go, a, none⟩ (.int .i64 (x : Int)) = y := ⟨_, rfl⟩
  rw [hW1] at T1 B1
  obtain ⟨d0, -⟩ := T1.cells
  obtain ⟨A2, q2, e2, -, -, hrow2⟩ := T1.row
  injection e2 with e2 _ e2q
  subst e2q
  obtain ⟨g2, e3, hc3, fc3⟩ := hrow2 (by omega)
  subst e2
  injection e3 with e3
  injection e3 with e3
  subst e3
  have cx := (hc3 x xl).2
  have fx := fc3 (x * 2 + 1)
  obtain ⟨T2, B2⟩ := T1.putP x (a : Int)
  obtain ⟨W2, hW2⟩ : ∃ y, W1.setCell ⟨gc, x * 2 + 1, none⟩ (.int .i64 (a : Int)) = y := ⟨_, rfl⟩
  rw [hW2] at T2 B2
  have HEND : Hid (Tree W2 t (.slice (some ⟨gc, 0, none⟩) sc.length qc) (.slice (some ⟨go, 0, none⟩) od.length qo) sc (pl.set x (a : Int)) (od.set a (x : Int)) ∧ Chg (TOwn t (.slice (some ⟨gc, 0, none⟩) sc.length qc) (.slice (some ⟨go, 0, none⟩) od.length qo)) w W2) := by
    refine ⟨?_, (Chg.of_but B1 (.inr (.inr rfl))).trans (Chg.of_but B2 (.inr (.inl rfl) : TOwn t (.slice (some ⟨gc, 0, none⟩) sc.length qc) (.slice (some ⟨go, 0, none⟩) od.length qo) gc)) fun i hi => .inl hi⟩
    exact T2
  have a0 : (0 : Int) ≤ (a : Int) := by omega
  have a1 : (a : Int) < (od.length : Int) := by omega
  have x0 : (0 : Int) ≤ (x : Int) := by omega
  have x1 : (x : Int) < (sc.length : Int) := by omega
  clear T1 T2 B1 B2 h co fo hrow hrow2 hc3 fc3
  go_enter Try.func20, Try.ntmps20
  go_wp2
  go_end0
  exact ⟨rfl, HEND.out⟩
theorem Tree.drewN (h : Tree w t vc vo sc pl od) (n : Nat) : Tree (w.drewN n) t vc vo sc pl od := h.below (below_drewN (Below.refl _ _) n)
set_option maxHeartbeats 4000000 in
set_option maxRecDepth 100000 in
theorem swap_any (h : Tree w t vc vo sc pl od) (a b : Nat) (al : a < od.length) (bl : b < od.length) (hx : 0 ≤ at0 od a ∧ at0 od a < (sc.length : Int)) (hy : 0 ≤ at0 od b ∧ at0 od b < (sc.length : Int)) :
    Calls Try.prog 23 #[.pointer (some ⟨t, 0, none⟩), .int .i64 (a : Int), .int .i64 (b : Int)] w fun e w' => e = .returned (.tuple #[]) ∧ Tree w' t vc vo sc ((pl.set (at0 od b).toNat (a : Int)).set (at0 od a).toNat (b : Int)) (swapL od a b) ∧ Chg (TOwn t vc vo) w w' := by
  have HT := Lib.hid h
  obtain ⟨c0, c1⟩ := h.cells
  obtain ⟨go, qo, hvo, ho1, ho2, co, -⟩ := h.ord (by omega)
  have ca := co a al
  have cb := co b bl
  obtain ⟨x, ex⟩ : ∃ x : Nat, at0 od a = (x : Int) := ⟨(at0 od a).toNat, by omega⟩
  obtain ⟨y, ey⟩ : ∃ y : Nat, at0 od b = (y : Int) := ⟨(at0 od b).toNat, by omega⟩
  unfold swapL
  rw [ex] at ca hx ⊢
  rw [ey] at cb hy ⊢
  rw [Int.toNat_natCast, Int.toNat_natCast]
  have ST := Lib.hid (fun n : Nat => stand_any (h.drewN n) a y al (by omega))
  have SU := Lib.hid (fun (w1 : World) (h1 : Tree w1 t vc vo sc (pl.set y (a : Int)) (od.set a (y : Int))) => stand_any h1 b x (by rw [List.length_set]; exact bl) (by omega))
  have a0 : (0 : Int) ≤ (a : Int) := by omega
  have a1 : (a : Int) < (od.length : Int) := by omega
  have b0 : (0 : Int) ≤ (b : Int) := by omega
  have b1 : (b : Int) < (od.length : Int) := by omega
  have HC : Hid (∀ n, Chg (TOwn t vc vo) w (w.drewN n)) := fun n => Chg.of_below (below_drewN (Below.refl _ _) n)
  subst hvo
  clear h co ex ey hx hy
  go_enter Try.func23, Try.ntmps23
  go_wp2
  go_quiet (fail)
  clear c0 c1 ca cb
  go_wp2_with fail
  refine (ST.out _).mono ?_
  rintro e w1 ⟨rfl, T1, C1⟩
  have H1 := Lib.hid T1
  have K1 := Lib.hid ((HC.out _).trans C1 fun i hi => .inl hi)
  clear T1 C1
  go_wp2_with fail
  refine (SU.out w1 H1.out).mono ?_
  rintro e w2 ⟨rfl, T2, C2⟩
  have H2 := Lib.hid T2
  have K2 := Lib.hid (K1.out.trans C2 fun i hi => .inl hi)
  clear T2 C2
  go_wp2
  go_end0
  exact ⟨rfl, H2.out, K2.out⟩
/-- what stands at places is a number -/
def Rng (sc od : List Int) : Prop := ∀ i, 0 < i → i < od.length → 0 ≤ at0 od i ∧ at0 od i < (sc.length : Int)
set_option maxHeartbeats 4000000 in
set_option maxRecDepth 100000 in
theorem up_any (h : Tree w t vc vo sc pl od) (a : Nat) (al : a < od.length) (hn : od.length ≤ 262145) (R : Rng sc od) :
    Calls Try.prog 22 #[.pointer (some ⟨t, 0, none⟩), .int .i64 (a : Int)] w fun e w' => e = .returned (.int .i64 (upM sc od a : Int)) ∧ Below w.heap.size w w' := by
  obtain ⟨m, hm⟩ : ∃ m, a / 2 = m := ⟨_, rfl⟩
  have hq : (a : Int).tdiv 2 = (m : Int) := by rw [Int.tdiv_eq_ediv_of_nonneg (by omega)]; omega
  have ha : (a : Int) ≤ 262145 := by omega
  have ha0 : (0 : Int) ≤ (a : Int) := by omega
  have hm1 : (m : Int) ≤ 262145 := by omega
  have hm0 : (0 : Int) ≤ (m : Int) := by omega
  have HU : Hid (upM sc od a = if 0 < m ∧ bet sc (at0 od a) (at0 od m) then m else 0) := by rw [← hm]; rfl
  obtain ⟨r, hr⟩ : ∃ r, upM sc od a = r := ⟨_, rfl⟩
  rw [hr] at HU ⊢
  clear hr
  by_cases hp : 0 < m
  · have hpi : (0 : Int) < (m : Int) := by omega
    have BT := Lib.hid (better_any h a m al (by omega) (R a (by omega) al) (R m hp (by omega)))
    by_cases hb : bet sc (at0 od a) (at0 od m)
    · have HR : Hid (r = m) := by have := HU.out; rw [if_pos ⟨hp, hb⟩] at this; exact this
      rw [decide_eq_true hb] at BT
      clear HU hm hb h R
      go_enter Try.func22, Try.ntmps22
      go_wp2_with fail
      refine BT.out.mono ?_
      rintro e w1 ⟨rfl, hb1⟩
      have B1 := Lib.hid hb1
      clear hb1
      go_wp2
      go_ret
      exact ⟨by rw [HR.out]; rfl, B1.out⟩
    · have HR : Hid (r = 0) := by have := HU.out; rw [if_neg (fun e => hb e.2)] at this; exact this
      rw [decide_eq_false hb] at BT
      clear HU hm hb h R
      go_enter Try.func22, Try.ntmps22
      go_wp2_with fail
      refine BT.out.mono ?_
      rintro e w1 ⟨rfl, hb1⟩
      have B1 := Lib.hid hb1
      clear hb1
      go_wp2
      go_ret
      exact ⟨by rw [HR.out]; rfl, B1.out⟩
  · obtain rfl : m = 0 := by omega
    have HR : Hid (r = 0) := by have := HU.out; rw [if_neg (fun e => hp e.1)] at this; exact this
    clear HU hm h R
    go_enter Try.func22, Try.ntmps22
    go_wp2
    go_ret
    exact ⟨by rw [HR.out]; rfl, Below.refl _ _⟩
theorem bel_out {sc od : List Int} {b best : Nat} (h : od.length ≤ b) : belM sc od b best = best := by
  rcases bel_cases sc od b best with ⟨e, l, -⟩ | ⟨e, -⟩
  · omega
  · exact e
/-- the best one so far -/
def bestK (sc od : List Int) (a : Nat) : Nat → Nat
  | 0 => a
  | 1 => belM sc od (2 * a) a
  | _ => down2 sc od a
theorem bestK_next (sc od : List Int) (a : Nat) {k : Nat} (hk : k < 2) : bestK sc od a (k + 1) = belM sc od (2 * a + k) (bestK sc od a k) := by
  match k, hk with
  | 0, _ => rfl
  | 1, _ => rfl
theorem bestK_out (sc od : List Int) (a : Nat) {k : Nat} (hk : k ≤ 2) (h : k = 2 ∨ od.length ≤ 2 * a + k) : bestK sc od a k = down2 sc od a := by
  match k, hk with
  | 0, _ =>
    have h' : od.length ≤ 2 * a := by omega
    show a = belM sc od (2 * a + 1) (belM sc od (2 * a) a)
    rw [bel_out (by omega), bel_out h']
  | 1, _ =>
    have h' : od.length ≤ 2 * a + 1 := by omega
    show belM sc od (2 * a) a = belM sc od (2 * a + 1) (belM sc od (2 * a) a)
    rw [bel_out h']
  | 2, _ => rfl
theorem bestK_lt (sc od : List Int) (a : Nat) (ha : 0 < a) {k : Nat} (hk : k ≤ 2) : 0 < bestK sc od a k ∧ (bestK sc od a k = a ∨ bestK sc od a k < od.length) := by
  have h1 : 0 < belM sc od (2 * a) a ∧ (belM sc od (2 * a) a = a ∨ belM sc od (2 * a) a < od.length) := by
    rcases bel_cases sc od (2 * a) a with ⟨e, l, -⟩ | ⟨e, -⟩
    · rw [e]; exact ⟨by omega, .inr l⟩
    · rw [e]; exact ⟨ha, .inl rfl⟩
  match k, hk with
  | 0, _ => exact ⟨ha, .inl rfl⟩
  | 1, _ => exact h1
  | 2, _ =>
    show 0 < belM sc od (2 * a + 1) (belM sc od (2 * a) a) ∧ (belM sc od (2 * a + 1) (belM sc od (2 * a) a) = a ∨ belM sc od (2 * a + 1) (belM sc od (2 * a) a) < od.length)
    rcases bel_cases sc od (2 * a + 1) (belM sc od (2 * a) a) with ⟨e, l, -⟩ | ⟨e, -⟩
    · rw [e]; exact ⟨by omega, .inr l⟩
    · rw [e]; exact h1
set_option maxHeartbeats 8000000 in
set_option maxRecDepth 100000 in
theorem down_any (h : Tree w t vc vo sc pl od) (a : Nat) (ha : 0 < a) (al : a < 262146) (hn : od.length ≤ 262145) (hz : 0 < od.length) (R : Rng sc od) :
    Calls Try.prog 24 #[.pointer (some ⟨t, 0, none⟩), .int .i64 (a : Int)] w fun e w' => e = .returned (.int .i64 (downM sc od a : Int)) ∧ Below w.heap.size w w' := by
  obtain ⟨go, qo, hvo, ho1, ho2, -, -⟩ := h.ord hz
  have HC : Hid (∀ W, Below w.heap.size w W → W.cell? ⟨t, 1, none⟩ = some (.slice (some ⟨go, 0, none⟩) od.length qo)) := fun W hW => by rw [← hvo]; exact (h.below hW).cells.2
  have HB : Hid (∀ k, k < 2 → 2 * a + k < od.length → ∀ W, Below w.heap.size w W → Calls Try.prog 25 #[.pointer (some ⟨t, 0, none⟩), .int .i64 ((2 * a + k : Nat) : Int), .int .i64 (bestK sc od a k : Int)] W fun e w' => e = .returned (.bool (decide (bet sc (at0 od (2 * a + k)) (at0 od (bestK sc od a k))))) ∧ Below W.heap.size W w') := fun k hk hl W hW => by
    obtain ⟨q1, q2⟩ := bestK_lt sc od a ha (k := k) (by omega)
    exact better_any (h.below hW) (2 * a + k) (bestK sc od a k) hl (by omega) (R _ (by omega) hl) (R _ q1 (by omega))
  have HK := Lib.hid (fun k => @bestK_next sc od a k)
  have HO := Lib.hid (fun k => @bestK_out sc od a k)
  have HD : Hid (downM sc od a = if down2 sc od a = a then 0 else down2 sc od a) := rfl
  obtain ⟨r, hr⟩ : ∃ r, downM sc od a = r := ⟨_, rfl⟩
  rw [hr] at HD ⊢
  have ha0 : (0 : Int) ≤ (a : Int) := by omega
  have ha1 : (a : Int) < 262146 := by omega
  have HL : Hid (∀ k, k ≤ 2 → bestK sc od a k ≤ 262146) := fun k hk => by
    obtain ⟨q1, q2⟩ := bestK_lt sc od a ha hk
    omega
  have HN := Lib.hid hn
  clear hr h R hvo hn
  go_enter Try.func24, Try.ntmps24
  go_wp2
  go_loopw [5, 6] (fun b i wr => ∃ k : Nat, k ≤ 2 ∧ b = .int .i64 (bestK sc od a k : Int) ∧ i = .int .i64 ((2 * a + k : Nat) : Int) ∧ Below w.heap.size w wr) (fun _ i _ => 2 * a + 2 - (intOf i).toNat)
  case atStart => exact ⟨0, by decide, rfl, by simp, Below.refl _ _⟩
  case round =>
    obtain ⟨k, hk, rfl, rfl, hb⟩ := hrel
    have BW := Lib.hid hb
    clear hb
    have c1 := HC.out wr BW.out
    obtain ⟨i, hi⟩ : ∃ i, 2 * a + k = i := ⟨_, rfl⟩
    obtain ⟨b, hbb⟩ : ∃ b, bestK sc od a k = b := ⟨_, rfl⟩
    rw [hi, hbb]
    have hi0 : (0 : Int) ≤ (i : Int) := by omega
    have hi1 : (i : Int) ≤ 600000 := by omega
    by_cases hk2 : k < 2
    · have hle : (i : Int) ≤ 2 * (a : Int) + 1 := by omega
      by_cases hlt : i < od.length
      · have hlti : (i : Int) < (od.length : Int) := by omega
        have BT := HB.out k hk2 (by omega) wr BW.out
        have HNX := HK.out k hk2
        have HBL : b ≤ 262146 := hbb ▸ HL.out k hk
        rw [hi, hbb] at BT HNX
        have BT := Lib.hid BT
        by_cases hbt : bet sc (at0 od i) (at0 od b)
        · have HX : Hid (bestK sc od a (k + 1) = i) := by unfold Hid; rw [HNX]; unfold belM; exact if_pos ⟨hlt, hbt⟩
          rw [decide_eq_true hbt] at BT
          clear HNX hbt hbb hlt
          go_wp2_with fail
          refine BT.out.mono ?_
          rintro e w1 ⟨rfl, hb1⟩
          have B1 : Hid (Below w.heap.size w w1) := BW.out.trans (hb1.mono BW.out.size)
          clear hb1
          go_wp2
          go_roundw
          case rel => exact ⟨k + 1, by omega, by rw [HX.out], by go_num, B1.out⟩
          case measure => simp [intOf]; omega
        · have HX : Hid (bestK sc od a (k + 1) = b) := by unfold Hid; rw [HNX]; unfold belM; exact if_neg (fun e => hbt e.2)
          rw [decide_eq_false hbt] at BT
          clear HNX hbt hbb hlt
          go_wp2_with fail
          refine BT.out.mono ?_
          rintro e w1 ⟨rfl, hb1⟩
          have B1 : Hid (Below w.heap.size w w1) := BW.out.trans (hb1.mono BW.out.size)
          clear hb1
          go_wp2
          go_roundw
          case rel => exact ⟨k + 1, by omega, by rw [HX.out], by go_num, B1.out⟩
          case measure => simp [intOf]; omega
      · have hlti : ¬ (i : Int) < (od.length : Int) := by omega
        have KEXIT : k = 2 ∨ od.length ≤ 2 * a + k := .inr (by omega)
        have HX : Hid (b = down2 sc od a) := hbb ▸ HO.out k hk KEXIT
        have HR : Hid (r = if b = a then 0 else b) := by rw [HX.out]; exact HD.out
        by_cases hba : b = a
        · have HR2 : Hid (r = 0) := by have := HR.out; rw [if_pos hba] at this; exact this
          have he : ((b : Int) == (a : Int)) = true := by simp [hba]
          clear HR hba
          go_wp2
          go_ret
          exact ⟨by rw [HR2.out]; rfl, BW.out⟩
        · have HR2 : Hid (r = b) := by have := HR.out; rw [if_neg hba] at this; exact this
          have he : ((b : Int) == (a : Int)) = false := by rw [beq_eq_false_iff_ne]; omega
          clear HR hba
          go_wp2
          go_ret
          exact ⟨by rw [HR2.out]; rfl, BW.out⟩
    · have hle : ¬ (i : Int) ≤ 2 * (a : Int) + 1 := by omega
      have KEXIT : k = 2 ∨ od.length ≤ 2 * a + k := .inl (by omega)
      have HX : Hid (b = down2 sc od a) := hbb ▸ HO.out k hk KEXIT
      have HR : Hid (r = if b = a then 0 else b) := by rw [HX.out]; exact HD.out
      by_cases hba : b = a
      · have HR2 : Hid (r = 0) := by have := HR.out; rw [if_pos hba] at this; exact this
        have he : ((b : Int) == (a : Int)) = true := by simp [hba]
        clear HR hba
        go_wp2
        go_ret
        exact ⟨by rw [HR2.out]; rfl, BW.out⟩
      · have HR2 : Hid (r = b) := by have := HR.out; rw [if_neg hba] at this; exact this
        have he : ((b : Int) == (a : Int)) = false := by rw [beq_eq_false_iff_ne]; omega
        clear HR hba
        go_wp2
        go_ret
        exact ⟨by rw [HR2.out]; rfl, BW.out⟩
end
end Go.Proofs.Ytclbbpmofifigaa.Hep
