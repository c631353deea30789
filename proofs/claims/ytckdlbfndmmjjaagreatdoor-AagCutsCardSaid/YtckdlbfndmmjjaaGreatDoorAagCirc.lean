/- The walk of aag's reading of a circuit's parts, in their order; no condition. -/
import Derived.Test.YtckdlbfndmmjjaaGreatDoorAagFits
import Derived.Test.YtckdlbfndmmjjaaGreatDoorAagParts
namespace Go.Proofs.YtckdlbfndmmjjaaGreatDoor.Aag
open Go.ChangeShapes Go.WideShapes Go.ChangeAt Go.RowKit Dig Circ Cw

theorem tris_len3 (l : List Tri) : ∀ y ∈ tris l, y.length = 3 := fun y hy => by obtain ⟨x, _, rfl⟩ := List.mem_map.1 hy; rfl
theorem nams_len3 (l : List Nam) : ∀ y ∈ nams l, y.length = 3 := fun y hy => by obtain ⟨x, _, rfl⟩ := List.mem_map.1 hy; rfl
theorem own_base {w : World} {b b' : Nat} {e : TypeId} {m : Nat} {v : Value} {xs : List (List Value)} (h : OwnC w b e m v xs) (hb : b' ≤ b) : OwnC w b' e m v xs := by
  obtain ⟨h0, h⟩ := h
  refine ⟨h0, ?_⟩
  rcases h with h | ⟨g, cap, cur, hv, hg, r⟩
  · exact .inl h
  · exact .inr ⟨g, cap, cur, hv, Nat.le_trans hb hg, r⟩
theorem own_but {w w' : World} {g b : Nat} {e : TypeId} {m : Nat} {v : Value} {xs : List (List Value)} (h : OwnC w b e m v xs) (hb : But g w w') (hg : g < b) : OwnC w' b e m v xs := h.keep_at fun k hk _ => hb.b k (by omega)
/-- the circuit that was read, with its lists -/
def CircP (R : Nat) (A : Option Addr) (L : List (List UInt8)) (q wh : Nat) (w : World) (r : Cir × Nat) (e : Ending) (w' : World) : Prop :=
  ∃ s : Places, e = .returned (cirV r.1 s) ∧
    (OwnC w' w.heap.size 3 1 (.slice s.ai r.1.ins.length s.ki) (ints r.1.ins) ∧ OwnC w' w.heap.size 48 3 (.slice s.al r.1.lats.length s.kl) (tris r.1.lats) ∧ OwnC w' w.heap.size 3 1 (.slice s.ao r.1.outs.length s.ko) (ints r.1.outs) ∧ OwnC w' w.heap.size 3 1 (.slice s.ab r.1.bads.length s.kb) (ints r.1.bads) ∧ OwnC w' w.heap.size 3 1 (.slice s.ac r.1.invs.length s.kc) (ints r.1.invs) ∧ OwnC w' w.heap.size 51 3 (.slice s.aa r.1.ands.length s.ka) (tris r.1.ands) ∧ OwnC w' w.heap.size 56 3 (.slice s.an r.1.names.length s.kn) (nams r.1.names)) ∧
    (r.1.ins.length ≤ s.ki ∧ r.1.lats.length ≤ s.kl ∧ r.1.outs.length ≤ s.ko ∧ r.1.bads.length ≤ s.kb ∧ r.1.invs.length ≤ s.kc ∧ r.1.ands.length ≤ s.ka ∧ r.1.names.length ≤ s.kn) ∧
    (s.ki ≤ 9223372036854775807 ∧ s.kl ≤ 9223372036854775807 ∧ s.ko ≤ 9223372036854775807 ∧ s.kb ≤ 9223372036854775807 ∧ s.kc ≤ 9223372036854775807 ∧ s.ka ≤ 9223372036854775807 ∧ s.kn ≤ 9223372036854775807) ∧
    Src R A L q wh r.2 w' ∧ Ext R w w'
set_option maxHeartbeats 8000000 in
set_option maxRecDepth 100000 in
theorem circuit_run {R : Nat} {A : Option Addr} {L : List (List UInt8)} {q wh : Nat} (w : World) (h : Src R A L q wh 0 w) :
    Calls Tryz.prog 22 #[.pointer (some ⟨R, 0, none⟩)] w (Runs R w (circM L wh) (CircP R A L q wh w)) := by
  have hb1 : Below w.heap.size w (w.alloc (.cells #[.int .i64 0, .slice none 0 0, .slice none 0 0, .slice none 0 0, .slice none 0 0, .slice none 0 0, .slice none 0 0, .slice none 0 0] 27)) := (Below.refl _ _).alloc (Nat.le_refl _) _
  have hs1 : (w.alloc (.cells #[.int .i64 0, .slice none 0 0, .slice none 0 0, .slice none 0 0, .slice none 0 0, .slice none 0 0, .slice none 0 0, .slice none 0 0] 27)).heap.size = w.heap.size + 1 := by simp
  have HRW : Hid (R < w.heap.size) := h.lt
  have H := Lib.hid h
  have HZ0 : Hid ((w.alloc (.cells #[.int .i64 0, .slice none 0 0, .slice none 0 0, .slice none 0 0, .slice none 0 0, .slice none 0 0, .slice none 0 0, .slice none 0 0] 27)).heap[w.heap.size]? = some (.cells #[.int .i64 0, .slice none 0 0, .slice none 0 0, .slice none 0 0, .slice none 0 0, .slice none 0 0, .slice none 0 0, .slice none 0 0] 27 (0, 0))) := Array.getElem?_push_size
  obtain ⟨goal, hgoal⟩ : ∃ g, g = circM L wh := ⟨_, rfl⟩
  have HG : Hid (goal = bindG (readAt L wh formHead 0) fun n => k1 L wh n) := hgoal
  rw [← hgoal]
  clear hgoal
  obtain ⟨wa, hwa⟩ : ∃ x, x = w.alloc (.cells #[.int .i64 0, .slice none 0 0, .slice none 0 0, .slice none 0 0, .slice none 0 0, .slice none 0 0, .slice none 0 0, .slice none 0 0] 27) := ⟨_, rfl⟩
  have HD := Lib.hid (header_run wa (by rw [hwa]; exact h.below hb1))
  rw [← hwa] at hb1 hs1 HZ0
  have EA := Lib.hid (Ext.of (R := R) hb1)
  have HSA := Lib.hid hs1
  have HWA := Lib.hid hwa
  rw [hwa] at HD
  clear h hb1 hs1 hwa
  go_enter Tryz.func22, Tryz.ntmps22
  go_wp2_with fail
  refine HD.out.mono ?_
  rw [← HWA.out]
  intro e w1 hr
  cases hq : readAt L wh formHead 0 with
  | error b =>
    rw [hq] at hr
    obtain ⟨rfl, hE⟩ := hr
    exact ⟨rfl, runs_error (b := b.1) (t := b.2) (HG.out.trans (bind_error hq)) ⟨rfl, EA.out.trans hE⟩⟩
  | ok ns =>
  rw [hq] at hr
  obtain ⟨x0, x1', x2', x3', x4', x5', x6', rfl, rfl, hS1, hE1⟩ := hr
  obtain ⟨hwh, hform⟩ := read_get hq
  have hok := formHead_ok hform
  have G1 : Hid (goal = k1 L wh [x0, x1', x2', x3', x4', x5', x6']) := HG.out.trans (bind_ok hq)
  obtain ⟨n1, rfl⟩ := Int.eq_ofNat_of_zero_le (hok x1' (by simp)).1
  obtain ⟨n2, rfl⟩ := Int.eq_ofNat_of_zero_le (hok x2' (by simp)).1
  obtain ⟨n3, rfl⟩ := Int.eq_ofNat_of_zero_le (hok x3' (by simp)).1
  obtain ⟨n4, rfl⟩ := Int.eq_ofNat_of_zero_le (hok x4' (by simp)).1
  obtain ⟨n5, rfl⟩ := Int.eq_ofNat_of_zero_le (hok x5' (by simp)).1
  obtain ⟨n6, rfl⟩ := Int.eq_ofNat_of_zero_le (hok x6' (by simp)).1
  have HN1 : Hid (n1 ≤ 1099511627776) := by have := (hok (n1 : Int) (by simp)).2; unfold Hid; omega
  have HN2 : Hid (n2 ≤ 1099511627776) := by have := (hok (n2 : Int) (by simp)).2; unfold Hid; omega
  have HN3 : Hid (n3 ≤ 1099511627776) := by have := (hok (n3 : Int) (by simp)).2; unfold Hid; omega
  have HN4 : Hid (n4 ≤ 1099511627776) := by have := (hok (n4 : Int) (by simp)).2; unfold Hid; omega
  have HN5 : Hid (n5 ≤ 1099511627776) := by have := (hok (n5 : Int) (by simp)).2; unfold Hid; omega
  have HN6 : Hid (n6 ≤ 1099511627776) := by have := (hok (n6 : Int) (by simp)).2; unfold Hid; omega
  have E1 : Hid (Ext R w w1) := EA.out.trans hE1
  have Z1 : Hid (w1.heap[w.heap.size]? = some (.cells #[.int .i64 0, .slice none 0 0, .slice none 0 0, .slice none 0 0, .slice none 0 0, .slice none 0 0, .slice none 0 0, .slice none 0 0] 27 (0, 0))) := (hE1.block _ (lt_of_block HZ0.out) (by have := HRW.out; omega)).trans HZ0.out
  have SZ1 : Hid (w.heap.size + 1 ≤ w1.heap.size) := by have := hE1.size; rw [HSA.out] at this; exact this
  have S1 : Hid (Src R A L q wh 1 w1) := hS1
  clear hE1 hS1 hq hform hok HG HZ0 HD hwh
  -- the sizes' box
  obtain ⟨wb, hwb⟩ : ∃ x, w1.alloc (.cells #[.int .i64 0, .int .i64 0, .int .i64 0, .int .i64 0, .int .i64 0, .int .i64 0, .int .i64 0] 91) = x := ⟨_, rfl⟩
  have gb : wb.heap[w1.heap.size]? = some (.cells #[.int .i64 0, .int .i64 0, .int .i64 0, .int .i64 0, .int .i64 0, .int .i64 0, .int .i64 0] 91 (0, 0)) := by rw [← hwb]; exact Array.getElem?_push_size
  have bb : Below w1.heap.size w1 wb := by rw [← hwb]; exact (Below.refl _ _).alloc (Nat.le_refl _) _
  have sb : wb.heap.size = w1.heap.size + 1 := by rw [← hwb]; simp
  obtain ⟨Y1, Y2, Y3, Y4, Y5, Y6, Y7, u0, u1, u2, u3, u4, u5, u6, ⟨hY1, p0, t0⟩, ⟨hY2, p1, t1⟩, ⟨hY3, p2, t2⟩, ⟨hY4, p3, t3⟩, ⟨hY5, p4, t4⟩, ⟨hY6, p5, t5⟩, ⟨hY7, p6, t6⟩, E7, FF⟩ := store7 gb rfl (.int .i64 x0) (.int .i64 n1) (.int .i64 n2) (.int .i64 n3) (.int .i64 n4) (.int .i64 n5) (.int .i64 n6)
  have BY : Below w1.heap.size w1 Y7 := FF.below bb (Nat.le_refl _)
  have SY : Y7.heap.size = w1.heap.size + 1 := by rw [FF.z, sb]
  -- the circuit's box
  obtain ⟨wc, hwc⟩ : ∃ x, Y7.alloc (.cells #[.int .i64 0, .slice none 0 0, .slice none 0 0, .slice none 0 0, .slice none 0 0, .slice none 0 0, .slice none 0 0, .slice none 0 0] 27) = x := ⟨_, rfl⟩
  have gc : wc.heap[Y7.heap.size]? = some (.cells #[.int .i64 0, .slice none 0 0, .slice none 0 0, .slice none 0 0, .slice none 0 0, .slice none 0 0, .slice none 0 0, .slice none 0 0] 27 (0, 0)) := by rw [← hwc]; exact Array.getElem?_push_size
  have bc : Below Y7.heap.size Y7 wc := by rw [← hwc]; exact (Below.refl _ _).alloc (Nat.le_refl _) _
  have sc : wc.heap.size = Y7.heap.size + 1 := by rw [← hwc]; simp
  have hCS : Y7.heap.size = w1.heap.size + 1 := SY
  obtain ⟨X1, X2, X3, X4, X5, X6, X7, X8, v0, v1, v2, v3, v4, v5, v6, v7, ⟨hX1, a0, b0⟩, ⟨hX2, a1, b1⟩, ⟨hX3, a2, b2⟩, ⟨hX4, a3, b3⟩, ⟨hX5, a4, b4⟩, ⟨hX6, a5, b5⟩, ⟨hX7, a6, b6⟩, ⟨hX8, a7, b7⟩, E8, FC⟩ := store8 gc rfl (.int .i64 x0) (.slice none 0 0) (.slice none 0 0) (.slice none 0 0) (.slice none 0 0) (.slice none 0 0) (.slice none 0 0) (.slice none 0 0)
  have BX : Below w1.heap.size w1 X8 := (FC.below (BY.trans (bc.mono BY.size)) BY.size)
  have d0 : Y7.cell? ⟨w1.heap.size, 0, none⟩ = some (.int .i64 x0) := by simp [World.cell?, E7]
  have GS0 : Hid (X8.heap[w1.heap.size]? = some (.cells #[.int .i64 x0, .int .i64 (n1 : Int), .int .i64 (n2 : Int), .int .i64 (n3 : Int), .int .i64 (n4 : Int), .int .i64 (n5 : Int), .int .i64 (n6 : Int)] 91 (0, 0))) := ((FC.b w1.heap.size (by omega)).trans (bc.block w1.heap.size (by omega))).trans E7
  have GC0 : Hid (X8.heap[Y7.heap.size]? = some (.cells #[.int .i64 x0, .slice none 0 0, .slice none 0 0, .slice none 0 0, .slice none 0 0, .slice none 0 0, .slice none 0 0, .slice none 0 0] 27 (0, 0))) := E8
  have GZ0 : Hid (X8.heap[w.heap.size]? = some (.cells #[.int .i64 0, .slice none 0 0, .slice none 0 0, .slice none 0 0, .slice none 0 0, .slice none 0 0, .slice none 0 0, .slice none 0 0] 27 (0, 0))) := (BX.block _ (by have := SZ1.out; omega)).trans Z1.out
  have EX0 : Hid (Ext R w X8) := E1.out.trans (Ext.of BX)
  have SR0 : Hid (Src R A L q wh 1 X8) := S1.out.below BX
  have SZ0 : Hid (Y7.heap.size + 1 ≤ X8.heap.size) := by unfold Hid; rw [FC.z, sc]; exact Nat.le_refl _
  have HSC : Hid (w.heap.size < w1.heap.size ∧ w1.heap.size < Y7.heap.size ∧ R < w.heap.size) := ⟨by have := SZ1.out; omega, by omega, HRW.out⟩
  clear gb bb sb E7 FF BY SY gc bc sc hCS E8 FC BX E1 Z1 S1 SZ1 EA HSA HWA
  have T1 := Lib.hid (literals_run n1 X8 SR0.out HN1.out)
  have c1 : X8.cell? ⟨w1.heap.size, 1, none⟩ = some (.int .i64 (n1 : Int)) := by have := GS0.out; simp [World.cell?, this]
  go_wp2_with fail
  refine T1.out.mono ?_
  intro e y1 hr
  clear hwb hY1 hY2 hY3 hY4 hY5 hY6 hY7 p0 p1 p2 p3 p4 p5 p6 t0 t1 t2 t3 t4 t5 t6 hwc hX1 hX2 hX3 hX4 hX5 hX6 hX7 hX8 a0 a1 a2 a3 a4 a5 a6 a7 b0 b1 b2 b3 b4 b5 b6 b7 d0
  generalize w1.heap.size = S at *
  generalize Y7.heap.size = C at *
  cases hq : manyGo L wh formLit n1 1 [] with
  | error b =>
    rw [hq] at hr
    obtain ⟨rfl, hE⟩ := hr
    exact ⟨rfl, runs_error (b := b.1) (t := b.2) (G1.out.trans (bind_error hq)) ⟨rfl, EX0.out.trans hE⟩⟩
  | ok r1 =>
  rw [hq] at hr
  obtain ⟨v, rfl, hown, hS, hE⟩ := hr
  have G2 : Hid (goal = k2 L wh [x0, (n1 : Int), n2, n3, n4, n5, n6] r1) := G1.out.trans (bind_ok hq)
  obtain ⟨A1, q1, rfl, -, hle, hmx⟩ := hown.row (by decide) (ints_len1 _)
  rw [ints_length1] at hown hle
  rw [show (ints r1.1).length = r1.1.length from ints_length1 _]
  have HQ1 : Hid (r1.1.length ≤ q1 ∧ q1 ≤ 9223372036854775807) := ⟨hle, hmx⟩
  have gcy : y1.heap[C]? = some (.cells #[.int .i64 x0, .slice none 0 0, .slice none 0 0, .slice none 0 0, .slice none 0 0, .slice none 0 0, .slice none 0 0, .slice none 0 0] 27 (0, 0)) := (hE.block C (lt_of_block GC0.out) (by have := HSC.out; omega)).trans GC0.out
  obtain ⟨V1, u1', ⟨hV, pv, tv⟩, gv, BV⟩ := step_set y1 _ 1 (.slice A1 r1.1.length q1) gcy (Nat.lt_of_lt_of_eq (show 1 < 8 by decide) rfl)
  have BL : Below w.heap.size y1 V1 := BV.below (Below.refl _ _) (by have := HSC.out; omega)
  have EX1 : Hid (Ext R w V1) := (EX0.out.trans hE).then BL
  have SR1 : Hid (Src R A L q wh r1.2 V1) := H.out.later hS (EX0.out.trans hE) BL
  have GC1 : Hid (V1.heap[C]? = some (.cells #[.int .i64 x0, .slice A1 r1.1.length q1, .slice none 0 0, .slice none 0 0, .slice none 0 0, .slice none 0 0, .slice none 0 0, .slice none 0 0] 27 (0, 0))) := gv
  have GS1 : Hid (V1.heap[S]? = some (.cells #[.int .i64 x0, .int .i64 (n1 : Int), .int .i64 (n2 : Int), .int .i64 (n3 : Int), .int .i64 (n4 : Int), .int .i64 (n5 : Int), .int .i64 (n6 : Int)] 91 (0, 0))) := ((BV.b S (by have := HSC.out; omega)).trans (hE.block S (lt_of_block GS0.out) (by have := HSC.out; omega))).trans GS0.out
  have GZ1 : Hid (V1.heap[w.heap.size]? = some (.cells #[.int .i64 0, .slice none 0 0, .slice none 0 0, .slice none 0 0, .slice none 0 0, .slice none 0 0, .slice none 0 0, .slice none 0 0] 27 (0, 0))) := ((BV.b _ (by have := HSC.out; omega)).trans (hE.block _ (lt_of_block GZ0.out) (by have := HSC.out; omega))).trans GZ0.out
  have SZ1 : Hid (C + 1 ≤ V1.heap.size) := by unfold Hid; rw [BV.z]; exact Nat.le_trans SZ0.out hE.size
  have HO1 : Hid (OwnC V1 (C + 1) 3 1 (.slice A1 r1.1.length q1) (ints r1.1)) := own_but (own_base hown SZ0.out) BV (Nat.lt_succ_self _)
  clear hown hle hmx gcy gv BV BL hE hS hq T1 GC0 GS0 GZ0 SZ0 SR0 EX0 c1
  -- part 2
  have T2 := Lib.hid (latches_run n2 V1 SR1.out HN2.out)
  have c2 : V1.cell? ⟨S, 2, none⟩ = some (.int .i64 (n2 : Int)) := by have := GS1.out; simp [World.cell?, this]
  go_wp2_with fail
  refine T2.out.mono ?_
  intro e y2 hr
  clear hV pv tv
  cases hq : manyGo L wh formLat n2 r1.2 [] with
  | error b =>
    rw [hq] at hr
    obtain ⟨rfl, hE⟩ := hr
    exact ⟨rfl, runs_error (b := b.1) (t := b.2) (G2.out.trans (bind_error hq)) ⟨rfl, EX1.out.trans hE⟩⟩
  | ok r2 =>
  rw [hq] at hr
  obtain ⟨v, rfl, hown, hS, hE⟩ := hr
  have G3 : Hid (goal = k3 L wh [x0, (n1 : Int), n2, n3, n4, n5, n6] r1 r2) := G2.out.trans (bind_ok hq)
  obtain ⟨A2, q2, rfl, -, hle, hmx⟩ := hown.row (by decide) (tris_len3 _)
  rw [tris_length1] at hown hle
  rw [show (tris r2.1).length = r2.1.length from tris_length1 _]
  have HQ2 : Hid (r2.1.length ≤ q2 ∧ q2 ≤ 9223372036854775807) := ⟨hle, hmx⟩
  have gcy : y2.heap[C]? = some (.cells #[.int .i64 x0, .slice A1 r1.1.length q1, .slice none 0 0, .slice none 0 0, .slice none 0 0, .slice none 0 0, .slice none 0 0, .slice none 0 0] 27 (0, 0)) := (hE.block C (lt_of_block GC1.out) (by have := HSC.out; omega)).trans GC1.out
  obtain ⟨V2, u2', ⟨hV, pv, tv⟩, gv, BV⟩ := step_set y2 _ 2 (.slice A2 r2.1.length q2) gcy (Nat.lt_of_lt_of_eq (show 2 < 8 by decide) rfl)
  have BL : Below w.heap.size y2 V2 := BV.below (Below.refl _ _) (by have := HSC.out; omega)
  have EX2 : Hid (Ext R w V2) := (EX1.out.trans hE).then BL
  have SR2 : Hid (Src R A L q wh r2.2 V2) := H.out.later hS (EX1.out.trans hE) BL
  have GC2 : Hid (V2.heap[C]? = some (.cells #[.int .i64 x0, .slice A1 r1.1.length q1, .slice A2 r2.1.length q2, .slice none 0 0, .slice none 0 0, .slice none 0 0, .slice none 0 0, .slice none 0 0] 27 (0, 0))) := gv
  have GS2 : Hid (V2.heap[S]? = some (.cells #[.int .i64 x0, .int .i64 (n1 : Int), .int .i64 (n2 : Int), .int .i64 (n3 : Int), .int .i64 (n4 : Int), .int .i64 (n5 : Int), .int .i64 (n6 : Int)] 91 (0, 0))) := ((BV.b S (by have := HSC.out; omega)).trans (hE.block S (lt_of_block GS1.out) (by have := HSC.out; omega))).trans GS1.out
  have GZ2 : Hid (V2.heap[w.heap.size]? = some (.cells #[.int .i64 0, .slice none 0 0, .slice none 0 0, .slice none 0 0, .slice none 0 0, .slice none 0 0, .slice none 0 0, .slice none 0 0] 27 (0, 0))) := ((BV.b _ (by have := HSC.out; omega)).trans (hE.block _ (lt_of_block GZ1.out) (by have := HSC.out; omega))).trans GZ1.out
  have SZ2 : Hid (C + 1 ≤ V2.heap.size) := by unfold Hid; rw [BV.z]; exact Nat.le_trans SZ1.out hE.size
  replace HO1 : Hid (OwnC V2 (C + 1) 3 1 (.slice A1 r1.1.length q1) (ints r1.1)) := own_but (own_ext HO1.out hE (by have := HSC.out; omega)) BV (Nat.lt_succ_self _)
  have HO2 : Hid (OwnC V2 (C + 1) 48 3 (.slice A2 r2.1.length q2) (tris r2.1)) := own_but (own_base hown SZ1.out) BV (Nat.lt_succ_self _)
  clear hown hle hmx gcy gv BV BL hE hS hq T2 GC1 GS1 GZ1 SZ1 SR1 EX1 c2
  -- part 3
  have T3 := Lib.hid (literals_run n3 V2 SR2.out HN3.out)
  have c3 : V2.cell? ⟨S, 3, none⟩ = some (.int .i64 (n3 : Int)) := by have := GS2.out; simp [World.cell?, this]
  go_wp2_with fail
  refine T3.out.mono ?_
  intro e y3 hr
  clear hV pv tv
  cases hq : manyGo L wh formLit n3 r2.2 [] with
  | error b =>
    rw [hq] at hr
    obtain ⟨rfl, hE⟩ := hr
    exact ⟨rfl, runs_error (b := b.1) (t := b.2) (G3.out.trans (bind_error hq)) ⟨rfl, EX2.out.trans hE⟩⟩
  | ok r3 =>
  rw [hq] at hr
  obtain ⟨v, rfl, hown, hS, hE⟩ := hr
  have G4 : Hid (goal = k4 L wh [x0, (n1 : Int), n2, n3, n4, n5, n6] r1 r2 r3) := G3.out.trans (bind_ok hq)
  obtain ⟨A3, q3, rfl, -, hle, hmx⟩ := hown.row (by decide) (ints_len1 _)
  rw [ints_length1] at hown hle
  rw [show (ints r3.1).length = r3.1.length from ints_length1 _]
  have HQ3 : Hid (r3.1.length ≤ q3 ∧ q3 ≤ 9223372036854775807) := ⟨hle, hmx⟩
  have gcy : y3.heap[C]? = some (.cells #[.int .i64 x0, .slice A1 r1.1.length q1, .slice A2 r2.1.length q2, .slice none 0 0, .slice none 0 0, .slice none 0 0, .slice none 0 0, .slice none 0 0] 27 (0, 0)) := (hE.block C (lt_of_block GC2.out) (by have := HSC.out; omega)).trans GC2.out
  obtain ⟨V3, u3', ⟨hV, pv, tv⟩, gv, BV⟩ := step_set y3 _ 3 (.slice A3 r3.1.length q3) gcy (Nat.lt_of_lt_of_eq (show 3 < 8 by decide) rfl)
  have BL : Below w.heap.size y3 V3 := BV.below (Below.refl _ _) (by have := HSC.out; omega)
  have EX3 : Hid (Ext R w V3) := (EX2.out.trans hE).then BL
  have SR3 : Hid (Src R A L q wh r3.2 V3) := H.out.later hS (EX2.out.trans hE) BL
  have GC3 : Hid (V3.heap[C]? = some (.cells #[.int .i64 x0, .slice A1 r1.1.length q1, .slice A2 r2.1.length q2, .slice A3 r3.1.length q3, .slice none 0 0, .slice none 0 0, .slice none 0 0, .slice none 0 0] 27 (0, 0))) := gv
  have GS3 : Hid (V3.heap[S]? = some (.cells #[.int .i64 x0, .int .i64 (n1 : Int), .int .i64 (n2 : Int), .int .i64 (n3 : Int), .int .i64 (n4 : Int), .int .i64 (n5 : Int), .int .i64 (n6 : Int)] 91 (0, 0))) := ((BV.b S (by have := HSC.out; omega)).trans (hE.block S (lt_of_block GS2.out) (by have := HSC.out; omega))).trans GS2.out
  have GZ3 : Hid (V3.heap[w.heap.size]? = some (.cells #[.int .i64 0, .slice none 0 0, .slice none 0 0, .slice none 0 0, .slice none 0 0, .slice none 0 0, .slice none 0 0, .slice none 0 0] 27 (0, 0))) := ((BV.b _ (by have := HSC.out; omega)).trans (hE.block _ (lt_of_block GZ2.out) (by have := HSC.out; omega))).trans GZ2.out
  have SZ3 : Hid (C + 1 ≤ V3.heap.size) := by unfold Hid; rw [BV.z]; exact Nat.le_trans SZ2.out hE.size
  replace HO1 : Hid (OwnC V3 (C + 1) 3 1 (.slice A1 r1.1.length q1) (ints r1.1)) := own_but (own_ext HO1.out hE (by have := HSC.out; omega)) BV (Nat.lt_succ_self _)
  replace HO2 : Hid (OwnC V3 (C + 1) 48 3 (.slice A2 r2.1.length q2) (tris r2.1)) := own_but (own_ext HO2.out hE (by have := HSC.out; omega)) BV (Nat.lt_succ_self _)
  have HO3 : Hid (OwnC V3 (C + 1) 3 1 (.slice A3 r3.1.length q3) (ints r3.1)) := own_but (own_base hown SZ2.out) BV (Nat.lt_succ_self _)
  clear hown hle hmx gcy gv BV BL hE hS hq T3 GC2 GS2 GZ2 SZ2 SR2 EX2 c3
  -- part 4
  have T4 := Lib.hid (literals_run n5 V3 SR3.out HN5.out)
  have c4 : V3.cell? ⟨S, 5, none⟩ = some (.int .i64 (n5 : Int)) := by have := GS3.out; simp [World.cell?, this]
  go_wp2_with fail
  refine T4.out.mono ?_
  intro e y4 hr
  clear hV pv tv
  cases hq : manyGo L wh formLit n5 r3.2 [] with
  | error b =>
    rw [hq] at hr
    obtain ⟨rfl, hE⟩ := hr
    exact ⟨rfl, runs_error (b := b.1) (t := b.2) (G4.out.trans (bind_error hq)) ⟨rfl, EX3.out.trans hE⟩⟩
  | ok r4 =>
  rw [hq] at hr
  obtain ⟨v, rfl, hown, hS, hE⟩ := hr
  have G5 : Hid (goal = k5 L wh [x0, (n1 : Int), n2, n3, n4, n5, n6] r1 r2 r3 r4) := G4.out.trans (bind_ok hq)
  obtain ⟨A4, q4, rfl, -, hle, hmx⟩ := hown.row (by decide) (ints_len1 _)
  rw [ints_length1] at hown hle
  rw [show (ints r4.1).length = r4.1.length from ints_length1 _]
  have HQ4 : Hid (r4.1.length ≤ q4 ∧ q4 ≤ 9223372036854775807) := ⟨hle, hmx⟩
  have gcy : y4.heap[C]? = some (.cells #[.int .i64 x0, .slice A1 r1.1.length q1, .slice A2 r2.1.length q2, .slice A3 r3.1.length q3, .slice none 0 0, .slice none 0 0, .slice none 0 0, .slice none 0 0] 27 (0, 0)) := (hE.block C (lt_of_block GC3.out) (by have := HSC.out; omega)).trans GC3.out
  obtain ⟨V4, u4', ⟨hV, pv, tv⟩, gv, BV⟩ := step_set y4 _ 4 (.slice A4 r4.1.length q4) gcy (Nat.lt_of_lt_of_eq (show 4 < 8 by decide) rfl)
  have BL : Below w.heap.size y4 V4 := BV.below (Below.refl _ _) (by have := HSC.out; omega)
  have EX4 : Hid (Ext R w V4) := (EX3.out.trans hE).then BL
  have SR4 : Hid (Src R A L q wh r4.2 V4) := H.out.later hS (EX3.out.trans hE) BL
  have GC4 : Hid (V4.heap[C]? = some (.cells #[.int .i64 x0, .slice A1 r1.1.length q1, .slice A2 r2.1.length q2, .slice A3 r3.1.length q3, .slice A4 r4.1.length q4, .slice none 0 0, .slice none 0 0, .slice none 0 0] 27 (0, 0))) := gv
  have GS4 : Hid (V4.heap[S]? = some (.cells #[.int .i64 x0, .int .i64 (n1 : Int), .int .i64 (n2 : Int), .int .i64 (n3 : Int), .int .i64 (n4 : Int), .int .i64 (n5 : Int), .int .i64 (n6 : Int)] 91 (0, 0))) := ((BV.b S (by have := HSC.out; omega)).trans (hE.block S (lt_of_block GS3.out) (by have := HSC.out; omega))).trans GS3.out
  have GZ4 : Hid (V4.heap[w.heap.size]? = some (.cells #[.int .i64 0, .slice none 0 0, .slice none 0 0, .slice none 0 0, .slice none 0 0, .slice none 0 0, .slice none 0 0, .slice none 0 0] 27 (0, 0))) := ((BV.b _ (by have := HSC.out; omega)).trans (hE.block _ (lt_of_block GZ3.out) (by have := HSC.out; omega))).trans GZ3.out
  have SZ4 : Hid (C + 1 ≤ V4.heap.size) := by unfold Hid; rw [BV.z]; exact Nat.le_trans SZ3.out hE.size
  replace HO1 : Hid (OwnC V4 (C + 1) 3 1 (.slice A1 r1.1.length q1) (ints r1.1)) := own_but (own_ext HO1.out hE (by have := HSC.out; omega)) BV (Nat.lt_succ_self _)
  replace HO2 : Hid (OwnC V4 (C + 1) 48 3 (.slice A2 r2.1.length q2) (tris r2.1)) := own_but (own_ext HO2.out hE (by have := HSC.out; omega)) BV (Nat.lt_succ_self _)
  replace HO3 : Hid (OwnC V4 (C + 1) 3 1 (.slice A3 r3.1.length q3) (ints r3.1)) := own_but (own_ext HO3.out hE (by have := HSC.out; omega)) BV (Nat.lt_succ_self _)
  have HO4 : Hid (OwnC V4 (C + 1) 3 1 (.slice A4 r4.1.length q4) (ints r4.1)) := own_but (own_base hown SZ3.out) BV (Nat.lt_succ_self _)
  clear hown hle hmx gcy gv BV BL hE hS hq T4 GC3 GS3 GZ3 SZ3 SR3 EX3 c4
  -- part 5
  have T5 := Lib.hid (literals_run n6 V4 SR4.out HN6.out)
  have c5 : V4.cell? ⟨S, 6, none⟩ = some (.int .i64 (n6 : Int)) := by have := GS4.out; simp [World.cell?, this]
  go_wp2_with fail
  refine T5.out.mono ?_
  intro e y5 hr
  clear hV pv tv
  cases hq : manyGo L wh formLit n6 r4.2 [] with
  | error b =>
    rw [hq] at hr
    obtain ⟨rfl, hE⟩ := hr
    exact ⟨rfl, runs_error (b := b.1) (t := b.2) (G5.out.trans (bind_error hq)) ⟨rfl, EX4.out.trans hE⟩⟩
  | ok r5 =>
  rw [hq] at hr
  obtain ⟨v, rfl, hown, hS, hE⟩ := hr
  have G6 : Hid (goal = k6 L wh [x0, (n1 : Int), n2, n3, n4, n5, n6] r1 r2 r3 r4 r5) := G5.out.trans (bind_ok hq)
  obtain ⟨A5, q5, rfl, -, hle, hmx⟩ := hown.row (by decide) (ints_len1 _)
  rw [ints_length1] at hown hle
  rw [show (ints r5.1).length = r5.1.length from ints_length1 _]
  have HQ5 : Hid (r5.1.length ≤ q5 ∧ q5 ≤ 9223372036854775807) := ⟨hle, hmx⟩
  have gcy : y5.heap[C]? = some (.cells #[.int .i64 x0, .slice A1 r1.1.length q1, .slice A2 r2.1.length q2, .slice A3 r3.1.length q3, .slice A4 r4.1.length q4, .slice none 0 0, .slice none 0 0, .slice none 0 0] 27 (0, 0)) := (hE.block C (lt_of_block GC4.out) (by have := HSC.out; omega)).trans GC4.out
  obtain ⟨V5, u5', ⟨hV, pv, tv⟩, gv, BV⟩ := step_set y5 _ 5 (.slice A5 r5.1.length q5) gcy (Nat.lt_of_lt_of_eq (show 5 < 8 by decide) rfl)
  have BL : Below w.heap.size y5 V5 := BV.below (Below.refl _ _) (by have := HSC.out; omega)
  have EX5 : Hid (Ext R w V5) := (EX4.out.trans hE).then BL
  have SR5 : Hid (Src R A L q wh r5.2 V5) := H.out.later hS (EX4.out.trans hE) BL
  have GC5 : Hid (V5.heap[C]? = some (.cells #[.int .i64 x0, .slice A1 r1.1.length q1, .slice A2 r2.1.length q2, .slice A3 r3.1.length q3, .slice A4 r4.1.length q4, .slice A5 r5.1.length q5, .slice none 0 0, .slice none 0 0] 27 (0, 0))) := gv
  have GS5 : Hid (V5.heap[S]? = some (.cells #[.int .i64 x0, .int .i64 (n1 : Int), .int .i64 (n2 : Int), .int .i64 (n3 : Int), .int .i64 (n4 : Int), .int .i64 (n5 : Int), .int .i64 (n6 : Int)] 91 (0, 0))) := ((BV.b S (by have := HSC.out; omega)).trans (hE.block S (lt_of_block GS4.out) (by have := HSC.out; omega))).trans GS4.out
  have GZ5 : Hid (V5.heap[w.heap.size]? = some (.cells #[.int .i64 0, .slice none 0 0, .slice none 0 0, .slice none 0 0, .slice none 0 0, .slice none 0 0, .slice none 0 0, .slice none 0 0] 27 (0, 0))) := ((BV.b _ (by have := HSC.out; omega)).trans (hE.block _ (lt_of_block GZ4.out) (by have := HSC.out; omega))).trans GZ4.out
  have SZ5 : Hid (C + 1 ≤ V5.heap.size) := by unfold Hid; rw [BV.z]; exact Nat.le_trans SZ4.out hE.size
  replace HO1 : Hid (OwnC V5 (C + 1) 3 1 (.slice A1 r1.1.length q1) (ints r1.1)) := own_but (own_ext HO1.out hE (by have := HSC.out; omega)) BV (Nat.lt_succ_self _)
  replace HO2 : Hid (OwnC V5 (C + 1) 48 3 (.slice A2 r2.1.length q2) (tris r2.1)) := own_but (own_ext HO2.out hE (by have := HSC.out; omega)) BV (Nat.lt_succ_self _)
  replace HO3 : Hid (OwnC V5 (C + 1) 3 1 (.slice A3 r3.1.length q3) (ints r3.1)) := own_but (own_ext HO3.out hE (by have := HSC.out; omega)) BV (Nat.lt_succ_self _)
  replace HO4 : Hid (OwnC V5 (C + 1) 3 1 (.slice A4 r4.1.length q4) (ints r4.1)) := own_but (own_ext HO4.out hE (by have := HSC.out; omega)) BV (Nat.lt_succ_self _)
  have HO5 : Hid (OwnC V5 (C + 1) 3 1 (.slice A5 r5.1.length q5) (ints r5.1)) := own_but (own_base hown SZ4.out) BV (Nat.lt_succ_self _)
  clear hown hle hmx gcy gv BV BL hE hS hq T5 GC4 GS4 GZ4 SZ4 SR4 EX4 c5
  -- part 6
  have T6 := Lib.hid (ands_run n4 V5 SR5.out HN4.out)
  have c6 : V5.cell? ⟨S, 4, none⟩ = some (.int .i64 (n4 : Int)) := by have := GS5.out; simp [World.cell?, this]
  go_wp2_with fail
  refine T6.out.mono ?_
  intro e y6 hr
  clear hV pv tv
  cases hq : manyGo L wh formAnd n4 r5.2 [] with
  | error b =>
    rw [hq] at hr
    obtain ⟨rfl, hE⟩ := hr
    exact ⟨rfl, runs_error (b := b.1) (t := b.2) (G6.out.trans (bind_error hq)) ⟨rfl, EX5.out.trans hE⟩⟩
  | ok r6 =>
  rw [hq] at hr
  obtain ⟨v, rfl, hown, hS, hE⟩ := hr
  have G7 : Hid (goal = k7 L wh [x0, (n1 : Int), n2, n3, n4, n5, n6] r1 r2 r3 r4 r5 r6) := G6.out.trans (bind_ok hq)
  obtain ⟨A6, q6, rfl, -, hle, hmx⟩ := hown.row (by decide) (tris_len3 _)
  rw [tris_length1] at hown hle
  rw [show (tris r6.1).length = r6.1.length from tris_length1 _]
  have HQ6 : Hid (r6.1.length ≤ q6 ∧ q6 ≤ 9223372036854775807) := ⟨hle, hmx⟩
  have gcy : y6.heap[C]? = some (.cells #[.int .i64 x0, .slice A1 r1.1.length q1, .slice A2 r2.1.length q2, .slice A3 r3.1.length q3, .slice A4 r4.1.length q4, .slice A5 r5.1.length q5, .slice none 0 0, .slice none 0 0] 27 (0, 0)) := (hE.block C (lt_of_block GC5.out) (by have := HSC.out; omega)).trans GC5.out
  obtain ⟨V6, u6', ⟨hV, pv, tv⟩, gv, BV⟩ := step_set y6 _ 6 (.slice A6 r6.1.length q6) gcy (Nat.lt_of_lt_of_eq (show 6 < 8 by decide) rfl)
  have BL : Below w.heap.size y6 V6 := BV.below (Below.refl _ _) (by have := HSC.out; omega)
  have EX6 : Hid (Ext R w V6) := (EX5.out.trans hE).then BL
  have SR6 : Hid (Src R A L q wh r6.2 V6) := H.out.later hS (EX5.out.trans hE) BL
  have GC6 : Hid (V6.heap[C]? = some (.cells #[.int .i64 x0, .slice A1 r1.1.length q1, .slice A2 r2.1.length q2, .slice A3 r3.1.length q3, .slice A4 r4.1.length q4, .slice A5 r5.1.length q5, .slice A6 r6.1.length q6, .slice none 0 0] 27 (0, 0))) := gv
  have GS6 : Hid (V6.heap[S]? = some (.cells #[.int .i64 x0, .int .i64 (n1 : Int), .int .i64 (n2 : Int), .int .i64 (n3 : Int), .int .i64 (n4 : Int), .int .i64 (n5 : Int), .int .i64 (n6 : Int)] 91 (0, 0))) := ((BV.b S (by have := HSC.out; omega)).trans (hE.block S (lt_of_block GS5.out) (by have := HSC.out; omega))).trans GS5.out
  have GZ6 : Hid (V6.heap[w.heap.size]? = some (.cells #[.int .i64 0, .slice none 0 0, .slice none 0 0, .slice none 0 0, .slice none 0 0, .slice none 0 0, .slice none 0 0, .slice none 0 0] 27 (0, 0))) := ((BV.b _ (by have := HSC.out; omega)).trans (hE.block _ (lt_of_block GZ5.out) (by have := HSC.out; omega))).trans GZ5.out
  have SZ6 : Hid (C + 1 ≤ V6.heap.size) := by unfold Hid; rw [BV.z]; exact Nat.le_trans SZ5.out hE.size
  replace HO1 : Hid (OwnC V6 (C + 1) 3 1 (.slice A1 r1.1.length q1) (ints r1.1)) := own_but (own_ext HO1.out hE (by have := HSC.out; omega)) BV (Nat.lt_succ_self _)
  replace HO2 : Hid (OwnC V6 (C + 1) 48 3 (.slice A2 r2.1.length q2) (tris r2.1)) := own_but (own_ext HO2.out hE (by have := HSC.out; omega)) BV (Nat.lt_succ_self _)
  replace HO3 : Hid (OwnC V6 (C + 1) 3 1 (.slice A3 r3.1.length q3) (ints r3.1)) := own_but (own_ext HO3.out hE (by have := HSC.out; omega)) BV (Nat.lt_succ_self _)
  replace HO4 : Hid (OwnC V6 (C + 1) 3 1 (.slice A4 r4.1.length q4) (ints r4.1)) := own_but (own_ext HO4.out hE (by have := HSC.out; omega)) BV (Nat.lt_succ_self _)
  replace HO5 : Hid (OwnC V6 (C + 1) 3 1 (.slice A5 r5.1.length q5) (ints r5.1)) := own_but (own_ext HO5.out hE (by have := HSC.out; omega)) BV (Nat.lt_succ_self _)
  have HO6 : Hid (OwnC V6 (C + 1) 51 3 (.slice A6 r6.1.length q6) (tris r6.1)) := own_but (own_base hown SZ5.out) BV (Nat.lt_succ_self _)
  clear hown hle hmx gcy gv BV BL hE hS hq T6 GC5 GS5 GZ5 SZ5 SR5 EX5 c6
  -- part 7
  have T7 := Lib.hid (names_run V6 SR6.out)
  go_wp2_with fail
  refine T7.out.mono ?_
  intro e y7 hr
  clear hV pv tv
  cases hq : namesGo L wh (L.length - r6.2) r6.2 [] with
  | error b =>
    rw [hq] at hr
    obtain ⟨rfl, hE⟩ := hr
    exact ⟨rfl, runs_error (b := b.1) (t := b.2) (G7.out.trans (bind_error hq)) ⟨rfl, EX6.out.trans hE⟩⟩
  | ok r7 =>
  rw [hq] at hr
  obtain ⟨v, rfl, hown, hS, hE⟩ := hr
  have G8 : Hid (goal = .ok (⟨x0, r1.1, r2.1, r3.1, r4.1, r5.1, r6.1, r7.1⟩, r7.2)) := G7.out.trans (bind_ok hq)
  obtain ⟨A7, q7, rfl, -, hle, hmx⟩ := hown.row (by decide) (nams_len3 _)
  rw [nams_length1] at hown hle
  rw [show (nams r7.1).length = r7.1.length from nams_length1 _]
  have HQ7 : Hid (r7.1.length ≤ q7 ∧ q7 ≤ 9223372036854775807) := ⟨hle, hmx⟩
  have gcy : y7.heap[C]? = some (.cells #[.int .i64 x0, .slice A1 r1.1.length q1, .slice A2 r2.1.length q2, .slice A3 r3.1.length q3, .slice A4 r4.1.length q4, .slice A5 r5.1.length q5, .slice A6 r6.1.length q6, .slice none 0 0] 27 (0, 0)) := (hE.block C (lt_of_block GC6.out) (by have := HSC.out; omega)).trans GC6.out
  obtain ⟨V7, u7', ⟨hV, pv, tv⟩, gv, BV⟩ := step_set y7 _ 7 (.slice A7 r7.1.length q7) gcy (Nat.lt_of_lt_of_eq (show 7 < 8 by decide) rfl)
  have BL : Below w.heap.size y7 V7 := BV.below (Below.refl _ _) (by have := HSC.out; omega)
  have EX7 : Hid (Ext R w V7) := (EX6.out.trans hE).then BL
  have SR7 : Hid (Src R A L q wh r7.2 V7) := H.out.later hS (EX6.out.trans hE) BL
  have GC7 : Hid (V7.heap[C]? = some (.cells #[.int .i64 x0, .slice A1 r1.1.length q1, .slice A2 r2.1.length q2, .slice A3 r3.1.length q3, .slice A4 r4.1.length q4, .slice A5 r5.1.length q5, .slice A6 r6.1.length q6, .slice A7 r7.1.length q7] 27 (0, 0))) := gv
  have GS7 : Hid (V7.heap[S]? = some (.cells #[.int .i64 x0, .int .i64 (n1 : Int), .int .i64 (n2 : Int), .int .i64 (n3 : Int), .int .i64 (n4 : Int), .int .i64 (n5 : Int), .int .i64 (n6 : Int)] 91 (0, 0))) := ((BV.b S (by have := HSC.out; omega)).trans (hE.block S (lt_of_block GS6.out) (by have := HSC.out; omega))).trans GS6.out
  have GZ7 : Hid (V7.heap[w.heap.size]? = some (.cells #[.int .i64 0, .slice none 0 0, .slice none 0 0, .slice none 0 0, .slice none 0 0, .slice none 0 0, .slice none 0 0, .slice none 0 0] 27 (0, 0))) := ((BV.b _ (by have := HSC.out; omega)).trans (hE.block _ (lt_of_block GZ6.out) (by have := HSC.out; omega))).trans GZ6.out
  have SZ7 : Hid (C + 1 ≤ V7.heap.size) := by unfold Hid; rw [BV.z]; exact Nat.le_trans SZ6.out hE.size
  replace HO1 : Hid (OwnC V7 (C + 1) 3 1 (.slice A1 r1.1.length q1) (ints r1.1)) := own_but (own_ext HO1.out hE (by have := HSC.out; omega)) BV (Nat.lt_succ_self _)
  replace HO2 : Hid (OwnC V7 (C + 1) 48 3 (.slice A2 r2.1.length q2) (tris r2.1)) := own_but (own_ext HO2.out hE (by have := HSC.out; omega)) BV (Nat.lt_succ_self _)
  replace HO3 : Hid (OwnC V7 (C + 1) 3 1 (.slice A3 r3.1.length q3) (ints r3.1)) := own_but (own_ext HO3.out hE (by have := HSC.out; omega)) BV (Nat.lt_succ_self _)
  replace HO4 : Hid (OwnC V7 (C + 1) 3 1 (.slice A4 r4.1.length q4) (ints r4.1)) := own_but (own_ext HO4.out hE (by have := HSC.out; omega)) BV (Nat.lt_succ_self _)
  replace HO5 : Hid (OwnC V7 (C + 1) 3 1 (.slice A5 r5.1.length q5) (ints r5.1)) := own_but (own_ext HO5.out hE (by have := HSC.out; omega)) BV (Nat.lt_succ_self _)
  replace HO6 : Hid (OwnC V7 (C + 1) 51 3 (.slice A6 r6.1.length q6) (tris r6.1)) := own_but (own_ext HO6.out hE (by have := HSC.out; omega)) BV (Nat.lt_succ_self _)
  have HO7 : Hid (OwnC V7 (C + 1) 56 3 (.slice A7 r7.1.length q7) (nams r7.1)) := own_but (own_base hown SZ6.out) BV (Nat.lt_succ_self _)
  clear hown hle hmx gcy gv BV BL hE hS hq T7 GC6 GS6 GZ6 SZ6 SR6 EX6
  -- what is handed back
  have d0 : V7.cell? ⟨C, 0, none⟩ = some (.int .i64 x0) := by have := GC7.out; simp [World.cell?, this]
  have d1 : V7.cell? ⟨C, 1, none⟩ = some (.slice A1 r1.1.length q1) := by have := GC7.out; simp [World.cell?, this]
  have d2 : V7.cell? ⟨C, 2, none⟩ = some (.slice A2 r2.1.length q2) := by have := GC7.out; simp [World.cell?, this]
  have d3 : V7.cell? ⟨C, 3, none⟩ = some (.slice A3 r3.1.length q3) := by have := GC7.out; simp [World.cell?, this]
  have d4 : V7.cell? ⟨C, 4, none⟩ = some (.slice A4 r4.1.length q4) := by have := GC7.out; simp [World.cell?, this]
  have d5 : V7.cell? ⟨C, 5, none⟩ = some (.slice A5 r5.1.length q5) := by have := GC7.out; simp [World.cell?, this]
  have d6 : V7.cell? ⟨C, 6, none⟩ = some (.slice A6 r6.1.length q6) := by have := GC7.out; simp [World.cell?, this]
  have d7 : V7.cell? ⟨C, 7, none⟩ = some (.slice A7 r7.1.length q7) := by have := GC7.out; simp [World.cell?, this]
  obtain ⟨W1, W2, W3, W4, W5, W6, W7, W8, v0, v1, v2, v3, v4, v5, v6, v7, ⟨hX1, a0, b0⟩, ⟨hX2, a1, b1⟩, ⟨hX3, a2, b2⟩, ⟨hX4, a3, b3⟩, ⟨hX5, a4, b4⟩, ⟨hX6, a5, b5⟩, ⟨hX7, a6, b6⟩, ⟨hX8, a7, b7⟩, E8, FC⟩ := store8 GZ7.out rfl (.int .i64 x0) (.slice A1 r1.1.length q1) (.slice A2 r2.1.length q2) (.slice A3 r3.1.length q3) (.slice A4 r4.1.length q4) (.slice A5 r5.1.length q5) (.slice A6 r6.1.length q6) (.slice A7 r7.1.length q7)
  have e0 : W8.cell? ⟨w.heap.size, 0, none⟩ = some (.int .i64 x0) := by simp [World.cell?, E8]
  have e1 : W8.cell? ⟨w.heap.size, 1, none⟩ = some (.slice A1 r1.1.length q1) := by simp [World.cell?, E8]
  have e2 : W8.cell? ⟨w.heap.size, 2, none⟩ = some (.slice A2 r2.1.length q2) := by simp [World.cell?, E8]
  have e3 : W8.cell? ⟨w.heap.size, 3, none⟩ = some (.slice A3 r3.1.length q3) := by simp [World.cell?, E8]
  have e4 : W8.cell? ⟨w.heap.size, 4, none⟩ = some (.slice A4 r4.1.length q4) := by simp [World.cell?, E8]
  have e5 : W8.cell? ⟨w.heap.size, 5, none⟩ = some (.slice A5 r5.1.length q5) := by simp [World.cell?, E8]
  have e6 : W8.cell? ⟨w.heap.size, 6, none⟩ = some (.slice A6 r6.1.length q6) := by simp [World.cell?, E8]
  have e7 : W8.cell? ⟨w.heap.size, 7, none⟩ = some (.slice A7 r7.1.length q7) := by simp [World.cell?, E8]
  have BL : Below w.heap.size V7 W8 := FC.below (Below.refl _ _) (Nat.le_refl _)
  have SF : Hid (Src R A L q wh r7.2 W8) := H.out.later SR7.out EX7.out BL
  have EF : Hid (Ext R w W8) := EX7.out.then BL
  replace HO1 : Hid (OwnC W8 w.heap.size 3 1 (.slice A1 r1.1.length q1) (ints r1.1)) := own_base (own_but HO1.out FC (by have := HSC.out; omega)) (by have := HSC.out; omega)
  replace HO2 : Hid (OwnC W8 w.heap.size 48 3 (.slice A2 r2.1.length q2) (tris r2.1)) := own_base (own_but HO2.out FC (by have := HSC.out; omega)) (by have := HSC.out; omega)
  replace HO3 : Hid (OwnC W8 w.heap.size 3 1 (.slice A3 r3.1.length q3) (ints r3.1)) := own_base (own_but HO3.out FC (by have := HSC.out; omega)) (by have := HSC.out; omega)
  replace HO4 : Hid (OwnC W8 w.heap.size 3 1 (.slice A4 r4.1.length q4) (ints r4.1)) := own_base (own_but HO4.out FC (by have := HSC.out; omega)) (by have := HSC.out; omega)
  replace HO5 : Hid (OwnC W8 w.heap.size 3 1 (.slice A5 r5.1.length q5) (ints r5.1)) := own_base (own_but HO5.out FC (by have := HSC.out; omega)) (by have := HSC.out; omega)
  replace HO6 : Hid (OwnC W8 w.heap.size 51 3 (.slice A6 r6.1.length q6) (tris r6.1)) := own_base (own_but HO6.out FC (by have := HSC.out; omega)) (by have := HSC.out; omega)
  replace HO7 : Hid (OwnC W8 w.heap.size 56 3 (.slice A7 r7.1.length q7) (nams r7.1)) := own_base (own_but HO7.out FC (by have := HSC.out; omega)) (by have := HSC.out; omega)
  clear E8 FC BL
  go_wp2
  (try simp only [Exit.inBlock, Exit.then])
  have hres : ∀ tmps : Array Value, tmps.getD 2 undef = .pointer (some ⟨w.heap.size, 0, none⟩) → (results Tryz.f22 tmps).run Tryz.prog W8 = .ok (.agg #[.int .i64 x0, .slice A1 r1.1.length q1, .slice A2 r2.1.length q2, .slice A3 r3.1.length q3, .slice A4 r4.1.length q4, .slice A5 r5.1.length q5, .slice A6 r6.1.length q6, .slice A7 r7.1.length q7]) W8 := fun tmps ht => by
    simp only [results, show Tryz.f22.results = #[ResultVar.cell 2 27] from rfl]
    have ht' : tmps[2]?.getD undef = .pointer (some ⟨w.heap.size, 0, none⟩) := by simpa using ht
    go_simp
  refine bodyPost_ret (hres _ rfl) rfl ?_
  exact runs_ok G8.out ⟨⟨A1, A2, A3, A4, A5, A6, A7, q1, q2, q3, q4, q5, q6, q7⟩, rfl, ⟨HO1.out, HO2.out, HO3.out, HO4.out, HO5.out, HO6.out, HO7.out⟩, ⟨HQ1.out.1, HQ2.out.1, HQ3.out.1, HQ4.out.1, HQ5.out.1, HQ6.out.1, HQ7.out.1⟩, ⟨HQ1.out.2, HQ2.out.2, HQ3.out.2, HQ4.out.2, HQ5.out.2, HQ6.out.2, HQ7.out.2⟩, SF.out, EF.out⟩
end Go.Proofs.YtckdlbfndmmjjaaGreatDoor.Aag
