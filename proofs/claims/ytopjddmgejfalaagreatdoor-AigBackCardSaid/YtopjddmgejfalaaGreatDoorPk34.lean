/- The pages' look whether circuits are one, of circuits that are one; no condition. -/
import Derived.Sort.QuietIn
import Derived.Test.YtopjddmgejfalaaGreatDoorPk12
namespace Go.Proofs.YtopjddmgejfalaaGreatDoor.Cw
open Go.ChangeShapes Go.WideShapes Go.ChangeAt Go.RowKit Go.Maps Circ

set_option maxHeartbeats 1000000 in
theorem sameints_any (R : List Int) (A A' : Option Addr) (q q' B B' : Nat) (w : World) (hl : R.length ≤ 9223372036854775807) (h1 : LRow w B 1 A (ints R)) (h2 : LRow w B' 1 A' (ints R)) :
    Calls Tryz.prog 22 #[.slice A R.length q, .slice A' R.length q'] w fun e w' => e = .returned (.bool true) ∧ Below w.heap.size w w' ∧ (∀ p, w'.cell? p = w.cell? p) ∧ w'.heap = w.heap := by
  go_enter Tryz.func22, Tryz.ntmps22
  go_wp2
  go_loopw [5] (fun i wr => ∃ k : Nat, k ≤ R.length ∧ i = .int .i64 k ∧ Below w.heap.size w wr ∧ (∀ p, wr.cell? p = w.cell? p) ∧ wr.heap = w.heap) (fun i _ => R.length - (intOf i).toNat)
  case atStart => exact ⟨0, Nat.zero_le _, rfl, Below.refl _ _, fun _ => rfl, rfl⟩
  case round =>
    obtain ⟨k, hk, rfl, hb, he, hh⟩ := hrel
    have HH := Lib.hid hh
    clear hh
    by_cases hlt : k < R.length
    · obtain ⟨b, o, rfl, hbb, hx⟩ := h1.int hlt
      obtain ⟨b', o', rfl, hbb', hx'⟩ := h2.int hlt
      have g1 := (he _).trans hx
      have g2 := (he _).trans hx'
      have HE := Lib.hid he
      have HB := Lib.hid hb
      clear hx hx' he hb
      have hne : (R[k] != R[k]) = false := by simp
      generalize R[k] = x at *
      go_wp2
      go_region_held3 (fun w' => w'.cell? ⟨b, o + k, none⟩ = some (.int .i64 x) ∧ w'.cell? ⟨b', o' + k, none⟩ = some (.int .i64 x))
        (exact ⟨g1, g2⟩)
        (fail)
      all_goals
        go_wp2
        go_roundw
        case rel => exact ⟨k + 1, by omega, by go_num, HB.out.drew, HE.out, HH.out⟩
        case measure => simp [intOf]; omega
    · obtain rfl : k = R.length := by omega
      go_wp2
      go_ret
      exact ⟨rfl, hb, he, HH.out⟩

/-- two circuits that are one, each in its box, the boxes in blocks g and g + 1 -/
structure Two (g : Nat) (c : Cir) (s s' : Places) (w : World) : Prop where
  b : Box w g c s
  b' : Box w (g + 1) c s'
  l : CLies w g c s
  l' : CLies w g c s'
  z : g + 2 ≤ w.heap.size
theorem Two.below {g : Nat} {c : Cir} {s s' : Places} {w w' : World} (h : Two g c s s' w) (hb : Below w.heap.size w w') : Two g c s s' w' :=
  have hz := h.z
  ⟨h.b.keep hb (by omega), h.b'.keep hb (by omega), h.l.below (hb.mono (by omega)), h.l'.below (hb.mono (by omega)), Nat.le_trans h.z hb.size⟩
theorem two_made (w : World) (c : Cir) (s s' : Places) (h : CLies w w.heap.size c s) (h' : CLies w w.heap.size c s') : Two w.heap.size c s s' ((w.alloc (.cells (cirC c s) 27)).alloc (.cells (cirC c s') 27)) := by
  have hs1 : (w.alloc (.cells (cirC c s) 27)).heap.size = w.heap.size + 1 := by simp
  have HB1 : Below w.heap.size w (w.alloc (.cells (cirC c s) 27)) := (Below.refl _ _).alloc (Nat.le_refl _) _
  have HB2 : Below w.heap.size w ((w.alloc (.cells (cirC c s) 27)).alloc (.cells (cirC c s') 27)) := HB1.alloc HB1.size _
  have bx' := Box.made (w.alloc (.cells (cirC c s) 27)) c s'
  rw [hs1] at bx'
  exact ⟨(Box.made w c s).keep ((Below.refl (w.heap.size + 1) _).alloc (by rw [hs1]; exact Nat.le_refl _) (.cells (cirC c s') 27)) (Nat.lt_succ_self _), bx', h.below HB2, h'.below HB2, by simp⟩

set_option maxHeartbeats 4000000 in
set_option maxRecDepth 100000 in
theorem refsame_any (c : Cir) (s s' : Places) (w : World) (h : CLies w w.heap.size c s) (h' : CLies w w.heap.size c s') (hf : CFits c s) :
    Calls Tryz.prog 10 #[cirV c s, cirV c s'] w fun e w' => e = .returned (.bool true) ∧ Below w.heap.size w w' := by
  obtain ⟨li, lo, lb, lc, ll, la, ln⟩ : _ ∧ _ ∧ _ ∧ _ ∧ _ ∧ _ ∧ _ := ⟨hf.li, hf.lo, hf.lb, hf.lc, hf.ll, hf.la, hf.ln⟩
  have HB2 : Hid (Below w.heap.size w ((w.alloc (.cells (cirC c s) 27)).alloc (.cells (cirC c s') 27))) := ((Below.refl _ _).alloc (Nat.le_refl _) _).alloc (by simp) _
  have T0 := Lib.hid (two_made w c s s' h h')
  obtain ⟨e0, e1, e2, e3, e4, e5, e6, e7⟩ := T0.out.b.cells
  obtain ⟨f0, f1, f2, f3, f4, f5, f6, f7⟩ := T0.out.b'.cells
  clear h h' hf
  have hmm : (c.max != c.max) = false := by simp
  unfold cirV
  rw [show cirC c s = #[.int .i64 c.max, .slice s.ai c.ins.length s.ki, .slice s.al c.lats.length s.kl, .slice s.ao c.outs.length s.ko, .slice s.ab c.bads.length s.kb, .slice s.ac c.invs.length s.kc, .slice s.aa c.ands.length s.ka, .slice s.an c.names.length s.kn] from rfl] at *
  rw [show cirC c s' = #[.int .i64 c.max, .slice s'.ai c.ins.length s'.ki, .slice s'.al c.lats.length s'.kl, .slice s'.ao c.outs.length s'.ko, .slice s'.ab c.bads.length s'.kb, .slice s'.ac c.invs.length s'.kc, .slice s'.aa c.ands.length s'.ka, .slice s'.an c.names.length s'.kn] from rfl] at *
  have n1 : (c.lats.length != c.lats.length) = false := by simp
  have n2 : (c.ands.length != c.ands.length) = false := by simp
  have n3 : (c.names.length != c.names.length) = false := by simp
  go_enter Tryz.func10, Tryz.ntmps10
  go_wp2_with fail
  refine (sameints_any c.ins _ _ _ _ _ _ _ (by omega) T0.out.l.ins T0.out.l'.ins).mono ?_
  rintro e w1 ⟨rfl, hb1, -, -⟩
  have T1 := Lib.hid (T0.out.below hb1)
  have HBa := Lib.hid (HB2.out.trans (hb1.mono (by have := T0.out.z; omega)))
  clear e0 e1 e2 e3 e4 e5 e6 e7 f0 f1 f2 f3 f4 f5 f6 f7 hb1 HB2 T0
  obtain ⟨e0, e1, e2, e3, e4, e5, e6, e7⟩ := T1.out.b.cells
  obtain ⟨f0, f1, f2, f3, f4, f5, f6, f7⟩ := T1.out.b'.cells
  go_wp2_with fail
  refine (sameints_any c.outs _ _ _ _ _ _ _ (by omega) T1.out.l.outs T1.out.l'.outs).mono ?_
  rintro e w2 ⟨rfl, hb1, -, -⟩
  have T2 := Lib.hid (T1.out.below hb1)
  have HBb := Lib.hid (HBa.out.trans (hb1.mono (by have := T1.out.z; omega)))
  clear e0 e1 e2 e3 e4 e5 e6 e7 f0 f1 f2 f3 f4 f5 f6 f7 hb1 HBa T1
  obtain ⟨e0, e1, e2, e3, e4, e5, e6, e7⟩ := T2.out.b.cells
  obtain ⟨f0, f1, f2, f3, f4, f5, f6, f7⟩ := T2.out.b'.cells
  go_wp2_with fail
  refine (sameints_any c.bads _ _ _ _ _ _ _ (by omega) T2.out.l.bads T2.out.l'.bads).mono ?_
  rintro e w3 ⟨rfl, hb1, -, -⟩
  have T3 := Lib.hid (T2.out.below hb1)
  have HBc := Lib.hid (HBb.out.trans (hb1.mono (by have := T2.out.z; omega)))
  clear e0 e1 e2 e3 e4 e5 e6 e7 f0 f1 f2 f3 f4 f5 f6 f7 hb1 HBb T2
  obtain ⟨e0, e1, e2, e3, e4, e5, e6, e7⟩ := T3.out.b.cells
  obtain ⟨f0, f1, f2, f3, f4, f5, f6, f7⟩ := T3.out.b'.cells
  go_wp2_with fail
  refine (sameints_any c.invs _ _ _ _ _ _ _ (by omega) T3.out.l.invs T3.out.l'.invs).mono ?_
  rintro e w4 ⟨rfl, hb1, -, -⟩
  have T4 := Lib.hid (T3.out.below hb1)
  have HBd := Lib.hid (HBc.out.trans (hb1.mono (by have := T3.out.z; omega)))
  clear e0 e1 e2 e3 e4 e5 e6 e7 f0 f1 f2 f3 f4 f5 f6 f7 hb1 HBc T3
  obtain ⟨e0, e1, e2, e3, e4, e5, e6, e7⟩ := T4.out.b.cells
  obtain ⟨f0, f1, f2, f3, f4, f5, f6, f7⟩ := T4.out.b'.cells
  go_wp2
  go_loopw [5] (fun i wr => ∃ k : Nat, k ≤ c.lats.length ∧ i = .int .i64 k ∧ Two w.heap.size c s s' wr ∧ Below w.heap.size w wr) (fun i _ => c.lats.length - (intOf i).toNat)
  case atStart => exact ⟨0, Nat.zero_le _, rfl, T4.out, HBd.out⟩
  case round =>
    obtain ⟨k, hk, rfl, t, hb⟩ := hrel
    have T := Lib.hid t
    have HB := Lib.hid hb
    clear t hb e0 e1 e2 e3 e4 e5 e6 e7 f0 f1 f2 f3 f4 f5 f6 f7 T4 HBd
    obtain ⟨e0, e1, e2, e3, e4, e5, e6, e7⟩ := T.out.b.cells
    obtain ⟨f0, f1, f2, f3, f4, f5, f6, f7⟩ := T.out.b'.cells
    by_cases hlt : k < c.lats.length
    · obtain ⟨b, o, ha, _, x0, x1, x2⟩ := T.out.l.lats.tri hlt
      obtain ⟨b', o', ha', _, y0, y1, y2⟩ := T.out.l'.lats.tri hlt
      rw [ha] at e2
      rw [ha'] at f2
      generalize c.lats[k].a = x at *
      generalize c.lats[k].b = y at *
      generalize c.lats[k].c = z at *
      have m1 : (x == x) = true := by simp
      have m2 : (y == y) = true := by simp
      have m3 : (z == z) = true := by simp
      go_wp2
      go_region_held3 (fun w' => w'.cell? ⟨w.heap.size, 2, none⟩ = some (.slice (some ⟨b, o, none⟩) c.lats.length s.kl) ∧ w'.cell? ⟨w.heap.size + 1, 2, none⟩ = some (.slice (some ⟨b', o', none⟩) c.lats.length s'.kl) ∧ w'.cell? ⟨b, o + k * 3, none⟩ = some (.int .i64 x) ∧ w'.cell? ⟨b, o + k * 3 + 1, none⟩ = some (.int .i64 y) ∧ w'.cell? ⟨b, o + k * 3 + 2, none⟩ = some (.int .i64 z) ∧ w'.cell? ⟨b', o' + k * 3, none⟩ = some (.int .i64 x) ∧ w'.cell? ⟨b', o' + k * 3 + 1, none⟩ = some (.int .i64 y) ∧ w'.cell? ⟨b', o' + k * 3 + 2, none⟩ = some (.int .i64 z))
        (exact ⟨e2, f2, x0, x1, x2, y0, y1, y2⟩)
        (fail)
      all_goals
        go_wp2
        go_roundw
        case rel => exact ⟨k + 1, by omega, by go_num, T.out.below (Below.refl _ _).drew, HB.out.drew⟩
        case measure => simp [intOf]; omega
    · obtain rfl : k = c.lats.length := by omega
      obtain ⟨wr1, rfl⟩ : ∃ x, x = wr := ⟨_, rfl⟩
      go_wp2
      go_loopw [6] (fun i wr => ∃ k : Nat, k ≤ c.ands.length ∧ i = .int .i64 k ∧ Two w.heap.size c s s' wr ∧ Below w.heap.size w wr) (fun i _ => c.ands.length - (intOf i).toNat)
      case atStart => exact ⟨0, Nat.zero_le _, rfl, T.out, HB.out⟩
      case round =>
        clear T HB e0 e1 e2 e3 e4 e5 e6 e7 f0 f1 f2 f3 f4 f5 f6 f7
        obtain ⟨k, hk, rfl, t, hb⟩ := hrel
        have T := Lib.hid t
        have HB := Lib.hid hb
        clear t hb
        obtain ⟨e0, e1, e2, e3, e4, e5, e6, e7⟩ := T.out.b.cells
        obtain ⟨f0, f1, f2, f3, f4, f5, f6, f7⟩ := T.out.b'.cells
        by_cases hlt : k < c.ands.length
        · obtain ⟨b, o, ha, _, x0, x1, x2⟩ := T.out.l.ands.tri hlt
          obtain ⟨b', o', ha', _, y0, y1, y2⟩ := T.out.l'.ands.tri hlt
          rw [ha] at e6
          rw [ha'] at f6
          generalize c.ands[k].a = x at *
          generalize c.ands[k].b = y at *
          generalize c.ands[k].c = z at *
          have m1 : (x == x) = true := by simp
          have m2 : (y == y) = true := by simp
          have m3 : (z == z) = true := by simp
          go_wp2
          go_region_held3 (fun w' => w'.cell? ⟨w.heap.size, 6, none⟩ = some (.slice (some ⟨b, o, none⟩) c.ands.length s.ka) ∧ w'.cell? ⟨w.heap.size + 1, 6, none⟩ = some (.slice (some ⟨b', o', none⟩) c.ands.length s'.ka) ∧ w'.cell? ⟨b, o + k * 3, none⟩ = some (.int .i64 x) ∧ w'.cell? ⟨b, o + k * 3 + 1, none⟩ = some (.int .i64 y) ∧ w'.cell? ⟨b, o + k * 3 + 2, none⟩ = some (.int .i64 z) ∧ w'.cell? ⟨b', o' + k * 3, none⟩ = some (.int .i64 x) ∧ w'.cell? ⟨b', o' + k * 3 + 1, none⟩ = some (.int .i64 y) ∧ w'.cell? ⟨b', o' + k * 3 + 2, none⟩ = some (.int .i64 z))
            (exact ⟨e6, f6, x0, x1, x2, y0, y1, y2⟩)
            (fail)
          all_goals
            go_wp2
            go_roundw
            case rel => exact ⟨k + 1, by omega, by go_num, T.out.below (Below.refl _ _).drew, HB.out.drew⟩
            case measure => simp [intOf]; omega
        · obtain rfl : k = c.ands.length := by omega
          obtain ⟨wr2, rfl⟩ : ∃ x, x = wr := ⟨_, rfl⟩
          go_wp2
          go_loopw [7] (fun i wr => ∃ k : Nat, k ≤ c.names.length ∧ i = .int .i64 k ∧ Two w.heap.size c s s' wr ∧ Below w.heap.size w wr) (fun i _ => c.names.length - (intOf i).toNat)
          case atStart => exact ⟨0, Nat.zero_le _, rfl, T.out, HB.out⟩
          case round =>
            clear T HB e0 e1 e2 e3 e4 e5 e6 e7 f0 f1 f2 f3 f4 f5 f6 f7
            obtain ⟨k, hk, rfl, t, hb⟩ := hrel
            have T := Lib.hid t
            have HB := Lib.hid hb
            clear t hb
            obtain ⟨e0, e1, e2, e3, e4, e5, e6, e7⟩ := T.out.b.cells
            obtain ⟨f0, f1, f2, f3, f4, f5, f6, f7⟩ := T.out.b'.cells
            by_cases hlt : k < c.names.length
            · obtain ⟨b, o, ha, _, x0, x1, x2⟩ := T.out.l.names.nam hlt
              obtain ⟨b', o', ha', _, y0, y1, y2⟩ := T.out.l'.names.nam hlt
              rw [ha] at e7
              rw [ha'] at f7
              generalize c.names[k].kind = x at *
              generalize c.names[k].num = y at *
              generalize c.names[k].text = z at *
              have m2 : (y == y) = true := by simp
              go_wp2
              go_region_held3 (fun w' => w'.cell? ⟨w.heap.size, 7, none⟩ = some (.slice (some ⟨b, o, none⟩) c.names.length s.kn) ∧ w'.cell? ⟨w.heap.size + 1, 7, none⟩ = some (.slice (some ⟨b', o', none⟩) c.names.length s'.kn) ∧ w'.cell? ⟨b, o + k * 3, none⟩ = some (.string x) ∧ w'.cell? ⟨b, o + k * 3 + 1, none⟩ = some (.int .i64 y) ∧ w'.cell? ⟨b, o + k * 3 + 2, none⟩ = some (.string z) ∧ w'.cell? ⟨b', o' + k * 3, none⟩ = some (.string x) ∧ w'.cell? ⟨b', o' + k * 3 + 1, none⟩ = some (.int .i64 y) ∧ w'.cell? ⟨b', o' + k * 3 + 2, none⟩ = some (.string z))
                (exact ⟨e7, f7, x0, x1, x2, y0, y1, y2⟩)
                (fail)
              all_goals
                go_wp2
                go_roundw
                case rel => exact ⟨k + 1, by omega, by go_num, T.out.below (Below.refl _ _).drew, HB.out.drew⟩
                case measure => simp [intOf]; omega
            · obtain rfl : k = c.names.length := by omega
              go_wp2
              go_ret
              exact ⟨rfl, HB.out⟩
end Go.Proofs.YtopjddmgejfalaaGreatDoor.Cw
