/- circuit's look whether circuits are one, of circuits that are one; no condition. -/
import Derived.Test.YtefhhldfelmnkaaSameR
namespace Go.Proofs.Ytefhhldfelmnkaa.Cw
open Go.ChangeShapes Go.WideShapes Go.ChangeAt Go.RowKit Go.Maps Circ

theorem one_any (x : Int) (w : World) : Calls Try.prog 28 #[.int .i64 x, .int .i64 x] w fun e w' => e = .returned (.bool true) ∧ w = w' := by
  have h : (cnt x == cnt x) = true := by simp
  have C := Lib.hid (fun w => ccounted_any x w)
  generalize cnt x = y at *
  go_enter Try.func28, Try.ntmps28
  go_wp2_with (go_at_call 29; refine (C.out _).mono ?_; rintro e w' ⟨rfl, rfl⟩)
  go_ret
  exact ⟨rfl, rfl⟩

/-- what a closure answers on an element and itself -/
def Twin (k : FuncId) (cap : Array Value) (B : Nat) (W : World) (x : Value) : Prop :=
  ∀ w, Below B W w → Calls Try.prog k (#[x, x] ++ cap) w fun e w' => e = .returned (.bool true) ∧ Below B W w'

set_option maxHeartbeats 400000 in
theorem equal32_any (k : FuncId) (cap : Array Value) (l : List Int) (A A' : Option Addr) (c c' : Nat) (W : World) (hl : l.length ≤ 9223372036854775807)
    (hk : ∀ args w, (callFunc k args).run Try.prog w = .ok (.enter k args) w) (hr : LRow W W.heap.size 1 A (ints l)) (hr' : LRow W W.heap.size 1 A' (ints l))
    (hs : ∀ (i : Nat) (h : i < l.length), Twin k cap W.heap.size W (.int .i64 l[i])) :
    Calls Try.prog 32 #[.slice A l.length c, .slice A' l.length c', .func (.func k) #[] cap] W fun e w' => e = .returned (.bool true) ∧ Below W.heap.size W w' := by
  have n1 : (l.length != l.length) = false := by simp
  go_enter Try.func32, Try.ntmps32
  go_wp2
  go_loopw [17] (fun i wr => ∃ j : Nat, j ≤ l.length ∧ i = .int .i64 j ∧ Below W.heap.size W wr) (fun i _ => l.length - (intOf i).toNat)
  case atStart => exact ⟨0, Nat.zero_le _, rfl, Below.refl _ _⟩
  case round =>
    obtain ⟨j, hj, rfl, hb⟩ := hrel
    by_cases hlt : j < l.length
    · obtain ⟨b, o, rfl, hbb, hc⟩ := (hr.below hb).int hlt
      obtain ⟨b', o', rfl, hbb', hc'⟩ := (hr'.below hb).int hlt
      have HE := Lib.hid (hs j hlt)
      clear hs hr hr'
      generalize l[j] = x at *
      go_wp2_with fail
      refine (HE.out _ hb).mono ?_
      rintro e w' ⟨rfl, hb'⟩
      go_wp2
      go_roundw
      case rel => exact ⟨j + 1, by omega, by go_num, hb'⟩
      case measure => simp [intOf]; omega
    · obtain rfl : j = l.length := by omega
      go_wp2
      go_ret
      exact ⟨rfl, hb⟩

set_option maxHeartbeats 800000 in
set_option maxRecDepth 100000 in
theorem equal33_any (k : FuncId) (cap : Array Value) (l : List Tri) (A A' : Option Addr) (c c' : Nat) (W : World) (hl : l.length ≤ 9223372036854775807)
    (hk : ∀ args w, (callFunc k args).run Try.prog w = .ok (.enter k args) w) (hr : LRow W W.heap.size 3 A (tris l)) (hr' : LRow W W.heap.size 3 A' (tris l))
    (hs : ∀ (i : Nat) (h : i < l.length), Twin k cap W.heap.size W (triV l[i])) :
    Calls Try.prog 33 #[.slice A l.length c, .slice A' l.length c', .func (.func k) #[] cap] W fun e w' => e = .returned (.bool true) ∧ Below W.heap.size W w' := by
  have n1 : (l.length != l.length) = false := by simp
  go_enter Try.func33, Try.ntmps33
  go_wp2
  go_loopw [17] (fun i wr => ∃ j : Nat, j ≤ l.length ∧ i = .int .i64 j ∧ Below W.heap.size W wr) (fun i _ => l.length - (intOf i).toNat)
  case atStart => exact ⟨0, Nat.zero_le _, rfl, Below.refl _ _⟩
  case round =>
    obtain ⟨j, hj, rfl, hb⟩ := hrel
    by_cases hlt : j < l.length
    · obtain ⟨b, o, rfl, hbb, hc0, hc1, hc2⟩ := (hr.below hb).tri hlt
      obtain ⟨b', o', rfl, hbb', hd0, hd1, hd2⟩ := (hr'.below hb).tri hlt
      have HE := Lib.hid (hs j hlt)
      clear hs hr hr'
      unfold triV at HE
      generalize l[j] = t at *
      obtain ⟨x, y, z⟩ := t
      simp only [] at hc0 hc1 hc2 hd0 hd1 hd2 HE
      have hba : Below wr.heap.size wr (wr.alloc (.cells #[.int .i64 x, .int .i64 y, .int .i64 z] 47)) := (Below.refl _ _).alloc (Nat.le_refl _) _
      have g0 := cell_later hba hd0
      have g1 := cell_later hba hd1
      have g2 := cell_later hba hd2
      have hsa : (wr.alloc (.cells #[.int .i64 x, .int .i64 y, .int .i64 z] 47)).heap.size = wr.heap.size + 1 := by simp
      obtain ⟨n0, n1', n2⟩ := tri_cells wr x y z 47 ((wr.alloc (.cells #[.int .i64 x, .int .i64 y, .int .i64 z] 47)).alloc (.cells #[.int .i64 x, .int .i64 y, .int .i64 z] 47)) ((Below.refl _ _).alloc (Nat.le_refl _) _)
      obtain ⟨m0, m1, m2⟩ := tri_cells (wr.alloc (.cells #[.int .i64 x, .int .i64 y, .int .i64 z] 47)) x y z 47 _ (Below.refl _ _)
      rw [hsa] at m0 m1 m2
      have HB2 := Lib.hid ((hb.alloc hb.size (.cells #[.int .i64 x, .int .i64 y, .int .i64 z] 47)).alloc (by simp; have := hb.size; omega) (.cells #[.int .i64 x, .int .i64 y, .int .i64 z] 47))
      clear hba hsa
      go_wp2_with fail
      refine (HE.out _ HB2.out).mono ?_
      rintro e w' ⟨rfl, hb'⟩
      go_wp2
      go_roundw
      case rel => exact ⟨j + 1, by omega, by go_num, hb'⟩
      case measure => simp [intOf]; omega
    · obtain rfl : j = l.length := by omega
      go_wp2
      go_ret
      exact ⟨rfl, hb⟩

set_option maxHeartbeats 800000 in
set_option maxRecDepth 100000 in
theorem equal34_any (k : FuncId) (cap : Array Value) (l : List Tri) (A A' : Option Addr) (c c' : Nat) (W : World) (hl : l.length ≤ 9223372036854775807)
    (hk : ∀ args w, (callFunc k args).run Try.prog w = .ok (.enter k args) w) (hr : LRow W W.heap.size 3 A (tris l)) (hr' : LRow W W.heap.size 3 A' (tris l))
    (hs : ∀ (i : Nat) (h : i < l.length), Twin k cap W.heap.size W (triV l[i])) :
    Calls Try.prog 34 #[.slice A l.length c, .slice A' l.length c', .func (.func k) #[] cap] W fun e w' => e = .returned (.bool true) ∧ Below W.heap.size W w' := by
  have n1 : (l.length != l.length) = false := by simp
  go_enter Try.func34, Try.ntmps34
  go_wp2
  go_loopw [17] (fun i wr => ∃ j : Nat, j ≤ l.length ∧ i = .int .i64 j ∧ Below W.heap.size W wr) (fun i _ => l.length - (intOf i).toNat)
  case atStart => exact ⟨0, Nat.zero_le _, rfl, Below.refl _ _⟩
  case round =>
    obtain ⟨j, hj, rfl, hb⟩ := hrel
    by_cases hlt : j < l.length
    · obtain ⟨b, o, rfl, hbb, hc0, hc1, hc2⟩ := (hr.below hb).tri hlt
      obtain ⟨b', o', rfl, hbb', hd0, hd1, hd2⟩ := (hr'.below hb).tri hlt
      have HE := Lib.hid (hs j hlt)
      clear hs hr hr'
      unfold triV at HE
      generalize l[j] = t at *
      obtain ⟨x, y, z⟩ := t
      simp only [] at hc0 hc1 hc2 hd0 hd1 hd2 HE
      have hba : Below wr.heap.size wr (wr.alloc (.cells #[.int .i64 x, .int .i64 y, .int .i64 z] 40)) := (Below.refl _ _).alloc (Nat.le_refl _) _
      have g0 := cell_later hba hd0
      have g1 := cell_later hba hd1
      have g2 := cell_later hba hd2
      have hsa : (wr.alloc (.cells #[.int .i64 x, .int .i64 y, .int .i64 z] 40)).heap.size = wr.heap.size + 1 := by simp
      obtain ⟨n0, n1', n2⟩ := tri_cells wr x y z 40 ((wr.alloc (.cells #[.int .i64 x, .int .i64 y, .int .i64 z] 40)).alloc (.cells #[.int .i64 x, .int .i64 y, .int .i64 z] 40)) ((Below.refl _ _).alloc (Nat.le_refl _) _)
      obtain ⟨m0, m1, m2⟩ := tri_cells (wr.alloc (.cells #[.int .i64 x, .int .i64 y, .int .i64 z] 40)) x y z 40 _ (Below.refl _ _)
      rw [hsa] at m0 m1 m2
      have HB2 := Lib.hid ((hb.alloc hb.size (.cells #[.int .i64 x, .int .i64 y, .int .i64 z] 40)).alloc (by simp; have := hb.size; omega) (.cells #[.int .i64 x, .int .i64 y, .int .i64 z] 40))
      clear hba hsa
      go_wp2_with fail
      refine (HE.out _ HB2.out).mono ?_
      rintro e w' ⟨rfl, hb'⟩
      go_wp2
      go_roundw
      case rel => exact ⟨j + 1, by omega, by go_num, hb'⟩
      case measure => simp [intOf]; omega
    · obtain rfl : j = l.length := by omega
      go_wp2
      go_ret
      exact ⟨rfl, hb⟩

set_option maxHeartbeats 800000 in
set_option maxRecDepth 100000 in
theorem same30_any (t : Tri) (g : Nat) (w : World) (hg : w.cell? ⟨g, 0, none⟩ = some (.func (.func 28) #[] #[])) :
    Calls Try.prog 30 #[triV t, triV t, .pointer (some ⟨g, 0, none⟩)] w fun e w' => e = .returned (.bool true) ∧ Below w.heap.size w w' := by
  have hk : ∀ args w, (callFunc 28 args).run Try.prog w = .ok (.enter 28 args) w := enters_of Try.func28 (by kernel_rfl) rfl
  obtain ⟨x, y, z⟩ := t
  have hb1 : Below w.heap.size w (w.alloc (.cells #[.int .i64 x, .int .i64 y, .int .i64 z] 47)) := (Below.refl _ _).alloc (Nat.le_refl _) _
  have hb2 := hb1.alloc hb1.size (.cells #[.int .i64 x, .int .i64 y, .int .i64 z] 47)
  have hg2 := cell_later hb2 hg
  have hsa : (w.alloc (.cells #[.int .i64 x, .int .i64 y, .int .i64 z] 47)).heap.size = w.heap.size + 1 := by simp
  obtain ⟨n0, n1, n2⟩ := tri_cells w x y z 47 ((w.alloc (.cells #[.int .i64 x, .int .i64 y, .int .i64 z] 47)).alloc (.cells #[.int .i64 x, .int .i64 y, .int .i64 z] 47)) ((Below.refl _ _).alloc (Nat.le_refl _) _)
  obtain ⟨m0, m1, m2⟩ := tri_cells (w.alloc (.cells #[.int .i64 x, .int .i64 y, .int .i64 z] 47)) x y z 47 _ (Below.refl _ _)
  rw [hsa] at m0 m1 m2
  have HB2 := Lib.hid hb2
  clear hb1 hb2 hsa
  unfold triV
  go_enter Try.func30, Try.ntmps30
  go_wp2_with (refine (one_any _ _).mono ?_; rintro e w' ⟨rfl, rfl⟩)
  go_ret
  exact ⟨rfl, HB2.out⟩

set_option maxHeartbeats 800000 in
set_option maxRecDepth 100000 in
theorem same31_any (t : Tri) (g : Nat) (w : World) (hg : w.cell? ⟨g, 0, none⟩ = some (.func (.func 28) #[] #[])) :
    Calls Try.prog 31 #[triV t, triV t, .pointer (some ⟨g, 0, none⟩)] w fun e w' => e = .returned (.bool true) ∧ Below w.heap.size w w' := by
  have hk : ∀ args w, (callFunc 28 args).run Try.prog w = .ok (.enter 28 args) w := enters_of Try.func28 (by kernel_rfl) rfl
  obtain ⟨x, y, z⟩ := t
  have hb1 : Below w.heap.size w (w.alloc (.cells #[.int .i64 x, .int .i64 y, .int .i64 z] 40)) := (Below.refl _ _).alloc (Nat.le_refl _) _
  have hb2 := hb1.alloc hb1.size (.cells #[.int .i64 x, .int .i64 y, .int .i64 z] 40)
  have hg2 := cell_later hb2 hg
  have hsa : (w.alloc (.cells #[.int .i64 x, .int .i64 y, .int .i64 z] 40)).heap.size = w.heap.size + 1 := by simp
  obtain ⟨n0, n1, n2⟩ := tri_cells w x y z 40 ((w.alloc (.cells #[.int .i64 x, .int .i64 y, .int .i64 z] 40)).alloc (.cells #[.int .i64 x, .int .i64 y, .int .i64 z] 40)) ((Below.refl _ _).alloc (Nat.le_refl _) _)
  obtain ⟨m0, m1, m2⟩ := tri_cells (w.alloc (.cells #[.int .i64 x, .int .i64 y, .int .i64 z] 40)) x y z 40 _ (Below.refl _ _)
  rw [hsa] at m0 m1 m2
  have HB2 := Lib.hid hb2
  clear hb1 hb2 hsa
  unfold triV
  go_enter Try.func31, Try.ntmps31
  go_wp2_with (refine (one_any _ _).mono ?_; rintro e w' ⟨rfl, rfl⟩)
  go_ret
  exact ⟨rfl, HB2.out⟩

set_option maxHeartbeats 1000000 in
theorem equal35_any (l : List Nam) (A A' : Option Addr) (q q' B B' : Nat) (w : World) (hl : l.length ≤ 9223372036854775807) (h1 : LRow w B 3 A (nams l)) (h2 : LRow w B' 3 A' (nams l)) :
    Calls Try.prog 35 #[.slice A l.length q, .slice A' l.length q'] w fun e w' => e = .returned (.bool true) ∧ Below w.heap.size w w' := by
  have n1 : (l.length != l.length) = false := by simp
  go_enter Try.func35, Try.ntmps35
  go_wp2
  go_loopw [13] (fun i wr => ∃ k : Nat, k ≤ l.length ∧ i = .int .i64 k ∧ Below w.heap.size w wr ∧ (∀ p, wr.cell? p = w.cell? p)) (fun i _ => l.length - (intOf i).toNat)
  case atStart => exact ⟨0, Nat.zero_le _, rfl, Below.refl _ _, fun _ => rfl⟩
  case round =>
    obtain ⟨k, hk, rfl, hb, he⟩ := hrel
    by_cases hlt : k < l.length
    · obtain ⟨b, o, rfl, _, x0, x1, x2⟩ := h1.nam hlt
      obtain ⟨b', o', rfl, _, y0, y1, y2⟩ := h2.nam hlt
      replace x0 := (he _).trans x0
      replace x1 := (he _).trans x1
      replace x2 := (he _).trans x2
      replace y0 := (he _).trans y0
      replace y1 := (he _).trans y1
      replace y2 := (he _).trans y2
      have HE := Lib.hid he
      have HB := Lib.hid hb
      clear he hb
      generalize l[k].kind = x at *
      generalize l[k].num = y at *
      generalize l[k].text = z at *
      have m2 : (y == y) = true := by simp
      go_wp2
      go_region_held3 (fun w' => w'.cell? ⟨b, o + k * 3, none⟩ = some (.string x) ∧ w'.cell? ⟨b, o + k * 3 + 1, none⟩ = some (.int .i64 y) ∧ w'.cell? ⟨b, o + k * 3 + 2, none⟩ = some (.string z) ∧ w'.cell? ⟨b', o' + k * 3, none⟩ = some (.string x) ∧ w'.cell? ⟨b', o' + k * 3 + 1, none⟩ = some (.int .i64 y) ∧ w'.cell? ⟨b', o' + k * 3 + 2, none⟩ = some (.string z))
        (exact ⟨x0, x1, x2, y0, y1, y2⟩)
        (fail)
      all_goals
        go_wp2
        go_roundw
        case rel => exact ⟨k + 1, by omega, by go_num, HB.out.drew, HE.out⟩
        case measure => simp [intOf]; omega
    · obtain rfl : k = l.length := by omega
      go_wp2
      go_ret
      exact ⟨rfl, hb⟩
end Go.Proofs.Ytefhhldfelmnkaa.Cw
