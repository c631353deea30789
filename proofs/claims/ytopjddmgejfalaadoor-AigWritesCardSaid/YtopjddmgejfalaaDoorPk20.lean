/- The pages' look whether circuits are one, of circuits that are one; no condition. circuit's look whether circuits are one, of any two whose lists are as long as each other's and whose names are one; no condition. -/
import Derived.Sort.QuietIn
import Derived.Test.YtopjddmgejfalaaDoorPk04
import Derived.Test.YtopjddmgejfalaaDoorPk08
namespace Go.Proofs.YtopjddmgejfalaaDoor.Cw
open Go.ChangeShapes Go.WideShapes Go.ChangeAt Go.RowKit Go.Maps Circ

/-- two circuits that are one, each in its box, the boxes in blocks g and g + 1 -/
structure Two (g : Nat) (c : Cir) (s s' : Places) (w : World) : Prop where
  b : Box w g c s
  b' : Box w (g + 1) c s'
  l : CLies w g c s
  l' : CLies w g c s'
  z : g + 2 ≤ w.heap.size
theorem Two.below {g : Nat} {c : Cir} {s s' : Places} {w w' : World} (h : Two g c s s' w) (hb : Below w.heap.size w w') : Two g c s s' w' :=
  have hz := h.z
  ⟨h.b.keep hb (by omega), h.b'.keep hb (by omega), h.l.below (hb.mono (by omega)), h.l'.below (hb.mono (by omega)), Nat.le_trans h.z hb.size⟩
end Go.Proofs.YtopjddmgejfalaaDoor.Cw
namespace Go.Proofs.YtopjddmgejfalaaDoor.Cw
open Go.ChangeShapes Go.WideShapes Go.ChangeAt Go.RowKit Go.Maps Circ

theorem oneU_any (x y : Int) (w : World) : Calls Tryd.prog 31 #[.int .i64 x, .int .i64 y] w fun e w' => e = .returned (.bool (cnt x == cnt y)) ∧ w = w' := by
  have C := Lib.hid (fun w => ccounted_any x w)
  have D := Lib.hid (fun w => ccounted_any y w)
  generalize cnt x = p at *
  generalize cnt y = q at *
  go_enter Tryd.func31, Tryd.ntmps31
  go_wp2_with fail
  refine (C.out _).mono ?_
  rintro e w' ⟨rfl, rfl⟩
  go_wp2_with fail
  refine (D.out _).mono ?_
  rintro e w' ⟨rfl, rfl⟩
  go_wp2
  go_ret
  exact ⟨rfl, rfl⟩

/-- what a closure answers on two elements -/
def Pair (k : FuncId) (cap : Array Value) (B : Nat) (W : World) (x y : Value) (b : Bool) : Prop :=
  ∀ w, Below B W w → Calls Tryd.prog k (#[x, y] ++ cap) w fun e w' => e = .returned (.bool b) ∧ Below B W w'
theorem all_more {n : Nat} {f : Nat → Bool} (h : ∀ i, i < n → f i = true) : (List.range n).all f = true := List.all_eq_true.2 fun i hi => h i (List.mem_range.1 hi)
theorem all_stop {n : Nat} {f : Nat → Bool} {i : Nat} (hi : i < n) (h : f i = false) : (List.range n).all f = false := by
  rw [List.all_eq_false]; exact ⟨i, List.mem_range.2 hi, by simp [h]⟩

set_option maxHeartbeats 400000 in
theorem equalU32_any (k : FuncId) (cap : Array Value) (l m : List Int) (A A' : Option Addr) (c c' : Nat) (f : Nat → Bool) (W : World) (hlm : m.length = l.length) (hl : l.length ≤ 9223372036854775807)
    (hk : ∀ args w, (callFunc k args).run Tryd.prog w = .ok (.enter k args) w) (hr : LRow W W.heap.size 1 A (ints l)) (hr' : LRow W W.heap.size 1 A' (ints m))
    (hs : ∀ (i : Nat) (h : i < l.length), Pair k cap W.heap.size W (.int .i64 l[i]) (.int .i64 (m[i]'(by omega))) (f i)) :
    Calls Tryd.prog 35 #[.slice A l.length c, .slice A' m.length c', .func (.func k) #[] cap] W fun e w' => e = .returned (.bool ((List.range l.length).all f)) ∧ Below W.heap.size W w' := by
  have HLM := Lib.hid hlm
  rw [hlm]
  have n1 : (l.length != l.length) = false := by simp
  go_enter Tryd.func35, Tryd.ntmps35
  go_wp2
  go_loopw [17] (fun i wr => ∃ j : Nat, j ≤ l.length ∧ i = .int .i64 j ∧ Below W.heap.size W wr ∧ ∀ i, i < j → f i = true) (fun i _ => l.length - (intOf i).toNat)
  case atStart => exact ⟨0, Nat.zero_le _, rfl, Below.refl _ _, fun i hi => absurd hi (Nat.not_lt_zero _)⟩
  case round =>
    obtain ⟨j, hj, rfl, hb, hall⟩ := hrel
    have HA := Lib.hid hall
    clear hall
    by_cases hlt : j < l.length
    · have hlt' : j < m.length := by have := HLM.out; omega
      obtain ⟨b, o, rfl, hbb, hc⟩ := (hr.below hb).int hlt
      obtain ⟨b', o', rfl, hbb', hc'⟩ := (hr'.below hb).int hlt'
      have HE := Lib.hid (hs j hlt)
      have HJ := Lib.hid hlt
      clear hs hr hr'
      generalize l[j] = x at *
      generalize m[j] = y at *
      clear hlt'
      go_wp2_with fail
      refine (HE.out _ hb).mono ?_
      rintro e w' ⟨rfl, hb'⟩
      cases hf : f j with
      | false =>
        have HS : Hid ((List.range l.length).all f = false) := all_stop HJ.out hf
        clear HA HE hf
        go_wp2
        go_ret
        exact ⟨by rw [HS.out]; rfl, hb'⟩
      | true =>
        have HF := Lib.hid hf
        clear hf
        go_wp2
        go_roundw
        case rel => exact ⟨j + 1, by omega, by go_num, hb', fun i hi => by
          by_cases e : i = j
          · rw [e]; exact HF.out
          · exact HA.out i (by omega)⟩
        case measure => simp [intOf]; omega
    · obtain rfl : j = l.length := by omega
      have HS : Hid ((List.range l.length).all f = true) := all_more HA.out
      clear HA
      go_wp2
      go_ret
      exact ⟨by rw [HS.out]; rfl, hb⟩

set_option maxHeartbeats 800000 in
set_option maxRecDepth 100000 in
theorem equalU33_any (k : FuncId) (cap : Array Value) (l m : List Tri) (A A' : Option Addr) (c c' : Nat) (f : Nat → Bool) (W : World) (hlm : m.length = l.length) (hl : l.length ≤ 9223372036854775807)
    (hk : ∀ args w, (callFunc k args).run Tryd.prog w = .ok (.enter k args) w) (hr : LRow W W.heap.size 3 A (tris l)) (hr' : LRow W W.heap.size 3 A' (tris m))
    (hs : ∀ (i : Nat) (h : i < l.length), Pair k cap W.heap.size W (triV l[i]) (triV (m[i]'(by omega))) (f i)) :
    Calls Tryd.prog 36 #[.slice A l.length c, .slice A' m.length c', .func (.func k) #[] cap] W fun e w' => e = .returned (.bool ((List.range l.length).all f)) ∧ Below W.heap.size W w' := by
  have HLM := Lib.hid hlm
  rw [hlm]
  have n1 : (l.length != l.length) = false := by simp
  go_enter Tryd.func36, Tryd.ntmps36
  go_wp2
  go_loopw [17] (fun i wr => ∃ j : Nat, j ≤ l.length ∧ i = .int .i64 j ∧ Below W.heap.size W wr ∧ ∀ i, i < j → f i = true) (fun i _ => l.length - (intOf i).toNat)
  case atStart => exact ⟨0, Nat.zero_le _, rfl, Below.refl _ _, fun i hi => absurd hi (Nat.not_lt_zero _)⟩
  case round =>
    obtain ⟨j, hj, rfl, hb, hall⟩ := hrel
    have HA := Lib.hid hall
    clear hall
    by_cases hlt : j < l.length
    · have hlt' : j < m.length := by have := HLM.out; omega
      obtain ⟨b, o, rfl, hbb, hc0, hc1, hc2⟩ := (hr.below hb).tri hlt
      obtain ⟨b', o', rfl, hbb', hd0, hd1, hd2⟩ := (hr'.below hb).tri hlt'
      have HE := Lib.hid (hs j hlt)
      have HJ := Lib.hid hlt
      clear hs hr hr'
      unfold triV at HE
      generalize l[j] = t at *
      generalize m[j] = u at *
      clear hlt'
      obtain ⟨x, y, z⟩ := t
      obtain ⟨x', y', z'⟩ := u
      simp only [] at hc0 hc1 hc2 hd0 hd1 hd2 HE
      have hba : Below wr.heap.size wr (wr.alloc (.cells #[.int .i64 x, .int .i64 y, .int .i64 z] 41)) := (Below.refl _ _).alloc (Nat.le_refl _) _
      have g0 := cell_later hba hd0
      have g1 := cell_later hba hd1
      have g2 := cell_later hba hd2
      have hsa : (wr.alloc (.cells #[.int .i64 x, .int .i64 y, .int .i64 z] 41)).heap.size = wr.heap.size + 1 := by simp
      obtain ⟨n0, n1', n2⟩ := tri_cells wr x y z 41 ((wr.alloc (.cells #[.int .i64 x, .int .i64 y, .int .i64 z] 41)).alloc (.cells #[.int .i64 x', .int .i64 y', .int .i64 z'] 41)) ((Below.refl _ _).alloc (Nat.le_refl _) _)
      obtain ⟨m0, m1, m2⟩ := tri_cells (wr.alloc (.cells #[.int .i64 x, .int .i64 y, .int .i64 z] 41)) x' y' z' 41 _ (Below.refl _ _)
      rw [hsa] at m0 m1 m2
      have HB2 := Lib.hid ((hb.alloc hb.size (.cells #[.int .i64 x, .int .i64 y, .int .i64 z] 41)).alloc (by simp; have := hb.size; omega) (.cells #[.int .i64 x', .int .i64 y', .int .i64 z'] 41))
      clear hba hsa
      go_wp2_with fail
      refine (HE.out _ HB2.out).mono ?_
      rintro e w' ⟨rfl, hb'⟩
      cases hf : f j with
      | false =>
        have HS : Hid ((List.range l.length).all f = false) := all_stop HJ.out hf
        clear HA HE hf
        go_wp2
        go_ret
        exact ⟨by rw [HS.out]; rfl, hb'⟩
      | true =>
        have HF := Lib.hid hf
        clear hf
        go_wp2
        go_roundw
        case rel => exact ⟨j + 1, by omega, by go_num, hb', fun i hi => by
          by_cases e : i = j
          · rw [e]; exact HF.out
          · exact HA.out i (by omega)⟩
        case measure => simp [intOf]; omega
    · obtain rfl : j = l.length := by omega
      have HS : Hid ((List.range l.length).all f = true) := all_more HA.out
      clear HA
      go_wp2
      go_ret
      exact ⟨by rw [HS.out]; rfl, hb⟩

set_option maxHeartbeats 800000 in
set_option maxRecDepth 100000 in
theorem equalU34_any (k : FuncId) (cap : Array Value) (l m : List Tri) (A A' : Option Addr) (c c' : Nat) (f : Nat → Bool) (W : World) (hlm : m.length = l.length) (hl : l.length ≤ 9223372036854775807)
    (hk : ∀ args w, (callFunc k args).run Tryd.prog w = .ok (.enter k args) w) (hr : LRow W W.heap.size 3 A (tris l)) (hr' : LRow W W.heap.size 3 A' (tris m))
    (hs : ∀ (i : Nat) (h : i < l.length), Pair k cap W.heap.size W (triV l[i]) (triV (m[i]'(by omega))) (f i)) :
    Calls Tryd.prog 37 #[.slice A l.length c, .slice A' m.length c', .func (.func k) #[] cap] W fun e w' => e = .returned (.bool ((List.range l.length).all f)) ∧ Below W.heap.size W w' := by
  have HLM := Lib.hid hlm
  rw [hlm]
  have n1 : (l.length != l.length) = false := by simp
  go_enter Tryd.func37, Tryd.ntmps37
  go_wp2
  go_loopw [17] (fun i wr => ∃ j : Nat, j ≤ l.length ∧ i = .int .i64 j ∧ Below W.heap.size W wr ∧ ∀ i, i < j → f i = true) (fun i _ => l.length - (intOf i).toNat)
  case atStart => exact ⟨0, Nat.zero_le _, rfl, Below.refl _ _, fun i hi => absurd hi (Nat.not_lt_zero _)⟩
  case round =>
    obtain ⟨j, hj, rfl, hb, hall⟩ := hrel
    have HA := Lib.hid hall
    clear hall
    by_cases hlt : j < l.length
    · have hlt' : j < m.length := by have := HLM.out; omega
      obtain ⟨b, o, rfl, hbb, hc0, hc1, hc2⟩ := (hr.below hb).tri hlt
      obtain ⟨b', o', rfl, hbb', hd0, hd1, hd2⟩ := (hr'.below hb).tri hlt'
      have HE := Lib.hid (hs j hlt)
      have HJ := Lib.hid hlt
      clear hs hr hr'
      unfold triV at HE
      generalize l[j] = t at *
      generalize m[j] = u at *
      clear hlt'
      obtain ⟨x, y, z⟩ := t
      obtain ⟨x', y', z'⟩ := u
      simp only [] at hc0 hc1 hc2 hd0 hd1 hd2 HE
      have hba : Below wr.heap.size wr (wr.alloc (.cells #[.int .i64 x, .int .i64 y, .int .i64 z] 43)) := (Below.refl _ _).alloc (Nat.le_refl _) _
      have g0 := cell_later hba hd0
      have g1 := cell_later hba hd1
      have g2 := cell_later hba hd2
      have hsa : (wr.alloc (.cells #[.int .i64 x, .int .i64 y, .int .i64 z] 43)).heap.size = wr.heap.size + 1 := by simp
      obtain ⟨n0, n1', n2⟩ := tri_cells wr x y z 43 ((wr.alloc (.cells #[.int .i64 x, .int .i64 y, .int .i64 z] 43)).alloc (.cells #[.int .i64 x', .int .i64 y', .int .i64 z'] 43)) ((Below.refl _ _).alloc (Nat.le_refl _) _)
      obtain ⟨m0, m1, m2⟩ := tri_cells (wr.alloc (.cells #[.int .i64 x, .int .i64 y, .int .i64 z] 43)) x' y' z' 43 _ (Below.refl _ _)
      rw [hsa] at m0 m1 m2
      have HB2 := Lib.hid ((hb.alloc hb.size (.cells #[.int .i64 x, .int .i64 y, .int .i64 z] 43)).alloc (by simp; have := hb.size; omega) (.cells #[.int .i64 x', .int .i64 y', .int .i64 z'] 43))
      clear hba hsa
      go_wp2_with fail
      refine (HE.out _ HB2.out).mono ?_
      rintro e w' ⟨rfl, hb'⟩
      cases hf : f j with
      | false =>
        have HS : Hid ((List.range l.length).all f = false) := all_stop HJ.out hf
        clear HA HE hf
        go_wp2
        go_ret
        exact ⟨by rw [HS.out]; rfl, hb'⟩
      | true =>
        have HF := Lib.hid hf
        clear hf
        go_wp2
        go_roundw
        case rel => exact ⟨j + 1, by omega, by go_num, hb', fun i hi => by
          by_cases e : i = j
          · rw [e]; exact HF.out
          · exact HA.out i (by omega)⟩
        case measure => simp [intOf]; omega
    · obtain rfl : j = l.length := by omega
      have HS : Hid ((List.range l.length).all f = true) := all_more HA.out
      clear HA
      go_wp2
      go_ret
      exact ⟨by rw [HS.out]; rfl, hb⟩

set_option maxHeartbeats 800000 in
set_option maxRecDepth 100000 in
theorem sameU30_any (t u : Tri) (g : Nat) (w : World) (hg : w.cell? ⟨g, 0, none⟩ = some (.func (.func 31) #[] #[])) :
    Calls Tryd.prog 33 #[triV t, triV u, .pointer (some ⟨g, 0, none⟩)] w fun e w' => e = .returned (.bool (Aig.triC t == Aig.triC u)) ∧ Below w.heap.size w w' := by
  have hk : ∀ args w, (callFunc 31 args).run Tryd.prog w = .ok (.enter 31 args) w := enters_of Tryd.func31 (by kernel_rfl) rfl
  obtain ⟨x, y, z⟩ := t
  obtain ⟨x', y', z'⟩ := u
  have hb1 : Below w.heap.size w (w.alloc (.cells #[.int .i64 x, .int .i64 y, .int .i64 z] 41)) := (Below.refl _ _).alloc (Nat.le_refl _) _
  have hb2 := hb1.alloc hb1.size (.cells #[.int .i64 x', .int .i64 y', .int .i64 z'] 41)
  have hg2 := cell_later hb2 hg
  have hsa : (w.alloc (.cells #[.int .i64 x, .int .i64 y, .int .i64 z] 41)).heap.size = w.heap.size + 1 := by simp
  obtain ⟨n0, n1, n2⟩ := tri_cells w x y z 41 ((w.alloc (.cells #[.int .i64 x, .int .i64 y, .int .i64 z] 41)).alloc (.cells #[.int .i64 x', .int .i64 y', .int .i64 z'] 41)) ((Below.refl _ _).alloc (Nat.le_refl _) _)
  obtain ⟨m0, m1, m2⟩ := tri_cells (w.alloc (.cells #[.int .i64 x, .int .i64 y, .int .i64 z] 41)) x' y' z' 41 _ (Below.refl _ _)
  rw [hsa] at m0 m1 m2
  have HB2 := Lib.hid hb2
  have O1 := Lib.hid (oneU_any x x')
  have O2 := Lib.hid (oneU_any y y')
  have O3 := Lib.hid (oneU_any z z')
  have HR : Hid (((cnt x == cnt x') = false → (Aig.triC ⟨x, y, z⟩ == Aig.triC ⟨x', y', z'⟩) = false) ∧ ((cnt y == cnt y') = false → (Aig.triC ⟨x, y, z⟩ == Aig.triC ⟨x', y', z'⟩) = false) ∧ ((cnt x == cnt x') = true → (cnt y == cnt y') = true → (Aig.triC ⟨x, y, z⟩ == Aig.triC ⟨x', y', z'⟩) = (cnt z == cnt z'))) := by
    have e : (Aig.triC ⟨x, y, z⟩ == Aig.triC ⟨x', y', z'⟩) = (cnt x == cnt x' && (cnt y == cnt y' && cnt z == cnt z')) := rfl
    unfold Hid
    rw [e]
    exact ⟨fun h => by rw [h]; rfl, fun h => by rw [h]; simp, fun h1 h2 => by rw [h1, h2]; rfl⟩
  clear hb1 hb2 hsa
  unfold triV
  go_enter Tryd.func33, Tryd.ntmps33
  go_wp2_with fail
  refine (O1.out _).mono ?_
  rintro e w' ⟨rfl, rfl⟩
  cases h1 : (cnt x == cnt x') with
  | false =>
    have R := Lib.hid (HR.out.1 h1)
    clear HR O1 O2 O3 h1
    go_wp2
    go_ret
    exact ⟨by rw [R.out]; rfl, HB2.out⟩
  | true =>
    have H1 := Lib.hid h1
    clear h1 O1
    go_wp2_with fail
    refine (O2.out _).mono ?_
    rintro e w' ⟨rfl, rfl⟩
    cases h2 : (cnt y == cnt y') with
    | false =>
      have R := Lib.hid (HR.out.2.1 h2)
      clear HR O2 O3 h2
      go_wp2
      go_ret
      exact ⟨by rw [R.out]; rfl, HB2.out⟩
    | true =>
      have R := Lib.hid (HR.out.2.2 H1.out h2)
      clear HR O2 h2
      go_wp2_with fail
      refine (O3.out _).mono ?_
      rintro e w' ⟨rfl, rfl⟩
      generalize (cnt z == cnt z') = bz at *
      go_wp2
      go_ret
      exact ⟨by rw [R.out]; rfl, HB2.out⟩

set_option maxHeartbeats 800000 in
set_option maxRecDepth 100000 in
theorem sameU31_any (t u : Tri) (g : Nat) (w : World) (hg : w.cell? ⟨g, 0, none⟩ = some (.func (.func 31) #[] #[])) :
    Calls Tryd.prog 34 #[triV t, triV u, .pointer (some ⟨g, 0, none⟩)] w fun e w' => e = .returned (.bool (Aig.triC t == Aig.triC u)) ∧ Below w.heap.size w w' := by
  have hk : ∀ args w, (callFunc 31 args).run Tryd.prog w = .ok (.enter 31 args) w := enters_of Tryd.func31 (by kernel_rfl) rfl
  obtain ⟨x, y, z⟩ := t
  obtain ⟨x', y', z'⟩ := u
  have hb1 : Below w.heap.size w (w.alloc (.cells #[.int .i64 x, .int .i64 y, .int .i64 z] 43)) := (Below.refl _ _).alloc (Nat.le_refl _) _
  have hb2 := hb1.alloc hb1.size (.cells #[.int .i64 x', .int .i64 y', .int .i64 z'] 43)
  have hg2 := cell_later hb2 hg
  have hsa : (w.alloc (.cells #[.int .i64 x, .int .i64 y, .int .i64 z] 43)).heap.size = w.heap.size + 1 := by simp
  obtain ⟨n0, n1, n2⟩ := tri_cells w x y z 43 ((w.alloc (.cells #[.int .i64 x, .int .i64 y, .int .i64 z] 43)).alloc (.cells #[.int .i64 x', .int .i64 y', .int .i64 z'] 43)) ((Below.refl _ _).alloc (Nat.le_refl _) _)
  obtain ⟨m0, m1, m2⟩ := tri_cells (w.alloc (.cells #[.int .i64 x, .int .i64 y, .int .i64 z] 43)) x' y' z' 43 _ (Below.refl _ _)
  rw [hsa] at m0 m1 m2
  have HB2 := Lib.hid hb2
  have O1 := Lib.hid (oneU_any x x')
  have O2 := Lib.hid (oneU_any y y')
  have O3 := Lib.hid (oneU_any z z')
  have HR : Hid (((cnt x == cnt x') = false → (Aig.triC ⟨x, y, z⟩ == Aig.triC ⟨x', y', z'⟩) = false) ∧ ((cnt y == cnt y') = false → (Aig.triC ⟨x, y, z⟩ == Aig.triC ⟨x', y', z'⟩) = false) ∧ ((cnt x == cnt x') = true → (cnt y == cnt y') = true → (Aig.triC ⟨x, y, z⟩ == Aig.triC ⟨x', y', z'⟩) = (cnt z == cnt z'))) := by
    have e : (Aig.triC ⟨x, y, z⟩ == Aig.triC ⟨x', y', z'⟩) = (cnt x == cnt x' && (cnt y == cnt y' && cnt z == cnt z')) := rfl
    unfold Hid
    rw [e]
    exact ⟨fun h => by rw [h]; rfl, fun h => by rw [h]; simp, fun h1 h2 => by rw [h1, h2]; rfl⟩
  clear hb1 hb2 hsa
  unfold triV
  go_enter Tryd.func34, Tryd.ntmps34
  go_wp2_with fail
  refine (O1.out _).mono ?_
  rintro e w' ⟨rfl, rfl⟩
  cases h1 : (cnt x == cnt x') with
  | false =>
    have R := Lib.hid (HR.out.1 h1)
    clear HR O1 O2 O3 h1
    go_wp2
    go_ret
    exact ⟨by rw [R.out]; rfl, HB2.out⟩
  | true =>
    have H1 := Lib.hid h1
    clear h1 O1
    go_wp2_with fail
    refine (O2.out _).mono ?_
    rintro e w' ⟨rfl, rfl⟩
    cases h2 : (cnt y == cnt y') with
    | false =>
      have R := Lib.hid (HR.out.2.1 h2)
      clear HR O2 O3 h2
      go_wp2
      go_ret
      exact ⟨by rw [R.out]; rfl, HB2.out⟩
    | true =>
      have R := Lib.hid (HR.out.2.2 H1.out h2)
      clear HR O2 h2
      go_wp2_with fail
      refine (O3.out _).mono ?_
      rintro e w' ⟨rfl, rfl⟩
      generalize (cnt z == cnt z') = bz at *
      go_wp2
      go_ret
      exact ⟨by rw [R.out]; rfl, HB2.out⟩

set_option maxHeartbeats 1000000 in
theorem equal35_any (l : List Nam) (A A' : Option Addr) (q q' B B' : Nat) (w : World) (hl : l.length ≤ 9223372036854775807) (h1 : LRow w B 3 A (nams l)) (h2 : LRow w B' 3 A' (nams l)) :
    Calls Tryd.prog 38 #[.slice A l.length q, .slice A' l.length q'] w fun e w' => e = .returned (.bool true) ∧ Below w.heap.size w w' := by
  have n1 : (l.length != l.length) = false := by simp
  go_enter Tryd.func38, Tryd.ntmps38
  go_wp2
  go_loopw [13] (fun i wr => ∃ k : Nat, k ≤ l.length ∧ i = .int .i64 k ∧ Below w.heap.size w wr ∧ (∀ p, wr.cell? p = w.cell? p)) (fun i _ => l.length - (intOf i).toNat)
  case atStart => exact ⟨0, Nat.zero_le _, rfl, Below.refl _ _, fun _ => rfl⟩
  case round =>
    obtain ⟨k, hk, rfl, hb, he⟩ := hrel
    by_cases hlt : k < l.length
    · obtain ⟨b, o, rfl, _, x0, x1, x2⟩ := h1.nam hlt
      obtain ⟨b', o', rfl, _, y0, y1, y2⟩ := h2.nam hlt
      replace x0 := (he _).trans x0
      replace x1 := (he _).trans x1
      replace x2 := (he _).trans x2
      replace y0 := (he _).trans y0
      replace y1 := (he _).trans y1
      replace y2 := (he _).trans y2
      have HE := Lib.hid he
      have HB := Lib.hid hb
      clear he hb
      generalize l[k].kind = x at *
      generalize l[k].num = y at *
      generalize l[k].text = z at *
      have m2 : (y == y) = true := by simp
      go_wp2
      go_region_held3 (fun w' => w'.cell? ⟨b, o + k * 3, none⟩ = some (.string x) ∧ w'.cell? ⟨b, o + k * 3 + 1, none⟩ = some (.int .i64 y) ∧ w'.cell? ⟨b, o + k * 3 + 2, none⟩ = some (.string z) ∧ w'.cell? ⟨b', o' + k * 3, none⟩ = some (.string x) ∧ w'.cell? ⟨b', o' + k * 3 + 1, none⟩ = some (.int .i64 y) ∧ w'.cell? ⟨b', o' + k * 3 + 2, none⟩ = some (.string z))
        (exact ⟨x0, x1, x2, y0, y1, y2⟩)
        (fail)
      all_goals
        go_wp2
        go_roundw
        case rel => exact ⟨k + 1, by omega, by go_num, HB.out.drew, HE.out⟩
        case measure => simp [intOf]; omega
    · obtain rfl : k = l.length := by omega
      go_wp2
      go_ret
      exact ⟨rfl, hb⟩
end Go.Proofs.YtopjddmgejfalaaDoor.Cw
