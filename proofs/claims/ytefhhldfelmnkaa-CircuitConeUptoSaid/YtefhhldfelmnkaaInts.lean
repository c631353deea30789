/- The pages' look whether lists of numbers are one, of lists that are one; no condition. -/
import Derived.Test.YtefhhldfelmnkaaConeW
import Derived.Sort.QuietIn
namespace Go.Proofs.Ytefhhldfelmnkaa.Cw
open Go.ChangeShapes Go.WideShapes Go.ChangeAt Go.RowKit Go.Maps Circ

set_option maxHeartbeats 1000000 in
theorem ints_same (R : List Int) (A A' : Option Addr) (q q' B B' : Nat) (w : World) (hl : R.length ≤ 9223372036854775807) (h1 : LRow w B 1 A (ints R)) (h2 : LRow w B' 1 A' (ints R)) :
    Calls Try.prog 14 #[.slice A R.length q, .slice A' R.length q'] w fun e w' => e = .returned (.bool true) ∧ Below w.heap.size w w' := by
  go_enter Try.func14, Try.ntmps14
  go_wp2
  go_loopw [5] (fun i wr => ∃ k : Nat, k ≤ R.length ∧ i = .int .i64 k ∧ Below w.heap.size w wr ∧ (∀ p, wr.cell? p = w.cell? p)) (fun i _ => R.length - (intOf i).toNat)
  case atStart => exact ⟨0, Nat.zero_le _, rfl, Below.refl _ _, fun _ => rfl⟩
  case round =>
    obtain ⟨k, hk, rfl, hb, he⟩ := hrel
    by_cases hlt : k < R.length
    · obtain ⟨b, o, rfl, hbb, hx⟩ := h1.int hlt
      obtain ⟨b', o', rfl, hbb', hx'⟩ := h2.int hlt
      have g1 := (he _).trans hx
      have g2 := (he _).trans hx'
      have HE := Lib.hid he
      have HB := Lib.hid hb
      clear hx hx' he hb
      have hne : (R[k] != R[k]) = false := by simp
      generalize R[k] = x at *
      go_wp2
      go_region_held3 (fun w' => w'.cell? ⟨b, o + k, none⟩ = some (.int .i64 x) ∧ w'.cell? ⟨b', o' + k, none⟩ = some (.int .i64 x))
        (exact ⟨g1, g2⟩)
        (fail)
      all_goals
        go_wp2
        go_roundw
        case rel => exact ⟨k + 1, by omega, by go_num, HB.out.drew, HE.out⟩
        case measure => simp [intOf]; omega
    · obtain rfl : k = R.length := by omega
      go_wp2
      go_ret
      exact ⟨rfl, hb⟩
end Go.Proofs.Ytefhhldfelmnkaa.Cw
