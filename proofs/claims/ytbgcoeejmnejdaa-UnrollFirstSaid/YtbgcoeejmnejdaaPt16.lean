/- Bits; no condition. -/
import Derived.Test.YtbgcoeejmnejdaaPt05
import Derived.Test.YtbgcoeejmnejdaaPt15
import Derived.Test.YtbgcoeejmnejdaaPt13
namespace Go.Proofs.Ytbgcoeejmnejdaa.Sim
open Go.ChangeShapes Go.WideShapes Go.ChangeAt Go.RowKit Go.Maps Circ Cw

theorem other_at (w : World) : PredAt Try.prog 70 #[] encR otherR w := fun W r _ => by
  unfold FnGives encR
  show Calls Try.prog 70 #[.int .i32 (r : Int)] W _
  by_cases h : r = 48
  · subst h
    go_enter Try.func70, Try.ntmps70
    go_wp2
    go_ret
    exact ⟨rfl, 0, rfl⟩
  · have e : otherR r = (((r : Nat) : Int) != 49) := by
      unfold otherR
      rw [Bool.eq_iff_iff]
      simp only [Bool.and_eq_true, bne_iff_ne, decide_eq_true_eq]
      omega
    rw [e]
    have h1 : (((r : Nat) : Int) != 48) = true := by simp; omega
    go_enter Try.func70, Try.ntmps70
    go_wp2
    go_ret
    exact ⟨rfl, 0, rfl⟩
theorem bits_text (s : ByteArray) (n : Int) (w : World) :
    Calls Try.prog 32 #[.string s, .int .i64 n] w fun e w' => e = .returned (.bool (bitsM s n)) ∧ Below w.heap.size w w' := by
  have EV : ∀ args w, (callFunc 70 args).run Try.prog w = .ok (.enter 70 args) w := enters_of Try.func70 (by kernel_rfl) rfl
  have CF := Lib.hid (TryB.strings_ContainsFunc 70 #[] EV otherR s w (other_at w))
  rw [idx_bits] at CF
  unfold bitsM
  generalize s.data.toList.all isBit = q at *
  clear EV
  by_cases h : (s.size : Int) = n
  · subst h
    go_enter Try.func32, Try.ntmps32
    go_wp2_with fail
    refine CF.out.mono ?_
    rintro e w' ⟨rfl, hb⟩
    go_wp2
    go_ret
    exact ⟨by simp, hb⟩
  · have hb : ((s.size : Int) == n) = false := beq_eq_false_iff_ne.2 h
    go_enter Try.func32, Try.ntmps32
    go_wp2
    go_ret
    exact ⟨by simp [h], Below.refl _ _⟩
end Go.Proofs.Ytbgcoeejmnejdaa.Sim
