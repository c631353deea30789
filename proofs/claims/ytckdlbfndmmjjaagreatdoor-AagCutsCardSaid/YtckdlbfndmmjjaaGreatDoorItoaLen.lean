/- How long a numeral is; no condition. -/
import Derived.Test.YtckdlbfndmmjjaaGreatDoorDigWalks
namespace Go.Proofs.YtckdlbfndmmjjaaGreatDoor.Dig
open Go.ChangeShapes Go.WideShapes Go.ChangeAt Go.RowKit

theorem itoa_len (n : Int) (h0 : -9223372036854775808 ≤ n) (h1 : n ≤ 9223372036854775807) : (Lib.itoa n).length ≤ 21 := by
  have h : ∀ u : Nat, u < 10 ^ 20 → (Lib.decDigits u).length ≤ 20 := fun u hu => by
    rw [Lib.decDigits_length]
    rcases Nat.lt_or_ge 20 (Lib.nDigits u) with h | h
    · exfalso
      have : ∀ k u : Nat, k + 1 ≤ Lib.nDigits u → 10 ^ k ≤ u ∨ k = 0 := by
        intro k
        induction k with
        | zero => intro u _; exact .inr rfl
        | succ k ih =>
          intro u hu
          left
          by_cases hs : u < 10
          · rw [Lib.nDigits_small hs] at hu; omega
          · rw [Lib.nDigits_big hs] at hu
            have := ih (u / 10) (by omega)
            rw [Nat.pow_succ]
            rcases this with h | h
            · omega
            · subst h; omega
      rcases this 20 u (by omega) with h | h
      · omega
      · omega
    · exact h
  unfold Lib.itoa
  split
  · simp only [List.length_cons]; have := h n.natAbs (by omega); omega
  · have := h n.toNat (by omega); omega

end Go.Proofs.YtckdlbfndmmjjaaGreatDoor.Dig
