/- What stage 6's laws share, and the walk of StrashLess; condition: what is asked of it fits. -/
import Derived.Test.YtbgcoeejmnejdaaPt23
import Derived.Test.YtbgcoeejmnejdaaPt19
import Derived.Test.YtbgcoeejmnejdaaPt24
import Derived.Test.YtbgcoeejmnejdaaPt25
import Derived.Deep.QuietTactic
import Derived.BigQuiet
namespace Go.Proofs.Ytbgcoeejmnejdaa.Str
open Go.ChangeShapes Go.WideShapes Go.ChangeAt Go.RowKit Go.Maps Circ Cw

theorem alive_any (w : World) : Calls Try.prog 12 #[] w fun e w' => e = .returned (.bool true) ∧ w = w' := by
  have PL := Lib.hid (plain_any 4 5 (by constructor <;> decide) (by constructor <;> decide) w)
  rw [show (plainM 4 5) = some 0 from by decide] at PL
  go_enter Try.func12, Try.ntmps12
  go_wp2_with fail
  refine PL.out.mono ?_
  rintro e w' ⟨rfl, rfl⟩
  clear PL
  simp only [Option.getD_some, Option.isSome_some]
  go_wp2
  go_ret
  exact ⟨rfl, rfl⟩
end Go.Proofs.Ytbgcoeejmnejdaa.Str
