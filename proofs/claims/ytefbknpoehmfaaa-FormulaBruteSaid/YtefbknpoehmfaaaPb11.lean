/- The mathematics of the program's own Norm: a list without zeros, sorted by the program's comparison, each number once, is the pages' list in order; of neighbours one is the other's opposite just where the clause is always true. No condition but that numbers fit. -/
import Derived.Test.YtefbknpoehmfaaaPb06
import Derived.Lib.SlicesCompact
import Derived.Lib.Small
import Derived.Sort.Statements
namespace Go.Proofs.Ytefbknpoehmfaaa.Cla
open Go.ChangeShapes Go.WideShapes Go.ChangeAt Go.RowKit Go.Maps Circ Cw
open Go.Lib (compareInt compact compactUpTo keeps compactUpTo_succ)

/-- a literal's variable, as the program's own function answers it -/
def varW (x : Int) : Int := if x < 0 then wrap64 (-x) else x
theorem varW_abs {x : Int} (h : I64 x) : varW x = absW x := by
  obtain ⟨h0, h1⟩ := h
  unfold varW absW negW wrap64
  split <;> split <;> (try split) <;> omega
end Go.Proofs.Ytefbknpoehmfaaa.Cla
