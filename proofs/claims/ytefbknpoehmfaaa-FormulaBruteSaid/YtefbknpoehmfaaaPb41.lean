/- The program's own functions, Brute too, as the laws of layer 11 ask. -/
import Derived.Test.YtefbknpoehmfaaaPb33
import Derived.Test.YtefbknpoehmfaaaPb40
namespace Go.Proofs.Ytefbknpoehmfaaa.For
open Go.ChangeShapes Go.WideShapes Go.ChangeAt Go.RowKit Go.Maps Circ Cw Cla Rep
theorem brute11F : Brute11 := brute11
end Go.Proofs.Ytefbknpoehmfaaa.For
