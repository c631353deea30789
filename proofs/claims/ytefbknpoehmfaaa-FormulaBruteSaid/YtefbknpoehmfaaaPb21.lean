/- What stands for a literal, walked; no condition. -/
import Derived.Test.YtefbknpoehmfaaaPb03
import Derived.Test.YtefbknpoehmfaaaPb20
namespace Go.Proofs.Ytefbknpoehmfaaa.Str
open Go.ChangeShapes Go.WideShapes Go.ChangeAt Go.RowKit Go.Maps Circ Cw

end Go.Proofs.Ytefbknpoehmfaaa.Str
