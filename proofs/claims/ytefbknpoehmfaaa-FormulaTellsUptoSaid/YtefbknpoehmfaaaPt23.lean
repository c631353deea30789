/- What stands for a literal, walked; no condition. -/
import Derived.Test.YtefbknpoehmfaaaPt03
import Derived.Test.YtefbknpoehmfaaaPt22
namespace Go.Proofs.Ytefbknpoehmfaaa.Str
open Go.ChangeShapes Go.WideShapes Go.ChangeAt Go.RowKit Go.Maps Circ Cw

end Go.Proofs.Ytefbknpoehmfaaa.Str
