/- What strash asks of literals, and a look by halves, walked; no condition. -/
import Derived.Test.YtefbknpoehmfaaaPt01
import Derived.Test.YtefbknpoehmfaaaPt13
namespace Go.Proofs.Ytefbknpoehmfaaa.Str
open Go.ChangeShapes Go.WideShapes Go.ChangeAt Go.RowKit Circ Cw

end Go.Proofs.Ytefbknpoehmfaaa.Str
