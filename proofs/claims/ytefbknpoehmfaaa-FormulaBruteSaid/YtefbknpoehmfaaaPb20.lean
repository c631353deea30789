/- What strash asks of literals, and a look by halves, walked; no condition. -/
import Derived.Test.YtefbknpoehmfaaaPb01
import Derived.Test.YtefbknpoehmfaaaPb12
namespace Go.Proofs.Ytefbknpoehmfaaa.Str
open Go.ChangeShapes Go.WideShapes Go.ChangeAt Go.RowKit Circ Cw

end Go.Proofs.Ytefbknpoehmfaaa.Str
