/- The walk of strash.needed; no condition but that there is not too much. -/
import Derived.Test.YtbgcoeejmnejdaaPt18
import Derived.Test.YtbgcoeejmnejdaaPt13
import Derived.Test.YtbgcoeejmnejdaaPt19
namespace Go.Proofs.Ytbgcoeejmnejdaa.Str
open Go.ChangeShapes Go.WideShapes Go.ChangeAt Go.RowKit Go.Maps Circ Cw

end Go.Proofs.Ytbgcoeejmnejdaa.Str
