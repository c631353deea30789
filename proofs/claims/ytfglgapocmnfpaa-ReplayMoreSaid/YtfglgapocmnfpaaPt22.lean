/- The walk of strash.needed; no condition but that there is not too much. -/
import Derived.Test.YtfglgapocmnfpaaPt20
import Derived.Test.YtfglgapocmnfpaaPt16
import Derived.Test.YtfglgapocmnfpaaPt21
namespace Go.Proofs.Ytfglgapocmnfpaa.Str
open Go.ChangeShapes Go.WideShapes Go.ChangeAt Go.RowKit Go.Maps Circ Cw

end Go.Proofs.Ytfglgapocmnfpaa.Str
