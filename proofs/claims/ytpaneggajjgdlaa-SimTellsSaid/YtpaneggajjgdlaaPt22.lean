/- The walk of strash.needed; no condition but that there is not too much. -/
import Derived.Test.YtpaneggajjgdlaaPt20
import Derived.Test.YtpaneggajjgdlaaPt16
import Derived.Test.YtpaneggajjgdlaaPt21
namespace Go.Proofs.Ytpaneggajjgdlaa.Str
open Go.ChangeShapes Go.WideShapes Go.ChangeAt Go.RowKit Go.Maps Circ Cw

end Go.Proofs.Ytpaneggajjgdlaa.Str
