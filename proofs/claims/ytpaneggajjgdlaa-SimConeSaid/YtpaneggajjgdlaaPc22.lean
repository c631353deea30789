/- The walk of strash.needed; no condition but that there is not too much. -/
import Derived.Test.YtpaneggajjgdlaaPc20
import Derived.Test.YtpaneggajjgdlaaPc16
import Derived.Test.YtpaneggajjgdlaaPc21
namespace Go.Proofs.Ytpaneggajjgdlaa.Str
open Go.ChangeShapes Go.WideShapes Go.ChangeAt Go.RowKit Go.Maps Circ Cw

end Go.Proofs.Ytpaneggajjgdlaa.Str
