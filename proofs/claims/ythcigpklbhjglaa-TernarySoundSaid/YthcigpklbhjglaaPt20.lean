/- The walk of strash.needed; no condition but that there is not too much. -/
import Derived.Test.YthcigpklbhjglaaPt18
import Derived.Test.YthcigpklbhjglaaPt13
import Derived.Test.YthcigpklbhjglaaPt19
namespace Go.Proofs.Ythcigpklbhjglaa.Str
open Go.ChangeShapes Go.WideShapes Go.ChangeAt Go.RowKit Go.Maps Circ Cw

end Go.Proofs.Ythcigpklbhjglaa.Str
