/- The walk of strash.needed; no condition but that there is not too much. -/
import Derived.Test.YtjlnffkieocihaaPt23
import Derived.Test.YtjlnffkieocihaaPt19
import Derived.Test.YtjlnffkieocihaaPt24
namespace Go.Proofs.Ytjlnffkieocihaa.Str
open Go.ChangeShapes Go.WideShapes Go.ChangeAt Go.RowKit Go.Maps Circ Cw

end Go.Proofs.Ytjlnffkieocihaa.Str
