/- The program's own functions answer as the laws of layer 11 ask (Brute aside). Condition (add): together no more clauses than Go lays. -/
import Derived.Test.YtefbknpoehmfaaaPb32
import Derived.Test.YtefbknpoehmfaaaPb16
import Derived.Test.YtefbknpoehmfaaaPb28
import Derived.Test.YtefbknpoehmfaaaPb31
namespace Go.Proofs.Ytefbknpoehmfaaa.For
open Go.ChangeShapes Go.WideShapes Go.ChangeAt Go.RowKit Go.Maps Circ Cw Cla Rep
theorem prog11 : Prog11 11728124029610 where
  check vars L A q w _ hA := fcheck_any vars L A q w hA
  true_ vars L A q m w _ hA hm := ftrue_any vars L A q m w hA hm
  units vars L A q l B r w _ hA hc hl := units_p vars L A q l B r w hA hc hl
  add vars L A q M B r w _ hA hM hn := add_p vars L A q M B r w hA hM hn
end Go.Proofs.Ytefbknpoehmfaaa.For
