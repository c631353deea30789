/- Lists of numbers put one behind the other by slices.Concat, walked; no condition but that there are not too many. -/
import Derived.Test.YtbgcoeejmnejdaaPt04
import Derived.Test.YtbgcoeejmnejdaaPt11
import Derived.Lib.AppendZeros
namespace Go.Proofs.Ytbgcoeejmnejdaa.Str
open Go.ChangeShapes Go.WideShapes Go.ChangeAt Go.RowKit Go.Maps Circ Cw

/-- a list of numbers where it lies -/
structure Row where
  A : Option Addr
  l : List Int
  q : Nat
end Go.Proofs.Ytbgcoeejmnejdaa.Str
