/- The pages' look whether circuits are one, of circuits that are one; no condition. -/
import Derived.Sort.QuietIn
import Derived.Test.YtbgcoeejmnejdaaPt11
namespace Go.Proofs.Ytbgcoeejmnejdaa.Cw
open Go.ChangeShapes Go.WideShapes Go.ChangeAt Go.RowKit Go.Maps Circ

/-- two circuits that are one, each in its box, the boxes in blocks g and g + 1 -/
structure Two (g : Nat) (c : Cir) (s s' : Places) (w : World) : Prop where
  b : Box w g c s
  b' : Box w (g + 1) c s'
  l : CLies w g c s
  l' : CLies w g c s'
  z : g + 2 ≤ w.heap.size
theorem Two.below {g : Nat} {c : Cir} {s s' : Places} {w w' : World} (h : Two g c s s' w) (hb : Below w.heap.size w w') : Two g c s s' w' :=
  have hz := h.z
  ⟨h.b.keep hb (by omega), h.b'.keep hb (by omega), h.l.below (hb.mono (by omega)), h.l'.below (hb.mono (by omega)), Nat.le_trans h.z hb.size⟩
end Go.Proofs.Ytbgcoeejmnejdaa.Cw
