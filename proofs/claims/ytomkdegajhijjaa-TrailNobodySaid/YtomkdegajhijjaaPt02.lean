/- The walk of circuit's look at a name's text; no condition. Sets of numbers in memory: a map of int to nothing; no condition. -/
import Derived.Test.YtomkdegajhijjaaPt01
import Derived.Lib.ConvBytes
import Derived.Maps.OwnSet
namespace Go.Proofs.Ytomkdegajhijjaa.Cw
open Go.ChangeShapes Go.WideShapes Go.ChangeAt Go.RowKit Circ
end Go.Proofs.Ytomkdegajhijjaa.Cw
namespace Go.Proofs.Ytomkdegajhijjaa.Cw
open Go.ChangeShapes Go.WideShapes Go.ChangeAt Go.RowKit Go.Maps Circ

/-- block B is a map whose keys are just the numbers of S -/
def IsSet (w : World) (B : Nat) (S : List Int) : Prop :=
  ∃ n D, w.ownsMap Try.prog 3 (unitElem (H := Unit)) B n D ∧ n ≤ S.length ∧ ∀ x, I64 x → Maps.has D (.int .i64 x) = S.contains x

theorem IsSet.made (w : World) : IsSet (w.alloc (.map #[] 0)) w.heap.size [] :=
  ⟨0, _, World.ownsMap_made w _ _ _, Nat.le_refl _, fun _ _ => rfl⟩
theorem IsSet.lt {w : World} {B : Nat} {S : List Int} (h : IsSet w B S) : B < w.heap.size := by
  obtain ⟨n, D, h1, _⟩ := h; exact h1.lt
theorem IsSet.keep {w w' : World} {B : Nat} {S : List Int} (h : IsSet w B S) (hb : w'.heap[B]? = w.heap[B]?) : IsSet w' B S := by
  obtain ⟨n, D, ⟨es, cl, h0, r⟩, h2⟩ := h
  exact ⟨n, D, ⟨es, cl, hb.trans h0, r⟩, h2⟩
theorem IsSet.below {w w' : World} {B C : Nat} {S : List Int} (h : IsSet w B S) (hb : Below C w w') (hC : B < C) : IsSet w' B S := h.keep (hb.block B hC)
theorem IsSet.alloc {w : World} {B : Nat} {S : List Int} (h : IsSet w B S) (o : Obj) : IsSet (w.alloc o) B S := h.keep (Below.heap_alloc w o B h.lt)
theorem IsSet.drew {w : World} {B : Nat} {S : List Int} (h : IsSet w B S) : IsSet w.drew B S := h
end Go.Proofs.Ytomkdegajhijjaa.Cw
