/- The walks of package lits' functions as circuits use them, and of slices' search for the first number of a kind; no condition. The walks of circuit's looks at sizes and texts, and of what panics where a circuit may not be; no condition. The walks of circuit's looks at kinds and texts of names, and at what pins there are; of the pages' own count and rank; no condition. -/
import Derived.Test.YtomkdegajhijjaaChecked
import Derived.Test.YtomkdegajhijjaaPt00
import Derived.WalkKit
import Derived.ProofKit
import Derived.WalkSpells
import Derived.WalkLawsBesides
import Derived.Outline
import Derived.Lib.Hide
import Derived.LoopTactic
import Derived.OneCell
import Derived.Deep.QuietTactic
import Derived.BigQuiet
import Derived.Shelf.Abstract
namespace Go.Proofs.Ytomkdegajhijjaa.Cw
open Go.ChangeShapes Go.WideShapes Go.ChangeAt Go.RowKit Circ

end Go.Proofs.Ytomkdegajhijjaa.Cw
namespace Go.Proofs.Ytomkdegajhijjaa.Cw
open Go.ChangeShapes Go.WideShapes Go.ChangeAt Go.RowKit Circ

theorem new_cell (w : World) (cs : Array Value) (t : TypeId) (k : Nat) : (w.alloc (.cells cs t)).cell? ⟨w.heap.size, k, none⟩ = cs[k]? := by simp

end Go.Proofs.Ytomkdegajhijjaa.Cw
namespace Go.Proofs.Ytomkdegajhijjaa.Cw
open Go.ChangeShapes Go.WideShapes Go.ChangeAt Go.RowKit Circ

def kinds : List ByteArray := [⟨#[105]⟩, ⟨#[108]⟩, ⟨#[111]⟩, ⟨#[98]⟩, ⟨#[99]⟩]
end Go.Proofs.Ytomkdegajhijjaa.Cw
