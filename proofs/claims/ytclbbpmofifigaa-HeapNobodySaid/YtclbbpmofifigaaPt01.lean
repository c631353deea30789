/- The walks of package lits' functions as circuits use them, and of slices' search for the first number of a kind; no condition. The walks of circuit's looks at sizes and texts, and of what panics where a circuit may not be; no condition. The walks of circuit's looks at kinds and texts of names, and at what pins there are; of the pages' own count and rank; no condition. -/
import Derived.Test.YtclbbpmofifigaaChecked
import Derived.Test.YtclbbpmofifigaaPt00
import Derived.WalkKit
import Derived.ProofKit
import Derived.WalkSpells
import Derived.WalkLawsBesides
import Derived.Outline
import Derived.Lib.Hide
import Derived.LoopTactic
import Derived.OneCell
import Derived.Deep.QuietTactic
import Derived.BigQuiet
import Derived.Shelf.Abstract
namespace Go.Proofs.Ytclbbpmofifigaa.Cw
open Go.ChangeShapes Go.WideShapes Go.ChangeAt Go.RowKit Circ

theorem ret_bool {a b : Bool} (h : a = b) : Ending.returned (.bool a) = .returned (.bool b) := by rw [h]
theorem any_take {α : Type} (l : List α) (p : α → Bool) (k : Nat) (hk : k < l.length) : (l.take (k + 1)).any p = ((l.take k).any p || p l[k]) := by
  rw [List.take_succ_eq_append_getElem hk, List.any_append]; simp
theorem any_of {α : Type} (l : List α) (p : α → Bool) (k : Nat) (hk : k < l.length) (h : p l[k] = true) : l.any p = true :=
  List.any_eq_true.2 ⟨l[k], List.getElem_mem _, h⟩

end Go.Proofs.Ytclbbpmofifigaa.Cw
namespace Go.Proofs.Ytclbbpmofifigaa.Cw
open Go.ChangeShapes Go.WideShapes Go.ChangeAt Go.RowKit Circ

theorem new_cell (w : World) (cs : Array Value) (t : TypeId) (k : Nat) : (w.alloc (.cells cs t)).cell? ⟨w.heap.size, k, none⟩ = cs[k]? := by simp

end Go.Proofs.Ytclbbpmofifigaa.Cw
namespace Go.Proofs.Ytclbbpmofifigaa.Cw
open Go.ChangeShapes Go.WideShapes Go.ChangeAt Go.RowKit Circ

def kinds : List ByteArray := [⟨#[105]⟩, ⟨#[108]⟩, ⟨#[111]⟩, ⟨#[98]⟩, ⟨#[99]⟩]
end Go.Proofs.Ytclbbpmofifigaa.Cw
