/- What the laws of layer 10 ask of the program's own functions, and the laws from it: ClauseParts, ClauseSound, ClauseNorm. Arguments that are clauses, opened; the cores of ClauseParts, ClauseSound, ClauseNorm. Condition of the ..U forms: bulk at most 1048576. -/
import Derived.Test.YtjlnffkieocihaaPt06
import Derived.Test.YtjlnffkieocihaaPt01
import Derived.Test.YtjlnffkieocihaaRows
namespace Go.Proofs.Ytjlnffkieocihaa.Cla
open Go.ChangeShapes Go.WideShapes Go.ChangeAt Go.RowKit Go.Maps Circ Cw

end Go.Proofs.Ytjlnffkieocihaa.Cla
namespace Go.Proofs.Ytjlnffkieocihaa.Cla
open Go.ChangeShapes Go.WideShapes Go.ChangeAt Go.RowKit Go.Maps Go.Deep Circ Cw
section
variable {H : Type} {enc : TypeId × Value → H} {W : World}
theorem of_weights {ts : List TypeId} {ds : List (DataW H)} (hsz : (DataW.weightsEach Try.prog ts ds).all (· ≤ reachBytes) = true) (j : Nat) {t : TypeId} {d : DataW H} (ht : ts[j]? = some t) (hd : ds[j]? = some d) : ∀ n ∈ DataW.weights Try.prog t d, n ≤ reachBytes := fun n hn => by
  have := List.all_eq_true.1 hsz n (DataW.weights_mem_each (j := j) ht hd n hn)
  simpa using this
end
end Go.Proofs.Ytjlnffkieocihaa.Cla
