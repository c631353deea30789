/- The cores of layer 10's laws and what they ask of the program, together; no condition. -/
import Derived.Test.YtoifogbfhlnlaaaPt07
import Derived.Test.YtoifogbfhlnlaaaPt14
import Derived.Test.YtoifogbfhlnlaaaPt15
namespace Go.Proofs.Ytoifogbfhlnlaaa.Cla
end Go.Proofs.Ytoifogbfhlnlaaa.Cla
