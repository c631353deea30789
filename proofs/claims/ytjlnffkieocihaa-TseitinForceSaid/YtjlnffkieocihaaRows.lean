/-
  No cell of these rows narrows 'for every input' (looked for: loops, veiled, ifaces, maps, wideKeys, modest, calm, conditions, laid).
  DERIVED. THE GIVEN ROWS OF THIS SEAT. 9 by the template 'for every input the law returns true; each argument reads behind the call as it read before'; 0 by the template 'total and deterministic' (their statements: YtjlnffkieocihaaTotals.lean).
  GIVEN WITH THE SEED: the statements are not yours to turn. If you find one false, say at which input.
  Laid BY PROGRAM, IN A SANDBOX (cutbox-rows.mjs): the forced cells as the released guide's own fill.sh prints them over the translation c3a4397ab5a9838d… (all of the seat's roots in one cut). By AI agents, Wed Nov 11 2026. No macro, syntax, notation, axiom, sorry.
-/
import Derived.Test.YtjlnffkieocihaaChecked
import GoSem.Claim
import GoSem.ClaimJoined
import GoSem.ClaimMapViews
import Derived.JoinedTies
import Derived.KernelRfl
namespace Go.Proofs.Ytjlnffkieocihaa
/- THE CELL 'sum', in the pinned program and in every row, IS THE sha256 OF THE DUMP (.gsa) THAT YtjlnffkieocihaaProg.lean LOADS. Nothing in Lean hashes anything: it is a label: what it is worth is what the hold of that sum in a sandbox is worth. -/
noncomputable def Try.pinned : Pinned := { name := "ytjlnffkieocihaa", sum := "c3a4397ab5a9838da494ccf1e56f38c43cb40a62029322debb41d52947cd0cd0", checked := Try.checked }
namespace Rows
def none {H : Type} : Left H := { results := [], args := [] }

/-- 'interlocklaw06.StrashSame': WHATEVER THE INPUT: true; the input reads as it did. -/
def strashSameSpec : ChangeSpec := { name := "strashSame", fn := fun _ => fun
  | [d1, d2] => { results := [.lit (.bool true)], args := [d1, d2] }
  | _ => none }
def strashSameRow : OpenClaim := { program := "ytjlnffkieocihaa", sum := "c3a4397ab5a9838da494ccf1e56f38c43cb40a62029322debb41d52947cd0cd0", func := "interlock/interlocklaw06.StrashSame", spec := "strashSame", unfollowed := true, recurses := true, plainKeys := false, apart := false }
def StrashSameSaid : Prop := strashSameRow.holds Try.pinned (OpenSpec.ofChange strashSameSpec)

/-- ITS FALSE NEIGHBOUR: 'it returns false'. Refute it at one input. -/
def strashSameWrong : ChangeSpec := { name := "strashSame", fn := fun _ => fun
  | [d1, d2] => { results := [.lit (.bool false)], args := [d1, d2] }
  | _ => none }
def StrashSameWrongFalsely : Prop := strashSameRow.holds Try.pinned (OpenSpec.ofChange strashSameWrong)

/-- 'interlocklaw06.StrashLess': WHATEVER THE INPUT: true; the input reads as it did. -/
def strashLessSpec : ChangeSpec := { name := "strashLess", fn := fun _ => fun
  | [d] => { results := [.lit (.bool true)], args := [d] }
  | _ => none }
def strashLessRow : OpenClaim := { program := "ytjlnffkieocihaa", sum := "c3a4397ab5a9838da494ccf1e56f38c43cb40a62029322debb41d52947cd0cd0", func := "interlock/interlocklaw06.StrashLess", spec := "strashLess", unfollowed := true, recurses := true, plainKeys := false, apart := false }
def StrashLessSaid : Prop := strashLessRow.holds Try.pinned (OpenSpec.ofChange strashLessSpec)

/-- ITS FALSE NEIGHBOUR: 'it returns false'. Refute it at one input. -/
def strashLessWrong : ChangeSpec := { name := "strashLess", fn := fun _ => fun
  | [d] => { results := [.lit (.bool false)], args := [d] }
  | _ => none }
def StrashLessWrongFalsely : Prop := strashLessRow.holds Try.pinned (OpenSpec.ofChange strashLessWrong)

/-- 'interlocklaw06.StrashTwice': WHATEVER THE INPUT: true; the input reads as it did. -/
def strashTwiceSpec : ChangeSpec := { name := "strashTwice", fn := fun _ => fun
  | [d1, d2] => { results := [.lit (.bool true)], args := [d1, d2] }
  | _ => none }
def strashTwiceRow : OpenClaim := { program := "ytjlnffkieocihaa", sum := "c3a4397ab5a9838da494ccf1e56f38c43cb40a62029322debb41d52947cd0cd0", func := "interlock/interlocklaw06.StrashTwice", spec := "strashTwice", unfollowed := true, recurses := true, plainKeys := false, apart := false }
def StrashTwiceSaid : Prop := strashTwiceRow.holds Try.pinned (OpenSpec.ofChange strashTwiceSpec)

/-- ITS FALSE NEIGHBOUR: 'it returns false'. Refute it at one input. -/
def strashTwiceWrong : ChangeSpec := { name := "strashTwice", fn := fun _ => fun
  | [d1, d2] => { results := [.lit (.bool false)], args := [d1, d2] }
  | _ => none }
def StrashTwiceWrongFalsely : Prop := strashTwiceRow.holds Try.pinned (OpenSpec.ofChange strashTwiceWrong)

/-- 'interlocklaw07.SimTells': WHATEVER THE INPUT: true; the input reads as it did. -/
def simTellsSpec : ChangeSpec := { name := "simTells", fn := fun _ => fun
  | [d1, d2, d3, d4, d5, d6] => { results := [.lit (.bool true)], args := [d1, d2, d3, d4, d5, d6] }
  | _ => none }
def simTellsRow : OpenClaim := { program := "ytjlnffkieocihaa", sum := "c3a4397ab5a9838da494ccf1e56f38c43cb40a62029322debb41d52947cd0cd0", func := "interlock/interlocklaw07.SimTells", spec := "simTells", inPlace := ["internal/bytealg.MakeNoZero", "internal/abi.NoEscape"], unfollowed := true, recurses := true, plainKeys := false, apart := false }
def SimTellsSaid : Prop := simTellsRow.holds Try.pinned (OpenSpec.ofChange simTellsSpec)

/-- ITS FALSE NEIGHBOUR: 'it returns false'. Refute it at one input. -/
def simTellsWrong : ChangeSpec := { name := "simTells", fn := fun _ => fun
  | [d1, d2, d3, d4, d5, d6] => { results := [.lit (.bool false)], args := [d1, d2, d3, d4, d5, d6] }
  | _ => none }
def SimTellsWrongFalsely : Prop := simTellsRow.holds Try.pinned (OpenSpec.ofChange simTellsWrong)

/-- 'interlocklaw07.SimGates': WHATEVER THE INPUT: true; the input reads as it did. -/
def simGatesSpec : ChangeSpec := { name := "simGates", fn := fun _ => fun
  | [d1, d2, d3, d4] => { results := [.lit (.bool true)], args := [d1, d2, d3, d4] }
  | _ => none }
def simGatesRow : OpenClaim := { program := "ytjlnffkieocihaa", sum := "c3a4397ab5a9838da494ccf1e56f38c43cb40a62029322debb41d52947cd0cd0", func := "interlock/interlocklaw07.SimGates", spec := "simGates", inPlace := ["internal/bytealg.MakeNoZero", "internal/abi.NoEscape"], unfollowed := true, recurses := true, plainKeys := false, apart := false }
def SimGatesSaid : Prop := simGatesRow.holds Try.pinned (OpenSpec.ofChange simGatesSpec)

/-- ITS FALSE NEIGHBOUR: 'it returns false'. Refute it at one input. -/
def simGatesWrong : ChangeSpec := { name := "simGates", fn := fun _ => fun
  | [d1, d2, d3, d4] => { results := [.lit (.bool false)], args := [d1, d2, d3, d4] }
  | _ => none }
def SimGatesWrongFalsely : Prop := simGatesRow.holds Try.pinned (OpenSpec.ofChange simGatesWrong)

/-- 'interlocklaw07.SimCone': WHATEVER THE INPUT: true; the input reads as it did. -/
def simConeSpec : ChangeSpec := { name := "simCone", fn := fun _ => fun
  | [d1, d2, d3, d4, d5] => { results := [.lit (.bool true)], args := [d1, d2, d3, d4, d5] }
  | _ => none }
def simConeRow : OpenClaim := { program := "ytjlnffkieocihaa", sum := "c3a4397ab5a9838da494ccf1e56f38c43cb40a62029322debb41d52947cd0cd0", func := "interlock/interlocklaw07.SimCone", spec := "simCone", inPlace := ["internal/bytealg.MakeNoZero", "internal/abi.NoEscape"], unfollowed := true, recurses := true, plainKeys := false, apart := false }
def SimConeSaid : Prop := simConeRow.holds Try.pinned (OpenSpec.ofChange simConeSpec)

/-- ITS FALSE NEIGHBOUR: 'it returns false'. Refute it at one input. -/
def simConeWrong : ChangeSpec := { name := "simCone", fn := fun _ => fun
  | [d1, d2, d3, d4, d5] => { results := [.lit (.bool false)], args := [d1, d2, d3, d4, d5] }
  | _ => none }
def SimConeWrongFalsely : Prop := simConeRow.holds Try.pinned (OpenSpec.ofChange simConeWrong)

/-- 'interlocklaw12.TseitinValues': WHATEVER THE INPUT: true; the input reads as it did. -/
def tseitinValuesSpec : ChangeSpec := { name := "tseitinValues", fn := fun _ => fun
  | [d1, d2, d3, d4] => { results := [.lit (.bool true)], args := [d1, d2, d3, d4] }
  | _ => none }
def tseitinValuesRow : OpenClaim := { program := "ytjlnffkieocihaa", sum := "c3a4397ab5a9838da494ccf1e56f38c43cb40a62029322debb41d52947cd0cd0", func := "interlock/interlocklaw12.TseitinValues", spec := "tseitinValues", unfollowed := true, recurses := true, plainKeys := false, apart := false }
def TseitinValuesSaid : Prop := tseitinValuesRow.holds Try.pinned (OpenSpec.ofChange tseitinValuesSpec)

/-- ITS FALSE NEIGHBOUR: 'it returns false'. Refute it at one input. -/
def tseitinValuesWrong : ChangeSpec := { name := "tseitinValues", fn := fun _ => fun
  | [d1, d2, d3, d4] => { results := [.lit (.bool false)], args := [d1, d2, d3, d4] }
  | _ => none }
def TseitinValuesWrongFalsely : Prop := tseitinValuesRow.holds Try.pinned (OpenSpec.ofChange tseitinValuesWrong)

/-- 'interlocklaw12.TseitinForce': WHATEVER THE INPUT: true; the input reads as it did. -/
def tseitinForceSpec : ChangeSpec := { name := "tseitinForce", fn := fun _ => fun
  | [d1, d2, d3, d4] => { results := [.lit (.bool true)], args := [d1, d2, d3, d4] }
  | _ => none }
def tseitinForceRow : OpenClaim := { program := "ytjlnffkieocihaa", sum := "c3a4397ab5a9838da494ccf1e56f38c43cb40a62029322debb41d52947cd0cd0", func := "interlock/interlocklaw12.TseitinForce", spec := "tseitinForce", unfollowed := true, recurses := true, plainKeys := false, apart := false }
def TseitinForceSaid : Prop := tseitinForceRow.holds Try.pinned (OpenSpec.ofChange tseitinForceSpec)

/-- ITS FALSE NEIGHBOUR: 'it returns false'. Refute it at one input. -/
def tseitinForceWrong : ChangeSpec := { name := "tseitinForce", fn := fun _ => fun
  | [d1, d2, d3, d4] => { results := [.lit (.bool false)], args := [d1, d2, d3, d4] }
  | _ => none }
def TseitinForceWrongFalsely : Prop := tseitinForceRow.holds Try.pinned (OpenSpec.ofChange tseitinForceWrong)

/-- 'interlocklaw12.TseitinMoves': WHATEVER THE INPUT: true; the input reads as it did. -/
def tseitinMovesSpec : ChangeSpec := { name := "tseitinMoves", fn := fun _ => fun
  | [d1, d2, d3] => { results := [.lit (.bool true)], args := [d1, d2, d3] }
  | _ => none }
def tseitinMovesRow : OpenClaim := { program := "ytjlnffkieocihaa", sum := "c3a4397ab5a9838da494ccf1e56f38c43cb40a62029322debb41d52947cd0cd0", func := "interlock/interlocklaw12.TseitinMoves", spec := "tseitinMoves", unfollowed := true, recurses := true, plainKeys := false, apart := false }
def TseitinMovesSaid : Prop := tseitinMovesRow.holds Try.pinned (OpenSpec.ofChange tseitinMovesSpec)

/-- ITS FALSE NEIGHBOUR: 'it returns false'. Refute it at one input. -/
def tseitinMovesWrong : ChangeSpec := { name := "tseitinMoves", fn := fun _ => fun
  | [d1, d2, d3] => { results := [.lit (.bool false)], args := [d1, d2, d3] }
  | _ => none }
def TseitinMovesWrongFalsely : Prop := tseitinMovesRow.holds Try.pinned (OpenSpec.ofChange tseitinMovesWrong)

/- THE SECOND FORM. 'bulk': how many values and letters a reading holds, each counted each time it is reached (what is shared counts as often as it is met; a slice's spare places count too). A statement '..UptoSaid' is the law's where the arguments, and the package variables that the reading takes, are together of bulk at most 1048576: NARROWER than '..Said'. Prove '..Said' where nothing that the law and all that it calls make is longer than what came in: it says more and counts as full. Else prove '..UptoSaid'. A law counts once. -/
mutual
def uptoBulk {H : Type} : DataW H → Nat
  | .lit (.string bytes) => bytes.length + 1
  | .lit _ => 1
  | .nil => 1
  | .ptr d => uptoBulk d + 1
  | .slice elems spare => uptoBulkAll elems + uptoBulkAll spare + 1
  | .agg parts => uptoBulkAll parts + 1
  | .iface _ d => uptoBulk d + 1
  | .map entries => uptoBulkEntries entries + 1
  | .held _ => 1
def uptoBulkAll {H : Type} : List (DataW H) → Nat
  | [] => 0
  | d :: r => uptoBulk d + uptoBulkAll r
def uptoBulkEntries {H : Type} : List (Lit × DataW H) → Nat
  | [] => 0
  | x :: r => uptoBulkEntry x + uptoBulkEntries r
def uptoBulkEntry {H : Type} : Lit × DataW H → Nat
  | (.string bytes, d) => bytes.length + uptoBulk d + 1
  | (_, d) => uptoBulk d + 1
 end
def uptoSmall : (H : Type) → List (DataW H) → Bool := fun _ ds => decide (uptoBulkAll ds ≤ 1048576)
def OpenSpec.upto (s : _root_.Go.ChangeSpec) : _root_.Go.OpenSpec := { _root_.Go.OpenSpec.ofChange s with cond := some uptoSmall }

/-- 'interlocklaw06.StrashSame', WHERE WHAT IT READS IS OF BULK AT MOST 1048576: true; the input reads as it did. -/
def strashSameUptoRow : OpenClaim := { program := "ytjlnffkieocihaa", sum := "c3a4397ab5a9838da494ccf1e56f38c43cb40a62029322debb41d52947cd0cd0", func := "interlock/interlocklaw06.StrashSame", spec := "strashSame", unfollowed := true, recurses := true, plainKeys := false, apart := false, narrowed := true }
def StrashSameUptoSaid : Prop := strashSameUptoRow.holds Try.pinned (OpenSpec.upto strashSameSpec)

/-- 'interlocklaw06.StrashLess', WHERE WHAT IT READS IS OF BULK AT MOST 1048576: true; the input reads as it did. -/
def strashLessUptoRow : OpenClaim := { program := "ytjlnffkieocihaa", sum := "c3a4397ab5a9838da494ccf1e56f38c43cb40a62029322debb41d52947cd0cd0", func := "interlock/interlocklaw06.StrashLess", spec := "strashLess", unfollowed := true, recurses := true, plainKeys := false, apart := false, narrowed := true }
def StrashLessUptoSaid : Prop := strashLessUptoRow.holds Try.pinned (OpenSpec.upto strashLessSpec)

/-- 'interlocklaw06.StrashTwice', WHERE WHAT IT READS IS OF BULK AT MOST 1048576: true; the input reads as it did. -/
def strashTwiceUptoRow : OpenClaim := { program := "ytjlnffkieocihaa", sum := "c3a4397ab5a9838da494ccf1e56f38c43cb40a62029322debb41d52947cd0cd0", func := "interlock/interlocklaw06.StrashTwice", spec := "strashTwice", unfollowed := true, recurses := true, plainKeys := false, apart := false, narrowed := true }
def StrashTwiceUptoSaid : Prop := strashTwiceUptoRow.holds Try.pinned (OpenSpec.upto strashTwiceSpec)

/-- 'interlocklaw07.SimTells', WHERE WHAT IT READS IS OF BULK AT MOST 1048576: true; the input reads as it did. -/
def simTellsUptoRow : OpenClaim := { program := "ytjlnffkieocihaa", sum := "c3a4397ab5a9838da494ccf1e56f38c43cb40a62029322debb41d52947cd0cd0", func := "interlock/interlocklaw07.SimTells", spec := "simTells", inPlace := ["internal/bytealg.MakeNoZero", "internal/abi.NoEscape"], unfollowed := true, recurses := true, plainKeys := false, apart := false, narrowed := true }
def SimTellsUptoSaid : Prop := simTellsUptoRow.holds Try.pinned (OpenSpec.upto simTellsSpec)

/-- 'interlocklaw07.SimGates', WHERE WHAT IT READS IS OF BULK AT MOST 1048576: true; the input reads as it did. -/
def simGatesUptoRow : OpenClaim := { program := "ytjlnffkieocihaa", sum := "c3a4397ab5a9838da494ccf1e56f38c43cb40a62029322debb41d52947cd0cd0", func := "interlock/interlocklaw07.SimGates", spec := "simGates", inPlace := ["internal/bytealg.MakeNoZero", "internal/abi.NoEscape"], unfollowed := true, recurses := true, plainKeys := false, apart := false, narrowed := true }
def SimGatesUptoSaid : Prop := simGatesUptoRow.holds Try.pinned (OpenSpec.upto simGatesSpec)

/-- 'interlocklaw07.SimCone', WHERE WHAT IT READS IS OF BULK AT MOST 1048576: true; the input reads as it did. -/
def simConeUptoRow : OpenClaim := { program := "ytjlnffkieocihaa", sum := "c3a4397ab5a9838da494ccf1e56f38c43cb40a62029322debb41d52947cd0cd0", func := "interlock/interlocklaw07.SimCone", spec := "simCone", inPlace := ["internal/bytealg.MakeNoZero", "internal/abi.NoEscape"], unfollowed := true, recurses := true, plainKeys := false, apart := false, narrowed := true }
def SimConeUptoSaid : Prop := simConeUptoRow.holds Try.pinned (OpenSpec.upto simConeSpec)

/-- 'interlocklaw12.TseitinValues', WHERE WHAT IT READS IS OF BULK AT MOST 1048576: true; the input reads as it did. -/
def tseitinValuesUptoRow : OpenClaim := { program := "ytjlnffkieocihaa", sum := "c3a4397ab5a9838da494ccf1e56f38c43cb40a62029322debb41d52947cd0cd0", func := "interlock/interlocklaw12.TseitinValues", spec := "tseitinValues", unfollowed := true, recurses := true, plainKeys := false, apart := false, narrowed := true }
def TseitinValuesUptoSaid : Prop := tseitinValuesUptoRow.holds Try.pinned (OpenSpec.upto tseitinValuesSpec)

/-- 'interlocklaw12.TseitinForce', WHERE WHAT IT READS IS OF BULK AT MOST 1048576: true; the input reads as it did. -/
def tseitinForceUptoRow : OpenClaim := { program := "ytjlnffkieocihaa", sum := "c3a4397ab5a9838da494ccf1e56f38c43cb40a62029322debb41d52947cd0cd0", func := "interlock/interlocklaw12.TseitinForce", spec := "tseitinForce", unfollowed := true, recurses := true, plainKeys := false, apart := false, narrowed := true }
def TseitinForceUptoSaid : Prop := tseitinForceUptoRow.holds Try.pinned (OpenSpec.upto tseitinForceSpec)

/-- 'interlocklaw12.TseitinMoves', WHERE WHAT IT READS IS OF BULK AT MOST 1048576: true; the input reads as it did. -/
def tseitinMovesUptoRow : OpenClaim := { program := "ytjlnffkieocihaa", sum := "c3a4397ab5a9838da494ccf1e56f38c43cb40a62029322debb41d52947cd0cd0", func := "interlock/interlocklaw12.TseitinMoves", spec := "tseitinMoves", unfollowed := true, recurses := true, plainKeys := false, apart := false, narrowed := true }
def TseitinMovesUptoSaid : Prop := tseitinMovesUptoRow.holds Try.pinned (OpenSpec.upto tseitinMovesSpec)

end Rows
end Go.Proofs.Ytjlnffkieocihaa
