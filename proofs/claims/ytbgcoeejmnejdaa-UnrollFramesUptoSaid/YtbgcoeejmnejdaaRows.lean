/-
  No cell of these rows narrows 'for every input' (looked for: loops, veiled, ifaces, maps, wideKeys, modest, calm, conditions, laid).
  DERIVED. THE GIVEN ROWS OF THIS SEAT. 9 by the template 'for every input the law returns true; each argument reads behind the call as it read before'; 0 by the template 'total and deterministic' (their statements: YtbgcoeejmnejdaaTotals.lean).
  GIVEN WITH THE SEED: the statements are not yours to turn. If you find one false, say at which input.
  Laid BY PROGRAM, IN A SANDBOX (cutbox-rows.mjs): the forced cells as the released guide's own fill.sh prints them over the translation 724f3f676b2f11a0… (all of the seat's roots in one cut). By AI agents, Wed Nov 11 2026. No macro, syntax, notation, axiom, sorry.
-/
import Derived.Test.YtbgcoeejmnejdaaChecked
import GoSem.Claim
import GoSem.ClaimJoined
import GoSem.ClaimMapViews
import Derived.JoinedTies
import Derived.KernelRfl
namespace Go.Proofs.Ytbgcoeejmnejdaa
/- THE CELL 'sum', in the pinned program and in every row, IS THE sha256 OF THE DUMP (.gsa) THAT YtbgcoeejmnejdaaProg.lean LOADS. Nothing in Lean hashes anything: it is a label: what it is worth is what the hold of that sum in a sandbox is worth. -/
noncomputable def Try.pinned : Pinned := { name := "ytbgcoeejmnejdaa", sum := "724f3f676b2f11a05cc73cc0004c30d182441bf408cff8257407c534556b677c", checked := Try.checked }
namespace Rows
def none {H : Type} : Left H := { results := [], args := [] }

/-- 'interlocklaw06.StrashSame': WHATEVER THE INPUT: true; the input reads as it did. -/
def strashSameSpec : ChangeSpec := { name := "strashSame", fn := fun _ => fun
  | [d1, d2] => { results := [.lit (.bool true)], args := [d1, d2] }
  | _ => none }
def strashSameRow : OpenClaim := { program := "ytbgcoeejmnejdaa", sum := "724f3f676b2f11a05cc73cc0004c30d182441bf408cff8257407c534556b677c", func := "interlock/interlocklaw06.StrashSame", spec := "strashSame", unfollowed := true, recurses := true, plainKeys := false, apart := false }
def StrashSameSaid : Prop := strashSameRow.holds Try.pinned (OpenSpec.ofChange strashSameSpec)

/-- ITS FALSE NEIGHBOUR: 'it returns false'. Refute it at one input. -/
def strashSameWrong : ChangeSpec := { name := "strashSame", fn := fun _ => fun
  | [d1, d2] => { results := [.lit (.bool false)], args := [d1, d2] }
  | _ => none }
def StrashSameWrongFalsely : Prop := strashSameRow.holds Try.pinned (OpenSpec.ofChange strashSameWrong)

/-- 'interlocklaw06.StrashLess': WHATEVER THE INPUT: true; the input reads as it did. -/
def strashLessSpec : ChangeSpec := { name := "strashLess", fn := fun _ => fun
  | [d] => { results := [.lit (.bool true)], args := [d] }
  | _ => none }
def strashLessRow : OpenClaim := { program := "ytbgcoeejmnejdaa", sum := "724f3f676b2f11a05cc73cc0004c30d182441bf408cff8257407c534556b677c", func := "interlock/interlocklaw06.StrashLess", spec := "strashLess", unfollowed := true, recurses := true, plainKeys := false, apart := false }
def StrashLessSaid : Prop := strashLessRow.holds Try.pinned (OpenSpec.ofChange strashLessSpec)

/-- ITS FALSE NEIGHBOUR: 'it returns false'. Refute it at one input. -/
def strashLessWrong : ChangeSpec := { name := "strashLess", fn := fun _ => fun
  | [d] => { results := [.lit (.bool false)], args := [d] }
  | _ => none }
def StrashLessWrongFalsely : Prop := strashLessRow.holds Try.pinned (OpenSpec.ofChange strashLessWrong)

/-- 'interlocklaw06.StrashTwice': WHATEVER THE INPUT: true; the input reads as it did. -/
def strashTwiceSpec : ChangeSpec := { name := "strashTwice", fn := fun _ => fun
  | [d1, d2] => { results := [.lit (.bool true)], args := [d1, d2] }
  | _ => none }
def strashTwiceRow : OpenClaim := { program := "ytbgcoeejmnejdaa", sum := "724f3f676b2f11a05cc73cc0004c30d182441bf408cff8257407c534556b677c", func := "interlock/interlocklaw06.StrashTwice", spec := "strashTwice", unfollowed := true, recurses := true, plainKeys := false, apart := false }
def StrashTwiceSaid : Prop := strashTwiceRow.holds Try.pinned (OpenSpec.ofChange strashTwiceSpec)

/-- ITS FALSE NEIGHBOUR: 'it returns false'. Refute it at one input. -/
def strashTwiceWrong : ChangeSpec := { name := "strashTwice", fn := fun _ => fun
  | [d1, d2] => { results := [.lit (.bool false)], args := [d1, d2] }
  | _ => none }
def StrashTwiceWrongFalsely : Prop := strashTwiceRow.holds Try.pinned (OpenSpec.ofChange strashTwiceWrong)

/-- 'interlocklaw07.SimTells': WHATEVER THE INPUT: true; the input reads as it did. -/
def simTellsSpec : ChangeSpec := { name := "simTells", fn := fun _ => fun
  | [d1, d2, d3, d4, d5, d6] => { results := [.lit (.bool true)], args := [d1, d2, d3, d4, d5, d6] }
  | _ => none }
def simTellsRow : OpenClaim := { program := "ytbgcoeejmnejdaa", sum := "724f3f676b2f11a05cc73cc0004c30d182441bf408cff8257407c534556b677c", func := "interlock/interlocklaw07.SimTells", spec := "simTells", inPlace := ["internal/bytealg.MakeNoZero", "internal/abi.NoEscape"], unfollowed := true, recurses := true, plainKeys := false, apart := false }
def SimTellsSaid : Prop := simTellsRow.holds Try.pinned (OpenSpec.ofChange simTellsSpec)

/-- ITS FALSE NEIGHBOUR: 'it returns false'. Refute it at one input. -/
def simTellsWrong : ChangeSpec := { name := "simTells", fn := fun _ => fun
  | [d1, d2, d3, d4, d5, d6] => { results := [.lit (.bool false)], args := [d1, d2, d3, d4, d5, d6] }
  | _ => none }
def SimTellsWrongFalsely : Prop := simTellsRow.holds Try.pinned (OpenSpec.ofChange simTellsWrong)

/-- 'interlocklaw07.SimGates': WHATEVER THE INPUT: true; the input reads as it did. -/
def simGatesSpec : ChangeSpec := { name := "simGates", fn := fun _ => fun
  | [d1, d2, d3, d4] => { results := [.lit (.bool true)], args := [d1, d2, d3, d4] }
  | _ => none }
def simGatesRow : OpenClaim := { program := "ytbgcoeejmnejdaa", sum := "724f3f676b2f11a05cc73cc0004c30d182441bf408cff8257407c534556b677c", func := "interlock/interlocklaw07.SimGates", spec := "simGates", inPlace := ["internal/bytealg.MakeNoZero", "internal/abi.NoEscape"], unfollowed := true, recurses := true, plainKeys := false, apart := false }
def SimGatesSaid : Prop := simGatesRow.holds Try.pinned (OpenSpec.ofChange simGatesSpec)

/-- ITS FALSE NEIGHBOUR: 'it returns false'. Refute it at one input. -/
def simGatesWrong : ChangeSpec := { name := "simGates", fn := fun _ => fun
  | [d1, d2, d3, d4] => { results := [.lit (.bool false)], args := [d1, d2, d3, d4] }
  | _ => none }
def SimGatesWrongFalsely : Prop := simGatesRow.holds Try.pinned (OpenSpec.ofChange simGatesWrong)

/-- 'interlocklaw07.SimCone': WHATEVER THE INPUT: true; the input reads as it did. -/
def simConeSpec : ChangeSpec := { name := "simCone", fn := fun _ => fun
  | [d1, d2, d3, d4, d5] => { results := [.lit (.bool true)], args := [d1, d2, d3, d4, d5] }
  | _ => none }
def simConeRow : OpenClaim := { program := "ytbgcoeejmnejdaa", sum := "724f3f676b2f11a05cc73cc0004c30d182441bf408cff8257407c534556b677c", func := "interlock/interlocklaw07.SimCone", spec := "simCone", inPlace := ["internal/bytealg.MakeNoZero", "internal/abi.NoEscape"], unfollowed := true, recurses := true, plainKeys := false, apart := false }
def SimConeSaid : Prop := simConeRow.holds Try.pinned (OpenSpec.ofChange simConeSpec)

/-- ITS FALSE NEIGHBOUR: 'it returns false'. Refute it at one input. -/
def simConeWrong : ChangeSpec := { name := "simCone", fn := fun _ => fun
  | [d1, d2, d3, d4, d5] => { results := [.lit (.bool false)], args := [d1, d2, d3, d4, d5] }
  | _ => none }
def SimConeWrongFalsely : Prop := simConeRow.holds Try.pinned (OpenSpec.ofChange simConeWrong)

/-- 'interlocklaw13.UnrollFrames': WHATEVER THE INPUT: true; the input reads as it did. -/
def unrollFramesSpec : ChangeSpec := { name := "unrollFrames", fn := fun _ => fun
  | [d1, d2, d3, d4] => { results := [.lit (.bool true)], args := [d1, d2, d3, d4] }
  | _ => none }
def unrollFramesRow : OpenClaim := { program := "ytbgcoeejmnejdaa", sum := "724f3f676b2f11a05cc73cc0004c30d182441bf408cff8257407c534556b677c", func := "interlock/interlocklaw13.UnrollFrames", spec := "unrollFrames", unfollowed := true, recurses := true, plainKeys := false, apart := false }
def UnrollFramesSaid : Prop := unrollFramesRow.holds Try.pinned (OpenSpec.ofChange unrollFramesSpec)

/-- ITS FALSE NEIGHBOUR: 'it returns false'. Refute it at one input. -/
def unrollFramesWrong : ChangeSpec := { name := "unrollFrames", fn := fun _ => fun
  | [d1, d2, d3, d4] => { results := [.lit (.bool false)], args := [d1, d2, d3, d4] }
  | _ => none }
def UnrollFramesWrongFalsely : Prop := unrollFramesRow.holds Try.pinned (OpenSpec.ofChange unrollFramesWrong)

/-- 'interlocklaw13.UnrollApart': WHATEVER THE INPUT: true; the input reads as it did. -/
def unrollApartSpec : ChangeSpec := { name := "unrollApart", fn := fun _ => fun
  | [d1, d2, d3] => { results := [.lit (.bool true)], args := [d1, d2, d3] }
  | _ => none }
def unrollApartRow : OpenClaim := { program := "ytbgcoeejmnejdaa", sum := "724f3f676b2f11a05cc73cc0004c30d182441bf408cff8257407c534556b677c", func := "interlock/interlocklaw13.UnrollApart", spec := "unrollApart", unfollowed := true, recurses := true, plainKeys := false, apart := false }
def UnrollApartSaid : Prop := unrollApartRow.holds Try.pinned (OpenSpec.ofChange unrollApartSpec)

/-- ITS FALSE NEIGHBOUR: 'it returns false'. Refute it at one input. -/
def unrollApartWrong : ChangeSpec := { name := "unrollApart", fn := fun _ => fun
  | [d1, d2, d3] => { results := [.lit (.bool false)], args := [d1, d2, d3] }
  | _ => none }
def UnrollApartWrongFalsely : Prop := unrollApartRow.holds Try.pinned (OpenSpec.ofChange unrollApartWrong)

/-- 'interlocklaw13.UnrollFirst': WHATEVER THE INPUT: true; the input reads as it did. -/
def unrollFirstSpec : ChangeSpec := { name := "unrollFirst", fn := fun _ => fun
  | [d1, d2, d3] => { results := [.lit (.bool true)], args := [d1, d2, d3] }
  | _ => none }
def unrollFirstRow : OpenClaim := { program := "ytbgcoeejmnejdaa", sum := "724f3f676b2f11a05cc73cc0004c30d182441bf408cff8257407c534556b677c", func := "interlock/interlocklaw13.UnrollFirst", spec := "unrollFirst", unfollowed := true, recurses := true, plainKeys := false, apart := false }
def UnrollFirstSaid : Prop := unrollFirstRow.holds Try.pinned (OpenSpec.ofChange unrollFirstSpec)

/-- ITS FALSE NEIGHBOUR: 'it returns false'. Refute it at one input. -/
def unrollFirstWrong : ChangeSpec := { name := "unrollFirst", fn := fun _ => fun
  | [d1, d2, d3] => { results := [.lit (.bool false)], args := [d1, d2, d3] }
  | _ => none }
def UnrollFirstWrongFalsely : Prop := unrollFirstRow.holds Try.pinned (OpenSpec.ofChange unrollFirstWrong)

/- THE SECOND FORM. 'bulk': how many values and letters a reading holds, each counted each time it is reached (what is shared counts as often as it is met; a slice's spare places count too). A statement '..UptoSaid' is the law's where the arguments, and the package variables that the reading takes, are together of bulk at most 1048576: NARROWER than '..Said'. Prove '..Said' where nothing that the law and all that it calls make is longer than what came in: it says more and counts as full. Else prove '..UptoSaid'. A law counts once. -/
mutual
def uptoBulk {H : Type} : DataW H → Nat
  | .lit (.string bytes) => bytes.length + 1
  | .lit _ => 1
  | .nil => 1
  | .ptr d => uptoBulk d + 1
  | .slice elems spare => uptoBulkAll elems + uptoBulkAll spare + 1
  | .agg parts => uptoBulkAll parts + 1
  | .iface _ d => uptoBulk d + 1
  | .map entries => uptoBulkEntries entries + 1
  | .held _ => 1
def uptoBulkAll {H : Type} : List (DataW H) → Nat
  | [] => 0
  | d :: r => uptoBulk d + uptoBulkAll r
def uptoBulkEntries {H : Type} : List (Lit × DataW H) → Nat
  | [] => 0
  | x :: r => uptoBulkEntry x + uptoBulkEntries r
def uptoBulkEntry {H : Type} : Lit × DataW H → Nat
  | (.string bytes, d) => bytes.length + uptoBulk d + 1
  | (_, d) => uptoBulk d + 1
 end
def uptoSmall : (H : Type) → List (DataW H) → Bool := fun _ ds => decide (uptoBulkAll ds ≤ 1048576)
def OpenSpec.upto (s : _root_.Go.ChangeSpec) : _root_.Go.OpenSpec := { _root_.Go.OpenSpec.ofChange s with cond := some uptoSmall }

/-- 'interlocklaw06.StrashSame', WHERE WHAT IT READS IS OF BULK AT MOST 1048576: true; the input reads as it did. -/
def strashSameUptoRow : OpenClaim := { program := "ytbgcoeejmnejdaa", sum := "724f3f676b2f11a05cc73cc0004c30d182441bf408cff8257407c534556b677c", func := "interlock/interlocklaw06.StrashSame", spec := "strashSame", unfollowed := true, recurses := true, plainKeys := false, apart := false, narrowed := true }
def StrashSameUptoSaid : Prop := strashSameUptoRow.holds Try.pinned (OpenSpec.upto strashSameSpec)

/-- 'interlocklaw06.StrashLess', WHERE WHAT IT READS IS OF BULK AT MOST 1048576: true; the input reads as it did. -/
def strashLessUptoRow : OpenClaim := { program := "ytbgcoeejmnejdaa", sum := "724f3f676b2f11a05cc73cc0004c30d182441bf408cff8257407c534556b677c", func := "interlock/interlocklaw06.StrashLess", spec := "strashLess", unfollowed := true, recurses := true, plainKeys := false, apart := false, narrowed := true }
def StrashLessUptoSaid : Prop := strashLessUptoRow.holds Try.pinned (OpenSpec.upto strashLessSpec)

/-- 'interlocklaw06.StrashTwice', WHERE WHAT IT READS IS OF BULK AT MOST 1048576: true; the input reads as it did. -/
def strashTwiceUptoRow : OpenClaim := { program := "ytbgcoeejmnejdaa", sum := "724f3f676b2f11a05cc73cc0004c30d182441bf408cff8257407c534556b677c", func := "interlock/interlocklaw06.StrashTwice", spec := "strashTwice", unfollowed := true, recurses := true, plainKeys := false, apart := false, narrowed := true }
def StrashTwiceUptoSaid : Prop := strashTwiceUptoRow.holds Try.pinned (OpenSpec.upto strashTwiceSpec)

/-- 'interlocklaw07.SimTells', WHERE WHAT IT READS IS OF BULK AT MOST 1048576: true; the input reads as it did. -/
def simTellsUptoRow : OpenClaim := { program := "ytbgcoeejmnejdaa", sum := "724f3f676b2f11a05cc73cc0004c30d182441bf408cff8257407c534556b677c", func := "interlock/interlocklaw07.SimTells", spec := "simTells", inPlace := ["internal/bytealg.MakeNoZero", "internal/abi.NoEscape"], unfollowed := true, recurses := true, plainKeys := false, apart := false, narrowed := true }
def SimTellsUptoSaid : Prop := simTellsUptoRow.holds Try.pinned (OpenSpec.upto simTellsSpec)

/-- 'interlocklaw07.SimGates', WHERE WHAT IT READS IS OF BULK AT MOST 1048576: true; the input reads as it did. -/
def simGatesUptoRow : OpenClaim := { program := "ytbgcoeejmnejdaa", sum := "724f3f676b2f11a05cc73cc0004c30d182441bf408cff8257407c534556b677c", func := "interlock/interlocklaw07.SimGates", spec := "simGates", inPlace := ["internal/bytealg.MakeNoZero", "internal/abi.NoEscape"], unfollowed := true, recurses := true, plainKeys := false, apart := false, narrowed := true }
def SimGatesUptoSaid : Prop := simGatesUptoRow.holds Try.pinned (OpenSpec.upto simGatesSpec)

/-- 'interlocklaw07.SimCone', WHERE WHAT IT READS IS OF BULK AT MOST 1048576: true; the input reads as it did. -/
def simConeUptoRow : OpenClaim := { program := "ytbgcoeejmnejdaa", sum := "724f3f676b2f11a05cc73cc0004c30d182441bf408cff8257407c534556b677c", func := "interlock/interlocklaw07.SimCone", spec := "simCone", inPlace := ["internal/bytealg.MakeNoZero", "internal/abi.NoEscape"], unfollowed := true, recurses := true, plainKeys := false, apart := false, narrowed := true }
def SimConeUptoSaid : Prop := simConeUptoRow.holds Try.pinned (OpenSpec.upto simConeSpec)

/-- 'interlocklaw13.UnrollFrames', WHERE WHAT IT READS IS OF BULK AT MOST 1048576: true; the input reads as it did. -/
def unrollFramesUptoRow : OpenClaim := { program := "ytbgcoeejmnejdaa", sum := "724f3f676b2f11a05cc73cc0004c30d182441bf408cff8257407c534556b677c", func := "interlock/interlocklaw13.UnrollFrames", spec := "unrollFrames", unfollowed := true, recurses := true, plainKeys := false, apart := false, narrowed := true }
def UnrollFramesUptoSaid : Prop := unrollFramesUptoRow.holds Try.pinned (OpenSpec.upto unrollFramesSpec)

/-- 'interlocklaw13.UnrollApart', WHERE WHAT IT READS IS OF BULK AT MOST 1048576: true; the input reads as it did. -/
def unrollApartUptoRow : OpenClaim := { program := "ytbgcoeejmnejdaa", sum := "724f3f676b2f11a05cc73cc0004c30d182441bf408cff8257407c534556b677c", func := "interlock/interlocklaw13.UnrollApart", spec := "unrollApart", unfollowed := true, recurses := true, plainKeys := false, apart := false, narrowed := true }
def UnrollApartUptoSaid : Prop := unrollApartUptoRow.holds Try.pinned (OpenSpec.upto unrollApartSpec)

/-- 'interlocklaw13.UnrollFirst', WHERE WHAT IT READS IS OF BULK AT MOST 1048576: true; the input reads as it did. -/
def unrollFirstUptoRow : OpenClaim := { program := "ytbgcoeejmnejdaa", sum := "724f3f676b2f11a05cc73cc0004c30d182441bf408cff8257407c534556b677c", func := "interlock/interlocklaw13.UnrollFirst", spec := "unrollFirst", unfollowed := true, recurses := true, plainKeys := false, apart := false, narrowed := true }
def UnrollFirstUptoSaid : Prop := unrollFirstUptoRow.holds Try.pinned (OpenSpec.upto unrollFirstSpec)

end Rows
end Go.Proofs.Ytbgcoeejmnejdaa
