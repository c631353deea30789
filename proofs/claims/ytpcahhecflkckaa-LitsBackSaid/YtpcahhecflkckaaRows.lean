/-
  No cell of these rows narrows 'for every input' (looked for: loops, veiled, ifaces, maps, wideKeys, modest, calm, conditions, laid).
  DERIVED. THE GIVEN ROWS OF THIS SEAT. 2 by the template 'for every input the law returns true; each argument reads behind the call as it read before'; 0 by the template 'total and deterministic' (their statements: YtpcahhecflkckaaTotals.lean).
  GIVEN WITH THE SEED: the statements are not yours to turn. If you find one false, say at which input.
  Laid BY PROGRAM, IN A SANDBOX (cutbox-rows.mjs): the forced cells as the released guide's own fill.sh prints them over the translation aa649e55b15aca45… (all of the seat's roots in one cut). By AI agents, Wed Nov 11 2026. No macro, syntax, notation, axiom, sorry.
-/
import Derived.Test.YtpcahhecflkckaaChecked
import GoSem.Claim
import GoSem.ClaimJoined
import GoSem.ClaimMapViews
import Derived.JoinedTies
import Derived.KernelRfl
namespace Go.Proofs.Ytpcahhecflkckaa
/- THE CELL 'sum', in the pinned program and in every row, IS THE sha256 OF THE DUMP (.gsa) THAT YtpcahhecflkckaaProg.lean LOADS. Nothing in Lean hashes anything: it is a label: what it is worth is what the hold of that sum in a sandbox is worth. -/
noncomputable def Try.pinned : Pinned := { name := "ytpcahhecflkckaa", sum := "aa649e55b15aca4576dbbf2c68afb3f26739ea97d4c09f910be95956c592a4c9", checked := Try.checked }
namespace Rows
def none {H : Type} : Left H := { results := [], args := [] }

/-- 'interlocklaw02.LitsBack': WHATEVER THE INPUT: true; the input reads as it did. -/
def litsBackSpec : ChangeSpec := { name := "litsBack", fn := fun _ => fun
  | [d] => { results := [.lit (.bool true)], args := [d] }
  | _ => none }
def litsBackRow : OpenClaim := { program := "ytpcahhecflkckaa", sum := "aa649e55b15aca4576dbbf2c68afb3f26739ea97d4c09f910be95956c592a4c9", func := "interlock/interlocklaw02.LitsBack", spec := "litsBack", apart := false }
def LitsBackSaid : Prop := litsBackRow.holds Try.pinned (OpenSpec.ofChange litsBackSpec)

/-- ITS FALSE NEIGHBOUR: 'it returns false'. Refute it at one input. -/
def litsBackWrong : ChangeSpec := { name := "litsBack", fn := fun _ => fun
  | [d] => { results := [.lit (.bool false)], args := [d] }
  | _ => none }
def LitsBackWrongFalsely : Prop := litsBackRow.holds Try.pinned (OpenSpec.ofChange litsBackWrong)

/-- 'interlocklaw02.LitsMakes': WHATEVER THE INPUT: true; the input reads as it did. -/
def litsMakesSpec : ChangeSpec := { name := "litsMakes", fn := fun _ => fun
  | [d1, d2] => { results := [.lit (.bool true)], args := [d1, d2] }
  | _ => none }
def litsMakesRow : OpenClaim := { program := "ytpcahhecflkckaa", sum := "aa649e55b15aca4576dbbf2c68afb3f26739ea97d4c09f910be95956c592a4c9", func := "interlock/interlocklaw02.LitsMakes", spec := "litsMakes", apart := false }
def LitsMakesSaid : Prop := litsMakesRow.holds Try.pinned (OpenSpec.ofChange litsMakesSpec)

/-- ITS FALSE NEIGHBOUR: 'it returns false'. Refute it at one input. -/
def litsMakesWrong : ChangeSpec := { name := "litsMakes", fn := fun _ => fun
  | [d1, d2] => { results := [.lit (.bool false)], args := [d1, d2] }
  | _ => none }
def LitsMakesWrongFalsely : Prop := litsMakesRow.holds Try.pinned (OpenSpec.ofChange litsMakesWrong)

/- THE SECOND FORM. 'bulk': how many values and letters a reading holds, each counted each time it is reached (what is shared counts as often as it is met; a slice's spare places count too). A statement '..UptoSaid' is the law's where the arguments, and the package variables that the reading takes, are together of bulk at most 1048576: NARROWER than '..Said'. Prove '..Said' where nothing that the law and all that it calls make is longer than what came in: it says more and counts as full. Else prove '..UptoSaid'. A law counts once. -/
mutual
def uptoBulk {H : Type} : DataW H → Nat
  | .lit (.string bytes) => bytes.length + 1
  | .lit _ => 1
  | .nil => 1
  | .ptr d => uptoBulk d + 1
  | .slice elems spare => uptoBulkAll elems + uptoBulkAll spare + 1
  | .agg parts => uptoBulkAll parts + 1
  | .iface _ d => uptoBulk d + 1
  | .map entries => uptoBulkEntries entries + 1
  | .held _ => 1
def uptoBulkAll {H : Type} : List (DataW H) → Nat
  | [] => 0
  | d :: r => uptoBulk d + uptoBulkAll r
def uptoBulkEntries {H : Type} : List (Lit × DataW H) → Nat
  | [] => 0
  | x :: r => uptoBulkEntry x + uptoBulkEntries r
def uptoBulkEntry {H : Type} : Lit × DataW H → Nat
  | (.string bytes, d) => bytes.length + uptoBulk d + 1
  | (_, d) => uptoBulk d + 1
 end
def uptoSmall : (H : Type) → List (DataW H) → Bool := fun _ ds => decide (uptoBulkAll ds ≤ 1048576)
def OpenSpec.upto (s : _root_.Go.ChangeSpec) : _root_.Go.OpenSpec := { _root_.Go.OpenSpec.ofChange s with cond := some uptoSmall }

/-- 'interlocklaw02.LitsBack', WHERE WHAT IT READS IS OF BULK AT MOST 1048576: true; the input reads as it did. -/
def litsBackUptoRow : OpenClaim := { program := "ytpcahhecflkckaa", sum := "aa649e55b15aca4576dbbf2c68afb3f26739ea97d4c09f910be95956c592a4c9", func := "interlock/interlocklaw02.LitsBack", spec := "litsBack", apart := false, narrowed := true }
def LitsBackUptoSaid : Prop := litsBackUptoRow.holds Try.pinned (OpenSpec.upto litsBackSpec)

/-- 'interlocklaw02.LitsMakes', WHERE WHAT IT READS IS OF BULK AT MOST 1048576: true; the input reads as it did. -/
def litsMakesUptoRow : OpenClaim := { program := "ytpcahhecflkckaa", sum := "aa649e55b15aca4576dbbf2c68afb3f26739ea97d4c09f910be95956c592a4c9", func := "interlock/interlocklaw02.LitsMakes", spec := "litsMakes", apart := false, narrowed := true }
def LitsMakesUptoSaid : Prop := litsMakesUptoRow.holds Try.pinned (OpenSpec.upto litsMakesSpec)

end Rows
end Go.Proofs.Ytpcahhecflkckaa
