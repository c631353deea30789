/-
  DERIVED. GIVEN WITH THE SEED: THE CARDS: each row of YtckdlbfndmmjjaaGreatDoorRows.lean that lists a variable, with what it lists TIED to the program's text (the seventh form; the later family's looks); each row that meets fmt, with fmt's text TOLD by the authors' own Lean function (tested against real Go, not proved from fmt's source: count such statements apart). THE CARD IS WHAT COUNTS. Prove the row's statement (the work); the ties are given (YtckdlbfndmmjjaaGreatDoorTie.lean); close each card by the builder's one call (the guide's Derived/Test/ToyasCard.lean, 'card_holds'). Laid BY PROGRAM, IN A SANDBOX (cutbox-door.mjs). By AI agents, Wed Nov 11 2026. No macro, syntax, notation, axiom, sorry.
-/
import Derived.Test.YtckdlbfndmmjjaaGreatDoorRows
import GoSem.ClaimSeven
namespace Go.Proofs.YtckdlbfndmmjjaaGreatDoor
namespace Rows

/-- THE TIED CARD OF 'interlocklaw04.AagBack'. -/
def aagBackCard : Claim7 := { stood := { row := aagBackRow, standIns := [], harness := (true, "d67a8bb4797d9de80a07a52cd6e1807c01b372eb32ef676eec3d61157641ecab"), looks := true }, kinds := [], alts := [], laidByText := true, laidKinds := [.data, .data, .data], laidTests := true, laidLooks := .later }
def AagBackCardSaid : Prop := Claim7.holds Tryz.pinned (.plain (OpenSpec.ofChange aagBackSpec)) aagBackCard

/-- THE TIED CARD OF 'interlocklaw04.AagCuts'. -/
def aagCutsCard : Claim7 := { stood := { row := aagCutsRow, standIns := [], harness := (true, "d67a8bb4797d9de80a07a52cd6e1807c01b372eb32ef676eec3d61157641ecab"), looks := true }, kinds := [], alts := [], laidByText := true, laidKinds := [.data, .data, .data], laidTests := true, laidLooks := .later }
def AagCutsCardSaid : Prop := Claim7.holds Tryz.pinned (.plain (OpenSpec.ofChange aagCutsSpec)) aagCutsCard

/-- THE TIED CARD OF 'interlocklaw04.AagComments'. -/
def aagCommentsCard : Claim7 := { stood := { row := aagCommentsRow, standIns := [], harness := (true, "d67a8bb4797d9de80a07a52cd6e1807c01b372eb32ef676eec3d61157641ecab"), looks := true }, kinds := [], alts := [], laidByText := true, laidKinds := [.data, .data, .data], laidTests := true, laidLooks := .later }
def AagCommentsCardSaid : Prop := Claim7.holds Tryz.pinned (.plain (OpenSpec.ofChange aagCommentsSpec)) aagCommentsCard

/-- THE SECOND FORM's CARD OF 'interlocklaw04.AagBack'. -/
def aagBackUptoCard : Claim7 := { stood := { row := aagBackUptoRow, standIns := [], harness := (true, "d67a8bb4797d9de80a07a52cd6e1807c01b372eb32ef676eec3d61157641ecab"), looks := true }, kinds := [], alts := [], laidByText := true, laidKinds := [.data, .data, .data], laidTests := true, laidLooks := .later }
def AagBackUptoCardSaid : Prop := Claim7.holds Tryz.pinned (.plain (OpenSpec.upto aagBackSpec)) aagBackUptoCard

/-- THE SECOND FORM's CARD OF 'interlocklaw04.AagCuts'. -/
def aagCutsUptoCard : Claim7 := { stood := { row := aagCutsUptoRow, standIns := [], harness := (true, "d67a8bb4797d9de80a07a52cd6e1807c01b372eb32ef676eec3d61157641ecab"), looks := true }, kinds := [], alts := [], laidByText := true, laidKinds := [.data, .data, .data], laidTests := true, laidLooks := .later }
def AagCutsUptoCardSaid : Prop := Claim7.holds Tryz.pinned (.plain (OpenSpec.upto aagCutsSpec)) aagCutsUptoCard

/-- THE SECOND FORM's CARD OF 'interlocklaw04.AagComments'. -/
def aagCommentsUptoCard : Claim7 := { stood := { row := aagCommentsUptoRow, standIns := [], harness := (true, "d67a8bb4797d9de80a07a52cd6e1807c01b372eb32ef676eec3d61157641ecab"), looks := true }, kinds := [], alts := [], laidByText := true, laidKinds := [.data, .data, .data], laidTests := true, laidLooks := .later }
def AagCommentsUptoCardSaid : Prop := Claim7.holds Tryz.pinned (.plain (OpenSpec.upto aagCommentsSpec)) aagCommentsUptoCard
end Rows
end Go.Proofs.YtckdlbfndmmjjaaGreatDoor
