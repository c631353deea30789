/-
  DERIVED. GIVEN WITH THE SEED: THE CARDS: each row of YtopjddmgejfalaaGreatDoorRows.lean that lists a variable, with what it lists TIED to the program's text (the seventh form; the later family's looks); each row that meets fmt, with fmt's text TOLD by the authors' own Lean function (tested against real Go, not proved from fmt's source: count such statements apart). THE CARD IS WHAT COUNTS. Prove the row's statement (the work); the ties are given (YtopjddmgejfalaaGreatDoorTie.lean); close each card by the builder's one call (the guide's Derived/Test/ToyasCard.lean, 'card_holds'). Laid BY PROGRAM, IN A SANDBOX (cutbox-door.mjs). By AI agents, Wed Nov 11 2026. No macro, syntax, notation, axiom, sorry.
-/
import Derived.Test.YtopjddmgejfalaaGreatDoorRows
import GoSem.ClaimSeven
namespace Go.Proofs.YtopjddmgejfalaaGreatDoor
namespace Rows

/-- THE TIED CARD OF 'interlocklaw05.AigBack'. -/
def aigBackCard : Claim7 := { stood := { row := aigBackRow, standIns := [], harness := (true, "3549c58a8d23421e76b4475e45a44d561f3bd28c995718c3a653ae57bbcfffc0"), looks := true }, kinds := [], alts := [], laidByText := true, laidKinds := [.data, .data, .data, .sentinel], laidTests := true, laidLooks := .later }
def AigBackCardSaid : Prop := Claim7.holds Tryz.pinned (.plain (OpenSpec.ofChange aigBackSpec)) aigBackCard

/-- THE TIED CARD OF 'interlocklaw05.AigCuts'. -/
def aigCutsCard : Claim7 := { stood := { row := aigCutsRow, standIns := [], harness := (true, "3549c58a8d23421e76b4475e45a44d561f3bd28c995718c3a653ae57bbcfffc0"), looks := true }, kinds := [], alts := [], laidByText := true, laidKinds := [.data, .data, .data, .sentinel], laidTests := true, laidLooks := .later }
def AigCutsCardSaid : Prop := Claim7.holds Tryz.pinned (.plain (OpenSpec.ofChange aigCutsSpec)) aigCutsCard

/-- THE SECOND FORM's CARD OF 'interlocklaw05.AigBack'. -/
def aigBackUptoCard : Claim7 := { stood := { row := aigBackUptoRow, standIns := [], harness := (true, "3549c58a8d23421e76b4475e45a44d561f3bd28c995718c3a653ae57bbcfffc0"), looks := true }, kinds := [], alts := [], laidByText := true, laidKinds := [.data, .data, .data, .sentinel], laidTests := true, laidLooks := .later }
def AigBackUptoCardSaid : Prop := Claim7.holds Tryz.pinned (.plain (OpenSpec.upto aigBackSpec)) aigBackUptoCard

/-- THE SECOND FORM's CARD OF 'interlocklaw05.AigCuts'. -/
def aigCutsUptoCard : Claim7 := { stood := { row := aigCutsUptoRow, standIns := [], harness := (true, "3549c58a8d23421e76b4475e45a44d561f3bd28c995718c3a653ae57bbcfffc0"), looks := true }, kinds := [], alts := [], laidByText := true, laidKinds := [.data, .data, .data, .sentinel], laidTests := true, laidLooks := .later }
def AigCutsUptoCardSaid : Prop := Claim7.holds Tryz.pinned (.plain (OpenSpec.upto aigCutsSpec)) aigCutsUptoCard
end Rows
end Go.Proofs.YtopjddmgejfalaaGreatDoor
