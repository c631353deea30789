/-
  DERIVED. GIVEN WITH THE SEED: THE CARDS: each row of YtmadlielncjgjaaDoorRows.lean that lists a variable, with what it lists TIED to the program's text (the seventh form; the later family's looks); each row that meets fmt, with fmt's text TOLD by the authors' own Lean function (tested against real Go, not proved from fmt's source: count such statements apart). THE CARD IS WHAT COUNTS. Prove the row's statement (the work); the ties are given (YtmadlielncjgjaaDoorTie.lean); close each card by the builder's one call (the guide's Derived/Test/ToyasCard.lean, 'card_holds'). Laid BY PROGRAM, IN A SANDBOX (cutbox-door.mjs). By AI agents, Wed Nov 11 2026. No macro, syntax, notation, axiom, sorry.
-/
import Derived.Test.YtmadlielncjgjaaDoorRows
import GoSem.ClaimSeven
namespace Go.Proofs.YtmadlielncjgjaaDoor
namespace Rows

/-- THE TIED CARD OF 'interlocklaw01.DigitsBack'. -/
def digitsBackCard : Claim7 := { stood := { row := digitsBackRow, standIns := [], harness := (true, "8e0349718cc4355493deab4ec31f5d1b9409a927d4729d5163c2b5c6d6d726e1"), looks := false }, kinds := [], alts := [], laidByText := true, laidKinds := [.data, .data, .data], laidTests := true, laidLooks := .later }
def DigitsBackCardSaid : Prop := Claim7.holds Tryd.pinned (.plain (OpenSpec.ofChange digitsBackSpec)) digitsBackCard

/-- THE TIED CARD OF 'interlocklaw01.DigitsWords'. -/
def digitsWordsCard : Claim7 := { stood := { row := digitsWordsRow, standIns := [], harness := (true, "8e0349718cc4355493deab4ec31f5d1b9409a927d4729d5163c2b5c6d6d726e1"), looks := false }, kinds := [], alts := [], laidByText := true, laidKinds := [.data, .data, .data], laidTests := true, laidLooks := .later }
def DigitsWordsCardSaid : Prop := Claim7.holds Tryd.pinned (.plain (OpenSpec.ofChange digitsWordsSpec)) digitsWordsCard

/-- THE TIED CARD OF 'interlocklaw01.DigitsLines'. -/
def digitsLinesCard : Claim7 := { stood := { row := digitsLinesRow, standIns := [], harness := (true, "8e0349718cc4355493deab4ec31f5d1b9409a927d4729d5163c2b5c6d6d726e1"), looks := false }, kinds := [], alts := [], laidByText := true, laidKinds := [.data, .data, .data], laidTests := true, laidLooks := .later }
def DigitsLinesCardSaid : Prop := Claim7.holds Tryd.pinned (.plain (OpenSpec.ofChange digitsLinesSpec)) digitsLinesCard

/-- THE SECOND FORM's CARD OF 'interlocklaw01.DigitsBack'. -/
def digitsBackUptoCard : Claim7 := { stood := { row := digitsBackUptoRow, standIns := [], harness := (true, "8e0349718cc4355493deab4ec31f5d1b9409a927d4729d5163c2b5c6d6d726e1"), looks := false }, kinds := [], alts := [], laidByText := true, laidKinds := [.data, .data, .data], laidTests := true, laidLooks := .later }
def DigitsBackUptoCardSaid : Prop := Claim7.holds Tryd.pinned (.plain (OpenSpec.upto digitsBackSpec)) digitsBackUptoCard

/-- THE SECOND FORM's CARD OF 'interlocklaw01.DigitsWords'. -/
def digitsWordsUptoCard : Claim7 := { stood := { row := digitsWordsUptoRow, standIns := [], harness := (true, "8e0349718cc4355493deab4ec31f5d1b9409a927d4729d5163c2b5c6d6d726e1"), looks := false }, kinds := [], alts := [], laidByText := true, laidKinds := [.data, .data, .data], laidTests := true, laidLooks := .later }
def DigitsWordsUptoCardSaid : Prop := Claim7.holds Tryd.pinned (.plain (OpenSpec.upto digitsWordsSpec)) digitsWordsUptoCard

/-- THE SECOND FORM's CARD OF 'interlocklaw01.DigitsLines'. -/
def digitsLinesUptoCard : Claim7 := { stood := { row := digitsLinesUptoRow, standIns := [], harness := (true, "8e0349718cc4355493deab4ec31f5d1b9409a927d4729d5163c2b5c6d6d726e1"), looks := false }, kinds := [], alts := [], laidByText := true, laidKinds := [.data, .data, .data], laidTests := true, laidLooks := .later }
def DigitsLinesUptoCardSaid : Prop := Claim7.holds Tryd.pinned (.plain (OpenSpec.upto digitsLinesSpec)) digitsLinesUptoCard
end Rows
end Go.Proofs.YtmadlielncjgjaaDoor
