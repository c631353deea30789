/-
  DERIVED. GIVEN WITH THE SEED: THE CARDS: each row of YtopjddmgejfalaaDoorRows.lean that lists a variable, with what it lists TIED to the program's text (the seventh form; the later family's looks); each row that meets fmt, with fmt's text TOLD by the authors' own Lean function (tested against real Go, not proved from fmt's source: count such statements apart). THE CARD IS WHAT COUNTS. Prove the row's statement (the work); the ties are given (YtopjddmgejfalaaDoorTie.lean); close each card by the builder's one call (the guide's Derived/Test/ToyasCard.lean, 'card_holds'). Laid BY PROGRAM, IN A SANDBOX (cutbox-door.mjs). By AI agents, Wed Nov 11 2026. No macro, syntax, notation, axiom, sorry.
-/
import Derived.Test.YtopjddmgejfalaaDoorRows
import GoSem.ClaimSeven
namespace Go.Proofs.YtopjddmgejfalaaDoor
namespace Rows

/-- THE TIED CARD OF 'interlocklaw05.AigOrders'. -/
def aigOrdersCard : Claim7 := { stood := { row := aigOrdersRow, standIns := [], harness := (true, "d0c80a3e3338f6b8ec680a096470eb39b7a25301de4af14a75be29f4ee2efe8d"), looks := true }, kinds := [], alts := [], laidByText := true, laidKinds := [.data, .data, .data, .sentinel], laidTests := true, laidLooks := .later }
def AigOrdersCardSaid : Prop := Claim7.holds Tryd.pinned (.plain (OpenSpec.ofChange aigOrdersSpec)) aigOrdersCard

/-- THE TIED CARD OF 'interlocklaw05.AigWrites'. -/
def aigWritesCard : Claim7 := { stood := { row := aigWritesRow, standIns := [], harness := (true, "d0c80a3e3338f6b8ec680a096470eb39b7a25301de4af14a75be29f4ee2efe8d"), looks := true }, kinds := [], alts := [], laidByText := true, laidKinds := [.data, .data, .data, .sentinel], laidTests := true, laidLooks := .later }
def AigWritesCardSaid : Prop := Claim7.holds Tryd.pinned (.plain (OpenSpec.ofChange aigWritesSpec)) aigWritesCard

/-- THE SECOND FORM's CARD OF 'interlocklaw05.AigOrders'. -/
def aigOrdersUptoCard : Claim7 := { stood := { row := aigOrdersUptoRow, standIns := [], harness := (true, "d0c80a3e3338f6b8ec680a096470eb39b7a25301de4af14a75be29f4ee2efe8d"), looks := true }, kinds := [], alts := [], laidByText := true, laidKinds := [.data, .data, .data, .sentinel], laidTests := true, laidLooks := .later }
def AigOrdersUptoCardSaid : Prop := Claim7.holds Tryd.pinned (.plain (OpenSpec.upto aigOrdersSpec)) aigOrdersUptoCard

/-- THE SECOND FORM's CARD OF 'interlocklaw05.AigWrites'. -/
def aigWritesUptoCard : Claim7 := { stood := { row := aigWritesUptoRow, standIns := [], harness := (true, "d0c80a3e3338f6b8ec680a096470eb39b7a25301de4af14a75be29f4ee2efe8d"), looks := true }, kinds := [], alts := [], laidByText := true, laidKinds := [.data, .data, .data, .sentinel], laidTests := true, laidLooks := .later }
def AigWritesUptoCardSaid : Prop := Claim7.holds Tryd.pinned (.plain (OpenSpec.upto aigWritesSpec)) aigWritesUptoCard
end Rows
end Go.Proofs.YtopjddmgejfalaaDoor
