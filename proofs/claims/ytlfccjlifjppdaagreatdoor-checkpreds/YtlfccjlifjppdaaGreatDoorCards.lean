/-
  DERIVED. GIVEN WITH THE SEED: THE CARDS: each row of YtlfccjlifjppdaaGreatDoorRows.lean that lists a variable, with what it lists TIED to the program's text (the seventh form; the later family's looks); each row that meets fmt, with fmt's text TOLD by the authors' own Lean function (tested against real Go, not proved from fmt's source: count such statements apart). THE CARD IS WHAT COUNTS. Prove the row's statement (the work); the ties are given (YtlfccjlifjppdaaGreatDoorTie.lean); close each card by the builder's one call (the guide's Derived/Test/ToyasCard.lean, 'card_holds'). Laid BY PROGRAM, IN A SANDBOX (cutbox-door.mjs). By AI agents, Wed Nov 11 2026. No macro, syntax, notation, axiom, sorry.
-/
import Derived.Test.YtlfccjlifjppdaaGreatDoorRows
import GoSem.ClaimSeven
namespace Go.Proofs.YtlfccjlifjppdaaGreatDoor
namespace Rows

/-- THE TIED CARD OF 'purlinlaw04.CheckPrograms'. -/
def checkProgramsCard : Claim7 := { stood := { row := checkProgramsRow, standIns := [], harness := (true, "f0becf37aec8c8728dfc0e354e35270c9cb978dc240344fbe03df3fe79226ee9"), looks := false }, kinds := [], alts := [], laidByText := true, laidKinds := [.data], laidTests := true, laidLooks := .later }
def CheckProgramsCardSaid : Prop := Claim7.holds Tryz.pinned (.plain (OpenSpec.ofChange checkProgramsSpec)) checkProgramsCard

/-- THE TIED CARD OF 'purlinlaw04.CheckPreds'. -/
def checkPredsCard : Claim7 := { stood := { row := checkPredsRow, standIns := [], harness := (true, "f0becf37aec8c8728dfc0e354e35270c9cb978dc240344fbe03df3fe79226ee9"), looks := false }, kinds := [], alts := [], laidByText := true, laidKinds := [.data], laidTests := true, laidLooks := .later }
def CheckPredsCardSaid : Prop := Claim7.holds Tryz.pinned (.plain (OpenSpec.ofChange checkPredsSpec)) checkPredsCard

/-- THE TIED CARD OF 'purlinlaw04.CheckCalls'. -/
def checkCallsCard : Claim7 := { stood := { row := checkCallsRow, standIns := [], harness := (true, "f0becf37aec8c8728dfc0e354e35270c9cb978dc240344fbe03df3fe79226ee9"), looks := false }, kinds := [], alts := [], laidByText := true, laidKinds := [.data], laidTests := true, laidLooks := .later }
def CheckCallsCardSaid : Prop := Claim7.holds Tryz.pinned (.plain (OpenSpec.ofChange checkCallsSpec)) checkCallsCard

/-- THE SECOND FORM's CARD OF 'purlinlaw04.CheckPrograms'. -/
def checkProgramsUptoCard : Claim7 := { stood := { row := checkProgramsUptoRow, standIns := [], harness := (true, "f0becf37aec8c8728dfc0e354e35270c9cb978dc240344fbe03df3fe79226ee9"), looks := false }, kinds := [], alts := [], laidByText := true, laidKinds := [.data], laidTests := true, laidLooks := .later }
def CheckProgramsUptoCardSaid : Prop := Claim7.holds Tryz.pinned (.plain (OpenSpec.upto checkProgramsSpec)) checkProgramsUptoCard

/-- THE SECOND FORM's CARD OF 'purlinlaw04.CheckPreds'. -/
def checkPredsUptoCard : Claim7 := { stood := { row := checkPredsUptoRow, standIns := [], harness := (true, "f0becf37aec8c8728dfc0e354e35270c9cb978dc240344fbe03df3fe79226ee9"), looks := false }, kinds := [], alts := [], laidByText := true, laidKinds := [.data], laidTests := true, laidLooks := .later }
def CheckPredsUptoCardSaid : Prop := Claim7.holds Tryz.pinned (.plain (OpenSpec.upto checkPredsSpec)) checkPredsUptoCard

/-- THE SECOND FORM's CARD OF 'purlinlaw04.CheckCalls'. -/
def checkCallsUptoCard : Claim7 := { stood := { row := checkCallsUptoRow, standIns := [], harness := (true, "f0becf37aec8c8728dfc0e354e35270c9cb978dc240344fbe03df3fe79226ee9"), looks := false }, kinds := [], alts := [], laidByText := true, laidKinds := [.data], laidTests := true, laidLooks := .later }
def CheckCallsUptoCardSaid : Prop := Claim7.holds Tryz.pinned (.plain (OpenSpec.upto checkCallsSpec)) checkCallsUptoCard
end Rows
end Go.Proofs.YtlfccjlifjppdaaGreatDoor
