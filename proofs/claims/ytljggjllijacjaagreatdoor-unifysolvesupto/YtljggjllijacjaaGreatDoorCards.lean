/-
  DERIVED. GIVEN WITH THE SEED: THE CARDS: each row of YtljggjllijacjaaGreatDoorRows.lean that lists a variable, with what it lists TIED to the program's text (the seventh form; the later family's looks); each row that meets fmt, with fmt's text TOLD by the authors' own Lean function (tested against real Go, not proved from fmt's source: count such statements apart). THE CARD IS WHAT COUNTS. Prove the row's statement (the work); the ties are given (YtljggjllijacjaaGreatDoorTie.lean); close each card by the builder's one call (the guide's Derived/Test/ToyasCard.lean, 'card_holds'). Laid BY PROGRAM, IN A SANDBOX (cutbox-door.mjs). By AI agents, Wed Nov 11 2026. No macro, syntax, notation, axiom, sorry.
-/
import Derived.Test.YtljggjllijacjaaGreatDoorRows
import GoSem.ClaimSeven
namespace Go.Proofs.YtljggjllijacjaaGreatDoor
namespace Rows

/-- THE TIED CARD OF 'purlinlaw08.UnifySteps'. -/
def unifyStepsCard : Claim7 := { stood := { row := unifyStepsRow, standIns := [], harness := (true, "da887beedcddfb4fad7ce68de57b0f77e512a62c4a11cb9f56e48926834e4796"), looks := true }, kinds := [], alts := [], laidByText := true, laidKinds := [.data], laidTests := true, laidLooks := .later }
def UnifyStepsCardSaid : Prop := Claim7.holds Tryz.pinned (.plain (OpenSpec.ofChange unifyStepsSpec)) unifyStepsCard

/-- THE TIED CARD OF 'purlinlaw08.UnifySolves'. -/
def unifySolvesCard : Claim7 := { stood := { row := unifySolvesRow, standIns := [], harness := (true, "da887beedcddfb4fad7ce68de57b0f77e512a62c4a11cb9f56e48926834e4796"), looks := true }, kinds := [], alts := [], laidByText := true, laidKinds := [.data], laidTests := true, laidLooks := .later }
def UnifySolvesCardSaid : Prop := Claim7.holds Tryz.pinned (.plain (OpenSpec.ofChange unifySolvesSpec)) unifySolvesCard

/-- THE TIED CARD OF 'purlinlaw08.UnifyBinds'. -/
def unifyBindsCard : Claim7 := { stood := { row := unifyBindsRow, standIns := [], harness := (true, "da887beedcddfb4fad7ce68de57b0f77e512a62c4a11cb9f56e48926834e4796"), looks := true }, kinds := [], alts := [], laidByText := true, laidKinds := [.data], laidTests := true, laidLooks := .later }
def UnifyBindsCardSaid : Prop := Claim7.holds Tryz.pinned (.plain (OpenSpec.ofChange unifyBindsSpec)) unifyBindsCard

/-- THE SECOND FORM's CARD OF 'purlinlaw08.UnifySteps'. -/
def unifyStepsUptoCard : Claim7 := { stood := { row := unifyStepsUptoRow, standIns := [], harness := (true, "da887beedcddfb4fad7ce68de57b0f77e512a62c4a11cb9f56e48926834e4796"), looks := true }, kinds := [], alts := [], laidByText := true, laidKinds := [.data], laidTests := true, laidLooks := .later }
def UnifyStepsUptoCardSaid : Prop := Claim7.holds Tryz.pinned (.plain (OpenSpec.upto unifyStepsSpec)) unifyStepsUptoCard

/-- THE SECOND FORM's CARD OF 'purlinlaw08.UnifySolves'. -/
def unifySolvesUptoCard : Claim7 := { stood := { row := unifySolvesUptoRow, standIns := [], harness := (true, "da887beedcddfb4fad7ce68de57b0f77e512a62c4a11cb9f56e48926834e4796"), looks := true }, kinds := [], alts := [], laidByText := true, laidKinds := [.data], laidTests := true, laidLooks := .later }
def UnifySolvesUptoCardSaid : Prop := Claim7.holds Tryz.pinned (.plain (OpenSpec.upto unifySolvesSpec)) unifySolvesUptoCard

/-- THE SECOND FORM's CARD OF 'purlinlaw08.UnifyBinds'. -/
def unifyBindsUptoCard : Claim7 := { stood := { row := unifyBindsUptoRow, standIns := [], harness := (true, "da887beedcddfb4fad7ce68de57b0f77e512a62c4a11cb9f56e48926834e4796"), looks := true }, kinds := [], alts := [], laidByText := true, laidKinds := [.data], laidTests := true, laidLooks := .later }
def UnifyBindsUptoCardSaid : Prop := Claim7.holds Tryz.pinned (.plain (OpenSpec.upto unifyBindsSpec)) unifyBindsUptoCard
end Rows
end Go.Proofs.YtljggjllijacjaaGreatDoor
