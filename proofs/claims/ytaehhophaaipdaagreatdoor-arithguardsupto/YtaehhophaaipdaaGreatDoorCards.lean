/-
  DERIVED. GIVEN WITH THE SEED: THE CARDS: each row of YtaehhophaaipdaaGreatDoorRows.lean that lists a variable, with what it lists TIED to the program's text (the seventh form; the later family's looks); each row that meets fmt, with fmt's text TOLD by the authors' own Lean function (tested against real Go, not proved from fmt's source: count such statements apart). THE CARD IS WHAT COUNTS. Prove the row's statement (the work); the ties are given (YtaehhophaaipdaaGreatDoorTie.lean); close each card by the builder's one call (the guide's Derived/Test/ToyasCard.lean, 'card_holds'). Laid BY PROGRAM, IN A SANDBOX (cutbox-door.mjs). By AI agents, Wed Nov 11 2026. No macro, syntax, notation, axiom, sorry.
-/
import Derived.Test.YtaehhophaaipdaaGreatDoorRows
import GoSem.ClaimSeven
namespace Go.Proofs.YtaehhophaaipdaaGreatDoor
namespace Rows

/-- THE TIED CARD OF 'purlinlaw06.ArithValues'. -/
def arithValuesCard : Claim7 := { stood := { row := arithValuesRow, standIns := [], harness := (true, "e174b622b7ae2b9b4f6d6b98ff6be276dd9b06c2fe5187971c9dbaec16be918e"), looks := false }, kinds := [], alts := [], laidByText := true, laidKinds := [.data], laidTests := true, laidLooks := .later }
def ArithValuesCardSaid : Prop := Claim7.holds Tryz.pinned (.plain (OpenSpec.ofChange arithValuesSpec)) arithValuesCard

/-- THE TIED CARD OF 'purlinlaw06.ArithGuards'. -/
def arithGuardsCard : Claim7 := { stood := { row := arithGuardsRow, standIns := [], harness := (true, "e174b622b7ae2b9b4f6d6b98ff6be276dd9b06c2fe5187971c9dbaec16be918e"), looks := false }, kinds := [], alts := [], laidByText := true, laidKinds := [.data], laidTests := true, laidLooks := .later }
def ArithGuardsCardSaid : Prop := Claim7.holds Tryz.pinned (.plain (OpenSpec.ofChange arithGuardsSpec)) arithGuardsCard

/-- THE TIED CARD OF 'purlinlaw06.ArithMore'. -/
def arithMoreCard : Claim7 := { stood := { row := arithMoreRow, standIns := [], harness := (true, "e174b622b7ae2b9b4f6d6b98ff6be276dd9b06c2fe5187971c9dbaec16be918e"), looks := false }, kinds := [], alts := [], laidByText := true, laidKinds := [.data], laidTests := true, laidLooks := .later }
def ArithMoreCardSaid : Prop := Claim7.holds Tryz.pinned (.plain (OpenSpec.ofChange arithMoreSpec)) arithMoreCard

/-- THE TIED CARD OF 'purlinlaw06.ArithOpposites'. -/
def arithOppositesCard : Claim7 := { stood := { row := arithOppositesRow, standIns := [], harness := (true, "e174b622b7ae2b9b4f6d6b98ff6be276dd9b06c2fe5187971c9dbaec16be918e"), looks := false }, kinds := [], alts := [], laidByText := true, laidKinds := [.data], laidTests := true, laidLooks := .later }
def ArithOppositesCardSaid : Prop := Claim7.holds Tryz.pinned (.plain (OpenSpec.ofChange arithOppositesSpec)) arithOppositesCard

/-- THE SECOND FORM's CARD OF 'purlinlaw06.ArithValues'. -/
def arithValuesUptoCard : Claim7 := { stood := { row := arithValuesUptoRow, standIns := [], harness := (true, "e174b622b7ae2b9b4f6d6b98ff6be276dd9b06c2fe5187971c9dbaec16be918e"), looks := false }, kinds := [], alts := [], laidByText := true, laidKinds := [.data], laidTests := true, laidLooks := .later }
def ArithValuesUptoCardSaid : Prop := Claim7.holds Tryz.pinned (.plain (OpenSpec.upto arithValuesSpec)) arithValuesUptoCard

/-- THE SECOND FORM's CARD OF 'purlinlaw06.ArithGuards'. -/
def arithGuardsUptoCard : Claim7 := { stood := { row := arithGuardsUptoRow, standIns := [], harness := (true, "e174b622b7ae2b9b4f6d6b98ff6be276dd9b06c2fe5187971c9dbaec16be918e"), looks := false }, kinds := [], alts := [], laidByText := true, laidKinds := [.data], laidTests := true, laidLooks := .later }
def ArithGuardsUptoCardSaid : Prop := Claim7.holds Tryz.pinned (.plain (OpenSpec.upto arithGuardsSpec)) arithGuardsUptoCard

/-- THE SECOND FORM's CARD OF 'purlinlaw06.ArithMore'. -/
def arithMoreUptoCard : Claim7 := { stood := { row := arithMoreUptoRow, standIns := [], harness := (true, "e174b622b7ae2b9b4f6d6b98ff6be276dd9b06c2fe5187971c9dbaec16be918e"), looks := false }, kinds := [], alts := [], laidByText := true, laidKinds := [.data], laidTests := true, laidLooks := .later }
def ArithMoreUptoCardSaid : Prop := Claim7.holds Tryz.pinned (.plain (OpenSpec.upto arithMoreSpec)) arithMoreUptoCard

/-- THE SECOND FORM's CARD OF 'purlinlaw06.ArithOpposites'. -/
def arithOppositesUptoCard : Claim7 := { stood := { row := arithOppositesUptoRow, standIns := [], harness := (true, "e174b622b7ae2b9b4f6d6b98ff6be276dd9b06c2fe5187971c9dbaec16be918e"), looks := false }, kinds := [], alts := [], laidByText := true, laidKinds := [.data], laidTests := true, laidLooks := .later }
def ArithOppositesUptoCardSaid : Prop := Claim7.holds Tryz.pinned (.plain (OpenSpec.upto arithOppositesSpec)) arithOppositesUptoCard
end Rows
end Go.Proofs.YtaehhophaaipdaaGreatDoor
