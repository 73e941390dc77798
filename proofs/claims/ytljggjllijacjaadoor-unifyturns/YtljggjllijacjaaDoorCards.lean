/-
  DERIVED. GIVEN WITH THE SEED: THE CARDS: each row of YtljggjllijacjaaDoorRows.lean that lists a variable, with what it lists TIED to the program's text (the seventh form; the later family's looks); each row that meets fmt, with fmt's text TOLD by the authors' own Lean function (tested against real Go, not proved from fmt's source: count such statements apart). THE CARD IS WHAT COUNTS. Prove the row's statement (the work); the ties are given (YtljggjllijacjaaDoorTie.lean); close each card by the builder's one call (the guide's Derived/Test/ToyasCard.lean, 'card_holds'). Laid BY PROGRAM, IN A SANDBOX (cutbox-door.mjs). By AI agents, Wed Nov 11 2026. No macro, syntax, notation, axiom, sorry.
-/
import Derived.Test.YtljggjllijacjaaDoorRows
import GoSem.ClaimSeven
namespace Go.Proofs.YtljggjllijacjaaDoor
namespace Rows

/-- THE TIED CARD OF 'purlinlaw08.UnifyEquations'. -/
def unifyEquationsCard : Claim7 := { stood := { row := unifyEquationsRow, standIns := [], harness := (true, "5d06b477d9aedb790f83b673b9cd34fedc5f0930dee6670ea01fa00eeb2da8ad"), looks := true }, kinds := [], alts := [], laidByText := true, laidKinds := [.data], laidTests := true, laidLooks := .later }
def UnifyEquationsCardSaid : Prop := Claim7.holds Tryd.pinned (.plain (OpenSpec.ofChange unifyEquationsSpec)) unifyEquationsCard

/-- THE TIED CARD OF 'purlinlaw08.UnifyTurns'. -/
def unifyTurnsCard : Claim7 := { stood := { row := unifyTurnsRow, standIns := [], harness := (true, "5d06b477d9aedb790f83b673b9cd34fedc5f0930dee6670ea01fa00eeb2da8ad"), looks := true }, kinds := [], alts := [], laidByText := true, laidKinds := [.data], laidTests := true, laidLooks := .later }
def UnifyTurnsCardSaid : Prop := Claim7.holds Tryd.pinned (.plain (OpenSpec.ofChange unifyTurnsSpec)) unifyTurnsCard

/-- THE SECOND FORM's CARD OF 'purlinlaw08.UnifyEquations'. -/
def unifyEquationsUptoCard : Claim7 := { stood := { row := unifyEquationsUptoRow, standIns := [], harness := (true, "5d06b477d9aedb790f83b673b9cd34fedc5f0930dee6670ea01fa00eeb2da8ad"), looks := true }, kinds := [], alts := [], laidByText := true, laidKinds := [.data], laidTests := true, laidLooks := .later }
def UnifyEquationsUptoCardSaid : Prop := Claim7.holds Tryd.pinned (.plain (OpenSpec.upto unifyEquationsSpec)) unifyEquationsUptoCard

/-- THE SECOND FORM's CARD OF 'purlinlaw08.UnifyTurns'. -/
def unifyTurnsUptoCard : Claim7 := { stood := { row := unifyTurnsUptoRow, standIns := [], harness := (true, "5d06b477d9aedb790f83b673b9cd34fedc5f0930dee6670ea01fa00eeb2da8ad"), looks := true }, kinds := [], alts := [], laidByText := true, laidKinds := [.data], laidTests := true, laidLooks := .later }
def UnifyTurnsUptoCardSaid : Prop := Claim7.holds Tryd.pinned (.plain (OpenSpec.upto unifyTurnsSpec)) unifyTurnsUptoCard
end Rows
end Go.Proofs.YtljggjllijacjaaDoor
