/-
  DERIVED. GIVEN WITH THE SEED: THE CARDS: each row of YtojobiefambkoaaGreatDoorRows.lean that lists a variable, with what it lists TIED to the program's text (the seventh form; the later family's looks); each row that meets fmt, with fmt's text TOLD by the authors' own Lean function (tested against real Go, not proved from fmt's source: count such statements apart). THE CARD IS WHAT COUNTS. Prove the row's statement (the work); the ties are given (YtojobiefambkoaaGreatDoorTie.lean); close each card by the builder's one call (the guide's Derived/Test/ToyasCard.lean, 'card_holds'). Laid BY PROGRAM, IN A SANDBOX (cutbox-door.mjs). By AI agents, Wed Nov 11 2026. No macro, syntax, notation, axiom, sorry.
-/
import Derived.Test.YtojobiefambkoaaGreatDoorRows
import GoSem.ClaimSeven
namespace Go.Proofs.YtojobiefambkoaaGreatDoor
namespace Rows

/-- THE TIED CARD OF 'purlinlaw18.ReachNeeded'. -/
def reachNeededCard : Claim7 := { stood := { row := reachNeededRow, standIns := [], harness := (true, "159ec07f6b5e472545cf2132683089d98dabb1e59edc4f8961f6d2a6c7f1fa90"), looks := false }, kinds := [], alts := [], laidByText := true, laidKinds := [.data], laidTests := true, laidLooks := .later }
def ReachNeededCardSaid : Prop := Claim7.holds Tryz.pinned (.plain (OpenSpec.ofChange reachNeededSpec)) reachNeededCard

/-- THE TIED CARD OF 'purlinlaw18.ReachPaths'. -/
def reachPathsCard : Claim7 := { stood := { row := reachPathsRow, standIns := [], harness := (true, "159ec07f6b5e472545cf2132683089d98dabb1e59edc4f8961f6d2a6c7f1fa90"), looks := false }, kinds := [], alts := [], laidByText := true, laidKinds := [.data], laidTests := true, laidLooks := .later }
def ReachPathsCardSaid : Prop := Claim7.holds Tryz.pinned (.plain (OpenSpec.ofChange reachPathsSpec)) reachPathsCard

/-- THE SECOND FORM's CARD OF 'purlinlaw18.ReachNeeded'. -/
def reachNeededUptoCard : Claim7 := { stood := { row := reachNeededUptoRow, standIns := [], harness := (true, "159ec07f6b5e472545cf2132683089d98dabb1e59edc4f8961f6d2a6c7f1fa90"), looks := false }, kinds := [], alts := [], laidByText := true, laidKinds := [.data], laidTests := true, laidLooks := .later }
def ReachNeededUptoCardSaid : Prop := Claim7.holds Tryz.pinned (.plain (OpenSpec.upto reachNeededSpec)) reachNeededUptoCard

/-- THE SECOND FORM's CARD OF 'purlinlaw18.ReachPaths'. -/
def reachPathsUptoCard : Claim7 := { stood := { row := reachPathsUptoRow, standIns := [], harness := (true, "159ec07f6b5e472545cf2132683089d98dabb1e59edc4f8961f6d2a6c7f1fa90"), looks := false }, kinds := [], alts := [], laidByText := true, laidKinds := [.data], laidTests := true, laidLooks := .later }
def ReachPathsUptoCardSaid : Prop := Claim7.holds Tryz.pinned (.plain (OpenSpec.upto reachPathsSpec)) reachPathsUptoCard
end Rows
end Go.Proofs.YtojobiefambkoaaGreatDoor
