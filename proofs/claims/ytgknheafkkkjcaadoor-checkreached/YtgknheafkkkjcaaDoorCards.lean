/-
  DERIVED. GIVEN WITH THE SEED: THE CARDS: each row of YtgknheafkkkjcaaDoorRows.lean that lists a variable, with what it lists TIED to the program's text (the seventh form; the later family's looks); each row that meets fmt, with fmt's text TOLD by the authors' own Lean function (tested against real Go, not proved from fmt's source: count such statements apart). THE CARD IS WHAT COUNTS. Prove the row's statement (the work); the ties are given (YtgknheafkkkjcaaDoorTie.lean); close each card by the builder's one call (the guide's Derived/Test/ToyasCard.lean, 'card_holds'). Laid BY PROGRAM, IN A SANDBOX (cutbox-door.mjs). By AI agents, Wed Nov 11 2026. No macro, syntax, notation, axiom, sorry.
-/
import Derived.Test.YtgknheafkkkjcaaDoorRows
import GoSem.ClaimSeven
namespace Go.Proofs.YtgknheafkkkjcaaDoor
namespace Rows

/-- THE TIED CARD OF 'purlinlaw04.CheckTerms'. -/
def checkTermsCard : Claim7 := { stood := { row := checkTermsRow, standIns := [], harness := (true, "27c43f6cd9f6fb17156988d0866bd189f7baf1b3cf430266c90599a562dda5f4"), looks := false }, kinds := [], alts := [], laidByText := true, laidKinds := [.data], laidTests := true, laidLooks := .later }
def CheckTermsCardSaid : Prop := Claim7.holds Tryd.pinned (.plain (OpenSpec.ofChange checkTermsSpec)) checkTermsCard

/-- THE TIED CARD OF 'purlinlaw04.CheckOrder'. -/
def checkOrderCard : Claim7 := { stood := { row := checkOrderRow, standIns := [], harness := (true, "27c43f6cd9f6fb17156988d0866bd189f7baf1b3cf430266c90599a562dda5f4"), looks := false }, kinds := [], alts := [], laidByText := true, laidKinds := [.data], laidTests := true, laidLooks := .later }
def CheckOrderCardSaid : Prop := Claim7.holds Tryd.pinned (.plain (OpenSpec.ofChange checkOrderSpec)) checkOrderCard

/-- THE TIED CARD OF 'purlinlaw04.CheckReached'. -/
def checkReachedCard : Claim7 := { stood := { row := checkReachedRow, standIns := [], harness := (true, "27c43f6cd9f6fb17156988d0866bd189f7baf1b3cf430266c90599a562dda5f4"), looks := false }, kinds := [], alts := [], laidByText := true, laidKinds := [.data], laidTests := true, laidLooks := .later }
def CheckReachedCardSaid : Prop := Claim7.holds Tryd.pinned (.plain (OpenSpec.ofChange checkReachedSpec)) checkReachedCard

/-- THE SECOND FORM's CARD OF 'purlinlaw04.CheckTerms'. -/
def checkTermsUptoCard : Claim7 := { stood := { row := checkTermsUptoRow, standIns := [], harness := (true, "27c43f6cd9f6fb17156988d0866bd189f7baf1b3cf430266c90599a562dda5f4"), looks := false }, kinds := [], alts := [], laidByText := true, laidKinds := [.data], laidTests := true, laidLooks := .later }
def CheckTermsUptoCardSaid : Prop := Claim7.holds Tryd.pinned (.plain (OpenSpec.upto checkTermsSpec)) checkTermsUptoCard

/-- THE SECOND FORM's CARD OF 'purlinlaw04.CheckOrder'. -/
def checkOrderUptoCard : Claim7 := { stood := { row := checkOrderUptoRow, standIns := [], harness := (true, "27c43f6cd9f6fb17156988d0866bd189f7baf1b3cf430266c90599a562dda5f4"), looks := false }, kinds := [], alts := [], laidByText := true, laidKinds := [.data], laidTests := true, laidLooks := .later }
def CheckOrderUptoCardSaid : Prop := Claim7.holds Tryd.pinned (.plain (OpenSpec.upto checkOrderSpec)) checkOrderUptoCard

/-- THE SECOND FORM's CARD OF 'purlinlaw04.CheckReached'. -/
def checkReachedUptoCard : Claim7 := { stood := { row := checkReachedUptoRow, standIns := [], harness := (true, "27c43f6cd9f6fb17156988d0866bd189f7baf1b3cf430266c90599a562dda5f4"), looks := false }, kinds := [], alts := [], laidByText := true, laidKinds := [.data], laidTests := true, laidLooks := .later }
def CheckReachedUptoCardSaid : Prop := Claim7.holds Tryd.pinned (.plain (OpenSpec.upto checkReachedSpec)) checkReachedUptoCard
end Rows
end Go.Proofs.YtgknheafkkkjcaaDoor
