/-
  DERIVED. GIVEN WITH THE SEED: THE CARDS: each row of YtopapmnoepnpcaaDoorRows.lean that lists a variable, with what it lists TIED to the program's text (the seventh form; the later family's looks); each row that meets fmt, with fmt's text TOLD by the authors' own Lean function (tested against real Go, not proved from fmt's source: count such statements apart). THE CARD IS WHAT COUNTS. Prove the row's statement (the work); the ties are given (YtopapmnoepnpcaaDoorTie.lean); close each card by the builder's one call (the guide's Derived/Test/ToyasCard.lean, 'card_holds'). Laid BY PROGRAM, IN A SANDBOX (cutbox-door.mjs). By AI agents, Wed Nov 11 2026. No macro, syntax, notation, axiom, sorry.
-/
import Derived.Test.YtopapmnoepnpcaaDoorRows
import GoSem.ClaimSeven
namespace Go.Proofs.YtopapmnoepnpcaaDoor
namespace Rows

/-- THE TIED CARD OF 'purlinlaw17.CreditWhole'. -/
def creditWholeCard : Claim7 := { stood := { row := creditWholeRow, standIns := [], harness := (true, "c99532d3721e0d81aaa9df83136b08e3f3ef7813810b2d460ae21dfc9bd95a38"), looks := false }, kinds := [], alts := [], laidByText := true, laidKinds := [.data, .data, .data, .data], laidTests := true, laidLooks := .later }
def CreditWholeCardSaid : Prop := Claim7.holds Tryd.pinned (.plain (OpenSpec.ofChange creditWholeSpec)) creditWholeCard

/-- THE TIED CARD OF 'purlinlaw17.CreditOrder'. -/
def creditOrderCard : Claim7 := { stood := { row := creditOrderRow, standIns := [], harness := (true, "c99532d3721e0d81aaa9df83136b08e3f3ef7813810b2d460ae21dfc9bd95a38"), looks := false }, kinds := [], alts := [], laidByText := true, laidKinds := [.data, .data, .data, .data], laidTests := true, laidLooks := .later }
def CreditOrderCardSaid : Prop := Claim7.holds Tryd.pinned (.plain (OpenSpec.ofChange creditOrderSpec)) creditOrderCard

/-- THE TIED CARD OF 'purlintop.TopShares'. -/
def topSharesCard : Claim7 := { stood := { row := topSharesRow, standIns := [], harness := (true, "c99532d3721e0d81aaa9df83136b08e3f3ef7813810b2d460ae21dfc9bd95a38"), looks := false }, kinds := [], alts := [], laidByText := true, laidKinds := [.data], laidTests := true, laidLooks := .later }
def TopSharesCardSaid : Prop := Claim7.holds Tryd.pinned (.plain (OpenSpec.ofChange topSharesSpec)) topSharesCard

/-- THE SECOND FORM's CARD OF 'purlinlaw17.CreditWhole'. -/
def creditWholeUptoCard : Claim7 := { stood := { row := creditWholeUptoRow, standIns := [], harness := (true, "c99532d3721e0d81aaa9df83136b08e3f3ef7813810b2d460ae21dfc9bd95a38"), looks := false }, kinds := [], alts := [], laidByText := true, laidKinds := [.data, .data, .data, .data], laidTests := true, laidLooks := .later }
def CreditWholeUptoCardSaid : Prop := Claim7.holds Tryd.pinned (.plain (OpenSpec.upto creditWholeSpec)) creditWholeUptoCard

/-- THE SECOND FORM's CARD OF 'purlinlaw17.CreditOrder'. -/
def creditOrderUptoCard : Claim7 := { stood := { row := creditOrderUptoRow, standIns := [], harness := (true, "c99532d3721e0d81aaa9df83136b08e3f3ef7813810b2d460ae21dfc9bd95a38"), looks := false }, kinds := [], alts := [], laidByText := true, laidKinds := [.data, .data, .data, .data], laidTests := true, laidLooks := .later }
def CreditOrderUptoCardSaid : Prop := Claim7.holds Tryd.pinned (.plain (OpenSpec.upto creditOrderSpec)) creditOrderUptoCard

/-- THE SECOND FORM's CARD OF 'purlintop.TopShares'. -/
def topSharesUptoCard : Claim7 := { stood := { row := topSharesUptoRow, standIns := [], harness := (true, "c99532d3721e0d81aaa9df83136b08e3f3ef7813810b2d460ae21dfc9bd95a38"), looks := false }, kinds := [], alts := [], laidByText := true, laidKinds := [.data], laidTests := true, laidLooks := .later }
def TopSharesUptoCardSaid : Prop := Claim7.holds Tryd.pinned (.plain (OpenSpec.upto topSharesSpec)) topSharesUptoCard
end Rows
end Go.Proofs.YtopapmnoepnpcaaDoor
