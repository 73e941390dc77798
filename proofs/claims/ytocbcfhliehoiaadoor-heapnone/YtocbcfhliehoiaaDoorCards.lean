/-
  DERIVED. GIVEN WITH THE SEED: THE CARDS: each row of YtocbcfhliehoiaaDoorRows.lean that lists a variable, with what it lists TIED to the program's text (the seventh form; the later family's looks); each row that meets fmt, with fmt's text TOLD by the authors' own Lean function (tested against real Go, not proved from fmt's source: count such statements apart). THE CARD IS WHAT COUNTS. Prove the row's statement (the work); the ties are given (YtocbcfhliehoiaaDoorTie.lean); close each card by the builder's one call (the guide's Derived/Test/ToyasCard.lean, 'card_holds'). Laid BY PROGRAM, IN A SANDBOX (cutbox-door.mjs). By AI agents, Wed Nov 11 2026. No macro, syntax, notation, axiom, sorry.
-/
import Derived.Test.YtocbcfhliehoiaaDoorRows
import GoSem.ClaimSeven
namespace Go.Proofs.YtocbcfhliehoiaaDoor
namespace Rows

/-- THE TIED CARD OF 'purlinlaw05.HeapNone'. -/
def heapNoneCard : Claim7 := { stood := { row := heapNoneRow, standIns := [], harness := (true, "077fa9838514d48f43a2743887d073e8e72fe3561fced5cc40d8e312bc00f40f"), looks := true }, kinds := [], alts := [], laidByText := true, laidKinds := [.data], laidTests := true, laidLooks := .later }
def HeapNoneCardSaid : Prop := Claim7.holds Tryd.pinned (.plain (OpenSpec.ofChange heapNoneSpec)) heapNoneCard

/-- THE TIED CARD OF 'purlinlaw06.ArithReckons'. -/
def arithReckonsCard : Claim7 := { stood := { row := arithReckonsRow, standIns := [], harness := (true, "077fa9838514d48f43a2743887d073e8e72fe3561fced5cc40d8e312bc00f40f"), looks := true }, kinds := [], alts := [], laidByText := true, laidKinds := [.data], laidTests := true, laidLooks := .later }
def ArithReckonsCardSaid : Prop := Claim7.holds Tryd.pinned (.plain (OpenSpec.ofChange arithReckonsSpec)) arithReckonsCard

/-- THE TIED CARD OF 'purlinlaw06.ArithDivides'. -/
def arithDividesCard : Claim7 := { stood := { row := arithDividesRow, standIns := [], harness := (true, "077fa9838514d48f43a2743887d073e8e72fe3561fced5cc40d8e312bc00f40f"), looks := true }, kinds := [], alts := [], laidByText := true, laidKinds := [.data], laidTests := true, laidLooks := .later }
def ArithDividesCardSaid : Prop := Claim7.holds Tryd.pinned (.plain (OpenSpec.ofChange arithDividesSpec)) arithDividesCard

/-- THE SECOND FORM's CARD OF 'purlinlaw05.HeapNone'. -/
def heapNoneUptoCard : Claim7 := { stood := { row := heapNoneUptoRow, standIns := [], harness := (true, "077fa9838514d48f43a2743887d073e8e72fe3561fced5cc40d8e312bc00f40f"), looks := true }, kinds := [], alts := [], laidByText := true, laidKinds := [.data], laidTests := true, laidLooks := .later }
def HeapNoneUptoCardSaid : Prop := Claim7.holds Tryd.pinned (.plain (OpenSpec.upto heapNoneSpec)) heapNoneUptoCard

/-- THE SECOND FORM's CARD OF 'purlinlaw06.ArithReckons'. -/
def arithReckonsUptoCard : Claim7 := { stood := { row := arithReckonsUptoRow, standIns := [], harness := (true, "077fa9838514d48f43a2743887d073e8e72fe3561fced5cc40d8e312bc00f40f"), looks := true }, kinds := [], alts := [], laidByText := true, laidKinds := [.data], laidTests := true, laidLooks := .later }
def ArithReckonsUptoCardSaid : Prop := Claim7.holds Tryd.pinned (.plain (OpenSpec.upto arithReckonsSpec)) arithReckonsUptoCard

/-- THE SECOND FORM's CARD OF 'purlinlaw06.ArithDivides'. -/
def arithDividesUptoCard : Claim7 := { stood := { row := arithDividesUptoRow, standIns := [], harness := (true, "077fa9838514d48f43a2743887d073e8e72fe3561fced5cc40d8e312bc00f40f"), looks := true }, kinds := [], alts := [], laidByText := true, laidKinds := [.data], laidTests := true, laidLooks := .later }
def ArithDividesUptoCardSaid : Prop := Claim7.holds Tryd.pinned (.plain (OpenSpec.upto arithDividesSpec)) arithDividesUptoCard
end Rows
end Go.Proofs.YtocbcfhliehoiaaDoor
