/-
  DERIVED. GIVEN WITH THE SEED: THE CARDS: each row of YtgcpkkeonameeaaDoorRows.lean that lists a variable, with what it lists TIED to the program's text (the seventh form; the later family's looks); each row that meets fmt, with fmt's text TOLD by the authors' own Lean function (tested against real Go, not proved from fmt's source: count such statements apart). THE CARD IS WHAT COUNTS. Prove the row's statement (the work); the ties are given (YtgcpkkeonameeaaDoorTie.lean); close each card by the builder's one call (the guide's Derived/Test/ToyasCard.lean, 'card_holds'). Laid BY PROGRAM, IN A SANDBOX (cutbox-door.mjs). By AI agents, Wed Nov 11 2026. No macro, syntax, notation, axiom, sorry.
-/
import Derived.Test.YtgcpkkeonameeaaDoorRows
import GoSem.ClaimSeven
namespace Go.Proofs.YtgcpkkeonameeaaDoor
namespace Rows

/-- THE TIED CARD OF 'purlinlaw05.HeapFalls'. -/
def heapFallsCard : Claim7 := { stood := { row := heapFallsRow, standIns := [], harness := (true, "553ae496e515de1c1965aae3e738d8877428803ebb7450f9aa1b159d14400a0d"), looks := true }, kinds := [], alts := [], laidByText := true, laidKinds := [.data], laidTests := true, laidLooks := .later }
def HeapFallsCardSaid : Prop := Claim7.holds Tryd.pinned (.plain (OpenSpec.ofChange heapFallsSpec)) heapFallsCard

/-- THE TIED CARD OF 'purlinlaw05.HeapStays'. -/
def heapStaysCard : Claim7 := { stood := { row := heapStaysRow, standIns := [], harness := (true, "553ae496e515de1c1965aae3e738d8877428803ebb7450f9aa1b159d14400a0d"), looks := true }, kinds := [], alts := [], laidByText := true, laidKinds := [.data], laidTests := true, laidLooks := .later }
def HeapStaysCardSaid : Prop := Claim7.holds Tryd.pinned (.plain (OpenSpec.ofChange heapStaysSpec)) heapStaysCard

/-- THE TIED CARD OF 'purlinlaw05.HeapResolves'. -/
def heapResolvesCard : Claim7 := { stood := { row := heapResolvesRow, standIns := [], harness := (true, "553ae496e515de1c1965aae3e738d8877428803ebb7450f9aa1b159d14400a0d"), looks := true }, kinds := [], alts := [], laidByText := true, laidKinds := [.data], laidTests := true, laidLooks := .later }
def HeapResolvesCardSaid : Prop := Claim7.holds Tryd.pinned (.plain (OpenSpec.ofChange heapResolvesSpec)) heapResolvesCard

/-- THE TIED CARD OF 'purlinlaw05.HeapNone'. -/
def heapNoneCard : Claim7 := { stood := { row := heapNoneRow, standIns := [], harness := (true, "553ae496e515de1c1965aae3e738d8877428803ebb7450f9aa1b159d14400a0d"), looks := true }, kinds := [], alts := [], laidByText := true, laidKinds := [.data], laidTests := true, laidLooks := .later }
def HeapNoneCardSaid : Prop := Claim7.holds Tryd.pinned (.plain (OpenSpec.ofChange heapNoneSpec)) heapNoneCard

/-- THE TIED CARD OF 'purlinlaw05.HeapOwn'. -/
def heapOwnCard : Claim7 := { stood := { row := heapOwnRow, standIns := [], harness := (true, "553ae496e515de1c1965aae3e738d8877428803ebb7450f9aa1b159d14400a0d"), looks := true }, kinds := [], alts := [], laidByText := true, laidKinds := [.data], laidTests := true, laidLooks := .later }
def HeapOwnCardSaid : Prop := Claim7.holds Tryd.pinned (.plain (OpenSpec.ofChange heapOwnSpec)) heapOwnCard

/-- THE SECOND FORM's CARD OF 'purlinlaw05.HeapFalls'. -/
def heapFallsUptoCard : Claim7 := { stood := { row := heapFallsUptoRow, standIns := [], harness := (true, "553ae496e515de1c1965aae3e738d8877428803ebb7450f9aa1b159d14400a0d"), looks := true }, kinds := [], alts := [], laidByText := true, laidKinds := [.data], laidTests := true, laidLooks := .later }
def HeapFallsUptoCardSaid : Prop := Claim7.holds Tryd.pinned (.plain (OpenSpec.upto heapFallsSpec)) heapFallsUptoCard

/-- THE SECOND FORM's CARD OF 'purlinlaw05.HeapStays'. -/
def heapStaysUptoCard : Claim7 := { stood := { row := heapStaysUptoRow, standIns := [], harness := (true, "553ae496e515de1c1965aae3e738d8877428803ebb7450f9aa1b159d14400a0d"), looks := true }, kinds := [], alts := [], laidByText := true, laidKinds := [.data], laidTests := true, laidLooks := .later }
def HeapStaysUptoCardSaid : Prop := Claim7.holds Tryd.pinned (.plain (OpenSpec.upto heapStaysSpec)) heapStaysUptoCard

/-- THE SECOND FORM's CARD OF 'purlinlaw05.HeapResolves'. -/
def heapResolvesUptoCard : Claim7 := { stood := { row := heapResolvesUptoRow, standIns := [], harness := (true, "553ae496e515de1c1965aae3e738d8877428803ebb7450f9aa1b159d14400a0d"), looks := true }, kinds := [], alts := [], laidByText := true, laidKinds := [.data], laidTests := true, laidLooks := .later }
def HeapResolvesUptoCardSaid : Prop := Claim7.holds Tryd.pinned (.plain (OpenSpec.upto heapResolvesSpec)) heapResolvesUptoCard

/-- THE SECOND FORM's CARD OF 'purlinlaw05.HeapNone'. -/
def heapNoneUptoCard : Claim7 := { stood := { row := heapNoneUptoRow, standIns := [], harness := (true, "553ae496e515de1c1965aae3e738d8877428803ebb7450f9aa1b159d14400a0d"), looks := true }, kinds := [], alts := [], laidByText := true, laidKinds := [.data], laidTests := true, laidLooks := .later }
def HeapNoneUptoCardSaid : Prop := Claim7.holds Tryd.pinned (.plain (OpenSpec.upto heapNoneSpec)) heapNoneUptoCard

/-- THE SECOND FORM's CARD OF 'purlinlaw05.HeapOwn'. -/
def heapOwnUptoCard : Claim7 := { stood := { row := heapOwnUptoRow, standIns := [], harness := (true, "553ae496e515de1c1965aae3e738d8877428803ebb7450f9aa1b159d14400a0d"), looks := true }, kinds := [], alts := [], laidByText := true, laidKinds := [.data], laidTests := true, laidLooks := .later }
def HeapOwnUptoCardSaid : Prop := Claim7.holds Tryd.pinned (.plain (OpenSpec.upto heapOwnSpec)) heapOwnUptoCard
end Rows
end Go.Proofs.YtgcpkkeonameeaaDoor
