/-
  DERIVED. GIVEN WITH THE SEED: THE CARDS: each row of YtojobiefambkoaaDoorRows.lean that lists a variable, with what it lists TIED to the program's text (the seventh form; the later family's looks); each row that meets fmt, with fmt's text TOLD by the authors' own Lean function (tested against real Go, not proved from fmt's source: count such statements apart). THE CARD IS WHAT COUNTS. Prove the row's statement (the work); the ties are given (YtojobiefambkoaaDoorTie.lean); close each card by the builder's one call (the guide's Derived/Test/ToyasCard.lean, 'card_holds'). Laid BY PROGRAM, IN A SANDBOX (cutbox-door.mjs). By AI agents, Wed Nov 11 2026. No macro, syntax, notation, axiom, sorry.
-/
import Derived.Test.YtojobiefambkoaaDoorRows
import GoSem.ClaimSeven
namespace Go.Proofs.YtojobiefambkoaaDoor
namespace Rows

/-- THE TIED CARD OF 'purlinlaw18.ReachMore'. -/
def reachMoreCard : Claim7 := { stood := { row := reachMoreRow, standIns := [], harness := (true, "ddbc0c88edff785630ec2f697e4e5dc17a067bca8360c0ae186f2b5535090ddc"), looks := true }, kinds := [], alts := [], laidByText := true, laidKinds := [.data], laidTests := true, laidLooks := .later }
def ReachMoreCardSaid : Prop := Claim7.holds Tryd.pinned (.plain (OpenSpec.ofChange reachMoreSpec)) reachMoreCard

/-- THE TIED CARD OF 'purlinlaw18.ReachWays'. -/
def reachWaysCard : Claim7 := { stood := { row := reachWaysRow, standIns := [], harness := (true, "ddbc0c88edff785630ec2f697e4e5dc17a067bca8360c0ae186f2b5535090ddc"), looks := true }, kinds := [], alts := [], laidByText := true, laidKinds := [.data], laidTests := true, laidLooks := .later }
def ReachWaysCardSaid : Prop := Claim7.holds Tryd.pinned (.plain (OpenSpec.ofChange reachWaysSpec)) reachWaysCard

/-- THE TIED CARD OF 'purlinlaw18.ReachGarbage'. -/
def reachGarbageCard : Claim7 := { stood := { row := reachGarbageRow, standIns := [], harness := (true, "ddbc0c88edff785630ec2f697e4e5dc17a067bca8360c0ae186f2b5535090ddc"), looks := true }, kinds := [], alts := [], laidByText := true, laidKinds := [.data], laidTests := true, laidLooks := .later }
def ReachGarbageCardSaid : Prop := Claim7.holds Tryd.pinned (.plain (OpenSpec.ofChange reachGarbageSpec)) reachGarbageCard

/-- THE TIED CARD OF 'purlintop.TopNeeded'. -/
def topNeededCard : Claim7 := { stood := { row := topNeededRow, standIns := [], harness := (true, "ddbc0c88edff785630ec2f697e4e5dc17a067bca8360c0ae186f2b5535090ddc"), looks := true }, kinds := [], alts := [], laidByText := true, laidKinds := [.data], laidTests := true, laidLooks := .later }
def TopNeededCardSaid : Prop := Claim7.holds Tryd.pinned (.plain (OpenSpec.ofChange topNeededSpec)) topNeededCard

/-- THE SECOND FORM's CARD OF 'purlinlaw18.ReachMore'. -/
def reachMoreUptoCard : Claim7 := { stood := { row := reachMoreUptoRow, standIns := [], harness := (true, "ddbc0c88edff785630ec2f697e4e5dc17a067bca8360c0ae186f2b5535090ddc"), looks := true }, kinds := [], alts := [], laidByText := true, laidKinds := [.data], laidTests := true, laidLooks := .later }
def ReachMoreUptoCardSaid : Prop := Claim7.holds Tryd.pinned (.plain (OpenSpec.upto reachMoreSpec)) reachMoreUptoCard

/-- THE SECOND FORM's CARD OF 'purlinlaw18.ReachWays'. -/
def reachWaysUptoCard : Claim7 := { stood := { row := reachWaysUptoRow, standIns := [], harness := (true, "ddbc0c88edff785630ec2f697e4e5dc17a067bca8360c0ae186f2b5535090ddc"), looks := true }, kinds := [], alts := [], laidByText := true, laidKinds := [.data], laidTests := true, laidLooks := .later }
def ReachWaysUptoCardSaid : Prop := Claim7.holds Tryd.pinned (.plain (OpenSpec.upto reachWaysSpec)) reachWaysUptoCard

/-- THE SECOND FORM's CARD OF 'purlinlaw18.ReachGarbage'. -/
def reachGarbageUptoCard : Claim7 := { stood := { row := reachGarbageUptoRow, standIns := [], harness := (true, "ddbc0c88edff785630ec2f697e4e5dc17a067bca8360c0ae186f2b5535090ddc"), looks := true }, kinds := [], alts := [], laidByText := true, laidKinds := [.data], laidTests := true, laidLooks := .later }
def ReachGarbageUptoCardSaid : Prop := Claim7.holds Tryd.pinned (.plain (OpenSpec.upto reachGarbageSpec)) reachGarbageUptoCard

/-- THE SECOND FORM's CARD OF 'purlintop.TopNeeded'. -/
def topNeededUptoCard : Claim7 := { stood := { row := topNeededUptoRow, standIns := [], harness := (true, "ddbc0c88edff785630ec2f697e4e5dc17a067bca8360c0ae186f2b5535090ddc"), looks := true }, kinds := [], alts := [], laidByText := true, laidKinds := [.data], laidTests := true, laidLooks := .later }
def TopNeededUptoCardSaid : Prop := Claim7.holds Tryd.pinned (.plain (OpenSpec.upto topNeededSpec)) topNeededUptoCard
end Rows
end Go.Proofs.YtojobiefambkoaaDoor
