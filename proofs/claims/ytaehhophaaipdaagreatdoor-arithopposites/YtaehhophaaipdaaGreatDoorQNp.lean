/- Contract of the reference's Reckon: all operators. Contract of the statement on reckoning: for every text and every numbers it returns true. Contract of the document's sum: operators, and all. Contract of the document's sum: an operator's parts, one by one. The document's Deref by a map, and by none; its Value. -/
import Derived.Test.YtaehhophaaipdaaGreatDoorQIp
import Derived.BigQuiet
import Derived.Test.YtaehhophaaipdaaGreatDoorQKp
import Derived.Test.YtaehhophaaipdaaGreatDoorQHp
namespace Go.Proofs.YtaehhophaaipdaaGreatDoor
open Go.RowKit
attribute [local go_sem ↓] Go.wp_at_zero Go.wp_at_succ
end Go.Proofs.YtaehhophaaipdaaGreatDoor

namespace Go.Proofs.YtaehhophaaipdaaGreatDoor
open Go.RowKit
attribute [local go_sem ↓] Go.wp_at_zero Go.wp_at_succ
end Go.Proofs.YtaehhophaaipdaaGreatDoor

namespace Go.Proofs.YtaehhophaaipdaaGreatDoor
open Go.RowKit
attribute [local go_sem ↓] Go.wp_at_zero Go.wp_at_succ
end Go.Proofs.YtaehhophaaipdaaGreatDoor

namespace Go.Proofs.YtaehhophaaipdaaGreatDoor
open Go.RowKit
attribute [local go_sem ↓] Go.wp_at_zero Go.wp_at_succ
end Go.Proofs.YtaehhophaaipdaaGreatDoor

namespace Go.Proofs.YtaehhophaaipdaaGreatDoor
open Go.RowKit
attribute [local go_sem ↓] Go.wp_at_zero Go.wp_at_succ
/-- The document's Value. -/
def valR (v : V3) (b : Bool) : V3 := if b then v else (0, 2, [])
end Go.Proofs.YtaehhophaaipdaaGreatDoor
