/- Small facts on rows of one's own. -/
import Derived.Test.YtcmblfgpeaeciaaJN
namespace Go.Proofs.Ytcmblfgpeaeciaa.Bk
open Go.RowKit
end Go.Proofs.Ytcmblfgpeaeciaa.Bk
