/- Small facts on rows of one's own. -/
import Derived.Test.YthomdgafaffphaaJN
namespace Go.Proofs.Ythomdgafaffphaa.Bk
open Go.RowKit
end Go.Proofs.Ythomdgafaffphaa.Bk
