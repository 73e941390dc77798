/- Contracts of the reference Right, one, OfInt, OfAtom, OfVar. -/
import Derived.Test.YtocbcfhliehoiaaDoorR1
import Derived.Test.YtocbcfhliehoiaaDoorR2
import Derived.Test.YtocbcfhliehoiaaDoorR3
namespace Go.Proofs.YtocbcfhliehoiaaDoor
open Go.RowKit
theorem right_one (c : C) (hk : c.k ≠ 3) : rightB [c] = c.ok := by
  have ha : argsOf c.k c.n = 0 := by unfold argsOf; rw [if_neg hk]
  have h : endS [c] 0 = 1 := by simp [endS, endF, ha]
  unfold rightB cellsB
  rw [h]
  simp
end Go.Proofs.YtocbcfhliehoiaaDoor
