/- Contract of the reference End. -/
import Derived.Test.YtaehhophaaipdabDoorJW
namespace Go.Proofs.YtaehhophaaipdabDoor
open Go.RowKit
/-- The reference's way to the place behind the terms that are open. -/
def refF (len : Int) : List C → Int → Int → Int
  | [], i, q => if 0 < q then 0 else i
  | c :: r, i, q => if 0 < q then (if len < argsOf c.k c.n then 0 else refF len r (i + 1) (q - 1 + argsOf c.k c.n)) else i
theorem refF_short (len : Int) : ∀ (l : List C) (i q : Int), (l.length : Int) < q → refF len l i q = 0
  | [], i, q, h => by simp at h; simp [refF, h]
  | c :: r, i, q, h => by
    have ha := argsOf_nonneg c.k c.n
    simp at h
    have hq : 0 < q := by omega
    simp only [refF, hq, if_true]
    split
    · rfl
    · exact refF_short len r _ _ (by omega)
theorem refF_eq (len : Int) : ∀ (l : List C) (i q : Int), 0 < q → (l.length : Int) ≤ len → refF len l i q = endF len l i q
  | [], i, q, h, _ => by simp [refF, endF, h]
  | c :: r, i, q, h, hl => by
    have ha := argsOf_nonneg c.k c.n
    simp at hl
    simp only [refF, endF, h, if_true]
    by_cases h1 : len - q < argsOf c.k c.n
    · rw [if_pos h1]
      split
      · rfl
      · exact refF_short len r _ _ (by omega)
    · rw [if_neg h1, if_neg (by omega)]
      by_cases h2 : q + (argsOf c.k c.n - 1) = 0
      · rw [if_pos h2, show q - 1 + argsOf c.k c.n = 0 by omega]
        cases r <;> simp [refF]
      · rw [if_neg h2, show q - 1 + argsOf c.k c.n = q + (argsOf c.k c.n - 1) by omega]
        exact refF_eq len r _ _ (by omega) (by omega)
end Go.Proofs.YtaehhophaaipdabDoor
