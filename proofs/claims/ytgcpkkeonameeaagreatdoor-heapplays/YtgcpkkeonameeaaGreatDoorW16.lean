/- Contract of the library function Concat of rows of terms that are not empty: the cells of all of them, one behind the other. -/
import Derived.Test.YtgcpkkeonameeaaGreatDoorW15
namespace Go.Proofs.YtgcpkkeonameeaaGreatDoor
open Go.RowKit
def tot (ls : List (List C)) : Nat := (ls.map List.length).sum
theorem tot_snoc (ls : List (List C)) (k : Nat) (hk : k < ls.length) : tot (ls.take (k + 1)) = tot (ls.take k) + ls[k].length := by
  unfold tot
  rw [List.take_succ_eq_append_getElem hk, List.map_append, List.sum_append]; simp
theorem tot_le (ls : List (List C)) (k : Nat) : tot (ls.take k) ≤ tot ls := by
  unfold tot
  have h : (ls.map List.length).sum = ((ls.take k).map List.length).sum + ((ls.drop k).map List.length).sum := by
    rw [← List.sum_append, ← List.map_append, List.take_append_drop]
  omega
theorem tot_flatten (ls : List (List C)) : ls.flatten.length = tot ls := by unfold tot; rw [List.length_flatten]
theorem flat_append (a b : List C) : flat (a ++ b) = flat a ++ flat b := by simp [flat]
theorem flat_one (l : List C) : ∀ u ∈ flat l, u.oneCell' = true := by
  intro u hu
  simp only [flat, List.mem_flatMap] at hu
  obtain ⟨c, _, hc⟩ := hu
  simp only [C.vals, List.mem_cons, List.not_mem_nil, or_false] at hc
  rcases hc with rfl | rfl | rfl | rfl | rfl <;> rfl
theorem termAt_of_owns {w : World} {base : Nat} {v : Value} {l : List C} (h : w.ownsRow base 59 5 v l.length (flat l)) (hl : l.length ≤ maxLen) (ht : ∀ c ∈ l, c.t.size ≤ maxLen) : TermAt w v l := by
  refine ⟨⟨hl, ht⟩, ?_⟩
  rcases h.2 with ⟨h1, h2⟩ | ⟨g, cap, cur, h1, h2, h3, h4, h5, h6, h7⟩
  · exact Or.inl ⟨List.eq_nil_of_length_eq_zero h2, none, h1⟩
  · refine Or.inr ⟨g, 0, cap, h1, h4, h5, ?_, (Array.getElem?_eq_some_iff.1 h3).1⟩
    intro j u hu
    rw [cell_of_row _ _ _ _ _ _ h3]
    rw [← h7] at hu
    rw [List.getElem?_take] at hu
    split at hu
    · simpa using hu
    · cases hu
end Go.Proofs.YtgcpkkeonameeaaGreatDoor
