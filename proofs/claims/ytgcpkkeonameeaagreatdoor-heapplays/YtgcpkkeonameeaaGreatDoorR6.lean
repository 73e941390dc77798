/- Contracts of lent and rows: a term, a row of terms in memory of their own. -/
import Derived.Test.YtgcpkkeonameeaaGreatDoorR5
namespace Go.Proofs.YtgcpkkeonameeaaGreatDoor
open Go.RowKit
def OwnT (w : World) (base : Nat) (u : Value) (l : List C) : Prop := w.ownsRow base 59 5 u l.length (flat l)
theorem ownT_term {w : World} {base : Nat} {u : Value} {l : List C} (h : OwnT w base u l) (hl : l.length ≤ maxLen) (ht : ∀ c ∈ l, c.t.size ≤ maxLen) : TermAt w u l := termAt_of_owns h hl ht
theorem ownT_below {w w' : World} {base : Nat} {u : Value} {l : List C} (h : OwnT w base u l) (hb : Below w.heap.size w w') : OwnT w' base u l := by
  refine ⟨h.1, ?_⟩
  rcases h.2 with hn | ⟨g, cap, cur, h1, h2, h3, h4⟩
  · exact Or.inl hn
  · exact Or.inr ⟨g, cap, cur, h1, h2, (hb.block g (Array.getElem?_eq_some_iff.1 h3).1).trans h3, h4⟩
/-- A term of its own lies in another block than a row of terms. -/
theorem ownT_far {w : World} {base base' : Nat} {u v : Value} {l : List C} {n : Nat} {xs : List Value} (h : OwnT w base u l) (h' : w.ownsRow base' 26 1 v n xs) : u.ownBlock = none ∨ u.ownBlock ≠ v.ownBlock := by
  rcases h.2 with ⟨rfl, _⟩ | ⟨g, cap, cur, rfl, _, h3, _⟩
  · exact Or.inl rfl
  · right
    rcases h'.2 with ⟨rfl, _⟩ | ⟨g', cap', cur', rfl, _, h3', _⟩
    · simp [Value.ownBlock]
    · intro e
      simp [Value.ownBlock] at e
      subst e
      rw [h3] at h3'
      simp at h3'
end Go.Proofs.YtgcpkkeonameeaaGreatDoor
