/- Rows of terms in memory, and the contract of allRight. -/
import Derived.Test.YtgcpkkeonameeaaGreatDoorW14
namespace Go.Proofs.YtgcpkkeonameeaaGreatDoor
open Go.RowKit
/-- A row of terms in memory. -/
def RowAt (w : World) (v : Value) (ls : List (List C)) : Prop :=
  ls.length ≤ maxLen ∧ ((ls = [] ∧ ∃ ad : Option Addr, v = .slice ad 0 0) ∨ ∃ (b o cap : Nat) (vs : List Value), v = .slice (some ⟨b, o, none⟩) ls.length cap ∧ ls.length ≤ cap ∧ cap ≤ maxLen ∧ b < w.heap.size ∧ vs.length = ls.length ∧ w.rangeAt b o vs ∧ ∀ (i : Nat) (u : Value) (l : List C), vs[i]? = some u → ls[i]? = some l → TermAt w u l)
theorem RowAt.below {w w' : World} {v : Value} {ls : List (List C)} (h : RowAt w v ls) (hb : Below w.heap.size w w') : RowAt w' v ls := by
  obtain ⟨h0, h⟩ := h
  refine ⟨h0, ?_⟩
  rcases h with h | ⟨b, o, cap, vs, h1, h2, h3, h4, h5, h6, h7⟩
  · exact Or.inl h
  · exact Or.inr ⟨b, o, cap, vs, h1, h2, h3, Nat.lt_of_lt_of_le h4 hb.size, h5, range_below h6 h4 hb, fun i u l hu hl => (h7 i u l hu hl).below hb⟩
theorem RowAt.form {w : World} {v : Value} {ls : List (List C)} (h : RowAt w v ls) : ∃ (ad : Option Addr) (cap : Nat), v = .slice ad ls.length cap := by
  rcases h.2 with ⟨rfl, ad, rfl⟩ | ⟨b, o, cap, vs, rfl, _⟩
  · exact ⟨ad, 0, rfl⟩
  · exact ⟨_, _, rfl⟩
theorem TermAt.form {w : World} {v : Value} {l : List C} (h : TermAt w v l) : ∃ (ad : Option Addr) (cap : Nat), v = .slice ad l.length cap := by
  rcases h.2 with ⟨rfl, ad, rfl⟩ | ⟨b, o, cap, rfl, _⟩
  · exact ⟨ad, 0, rfl⟩
  · exact ⟨_, _, rfl⟩
theorem row_cell {w : World} {b o : Nat} {vs : List Value} (h : w.rangeAt b o vs) (k : Nat) (hk : k < vs.length) : w.cell? ⟨b, o + k, none⟩ = some vs[k] :=
  h k _ (List.getElem?_eq_getElem hk)
def allRightB (ls : List (List C)) : Bool := ls.all rightB
theorem rights_snoc (l : List (List C)) (k : Nat) (hk : k < l.length) (h : (l.take k).all rightB = true) (hi : rightB l[k] = true) : (l.take (k + 1)).all rightB = true := by
  rw [List.take_succ_eq_append_getElem hk, List.all_append, h]; simp [hi]
theorem rights_false (l : List (List C)) (k : Nat) (hk : k < l.length) (hi : rightB l[k] = false) : allRightB l = false := by
  unfold allRightB; rw [List.all_eq_false]; exact ⟨l[k], List.getElem_mem _, by simp [hi]⟩
end Go.Proofs.YtgcpkkeonameeaaGreatDoor
