/- Contracts of the reference Right, one, OfInt, OfAtom, OfVar. Contract of the reference SameTerms. Contracts of lent and rows: a term, a row of terms in memory of their own. -/
import Derived.Test.YtaehhophaaipdabDoorR1
import Derived.Test.YtaehhophaaipdabDoorR2
import Derived.Test.YtaehhophaaipdabDoorR3
namespace Go.Proofs.YtaehhophaaipdabDoor
open Go.RowKit
theorem right_one (c : C) (hk : c.k ≠ 3) : rightB [c] = c.ok := by
  have ha : argsOf c.k c.n = 0 := by unfold argsOf; rw [if_neg hk]
  have h : endS [c] 0 = 1 := by simp [endS, endF, ha]
  unfold rightB cellsB
  rw [h]
  simp
end Go.Proofs.YtaehhophaaipdabDoor

namespace Go.Proofs.YtaehhophaaipdabDoor
open Go.RowKit
attribute [local go_sem ↓] Go.wp_at_zero Go.wp_at_succ
def sameUpto (l m : List (List C)) (k : Nat) : Prop := ∀ j, j < k → ∀ (h1 : j < l.length) (h2 : j < m.length), eqT l[j] m[j] = true
def sameR (l m : List (List C)) : Bool := decide (l.length = m.length) && (l.zip m).all (fun p => eqT p.1 p.2)
theorem sameR_len {l m : List (List C)} (h : ¬ l.length = m.length) : sameR l m = false := by simp [sameR, h]
theorem sameR_true {l m : List (List C)} (h : l.length = m.length) (hu : sameUpto l m l.length) : sameR l m = true := by
  simp only [sameR, h, decide_true, Bool.true_and, List.all_eq_true]
  intro p hp
  obtain ⟨j, hj, rfl⟩ := List.getElem_of_mem hp
  simp at hj
  simpa using hu j (by omega) (by omega) (by omega)
theorem sameR_false {l m : List (List C)} (j : Nat) (h1 : j < l.length) (h2 : j < m.length) (h : eqT l[j] m[j] = false) : sameR l m = false := by
  unfold sameR
  have : (l.zip m).all (fun p => eqT p.1 p.2) = false := by
    rw [List.all_eq_false]
    exact ⟨(l.zip m)[j]'(by simp; omega), List.getElem_mem _, by simp [h]⟩
  rw [this]; simp
theorem sameR_refl (l : List (List C)) : sameR l l = true := sameR_true rfl (fun j _ h1 _ => eqT_refl l[j])
abbrev TwS (w : World) (b1 o1 b2 o2 : Nat) (u1 u2 : Value) (w' : World) : Prop :=
  w'.cell? ⟨b1, o1, none⟩ = some u1 ∧ w'.cell? ⟨b2, o2, none⟩ = some u2 ∧ Hid (Below w.heap.size w w' ∧ b1 < w.heap.size ∧ b2 < w.heap.size)
theorem twS_drew {w : World} {b1 o1 b2 o2 : Nat} {u1 u2 : Value} {w' : World} (h : TwS w b1 o1 b2 o2 u1 u2 w') : TwS w b1 o1 b2 o2 u1 u2 w'.drew :=
  ⟨by simpa using h.1, by simpa using h.2.1, h.2.2.out.1.drew, h.2.2.out.2⟩
theorem twS_below {w : World} {b1 o1 b2 o2 : Nat} {u1 u2 : Value} {w' w'' : World} (h : TwS w b1 o1 b2 o2 u1 u2 w') (hb : Below w'.heap.size w' w'') : TwS w b1 o1 b2 o2 u1 u2 w'' := by
  have h9 := h.2.2.out
  have hz := h9.1.size
  exact ⟨(hb.cell (p := ⟨_, _, none⟩) (Nat.lt_of_lt_of_le h9.2.1 hz)).trans h.1, (hb.cell (p := ⟨_, _, none⟩) (Nat.lt_of_lt_of_le h9.2.2 hz)).trans h.2.1, h9.1.trans (hb.mono hz), h9.2⟩
theorem twS_hb {w : World} {b1 o1 b2 o2 : Nat} {u1 u2 : Value} {w' : World} (h : TwS w b1 o1 b2 o2 u1 u2 w') : Below w.heap.size w w' := h.2.2.out.1
end Go.Proofs.YtaehhophaaipdabDoor

namespace Go.Proofs.YtaehhophaaipdabDoor
open Go.RowKit
def OwnT (w : World) (base : Nat) (u : Value) (l : List C) : Prop := w.ownsRow base 52 5 u l.length (flat l)
theorem ownT_term {w : World} {base : Nat} {u : Value} {l : List C} (h : OwnT w base u l) (hl : l.length ≤ maxLen) (ht : ∀ c ∈ l, c.t.size ≤ maxLen) : TermAt w u l := termAt_of_owns h hl ht
theorem ownT_below {w w' : World} {base : Nat} {u : Value} {l : List C} (h : OwnT w base u l) (hb : Below w.heap.size w w') : OwnT w' base u l := by
  refine ⟨h.1, ?_⟩
  rcases h.2 with hn | ⟨g, cap, cur, h1, h2, h3, h4⟩
  · exact Or.inl hn
  · exact Or.inr ⟨g, cap, cur, h1, h2, (hb.block g (Array.getElem?_eq_some_iff.1 h3).1).trans h3, h4⟩
/-- A term of its own lies in another block than a row of terms. -/
theorem ownT_far {w : World} {base base' : Nat} {u v : Value} {l : List C} {n : Nat} {xs : List Value} (h : OwnT w base u l) (h' : w.ownsRow base' 23 1 v n xs) : u.ownBlock = none ∨ u.ownBlock ≠ v.ownBlock := by
  rcases h.2 with ⟨rfl, _⟩ | ⟨g, cap, cur, rfl, _, h3, _⟩
  · exact Or.inl rfl
  · right
    rcases h'.2 with ⟨rfl, _⟩ | ⟨g', cap', cur', rfl, _, h3', _⟩
    · simp [Value.ownBlock]
    · intro e
      simp [Value.ownBlock] at e
      subst e
      rw [h3] at h3'
      simp at h3'
end Go.Proofs.YtaehhophaaipdabDoor
