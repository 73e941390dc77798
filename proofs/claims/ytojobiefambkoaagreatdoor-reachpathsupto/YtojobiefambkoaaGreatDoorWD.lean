/- Rows of terms in memory, and the contract of allRight. Contract of the library function Concat of rows of terms that are not empty: the cells of all of them, one behind the other. Contract of Make: for every text and row of terms it returns the structure, or its error. -/
import Derived.Test.YtojobiefambkoaaGreatDoorWC
namespace Go.Proofs.YtojobiefambkoaaGreatDoor
open Go.RowKit
/-- A row of terms in memory. -/
def RowAt (w : World) (v : Value) (ls : List (List C)) : Prop :=
  ls.length ≤ maxLen ∧ ((ls = [] ∧ ∃ ad : Option Addr, v = .slice ad 0 0) ∨ ∃ (b o cap : Nat) (vs : List Value), v = .slice (some ⟨b, o, none⟩) ls.length cap ∧ ls.length ≤ cap ∧ cap ≤ maxLen ∧ b < w.heap.size ∧ vs.length = ls.length ∧ w.rangeAt b o vs ∧ ∀ (i : Nat) (u : Value) (l : List C), vs[i]? = some u → ls[i]? = some l → TermAt w u l)
theorem RowAt.below {w w' : World} {v : Value} {ls : List (List C)} (h : RowAt w v ls) (hb : Below w.heap.size w w') : RowAt w' v ls := by
  obtain ⟨h0, h⟩ := h
  refine ⟨h0, ?_⟩
  rcases h with h | ⟨b, o, cap, vs, h1, h2, h3, h4, h5, h6, h7⟩
  · exact Or.inl h
  · exact Or.inr ⟨b, o, cap, vs, h1, h2, h3, Nat.lt_of_lt_of_le h4 hb.size, h5, range_below h6 h4 hb, fun i u l hu hl => (h7 i u l hu hl).below hb⟩
theorem RowAt.form {w : World} {v : Value} {ls : List (List C)} (h : RowAt w v ls) : ∃ (ad : Option Addr) (cap : Nat), v = .slice ad ls.length cap := by
  rcases h.2 with ⟨rfl, ad, rfl⟩ | ⟨b, o, cap, vs, rfl, _⟩
  · exact ⟨ad, 0, rfl⟩
  · exact ⟨_, _, rfl⟩
theorem TermAt.form {w : World} {v : Value} {l : List C} (h : TermAt w v l) : ∃ (ad : Option Addr) (cap : Nat), v = .slice ad l.length cap := by
  rcases h.2 with ⟨rfl, ad, rfl⟩ | ⟨b, o, cap, rfl, _⟩
  · exact ⟨ad, 0, rfl⟩
  · exact ⟨_, _, rfl⟩
theorem row_cell {w : World} {b o : Nat} {vs : List Value} (h : w.rangeAt b o vs) (k : Nat) (hk : k < vs.length) : w.cell? ⟨b, o + k, none⟩ = some vs[k] :=
  h k _ (List.getElem?_eq_getElem hk)
def allRightB (ls : List (List C)) : Bool := ls.all rightB
theorem rights_snoc (l : List (List C)) (k : Nat) (hk : k < l.length) (h : (l.take k).all rightB = true) (hi : rightB l[k] = true) : (l.take (k + 1)).all rightB = true := by
  rw [List.take_succ_eq_append_getElem hk, List.all_append, h]; simp [hi]
theorem rights_false (l : List (List C)) (k : Nat) (hk : k < l.length) (hi : rightB l[k] = false) : allRightB l = false := by
  unfold allRightB; rw [List.all_eq_false]; exact ⟨l[k], List.getElem_mem _, by simp [hi]⟩
end Go.Proofs.YtojobiefambkoaaGreatDoor

namespace Go.Proofs.YtojobiefambkoaaGreatDoor
open Go.RowKit
def tot (ls : List (List C)) : Nat := (ls.map List.length).sum
theorem tot_snoc (ls : List (List C)) (k : Nat) (hk : k < ls.length) : tot (ls.take (k + 1)) = tot (ls.take k) + ls[k].length := by
  unfold tot
  rw [List.take_succ_eq_append_getElem hk, List.map_append, List.sum_append]; simp
theorem tot_le (ls : List (List C)) (k : Nat) : tot (ls.take k) ≤ tot ls := by
  unfold tot
  have h : (ls.map List.length).sum = ((ls.take k).map List.length).sum + ((ls.drop k).map List.length).sum := by
    rw [← List.sum_append, ← List.map_append, List.take_append_drop]
  omega
theorem tot_flatten (ls : List (List C)) : ls.flatten.length = tot ls := by unfold tot; rw [List.length_flatten]
theorem flat_append (a b : List C) : flat (a ++ b) = flat a ++ flat b := by simp [flat]
theorem flat_one (l : List C) : ∀ u ∈ flat l, u.oneCell' = true := by
  intro u hu
  simp only [flat, List.mem_flatMap] at hu
  obtain ⟨c, _, hc⟩ := hu
  simp only [C.vals, List.mem_cons, List.not_mem_nil, or_false] at hc
  rcases hc with rfl | rfl | rfl | rfl | rfl <;> rfl
theorem termAt_of_owns {w : World} {base : Nat} {v : Value} {l : List C} (h : w.ownsRow base 82 5 v l.length (flat l)) (hl : l.length ≤ maxLen) (ht : ∀ c ∈ l, c.t.size ≤ maxLen) : TermAt w v l := by
  refine ⟨⟨hl, ht⟩, ?_⟩
  rcases h.2 with ⟨h1, h2⟩ | ⟨g, cap, cur, h1, h2, h3, h4, h5, h6, h7⟩
  · exact Or.inl ⟨List.eq_nil_of_length_eq_zero h2, none, h1⟩
  · refine Or.inr ⟨g, 0, cap, h1, h4, h5, ?_, (Array.getElem?_eq_some_iff.1 h3).1⟩
    intro j u hu
    rw [cell_of_row _ _ _ _ _ _ h3]
    rw [← h7] at hu
    rw [List.getElem?_take] at hu
    split at hu
    · simpa using hu
    · cases hu
end Go.Proofs.YtojobiefambkoaaGreatDoor

namespace Go.Proofs.YtojobiefambkoaaGreatDoor
open Go.RowKit
def ownC (text : ByteArray) (n : Nat) : C := ⟨3, text, n, 0, 0⟩
def makeE (text : ByteArray) (ls : List (List C)) : Int := if allRightB ls && (ownC text ls.length).ok then (if (256 : Int) < ((tot ls + 1 : Nat) : Int) then 5 else 0) else 6
def makeL (text : ByteArray) (ls : List (List C)) : List C := if makeE text ls = 0 then ownC text ls.length :: ls.flatten else []
theorem rowAt_of_owns {w : World} {base : Nat} {v : Value} {ls : List (List C)} {vs : List Value} (h : w.ownsRow base 64 1 v ls.length vs) (hl : 0 < ls.length) (hm : ls.length ≤ maxLen) (ht : ∀ (i : Nat) (u : Value) (l : List C), vs[i]? = some u → ls[i]? = some l → TermAt w u l) : RowAt w v ls := by
  refine ⟨hm, ?_⟩
  have h0 := h.1
  rcases h.2 with ⟨h1, h2⟩ | ⟨g, cap, cur, h1, h2, h3, h4, h5, h6, h7⟩
  · omega
  · refine Or.inr ⟨g, 0, cap, vs, h1, h4, h5, (Array.getElem?_eq_some_iff.1 h3).1, by omega, ?_, ht⟩
    intro j u hu
    rw [cell_of_row _ _ _ _ _ _ h3]
    rw [← h7] at hu
    rw [List.getElem?_take] at hu
    split at hu
    · simpa using hu
    · cases hu
theorem right_len {l : List C} (h : rightB l = true) : 1 ≤ l.length ∧ l.length ≤ 256 := by
  unfold rightB at h
  simp only [Bool.and_eq_true, decide_eq_true_eq] at h
  omega
theorem allRight_get {ls : List (List C)} (h : allRightB ls = true) : ∀ l ∈ ls, rightB l = true := by
  unfold allRightB at h; rw [List.all_eq_true] at h; exact h
theorem tot_bound {ls : List (List C)} (h : ∀ l ∈ ls, l.length ≤ 256) : tot ls ≤ 256 * ls.length := by
  induction ls with
  | nil => simp [tot]
  | cons a r ih =>
    have h1 := h a (by simp)
    have h2 := ih (fun l hl => h l (by simp [hl]))
    simp [tot] at *; omega
theorem own_n {text : ByteArray} {n : Nat} (h : (ownC text n).ok = true) : 1 ≤ n ∧ n ≤ 8 := by
  have h1 : structFits 1 8 text.data.toList n = true := by
    simp only [C.ok, ownC, cellB, if_neg (show ¬ ((3 : Int) = 1) by decide), if_neg (show ¬ ((3 : Int) = 2) by decide), if_true, Bool.and_eq_true] at h
    exact h.2
  simp only [structFits, between, Bool.and_eq_true, Bool.or_eq_true, decide_eq_true_eq, beq_iff_eq] at h1
  omega
end Go.Proofs.YtojobiefambkoaaGreatDoor
