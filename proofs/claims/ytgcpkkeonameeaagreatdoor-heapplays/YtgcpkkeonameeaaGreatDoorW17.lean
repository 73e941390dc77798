/- Contract of Make: for every text and row of terms it returns the structure, or its error. -/
import Derived.Test.YtgcpkkeonameeaaGreatDoorW16
namespace Go.Proofs.YtgcpkkeonameeaaGreatDoor
open Go.RowKit
def ownC (text : ByteArray) (n : Nat) : C := ⟨3, text, n, 0, 0⟩
def makeE (text : ByteArray) (ls : List (List C)) : Int := if allRightB ls && (ownC text ls.length).ok then (if (256 : Int) < ((tot ls + 1 : Nat) : Int) then 5 else 0) else 6
def makeL (text : ByteArray) (ls : List (List C)) : List C := if makeE text ls = 0 then ownC text ls.length :: ls.flatten else []
theorem rowAt_of_owns {w : World} {base : Nat} {v : Value} {ls : List (List C)} {vs : List Value} (h : w.ownsRow base 26 1 v ls.length vs) (hl : 0 < ls.length) (hm : ls.length ≤ maxLen) (ht : ∀ (i : Nat) (u : Value) (l : List C), vs[i]? = some u → ls[i]? = some l → TermAt w u l) : RowAt w v ls := by
  refine ⟨hm, ?_⟩
  have h0 := h.1
  rcases h.2 with ⟨h1, h2⟩ | ⟨g, cap, cur, h1, h2, h3, h4, h5, h6, h7⟩
  · omega
  · refine Or.inr ⟨g, 0, cap, vs, h1, h4, h5, (Array.getElem?_eq_some_iff.1 h3).1, by omega, ?_, ht⟩
    intro j u hu
    rw [cell_of_row _ _ _ _ _ _ h3]
    rw [← h7] at hu
    rw [List.getElem?_take] at hu
    split at hu
    · simpa using hu
    · cases hu
theorem right_len {l : List C} (h : rightB l = true) : 1 ≤ l.length ∧ l.length ≤ 256 := by
  unfold rightB at h
  simp only [Bool.and_eq_true, decide_eq_true_eq] at h
  omega
theorem allRight_get {ls : List (List C)} (h : allRightB ls = true) : ∀ l ∈ ls, rightB l = true := by
  unfold allRightB at h; rw [List.all_eq_true] at h; exact h
theorem tot_bound {ls : List (List C)} (h : ∀ l ∈ ls, l.length ≤ 256) : tot ls ≤ 256 * ls.length := by
  induction ls with
  | nil => simp [tot]
  | cons a r ih =>
    have h1 := h a (by simp)
    have h2 := ih (fun l hl => h l (by simp [hl]))
    simp [tot] at *; omega
theorem own_n {text : ByteArray} {n : Nat} (h : (ownC text n).ok = true) : 1 ≤ n ∧ n ≤ 8 := by
  have h1 : structFits 1 8 text.data.toList n = true := by
    simp only [C.ok, ownC, cellB, if_neg (show ¬ ((3 : Int) = 1) by decide), if_neg (show ¬ ((3 : Int) = 2) by decide), if_true, Bool.and_eq_true] at h
    exact h.2
  simp only [structFits, between, Bool.and_eq_true, Bool.or_eq_true, decide_eq_true_eq, beq_iff_eq] at h1
  omega
end Go.Proofs.YtgcpkkeonameeaaGreatDoor
