/- rightLocals and lacks. Contract of the reference End. -/
import Derived.Test.YteikdgjlhdgapaaDoorQ11
import Derived.Test.YteikdgjlhdgapaaDoorQ10
namespace Go.Proofs.YteikdgjlhdgapaaDoor
open Go.RowKit Go.Shelf
attribute [local go_sem] Oper.semAt_some
/-- A term may lie in the place of a local: it is empty, or right. -/
def emptyOrRight (l : List C) : Bool := decide ((l.length : Int) ≤ 0) || rightB l
def localsB (ls : List (List C)) : Bool := ls.all emptyOrRight
theorem locals_snoc (l : List (List C)) (k : Nat) (hk : k < l.length) (h : (l.take k).all emptyOrRight = true) (hi : emptyOrRight l[k] = true) : (l.take (k + 1)).all emptyOrRight = true := by
  rw [List.take_succ_eq_append_getElem hk, List.all_append, h]; simp [hi]
theorem locals_false (l : List (List C)) (k : Nat) (hk : k < l.length) (hi : emptyOrRight l[k] = false) : localsB l = false := by
  unfold localsB; rw [List.all_eq_false]; exact ⟨l[k], List.getElem_mem _, by simp [hi]⟩
/-- The variables of a right term. -/
theorem right_vars {l : List C} (h : rightB l = true) : ∀ x ∈ varsOf l, 0 ≤ x.2 ∧ -1 ≤ x.1 := by
  intro x hx
  unfold varsOf at hx
  obtain ⟨c, hc, rfl⟩ := List.mem_map.1 hx
  rw [List.mem_filter] at hc
  unfold rightB at h
  simp only [Bool.and_eq_true] at h
  have h1 := h.1.2
  unfold cellsB at h1
  have h2 := List.all_eq_true.1 h1 c hc.1
  have h3 : c.k = 4 := by simpa using hc.2
  unfold C.ok cellB at h2
  rw [h3] at h2
  simp [between] at h2
  simp; omega
/-- Is there no term in a place? -/
def lackB (ls : List (List C)) (n : Int) : Bool := decide ((ls.length : Int) ≤ n) || ((ls[n.toNat]?.getD []).length == 0)
def lacksB (l : List C) (ls : List (List C)) : Bool := (varsOf l).any fun x => x.1 == -1 && lackB ls x.2
end Go.Proofs.YteikdgjlhdgapaaDoor
namespace Go.Proofs.YteikdgjlhdgapaaDoor
open Go.RowKit
/-- The reference's way to the place behind the terms that are open. -/
def refF (len : Int) : List C → Int → Int → Int
  | [], i, q => if 0 < q then 0 else i
  | c :: r, i, q => if 0 < q then (if len < argsOf c.k c.n then 0 else refF len r (i + 1) (q - 1 + argsOf c.k c.n)) else i
theorem refF_short (len : Int) : ∀ (l : List C) (i q : Int), (l.length : Int) < q → refF len l i q = 0
  | [], i, q, h => by simp at h; simp [refF, h]
  | c :: r, i, q, h => by
    have ha := argsOf_nonneg c.k c.n
    simp at h
    have hq : 0 < q := by omega
    simp only [refF, hq, if_true]
    split
    · rfl
    · exact refF_short len r _ _ (by omega)
theorem refF_eq (len : Int) : ∀ (l : List C) (i q : Int), 0 < q → (l.length : Int) ≤ len → refF len l i q = endF len l i q
  | [], i, q, h, _ => by simp [refF, endF, h]
  | c :: r, i, q, h, hl => by
    have ha := argsOf_nonneg c.k c.n
    simp at hl
    simp only [refF, endF, h, if_true]
    by_cases h1 : len - q < argsOf c.k c.n
    · rw [if_pos h1]
      split
      · rfl
      · exact refF_short len r _ _ (by omega)
    · rw [if_neg h1, if_neg (by omega)]
      by_cases h2 : q + (argsOf c.k c.n - 1) = 0
      · rw [if_pos h2, show q - 1 + argsOf c.k c.n = 0 by omega]
        cases r <;> simp [refF]
      · rw [if_neg h2, show q - 1 + argsOf c.k c.n = q + (argsOf c.k c.n - 1) by omega]
        exact refF_eq len r _ _ (by omega) (by omega)
end Go.Proofs.YteikdgjlhdgapaaDoor
