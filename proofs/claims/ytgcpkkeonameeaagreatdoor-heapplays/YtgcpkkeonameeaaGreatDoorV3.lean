/- rightLocals and lacks. -/
import Derived.Test.YtgcpkkeonameeaaGreatDoorV2
namespace Go.Proofs.YtgcpkkeonameeaaGreatDoor
open Go.RowKit Go.Shelf
attribute [local go_sem] Oper.semAt_some
/-- A term may lie in the place of a local: it is empty, or right. -/
def emptyOrRight (l : List C) : Bool := decide ((l.length : Int) ≤ 0) || rightB l
def localsB (ls : List (List C)) : Bool := ls.all emptyOrRight
theorem locals_snoc (l : List (List C)) (k : Nat) (hk : k < l.length) (h : (l.take k).all emptyOrRight = true) (hi : emptyOrRight l[k] = true) : (l.take (k + 1)).all emptyOrRight = true := by
  rw [List.take_succ_eq_append_getElem hk, List.all_append, h]; simp [hi]
theorem locals_false (l : List (List C)) (k : Nat) (hk : k < l.length) (hi : emptyOrRight l[k] = false) : localsB l = false := by
  unfold localsB; rw [List.all_eq_false]; exact ⟨l[k], List.getElem_mem _, by simp [hi]⟩
/-- The variables of a right term. -/
theorem right_vars {l : List C} (h : rightB l = true) : ∀ x ∈ varsOf l, 0 ≤ x.2 ∧ -1 ≤ x.1 := by
  intro x hx
  unfold varsOf at hx
  obtain ⟨c, hc, rfl⟩ := List.mem_map.1 hx
  rw [List.mem_filter] at hc
  unfold rightB at h
  simp only [Bool.and_eq_true] at h
  have h1 := h.1.2
  unfold cellsB at h1
  have h2 := List.all_eq_true.1 h1 c hc.1
  have h3 : c.k = 4 := by simpa using hc.2
  unfold C.ok cellB at h2
  rw [h3] at h2
  simp [between] at h2
  simp; omega
/-- Is there no term in a place? -/
def lackB (ls : List (List C)) (n : Int) : Bool := decide ((ls.length : Int) ≤ n) || ((ls[n.toNat]?.getD []).length == 0)
def lacksB (l : List C) (ls : List (List C)) : Bool := (varsOf l).any fun x => x.1 == -1 && lackB ls x.2
end Go.Proofs.YtgcpkkeonameeaaGreatDoor
