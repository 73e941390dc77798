/- Texts joined by blanks, in plain lists. -/
import Derived.Test.YtiemngihndbobaaDoorLxQ5
namespace Go.Proofs.YtiemngihndbobaaDoor.Lx
open Go.RowKit
/-- A blank and a text, for each text. -/
def tailL : List (List UInt8) → List UInt8
  | [] => []
  | t :: r => 32 :: (t ++ tailL r)
def joinL : List (List UInt8) → List UInt8
  | [] => []
  | t :: r => t ++ tailL r
/-- The texts that are joined: those that are not empty. -/
def textsOf (l : List T) : List ByteArray := (l.filter fun t => decide (t.t.size ≠ 0)).map (·.t)
theorem texts_sum (l : List T) : ((textsOf l).map (·.size)).sum ≤ (l.map (·.t.size)).sum ∧ (textsOf l).length ≤ l.length := by
  induction l with
  | nil => exact ⟨Nat.le_refl _, Nat.le_refl _⟩
  | cons t r ih =>
    unfold textsOf at *
    rw [List.filter_cons]
    split
    · simp only [List.map_cons, List.sum_cons, List.length_cons] at *; omega
    · simp only [List.map_cons, List.sum_cons, List.length_cons] at *; omega
theorem tail_len (l : List (List UInt8)) : (tailL l).length = (l.map (·.length)).sum + l.length := by
  induction l with
  | nil => rfl
  | cons t r ih => simp only [tailL, List.length_cons, List.length_append, List.map_cons, List.sum_cons, ih]; omega
theorem join_len (l : List (List UInt8)) : (joinL l).length ≤ (l.map (·.length)).sum + l.length := by
  cases l with
  | nil => exact Nat.le_refl _
  | cons t r => simp only [joinL, List.length_append, tail_len, List.map_cons, List.sum_cons, List.length_cons]; omega
theorem texts_join (l : List T) : (joinL ((textsOf l).map (·.data.toList))).length ≤ (l.map (·.t.size)).sum + l.length := by
  have h1 := join_len ((textsOf l).map (·.data.toList))
  have h2 := texts_sum l
  rw [List.map_map, List.length_map] at h1
  have h3 : (textsOf l).map ((fun x : List UInt8 => x.length) ∘ fun x : ByteArray => x.data.toList) = (textsOf l).map (·.size) := by
    apply List.map_congr_left
    intro x _
    exact len_list x
  rw [h3] at h1
  omega
end Go.Proofs.YtiemngihndbobaaDoor.Lx
