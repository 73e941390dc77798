/- Contract of the reference IsName: it returns whether the text is a name, and changes nothing. -/
import Derived.Test.YtaehhophaaipdabDoorW2
namespace Go.Proofs.YtaehhophaaipdabDoor
open Go.RowKit
theorem inner_iff (c : UInt8) : innerB c = true ↔ (97 ≤ (c.toNat : Int) ∧ (c.toNat : Int) ≤ 122) ∨ (65 ≤ (c.toNat : Int) ∧ (c.toNat : Int) ≤ 90) ∨ (48 ≤ (c.toNat : Int) ∧ (c.toNat : Int) ≤ 57) ∨ (c.toNat : Int) = 95 := by
  unfold innerB smallB capitalB digitB
  simp only [Bool.or_eq_true, Bool.and_eq_true, decide_eq_true_eq, beq_iff_eq]
  omega
theorem name_false_of (s : ByteArray) (k : Nat) (hk : k < s.size) (h : innerB s[k] = false) : isNameB s.data.toList = false := by
  have h2 : s.data.toList.all innerB = false := by
    rw [List.all_eq_false]
    exact ⟨s[k], by
      have : s.data.toList[k]'(by simpa using hk) ∈ s.data.toList := List.getElem_mem _
      exact this, by simp [h]⟩
  unfold isNameB
  rw [h2]; simp
theorem name_false_head (s : ByteArray) (h0 : 0 < s.size) (h : smallB s[0] = false) : isNameB s.data.toList = false := by
  unfold isNameB
  rw [head_of s h0, h]; simp
theorem name_false_size (s : ByteArray) (h0 : s.size < 1 ∨ 16 < s.size) : isNameB s.data.toList = false := by
  have h5 : s.data.toList.length = s.size := by simp
  unfold isNameB
  rcases h0 with h0 | h0
  · rw [List.eq_nil_of_length_eq_zero (l := s.data.toList) (by omega)]; rfl
  · rw [decide_eq_false (by omega)]; simp
theorem name_true_of (s : ByteArray) (h0 : 0 < s.size) (h16 : s.size ≤ 16) (hs : smallB s[0] = true) (ha : (s.data.toList.take s.size).all innerB = true) : isNameB s.data.toList = true := by
  have h5 : s.data.toList.length = s.size := by simp
  rw [List.take_of_length_le (by omega)] at ha
  unfold isNameB
  rw [head_of s h0, hs, ha, ← ByteArray.toList_eq, nonempty_of s h0, ByteArray.toList_eq, decide_eq_true (by omega)]; rfl

end Go.Proofs.YtaehhophaaipdabDoor
