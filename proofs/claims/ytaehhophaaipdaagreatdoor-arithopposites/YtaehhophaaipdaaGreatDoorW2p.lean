/- Contracts of the two IsName functions: each returns whether the text is a name, and changes nothing. -/
import Derived.Test.YtaehhophaaipdaaGreatDoorW1p
namespace Go.Proofs.YtaehhophaaipdaaGreatDoor
open Go.RowKit

/-- A name of atoms and structures. -/
def isNameB (l : List UInt8) : Bool := !l.isEmpty && decide (l.length ≤ 16) && smallB (l.headD 0) && l.all innerB

theorem nonempty_of (s : ByteArray) (h : 0 < s.size) : s.toList.isEmpty = false := by
  rw [ByteArray.toList_eq, List.isEmpty_eq_false_iff]
  intro h2
  have h3 : s.data.toList.length = 0 := by rw [h2]; rfl
  have h4 : s.data.toList.length = s.size := by simp
  omega
theorem empty_of (s : ByteArray) (h : s.size = 0) : s.toList.isEmpty = true := by
  rw [ByteArray.toList_eq, List.isEmpty_iff]
  exact List.eq_nil_of_length_eq_zero (by simpa using h)
theorem head_of (s : ByteArray) (h : 0 < s.size) : s.data.toList.headD 0 = s[0] := by
  have e : s.data.toList = s.data.toList[0]'(by simpa using h) :: s.data.toList.tail := by
    rw [← List.head_eq_getElem (l := s.data.toList) (by intro h2; have h3 : s.data.toList.length = 0 := by rw [h2]; rfl
                                                        have h4 : s.data.toList.length = s.size := by simp
                                                        omega)]
    simp
  rw [e]; rfl
theorem runB_len (l : List UInt8) : (((runB l : Nat) : Int) == (l.length : Int)) = l.all innerB := by
  cases h : l.all innerB
  · simp
    unfold runB
    intro h2
    have h3 : ∀ m : List UInt8, (m.takeWhile innerB).length = m.length → m.all innerB = true := by
      intro m
      induction m with
      | nil => simp
      | cons a r ih =>
        by_cases ha : innerB a
        · simp [ha] at *; exact ih
        · simp [ha]
    rw [h3 l (by omega)] at h
    cases h
  · rw [runB_all l h]; simp

set_option maxHeartbeats 400000 in
theorem c39 (s : ByteArray) (w : World) (hs : s.size ≤ maxLen) :
    Calls Tryz.prog 133 #[.string s] w fun e w' => e = .returned (.bool (isNameB s.data.toList)) ∧ w' = w := by
  have H59 : Hid (∀ w, Calls Tryz.prog 149 #[.string s, .func (.func 150) #[] #[]] w fun e w' => e = .returned (.int .i64 (runB s.data.toList)) ∧ w' = w) := fun w => c59 s w hs
  unfold maxLen at hs
  by_cases h0 : 0 < s.size
  · have hne := nonempty_of s h0
    by_cases h16 : (s.size : Int) ≤ 16
    · have H58 := c58 s[0]
      have hl : isNameB s.data.toList = (smallB s[0] && s.data.toList.all innerB) := by
        unfold isNameB
        rw [head_of s h0, ← ByteArray.toList_eq, hne]
        have : s.toList.length ≤ 16 := by rw [ByteArray.toList_eq]; simp; omega
        simp [this]
      rw [hl]; clear hl
      have hrl := runB_len s.data.toList
      generalize smallB s[0] = b at *
      generalize s.data.toList.all innerB = r at *
      generalize runB s.data.toList = m at *
      have H58 : Hid (∀ w, Calls Tryz.prog 148 #[.int .u8 (s[0].toNat : Int)] w fun e w' => e = .returned (.bool b) ∧ w' = w) := H58
      have hrl : (((m : Nat) : Int) == (s.size : Int)) = r := by simpa using hrl
      cases b
      · go_enter Tryz.func133, Tryz.ntmps133
        go_wp2_with (first | (go_at_call 148; refine (H58.out _).mono ?_; rintro e w' ⟨rfl, rfl⟩) | (go_at_call 149; refine (H59.out _).mono ?_; rintro e w' ⟨rfl, rfl⟩))
        go_ret
        exact ⟨rfl, rfl⟩
      · go_enter Tryz.func133, Tryz.ntmps133
        go_wp2_with (first | (go_at_call 148; refine (H58.out _).mono ?_; rintro e w' ⟨rfl, rfl⟩) | (go_at_call 149; refine (H59.out _).mono ?_; rintro e w' ⟨rfl, rfl⟩))
        go_ret
        exact ⟨rfl, rfl⟩
    · have hl : isNameB s.data.toList = false := by
        unfold isNameB
        have h4 : ¬ s.data.toList.length ≤ 16 := by
          have h5 : s.data.toList.length = s.size := by simp
          omega
        rw [decide_eq_false h4]; simp
      rw [hl]; clear hl
      go_enter Tryz.func133, Tryz.ntmps133
      go_wp2
      go_ret
      exact ⟨rfl, rfl⟩
  · have hne := empty_of s (by omega)
    have hl : isNameB s.data.toList = false := by
      unfold isNameB
      rw [← ByteArray.toList_eq, hne]; rfl
    rw [hl]; clear hl
    go_enter Tryz.func133, Tryz.ntmps133
    go_wp2
    go_ret
    exact ⟨rfl, rfl⟩
end Go.Proofs.YtaehhophaaipdaaGreatDoor
