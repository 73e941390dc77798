/- Contract of the reference IsName: it returns whether the text is a name, and changes nothing. -/
import Derived.Test.YtaehhophaaipdaaGreatDoorW2p
namespace Go.Proofs.YtaehhophaaipdaaGreatDoor
open Go.RowKit
theorem inner_iff (c : UInt8) : innerB c = true ↔ (97 ≤ (c.toNat : Int) ∧ (c.toNat : Int) ≤ 122) ∨ (65 ≤ (c.toNat : Int) ∧ (c.toNat : Int) ≤ 90) ∨ (48 ≤ (c.toNat : Int) ∧ (c.toNat : Int) ≤ 57) ∨ (c.toNat : Int) = 95 := by
  unfold innerB smallB capitalB digitB
  simp only [Bool.or_eq_true, Bool.and_eq_true, decide_eq_true_eq, beq_iff_eq]
  omega
theorem name_false_of (s : ByteArray) (k : Nat) (hk : k < s.size) (h : innerB s[k] = false) : isNameB s.data.toList = false := by
  have h2 : s.data.toList.all innerB = false := by
    rw [List.all_eq_false]
    exact ⟨s[k], by
      have : s.data.toList[k]'(by simpa using hk) ∈ s.data.toList := List.getElem_mem _
      exact this, by simp [h]⟩
  unfold isNameB
  rw [h2]; simp
theorem name_false_head (s : ByteArray) (h0 : 0 < s.size) (h : smallB s[0] = false) : isNameB s.data.toList = false := by
  unfold isNameB
  rw [head_of s h0, h]; simp
theorem name_false_size (s : ByteArray) (h0 : s.size < 1 ∨ 16 < s.size) : isNameB s.data.toList = false := by
  have h5 : s.data.toList.length = s.size := by simp
  unfold isNameB
  rcases h0 with h0 | h0
  · rw [List.eq_nil_of_length_eq_zero (l := s.data.toList) (by omega)]; rfl
  · rw [decide_eq_false (by omega)]; simp
theorem name_true_of (s : ByteArray) (h0 : 0 < s.size) (h16 : s.size ≤ 16) (hs : smallB s[0] = true) (ha : (s.data.toList.take s.size).all innerB = true) : isNameB s.data.toList = true := by
  have h5 : s.data.toList.length = s.size := by simp
  rw [List.take_of_length_le (by omega)] at ha
  unfold isNameB
  rw [head_of s h0, hs, ha, ← ByteArray.toList_eq, nonempty_of s h0, ByteArray.toList_eq, decide_eq_true (by omega)]; rfl

set_option maxHeartbeats 1000000 in
theorem c40 (s : ByteArray) (w : World) (hs : s.size ≤ maxLen) :
    Calls Tryz.prog 81 #[.string s] w fun e w' => e = .returned (.bool (isNameB s.data.toList)) ∧ w' = w := by
  unfold maxLen at hs
  by_cases h0 : (s.size : Int) < 1
  · rw [name_false_size s (by omega)]
    go_enter Tryz.func81, Tryz.ntmps81
    go_wp2
    go_ret
    exact ⟨rfl, rfl⟩
  by_cases h16 : 16 < (s.size : Int)
  · rw [name_false_size s (by omega)]
    go_enter Tryz.func81, Tryz.ntmps81
    go_wp2
    go_ret
    exact ⟨rfl, rfl⟩
  by_cases ha : (s[0].toNat : Int) < 97
  · rw [name_false_head s (by omega) (by unfold smallB; rw [decide_eq_false (by omega)]; rfl)]
    go_enter Tryz.func81, Tryz.ntmps81
    go_wp2
    go_ret
    exact ⟨rfl, rfl⟩
  by_cases hz : 122 < (s[0].toNat : Int)
  · rw [name_false_head s (by omega) (by unfold smallB; rw [decide_eq_false (p := (s[0].toNat : Int) ≤ 122) (by omega)]; simp)]
    go_enter Tryz.func81, Tryz.ntmps81
    go_wp2
    go_ret
    exact ⟨rfl, rfl⟩
  have hsm : Hid (smallB s[0] = true) := by
    show smallB s[0] = true
    unfold smallB; rw [decide_eq_true (by omega), decide_eq_true (by omega)]; rfl
  go_enter Tryz.func81, Tryz.ntmps81
  go_wp2
  go_loop [3] (fun i => ∃ k : Nat, k ≤ s.size ∧ i = .int .i64 k ∧ Hid ((s.data.toList.take k).all innerB = true)) (fun i => s.size - (intOf i).toNat)
  case atStart => exact ⟨0, Nat.zero_le _, rfl, rfl⟩
  case round =>
    obtain ⟨k, hk, rfl, hall⟩ := hrel
    by_cases hlt : k < s.size
    · have hI : Hid (innerB s[k] = true ↔ _) := inner_iff s[k]
      go_wp2
      all_goals first
        | (go_ret; refine ⟨?_, rfl⟩; rw [name_false_of s k hlt (by rw [Bool.eq_false_iff]; intro h; have := hI.out.1 h; simp_all; omega)]; rfl)
        | (go_round
           case rel => exact ⟨k + 1, by omega, by go_num, all_snoc s k hlt hall.out (hI.out.2 (by first | omega | (simp_all; done) | (simp_all; omega)))⟩
           case measure => simp [intOf]; omega)
    · have hrun : Hid (isNameB s.data.toList = true) := name_true_of s (by omega) (by omega) hsm.out (by
        have h1 := hall.out
        rw [show k = s.size by omega] at h1; exact h1)
      go_wp2
      go_ret
      exact ⟨by rw [hrun.out]; rfl, rfl⟩
end Go.Proofs.YtaehhophaaipdaaGreatDoor
