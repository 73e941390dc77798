/- Contracts of the small functions on bytes and names: for every argument, each returns what the plain function says, and no memory that was there changes. Contracts of the two IsName functions: each returns whether the text is a name, and changes nothing. Contract of the reference IsName: it returns whether the text is a name, and changes nothing. -/
import Derived.Test.YteikdgjlhdgapaaDoorRows
import Derived.WalkKit
import Derived.WalkSpells
import Derived.WalkLawsBesides
import Derived.Deep.QuietTactic
import Derived.BigQuiet
namespace Go.Proofs.YteikdgjlhdgapaaDoor
open Go.RowKit

def smallB (c : UInt8) : Bool := decide (97 ≤ (c.toNat : Int)) && decide ((c.toNat : Int) ≤ 122)
def capitalB (c : UInt8) : Bool := decide (65 ≤ (c.toNat : Int)) && decide ((c.toNat : Int) ≤ 90)
def digitB (c : UInt8) : Bool := decide (48 ≤ (c.toNat : Int)) && decide ((c.toNat : Int) ≤ 57)
def innerB (c : UInt8) : Bool := smallB c || capitalB c || digitB c || ((c.toNat : Int) == 95)

set_option maxHeartbeats 400000 in
theorem c58 (c : UInt8) (w : World) :
    Calls Tryd.prog 95 #[.int .u8 (c.toNat : Int)] w fun e w' => e = .returned (.bool (smallB c)) ∧ w' = w := by
  by_cases h : 97 ≤ (c.toNat : Int)
  · have hb : smallB c = decide ((c.toNat : Int) ≤ 122) := by simp [smallB, h]
    rw [hb]; clear hb
    go_enter Tryd.func95, Tryd.ntmps95
    go_wp2
    go_ret
    exact ⟨rfl, rfl⟩
  · have hb : smallB c = false := by unfold smallB; rw [decide_eq_false h]; rfl
    rw [hb]; clear hb
    go_enter Tryd.func95, Tryd.ntmps95
    go_wp2
    go_ret
    exact ⟨rfl, rfl⟩
set_option maxHeartbeats 400000 in
theorem c66 (c : UInt8) (w : World) :
    Calls Tryd.prog 108 #[.int .u8 (c.toNat : Int)] w fun e w' => e = .returned (.bool (capitalB c)) ∧ w' = w := by
  by_cases h : 65 ≤ (c.toNat : Int)
  · have hb : capitalB c = decide ((c.toNat : Int) ≤ 90) := by simp [capitalB, h]
    rw [hb]; clear hb
    go_enter Tryd.func108, Tryd.ntmps108
    go_wp2
    go_ret
    exact ⟨rfl, rfl⟩
  · have hb : capitalB c = false := by unfold capitalB; rw [decide_eq_false h]; rfl
    rw [hb]; clear hb
    go_enter Tryd.func108, Tryd.ntmps108
    go_wp2
    go_ret
    exact ⟨rfl, rfl⟩
set_option maxHeartbeats 400000 in
theorem c67 (c : UInt8) (w : World) :
    Calls Tryd.prog 109 #[.int .u8 (c.toNat : Int)] w fun e w' => e = .returned (.bool (digitB c)) ∧ w' = w := by
  by_cases h : 48 ≤ (c.toNat : Int)
  · have hb : digitB c = decide ((c.toNat : Int) ≤ 57) := by simp [digitB, h]
    rw [hb]; clear hb
    go_enter Tryd.func109, Tryd.ntmps109
    go_wp2
    go_ret
    exact ⟨rfl, rfl⟩
  · have hb : digitB c = false := by unfold digitB; rw [decide_eq_false h]; rfl
    rw [hb]; clear hb
    go_enter Tryd.func109, Tryd.ntmps109
    go_wp2
    go_ret
    exact ⟨rfl, rfl⟩

set_option maxHeartbeats 400000 in
theorem c60 (c : UInt8) (w : World) :
    Calls Tryd.prog 97 #[.int .u8 (c.toNat : Int)] w fun e w' => e = .returned (.bool (innerB c)) ∧ w' = w := by
  have hb : innerB c = (smallB c || capitalB c || digitB c || ((c.toNat : Int) == 95)) := rfl
  rw [hb]; clear hb
  have H58 := c58 c
  have H66 := c66 c
  have H67 := c67 c
  generalize smallB c = s at *
  generalize capitalB c = k at *
  generalize digitB c = d at *
  have H58 : Hid (∀ w, Calls Tryd.prog 95 #[.int .u8 (c.toNat : Int)] w fun e w' => e = .returned (.bool s) ∧ w' = w) := H58
  have H66 : Hid (∀ w, Calls Tryd.prog 108 #[.int .u8 (c.toNat : Int)] w fun e w' => e = .returned (.bool k) ∧ w' = w) := H66
  have H67 : Hid (∀ w, Calls Tryd.prog 109 #[.int .u8 (c.toNat : Int)] w fun e w' => e = .returned (.bool d) ∧ w' = w) := H67
  cases s <;> cases k <;> cases d
  all_goals
    go_enter Tryd.func97, Tryd.ntmps97
    go_wp2_with (first | (go_at_call 95; refine (H58.out _).mono ?_; rintro e w' ⟨rfl, rfl⟩) | (go_at_call 108; refine (H66.out _).mono ?_; rintro e w' ⟨rfl, rfl⟩) | (go_at_call 109; refine (H67.out _).mono ?_; rintro e w' ⟨rfl, rfl⟩))
    go_ret
    exact ⟨rfl, rfl⟩

def lessB (a0 a1 b0 b1 : Int) : Bool := decide (a0 < b0) || ((a0 == b0) && decide (a1 < b1))

/-- How many bytes at the beginning are inner ones. -/
def runB (l : List UInt8) : Nat := (l.takeWhile innerB).length
theorem runB_stop (l : List UInt8) (k : Nat) (hk : k < l.length) (h : (l.take k).all innerB = true) (hn : innerB l[k] = false) : runB l = k := by
  unfold runB
  induction l generalizing k with
  | nil => simp at hk
  | cons a r ih =>
    cases k with
    | zero => simp at hn; simp [hn]
    | succ k =>
      simp at h hk hn
      have := ih k hk (by simpa using h.2) hn
      simp [h.1, this]
theorem runB_all (l : List UInt8) (h : l.all innerB = true) : runB l = l.length := by
  unfold runB
  induction l with
  | nil => rfl
  | cons a r ih => simp at h; simp [h.1]; exact ih (by simpa using h.2)
theorem all_snoc (s : ByteArray) (k : Nat) (hk : k < s.size) (h : (s.data.toList.take k).all innerB = true) (hi : innerB s[k] = true) : (s.data.toList.take (k + 1)).all innerB = true := by
  have e : s.data.toList.take (k + 1) = s.data.toList.take k ++ [s[k]] := by
    rw [List.take_succ_eq_append_getElem (by simpa using hk)]; rfl
  rw [e, List.all_append, h]
  simp [hi]
set_option maxHeartbeats 400000 in
theorem c59 (s : ByteArray) (w : World) (hs : s.size ≤ maxLen) :
    Calls Tryd.prog 96 #[.string s, .func (.func 97) #[] #[]] w fun e w' => e = .returned (.int .i64 (runB s.data.toList)) ∧ w' = w := by
  unfold maxLen at hs
  go_enter Tryd.func96, Tryd.ntmps96
  go_wp2
  go_loop [8] (fun i => ∃ k : Nat, k ≤ s.size ∧ i = .int .i64 k ∧ (s.data.toList.take k).all innerB = true) (fun i => s.size - (intOf i).toNat)
  case atStart => exact ⟨0, Nat.zero_le _, rfl, rfl⟩
  case round =>
    obtain ⟨k, hk, rfl, hall⟩ := hrel
    have HA : Hid ((s.data.toList.take k).all innerB = true) := hall
    clear hall
    by_cases hlt : k < s.size
    · have H60 : Hid (∀ w, Calls Tryd.prog 97 #[.int .u8 (s[k].toNat : Int)] w fun e w' => e = .returned (.bool (innerB s[k])) ∧ w' = w) := c60 s[k]
      cases hi : innerB s[k]
      · have hrun : Hid (runB s.data.toList = k) := runB_stop _ k (by simpa using hlt) HA.out hi
        rw [hi] at H60
        clear hi
        go_wp2_with (first | (go_at_call 97; refine (H60.out _).mono ?_; rintro e w' ⟨rfl, rfl⟩))
        go_ret
        exact ⟨by rw [hrun.out]; rfl, rfl⟩
      · have hA := all_snoc s k hlt HA.out hi
        rw [hi] at H60
        clear hi
        go_wp2_with (first | (go_at_call 97; refine (H60.out _).mono ?_; rintro e w' ⟨rfl, rfl⟩))
        go_round
        case rel => exact ⟨k + 1, by omega, by go_num, hA⟩
        case measure => simp [intOf]; omega
    · have hrun : Hid (runB s.data.toList = s.size) := by
        show runB s.data.toList = s.size
        have h1 := HA.out
        rw [List.take_of_length_le (by simp; omega)] at h1
        have h2 := runB_all _ h1
        exact by simpa using h2
      go_wp2
      go_ret
      exact ⟨by rw [hrun.out]; rfl, rfl⟩
end Go.Proofs.YteikdgjlhdgapaaDoor
namespace Go.Proofs.YteikdgjlhdgapaaDoor
open Go.RowKit

/-- A name of atoms and structures. -/
def isNameB (l : List UInt8) : Bool := !l.isEmpty && decide (l.length ≤ 16) && smallB (l.headD 0) && l.all innerB

theorem nonempty_of (s : ByteArray) (h : 0 < s.size) : s.toList.isEmpty = false := by
  rw [ByteArray.toList_eq, List.isEmpty_eq_false_iff]
  intro h2
  have h3 : s.data.toList.length = 0 := by rw [h2]; rfl
  have h4 : s.data.toList.length = s.size := by simp
  omega
theorem empty_of (s : ByteArray) (h : s.size = 0) : s.toList.isEmpty = true := by
  rw [ByteArray.toList_eq, List.isEmpty_iff]
  exact List.eq_nil_of_length_eq_zero (by simpa using h)
theorem head_of (s : ByteArray) (h : 0 < s.size) : s.data.toList.headD 0 = s[0] := by
  have e : s.data.toList = s.data.toList[0]'(by simpa using h) :: s.data.toList.tail := by
    rw [← List.head_eq_getElem (l := s.data.toList) (by intro h2; have h3 : s.data.toList.length = 0 := by rw [h2]; rfl
                                                        have h4 : s.data.toList.length = s.size := by simp
                                                        omega)]
    simp
  rw [e]; rfl
theorem runB_len (l : List UInt8) : (((runB l : Nat) : Int) == (l.length : Int)) = l.all innerB := by
  cases h : l.all innerB
  · simp
    unfold runB
    intro h2
    have h3 : ∀ m : List UInt8, (m.takeWhile innerB).length = m.length → m.all innerB = true := by
      intro m
      induction m with
      | nil => simp
      | cons a r ih =>
        by_cases ha : innerB a
        · simp [ha] at *; exact ih
        · simp [ha]
    rw [h3 l (by omega)] at h
    cases h
  · rw [runB_all l h]; simp

set_option maxHeartbeats 400000 in
theorem c39 (s : ByteArray) (w : World) (hs : s.size ≤ maxLen) :
    Calls Tryd.prog 82 #[.string s] w fun e w' => e = .returned (.bool (isNameB s.data.toList)) ∧ w' = w := by
  have H59 : Hid (∀ w, Calls Tryd.prog 96 #[.string s, .func (.func 97) #[] #[]] w fun e w' => e = .returned (.int .i64 (runB s.data.toList)) ∧ w' = w) := fun w => c59 s w hs
  unfold maxLen at hs
  by_cases h0 : 0 < s.size
  · have hne := nonempty_of s h0
    by_cases h16 : (s.size : Int) ≤ 16
    · have H58 := c58 s[0]
      have hl : isNameB s.data.toList = (smallB s[0] && s.data.toList.all innerB) := by
        unfold isNameB
        rw [head_of s h0, ← ByteArray.toList_eq, hne]
        have : s.toList.length ≤ 16 := by rw [ByteArray.toList_eq]; simp; omega
        simp [this]
      rw [hl]; clear hl
      have hrl := runB_len s.data.toList
      generalize smallB s[0] = b at *
      generalize s.data.toList.all innerB = r at *
      generalize runB s.data.toList = m at *
      have H58 : Hid (∀ w, Calls Tryd.prog 95 #[.int .u8 (s[0].toNat : Int)] w fun e w' => e = .returned (.bool b) ∧ w' = w) := H58
      have hrl : (((m : Nat) : Int) == (s.size : Int)) = r := by simpa using hrl
      cases b
      · go_enter Tryd.func82, Tryd.ntmps82
        go_wp2_with (first | (go_at_call 95; refine (H58.out _).mono ?_; rintro e w' ⟨rfl, rfl⟩) | (go_at_call 96; refine (H59.out _).mono ?_; rintro e w' ⟨rfl, rfl⟩))
        go_ret
        exact ⟨rfl, rfl⟩
      · go_enter Tryd.func82, Tryd.ntmps82
        go_wp2_with (first | (go_at_call 95; refine (H58.out _).mono ?_; rintro e w' ⟨rfl, rfl⟩) | (go_at_call 96; refine (H59.out _).mono ?_; rintro e w' ⟨rfl, rfl⟩))
        go_ret
        exact ⟨rfl, rfl⟩
    · have hl : isNameB s.data.toList = false := by
        unfold isNameB
        have h4 : ¬ s.data.toList.length ≤ 16 := by
          have h5 : s.data.toList.length = s.size := by simp
          omega
        rw [decide_eq_false h4]; simp
      rw [hl]; clear hl
      go_enter Tryd.func82, Tryd.ntmps82
      go_wp2
      go_ret
      exact ⟨rfl, rfl⟩
  · have hne := empty_of s (by omega)
    have hl : isNameB s.data.toList = false := by
      unfold isNameB
      rw [← ByteArray.toList_eq, hne]; rfl
    rw [hl]; clear hl
    go_enter Tryd.func82, Tryd.ntmps82
    go_wp2
    go_ret
    exact ⟨rfl, rfl⟩
end Go.Proofs.YteikdgjlhdgapaaDoor
namespace Go.Proofs.YteikdgjlhdgapaaDoor
open Go.RowKit
theorem inner_iff (c : UInt8) : innerB c = true ↔ (97 ≤ (c.toNat : Int) ∧ (c.toNat : Int) ≤ 122) ∨ (65 ≤ (c.toNat : Int) ∧ (c.toNat : Int) ≤ 90) ∨ (48 ≤ (c.toNat : Int) ∧ (c.toNat : Int) ≤ 57) ∨ (c.toNat : Int) = 95 := by
  unfold innerB smallB capitalB digitB
  simp only [Bool.or_eq_true, Bool.and_eq_true, decide_eq_true_eq, beq_iff_eq]
  omega
theorem name_false_of (s : ByteArray) (k : Nat) (hk : k < s.size) (h : innerB s[k] = false) : isNameB s.data.toList = false := by
  have h2 : s.data.toList.all innerB = false := by
    rw [List.all_eq_false]
    exact ⟨s[k], by
      have : s.data.toList[k]'(by simpa using hk) ∈ s.data.toList := List.getElem_mem _
      exact this, by simp [h]⟩
  unfold isNameB
  rw [h2]; simp
theorem name_false_head (s : ByteArray) (h0 : 0 < s.size) (h : smallB s[0] = false) : isNameB s.data.toList = false := by
  unfold isNameB
  rw [head_of s h0, h]; simp
theorem name_false_size (s : ByteArray) (h0 : s.size < 1 ∨ 16 < s.size) : isNameB s.data.toList = false := by
  have h5 : s.data.toList.length = s.size := by simp
  unfold isNameB
  rcases h0 with h0 | h0
  · rw [List.eq_nil_of_length_eq_zero (l := s.data.toList) (by omega)]; rfl
  · rw [decide_eq_false (by omega)]; simp
theorem name_true_of (s : ByteArray) (h0 : 0 < s.size) (h16 : s.size ≤ 16) (hs : smallB s[0] = true) (ha : (s.data.toList.take s.size).all innerB = true) : isNameB s.data.toList = true := by
  have h5 : s.data.toList.length = s.size := by simp
  rw [List.take_of_length_le (by omega)] at ha
  unfold isNameB
  rw [head_of s h0, hs, ha, ← ByteArray.toList_eq, nonempty_of s h0, ByteArray.toList_eq, decide_eq_true (by omega)]; rfl

end Go.Proofs.YteikdgjlhdgapaaDoor
