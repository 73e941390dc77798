/- Contracts of the two IsName functions: each returns whether the text is a name, and changes nothing. Contract of the reference IsName: it returns whether the text is a name, and changes nothing. Contracts of the closures of the table of rules. -/
import Derived.Test.YtljggjllijacjaaGreatDoorW1g
namespace Go.Proofs.YtljggjllijacjaaGreatDoor
open Go.RowKit

/-- A name of atoms and structures. -/
def isNameB (l : List UInt8) : Bool := !l.isEmpty && decide (l.length ≤ 16) && smallB (l.headD 0) && l.all innerB

theorem nonempty_of (s : ByteArray) (h : 0 < s.size) : s.toList.isEmpty = false := by
  rw [ByteArray.toList_eq, List.isEmpty_eq_false_iff]
  intro h2
  have h3 : s.data.toList.length = 0 := by rw [h2]; rfl
  have h4 : s.data.toList.length = s.size := by simp
  omega
theorem empty_of (s : ByteArray) (h : s.size = 0) : s.toList.isEmpty = true := by
  rw [ByteArray.toList_eq, List.isEmpty_iff]
  exact List.eq_nil_of_length_eq_zero (by simpa using h)
theorem head_of (s : ByteArray) (h : 0 < s.size) : s.data.toList.headD 0 = s[0] := by
  have e : s.data.toList = s.data.toList[0]'(by simpa using h) :: s.data.toList.tail := by
    rw [← List.head_eq_getElem (l := s.data.toList) (by intro h2; have h3 : s.data.toList.length = 0 := by rw [h2]; rfl
                                                        have h4 : s.data.toList.length = s.size := by simp
                                                        omega)]
    simp
  rw [e]; rfl
theorem runB_len (l : List UInt8) : (((runB l : Nat) : Int) == (l.length : Int)) = l.all innerB := by
  cases h : l.all innerB
  · simp
    unfold runB
    intro h2
    have h3 : ∀ m : List UInt8, (m.takeWhile innerB).length = m.length → m.all innerB = true := by
      intro m
      induction m with
      | nil => simp
      | cons a r ih =>
        by_cases ha : innerB a
        · simp [ha] at *; exact ih
        · simp [ha]
    rw [h3 l (by omega)] at h
    cases h
  · rw [runB_all l h]; simp

set_option maxHeartbeats 400000 in
theorem c39 (s : ByteArray) (w : World) (hs : s.size ≤ maxLen) :
    Calls Tryz.prog 124 #[.string s] w fun e w' => e = .returned (.bool (isNameB s.data.toList)) ∧ w' = w := by
  have H59 : Hid (∀ w, Calls Tryz.prog 142 #[.string s, .func (.func 143) #[] #[]] w fun e w' => e = .returned (.int .i64 (runB s.data.toList)) ∧ w' = w) := fun w => c59 s w hs
  unfold maxLen at hs
  by_cases h0 : 0 < s.size
  · have hne := nonempty_of s h0
    by_cases h16 : (s.size : Int) ≤ 16
    · have H58 := c58 s[0]
      have hl : isNameB s.data.toList = (smallB s[0] && s.data.toList.all innerB) := by
        unfold isNameB
        rw [head_of s h0, ← ByteArray.toList_eq, hne]
        have : s.toList.length ≤ 16 := by rw [ByteArray.toList_eq]; simp; omega
        simp [this]
      rw [hl]; clear hl
      have hrl := runB_len s.data.toList
      generalize smallB s[0] = b at *
      generalize s.data.toList.all innerB = r at *
      generalize runB s.data.toList = m at *
      have H58 : Hid (∀ w, Calls Tryz.prog 141 #[.int .u8 (s[0].toNat : Int)] w fun e w' => e = .returned (.bool b) ∧ w' = w) := H58
      have hrl : (((m : Nat) : Int) == (s.size : Int)) = r := by simpa using hrl
      cases b
      · go_enter Tryz.func124, Tryz.ntmps124
        go_wp2_with (first | (go_at_call 141; refine (H58.out _).mono ?_; rintro e w' ⟨rfl, rfl⟩) | (go_at_call 142; refine (H59.out _).mono ?_; rintro e w' ⟨rfl, rfl⟩))
        go_ret
        exact ⟨rfl, rfl⟩
      · go_enter Tryz.func124, Tryz.ntmps124
        go_wp2_with (first | (go_at_call 141; refine (H58.out _).mono ?_; rintro e w' ⟨rfl, rfl⟩) | (go_at_call 142; refine (H59.out _).mono ?_; rintro e w' ⟨rfl, rfl⟩))
        go_ret
        exact ⟨rfl, rfl⟩
    · have hl : isNameB s.data.toList = false := by
        unfold isNameB
        have h4 : ¬ s.data.toList.length ≤ 16 := by
          have h5 : s.data.toList.length = s.size := by simp
          omega
        rw [decide_eq_false h4]; simp
      rw [hl]; clear hl
      go_enter Tryz.func124, Tryz.ntmps124
      go_wp2
      go_ret
      exact ⟨rfl, rfl⟩
  · have hne := empty_of s (by omega)
    have hl : isNameB s.data.toList = false := by
      unfold isNameB
      rw [← ByteArray.toList_eq, hne]; rfl
    rw [hl]; clear hl
    go_enter Tryz.func124, Tryz.ntmps124
    go_wp2
    go_ret
    exact ⟨rfl, rfl⟩
end Go.Proofs.YtljggjllijacjaaGreatDoor

namespace Go.Proofs.YtljggjllijacjaaGreatDoor
open Go.RowKit
theorem inner_iff (c : UInt8) : innerB c = true ↔ (97 ≤ (c.toNat : Int) ∧ (c.toNat : Int) ≤ 122) ∨ (65 ≤ (c.toNat : Int) ∧ (c.toNat : Int) ≤ 90) ∨ (48 ≤ (c.toNat : Int) ∧ (c.toNat : Int) ≤ 57) ∨ (c.toNat : Int) = 95 := by
  unfold innerB smallB capitalB digitB
  simp only [Bool.or_eq_true, Bool.and_eq_true, decide_eq_true_eq, beq_iff_eq]
  omega
theorem name_false_of (s : ByteArray) (k : Nat) (hk : k < s.size) (h : innerB s[k] = false) : isNameB s.data.toList = false := by
  have h2 : s.data.toList.all innerB = false := by
    rw [List.all_eq_false]
    exact ⟨s[k], by
      have : s.data.toList[k]'(by simpa using hk) ∈ s.data.toList := List.getElem_mem _
      exact this, by simp [h]⟩
  unfold isNameB
  rw [h2]; simp
theorem name_false_head (s : ByteArray) (h0 : 0 < s.size) (h : smallB s[0] = false) : isNameB s.data.toList = false := by
  unfold isNameB
  rw [head_of s h0, h]; simp
theorem name_false_size (s : ByteArray) (h0 : s.size < 1 ∨ 16 < s.size) : isNameB s.data.toList = false := by
  have h5 : s.data.toList.length = s.size := by simp
  unfold isNameB
  rcases h0 with h0 | h0
  · rw [List.eq_nil_of_length_eq_zero (l := s.data.toList) (by omega)]; rfl
  · rw [decide_eq_false (by omega)]; simp
theorem name_true_of (s : ByteArray) (h0 : 0 < s.size) (h16 : s.size ≤ 16) (hs : smallB s[0] = true) (ha : (s.data.toList.take s.size).all innerB = true) : isNameB s.data.toList = true := by
  have h5 : s.data.toList.length = s.size := by simp
  rw [List.take_of_length_le (by omega)] at ha
  unfold isNameB
  rw [head_of s h0, hs, ha, ← ByteArray.toList_eq, nonempty_of s h0, ByteArray.toList_eq, decide_eq_true (by omega)]; rfl

set_option maxHeartbeats 1000000 in
theorem c40 (s : ByteArray) (w : World) (hs : s.size ≤ maxLen) :
    Calls Tryz.prog 102 #[.string s] w fun e w' => e = .returned (.bool (isNameB s.data.toList)) ∧ w' = w := by
  unfold maxLen at hs
  by_cases h0 : (s.size : Int) < 1
  · rw [name_false_size s (by omega)]
    go_enter Tryz.func102, Tryz.ntmps102
    go_wp2
    go_ret
    exact ⟨rfl, rfl⟩
  by_cases h16 : 16 < (s.size : Int)
  · rw [name_false_size s (by omega)]
    go_enter Tryz.func102, Tryz.ntmps102
    go_wp2
    go_ret
    exact ⟨rfl, rfl⟩
  by_cases ha : (s[0].toNat : Int) < 97
  · rw [name_false_head s (by omega) (by unfold smallB; rw [decide_eq_false (by omega)]; rfl)]
    go_enter Tryz.func102, Tryz.ntmps102
    go_wp2
    go_ret
    exact ⟨rfl, rfl⟩
  by_cases hz : 122 < (s[0].toNat : Int)
  · rw [name_false_head s (by omega) (by unfold smallB; rw [decide_eq_false (p := (s[0].toNat : Int) ≤ 122) (by omega)]; simp)]
    go_enter Tryz.func102, Tryz.ntmps102
    go_wp2
    go_ret
    exact ⟨rfl, rfl⟩
  have hsm : Hid (smallB s[0] = true) := by
    show smallB s[0] = true
    unfold smallB; rw [decide_eq_true (by omega), decide_eq_true (by omega)]; rfl
  go_enter Tryz.func102, Tryz.ntmps102
  go_wp2
  go_loop [3] (fun i => ∃ k : Nat, k ≤ s.size ∧ i = .int .i64 k ∧ Hid ((s.data.toList.take k).all innerB = true)) (fun i => s.size - (intOf i).toNat)
  case atStart => exact ⟨0, Nat.zero_le _, rfl, rfl⟩
  case round =>
    obtain ⟨k, hk, rfl, hall⟩ := hrel
    by_cases hlt : k < s.size
    · have hI : Hid (innerB s[k] = true ↔ _) := inner_iff s[k]
      go_wp2
      all_goals first
        | (go_ret; refine ⟨?_, rfl⟩; rw [name_false_of s k hlt (by rw [Bool.eq_false_iff]; intro h; have := hI.out.1 h; simp_all; omega)]; rfl)
        | (go_round
           case rel => exact ⟨k + 1, by omega, by go_num, all_snoc s k hlt hall.out (hI.out.2 (by first | omega | (simp_all; done) | (simp_all; omega)))⟩
           case measure => simp [intOf]; omega)
    · have hrun : Hid (isNameB s.data.toList = true) := name_true_of s (by omega) (by omega) hsm.out (by
        have h1 := hall.out
        rw [show k = s.size by omega] at h1; exact h1)
      go_wp2
      go_ret
      exact ⟨by rw [hrun.out]; rfl, rfl⟩
end Go.Proofs.YtljggjllijacjaaGreatDoor

namespace Go.Proofs.YtljggjllijacjaaGreatDoor
open Go.RowKit
/-- How many arguments a cell asks for. -/
def argsOf (k n : Int) : Int := if k = 3 then max n 0 else 0
set_option maxHeartbeats 400000 in
theorem c50 (k : Int) (t : ByteArray) (n vn vk : Int) (w : World) :
    Calls Tryz.prog 112 #[.agg #[.int .u8 k, .string t, .int .i64 n, .int .i64 vn, .int .i64 vk]] w fun e w' => e = .returned (.int .i64 (argsOf k n)) ∧ Below w.heap.size w w' := by
  by_cases h : k = 3
  · subst h
    by_cases hn : n < 0
    · have hb : argsOf 3 n = 0 := by simp [argsOf]; omega
      rw [hb]; clear hb
      go_enter Tryz.func112, Tryz.ntmps112
      go_wp2
      go_ret
      exact ⟨rfl, by repeat (first | exact Below.refl _ _ | refine Below.drew ?_ | refine Below.alloc ?_ (by simp) _)⟩
    · have hb : argsOf 3 n = n := by simp [argsOf]; omega
      rw [hb]; clear hb
      go_enter Tryz.func112, Tryz.ntmps112
      go_wp2
      go_ret
      exact ⟨rfl, by repeat (first | exact Below.refl _ _ | refine Below.drew ?_ | refine Below.alloc ?_ (by simp) _)⟩
  · have h1 : (k == 3) = false := by simp [h]
    have hb : argsOf k n = 0 := by simp [argsOf, h]
    rw [hb]; clear hb
    go_enter Tryz.func112, Tryz.ntmps112
    go_wp2
    go_ret
    exact ⟨rfl, by repeat (first | exact Below.refl _ _ | refine Below.drew ?_ | refine Below.alloc ?_ (by simp) _)⟩
def between (lo hi n : Int) : Bool := decide (lo ≤ n) && decide (n ≤ hi)
set_option maxHeartbeats 400000 in
theorem c78 (lo hi n : Int) (w : World) (a b : Nat) (ha : w.cell? ⟨a, 0, none⟩ = some (.int .i64 lo)) (hb : w.cell? ⟨b, 0, none⟩ = some (.int .i64 hi)) :
    Calls Tryz.prog 140 #[.int .i64 n, .pointer (some ⟨a, 0, none⟩), .pointer (some ⟨b, 0, none⟩)] w fun e w' => e = .returned (.bool (between lo hi n)) ∧ w' = w := by
  by_cases h : lo ≤ n
  · have hb : between lo hi n = decide (n ≤ hi) := by simp [between, h]
    rw [hb]; clear hb
    go_enter Tryz.func140, Tryz.ntmps140
    go_wp2
    go_ret
    exact ⟨rfl, rfl⟩
  · have hb : between lo hi n = false := by unfold between; rw [decide_eq_false h]; rfl
    rw [hb]; clear hb
    go_enter Tryz.func140, Tryz.ntmps140
    go_wp2
    go_ret
    exact ⟨rfl, rfl⟩
set_option maxHeartbeats 400000 in
theorem c68 (lo hi : Int) (w : World) :
    Calls Tryz.prog 119 #[.int .i64 lo, .int .i64 hi] w fun e w' => e = .returned (.func (.func 140) #[] #[.pointer (some ⟨w.heap.size, 0, none⟩), .pointer (some ⟨w.heap.size+1, 0, none⟩)]) ∧ w' = (w.alloc (.cells #[.int .i64 lo] 3)).alloc (.cells #[.int .i64 hi] 3) := by
  have hmf : ∀ (fn : Fn) (first cap : Array Value) (w : World), (Instr.makeFunc fn first cap).run Tryz.prog w = .ok (.func fn first cap) w := fun _ _ _ _ => rfl
  go_enter Tryz.func119, Tryz.ntmps119
  go_wp2
  go_ret
  exact ⟨rfl, rfl⟩
set_option maxHeartbeats 400000 in
theorem c69 (k : Int) (t : ByteArray) (n vn vk : Int) (w : World) :
    Calls Tryz.prog 120 #[.agg #[.int .u8 k, .string t, .int .i64 n, .int .i64 vn, .int .i64 vk]] w fun e w' => e = .returned (.agg #[.int .u8 k, .string ⟨#[]⟩, .int .i64 n, .int .i64 0, .int .i64 0]) ∧ Below w.heap.size w w' := by
  go_enter Tryz.func120, Tryz.ntmps120
  go_wp2
  exact bodyPost_ret (v := .agg #[.int .u8 k, .string ⟨#[]⟩, .int .i64 n, .int .i64 0, .int .i64 0]) (by simp [results, Tryz.results120, go_sem]) rfl ⟨rfl, by repeat (first | exact Below.refl _ _ | refine Below.drew ?_ | refine Below.alloc ?_ (by simp) _)⟩
set_option maxHeartbeats 400000 in
theorem c71 (k : Int) (t : ByteArray) (n vn vk : Int) (w : World) :
    Calls Tryz.prog 122 #[.agg #[.int .u8 k, .string t, .int .i64 n, .int .i64 vn, .int .i64 vk]] w fun e w' => e = .returned (.agg #[.int .u8 k, .string t, .int .i64 0, .int .i64 0, .int .i64 0]) ∧ Below w.heap.size w w' := by
  go_enter Tryz.func122, Tryz.ntmps122
  go_wp2
  exact bodyPost_ret (v := .agg #[.int .u8 k, .string t, .int .i64 0, .int .i64 0, .int .i64 0]) (by simp [results, Tryz.results122, go_sem]) rfl ⟨rfl, by repeat (first | exact Below.refl _ _ | refine Below.drew ?_ | refine Below.alloc ?_ (by simp) _)⟩
set_option maxHeartbeats 400000 in
theorem c73 (k : Int) (t : ByteArray) (n vn vk : Int) (w : World) :
    Calls Tryz.prog 125 #[.agg #[.int .u8 k, .string t, .int .i64 n, .int .i64 vn, .int .i64 vk]] w fun e w' => e = .returned (.agg #[.int .u8 k, .string t, .int .i64 n, .int .i64 0, .int .i64 0]) ∧ Below w.heap.size w w' := by
  go_enter Tryz.func125, Tryz.ntmps125
  go_wp2
  exact bodyPost_ret (v := .agg #[.int .u8 k, .string t, .int .i64 n, .int .i64 0, .int .i64 0]) (by simp [results, Tryz.results125, go_sem]) rfl ⟨rfl, by repeat (first | exact Below.refl _ _ | refine Below.drew ?_ | refine Below.alloc ?_ (by simp) _)⟩
set_option maxHeartbeats 400000 in
theorem c76 (k : Int) (t : ByteArray) (n vn vk : Int) (w : World) :
    Calls Tryz.prog 128 #[.agg #[.int .u8 k, .string t, .int .i64 n, .int .i64 vn, .int .i64 vk]] w fun e w' => e = .returned (.agg #[.int .u8 k, .string ⟨#[]⟩, .int .i64 0, .int .i64 vn, .int .i64 vk]) ∧ Below w.heap.size w w' := by
  go_enter Tryz.func128, Tryz.ntmps128
  go_wp2
  exact bodyPost_ret (v := .agg #[.int .u8 k, .string ⟨#[]⟩, .int .i64 0, .int .i64 vn, .int .i64 vk]) (by simp [results, Tryz.results128, go_sem]) rfl ⟨rfl, by repeat (first | exact Below.refl _ _ | refine Below.drew ?_ | refine Below.alloc ?_ (by simp) _)⟩

/-- A variable that holds the function 'between lo and hi'. -/
def HoldsBetween (w : World) (r : Nat) (lo hi : Int) : Prop :=
  ∃ a b : Nat, w.cell? ⟨r, 0, none⟩ = some (.func (.func 140) #[] #[.pointer (some ⟨a, 0, none⟩), .pointer (some ⟨b, 0, none⟩)]) ∧ w.cell? ⟨a, 0, none⟩ = some (.int .i64 lo) ∧ w.cell? ⟨b, 0, none⟩ = some (.int .i64 hi) ∧ r < w.heap.size ∧ a < w.heap.size ∧ b < w.heap.size
theorem HoldsBetween.below {w w' : World} {r : Nat} {lo hi : Int} (h : HoldsBetween w r lo hi) (hb : Below w.heap.size w w') : HoldsBetween w' r lo hi := by
  obtain ⟨a, b, h1, h2, h3, h4, h5, h6⟩ := h
  have := hb.size
  exact ⟨a, b, (hb.cell (p := ⟨r, 0, none⟩) h4).trans h1, (hb.cell (p := ⟨a, 0, none⟩) h5).trans h2, (hb.cell (p := ⟨b, 0, none⟩) h6).trans h3, by omega, by omega, by omega⟩

end Go.Proofs.YtljggjllijacjaaGreatDoor
