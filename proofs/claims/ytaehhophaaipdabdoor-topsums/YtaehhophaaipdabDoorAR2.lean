/- Contracts of the operators: what each makes of numbers. -/
import Derived.Test.YtaehhophaaipdabDoorAR1
namespace Go.Proofs.YtaehhophaaipdabDoor
open Go.RowKit
def okI (x : Int) : Prop := -2147483648 ≤ x ∧ x ≤ 2147483648
def divF (a b : Int) : Int := if a.tmod b ≠ 0 ∧ ((decide (a < 0)) != (decide (b < 0))) = true then a.tdiv b - 1 else a.tdiv b
theorem mul_bd {a b : Int} (ha : okI a) (hb : okI b) : -4611686018427387904 ≤ a * b ∧ a * b ≤ 4611686018427387904 := by
  have h1 : a.natAbs ≤ 2147483648 := by unfold okI at ha; omega
  have h2 : b.natAbs ≤ 2147483648 := by unfold okI at hb; omega
  have h3 : (a * b).natAbs ≤ 2147483648 * 2147483648 := by
    rw [Int.natAbs_mul]
    exact Nat.mul_le_mul h1 h2
  omega
theorem tdiv_bd {a b : Int} (ha : okI a) : -2147483648 ≤ a.tdiv b ∧ a.tdiv b ≤ 2147483648 := by
  have h1 : (a.tdiv b).natAbs ≤ a.natAbs := by
    rw [Int.natAbs_tdiv]
    exact Nat.div_le_self _ _
  unfold okI at ha
  omega
set_option maxRecDepth 100000 in
theorem h52 (a b : Int) (w : World) (ha : okI a) (hb : okI b) : Calls Tryd.prog 38 #[.int .i64 a, .int .i64 b] w fun e w' => e = .returned (.int .i64 (a + b)) ∧ w' = w := by
  unfold okI at *
  obtain ⟨a1, a2⟩ := ha
  obtain ⟨b1, b2⟩ := hb
  go_enter Tryd.func38, Tryd.ntmps38
  go_wp2_with fail
  go_ret
  exact ⟨rfl, rfl⟩
set_option maxRecDepth 100000 in
theorem h53 (a b : Int) (w : World) (ha : okI a) (hb : okI b) : Calls Tryd.prog 39 #[.int .i64 a, .int .i64 b] w fun e w' => e = .returned (.int .i64 (a - b)) ∧ w' = w := by
  unfold okI at *
  obtain ⟨a1, a2⟩ := ha
  obtain ⟨b1, b2⟩ := hb
  go_enter Tryd.func39, Tryd.ntmps39
  go_wp2_with fail
  go_ret
  exact ⟨rfl, rfl⟩
set_option maxRecDepth 100000 in
theorem h54 (a b : Int) (w : World) (ha : okI a) (hb : okI b) : Calls Tryd.prog 40 #[.int .i64 a, .int .i64 b] w fun e w' => e = .returned (.int .i64 (a * b)) ∧ w' = w := by
  obtain ⟨m1, m2⟩ := mul_bd ha hb
  clear ha hb
  go_enter Tryd.func40, Tryd.ntmps40
  go_wp2_with fail
  go_ret
  exact ⟨rfl, rfl⟩
set_option maxRecDepth 100000 in
theorem h58 (a b : Int) (w : World) : Calls Tryd.prog 44 #[.int .i64 a, .int .i64 b] w fun e w' => e = .returned (.int .i64 (if b < a then b else a)) ∧ w' = w := by
  by_cases h : b < a
  · rw [if_pos h]
    go_enter Tryd.func44, Tryd.ntmps44
    go_wp2_with fail
    go_ret
    exact ⟨rfl, rfl⟩
  · rw [if_neg h]
    go_enter Tryd.func44, Tryd.ntmps44
    go_wp2_with fail
    go_ret
    exact ⟨rfl, rfl⟩
set_option maxRecDepth 100000 in
theorem h59 (a b : Int) (w : World) : Calls Tryd.prog 45 #[.int .i64 a, .int .i64 b] w fun e w' => e = .returned (.int .i64 (if a < b then b else a)) ∧ w' = w := by
  by_cases h : a < b
  · rw [if_pos h]
    go_enter Tryd.func45, Tryd.ntmps45
    go_wp2_with fail
    go_ret
    exact ⟨rfl, rfl⟩
  · rw [if_neg h]
    go_enter Tryd.func45, Tryd.ntmps45
    go_wp2_with fail
    go_ret
    exact ⟨rfl, rfl⟩
set_option maxRecDepth 100000 in
theorem h56 (a b : Int) (w : World) (ha : okI a) (h0 : b ≠ 0) : Calls Tryd.prog 42 #[.int .i64 a, .int .i64 b] w fun e w' => e = .returned (.int .i64 (divF a b)) ∧ w' = w := by
  obtain ⟨t1, t2⟩ := tdiv_bd (b := b) ha
  have HD : divF a b = if a.tmod b ≠ 0 ∧ ((decide (a < 0)) != (decide (b < 0))) = true then a.tdiv b - 1 else a.tdiv b := rfl
  clear ha
  by_cases hr : a.tmod b = 0
  · rw [if_neg (fun h => h.1 hr)] at HD
    rw [HD]
    clear HD
    go_enter Tryd.func42, Tryd.ntmps42
    go_wp2_with fail
    go_ret
    exact ⟨rfl, rfl⟩
  · have hq : (a.tmod b != 0) = true := by simpa using hr
    cases hs : ((decide (a < 0)) != (decide (b < 0)))
    · rw [if_neg (fun h => by rw [hs] at h; cases h.2)] at HD
      rw [HD]
      have hs' : (!decide (a < 0) == decide (b < 0)) = false := hs
      clear HD
      go_enter Tryd.func42, Tryd.ntmps42
      go_wp2_with fail
      go_ret
      exact ⟨rfl, rfl⟩
    · rw [if_pos ⟨hr, hs⟩] at HD
      rw [HD]
      have hs' : (!decide (a < 0) == decide (b < 0)) = true := hs
      clear HD
      go_enter Tryd.func42, Tryd.ntmps42
      go_wp2_with fail
      go_ret
      exact ⟨rfl, rfl⟩
theorem divF_bd {a b : Int} (ha : okI a) : -2147483649 ≤ divF a b ∧ divF a b ≤ 2147483648 := by
  obtain ⟨t1, t2⟩ := tdiv_bd (b := b) ha
  unfold divF
  split <;> omega
/-- What is left by divF. -/
def modF (a b : Int) : Int := a - b * divF a b
theorem modF_eq (a b : Int) : modF a b = if a.tmod b ≠ 0 ∧ ((decide (a < 0)) != (decide (b < 0))) = true then a.tmod b + b else a.tmod b := by
  have h := Int.tmod_def a b
  unfold modF divF
  have e : b * (a.tdiv b - 1) = b * a.tdiv b - b := by rw [Int.mul_sub, Int.mul_one]
  split
  · rw [e]; omega
  · omega
theorem mul_divF_bd {a b : Int} (ha : okI a) (hb : okI b) : -9000000000000000000 ≤ b * divF a b ∧ b * divF a b ≤ 9000000000000000000 := by
  obtain ⟨d1, d2⟩ := divF_bd (b := b) ha
  have h1 : b.natAbs ≤ 2147483648 := by unfold okI at hb; omega
  have h2 : (divF a b).natAbs ≤ 2147483649 := by omega
  have h3 : (b * divF a b).natAbs ≤ 2147483648 * 2147483649 := by
    rw [Int.natAbs_mul]
    exact Nat.mul_le_mul h1 h2
  omega
set_option maxRecDepth 100000 in
theorem h57 (a b : Int) (w : World) (ha : okI a) (hb : okI b) (h0 : b ≠ 0) : Calls Tryd.prog 43 #[.int .i64 a, .int .i64 b] w fun e w' => e = .returned (.int .i64 (modF a b)) ∧ w' = w := by
  have H56 := h56 a b w ha h0
  obtain ⟨m1, m2⟩ := mul_divF_bd ha hb
  have HM : modF a b = a - b * divF a b := rfl
  rw [HM]
  unfold okI at ha
  obtain ⟨a1, a2⟩ := ha
  clear HM hb
  generalize divF a b = q at *
  go_enter Tryd.func43, Tryd.ntmps43
  go_wp2_with fail
  refine H56.mono ?_
  rintro e w1 ⟨rfl, hw⟩
  obtain rfl := hw
  go_wp2_with fail
  go_ret
  exact ⟨rfl, rfl⟩
end Go.Proofs.YtaehhophaaipdabDoor
