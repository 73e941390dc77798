/- Contracts of the operators: what each makes of numbers. Contracts of the operators' closures. Contracts of result and operators. Contract of Reckon.  isLocal and Global: a range over the iterator. -/
import Derived.Test.YteikdgjlhdgapaaDoorQ10
import Derived.Deep.RegionHeld3
import Derived.Laws.EntriesVeiled
import Derived.RangeFuncNested
import Derived.RangeFuncBound
import Derived.RangeFuncCalls
import Derived.RangeFuncLeaves
import Derived.Shelf.Abstract
import Derived.Shelf.RegionOpen
import Derived.OwnWalkIn
import Derived.TacticsInMore
import Derived.LoopNIn
import Derived.LoopIn
import Derived.Sort.EveryDepth
namespace Go.Proofs.YteikdgjlhdgapaaDoor
open Go.RowKit
def okI (x : Int) : Prop := -2147483648 ≤ x ∧ x ≤ 2147483648
def divF (a b : Int) : Int := if a.tmod b ≠ 0 ∧ ((decide (a < 0)) != (decide (b < 0))) = true then a.tdiv b - 1 else a.tdiv b
theorem mul_bd {a b : Int} (ha : okI a) (hb : okI b) : -4611686018427387904 ≤ a * b ∧ a * b ≤ 4611686018427387904 := by
  have h1 : a.natAbs ≤ 2147483648 := by unfold okI at ha; omega
  have h2 : b.natAbs ≤ 2147483648 := by unfold okI at hb; omega
  have h3 : (a * b).natAbs ≤ 2147483648 * 2147483648 := by
    rw [Int.natAbs_mul]
    exact Nat.mul_le_mul h1 h2
  omega
theorem tdiv_bd {a b : Int} (ha : okI a) : -2147483648 ≤ a.tdiv b ∧ a.tdiv b ≤ 2147483648 := by
  have h1 : (a.tdiv b).natAbs ≤ a.natAbs := by
    rw [Int.natAbs_tdiv]
    exact Nat.div_le_self _ _
  unfold okI at ha
  omega
set_option maxRecDepth 100000 in
theorem h52 (a b : Int) (w : World) (ha : okI a) (hb : okI b) : Calls Tryd.prog 52 #[.int .i64 a, .int .i64 b] w fun e w' => e = .returned (.int .i64 (a + b)) ∧ w' = w := by
  unfold okI at *
  obtain ⟨a1, a2⟩ := ha
  obtain ⟨b1, b2⟩ := hb
  go_enter Tryd.func52, Tryd.ntmps52
  go_wp2_with fail
  go_ret
  exact ⟨rfl, rfl⟩
set_option maxRecDepth 100000 in
theorem h53 (a b : Int) (w : World) (ha : okI a) (hb : okI b) : Calls Tryd.prog 53 #[.int .i64 a, .int .i64 b] w fun e w' => e = .returned (.int .i64 (a - b)) ∧ w' = w := by
  unfold okI at *
  obtain ⟨a1, a2⟩ := ha
  obtain ⟨b1, b2⟩ := hb
  go_enter Tryd.func53, Tryd.ntmps53
  go_wp2_with fail
  go_ret
  exact ⟨rfl, rfl⟩
set_option maxRecDepth 100000 in
theorem h54 (a b : Int) (w : World) (ha : okI a) (hb : okI b) : Calls Tryd.prog 54 #[.int .i64 a, .int .i64 b] w fun e w' => e = .returned (.int .i64 (a * b)) ∧ w' = w := by
  obtain ⟨m1, m2⟩ := mul_bd ha hb
  clear ha hb
  go_enter Tryd.func54, Tryd.ntmps54
  go_wp2_with fail
  go_ret
  exact ⟨rfl, rfl⟩
set_option maxRecDepth 100000 in
theorem h58 (a b : Int) (w : World) : Calls Tryd.prog 58 #[.int .i64 a, .int .i64 b] w fun e w' => e = .returned (.int .i64 (if b < a then b else a)) ∧ w' = w := by
  by_cases h : b < a
  · rw [if_pos h]
    go_enter Tryd.func58, Tryd.ntmps58
    go_wp2_with fail
    go_ret
    exact ⟨rfl, rfl⟩
  · rw [if_neg h]
    go_enter Tryd.func58, Tryd.ntmps58
    go_wp2_with fail
    go_ret
    exact ⟨rfl, rfl⟩
set_option maxRecDepth 100000 in
theorem h59 (a b : Int) (w : World) : Calls Tryd.prog 59 #[.int .i64 a, .int .i64 b] w fun e w' => e = .returned (.int .i64 (if a < b then b else a)) ∧ w' = w := by
  by_cases h : a < b
  · rw [if_pos h]
    go_enter Tryd.func59, Tryd.ntmps59
    go_wp2_with fail
    go_ret
    exact ⟨rfl, rfl⟩
  · rw [if_neg h]
    go_enter Tryd.func59, Tryd.ntmps59
    go_wp2_with fail
    go_ret
    exact ⟨rfl, rfl⟩
set_option maxRecDepth 100000 in
theorem h56 (a b : Int) (w : World) (ha : okI a) (h0 : b ≠ 0) : Calls Tryd.prog 56 #[.int .i64 a, .int .i64 b] w fun e w' => e = .returned (.int .i64 (divF a b)) ∧ w' = w := by
  obtain ⟨t1, t2⟩ := tdiv_bd (b := b) ha
  have HD : divF a b = if a.tmod b ≠ 0 ∧ ((decide (a < 0)) != (decide (b < 0))) = true then a.tdiv b - 1 else a.tdiv b := rfl
  clear ha
  by_cases hr : a.tmod b = 0
  · rw [if_neg (fun h => h.1 hr)] at HD
    rw [HD]
    clear HD
    go_enter Tryd.func56, Tryd.ntmps56
    go_wp2_with fail
    go_ret
    exact ⟨rfl, rfl⟩
  · have hq : (a.tmod b != 0) = true := by simpa using hr
    cases hs : ((decide (a < 0)) != (decide (b < 0)))
    · rw [if_neg (fun h => by rw [hs] at h; cases h.2)] at HD
      rw [HD]
      have hs' : (!decide (a < 0) == decide (b < 0)) = false := hs
      clear HD
      go_enter Tryd.func56, Tryd.ntmps56
      go_wp2_with fail
      go_ret
      exact ⟨rfl, rfl⟩
    · rw [if_pos ⟨hr, hs⟩] at HD
      rw [HD]
      have hs' : (!decide (a < 0) == decide (b < 0)) = true := hs
      clear HD
      go_enter Tryd.func56, Tryd.ntmps56
      go_wp2_with fail
      go_ret
      exact ⟨rfl, rfl⟩
theorem divF_bd {a b : Int} (ha : okI a) : -2147483649 ≤ divF a b ∧ divF a b ≤ 2147483648 := by
  obtain ⟨t1, t2⟩ := tdiv_bd (b := b) ha
  unfold divF
  split <;> omega
/-- What is left by divF. -/
def modF (a b : Int) : Int := a - b * divF a b
theorem modF_eq (a b : Int) : modF a b = if a.tmod b ≠ 0 ∧ ((decide (a < 0)) != (decide (b < 0))) = true then a.tmod b + b else a.tmod b := by
  have h := Int.tmod_def a b
  unfold modF divF
  have e : b * (a.tdiv b - 1) = b * a.tdiv b - b := by rw [Int.mul_sub, Int.mul_one]
  split
  · rw [e]; omega
  · omega
theorem mul_divF_bd {a b : Int} (ha : okI a) (hb : okI b) : -9000000000000000000 ≤ b * divF a b ∧ b * divF a b ≤ 9000000000000000000 := by
  obtain ⟨d1, d2⟩ := divF_bd (b := b) ha
  have h1 : b.natAbs ≤ 2147483648 := by unfold okI at hb; omega
  have h2 : (divF a b).natAbs ≤ 2147483649 := by omega
  have h3 : (b * divF a b).natAbs ≤ 2147483648 * 2147483649 := by
    rw [Int.natAbs_mul]
    exact Nat.mul_le_mul h1 h2
  omega
set_option maxRecDepth 100000 in
theorem h57 (a b : Int) (w : World) (ha : okI a) (hb : okI b) (h0 : b ≠ 0) : Calls Tryd.prog 57 #[.int .i64 a, .int .i64 b] w fun e w' => e = .returned (.int .i64 (modF a b)) ∧ w' = w := by
  have H56 := h56 a b w ha h0
  obtain ⟨m1, m2⟩ := mul_divF_bd ha hb
  have HM : modF a b = a - b * divF a b := rfl
  rw [HM]
  unfold okI at ha
  obtain ⟨a1, a2⟩ := ha
  clear HM hb
  generalize divF a b = q at *
  go_enter Tryd.func57, Tryd.ntmps57
  go_wp2_with fail
  refine H56.mono ?_
  rintro e w1 ⟨rfl, hw⟩
  obtain rfl := hw
  go_wp2_with fail
  go_ret
  exact ⟨rfl, rfl⟩
end Go.Proofs.YteikdgjlhdgapaaDoor
namespace Go.Proofs.YteikdgjlhdgapaaDoor
open Go.RowKit
abbrev OpS (bx b o : Nat) (f : Nat) (x y : Int) (w' : World) : Prop :=
  w'.cell? ⟨bx, 0, none⟩ = some (.func (Fn.func f) #[] #[]) ∧ w'.cell? ⟨b, o, none⟩ = some (.int .i64 x) ∧ w'.cell? ⟨b, o + 1, none⟩ = some (.int .i64 y)
set_option maxRecDepth 100000 in
set_option maxHeartbeats 1000000 in
theorem h72_52 (bx b o cap : Nat) (x y n : Int) (w : World) (hS : OpS bx b o 52 x y w) (hf : ∀ W, Calls Tryd.prog 52 #[.int .i64 x, .int .i64 y] W fun e w' => e = .returned (.int .i64 n) ∧ w' = W) :
    Calls Tryd.prog 72 #[.slice (some ⟨b, o, none⟩) 2 cap, .pointer (some ⟨bx, 0, none⟩)] w fun e w' => e = .returned (.tuple #[.int .i64 n, .bool true]) ∧ Below w.heap.size w w' := by
  have Hf : Hid (∀ W, Calls Tryd.prog 52 #[.int .i64 x, .int .i64 y] W fun e w' => e = .returned (.int .i64 n) ∧ w' = W) := hf
  clear hf
  go_enter Tryd.func72, Tryd.ntmps72
  go_wp2_with fail
  refine wp_region_noPanic ?_
  refine wp_region_held_drew (S := fun w' => OpS bx b o 52 x y w') (by kernel_rfl) hS (fun hHeld => ?_)
  refine wpAnyH_take (i := 0) (v := ?_) (by simp only [List.getElem?_toArray, List.getElem?_cons_zero]; rfl) (by kernel_rfl) (by kernel_rfl) (by kernel_rfl) (fun _ _ _ h => h) (Or.inl ⟨by rfl, ?_⟩) (by assumption) ?_
  rotate_left
  · (intro w hSw; (try dsimp only at hSw); go_simp <;> with_reducible rfl)
  try simp only [Act.put, List.setIfInBounds_toArray, List.set_cons_zero, List.set_cons_succ]
  refine wpAnyH_take (i := 1) (v := ?_) (by simp only [List.getElem?_toArray, List.getElem?_cons_zero, List.getElem?_cons_succ]; rfl) (by kernel_rfl) (by kernel_rfl) (by kernel_rfl) (fun _ _ _ h => h) (Or.inl ⟨by rfl, ?_⟩) (by assumption) ?_
  rotate_left
  · (intro w hSw; (try dsimp only at hSw); go_simp <;> with_reducible rfl)
  try simp only [Act.put, List.setIfInBounds_toArray, List.set_cons_zero, List.set_cons_succ]
  refine wpAnyH_take (i := 2) (v := ?_) (by simp only [List.getElem?_toArray, List.getElem?_cons_zero, List.getElem?_cons_succ]; rfl) (by kernel_rfl) (by kernel_rfl) (by kernel_rfl) (fun _ _ _ h => h) (Or.inl ⟨by rfl, ?_⟩) (by assumption) ?_
  rotate_left
  · (intro w hSw; (try dsimp only at hSw); go_simp <;> with_reducible rfl)
  try simp only [Act.put, List.setIfInBounds_toArray, List.set_cons_zero, List.set_cons_succ]
  refine wpAnyH_take (i := 3) (v := ?_) (by simp only [List.getElem?_toArray, List.getElem?_cons_zero, List.getElem?_cons_succ]; rfl) (by kernel_rfl) (by kernel_rfl) (by kernel_rfl) (fun _ _ _ h => h) (Or.inl ⟨by rfl, ?_⟩) (by assumption) ?_
  rotate_left
  · (intro w hSw; (try dsimp only at hSw); go_simp <;> with_reducible rfl)
  try simp only [Act.put, List.setIfInBounds_toArray, List.set_cons_zero, List.set_cons_succ]
  refine wpAnyH_take (i := 4) (v := ?_) (by simp only [List.getElem?_toArray, List.getElem?_cons_zero, List.getElem?_cons_succ]; rfl) (by kernel_rfl) (by kernel_rfl) (by kernel_rfl) (fun _ _ _ h => h) (Or.inl ⟨by rfl, ?_⟩) (by assumption) ?_
  rotate_left
  · (intro w hSw; (try dsimp only at hSw); go_simp <;> with_reducible rfl)
  try simp only [Act.put, List.setIfInBounds_toArray, List.set_cons_zero, List.set_cons_succ]
  refine wpAnyH_take (i := 5) (v := ?_) (by simp only [List.getElem?_toArray, List.getElem?_cons_zero, List.getElem?_cons_succ]; rfl) (by kernel_rfl) (by kernel_rfl) (by kernel_rfl) (fun _ _ _ h => h) (Or.inl ⟨by rfl, ?_⟩) (by assumption) ?_
  rotate_left
  · (intro w hSw; (try dsimp only at hSw); go_simp <;> with_reducible rfl)
  try simp only [Act.put, List.setIfInBounds_toArray, List.set_cons_zero, List.set_cons_succ]
  refine wpAnyH_take (i := 6) (v := ?_) (by simp only [List.getElem?_toArray, List.getElem?_cons_zero, List.getElem?_cons_succ]; rfl) (by kernel_rfl) (by kernel_rfl) (by kernel_rfl) (fun _ _ _ h => h) (Or.inl ⟨by rfl, ?_⟩) (by assumption) ?_
  rotate_left
  · (intro w hSw; (try dsimp only at hSw); go_simp <;> with_reducible rfl)
  try simp only [Act.put, List.setIfInBounds_toArray, List.set_cons_zero, List.set_cons_succ]
  refine wpAnyH_ready (rs := [7]) (by kernel_rfl) (by simp) ?_
  refine AllReadyH.cons (by simp only [List.getElem?_toArray, List.getElem?_cons_zero, List.getElem?_cons_succ]; rfl) (fun K hK => ?_) AllReadyH.nil
  go_simp
  go_at_call 52
  refine (Hf.out _).mono ?_
  rintro e w5 ⟨rfl, hw5⟩
  obtain rfl := hw5
  refine hK.out _ _ ?_ (fun hHeld => ?_)
  · exact (by assumption)
  clear hK K
  try simp only [Act.put, List.setIfInBounds_toArray, List.set_cons_zero, List.set_cons_succ]
  refine wpAnyH_take (i := 8) (v := ?_) (by simp only [List.getElem?_toArray, List.getElem?_cons_zero, List.getElem?_cons_succ]; rfl) (by kernel_rfl) (by kernel_rfl) (by kernel_rfl) (fun _ _ _ h => h) (Or.inl ⟨by rfl, ?_⟩) (by assumption) ?_
  rotate_left
  · (intro w hSw; (try dsimp only at hSw); go_simp <;> with_reducible rfl)
  try simp only [Act.put, List.setIfInBounds_toArray, List.set_cons_zero, List.set_cons_succ]
  refine wpAnyH_take (i := 9) (v := ?_) (by simp only [List.getElem?_toArray, List.getElem?_cons_zero, List.getElem?_cons_succ]; rfl) (by kernel_rfl) (by kernel_rfl) (by kernel_rfl) (fun _ _ _ h => h) (Or.inl ⟨by rfl, ?_⟩) (by assumption) ?_
  rotate_left
  · (intro w hSw; (try dsimp only at hSw); go_simp <;> with_reducible rfl)
  try simp only [Act.put, List.setIfInBounds_toArray, List.set_cons_zero, List.set_cons_succ]
  refine wpAnyH_done (by kernel_rfl) ?_ _
  refine NoPanic.normal ?_
  clear hHeld hS
  go_wp2_with fail
  exact bodyPost_ret (v := .tuple #[.int .i64 n, .bool true]) (by simp [results, Tryd.results72, go_sem]) rfl ⟨rfl, Below.drew (Below.refl _ _)⟩
set_option maxRecDepth 100000 in
set_option maxHeartbeats 1000000 in
theorem h72_53 (bx b o cap : Nat) (x y n : Int) (w : World) (hS : OpS bx b o 53 x y w) (hf : ∀ W, Calls Tryd.prog 53 #[.int .i64 x, .int .i64 y] W fun e w' => e = .returned (.int .i64 n) ∧ w' = W) :
    Calls Tryd.prog 72 #[.slice (some ⟨b, o, none⟩) 2 cap, .pointer (some ⟨bx, 0, none⟩)] w fun e w' => e = .returned (.tuple #[.int .i64 n, .bool true]) ∧ Below w.heap.size w w' := by
  have Hf : Hid (∀ W, Calls Tryd.prog 53 #[.int .i64 x, .int .i64 y] W fun e w' => e = .returned (.int .i64 n) ∧ w' = W) := hf
  clear hf
  go_enter Tryd.func72, Tryd.ntmps72
  go_wp2_with fail
  refine wp_region_noPanic ?_
  refine wp_region_held_drew (S := fun w' => OpS bx b o 53 x y w') (by kernel_rfl) hS (fun hHeld => ?_)
  refine wpAnyH_take (i := 0) (v := ?_) (by simp only [List.getElem?_toArray, List.getElem?_cons_zero]; rfl) (by kernel_rfl) (by kernel_rfl) (by kernel_rfl) (fun _ _ _ h => h) (Or.inl ⟨by rfl, ?_⟩) (by assumption) ?_
  rotate_left
  · (intro w hSw; (try dsimp only at hSw); go_simp <;> with_reducible rfl)
  try simp only [Act.put, List.setIfInBounds_toArray, List.set_cons_zero, List.set_cons_succ]
  refine wpAnyH_take (i := 1) (v := ?_) (by simp only [List.getElem?_toArray, List.getElem?_cons_zero, List.getElem?_cons_succ]; rfl) (by kernel_rfl) (by kernel_rfl) (by kernel_rfl) (fun _ _ _ h => h) (Or.inl ⟨by rfl, ?_⟩) (by assumption) ?_
  rotate_left
  · (intro w hSw; (try dsimp only at hSw); go_simp <;> with_reducible rfl)
  try simp only [Act.put, List.setIfInBounds_toArray, List.set_cons_zero, List.set_cons_succ]
  refine wpAnyH_take (i := 2) (v := ?_) (by simp only [List.getElem?_toArray, List.getElem?_cons_zero, List.getElem?_cons_succ]; rfl) (by kernel_rfl) (by kernel_rfl) (by kernel_rfl) (fun _ _ _ h => h) (Or.inl ⟨by rfl, ?_⟩) (by assumption) ?_
  rotate_left
  · (intro w hSw; (try dsimp only at hSw); go_simp <;> with_reducible rfl)
  try simp only [Act.put, List.setIfInBounds_toArray, List.set_cons_zero, List.set_cons_succ]
  refine wpAnyH_take (i := 3) (v := ?_) (by simp only [List.getElem?_toArray, List.getElem?_cons_zero, List.getElem?_cons_succ]; rfl) (by kernel_rfl) (by kernel_rfl) (by kernel_rfl) (fun _ _ _ h => h) (Or.inl ⟨by rfl, ?_⟩) (by assumption) ?_
  rotate_left
  · (intro w hSw; (try dsimp only at hSw); go_simp <;> with_reducible rfl)
  try simp only [Act.put, List.setIfInBounds_toArray, List.set_cons_zero, List.set_cons_succ]
  refine wpAnyH_take (i := 4) (v := ?_) (by simp only [List.getElem?_toArray, List.getElem?_cons_zero, List.getElem?_cons_succ]; rfl) (by kernel_rfl) (by kernel_rfl) (by kernel_rfl) (fun _ _ _ h => h) (Or.inl ⟨by rfl, ?_⟩) (by assumption) ?_
  rotate_left
  · (intro w hSw; (try dsimp only at hSw); go_simp <;> with_reducible rfl)
  try simp only [Act.put, List.setIfInBounds_toArray, List.set_cons_zero, List.set_cons_succ]
  refine wpAnyH_take (i := 5) (v := ?_) (by simp only [List.getElem?_toArray, List.getElem?_cons_zero, List.getElem?_cons_succ]; rfl) (by kernel_rfl) (by kernel_rfl) (by kernel_rfl) (fun _ _ _ h => h) (Or.inl ⟨by rfl, ?_⟩) (by assumption) ?_
  rotate_left
  · (intro w hSw; (try dsimp only at hSw); go_simp <;> with_reducible rfl)
  try simp only [Act.put, List.setIfInBounds_toArray, List.set_cons_zero, List.set_cons_succ]
  refine wpAnyH_take (i := 6) (v := ?_) (by simp only [List.getElem?_toArray, List.getElem?_cons_zero, List.getElem?_cons_succ]; rfl) (by kernel_rfl) (by kernel_rfl) (by kernel_rfl) (fun _ _ _ h => h) (Or.inl ⟨by rfl, ?_⟩) (by assumption) ?_
  rotate_left
  · (intro w hSw; (try dsimp only at hSw); go_simp <;> with_reducible rfl)
  try simp only [Act.put, List.setIfInBounds_toArray, List.set_cons_zero, List.set_cons_succ]
  refine wpAnyH_ready (rs := [7]) (by kernel_rfl) (by simp) ?_
  refine AllReadyH.cons (by simp only [List.getElem?_toArray, List.getElem?_cons_zero, List.getElem?_cons_succ]; rfl) (fun K hK => ?_) AllReadyH.nil
  go_simp
  go_at_call 53
  refine (Hf.out _).mono ?_
  rintro e w5 ⟨rfl, hw5⟩
  obtain rfl := hw5
  refine hK.out _ _ ?_ (fun hHeld => ?_)
  · exact (by assumption)
  clear hK K
  try simp only [Act.put, List.setIfInBounds_toArray, List.set_cons_zero, List.set_cons_succ]
  refine wpAnyH_take (i := 8) (v := ?_) (by simp only [List.getElem?_toArray, List.getElem?_cons_zero, List.getElem?_cons_succ]; rfl) (by kernel_rfl) (by kernel_rfl) (by kernel_rfl) (fun _ _ _ h => h) (Or.inl ⟨by rfl, ?_⟩) (by assumption) ?_
  rotate_left
  · (intro w hSw; (try dsimp only at hSw); go_simp <;> with_reducible rfl)
  try simp only [Act.put, List.setIfInBounds_toArray, List.set_cons_zero, List.set_cons_succ]
  refine wpAnyH_take (i := 9) (v := ?_) (by simp only [List.getElem?_toArray, List.getElem?_cons_zero, List.getElem?_cons_succ]; rfl) (by kernel_rfl) (by kernel_rfl) (by kernel_rfl) (fun _ _ _ h => h) (Or.inl ⟨by rfl, ?_⟩) (by assumption) ?_
  rotate_left
  · (intro w hSw; (try dsimp only at hSw); go_simp <;> with_reducible rfl)
  try simp only [Act.put, List.setIfInBounds_toArray, List.set_cons_zero, List.set_cons_succ]
  refine wpAnyH_done (by kernel_rfl) ?_ _
  refine NoPanic.normal ?_
  clear hHeld hS
  go_wp2_with fail
  exact bodyPost_ret (v := .tuple #[.int .i64 n, .bool true]) (by simp [results, Tryd.results72, go_sem]) rfl ⟨rfl, Below.drew (Below.refl _ _)⟩
set_option maxRecDepth 100000 in
set_option maxHeartbeats 1000000 in
theorem h72_54 (bx b o cap : Nat) (x y n : Int) (w : World) (hS : OpS bx b o 54 x y w) (hf : ∀ W, Calls Tryd.prog 54 #[.int .i64 x, .int .i64 y] W fun e w' => e = .returned (.int .i64 n) ∧ w' = W) :
    Calls Tryd.prog 72 #[.slice (some ⟨b, o, none⟩) 2 cap, .pointer (some ⟨bx, 0, none⟩)] w fun e w' => e = .returned (.tuple #[.int .i64 n, .bool true]) ∧ Below w.heap.size w w' := by
  have Hf : Hid (∀ W, Calls Tryd.prog 54 #[.int .i64 x, .int .i64 y] W fun e w' => e = .returned (.int .i64 n) ∧ w' = W) := hf
  clear hf
  go_enter Tryd.func72, Tryd.ntmps72
  go_wp2_with fail
  refine wp_region_noPanic ?_
  refine wp_region_held_drew (S := fun w' => OpS bx b o 54 x y w') (by kernel_rfl) hS (fun hHeld => ?_)
  refine wpAnyH_take (i := 0) (v := ?_) (by simp only [List.getElem?_toArray, List.getElem?_cons_zero]; rfl) (by kernel_rfl) (by kernel_rfl) (by kernel_rfl) (fun _ _ _ h => h) (Or.inl ⟨by rfl, ?_⟩) (by assumption) ?_
  rotate_left
  · (intro w hSw; (try dsimp only at hSw); go_simp <;> with_reducible rfl)
  try simp only [Act.put, List.setIfInBounds_toArray, List.set_cons_zero, List.set_cons_succ]
  refine wpAnyH_take (i := 1) (v := ?_) (by simp only [List.getElem?_toArray, List.getElem?_cons_zero, List.getElem?_cons_succ]; rfl) (by kernel_rfl) (by kernel_rfl) (by kernel_rfl) (fun _ _ _ h => h) (Or.inl ⟨by rfl, ?_⟩) (by assumption) ?_
  rotate_left
  · (intro w hSw; (try dsimp only at hSw); go_simp <;> with_reducible rfl)
  try simp only [Act.put, List.setIfInBounds_toArray, List.set_cons_zero, List.set_cons_succ]
  refine wpAnyH_take (i := 2) (v := ?_) (by simp only [List.getElem?_toArray, List.getElem?_cons_zero, List.getElem?_cons_succ]; rfl) (by kernel_rfl) (by kernel_rfl) (by kernel_rfl) (fun _ _ _ h => h) (Or.inl ⟨by rfl, ?_⟩) (by assumption) ?_
  rotate_left
  · (intro w hSw; (try dsimp only at hSw); go_simp <;> with_reducible rfl)
  try simp only [Act.put, List.setIfInBounds_toArray, List.set_cons_zero, List.set_cons_succ]
  refine wpAnyH_take (i := 3) (v := ?_) (by simp only [List.getElem?_toArray, List.getElem?_cons_zero, List.getElem?_cons_succ]; rfl) (by kernel_rfl) (by kernel_rfl) (by kernel_rfl) (fun _ _ _ h => h) (Or.inl ⟨by rfl, ?_⟩) (by assumption) ?_
  rotate_left
  · (intro w hSw; (try dsimp only at hSw); go_simp <;> with_reducible rfl)
  try simp only [Act.put, List.setIfInBounds_toArray, List.set_cons_zero, List.set_cons_succ]
  refine wpAnyH_take (i := 4) (v := ?_) (by simp only [List.getElem?_toArray, List.getElem?_cons_zero, List.getElem?_cons_succ]; rfl) (by kernel_rfl) (by kernel_rfl) (by kernel_rfl) (fun _ _ _ h => h) (Or.inl ⟨by rfl, ?_⟩) (by assumption) ?_
  rotate_left
  · (intro w hSw; (try dsimp only at hSw); go_simp <;> with_reducible rfl)
  try simp only [Act.put, List.setIfInBounds_toArray, List.set_cons_zero, List.set_cons_succ]
  refine wpAnyH_take (i := 5) (v := ?_) (by simp only [List.getElem?_toArray, List.getElem?_cons_zero, List.getElem?_cons_succ]; rfl) (by kernel_rfl) (by kernel_rfl) (by kernel_rfl) (fun _ _ _ h => h) (Or.inl ⟨by rfl, ?_⟩) (by assumption) ?_
  rotate_left
  · (intro w hSw; (try dsimp only at hSw); go_simp <;> with_reducible rfl)
  try simp only [Act.put, List.setIfInBounds_toArray, List.set_cons_zero, List.set_cons_succ]
  refine wpAnyH_take (i := 6) (v := ?_) (by simp only [List.getElem?_toArray, List.getElem?_cons_zero, List.getElem?_cons_succ]; rfl) (by kernel_rfl) (by kernel_rfl) (by kernel_rfl) (fun _ _ _ h => h) (Or.inl ⟨by rfl, ?_⟩) (by assumption) ?_
  rotate_left
  · (intro w hSw; (try dsimp only at hSw); go_simp <;> with_reducible rfl)
  try simp only [Act.put, List.setIfInBounds_toArray, List.set_cons_zero, List.set_cons_succ]
  refine wpAnyH_ready (rs := [7]) (by kernel_rfl) (by simp) ?_
  refine AllReadyH.cons (by simp only [List.getElem?_toArray, List.getElem?_cons_zero, List.getElem?_cons_succ]; rfl) (fun K hK => ?_) AllReadyH.nil
  go_simp
  go_at_call 54
  refine (Hf.out _).mono ?_
  rintro e w5 ⟨rfl, hw5⟩
  obtain rfl := hw5
  refine hK.out _ _ ?_ (fun hHeld => ?_)
  · exact (by assumption)
  clear hK K
  try simp only [Act.put, List.setIfInBounds_toArray, List.set_cons_zero, List.set_cons_succ]
  refine wpAnyH_take (i := 8) (v := ?_) (by simp only [List.getElem?_toArray, List.getElem?_cons_zero, List.getElem?_cons_succ]; rfl) (by kernel_rfl) (by kernel_rfl) (by kernel_rfl) (fun _ _ _ h => h) (Or.inl ⟨by rfl, ?_⟩) (by assumption) ?_
  rotate_left
  · (intro w hSw; (try dsimp only at hSw); go_simp <;> with_reducible rfl)
  try simp only [Act.put, List.setIfInBounds_toArray, List.set_cons_zero, List.set_cons_succ]
  refine wpAnyH_take (i := 9) (v := ?_) (by simp only [List.getElem?_toArray, List.getElem?_cons_zero, List.getElem?_cons_succ]; rfl) (by kernel_rfl) (by kernel_rfl) (by kernel_rfl) (fun _ _ _ h => h) (Or.inl ⟨by rfl, ?_⟩) (by assumption) ?_
  rotate_left
  · (intro w hSw; (try dsimp only at hSw); go_simp <;> with_reducible rfl)
  try simp only [Act.put, List.setIfInBounds_toArray, List.set_cons_zero, List.set_cons_succ]
  refine wpAnyH_done (by kernel_rfl) ?_ _
  refine NoPanic.normal ?_
  clear hHeld hS
  go_wp2_with fail
  exact bodyPost_ret (v := .tuple #[.int .i64 n, .bool true]) (by simp [results, Tryd.results72, go_sem]) rfl ⟨rfl, Below.drew (Below.refl _ _)⟩
set_option maxRecDepth 100000 in
set_option maxHeartbeats 1000000 in
theorem h72_58 (bx b o cap : Nat) (x y n : Int) (w : World) (hS : OpS bx b o 58 x y w) (hf : ∀ W, Calls Tryd.prog 58 #[.int .i64 x, .int .i64 y] W fun e w' => e = .returned (.int .i64 n) ∧ w' = W) :
    Calls Tryd.prog 72 #[.slice (some ⟨b, o, none⟩) 2 cap, .pointer (some ⟨bx, 0, none⟩)] w fun e w' => e = .returned (.tuple #[.int .i64 n, .bool true]) ∧ Below w.heap.size w w' := by
  have Hf : Hid (∀ W, Calls Tryd.prog 58 #[.int .i64 x, .int .i64 y] W fun e w' => e = .returned (.int .i64 n) ∧ w' = W) := hf
  clear hf
  go_enter Tryd.func72, Tryd.ntmps72
  go_wp2_with fail
  refine wp_region_noPanic ?_
  refine wp_region_held_drew (S := fun w' => OpS bx b o 58 x y w') (by kernel_rfl) hS (fun hHeld => ?_)
  refine wpAnyH_take (i := 0) (v := ?_) (by simp only [List.getElem?_toArray, List.getElem?_cons_zero]; rfl) (by kernel_rfl) (by kernel_rfl) (by kernel_rfl) (fun _ _ _ h => h) (Or.inl ⟨by rfl, ?_⟩) (by assumption) ?_
  rotate_left
  · (intro w hSw; (try dsimp only at hSw); go_simp <;> with_reducible rfl)
  try simp only [Act.put, List.setIfInBounds_toArray, List.set_cons_zero, List.set_cons_succ]
  refine wpAnyH_take (i := 1) (v := ?_) (by simp only [List.getElem?_toArray, List.getElem?_cons_zero, List.getElem?_cons_succ]; rfl) (by kernel_rfl) (by kernel_rfl) (by kernel_rfl) (fun _ _ _ h => h) (Or.inl ⟨by rfl, ?_⟩) (by assumption) ?_
  rotate_left
  · (intro w hSw; (try dsimp only at hSw); go_simp <;> with_reducible rfl)
  try simp only [Act.put, List.setIfInBounds_toArray, List.set_cons_zero, List.set_cons_succ]
  refine wpAnyH_take (i := 2) (v := ?_) (by simp only [List.getElem?_toArray, List.getElem?_cons_zero, List.getElem?_cons_succ]; rfl) (by kernel_rfl) (by kernel_rfl) (by kernel_rfl) (fun _ _ _ h => h) (Or.inl ⟨by rfl, ?_⟩) (by assumption) ?_
  rotate_left
  · (intro w hSw; (try dsimp only at hSw); go_simp <;> with_reducible rfl)
  try simp only [Act.put, List.setIfInBounds_toArray, List.set_cons_zero, List.set_cons_succ]
  refine wpAnyH_take (i := 3) (v := ?_) (by simp only [List.getElem?_toArray, List.getElem?_cons_zero, List.getElem?_cons_succ]; rfl) (by kernel_rfl) (by kernel_rfl) (by kernel_rfl) (fun _ _ _ h => h) (Or.inl ⟨by rfl, ?_⟩) (by assumption) ?_
  rotate_left
  · (intro w hSw; (try dsimp only at hSw); go_simp <;> with_reducible rfl)
  try simp only [Act.put, List.setIfInBounds_toArray, List.set_cons_zero, List.set_cons_succ]
  refine wpAnyH_take (i := 4) (v := ?_) (by simp only [List.getElem?_toArray, List.getElem?_cons_zero, List.getElem?_cons_succ]; rfl) (by kernel_rfl) (by kernel_rfl) (by kernel_rfl) (fun _ _ _ h => h) (Or.inl ⟨by rfl, ?_⟩) (by assumption) ?_
  rotate_left
  · (intro w hSw; (try dsimp only at hSw); go_simp <;> with_reducible rfl)
  try simp only [Act.put, List.setIfInBounds_toArray, List.set_cons_zero, List.set_cons_succ]
  refine wpAnyH_take (i := 5) (v := ?_) (by simp only [List.getElem?_toArray, List.getElem?_cons_zero, List.getElem?_cons_succ]; rfl) (by kernel_rfl) (by kernel_rfl) (by kernel_rfl) (fun _ _ _ h => h) (Or.inl ⟨by rfl, ?_⟩) (by assumption) ?_
  rotate_left
  · (intro w hSw; (try dsimp only at hSw); go_simp <;> with_reducible rfl)
  try simp only [Act.put, List.setIfInBounds_toArray, List.set_cons_zero, List.set_cons_succ]
  refine wpAnyH_take (i := 6) (v := ?_) (by simp only [List.getElem?_toArray, List.getElem?_cons_zero, List.getElem?_cons_succ]; rfl) (by kernel_rfl) (by kernel_rfl) (by kernel_rfl) (fun _ _ _ h => h) (Or.inl ⟨by rfl, ?_⟩) (by assumption) ?_
  rotate_left
  · (intro w hSw; (try dsimp only at hSw); go_simp <;> with_reducible rfl)
  try simp only [Act.put, List.setIfInBounds_toArray, List.set_cons_zero, List.set_cons_succ]
  refine wpAnyH_ready (rs := [7]) (by kernel_rfl) (by simp) ?_
  refine AllReadyH.cons (by simp only [List.getElem?_toArray, List.getElem?_cons_zero, List.getElem?_cons_succ]; rfl) (fun K hK => ?_) AllReadyH.nil
  go_simp
  go_at_call 58
  refine (Hf.out _).mono ?_
  rintro e w5 ⟨rfl, hw5⟩
  obtain rfl := hw5
  refine hK.out _ _ ?_ (fun hHeld => ?_)
  · exact (by assumption)
  clear hK K
  try simp only [Act.put, List.setIfInBounds_toArray, List.set_cons_zero, List.set_cons_succ]
  refine wpAnyH_take (i := 8) (v := ?_) (by simp only [List.getElem?_toArray, List.getElem?_cons_zero, List.getElem?_cons_succ]; rfl) (by kernel_rfl) (by kernel_rfl) (by kernel_rfl) (fun _ _ _ h => h) (Or.inl ⟨by rfl, ?_⟩) (by assumption) ?_
  rotate_left
  · (intro w hSw; (try dsimp only at hSw); go_simp <;> with_reducible rfl)
  try simp only [Act.put, List.setIfInBounds_toArray, List.set_cons_zero, List.set_cons_succ]
  refine wpAnyH_take (i := 9) (v := ?_) (by simp only [List.getElem?_toArray, List.getElem?_cons_zero, List.getElem?_cons_succ]; rfl) (by kernel_rfl) (by kernel_rfl) (by kernel_rfl) (fun _ _ _ h => h) (Or.inl ⟨by rfl, ?_⟩) (by assumption) ?_
  rotate_left
  · (intro w hSw; (try dsimp only at hSw); go_simp <;> with_reducible rfl)
  try simp only [Act.put, List.setIfInBounds_toArray, List.set_cons_zero, List.set_cons_succ]
  refine wpAnyH_done (by kernel_rfl) ?_ _
  refine NoPanic.normal ?_
  clear hHeld hS
  go_wp2_with fail
  exact bodyPost_ret (v := .tuple #[.int .i64 n, .bool true]) (by simp [results, Tryd.results72, go_sem]) rfl ⟨rfl, Below.drew (Below.refl _ _)⟩
set_option maxRecDepth 100000 in
set_option maxHeartbeats 1000000 in
theorem h72_59 (bx b o cap : Nat) (x y n : Int) (w : World) (hS : OpS bx b o 59 x y w) (hf : ∀ W, Calls Tryd.prog 59 #[.int .i64 x, .int .i64 y] W fun e w' => e = .returned (.int .i64 n) ∧ w' = W) :
    Calls Tryd.prog 72 #[.slice (some ⟨b, o, none⟩) 2 cap, .pointer (some ⟨bx, 0, none⟩)] w fun e w' => e = .returned (.tuple #[.int .i64 n, .bool true]) ∧ Below w.heap.size w w' := by
  have Hf : Hid (∀ W, Calls Tryd.prog 59 #[.int .i64 x, .int .i64 y] W fun e w' => e = .returned (.int .i64 n) ∧ w' = W) := hf
  clear hf
  go_enter Tryd.func72, Tryd.ntmps72
  go_wp2_with fail
  refine wp_region_noPanic ?_
  refine wp_region_held_drew (S := fun w' => OpS bx b o 59 x y w') (by kernel_rfl) hS (fun hHeld => ?_)
  refine wpAnyH_take (i := 0) (v := ?_) (by simp only [List.getElem?_toArray, List.getElem?_cons_zero]; rfl) (by kernel_rfl) (by kernel_rfl) (by kernel_rfl) (fun _ _ _ h => h) (Or.inl ⟨by rfl, ?_⟩) (by assumption) ?_
  rotate_left
  · (intro w hSw; (try dsimp only at hSw); go_simp <;> with_reducible rfl)
  try simp only [Act.put, List.setIfInBounds_toArray, List.set_cons_zero, List.set_cons_succ]
  refine wpAnyH_take (i := 1) (v := ?_) (by simp only [List.getElem?_toArray, List.getElem?_cons_zero, List.getElem?_cons_succ]; rfl) (by kernel_rfl) (by kernel_rfl) (by kernel_rfl) (fun _ _ _ h => h) (Or.inl ⟨by rfl, ?_⟩) (by assumption) ?_
  rotate_left
  · (intro w hSw; (try dsimp only at hSw); go_simp <;> with_reducible rfl)
  try simp only [Act.put, List.setIfInBounds_toArray, List.set_cons_zero, List.set_cons_succ]
  refine wpAnyH_take (i := 2) (v := ?_) (by simp only [List.getElem?_toArray, List.getElem?_cons_zero, List.getElem?_cons_succ]; rfl) (by kernel_rfl) (by kernel_rfl) (by kernel_rfl) (fun _ _ _ h => h) (Or.inl ⟨by rfl, ?_⟩) (by assumption) ?_
  rotate_left
  · (intro w hSw; (try dsimp only at hSw); go_simp <;> with_reducible rfl)
  try simp only [Act.put, List.setIfInBounds_toArray, List.set_cons_zero, List.set_cons_succ]
  refine wpAnyH_take (i := 3) (v := ?_) (by simp only [List.getElem?_toArray, List.getElem?_cons_zero, List.getElem?_cons_succ]; rfl) (by kernel_rfl) (by kernel_rfl) (by kernel_rfl) (fun _ _ _ h => h) (Or.inl ⟨by rfl, ?_⟩) (by assumption) ?_
  rotate_left
  · (intro w hSw; (try dsimp only at hSw); go_simp <;> with_reducible rfl)
  try simp only [Act.put, List.setIfInBounds_toArray, List.set_cons_zero, List.set_cons_succ]
  refine wpAnyH_take (i := 4) (v := ?_) (by simp only [List.getElem?_toArray, List.getElem?_cons_zero, List.getElem?_cons_succ]; rfl) (by kernel_rfl) (by kernel_rfl) (by kernel_rfl) (fun _ _ _ h => h) (Or.inl ⟨by rfl, ?_⟩) (by assumption) ?_
  rotate_left
  · (intro w hSw; (try dsimp only at hSw); go_simp <;> with_reducible rfl)
  try simp only [Act.put, List.setIfInBounds_toArray, List.set_cons_zero, List.set_cons_succ]
  refine wpAnyH_take (i := 5) (v := ?_) (by simp only [List.getElem?_toArray, List.getElem?_cons_zero, List.getElem?_cons_succ]; rfl) (by kernel_rfl) (by kernel_rfl) (by kernel_rfl) (fun _ _ _ h => h) (Or.inl ⟨by rfl, ?_⟩) (by assumption) ?_
  rotate_left
  · (intro w hSw; (try dsimp only at hSw); go_simp <;> with_reducible rfl)
  try simp only [Act.put, List.setIfInBounds_toArray, List.set_cons_zero, List.set_cons_succ]
  refine wpAnyH_take (i := 6) (v := ?_) (by simp only [List.getElem?_toArray, List.getElem?_cons_zero, List.getElem?_cons_succ]; rfl) (by kernel_rfl) (by kernel_rfl) (by kernel_rfl) (fun _ _ _ h => h) (Or.inl ⟨by rfl, ?_⟩) (by assumption) ?_
  rotate_left
  · (intro w hSw; (try dsimp only at hSw); go_simp <;> with_reducible rfl)
  try simp only [Act.put, List.setIfInBounds_toArray, List.set_cons_zero, List.set_cons_succ]
  refine wpAnyH_ready (rs := [7]) (by kernel_rfl) (by simp) ?_
  refine AllReadyH.cons (by simp only [List.getElem?_toArray, List.getElem?_cons_zero, List.getElem?_cons_succ]; rfl) (fun K hK => ?_) AllReadyH.nil
  go_simp
  go_at_call 59
  refine (Hf.out _).mono ?_
  rintro e w5 ⟨rfl, hw5⟩
  obtain rfl := hw5
  refine hK.out _ _ ?_ (fun hHeld => ?_)
  · exact (by assumption)
  clear hK K
  try simp only [Act.put, List.setIfInBounds_toArray, List.set_cons_zero, List.set_cons_succ]
  refine wpAnyH_take (i := 8) (v := ?_) (by simp only [List.getElem?_toArray, List.getElem?_cons_zero, List.getElem?_cons_succ]; rfl) (by kernel_rfl) (by kernel_rfl) (by kernel_rfl) (fun _ _ _ h => h) (Or.inl ⟨by rfl, ?_⟩) (by assumption) ?_
  rotate_left
  · (intro w hSw; (try dsimp only at hSw); go_simp <;> with_reducible rfl)
  try simp only [Act.put, List.setIfInBounds_toArray, List.set_cons_zero, List.set_cons_succ]
  refine wpAnyH_take (i := 9) (v := ?_) (by simp only [List.getElem?_toArray, List.getElem?_cons_zero, List.getElem?_cons_succ]; rfl) (by kernel_rfl) (by kernel_rfl) (by kernel_rfl) (fun _ _ _ h => h) (Or.inl ⟨by rfl, ?_⟩) (by assumption) ?_
  rotate_left
  · (intro w hSw; (try dsimp only at hSw); go_simp <;> with_reducible rfl)
  try simp only [Act.put, List.setIfInBounds_toArray, List.set_cons_zero, List.set_cons_succ]
  refine wpAnyH_done (by kernel_rfl) ?_ _
  refine NoPanic.normal ?_
  clear hHeld hS
  go_wp2_with fail
  exact bodyPost_ret (v := .tuple #[.int .i64 n, .bool true]) (by simp [results, Tryd.results72, go_sem]) rfl ⟨rfl, Below.drew (Below.refl _ _)⟩
set_option maxRecDepth 100000 in
set_option maxHeartbeats 1000000 in
theorem h73_56 (bx b o cap : Nat) (x y n : Int) (w : World) (hS : OpS bx b o 56 x y w) (hy : y ≠ 0) (hf : ∀ W, Calls Tryd.prog 56 #[.int .i64 x, .int .i64 y] W fun e w' => e = .returned (.int .i64 n) ∧ w' = W) :
    Calls Tryd.prog 73 #[.slice (some ⟨b, o, none⟩) 2 cap, .pointer (some ⟨bx, 0, none⟩)] w fun e w' => e = .returned (.tuple #[.int .i64 n, .bool true]) ∧ Below w.heap.size w w' := by
  have Hf : Hid (∀ W, Calls Tryd.prog 56 #[.int .i64 x, .int .i64 y] W fun e w' => e = .returned (.int .i64 n) ∧ w' = W) := hf
  have hq : (y == 0) = false := by simpa using hy
  have hS' := hS
  obtain ⟨_, c0, c1⟩ := hS'
  clear hf
  go_enter Tryd.func73, Tryd.ntmps73
  go_wp2_with fail
  clear c0 c1
  refine wp_region_noPanic ?_
  refine wp_region_held_drew (S := fun w' => OpS bx b o 56 x y w') (by kernel_rfl) hS (fun hHeld => ?_)
  refine wpAnyH_take (i := 0) (v := ?_) (by simp only [List.getElem?_toArray, List.getElem?_cons_zero]; rfl) (by kernel_rfl) (by kernel_rfl) (by kernel_rfl) (fun _ _ _ h => h) (Or.inl ⟨by rfl, ?_⟩) (by assumption) ?_
  rotate_left
  · (intro w hSw; (try dsimp only at hSw); go_simp <;> with_reducible rfl)
  try simp only [Act.put, List.setIfInBounds_toArray, List.set_cons_zero, List.set_cons_succ]
  refine wpAnyH_take (i := 1) (v := ?_) (by simp only [List.getElem?_toArray, List.getElem?_cons_zero, List.getElem?_cons_succ]; rfl) (by kernel_rfl) (by kernel_rfl) (by kernel_rfl) (fun _ _ _ h => h) (Or.inl ⟨by rfl, ?_⟩) (by assumption) ?_
  rotate_left
  · (intro w hSw; (try dsimp only at hSw); go_simp <;> with_reducible rfl)
  try simp only [Act.put, List.setIfInBounds_toArray, List.set_cons_zero, List.set_cons_succ]
  refine wpAnyH_take (i := 2) (v := ?_) (by simp only [List.getElem?_toArray, List.getElem?_cons_zero, List.getElem?_cons_succ]; rfl) (by kernel_rfl) (by kernel_rfl) (by kernel_rfl) (fun _ _ _ h => h) (Or.inl ⟨by rfl, ?_⟩) (by assumption) ?_
  rotate_left
  · (intro w hSw; (try dsimp only at hSw); go_simp <;> with_reducible rfl)
  try simp only [Act.put, List.setIfInBounds_toArray, List.set_cons_zero, List.set_cons_succ]
  refine wpAnyH_take (i := 3) (v := ?_) (by simp only [List.getElem?_toArray, List.getElem?_cons_zero, List.getElem?_cons_succ]; rfl) (by kernel_rfl) (by kernel_rfl) (by kernel_rfl) (fun _ _ _ h => h) (Or.inl ⟨by rfl, ?_⟩) (by assumption) ?_
  rotate_left
  · (intro w hSw; (try dsimp only at hSw); go_simp <;> with_reducible rfl)
  try simp only [Act.put, List.setIfInBounds_toArray, List.set_cons_zero, List.set_cons_succ]
  refine wpAnyH_take (i := 4) (v := ?_) (by simp only [List.getElem?_toArray, List.getElem?_cons_zero, List.getElem?_cons_succ]; rfl) (by kernel_rfl) (by kernel_rfl) (by kernel_rfl) (fun _ _ _ h => h) (Or.inl ⟨by rfl, ?_⟩) (by assumption) ?_
  rotate_left
  · (intro w hSw; (try dsimp only at hSw); go_simp <;> with_reducible rfl)
  try simp only [Act.put, List.setIfInBounds_toArray, List.set_cons_zero, List.set_cons_succ]
  refine wpAnyH_take (i := 5) (v := ?_) (by simp only [List.getElem?_toArray, List.getElem?_cons_zero, List.getElem?_cons_succ]; rfl) (by kernel_rfl) (by kernel_rfl) (by kernel_rfl) (fun _ _ _ h => h) (Or.inl ⟨by rfl, ?_⟩) (by assumption) ?_
  rotate_left
  · (intro w hSw; (try dsimp only at hSw); go_simp <;> with_reducible rfl)
  try simp only [Act.put, List.setIfInBounds_toArray, List.set_cons_zero, List.set_cons_succ]
  refine wpAnyH_take (i := 6) (v := ?_) (by simp only [List.getElem?_toArray, List.getElem?_cons_zero, List.getElem?_cons_succ]; rfl) (by kernel_rfl) (by kernel_rfl) (by kernel_rfl) (fun _ _ _ h => h) (Or.inl ⟨by rfl, ?_⟩) (by assumption) ?_
  rotate_left
  · (intro w hSw; (try dsimp only at hSw); go_simp <;> with_reducible rfl)
  try simp only [Act.put, List.setIfInBounds_toArray, List.set_cons_zero, List.set_cons_succ]
  refine wpAnyH_ready (rs := [7]) (by kernel_rfl) (by simp) ?_
  refine AllReadyH.cons (by simp only [List.getElem?_toArray, List.getElem?_cons_zero, List.getElem?_cons_succ]; rfl) (fun K hK => ?_) AllReadyH.nil
  go_simp
  go_at_call 56
  refine (Hf.out _).mono ?_
  rintro e w5 ⟨rfl, hw5⟩
  obtain rfl := hw5
  refine hK.out _ _ ?_ (fun hHeld => ?_)
  · exact (by assumption)
  clear hK K
  try simp only [Act.put, List.setIfInBounds_toArray, List.set_cons_zero, List.set_cons_succ]
  refine wpAnyH_take (i := 8) (v := ?_) (by simp only [List.getElem?_toArray, List.getElem?_cons_zero, List.getElem?_cons_succ]; rfl) (by kernel_rfl) (by kernel_rfl) (by kernel_rfl) (fun _ _ _ h => h) (Or.inl ⟨by rfl, ?_⟩) (by assumption) ?_
  rotate_left
  · (intro w hSw; (try dsimp only at hSw); go_simp <;> with_reducible rfl)
  try simp only [Act.put, List.setIfInBounds_toArray, List.set_cons_zero, List.set_cons_succ]
  refine wpAnyH_take (i := 9) (v := ?_) (by simp only [List.getElem?_toArray, List.getElem?_cons_zero, List.getElem?_cons_succ]; rfl) (by kernel_rfl) (by kernel_rfl) (by kernel_rfl) (fun _ _ _ h => h) (Or.inl ⟨by rfl, ?_⟩) (by assumption) ?_
  rotate_left
  · (intro w hSw; (try dsimp only at hSw); go_simp <;> with_reducible rfl)
  try simp only [Act.put, List.setIfInBounds_toArray, List.set_cons_zero, List.set_cons_succ]
  refine wpAnyH_done (by kernel_rfl) ?_ _
  refine NoPanic.normal ?_
  clear hHeld hS
  go_wp2_with fail
  exact bodyPost_ret (v := .tuple #[.int .i64 n, .bool true]) (by simp [results, Tryd.results73, go_sem]) rfl ⟨rfl, Below.drew (Below.refl _ _)⟩
set_option maxRecDepth 100000 in
set_option maxHeartbeats 1000000 in
theorem h73_57 (bx b o cap : Nat) (x y n : Int) (w : World) (hS : OpS bx b o 57 x y w) (hy : y ≠ 0) (hf : ∀ W, Calls Tryd.prog 57 #[.int .i64 x, .int .i64 y] W fun e w' => e = .returned (.int .i64 n) ∧ w' = W) :
    Calls Tryd.prog 73 #[.slice (some ⟨b, o, none⟩) 2 cap, .pointer (some ⟨bx, 0, none⟩)] w fun e w' => e = .returned (.tuple #[.int .i64 n, .bool true]) ∧ Below w.heap.size w w' := by
  have Hf : Hid (∀ W, Calls Tryd.prog 57 #[.int .i64 x, .int .i64 y] W fun e w' => e = .returned (.int .i64 n) ∧ w' = W) := hf
  have hq : (y == 0) = false := by simpa using hy
  have hS' := hS
  obtain ⟨_, c0, c1⟩ := hS'
  clear hf
  go_enter Tryd.func73, Tryd.ntmps73
  go_wp2_with fail
  clear c0 c1
  refine wp_region_noPanic ?_
  refine wp_region_held_drew (S := fun w' => OpS bx b o 57 x y w') (by kernel_rfl) hS (fun hHeld => ?_)
  refine wpAnyH_take (i := 0) (v := ?_) (by simp only [List.getElem?_toArray, List.getElem?_cons_zero]; rfl) (by kernel_rfl) (by kernel_rfl) (by kernel_rfl) (fun _ _ _ h => h) (Or.inl ⟨by rfl, ?_⟩) (by assumption) ?_
  rotate_left
  · (intro w hSw; (try dsimp only at hSw); go_simp <;> with_reducible rfl)
  try simp only [Act.put, List.setIfInBounds_toArray, List.set_cons_zero, List.set_cons_succ]
  refine wpAnyH_take (i := 1) (v := ?_) (by simp only [List.getElem?_toArray, List.getElem?_cons_zero, List.getElem?_cons_succ]; rfl) (by kernel_rfl) (by kernel_rfl) (by kernel_rfl) (fun _ _ _ h => h) (Or.inl ⟨by rfl, ?_⟩) (by assumption) ?_
  rotate_left
  · (intro w hSw; (try dsimp only at hSw); go_simp <;> with_reducible rfl)
  try simp only [Act.put, List.setIfInBounds_toArray, List.set_cons_zero, List.set_cons_succ]
  refine wpAnyH_take (i := 2) (v := ?_) (by simp only [List.getElem?_toArray, List.getElem?_cons_zero, List.getElem?_cons_succ]; rfl) (by kernel_rfl) (by kernel_rfl) (by kernel_rfl) (fun _ _ _ h => h) (Or.inl ⟨by rfl, ?_⟩) (by assumption) ?_
  rotate_left
  · (intro w hSw; (try dsimp only at hSw); go_simp <;> with_reducible rfl)
  try simp only [Act.put, List.setIfInBounds_toArray, List.set_cons_zero, List.set_cons_succ]
  refine wpAnyH_take (i := 3) (v := ?_) (by simp only [List.getElem?_toArray, List.getElem?_cons_zero, List.getElem?_cons_succ]; rfl) (by kernel_rfl) (by kernel_rfl) (by kernel_rfl) (fun _ _ _ h => h) (Or.inl ⟨by rfl, ?_⟩) (by assumption) ?_
  rotate_left
  · (intro w hSw; (try dsimp only at hSw); go_simp <;> with_reducible rfl)
  try simp only [Act.put, List.setIfInBounds_toArray, List.set_cons_zero, List.set_cons_succ]
  refine wpAnyH_take (i := 4) (v := ?_) (by simp only [List.getElem?_toArray, List.getElem?_cons_zero, List.getElem?_cons_succ]; rfl) (by kernel_rfl) (by kernel_rfl) (by kernel_rfl) (fun _ _ _ h => h) (Or.inl ⟨by rfl, ?_⟩) (by assumption) ?_
  rotate_left
  · (intro w hSw; (try dsimp only at hSw); go_simp <;> with_reducible rfl)
  try simp only [Act.put, List.setIfInBounds_toArray, List.set_cons_zero, List.set_cons_succ]
  refine wpAnyH_take (i := 5) (v := ?_) (by simp only [List.getElem?_toArray, List.getElem?_cons_zero, List.getElem?_cons_succ]; rfl) (by kernel_rfl) (by kernel_rfl) (by kernel_rfl) (fun _ _ _ h => h) (Or.inl ⟨by rfl, ?_⟩) (by assumption) ?_
  rotate_left
  · (intro w hSw; (try dsimp only at hSw); go_simp <;> with_reducible rfl)
  try simp only [Act.put, List.setIfInBounds_toArray, List.set_cons_zero, List.set_cons_succ]
  refine wpAnyH_take (i := 6) (v := ?_) (by simp only [List.getElem?_toArray, List.getElem?_cons_zero, List.getElem?_cons_succ]; rfl) (by kernel_rfl) (by kernel_rfl) (by kernel_rfl) (fun _ _ _ h => h) (Or.inl ⟨by rfl, ?_⟩) (by assumption) ?_
  rotate_left
  · (intro w hSw; (try dsimp only at hSw); go_simp <;> with_reducible rfl)
  try simp only [Act.put, List.setIfInBounds_toArray, List.set_cons_zero, List.set_cons_succ]
  refine wpAnyH_ready (rs := [7]) (by kernel_rfl) (by simp) ?_
  refine AllReadyH.cons (by simp only [List.getElem?_toArray, List.getElem?_cons_zero, List.getElem?_cons_succ]; rfl) (fun K hK => ?_) AllReadyH.nil
  go_simp
  go_at_call 57
  refine (Hf.out _).mono ?_
  rintro e w5 ⟨rfl, hw5⟩
  obtain rfl := hw5
  refine hK.out _ _ ?_ (fun hHeld => ?_)
  · exact (by assumption)
  clear hK K
  try simp only [Act.put, List.setIfInBounds_toArray, List.set_cons_zero, List.set_cons_succ]
  refine wpAnyH_take (i := 8) (v := ?_) (by simp only [List.getElem?_toArray, List.getElem?_cons_zero, List.getElem?_cons_succ]; rfl) (by kernel_rfl) (by kernel_rfl) (by kernel_rfl) (fun _ _ _ h => h) (Or.inl ⟨by rfl, ?_⟩) (by assumption) ?_
  rotate_left
  · (intro w hSw; (try dsimp only at hSw); go_simp <;> with_reducible rfl)
  try simp only [Act.put, List.setIfInBounds_toArray, List.set_cons_zero, List.set_cons_succ]
  refine wpAnyH_take (i := 9) (v := ?_) (by simp only [List.getElem?_toArray, List.getElem?_cons_zero, List.getElem?_cons_succ]; rfl) (by kernel_rfl) (by kernel_rfl) (by kernel_rfl) (fun _ _ _ h => h) (Or.inl ⟨by rfl, ?_⟩) (by assumption) ?_
  rotate_left
  · (intro w hSw; (try dsimp only at hSw); go_simp <;> with_reducible rfl)
  try simp only [Act.put, List.setIfInBounds_toArray, List.set_cons_zero, List.set_cons_succ]
  refine wpAnyH_done (by kernel_rfl) ?_ _
  refine NoPanic.normal ?_
  clear hHeld hS
  go_wp2_with fail
  exact bodyPost_ret (v := .tuple #[.int .i64 n, .bool true]) (by simp [results, Tryd.results73, go_sem]) rfl ⟨rfl, Below.drew (Below.refl _ _)⟩
set_option maxRecDepth 100000 in
theorem h73n (bx b o cap : Nat) (w : World) (c1 : w.cell? ⟨b, o + 1, none⟩ = some (.int .i64 0)) :
    Calls Tryd.prog 73 #[.slice (some ⟨b, o, none⟩) 2 cap, .pointer (some ⟨bx, 0, none⟩)] w fun e w' => e = .returned (.tuple #[.int .i64 0, .bool false]) ∧ Below w.heap.size w w' := by
  go_enter Tryd.func73, Tryd.ntmps73
  go_wp2_with fail
  exact bodyPost_ret (v := .tuple #[.int .i64 0, .bool false]) (by simp [results, Tryd.results73, go_sem]) rfl ⟨rfl, Below.refl _ _⟩
def absF (x : Int) : Int := if x < -x then -x else x
set_option maxRecDepth 100000 in
set_option maxHeartbeats 1000000 in
theorem h60 (b o cap : Nat) (x : Int) (w : World) (c0 : w.cell? ⟨b, o, none⟩ = some (.int .i64 x)) (hx : okI x) :
    Calls Tryd.prog 60 #[.slice (some ⟨b, o, none⟩) 1 cap] w fun e w' => e = .returned (.tuple #[.int .i64 (absF x), .bool true]) ∧ Below w.heap.size w w' := by
  unfold okI at hx
  obtain ⟨x1, x2⟩ := hx
  have HA : absF x = if x < -x then -x else x := rfl
  by_cases h : x < -x
  · rw [if_pos h] at HA
    rw [HA]
    clear HA
    go_enter Tryd.func60, Tryd.ntmps60
    go_wp2_with fail
    go_region
    all_goals (
      go_wp2_with fail
      exact bodyPost_ret (v := .tuple #[.int .i64 (-x), .bool true]) (by simp [results, Tryd.results60, go_sem]) rfl ⟨rfl, Below.drew (Below.refl _ _)⟩)
  · rw [if_neg h] at HA
    rw [HA]
    clear HA
    go_enter Tryd.func60, Tryd.ntmps60
    go_wp2_with fail
    go_region
    all_goals (
      go_wp2_with fail
      exact bodyPost_ret (v := .tuple #[.int .i64 x, .bool true]) (by simp [results, Tryd.results60, go_sem]) rfl ⟨rfl, Below.drew (Below.refl _ _)⟩)
end Go.Proofs.YteikdgjlhdgapaaDoor
namespace Go.Proofs.YteikdgjlhdgapaaDoor
open Go.RowKit
def finB (n : Int) (ok : Bool) : Bool := ok && !greatB n
def finN (n : Int) (ok : Bool) : Int := if (ok && !greatB n) = true then n else 0
set_option maxRecDepth 100000 in
set_option maxHeartbeats 1000000 in
theorem h37_72 (t : ByteArray) (ar : Int) (bx : Nat) (a : Option Addr) (k cap : Nat) (n : Int) (ok : Bool) (w : World) (hc : ∀ W, Below w.heap.size w W → Calls Tryd.prog 72 #[.slice a k cap, .pointer (some ⟨bx, 0, none⟩)] W fun e w' => e = .returned (.tuple #[.int .i64 n, .bool ok]) ∧ Below W.heap.size W w') :
    Calls Tryd.prog 37 #[.agg #[.string t, .int .i64 ar, .func (Fn.func 72) #[] #[.pointer (some ⟨bx, 0, none⟩)]], .slice a k cap] w fun e w' => e = .returned (.tuple #[.int .i64 (finN n ok), .bool (finB n ok)]) ∧ Below w.heap.size w w' := by
  have HB0 : Hid (Below w.heap.size w (w.alloc (.cells #[.string t, .int .i64 ar, .func (Fn.func 72) #[] #[.pointer (some ⟨bx, 0, none⟩)]] 74))) := (Below.refl _ w).alloc (Nat.le_refl _) _
  have HC := hc _ HB0.out
  have H35 : Hid (∀ W, Calls Tryd.prog 35 #[.int .i64 n] W fun e w' => e = .returned (.bool (greatB n)) ∧ w' = W) := fun W => h35 n W
  have c2 : (w.alloc (.cells #[.string t, .int .i64 ar, .func (Fn.func 72) #[] #[.pointer (some ⟨bx, 0, none⟩)]] 74)).cell? ⟨w.heap.size, 2, none⟩ = some (.func (Fn.func 72) #[] #[.pointer (some ⟨bx, 0, none⟩)]) := by
    rw [cell_of_row _ _ 2 _ 74 (0, 0) (heap_alloc_new w _)]; rfl
  clear hc
  have HFn : finN n ok = if (ok && !greatB n) = true then n else 0 := rfl
  have HFb : finB n ok = (ok && !greatB n) := rfl
  cases ok
  · have e1 : finN n false = 0 := by rw [HFn]; rfl
    have e2 : finB n false = false := by rw [HFb]; rfl
    rw [e1, e2]
    clear HFn HFb e1 e2
    go_enter Tryd.func37, Tryd.ntmps37
    go_wp2_with fail
    refine HC.mono ?_
    rintro e w1 ⟨rfl, hb1⟩
    have HB1 : Hid (Below w.heap.size w w1) := HB0.out.trans (hb1.mono HB0.out.size)
    go_wp2_with fail
    exact bodyPost_ret (v := .tuple #[.int .i64 0, .bool false]) (by simp [results, Tryd.results37, go_sem]) rfl ⟨rfl, HB1.out⟩
  · cases hg : greatB n
    · have e1 : finN n true = n := by rw [HFn, hg]; rfl
      have e2 : finB n true = true := by rw [HFb, hg]; rfl
      rw [e1, e2]
      simp only [hg] at H35
      clear HFn HFb e1 e2 hg
      go_enter Tryd.func37, Tryd.ntmps37
      go_wp2_with fail
      refine HC.mono ?_
      rintro e w1 ⟨rfl, hb1⟩
      have HB1 : Hid (Below w.heap.size w w1) := HB0.out.trans (hb1.mono HB0.out.size)
      go_wp2_with fail
      refine (H35.out _).mono ?_
      rintro e w2 ⟨rfl, hw⟩
      obtain rfl := hw
      go_wp2_with fail
      exact bodyPost_ret (v := .tuple #[.int .i64 n, .bool true]) (by simp [results, Tryd.results37, go_sem]) rfl ⟨rfl, HB1.out⟩
    · have e1 : finN n true = 0 := by rw [HFn, hg]; rfl
      have e2 : finB n true = false := by rw [HFb, hg]; rfl
      rw [e1, e2]
      simp only [hg] at H35
      clear HFn HFb e1 e2 hg
      go_enter Tryd.func37, Tryd.ntmps37
      go_wp2_with fail
      refine HC.mono ?_
      rintro e w1 ⟨rfl, hb1⟩
      have HB1 : Hid (Below w.heap.size w w1) := HB0.out.trans (hb1.mono HB0.out.size)
      go_wp2_with fail
      refine (H35.out _).mono ?_
      rintro e w2 ⟨rfl, hw⟩
      obtain rfl := hw
      go_wp2_with fail
      exact bodyPost_ret (v := .tuple #[.int .i64 0, .bool false]) (by simp [results, Tryd.results37, go_sem]) rfl ⟨rfl, HB1.out⟩
set_option maxRecDepth 100000 in
set_option maxHeartbeats 1000000 in
theorem h37_73 (t : ByteArray) (ar : Int) (bx : Nat) (a : Option Addr) (k cap : Nat) (n : Int) (ok : Bool) (w : World) (hc : ∀ W, Below w.heap.size w W → Calls Tryd.prog 73 #[.slice a k cap, .pointer (some ⟨bx, 0, none⟩)] W fun e w' => e = .returned (.tuple #[.int .i64 n, .bool ok]) ∧ Below W.heap.size W w') :
    Calls Tryd.prog 37 #[.agg #[.string t, .int .i64 ar, .func (Fn.func 73) #[] #[.pointer (some ⟨bx, 0, none⟩)]], .slice a k cap] w fun e w' => e = .returned (.tuple #[.int .i64 (finN n ok), .bool (finB n ok)]) ∧ Below w.heap.size w w' := by
  have HB0 : Hid (Below w.heap.size w (w.alloc (.cells #[.string t, .int .i64 ar, .func (Fn.func 73) #[] #[.pointer (some ⟨bx, 0, none⟩)]] 74))) := (Below.refl _ w).alloc (Nat.le_refl _) _
  have HC := hc _ HB0.out
  have H35 : Hid (∀ W, Calls Tryd.prog 35 #[.int .i64 n] W fun e w' => e = .returned (.bool (greatB n)) ∧ w' = W) := fun W => h35 n W
  have c2 : (w.alloc (.cells #[.string t, .int .i64 ar, .func (Fn.func 73) #[] #[.pointer (some ⟨bx, 0, none⟩)]] 74)).cell? ⟨w.heap.size, 2, none⟩ = some (.func (Fn.func 73) #[] #[.pointer (some ⟨bx, 0, none⟩)]) := by
    rw [cell_of_row _ _ 2 _ 74 (0, 0) (heap_alloc_new w _)]; rfl
  clear hc
  have HFn : finN n ok = if (ok && !greatB n) = true then n else 0 := rfl
  have HFb : finB n ok = (ok && !greatB n) := rfl
  cases ok
  · have e1 : finN n false = 0 := by rw [HFn]; rfl
    have e2 : finB n false = false := by rw [HFb]; rfl
    rw [e1, e2]
    clear HFn HFb e1 e2
    go_enter Tryd.func37, Tryd.ntmps37
    go_wp2_with fail
    refine HC.mono ?_
    rintro e w1 ⟨rfl, hb1⟩
    have HB1 : Hid (Below w.heap.size w w1) := HB0.out.trans (hb1.mono HB0.out.size)
    go_wp2_with fail
    exact bodyPost_ret (v := .tuple #[.int .i64 0, .bool false]) (by simp [results, Tryd.results37, go_sem]) rfl ⟨rfl, HB1.out⟩
  · cases hg : greatB n
    · have e1 : finN n true = n := by rw [HFn, hg]; rfl
      have e2 : finB n true = true := by rw [HFb, hg]; rfl
      rw [e1, e2]
      simp only [hg] at H35
      clear HFn HFb e1 e2 hg
      go_enter Tryd.func37, Tryd.ntmps37
      go_wp2_with fail
      refine HC.mono ?_
      rintro e w1 ⟨rfl, hb1⟩
      have HB1 : Hid (Below w.heap.size w w1) := HB0.out.trans (hb1.mono HB0.out.size)
      go_wp2_with fail
      refine (H35.out _).mono ?_
      rintro e w2 ⟨rfl, hw⟩
      obtain rfl := hw
      go_wp2_with fail
      exact bodyPost_ret (v := .tuple #[.int .i64 n, .bool true]) (by simp [results, Tryd.results37, go_sem]) rfl ⟨rfl, HB1.out⟩
    · have e1 : finN n true = 0 := by rw [HFn, hg]; rfl
      have e2 : finB n true = false := by rw [HFb, hg]; rfl
      rw [e1, e2]
      simp only [hg] at H35
      clear HFn HFb e1 e2 hg
      go_enter Tryd.func37, Tryd.ntmps37
      go_wp2_with fail
      refine HC.mono ?_
      rintro e w1 ⟨rfl, hb1⟩
      have HB1 : Hid (Below w.heap.size w w1) := HB0.out.trans (hb1.mono HB0.out.size)
      go_wp2_with fail
      refine (H35.out _).mono ?_
      rintro e w2 ⟨rfl, hw⟩
      obtain rfl := hw
      go_wp2_with fail
      exact bodyPost_ret (v := .tuple #[.int .i64 0, .bool false]) (by simp [results, Tryd.results37, go_sem]) rfl ⟨rfl, HB1.out⟩
set_option maxRecDepth 100000 in
set_option maxHeartbeats 1000000 in
theorem h37_60 (t : ByteArray) (ar : Int) (a : Option Addr) (k cap : Nat) (n : Int) (ok : Bool) (w : World) (hc : ∀ W, Below w.heap.size w W → Calls Tryd.prog 60 #[.slice a k cap] W fun e w' => e = .returned (.tuple #[.int .i64 n, .bool ok]) ∧ Below W.heap.size W w') :
    Calls Tryd.prog 37 #[.agg #[.string t, .int .i64 ar, .func (Fn.func 60) #[] #[]], .slice a k cap] w fun e w' => e = .returned (.tuple #[.int .i64 (finN n ok), .bool (finB n ok)]) ∧ Below w.heap.size w w' := by
  have HB0 : Hid (Below w.heap.size w (w.alloc (.cells #[.string t, .int .i64 ar, .func (Fn.func 60) #[] #[]] 74))) := (Below.refl _ w).alloc (Nat.le_refl _) _
  have HC := hc _ HB0.out
  have H35 : Hid (∀ W, Calls Tryd.prog 35 #[.int .i64 n] W fun e w' => e = .returned (.bool (greatB n)) ∧ w' = W) := fun W => h35 n W
  have c2 : (w.alloc (.cells #[.string t, .int .i64 ar, .func (Fn.func 60) #[] #[]] 74)).cell? ⟨w.heap.size, 2, none⟩ = some (.func (Fn.func 60) #[] #[]) := by
    rw [cell_of_row _ _ 2 _ 74 (0, 0) (heap_alloc_new w _)]; rfl
  clear hc
  have HFn : finN n ok = if (ok && !greatB n) = true then n else 0 := rfl
  have HFb : finB n ok = (ok && !greatB n) := rfl
  cases ok
  · have e1 : finN n false = 0 := by rw [HFn]; rfl
    have e2 : finB n false = false := by rw [HFb]; rfl
    rw [e1, e2]
    clear HFn HFb e1 e2
    go_enter Tryd.func37, Tryd.ntmps37
    go_wp2_with fail
    refine HC.mono ?_
    rintro e w1 ⟨rfl, hb1⟩
    have HB1 : Hid (Below w.heap.size w w1) := HB0.out.trans (hb1.mono HB0.out.size)
    go_wp2_with fail
    exact bodyPost_ret (v := .tuple #[.int .i64 0, .bool false]) (by simp [results, Tryd.results37, go_sem]) rfl ⟨rfl, HB1.out⟩
  · cases hg : greatB n
    · have e1 : finN n true = n := by rw [HFn, hg]; rfl
      have e2 : finB n true = true := by rw [HFb, hg]; rfl
      rw [e1, e2]
      simp only [hg] at H35
      clear HFn HFb e1 e2 hg
      go_enter Tryd.func37, Tryd.ntmps37
      go_wp2_with fail
      refine HC.mono ?_
      rintro e w1 ⟨rfl, hb1⟩
      have HB1 : Hid (Below w.heap.size w w1) := HB0.out.trans (hb1.mono HB0.out.size)
      go_wp2_with fail
      refine (H35.out _).mono ?_
      rintro e w2 ⟨rfl, hw⟩
      obtain rfl := hw
      go_wp2_with fail
      exact bodyPost_ret (v := .tuple #[.int .i64 n, .bool true]) (by simp [results, Tryd.results37, go_sem]) rfl ⟨rfl, HB1.out⟩
    · have e1 : finN n true = 0 := by rw [HFn, hg]; rfl
      have e2 : finB n true = false := by rw [HFb, hg]; rfl
      rw [e1, e2]
      simp only [hg] at H35
      clear HFn HFb e1 e2 hg
      go_enter Tryd.func37, Tryd.ntmps37
      go_wp2_with fail
      refine HC.mono ?_
      rintro e w1 ⟨rfl, hb1⟩
      have HB1 : Hid (Below w.heap.size w w1) := HB0.out.trans (hb1.mono HB0.out.size)
      go_wp2_with fail
      refine (H35.out _).mono ?_
      rintro e w2 ⟨rfl, hw⟩
      obtain rfl := hw
      go_wp2_with fail
      exact bodyPost_ret (v := .tuple #[.int .i64 0, .bool false]) (by simp [results, Tryd.results37, go_sem]) rfl ⟨rfl, HB1.out⟩
/-- The row of operators, whose captured functions lie from B on. -/
def opsV (B : Nat) : Array Value := #[.string ⟨#[43]⟩, .int .i64 2, .func (Fn.func 72) #[] #[.pointer (some ⟨B + 0, 0, none⟩)], .string ⟨#[45]⟩, .int .i64 2, .func (Fn.func 72) #[] #[.pointer (some ⟨B + 1, 0, none⟩)], .string ⟨#[42]⟩, .int .i64 2, .func (Fn.func 72) #[] #[.pointer (some ⟨B + 2, 0, none⟩)], .string ⟨#[100, 105, 118]⟩, .int .i64 2, .func (Fn.func 73) #[] #[.pointer (some ⟨B + 3, 0, none⟩)], .string ⟨#[109, 111, 100]⟩, .int .i64 2, .func (Fn.func 73) #[] #[.pointer (some ⟨B + 4, 0, none⟩)], .string ⟨#[109, 105, 110]⟩, .int .i64 2, .func (Fn.func 72) #[] #[.pointer (some ⟨B + 5, 0, none⟩)], .string ⟨#[109, 97, 120]⟩, .int .i64 2, .func (Fn.func 72) #[] #[.pointer (some ⟨B + 6, 0, none⟩)], .string ⟨#[97, 98, 115]⟩, .int .i64 1, .func (Fn.func 60) #[] #[]]
def opFn : Nat → Nat
  | 0 => 52
  | 1 => 53
  | 2 => 54
  | 3 => 56
  | 4 => 57
  | 5 => 58
  | _ => 59
structure OpsAt (w : World) (B g : Nat) : Prop where
  row : w.heap[g]? = some (.cells (opsV B) 74 (0, 0))
  box : ∀ k, k < 7 → w.heap[B + k]? = some (.cells #[.func (Fn.func (opFn k)) #[] #[]] 90 (0, 0))
theorem OpsAt.below {w w' : World} {B g : Nat} (h : OpsAt w B g) (hb : Below w.heap.size w w') : OpsAt w' B g :=
  ⟨(hb.block g (Array.getElem?_eq_some_iff.1 h.row).1).trans h.row, fun k hk => (hb.block _ (Array.getElem?_eq_some_iff.1 (h.box k hk)).1).trans (h.box k hk)⟩
theorem opsAt_made (w : World) : OpsAt ((((((((w.alloc (.cells #[.func (Fn.func 52) #[] #[]] 90)).alloc (.cells #[.func (Fn.func 53) #[] #[]] 90)).alloc (.cells #[.func (Fn.func 54) #[] #[]] 90)).alloc (.cells #[.func (Fn.func 56) #[] #[]] 90)).alloc (.cells #[.func (Fn.func 57) #[] #[]] 90)).alloc (.cells #[.func (Fn.func 58) #[] #[]] 90)).alloc (.cells #[.func (Fn.func 59) #[] #[]] 90)).alloc (.cells (opsV w.heap.size) 74)) w.heap.size (w.heap.size + 7) ∧ Below w.heap.size w ((((((((w.alloc (.cells #[.func (Fn.func 52) #[] #[]] 90)).alloc (.cells #[.func (Fn.func 53) #[] #[]] 90)).alloc (.cells #[.func (Fn.func 54) #[] #[]] 90)).alloc (.cells #[.func (Fn.func 56) #[] #[]] 90)).alloc (.cells #[.func (Fn.func 57) #[] #[]] 90)).alloc (.cells #[.func (Fn.func 58) #[] #[]] 90)).alloc (.cells #[.func (Fn.func 59) #[] #[]] 90)).alloc (.cells (opsV w.heap.size) 74)) := by
  obtain ⟨w1, h1⟩ : ∃ W, W = w.alloc (.cells #[.func (Fn.func 52) #[] #[]] 90) := ⟨_, rfl⟩
  rw [← h1]
  have s1 : w1.heap.size = w.heap.size + 1 := by rw [h1]; simp
  have b0 : w1.heap[w.heap.size + 0]? = some (.cells #[.func (Fn.func 52) #[] #[]] 90 (0, 0)) := by rw [h1]; exact heap_alloc_new w _
  have hB1 : Below w.heap.size w w1 := by rw [h1]; exact (Below.refl _ w).alloc (Nat.le_refl _) _
  clear h1
  obtain ⟨w2, h2⟩ : ∃ W, W = w1.alloc (.cells #[.func (Fn.func 53) #[] #[]] 90) := ⟨_, rfl⟩
  rw [← h2]
  have s2 : w2.heap.size = w.heap.size + 2 := by rw [h2]; simp [s1]
  have b1 : w2.heap[w.heap.size + 1]? = some (.cells #[.func (Fn.func 53) #[] #[]] 90 (0, 0)) := by rw [h2]; rw [← s1]; exact heap_alloc_new w1 _
  have hB2 : Below w.heap.size w w2 := by rw [h2]; exact hB1.alloc (by omega) _
  have b0 : w2.heap[w.heap.size + 0]? = some (.cells #[.func (Fn.func 52) #[] #[]] 90 (0, 0)) := by rw [h2, Below.heap_alloc w1 _ _ (by omega)]; exact b0
  clear h2
  obtain ⟨w3, h3⟩ : ∃ W, W = w2.alloc (.cells #[.func (Fn.func 54) #[] #[]] 90) := ⟨_, rfl⟩
  rw [← h3]
  have s3 : w3.heap.size = w.heap.size + 3 := by rw [h3]; simp [s2]
  have b2 : w3.heap[w.heap.size + 2]? = some (.cells #[.func (Fn.func 54) #[] #[]] 90 (0, 0)) := by rw [h3]; rw [← s2]; exact heap_alloc_new w2 _
  have hB3 : Below w.heap.size w w3 := by rw [h3]; exact hB2.alloc (by omega) _
  have b0 : w3.heap[w.heap.size + 0]? = some (.cells #[.func (Fn.func 52) #[] #[]] 90 (0, 0)) := by rw [h3, Below.heap_alloc w2 _ _ (by omega)]; exact b0
  have b1 : w3.heap[w.heap.size + 1]? = some (.cells #[.func (Fn.func 53) #[] #[]] 90 (0, 0)) := by rw [h3, Below.heap_alloc w2 _ _ (by omega)]; exact b1
  clear h3
  obtain ⟨w4, h4⟩ : ∃ W, W = w3.alloc (.cells #[.func (Fn.func 56) #[] #[]] 90) := ⟨_, rfl⟩
  rw [← h4]
  have s4 : w4.heap.size = w.heap.size + 4 := by rw [h4]; simp [s3]
  have b3 : w4.heap[w.heap.size + 3]? = some (.cells #[.func (Fn.func 56) #[] #[]] 90 (0, 0)) := by rw [h4]; rw [← s3]; exact heap_alloc_new w3 _
  have hB4 : Below w.heap.size w w4 := by rw [h4]; exact hB3.alloc (by omega) _
  have b0 : w4.heap[w.heap.size + 0]? = some (.cells #[.func (Fn.func 52) #[] #[]] 90 (0, 0)) := by rw [h4, Below.heap_alloc w3 _ _ (by omega)]; exact b0
  have b1 : w4.heap[w.heap.size + 1]? = some (.cells #[.func (Fn.func 53) #[] #[]] 90 (0, 0)) := by rw [h4, Below.heap_alloc w3 _ _ (by omega)]; exact b1
  have b2 : w4.heap[w.heap.size + 2]? = some (.cells #[.func (Fn.func 54) #[] #[]] 90 (0, 0)) := by rw [h4, Below.heap_alloc w3 _ _ (by omega)]; exact b2
  clear h4
  obtain ⟨w5, h5⟩ : ∃ W, W = w4.alloc (.cells #[.func (Fn.func 57) #[] #[]] 90) := ⟨_, rfl⟩
  rw [← h5]
  have s5 : w5.heap.size = w.heap.size + 5 := by rw [h5]; simp [s4]
  have b4 : w5.heap[w.heap.size + 4]? = some (.cells #[.func (Fn.func 57) #[] #[]] 90 (0, 0)) := by rw [h5]; rw [← s4]; exact heap_alloc_new w4 _
  have hB5 : Below w.heap.size w w5 := by rw [h5]; exact hB4.alloc (by omega) _
  have b0 : w5.heap[w.heap.size + 0]? = some (.cells #[.func (Fn.func 52) #[] #[]] 90 (0, 0)) := by rw [h5, Below.heap_alloc w4 _ _ (by omega)]; exact b0
  have b1 : w5.heap[w.heap.size + 1]? = some (.cells #[.func (Fn.func 53) #[] #[]] 90 (0, 0)) := by rw [h5, Below.heap_alloc w4 _ _ (by omega)]; exact b1
  have b2 : w5.heap[w.heap.size + 2]? = some (.cells #[.func (Fn.func 54) #[] #[]] 90 (0, 0)) := by rw [h5, Below.heap_alloc w4 _ _ (by omega)]; exact b2
  have b3 : w5.heap[w.heap.size + 3]? = some (.cells #[.func (Fn.func 56) #[] #[]] 90 (0, 0)) := by rw [h5, Below.heap_alloc w4 _ _ (by omega)]; exact b3
  clear h5
  obtain ⟨w6, h6⟩ : ∃ W, W = w5.alloc (.cells #[.func (Fn.func 58) #[] #[]] 90) := ⟨_, rfl⟩
  rw [← h6]
  have s6 : w6.heap.size = w.heap.size + 6 := by rw [h6]; simp [s5]
  have b5 : w6.heap[w.heap.size + 5]? = some (.cells #[.func (Fn.func 58) #[] #[]] 90 (0, 0)) := by rw [h6]; rw [← s5]; exact heap_alloc_new w5 _
  have hB6 : Below w.heap.size w w6 := by rw [h6]; exact hB5.alloc (by omega) _
  have b0 : w6.heap[w.heap.size + 0]? = some (.cells #[.func (Fn.func 52) #[] #[]] 90 (0, 0)) := by rw [h6, Below.heap_alloc w5 _ _ (by omega)]; exact b0
  have b1 : w6.heap[w.heap.size + 1]? = some (.cells #[.func (Fn.func 53) #[] #[]] 90 (0, 0)) := by rw [h6, Below.heap_alloc w5 _ _ (by omega)]; exact b1
  have b2 : w6.heap[w.heap.size + 2]? = some (.cells #[.func (Fn.func 54) #[] #[]] 90 (0, 0)) := by rw [h6, Below.heap_alloc w5 _ _ (by omega)]; exact b2
  have b3 : w6.heap[w.heap.size + 3]? = some (.cells #[.func (Fn.func 56) #[] #[]] 90 (0, 0)) := by rw [h6, Below.heap_alloc w5 _ _ (by omega)]; exact b3
  have b4 : w6.heap[w.heap.size + 4]? = some (.cells #[.func (Fn.func 57) #[] #[]] 90 (0, 0)) := by rw [h6, Below.heap_alloc w5 _ _ (by omega)]; exact b4
  clear h6
  obtain ⟨w7, h7⟩ : ∃ W, W = w6.alloc (.cells #[.func (Fn.func 59) #[] #[]] 90) := ⟨_, rfl⟩
  rw [← h7]
  have s7 : w7.heap.size = w.heap.size + 7 := by rw [h7]; simp [s6]
  have b6 : w7.heap[w.heap.size + 6]? = some (.cells #[.func (Fn.func 59) #[] #[]] 90 (0, 0)) := by rw [h7]; rw [← s6]; exact heap_alloc_new w6 _
  have hB7 : Below w.heap.size w w7 := by rw [h7]; exact hB6.alloc (by omega) _
  have b0 : w7.heap[w.heap.size + 0]? = some (.cells #[.func (Fn.func 52) #[] #[]] 90 (0, 0)) := by rw [h7, Below.heap_alloc w6 _ _ (by omega)]; exact b0
  have b1 : w7.heap[w.heap.size + 1]? = some (.cells #[.func (Fn.func 53) #[] #[]] 90 (0, 0)) := by rw [h7, Below.heap_alloc w6 _ _ (by omega)]; exact b1
  have b2 : w7.heap[w.heap.size + 2]? = some (.cells #[.func (Fn.func 54) #[] #[]] 90 (0, 0)) := by rw [h7, Below.heap_alloc w6 _ _ (by omega)]; exact b2
  have b3 : w7.heap[w.heap.size + 3]? = some (.cells #[.func (Fn.func 56) #[] #[]] 90 (0, 0)) := by rw [h7, Below.heap_alloc w6 _ _ (by omega)]; exact b3
  have b4 : w7.heap[w.heap.size + 4]? = some (.cells #[.func (Fn.func 57) #[] #[]] 90 (0, 0)) := by rw [h7, Below.heap_alloc w6 _ _ (by omega)]; exact b4
  have b5 : w7.heap[w.heap.size + 5]? = some (.cells #[.func (Fn.func 58) #[] #[]] 90 (0, 0)) := by rw [h7, Below.heap_alloc w6 _ _ (by omega)]; exact b5
  clear h7
  refine ⟨⟨?_, fun k hk => ?_⟩, hB7.alloc (by omega) _⟩
  · rw [← s7]; exact heap_alloc_new w7 _
  · rw [Below.heap_alloc w7 _ _ (by omega)]
    match k, hk with
    | 0, _ => exact b0
    | 1, _ => exact b1
    | 2, _ => exact b2
    | 3, _ => exact b3
    | 4, _ => exact b4
    | 5, _ => exact b5
    | 6, _ => exact b6
set_option maxRecDepth 100000 in
set_option maxHeartbeats 4000000 in
theorem h36 (w : World) : Calls Tryd.prog 36 #[] w fun e w' => e = .returned (.slice (some ⟨w.heap.size + 7, 0, none⟩) 8 8) ∧ OpsAt w' w.heap.size (w.heap.size + 7) ∧ Below w.heap.size w w' := by
  have HM := opsAt_made w
  unfold opsV at HM
  have HM : Hid (_ ∧ _) := HM
  go_enter Tryd.func36, Tryd.ntmps36
  go_wp2_with fail
  refine (h51 52 _).mono ?_
  rintro e w' ⟨rfl, rfl⟩
  go_wp2_with fail
  refine (h51 53 _).mono ?_
  rintro e w' ⟨rfl, rfl⟩
  go_wp2_with fail
  refine (h51 54 _).mono ?_
  rintro e w' ⟨rfl, rfl⟩
  go_wp2_with fail
  refine (h55 56 _).mono ?_
  rintro e w' ⟨rfl, rfl⟩
  go_wp2_with fail
  refine (h55 57 _).mono ?_
  rintro e w' ⟨rfl, rfl⟩
  go_wp2_with fail
  refine (h51 58 _).mono ?_
  rintro e w' ⟨rfl, rfl⟩
  go_wp2_with fail
  refine (h51 59 _).mono ?_
  rintro e w' ⟨rfl, rfl⟩
  go_wp2_with fail
  go_ret
  exact ⟨rfl, HM.out⟩
end Go.Proofs.YteikdgjlhdgapaaDoor
namespace Go.Proofs.YteikdgjlhdgapaaDoor
open Go.RowKit
def opT : Nat → ByteArray
  | 0 => ⟨#[43]⟩
  | 1 => ⟨#[45]⟩
  | 2 => ⟨#[42]⟩
  | 3 => ⟨#[100, 105, 118]⟩
  | 4 => ⟨#[109, 111, 100]⟩
  | 5 => ⟨#[109, 105, 110]⟩
  | 6 => ⟨#[109, 97, 120]⟩
  | _ => ⟨#[97, 98, 115]⟩
def opA : Nat → Int
  | 7 => 1
  | _ => 2
def cloV (B : Nat) : Nat → Value
  | 0 => .func (Fn.func 72) #[] #[.pointer (some ⟨B + 0, 0, none⟩)]
  | 1 => .func (Fn.func 72) #[] #[.pointer (some ⟨B + 1, 0, none⟩)]
  | 2 => .func (Fn.func 72) #[] #[.pointer (some ⟨B + 2, 0, none⟩)]
  | 3 => .func (Fn.func 73) #[] #[.pointer (some ⟨B + 3, 0, none⟩)]
  | 4 => .func (Fn.func 73) #[] #[.pointer (some ⟨B + 4, 0, none⟩)]
  | 5 => .func (Fn.func 72) #[] #[.pointer (some ⟨B + 5, 0, none⟩)]
  | 6 => .func (Fn.func 72) #[] #[.pointer (some ⟨B + 6, 0, none⟩)]
  | _ => .func (Fn.func 60) #[] #[]
theorem OpsAt.at {w : World} {B g : Nat} (h : OpsAt w B g) (k : Nat) (hk : k < 8) : w.cell? ⟨g, k * 3, none⟩ = some (.string (opT k)) ∧ w.cell? ⟨g, k * 3 + 1, none⟩ = some (.int .i64 (opA k)) ∧ w.cell? ⟨g, k * 3 + 2, none⟩ = some (cloV B k) := by
  match k, hk with
  | 0, _ => exact ⟨by rw [cell_of_row w g _ _ 74 (0, 0) h.row]; rfl, by rw [cell_of_row w g _ _ 74 (0, 0) h.row]; rfl, by rw [cell_of_row w g _ _ 74 (0, 0) h.row]; rfl⟩
  | 1, _ => exact ⟨by rw [cell_of_row w g _ _ 74 (0, 0) h.row]; rfl, by rw [cell_of_row w g _ _ 74 (0, 0) h.row]; rfl, by rw [cell_of_row w g _ _ 74 (0, 0) h.row]; rfl⟩
  | 2, _ => exact ⟨by rw [cell_of_row w g _ _ 74 (0, 0) h.row]; rfl, by rw [cell_of_row w g _ _ 74 (0, 0) h.row]; rfl, by rw [cell_of_row w g _ _ 74 (0, 0) h.row]; rfl⟩
  | 3, _ => exact ⟨by rw [cell_of_row w g _ _ 74 (0, 0) h.row]; rfl, by rw [cell_of_row w g _ _ 74 (0, 0) h.row]; rfl, by rw [cell_of_row w g _ _ 74 (0, 0) h.row]; rfl⟩
  | 4, _ => exact ⟨by rw [cell_of_row w g _ _ 74 (0, 0) h.row]; rfl, by rw [cell_of_row w g _ _ 74 (0, 0) h.row]; rfl, by rw [cell_of_row w g _ _ 74 (0, 0) h.row]; rfl⟩
  | 5, _ => exact ⟨by rw [cell_of_row w g _ _ 74 (0, 0) h.row]; rfl, by rw [cell_of_row w g _ _ 74 (0, 0) h.row]; rfl, by rw [cell_of_row w g _ _ 74 (0, 0) h.row]; rfl⟩
  | 6, _ => exact ⟨by rw [cell_of_row w g _ _ 74 (0, 0) h.row]; rfl, by rw [cell_of_row w g _ _ 74 (0, 0) h.row]; rfl, by rw [cell_of_row w g _ _ 74 (0, 0) h.row]; rfl⟩
  | 7, _ => exact ⟨by rw [cell_of_row w g _ _ 74 (0, 0) h.row]; rfl, by rw [cell_of_row w g _ _ 74 (0, 0) h.row]; rfl, by rw [cell_of_row w g _ _ 74 (0, 0) h.row]; rfl⟩
/-- What an operator makes of numbers, ahead of the last look. -/
def rawR : Nat → List Int → Int × Bool
  | 0, [x, y] => (x + y, true)
  | 1, [x, y] => (x - y, true)
  | 2, [x, y] => (x * y, true)
  | 3, [x, y] => if y = 0 then (0, false) else (divF x y, true)
  | 4, [x, y] => if y = 0 then (0, false) else (modF x y, true)
  | 5, [x, y] => (if y < x then y else x, true)
  | 6, [x, y] => (if x < y then y else x, true)
  | 7, [x] => (absF x, true)
  | _, _ => (0, false)
def resR (k : Nat) (ns : List Int) : Int × Bool := (finN (rawR k ns).1 (rawR k ns).2, finB (rawR k ns).1 (rawR k ns).2)
theorem two_of {ns : List Int} (h : (ns.length : Int) = 2) : ∃ x y, ns = [x, y] := by
  match ns, h with
  | [x, y], _ => exact ⟨x, y, rfl⟩
  | [], h => simp at h
  | [_], h => simp at h
  | _ :: _ :: _ :: _, h => simp at h; omega
theorem one_of {ns : List Int} (h : (ns.length : Int) = 1) : ∃ x, ns = [x] := by
  match ns, h with
  | [x], _ => exact ⟨x, rfl⟩
  | [], h => simp at h
  | _ :: _ :: _, h => simp at h; omega
theorem box_cell {w W : World} {B g k : Nat} (h : OpsAt w B g) (hW : Below w.heap.size w W) (hk : k < 7) : W.cell? ⟨B + k, 0, none⟩ = some (.func (Fn.func (opFn k)) #[] #[]) := by
  rw [cell_of_row W _ 0 _ 90 (0, 0) ((h.below hW).box k hk)]; rfl
theorem pair_cells {w : World} {v : Value} {x y : Int} (h : IntsR w v [x, y]) : ∃ b o cap, v = .slice (some ⟨b, o, none⟩) 2 cap ∧ ∀ W, Below w.heap.size w W → W.cell? ⟨b, o, none⟩ = some (.int .i64 x) ∧ W.cell? ⟨b, o + 1, none⟩ = some (.int .i64 y) := by
  rcases h.2 with ⟨e, _⟩ | ⟨b, o, cap, h1, h2, h3⟩
  · cases e
  · refine ⟨b, o, cap, h1, fun W hW => ⟨(hW.cell (p := ⟨b, o, none⟩) h2).trans (h3 0 _ rfl), (hW.cell (p := ⟨b, o + 1, none⟩) h2).trans (h3 1 _ rfl)⟩⟩
set_option maxRecDepth 100000 in
theorem h37 (k : Nat) (hk : k < 8) (ns : List Int) (B g : Nat) (v : Value) (w : World) (hO : OpsAt w B g) (hI : IntsR w v ns) (hl : (ns.length : Int) = opA k) (hok : ∀ x ∈ ns, okI x) :
    Calls Tryd.prog 37 #[.agg #[.string (opT k), .int .i64 (opA k), cloV B k], v] w fun e w' => e = .returned (.tuple #[.int .i64 (resR k ns).1, .bool (resR k ns).2]) ∧ Below w.heap.size w w' := by
  match k, hk with
  | 0, _ =>
    obtain ⟨x, y, rfl⟩ := two_of hl
    obtain ⟨b, o, cap, rfl, hc⟩ := pair_cells hI
    have hx := hok x (by simp)
    have hy := hok y (by simp)
    exact h37_72 _ 2 (B + 0) _ 2 cap (x + y) true w (fun W hW => h72_52 (B + 0) b o cap x y _ W ⟨box_cell hO hW (by omega), (hc W hW).1, (hc W hW).2⟩ (fun W' => h52 x y W' hx hy))
  | 1, _ =>
    obtain ⟨x, y, rfl⟩ := two_of hl
    obtain ⟨b, o, cap, rfl, hc⟩ := pair_cells hI
    have hx := hok x (by simp)
    have hy := hok y (by simp)
    exact h37_72 _ 2 (B + 1) _ 2 cap (x - y) true w (fun W hW => h72_53 (B + 1) b o cap x y _ W ⟨box_cell hO hW (by omega), (hc W hW).1, (hc W hW).2⟩ (fun W' => h53 x y W' hx hy))
  | 2, _ =>
    obtain ⟨x, y, rfl⟩ := two_of hl
    obtain ⟨b, o, cap, rfl, hc⟩ := pair_cells hI
    have hx := hok x (by simp)
    have hy := hok y (by simp)
    exact h37_72 _ 2 (B + 2) _ 2 cap (x * y) true w (fun W hW => h72_54 (B + 2) b o cap x y _ W ⟨box_cell hO hW (by omega), (hc W hW).1, (hc W hW).2⟩ (fun W' => h54 x y W' hx hy))
  | 3, _ =>
    obtain ⟨x, y, rfl⟩ := two_of hl
    obtain ⟨b, o, cap, rfl, hc⟩ := pair_cells hI
    have hx := hok x (by simp)
    have hy := hok y (by simp)
    by_cases h0 : y = 0
    · have e : rawR 3 [x, y] = (0, false) := by show (if y = 0 then ((0 : Int), false) else _) = _; rw [if_pos h0]
      unfold resR
      rw [e]
      exact h37_73 _ 2 (B + 3) _ 2 cap 0 false w (fun W hW => h73n (B + 3) b o cap W (by rw [← h0]; exact (hc W hW).2))
    · have e : rawR 3 [x, y] = (divF x y, true) := by show (if y = 0 then ((0 : Int), false) else _) = _; rw [if_neg h0]
      unfold resR
      rw [e]
      exact h37_73 _ 2 (B + 3) _ 2 cap (divF x y) true w (fun W hW => h73_56 (B + 3) b o cap x y _ W ⟨box_cell hO hW (by omega), (hc W hW).1, (hc W hW).2⟩ h0 (fun W' => h56 x y W' hx h0))
  | 4, _ =>
    obtain ⟨x, y, rfl⟩ := two_of hl
    obtain ⟨b, o, cap, rfl, hc⟩ := pair_cells hI
    have hx := hok x (by simp)
    have hy := hok y (by simp)
    by_cases h0 : y = 0
    · have e : rawR 4 [x, y] = (0, false) := by show (if y = 0 then ((0 : Int), false) else _) = _; rw [if_pos h0]
      unfold resR
      rw [e]
      exact h37_73 _ 2 (B + 4) _ 2 cap 0 false w (fun W hW => h73n (B + 4) b o cap W (by rw [← h0]; exact (hc W hW).2))
    · have e : rawR 4 [x, y] = (modF x y, true) := by show (if y = 0 then ((0 : Int), false) else _) = _; rw [if_neg h0]
      unfold resR
      rw [e]
      exact h37_73 _ 2 (B + 4) _ 2 cap (modF x y) true w (fun W hW => h73_57 (B + 4) b o cap x y _ W ⟨box_cell hO hW (by omega), (hc W hW).1, (hc W hW).2⟩ h0 (fun W' => h57 x y W' hx hy h0))
  | 5, _ =>
    obtain ⟨x, y, rfl⟩ := two_of hl
    obtain ⟨b, o, cap, rfl, hc⟩ := pair_cells hI
    have hx := hok x (by simp)
    have hy := hok y (by simp)
    exact h37_72 _ 2 (B + 5) _ 2 cap (if y < x then y else x) true w (fun W hW => h72_58 (B + 5) b o cap x y _ W ⟨box_cell hO hW (by omega), (hc W hW).1, (hc W hW).2⟩ (fun W' => h58 x y W' ))
  | 6, _ =>
    obtain ⟨x, y, rfl⟩ := two_of hl
    obtain ⟨b, o, cap, rfl, hc⟩ := pair_cells hI
    have hx := hok x (by simp)
    have hy := hok y (by simp)
    exact h37_72 _ 2 (B + 6) _ 2 cap (if x < y then y else x) true w (fun W hW => h72_59 (B + 6) b o cap x y _ W ⟨box_cell hO hW (by omega), (hc W hW).1, (hc W hW).2⟩ (fun W' => h59 x y W' ))
  | 7, _ =>
    obtain ⟨x, rfl⟩ := one_of hl
    have hx := hok x (by simp)
    rcases hI.2 with ⟨e, _⟩ | ⟨b, o, cap, rfl, h2, h3⟩
    · cases e
    · exact h37_60 _ 1 _ 1 cap (absF x) true w (fun W hW => h60 b o cap x W ((hW.cell (p := ⟨b, o, none⟩) h2).trans (h3 0 _ rfl)) hx)
def matchB (op : ByteArray) (n : Int) (k : Nat) : Bool := (opT k).toList == op.toList && opA k == n
def reckS (op : ByteArray) (ns : List Int) : Int × Bool :=
  if ns.any greatB then (0, false) else match (List.range 8).find? (matchB op ns.length) with | some k => resR k ns | none => (0, false)
theorem find_range {f : Nat → Bool} {n k : Nat} (hk : k < n) (h : f k = true) (hb : ∀ j, j < k → f j = false) : (List.range n).find? f = some k := by
  rw [List.find?_eq_some_iff_getElem]
  refine ⟨h, k, by simpa using hk, by simp, fun j hj => ?_⟩
  simp [hb j hj]
theorem find_none {f : Nat → Bool} {n : Nat} (hb : ∀ j, j < n → f j = false) : (List.range n).find? f = none := by
  rw [List.find?_eq_none]
  intro x hx
  simp [hb x (List.mem_range.1 hx)]
theorem cloV_one (B k : Nat) : ∃ f cs, cloV B k = .func (Fn.func f) #[] cs := by
  match k with
  | 0 => exact ⟨_, _, rfl⟩
  | 1 => exact ⟨_, _, rfl⟩
  | 2 => exact ⟨_, _, rfl⟩
  | 3 => exact ⟨_, _, rfl⟩
  | 4 => exact ⟨_, _, rfl⟩
  | 5 => exact ⟨_, _, rfl⟩
  | 6 => exact ⟨_, _, rfl⟩
  | _ + 7 => exact ⟨_, _, rfl⟩
set_option maxRecDepth 100000 in
set_option maxHeartbeats 4000000 in
theorem h17 (op : ByteArray) (ns : List Int) (v : Value) (w : World) (hI : IntsR w v ns) :
    Calls Tryd.prog 17 #[.string op, v] w fun e w' => e = .returned (.tuple #[.int .i64 (reckS op ns).1, .bool (reckS op ns).2]) ∧ Below w.heap.size w w' := by
  have HI : Hid (IntsR w v ns) := hI
  have H34 := h34 ns v w hI
  have H36 := h36 w
  obtain ⟨ad, cap, hv⟩ := hI.form
  subst hv
  clear hI
  have HR : reckS op ns = if ns.any greatB then (0, false) else match (List.range 8).find? (matchB op ns.length) with | some k => resR k ns | none => (0, false) := rfl
  cases hg : ns.any greatB
  · rw [hg] at HR H34
    simp only [Bool.false_eq_true, if_false] at HR
    have HRh : Hid (reckS op ns = match (List.range 8).find? (matchB op ns.length) with | some k => resR k ns | none => (0, false)) := HR
    clear HR
    have HOk : Hid (∀ x ∈ ns, okI x) := fun x hx => by
      have := List.any_eq_false.1 hg x hx
      unfold okI
      simp [greatB] at this
      omega
    clear hg
    go_enter Tryd.func17, Tryd.ntmps17
    go_wp2_with fail
    refine H34.mono ?_
    rintro e w1 ⟨rfl, hw⟩
    obtain rfl := hw
    clear H34
    go_wp2_with fail
    refine H36.mono ?_
    rintro e w2 ⟨rfl, hO, hb2⟩
    have HO : Hid (OpsAt w2 w1.heap.size (w1.heap.size + 7)) := hO
    clear hO H36
    generalize w1.heap.size + 7 = g at *
    go_wp2_with fail
    go_loopw [12] (fun i wr => ∃ k : Nat, k ≤ 8 ∧ i = .int .i64 k ∧ Hid (∀ j, j < k → matchB op ns.length j = false) ∧ Below w2.heap.size w2 wr) (fun i _ => 8 - (intOf i).toNat)
    case atStart => exact ⟨0, by omega, rfl, fun j hj => by omega, Below.refl _ _⟩
    case round =>
      obtain ⟨k, hk, rfl, HK, hbr⟩ := hrel
      by_cases hlt : k < 8
      · have hlt' : (k : Int) < 8 := by omega
        have hk0 : (0 : Int) ≤ (k : Int) := by omega
        obtain ⟨c0, c1, c2⟩ := (HO.out.below hbr).at k hlt
        obtain ⟨f, fc, hcl⟩ := cloV_one w1.heap.size k
        have HCl : Hid (cloV w1.heap.size k = .func (Fn.func f) #[] fc) := hcl
        rw [hcl] at c2
        have HBa : Hid (Below w2.heap.size w2 (wr.alloc (.cells #[.string (opT k), .int .i64 (opA k), .func (Fn.func f) #[] fc] 74))) := hbr.alloc hbr.size _
        have HMa : Hid (matchB op ns.length k = ((opT k).toList == op.toList && opA k == (ns.length : Int))) := rfl
        have d0 : (wr.alloc (.cells #[.string (opT k), .int .i64 (opA k), .func (Fn.func f) #[] fc] 74)).cell? ⟨wr.heap.size, 0, none⟩ = some (.string (opT k)) := by rw [cell_of_row _ _ 0 _ 74 (0, 0) (heap_alloc_new wr _)]; rfl
        have d1 : (wr.alloc (.cells #[.string (opT k), .int .i64 (opA k), .func (Fn.func f) #[] fc] 74)).cell? ⟨wr.heap.size, 1, none⟩ = some (.int .i64 (opA k)) := by rw [cell_of_row _ _ 1 _ 74 (0, 0) (heap_alloc_new wr _)]; rfl
        have d2 : (wr.alloc (.cells #[.string (opT k), .int .i64 (opA k), .func (Fn.func f) #[] fc] 74)).cell? ⟨wr.heap.size, 2, none⟩ = some (.func (Fn.func f) #[] fc) := by rw [cell_of_row _ _ 2 _ 74 (0, 0) (heap_alloc_new wr _)]; rfl
        have H37 : Hid (opA k = (ns.length : Int) → ∀ W, Below w2.heap.size w2 W → Calls Tryd.prog 37 #[.agg #[.string (opT k), .int .i64 (opA k), .func (Fn.func f) #[] fc], .slice ad ns.length cap] W fun e w' => e = .returned (.tuple #[.int .i64 (resR k ns).1, .bool (resR k ns).2]) ∧ Below W.heap.size W w') := fun e W hW => by
          rw [← HCl.out]
          exact h37 k hlt ns w1.heap.size g _ W (HO.out.below hW) ((HI.out.below hb2).below hW) e.symm HOk.out
        have HRes : Hid (matchB op ns.length k = true → reckS op ns = resR k ns) := fun h => by rw [HRh.out, find_range hlt h HK.out]
        have HKn : Hid (matchB op ns.length k = false → ∀ j, j < k + 1 → matchB op ns.length j = false) := fun h j hj => if e : j = k then by rw [e]; exact h else HK.out j (by omega)
        clear hcl
        cases ht : ((opT k).toList == op.toList)
        · have HN : Hid (∀ j, j < k + 1 → matchB op ns.length j = false) := HKn.out (by rw [HMa.out, ht]; rfl)
          clear HMa HKn HRes H37 HCl
          generalize opT k = tx at *
          generalize opA k = ar at *
          go_wp2_with fail
          go_roundw
          case rel => exact ⟨k + 1, by omega, by go_num, HN, HBa.out⟩
          case measure => simp [intOf]; omega
        · cases hn : (opA k == (ns.length : Int))
          · have HN : Hid (∀ j, j < k + 1 → matchB op ns.length j = false) := HKn.out (by rw [HMa.out, ht, hn]; rfl)
            clear HMa HKn HRes H37 HCl
            generalize opT k = tx at *
            generalize opA k = ar at *
            go_wp2_with fail
            go_roundw
            case rel => exact ⟨k + 1, by omega, by go_num, HN, HBa.out⟩
            case measure => simp [intOf]; omega
          · have HE : Hid (reckS op ns = resR k ns) := HRes.out (by rw [HMa.out, ht, hn]; rfl)
            have H37 : Hid (∀ W, Below w2.heap.size w2 W → _) := H37.out (by simpa using hn)
            clear HMa HKn HRes HCl
            generalize resR k ns = rr at *
            generalize opT k = tx at *
            generalize opA k = ar at *
            go_wp2_with fail
            refine (H37.out _ HBa.out).mono ?_
            rintro e w3 ⟨rfl, hb3⟩
            have HB3 : Hid (Below w1.heap.size w1 w3) := hb2.trans ((HBa.out.trans (hb3.mono HBa.out.size)).mono hb2.size)
            go_wp2_with fail
            exact bodyPost_ret (v := .tuple #[.int .i64 rr.1, .bool rr.2]) (by simp [results, Tryd.results17, go_sem]) rfl ⟨by rw [HE.out], HB3.out⟩
      · have hlt' : ¬ ((k : Int) < 8) := by omega
        have HE : Hid (reckS op ns = (0, false)) := by show reckS op ns = _; rw [HRh.out, find_none (fun j hj => HK.out j (by omega))]
        have HB3 : Hid (Below w1.heap.size w1 wr) := hb2.trans (hbr.mono hb2.size)
        go_wp2_with fail
        exact bodyPost_ret (v := .tuple #[.int .i64 0, .bool false]) (by simp [results, Tryd.results17, go_sem]) rfl ⟨by rw [HE.out], HB3.out⟩
  · rw [hg] at HR H34
    simp only [if_true] at HR
    rw [HR]
    clear hg H36 HR
    go_enter Tryd.func17, Tryd.ntmps17
    go_wp2_with fail
    refine H34.mono ?_
    rintro e w1 ⟨rfl, hw⟩
    obtain rfl := hw
    go_wp2_with fail
    exact bodyPost_ret (v := .tuple #[.int .i64 0, .bool false]) (by simp [results, Tryd.results17, go_sem]) rfl ⟨rfl, Below.refl _ _⟩
end Go.Proofs.YteikdgjlhdgapaaDoor
namespace Go.Proofs.YteikdgjlhdgapaaDoor
open Go.RowKit Go.Shelf
attribute [local go_sem] Oper.semAt_some
def varsOf (l : List C) : List (Int × Int) := (l.filter fun c => c.k == 4).map fun c => (c.vn, c.vk)
def varsAll (ls : List (List C)) : List (Int × Int) := ls.flatMap varsOf
theorem varsOf_snoc_yes (l : List C) (j : Nat) (hj : j < l.length) (hk : (l[j].k == 4) = true) : varsOf (l.take (j + 1)) = varsOf (l.take j) ++ [(l[j].vn, l[j].vk)] := by
  unfold varsOf
  rw [List.take_succ_eq_append_getElem hj, List.filter_append]; simp [hk]
theorem varsOf_snoc_no (l : List C) (j : Nat) (hj : j < l.length) (hk : (l[j].k == 4) = false) : varsOf (l.take (j + 1)) = varsOf (l.take j) := by
  unfold varsOf
  rw [List.take_succ_eq_append_getElem hj, List.filter_append]; simp [hk]
theorem varsAll_snoc (ls : List (List C)) (k : Nat) (hk : k < ls.length) : varsAll (ls.take (k + 1)) = varsAll (ls.take k) ++ varsOf ls[k] := by
  unfold varsAll
  rw [List.take_succ_eq_append_getElem hk, List.flatMap_append]; simp
theorem varsOf_prefix (l : List C) (j : Nat) : varsOf (l.take j) <+: varsOf l := by
  have h : varsOf l = varsOf (l.take j) ++ varsOf (l.drop j) := by
    unfold varsOf
    rw [← List.map_append, ← List.filter_append, List.take_append_drop]
  rw [h]; exact List.prefix_append _ _
theorem varsAll_prefix (ls : List (List C)) (k : Nat) : varsAll (ls.take k) <+: varsAll ls := by
  have h : varsAll ls = varsAll (ls.take k) ++ varsAll (ls.drop k) := by
    unfold varsAll
    rw [← List.flatMap_append, List.take_append_drop]
  rw [h]; exact List.prefix_append _ _
theorem vars_at_prefix (ls : List (List C)) (k j : Nat) (hk : k < ls.length) : varsAll (ls.take k) ++ varsOf (ls[k].take j) <+: varsAll ls := by
  have h1 := varsAll_prefix ls (k + 1)
  rw [varsAll_snoc ls k hk] at h1
  exact ((List.prefix_append_right_inj _).2 (varsOf_prefix _ _)).trans h1
theorem abides_alloc {β : Type} {B : Nat} {J : β → World → Prop} (h : AbidesFrom B J) {s : β} {W : World} (o : Obj) (hs : J s W) : J s (W.alloc o) :=
  h s W _ none hs (World.grownBy_alloc W o none) (fun r e => by cases e)
set_option maxRecDepth 100000 in
set_option maxHeartbeats 4000000 in
theorem vars_in (F : Fence) (n : Nat) (h65 : F.fn 66) (hro : F.round = none) (hn : 1 ≤ n) (l Bs : Nat) (w0 : World) (B0 : Nat) (J Jx : List (Int × Int) → World → Prop) (hJ : AbidesFrom B0 J)
    (ls : List (List C)) (b o cap : Nat) (vs : List Value) (hb : b < w0.heap.size) (hc : ls.length ≤ maxLen) (hvl : vs.length = ls.length) (hr : w0.rangeAt b o vs) (ht : ∀ (i : Nat) (u : Value) (x : List C), vs[i]? = some u → ls[i]? = some x → TermAt w0 u x)
    (hY : ∀ pre x W, J pre W → pre ++ [x] <+: varsAll ls → YieldAt F (n - 1) Tryd.prog l #[.agg #[.int .i64 x.1, .int .i64 x.2]] W fun e W' =>
      (e = .returned (.bool true) ∧ J (pre ++ [x]) W' ∧ Below w0.heap.size W W') ∨ (e = .returned (.bool false) ∧ Jx (pre ++ [x]) W'))
    (W : World) (hBs : W.cell? ⟨Bs, 0, none⟩ = some (.slice (some ⟨b, o, none⟩) ls.length cap)) (hW : Below w0.heap.size w0 W) (h0 : J [] W) :
    CallsIn F n Tryd.prog 66 #[.func (.yield l) #[] #[], .pointer (some ⟨Bs, 0, none⟩)] W fun e W' => (∃ v, e = .returned v) ∧
      ((∃ ys, ys = varsAll ls ∧ J ys W') ∨ (∃ pre, pre <+: varsAll ls ∧ Jx pre W')) := by
  unfold maxLen at hc
  have HR : Hid (w0.rangeAt b o vs) := hr
  have HT : Hid (∀ (i : Nat) (u : Value) (x : List C), vs[i]? = some u → ls[i]? = some x → TermAt w0 u x) := ht
  have HV : Hid (vs.length = ls.length) := hvl
  have HY : Hid (∀ pre x W, J pre W → pre ++ [x] <+: varsAll ls → YieldAt F (n - 1) Tryd.prog l #[.agg #[.int .i64 x.1, .int .i64 x.2]] W fun e W' =>
      (e = .returned (.bool true) ∧ J (pre ++ [x]) W' ∧ Below w0.heap.size W W') ∨ (e = .returned (.bool false) ∧ Jx (pre ++ [x]) W')) := hY
  have HJ : Hid (AbidesFrom B0 J) := hJ
  clear hr ht hvl hY hJ
  refine callsIn_of_wp Tryd.func66 rfl h65 ?_ hro
  simp only [Tryd.ntmps66, List.size_toArray, List.length_cons, List.length_nil, Nat.reduceAdd, Nat.reduceSub, Array.replicate_succ, Array.replicate_zero, List.push_toArray, List.append_toArray, List.nil_append, List.cons_append]
  gi_wp2
  gi_loopw [9] (fun i wr => ∃ k : Nat, k ≤ ls.length ∧ i = .int .i64 k ∧ Hid (J (varsAll (ls.take k)) wr) ∧ Below w0.heap.size w0 wr) (fun i _ => ls.length - (intOf i).toNat)
  case atStart => exact ⟨0, Nat.zero_le _, rfl, h0, hW⟩
  case round =>
    obtain ⟨k, hk, rfl, hJs, hbr⟩ := hrel
    by_cases hlt : k < ls.length
    · have hlt' : (k : Int) < (ls.length : Int) := by omega
      have hkv : k < vs.length := by rw [HV.out]; exact hlt
      have p0 := row_cell (range_below HR.out hb hbr) k hkv
      have hta := HT.out k _ _ (List.getElem?_eq_getElem hkv) (List.getElem?_eq_getElem hlt)
      obtain ⟨ak, ck, hfk⟩ := hta.form
      have HTA : Hid (TermAt w0 vs[k] ls[k]) := hta
      have hlen63 : ls[k].length ≤ 2 ^ 63 - 1 := hta.1.1
      rw [hfk] at p0
      rw [hfk] at HTA
      clear hta hfk
      gi_wp2
      gi_loopw [15] (fun i wr => ∃ j : Nat, j ≤ ls[k].length ∧ i = .int .i64 j ∧ Hid (J (varsAll (ls.take k) ++ varsOf (ls[k].take j)) wr) ∧ Below w0.heap.size w0 wr) (fun i _ => ls[k].length - (intOf i).toNat)
      case atStart => exact ⟨0, Nat.zero_le _, rfl, by
        show J (varsAll (ls.take k) ++ varsOf (ls[k].take 0)) _
        simpa [varsOf] using hJs.out, hbr⟩
      case round =>
        obtain ⟨j, hj, rfl, hJ2, hbr2⟩ := hrel
        by_cases hltj : j < ls[k].length
        · have hltj' : (j : Int) < (ls[k].length : Int) := by omega
          obtain ⟨_, hta2⟩ := HTA.out
          rcases hta2 with ⟨hnil, _⟩ | ⟨bk, ok, ck2, hf, _, _, hrk, hbk⟩
          · rw [hnil] at hltj; simp at hltj
          simp only [Value.slice.injEq, true_and] at hf
          obtain ⟨hf1, hf2⟩ := hf
          subst hf1 hf2
          obtain ⟨q0, q1, q2, q3, q4⟩ := term_cells (range_below hrk hbk hbr2) j hltj
          have hpre := vars_at_prefix ls k (j + 1) hlt
          have hB3 : ∀ ob : Obj, Hid (Below w0.heap.size w0 (wr.alloc ob)) := fun ob => hbr2.alloc hbr2.size ob
          clear hrk
          cases h4 : (ls[k][j].k == 4)
          · have hv := varsOf_snoc_no ls[k] j hltj h4
            have hJ3 : ∀ ob : Obj, Hid (J (varsAll (ls.take k) ++ varsOf (ls[k].take (j + 1))) (wr.alloc ob)) := fun ob => by
              show J (varsAll (ls.take k) ++ varsOf (ls[k].take (j + 1))) (wr.alloc ob)
              rw [hv]; exact abides_alloc HJ.out ob hJ2.out
            clear hv hpre
            gi_wp2
            refine ⟨fun _ h => (by cases h), ?_⟩
            gi_wp2
            go_roundw
            case rel => exact ⟨j + 1, by omega, by go_num, hJ3 _, (hB3 _).out⟩
            case measure => simp [intOf]; omega
          · have hv := varsOf_snoc_yes ls[k] j hltj h4
            have HP : Hid (varsAll (ls.take k) ++ varsOf (ls[k].take (j + 1)) <+: varsAll ls) := hpre
            have HV2 : Hid (varsAll (ls.take k) ++ varsOf (ls[k].take j) ++ [(ls[k][j].vn, ls[k][j].vk)] = varsAll (ls.take k) ++ varsOf (ls[k].take (j + 1))) := by
              show varsAll (ls.take k) ++ varsOf (ls[k].take j) ++ [(ls[k][j].vn, ls[k][j].vk)] = varsAll (ls.take k) ++ varsOf (ls[k].take (j + 1))
              rw [hv, List.append_assoc]
            obtain ⟨fn, tmps, assign, body, hy, hR⟩ := HY.out (varsAll (ls.take k) ++ varsOf (ls[k].take j)) (ls[k][j].vn, ls[k][j].vk) (wr.alloc (.cells #[.int .u8 ls[k][j].k, .string ls[k][j].t, .int .i64 ls[k][j].n, .int .i64 ls[k][j].vn, .int .i64 ls[k][j].vk] 54)) (abides_alloc HJ.out _ hJ2.out) (by rw [HV2.out]; exact HP.out)
            dsimp only at hy
            clear hv hpre
            gi_wp2
            refine hR.mono ?_
            rintro e W3 (⟨rfl, hJ3, hk3⟩ | ⟨rfl, hJx3⟩)
            · have HB4 : Hid (Below w0.heap.size w0 W3) := (hB3 _).out.trans hk3
              gi_wp2
              go_roundw
              case rel => exact ⟨j + 1, by omega, by go_num, by
                show J (varsAll (ls.take k) ++ varsOf (ls[k].take (j + 1))) _
                rw [← HV2.out]; exact hJ3, HB4.out⟩
              case measure => simp [intOf]; omega
            · gi_wp2
              refine bodyPost_ret (results_none rfl _ _ _) rfl ?_
              exact ⟨⟨_, rfl⟩, .inr ⟨_, by rw [HV2.out]; exact HP.out, hJx3⟩⟩
        · obtain rfl : j = ls[k].length := by omega
          have HJ4 : Hid (J (varsAll (ls.take (k + 1))) wr) := by
            show J (varsAll (ls.take (k + 1))) wr
            rw [varsAll_snoc ls k hlt]
            simpa using hJ2.out
          gi_wp2
          go_roundw
          case rel => exact ⟨k + 1, by omega, by go_num, HJ4, hbr2⟩
          case measure => simp [intOf]; omega
    · obtain rfl : k = ls.length := by omega
      gi_wp2
      go_end0
      exact ⟨⟨_, rfl⟩, .inl ⟨varsAll ls, rfl, by simpa using hJs.out⟩⟩
set_option maxRecDepth 100000 in
set_option maxHeartbeats 4000000 in
theorem vars_nil (F : Fence) (n : Nat) (h65 : F.fn 66) (hro : F.round = none) (l Bs : Nat) (J Jx : List (Int × Int) → World → Prop) (ad : Option Addr) (W : World) (hBs : W.cell? ⟨Bs, 0, none⟩ = some (.slice ad 0 0)) (h0 : J [] W) :
    CallsIn F n Tryd.prog 66 #[.func (.yield l) #[] #[], .pointer (some ⟨Bs, 0, none⟩)] W fun e W' => (∃ v, e = .returned v) ∧
      ((∃ ys, ys = varsAll [] ∧ J ys W') ∨ (∃ pre, pre <+: varsAll [] ∧ Jx pre W')) := by
  have H0 : Hid (J [] W) := h0
  clear h0
  refine callsIn_of_wp Tryd.func66 rfl h65 ?_ hro
  simp only [Tryd.ntmps66, List.size_toArray, List.length_cons, List.length_nil, Nat.reduceAdd, Nat.reduceSub, Array.replicate_succ, Array.replicate_zero, List.push_toArray, List.append_toArray, List.nil_append, List.cons_append]
  gi_wp2
  gi_loopw [9] (fun i wr => i = .int .i64 0 ∧ wr = W) (fun _ _ => 0)
  case atStart => exact ⟨rfl, rfl⟩
  case round =>
    obtain ⟨rfl, rfl⟩ := hrel
    gi_wp2
    go_end0
    exact ⟨⟨_, rfl⟩, .inl ⟨[], rfl, H0.out⟩⟩
set_option maxHeartbeats 1000000 in
theorem variables_in (F : Fence) (n : Nat) (h57 : F.fn 44) (hro : F.round = none) (v : Value) (w : World) (hv : ∃ ad len cap, v = .slice ad len cap) :
    CallsIn F n Tryd.prog 44 #[v] w fun e w' => e = .returned (.func (.func 66) #[] #[.pointer (some ⟨w.heap.size, 0, none⟩)]) ∧ w' = w.alloc (.cells #[v] 29) := by
  obtain ⟨ad, len, cap, rfl⟩ := hv
  refine callsIn_of_wp Tryd.func44 rfl h57 ?_ hro
  simp only [Tryd.ntmps44, List.size_toArray, List.length_cons, List.length_nil, Nat.reduceAdd, Nat.reduceSub, Array.replicate_succ, Array.replicate_zero, List.push_toArray, List.append_toArray, List.nil_append, List.cons_append]
  gi_wp2
  go_ret
  exact ⟨rfl, rfl⟩
/-- The iterator's word: names of which Q is known. -/
theorem vars_stops (F : Fence) (n : Nat) (h65 : F.fn 66) (hro : F.round = none) (hn : 1 ≤ n) (Q : Int × Int → Prop) (Bs : Nat) (ls : List (List C)) (v : Value) (w0 w : World) (hBs : Bs < w.heap.size) (hw : Below w0.heap.size w0 w)
    (hc : w.cell? ⟨Bs, 0, none⟩ = some v) (hR : RowAt w0 v ls) (hQ : ∀ x ∈ varsAll ls, Q x) :
    SeqStopsK F n Tryd.prog 66 #[.pointer (some ⟨Bs, 0, none⟩)] (fun x : { x : Int × Int // Q x } => #[Value.agg #[.int .i64 x.1.1, .int .i64 x.1.2]]) (Below w0.heap.size) (fun ys => ys.map (·.1) = varsAll ls) (fun pre => pre.map (·.1) <+: varsAll ls) (varsAll ls).length w := by
  intro l J Jx W hW hJ hJx hY h0
  have hcW : W.cell? ⟨Bs, 0, none⟩ = some v := (hW.cell (p := ⟨Bs, 0, none⟩) hBs).trans hc
  let J' : List (Int × Int) → World → Prop := fun pre W => ∃ q : List { x : Int × Int // Q x }, q.map (·.1) = pre ∧ J q W
  let Jx' : List (Int × Int) → World → Prop := fun pre W => ∃ q : List { x : Int × Int // Q x }, q.map (·.1) = pre ∧ Jx q W
  have key : CallsIn F n Tryd.prog 66 #[.func (.yield l) #[] #[], .pointer (some ⟨Bs, 0, none⟩)] W fun e W' => (∃ v, e = .returned v) ∧
      ((∃ ys, ys = varsAll ls ∧ J' ys W') ∨ (∃ pre, pre <+: varsAll ls ∧ Jx' pre W')) := by
    rcases hR.2 with ⟨rfl, ad, rfl⟩ | ⟨b, o, cap, vs, rfl, _, _, hb, hvl, hr, ht⟩
    · exact vars_nil F n h65 hro l Bs J' Jx' ad W hcW ⟨[], rfl, h0⟩
    · refine vars_in F n h65 hro hn l Bs w0 W.heap.size J' Jx' ?_ ls b o cap vs hb hR.1 hvl hr ht ?_ W hcW (hw.trans (hW.mono hw.size)) ⟨[], rfl, h0⟩
      · rintro s A B row ⟨q, rfl, hq⟩ hg hr
        exact ⟨q, rfl, hJ _ _ _ _ hq hg hr⟩
      · rintro pre x W1 ⟨q, rfl, hq⟩ hp
        have hx : Q x := hQ x (hp.subset (by simp))
        have hl : q.length < (varsAll ls).length := by
          have := hp.length_le; simp at this; omega
        refine (hY q ⟨x, hx⟩ W1 hq hl).mono ?_
        rintro e W2 (⟨rfl, h1, h2⟩ | ⟨rfl, h1⟩)
        · exact .inl ⟨rfl, ⟨_, by simp, h1⟩, h2⟩
        · exact .inr ⟨rfl, ⟨_, by simp, h1⟩⟩
  refine key.mono ?_
  rintro e W' ⟨hv, ⟨ys, h1, q, h2, h3⟩ | ⟨pre, h1, q, h2, h3⟩⟩
  · exact ⟨hv, .inl ⟨q, h2.trans h1, h3⟩⟩
  · exact ⟨hv, .inr ⟨q, show q.map (·.1) <+: varsAll ls from h2 ▸ h1, h3⟩⟩
end Go.Proofs.YteikdgjlhdgapaaDoor
namespace Go.Proofs.YteikdgjlhdgapaaDoor
open Go.RowKit Go.Shelf
attribute [local go_sem] Oper.semAt_some
set_option maxHeartbeats 1000000 in
theorem isLocal_in (F : Fence) (n : Nat) (h56 : F.fn 45) (hro : F.round = none) (a b : Int) (w : World) :
    CallsIn F n Tryd.prog 45 #[.agg #[.int .i64 a, .int .i64 b]] w fun e w' => e = .returned (.bool (a == -1)) ∧ w' = w.alloc (.cells #[.int .i64 a, .int .i64 b] 23) := by
  refine callsIn_of_wp Tryd.func45 rfl h56 ?_ hro
  simp only [Tryd.ntmps45, List.size_toArray, List.length_cons, List.length_nil, Nat.reduceAdd, Nat.reduceSub, Array.replicate_succ, Array.replicate_zero, List.push_toArray, List.append_toArray, List.nil_append, List.cons_append]
  gi_wp2
  go_ret
  exact ⟨rfl, rfl⟩
/-- A pair that lies in a block of its own. -/
def Pair (W : World) (B : Nat) (t : TypeId) (a b : Int) : Prop := W.heap[B]? = some (.cells #[.int .i64 a, .int .i64 b] t (0, 0))
theorem Pair.cell0 {W : World} {B : Nat} {t : TypeId} {a b : Int} (h : Pair W B t a b) : W.cell? ⟨B, 0, none⟩ = some (.int .i64 a) := by simp [World.cell?, show W.heap[B]? = _ from h]
theorem Pair.cell1 {W : World} {B : Nat} {t : TypeId} {a b : Int} (h : Pair W B t a b) : W.cell? ⟨B, 1, none⟩ = some (.int .i64 b) := by simp [World.cell?, show W.heap[B]? = _ from h]
theorem Pair.lt {W : World} {B : Nat} {t : TypeId} {a b : Int} (h : Pair W B t a b) : B < W.heap.size := (Array.getElem?_eq_some_iff.1 h).1
theorem Pair.new (W : World) (t : TypeId) (a b : Int) : Pair (W.alloc (.cells #[.int .i64 a, .int .i64 b] t)) W.heap.size t a b := World.alloc_heap_new W _
theorem Pair.kept {W W' : World} {row : Option Nat} {B : Nat} {t : TypeId} {a b : Int} (h : Pair W B t a b) (hg : W.grownBy W' row) (hr : ∀ r, row = some r → ∃ o : Obj, W.heap[r]? = some o ∧ o.isCells = false) : Pair W' B t a b :=
  (hg.block B h.lt (fun e => by
    obtain ⟨o, h1, h2⟩ := hr B e.symm
    rw [show W.heap[B]? = _ from h] at h1
    cases h1
    cases h2)).trans h
def globalB (l : List C) : Bool := (varsOf l).all (fun x => !(x.1 == -1)) && rightB l
set_option maxRecDepth 100000 in
set_option maxHeartbeats 4000000 in
theorem c36 (l : List C) (v : Value) (w : World) (h : TermAt w v l) (hS : Signs w) :
    Calls Tryd.prog 28 #[v] w fun e w' => e = .returned (.bool (globalB l)) ∧ Below w.heap.size w w' := by
  refine (callsIn_wide (n := 6)).1 ?_
  have HT : Hid (TermAt w v l) := h
  have HS : Hid (Signs w) := hS
  obtain ⟨ad, cap, hv⟩ := h.form
  subst hv
  clear h hS
  refine callsIn_of_wp_marks Tryd.func28 rfl trivial ?_ rfl
  simp only [Tryd.ntmps28, List.size_toArray, List.length_cons, List.length_nil, Nat.reduceAdd, Nat.reduceSub, Array.replicate_succ, Array.replicate_zero, List.push_toArray, List.append_toArray, List.nil_append, List.cons_append]
  gi_wp2_with (refine ⟨trivial, ?_⟩; gi_at_call 44; refine (variables_in Fence.wide _ trivial rfl _ _ ⟨_, _, _, rfl⟩).mono ?_; rintro e w' ⟨rfl, rfl⟩)
  have bS := ((Boxed.new w 4 (.bool false)).alloc (.cells #[.slice ad l.length cap] 25)).alloc (.cells #[.slice (some ⟨w.heap.size + 1, 0, none⟩) 1 1] 29)
  have bT := (Boxed.new (w.alloc (.cells #[.bool false] 4)) 25 (.slice ad l.length cap)).alloc (.cells #[.slice (some ⟨w.heap.size + 1, 0, none⟩) 1 1] 29)
  have bL := Boxed.new ((w.alloc (.cells #[.bool false] 4)).alloc (.cells #[.slice ad l.length cap] 25)) 29 (.slice (some ⟨w.heap.size + 1, 0, none⟩) 1 1)
  simp only [World.size_alloc] at bT bL
  have hB0 : Below w.heap.size w (((w.alloc (.cells #[.bool false] 4)).alloc (.cells #[.slice ad l.length cap] 25)).alloc (.cells #[.slice (some ⟨w.heap.size + 1, 0, none⟩) 1 1] 29)) := (((Below.refl _ w).alloc (Nat.le_refl _) _).alloc (by simp) _).alloc (by simp; omega) _
  have hsz : (((w.alloc (.cells #[.bool false] 4)).alloc (.cells #[.slice ad l.length cap] 25)).alloc (.cells #[.slice (some ⟨w.heap.size + 1, 0, none⟩) 1 1] 29)).heap.size = w.heap.size + 3 := by simp
  obtain ⟨W0, hW0⟩ : ∃ W0, (((w.alloc (.cells #[.bool false] 4)).alloc (.cells #[.slice ad l.length cap] 25)).alloc (.cells #[.slice (some ⟨w.heap.size + 1, 0, none⟩) 1 1] 29)) = W0 := ⟨_, rfl⟩
  rw [hW0] at bS bT bL hB0 hsz ⊢
  clear hW0
  have hrow : RowAt W0 (.slice (some ⟨w.heap.size + 1, 0, none⟩) 1 1) [l] := by
    refine ⟨by simp [maxLen], .inr ⟨_, _, _, [.slice ad l.length cap], rfl, by simp, by simp [maxLen], by omega, rfl, ?_, ?_⟩⟩
    · intro i u hu
      match i, hu with
      | 0, hu => simp at hu; subst hu; exact bT.cell
    · intro i u x hu hx
      match i, hu, hx with
      | 0, hu, hx => simp at hu hx; subst hu hx; exact HT.out.below hB0
  have hva : varsAll [l] = varsOf l := by simp [varsAll]
  refine wpIn_rangeFunc_ownH rfl (by decide) (gf := 66) (lb := #[.pointer (some ⟨w.heap.size + 1 + 1, 0, none⟩)]) rfl trivial (enters_of Tryd.func66 (by kernel_rfl) rfl)
    (vars_stops Fence.wide 5 trivial rfl (by decide) (fun _ => True) (w.heap.size + 1 + 1) [l] _ W0 W0 (by omega) (Below.refl _ _) bL.cell hrow (fun _ _ => trivial)) belowK_t (belowK_b (Nat.le_refl _)) (Below.refl _ _) (fun _ => rfl)
    (fun pre W => ((∀ y ∈ pre, (y.1.1 == -1) = false) ∧ Boxed W w.heap.size 4 (.bool false)) ∧ Below W0.heap.size W0 W)
    (fun c pre W => (c = .ret ∧ (∃ y ∈ pre, (y.1.1 == -1) = true) ∧ Boxed W w.heap.size 4 (.bool false)) ∧ Below w.heap.size w W)
    (OwnFrom.and (Own.from (fun s A B row hs hg hr => ⟨hs.1, boxed_own w.heap.size 4 (fun (_ : Unit) => Value.bool false) () A B row hs.2 hg hr⟩) _) (ownFrom_below (Nat.le_refl _) (Nat.le_refl _)))
    (fun c => OwnFrom.and (Own.from (fun s A B row hs hg hr => ⟨hs.1, hs.2.1, boxed_own w.heap.size 4 (fun (_ : Unit) => Value.bool false) () A B row hs.2.2 hg hr⟩) _) (ownFrom_below (Nat.le_refl _) (by omega)))
    ⟨⟨by simp, bS⟩, Below.refl _ _⟩
    (fun x a' W => ∃ Bx, Pair W Bx 23 x.1.1 x.1.2 ∧ a' = { tmps := #[.slice ad l.length cap, undef, .pointer (some ⟨w.heap.size, 0, none⟩), .pointer (some ⟨Bx, 0, none⟩), .slice ad l.length cap, .slice (some ⟨w.heap.size + 1, 0, none⟩) 1 1, .func (.func 66) #[] #[.pointer (some ⟨w.heap.size + 1 + 1, 0, none⟩)], .agg #[.int .i64 x.1.1, .int .i64 x.1.2], undef, undef, undef, undef], defers := [] })
    (fun x a' _ X Y row hs hg hr => by obtain ⟨Bx, h2, h3⟩ := hs; exact ⟨Bx, h2.kept hg (fun r e => (hr r e).2), h3⟩)
    ?assign ?body ?done ?stop
  case assign =>
    rintro lp pre x W K ⟨⟨hp, b1⟩, hB1⟩ hK
    gi_wp2
    exact hK _ _ ((KeepsOthers.alloc _ _).from _) ((Below.refl _ W).alloc hB1.size _) ⟨⟨hp, b1.alloc _⟩, hB1.alloc hB1.size _⟩ ⟨W.heap.size, Pair.new W 23 _ _, rfl⟩
  case body =>
    rintro lp pre x a' W hl ⟨r, hr⟩ ⟨⟨hp, b1⟩, hB1⟩ ⟨Bx, bX, rfl⟩ hlt
    have cX0 := bX.cell0
    have cX1 := bX.cell1
    have b2 := b1.alloc (.cells #[.int .i64 x.1.1, .int .i64 x.1.2] 23)
    have c1 := b2.cell
    have f1 := b2.frozen
    have HBW : Hid (Below w.heap.size w W) := hB0.trans (hB1.mono hB0.size)
    have HP : Hid (∀ y ∈ pre, (y.1.1 == -1) = false) := hp
    clear hp hr hlt
    gi_wp2_with (refine ⟨trivial, ?_⟩; gi_at_call 45; refine (CallsIn.inRound lp (isLocal_in Fence.wide _ trivial rfl _ _ _)).mono ?_; rintro e w' ⟨rfl, rfl⟩)
    · rename_i hx
      refine ⟨((KeepsOthers.alloc _ _).trans (KeepsOthers.setCell _ _ _)).from _, ⟨rfl, ⟨x, by simp, hx⟩, b2.set _⟩, ?_⟩
      exact (HBW.out.alloc HBW.out.size _).setCell (p := ⟨w.heap.size, 0, none⟩) (Nat.le_refl _) _
    · rename_i hx
      refine ⟨(KeepsOthers.alloc _ _).from _, (Below.refl _ W).alloc hB1.size _, ⟨fun y hy => ?_, b2⟩, hB1.alloc hB1.size _⟩
      rcases List.mem_append.1 hy with hy | hy
      · exact HP.out y hy
      · simp only [List.mem_singleton] at hy
        subst hy
        simpa using hx
  case done =>
    rintro D zs W hD hzs ⟨⟨hp, b1⟩, hB1⟩ hK
    have c1 := b1.cell
    have f1 := b1.frozen
    have HBW : Hid (Below w.heap.size w W) := hB0.trans (hB1.mono hB0.size)
    have H22 := c22 l _ W (HT.out.below HBW.out) (HS.out.below HBW.out)
    have hlt1 := b1.lt
    have hg : globalB l = rightB l := by
      unfold globalB
      rw [List.all_eq_true.2 (fun x hx => ?_), Bool.true_and]
      rw [← hva, ← hzs] at hx
      obtain ⟨y, hy, rfl⟩ := List.mem_map.1 hx
      simp [hp y hy]
    have hDl : D < W.heap.size := (Array.getElem?_eq_some_iff.1 hK).1
    gi_wp2_with (refine ⟨trivial, ?_⟩; gi_at_call 24; refine (callsIn_wide.2 H22).mono ?_; rintro e w' ⟨rfl, hb22⟩; have b3 : Boxed w' w.heap.size 4 (.bool false) := (hb22.block w.heap.size hlt1).trans b1; have hK2 := (hb22.block D hDl).trans hK; have c3 := b3.cell; have f3 := b3.frozen)
    have hK' := (KeepsOthers.setCell w' ⟨w.heap.size, 0, none⟩ (.bool (rightB l))).same D _ hK2 rfl
    refine ⟨by simp, .inl ⟨_, _, rfl, run_takeDeferred hK', ?_⟩⟩
    have hc5 := cell_kept (b3.set (.bool (rightB l))).cell (grownBy_putObj' _ D (.deferred none)) (fun r e => by cases e; exact ⟨_, hK', rfl⟩)
    refine ⟨.bool (rightB l), ?_, by rw [hg], ((HBW.out.trans (hb22.mono HBW.out.size)).setCell (p := ⟨w.heap.size, 0, none⟩) (Nat.le_refl _) _).trans (belowK_b (w := w) (Nat.le_refl _) _ D _ _ (by omega) hK' rfl rfl)⟩
    simp [results, Tryd.f28, go_sem, hc5]
  case stop =>
    rintro D c pre W hD hpre ⟨⟨rfl, hin, b1⟩, hB1⟩ hK
    have c1 := b1.cell
    have hg : globalB l = false := by
      obtain ⟨y, hy, hy1⟩ := hin
      unfold globalB
      rw [List.all_eq_false.2 ⟨y.1, ?_, by simp [hy1]⟩, Bool.false_and]
      rw [← hva]
      exact hpre.subset (List.mem_map.2 ⟨y, hy, rfl⟩)
    gi_wp2
    refine ⟨by simp, .inl ⟨_, _, rfl, run_takeDeferred hK, ?_⟩⟩
    have hc5 := cell_kept c1 (grownBy_putObj' _ D (.deferred none)) (fun r e => by cases e; exact ⟨_, hK, rfl⟩)
    refine ⟨.bool false, ?_, by rw [hg], hB1.trans (belowK_b (w := w) (Nat.le_refl _) W D _ _ (by omega) hK rfl rfl)⟩
    simp [results, Tryd.f28, go_sem, hc5]
end Go.Proofs.YteikdgjlhdgapaaDoor
