/- Contract of the statement on opposite guards. -/
import Derived.Test.YtaehhophaaipdaaGreatDoorOPAp
import Derived.Test.YtaehhophaaipdaaGreatDoorOPMp
import Derived.Test.YtaehhophaaipdaaGreatDoorXGp
namespace Go.Proofs.YtaehhophaaipdaaGreatDoor
open Go.RowKit
attribute [local go_sem ↓] Go.wp_at_zero Go.wp_at_succ
theorem x24_lt (w : World) : Calls Tryz.prog 24 #[.string ⟨#[60]⟩] w fun e w' => e = .returned (.string ⟨#[62, 61]⟩) ∧ w' = w := by
  go_enter Tryz.func24, Tryz.ntmps24
  go_wp2_with fail
  go_ret
  exact ⟨rfl, rfl⟩
theorem x24_le (w : World) : Calls Tryz.prog 24 #[.string ⟨#[61, 60]⟩] w fun e w' => e = .returned (.string ⟨#[62]⟩) ∧ w' = w := by
  go_enter Tryz.func24, Tryz.ntmps24
  go_wp2_with fail
  go_ret
  exact ⟨rfl, rfl⟩
theorem x24_eq (w : World) : Calls Tryz.prog 24 #[.string ⟨#[61, 58, 61]⟩] w fun e w' => e = .returned (.string ⟨#[61, 92, 61]⟩) ∧ w' = w := by
  go_enter Tryz.func24, Tryz.ntmps24
  go_wp2_with fail
  go_ret
  exact ⟨rfl, rfl⟩
theorem x24_el (w : World) : Calls Tryz.prog 24 #[.string ⟨#[101, 113, 117, 97, 108]⟩] w fun e w' => e = .returned (.string ⟨#[117, 110, 108, 105, 107, 101]⟩) ∧ w' = w := by
  go_enter Tryz.func24, Tryz.ntmps24
  go_wp2_with fail
  go_ret
  exact ⟨rfl, rfl⟩
theorem row_two (w : World) (v u : Value) (l m : List C) (h : TermAt w v l) (h2 : TermAt w u m) : RowAt (w.alloc (.cells #[v, u] 24)) (.slice (some ⟨w.heap.size, 0, none⟩) 2 2) [l, m] := by
  refine ⟨by simp [maxLen], .inr ⟨w.heap.size, 0, 2, [v, u], rfl, by simp, by simp [maxLen], by simp, rfl, range_new w [v, u] 24, ?_⟩⟩
  intro i z x hu hx
  match i, hu, hx with
  | 0, hu, hx => simp at hu hx; subst hu hx; exact h.below (below_alloc _ _)
  | 1, hu, hx => simp at hu hx; subst hu hx; exact h2.below (below_alloc _ _)
/-- How two terms go together, whatever the sign. -/
def twoE (x y : List C) : Int := if rightB x && rightB y then (if 256 < x.length + y.length + 1 then 5 else 0) else 6
theorem two_make {x y : List C} {k : Nat} (h1 : k < 13) (h2 : 1 ≤ k ∧ k ≤ 6 ∨ 11 ≤ k) : makeE (gT k) [x, y] = twoE x y := by
  unfold makeE twoE allRightB
  have e : (ownC (gT k) [x, y].length).ok = true := own_sign k h1 h2
  rw [e]
  simp only [List.all_cons, List.all_nil, Bool.and_true, tot, List.map_cons, List.map_nil, List.sum_cons, List.sum_nil, Nat.add_zero]
  have : ((256 : Int) < ((x.length + y.length + 1 : Nat) : Int)) ↔ 256 < x.length + y.length + 1 := by omega
  simp only [this]
theorem two_list {x y : List C} {k : Nat} (h1 : k < 13) (h2 : 1 ≤ k ∧ k ≤ 6 ∨ 11 ≤ k) (h0 : twoE x y = 0) : makeL (gT k) [x, y] = ownC (gT k) 2 :: (x ++ y) := by
  unfold makeL
  rw [two_make h1 h2, if_pos h0]
  simp
theorem two_ok {x y : List C} (h : twoE x y = 0) : rightB x = true ∧ rightB y = true ∧ x.length + y.length + 1 ≤ 256 := by
  unfold twoE at h
  split at h
  · next hr =>
    rw [Bool.and_eq_true] at hr
    split at h
    · cases h
    · exact ⟨hr.1, hr.2, by omega⟩
  · cases h
end Go.Proofs.YtaehhophaaipdaaGreatDoor
