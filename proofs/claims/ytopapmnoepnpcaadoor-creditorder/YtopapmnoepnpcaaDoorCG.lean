/- Contracts of which is greater. -/
import Derived.Test.YtopapmnoepnpcaaDoorCE
import Derived.Test.YtopapmnoepnpcaaDoorCP
namespace Go.Proofs.YtopapmnoepnpcaaDoor
open Go.RowKit
attribute [local go_sem ↓] Go.wp_at_zero Go.wp_at_succ
set_option maxRecDepth 100000 in
theorem d32 (x : Int) (w : World) : Calls Tryd.prog 32 #[.int .i64 x] w fun e w' => e = .returned (.bool false) ∧ w' = w := by
  go_enter Tryd.func32, Tryd.ntmps32
  go_wp2_with fail
  go_ret
  exact ⟨by simp, rfl⟩
set_option maxRecDepth 100000 in
theorem d23 (x y : Int) (w : World) : Calls Tryd.prog 23 #[.int .i64 x, .int .i64 y] w fun e w' => e = .returned (.int .i64 (cmpI x y)) ∧ w' = w := by
  by_cases h1 : x < y
  · have e : cmpI x y = -1 := by simp [cmpI, h1]
    rw [e]
    go_enter Tryd.func23, Tryd.ntmps23
    go_wp2_with (first | (go_at_call 32; refine (d32 _ _).mono ?_; rintro e w' ⟨rfl, rfl⟩))
    go_ret
    exact ⟨rfl, rfl⟩
  · by_cases h2 : y < x
    · have e : cmpI x y = 1 := by simp [cmpI, h1, h2]
      rw [e]
      go_enter Tryd.func23, Tryd.ntmps23
      go_wp2_with (first | (go_at_call 32; refine (d32 _ _).mono ?_; rintro e w' ⟨rfl, rfl⟩))
      go_ret
      exact ⟨rfl, rfl⟩
    · have e : cmpI x y = 0 := by simp [cmpI, h1, h2]
      rw [e]
      go_enter Tryd.func23, Tryd.ntmps23
      go_wp2_with (first | (go_at_call 32; refine (d32 _ _).mono ?_; rintro e w' ⟨rfl, rfl⟩))
      go_ret
      exact ⟨rfl, rfl⟩
def orI (x y : Int) : Int := if x = 0 then y else x
set_option maxRecDepth 100000 in
theorem d22 (a : Option Addr) (x y : Int) (w : World) (h : In w a 2 [x, y]) : Calls Tryd.prog 22 #[.slice a 2 2] w fun e w' => e = .returned (.int .i64 (orI x y)) ∧ Below w.heap.size w w' := by
  obtain ⟨b, o, hx, rfl, p0⟩ := h.at (show 0 < 2 by omega)
  obtain ⟨b', o', hx', e', p1⟩ := h.at (show 1 < 2 by omega)
  obtain ⟨rfl, rfl⟩ : b' = b ∧ o' = o := by cases e'; exact ⟨rfl, rfl⟩
  simp only [List.getElem_cons_zero, List.getElem_cons_succ, Nat.add_zero] at p0 p1
  clear e' hx hx' h
  by_cases hx : x = 0
  · have e : orI x y = y := by simp [orI, hx]
    rw [e]
    subst hx
    by_cases hy : y = 0
    · subst hy
      go_enter Tryd.func22, Tryd.ntmps22
      go_wp2_with fail
      refine wp_loop_rounds 3 ?_
      rw [rounds_succ]
      go_wp2_with fail
      rw [rounds_succ]
      go_wp2_with fail
      rw [rounds_succ]
      go_wp2_with fail
      go_ret
      exact ⟨rfl, Below.refl _ _⟩
    · go_enter Tryd.func22, Tryd.ntmps22
      go_wp2_with fail
      refine wp_loop_rounds 3 ?_
      rw [rounds_succ]
      go_wp2_with fail
      rw [rounds_succ]
      go_wp2_with fail
      go_ret
      exact ⟨rfl, Below.refl _ _⟩
  · have e : orI x y = x := by simp [orI, hx]
    rw [e]
    go_enter Tryd.func22, Tryd.ntmps22
    go_wp2_with fail
    refine wp_loop_rounds 3 ?_
    rw [rounds_succ]
    go_wp2_with fail
    go_ret
    exact ⟨rfl, Below.refl _ _⟩
theorem cmpL_drop (A B : List Int) (k : Nat) (hA : k < A.length) (hB : k < B.length) : cmpL (A.drop k) (B.drop k) = if A[k] = B[k] then cmpL (A.drop (k + 1)) (B.drop (k + 1)) else cmpI B[k] A[k] := by
  rw [List.drop_eq_getElem_cons hA, List.drop_eq_getElem_cons hB]; rfl
theorem cmpL_end (A B : List Int) (k : Nat) (h1 : k ≤ A.length) (h2 : k ≤ B.length) (h : A.length ≤ k ∨ B.length ≤ k) : cmpL (A.drop k) (B.drop k) = cmpI A.length B.length := by
  rcases h with h | h
  · rw [List.drop_of_length_le h]
    cases hB : B.drop k with
    | nil =>
      have : (B.drop k).length = 0 := by rw [hB]; rfl
      simp at this
      simp [cmpL, cmpI]; omega
    | cons y b =>
      have : (B.drop k).length = b.length + 1 := by rw [hB]; rfl
      simp at this
      simp [cmpL, cmpI]; omega
  · rw [List.drop_of_length_le h]
    cases hA : A.drop k with
    | nil =>
      have : (A.drop k).length = 0 := by rw [hA]; rfl
      simp at this
      simp [cmpL, cmpI]; omega
    | cons y b =>
      have : (A.drop k).length = b.length + 1 := by rw [hA]; rfl
      simp at this
      simp [cmpL, cmpI]; omega
set_option maxRecDepth 100000 in
set_option maxHeartbeats 4000000 in
theorem d24 (a a' : Option Addr) (n c n' c' : Nat) (A B : List Int) (w : World) (h : In w a n A) (h' : In w a' n' B) (hn : n ≤ 9223372036854775807) (hn' : n' ≤ 9223372036854775807) : Calls Tryd.prog 24 #[.slice a n c, .slice a' n' c'] w fun e w' => e = .returned (.int .i64 (cmpL A B)) ∧ Below w.heap.size w w' := by
  have HA : Hid (In w a n A) := h
  have HB : Hid (In w a' n' B) := h'
  clear h h'
  rcases Nat.le_total n n' with hle | hle
  all_goals (
    have hleI : ((n : Int) ≤ (n' : Int)) ∨ ((n' : Int) ≤ (n : Int)) := by omega
    go_enter Tryd.func24, Tryd.ntmps24
    go_wp2_with fail
    all_goals (
      go_loopw [5, 6, 12] (fun _ _ i wr => ∃ k : Nat, k ≤ n ∧ k ≤ n' ∧ i = .int .i64 k ∧ Hid (cmpL A B = cmpL (A.drop k) (B.drop k)) ∧ Hid (Below w.heap.size w wr)) (fun _ _ i _ => n - (intOf i).toNat)
      case atStart => exact ⟨0, Nat.zero_le _, Nat.zero_le _, rfl, rfl, Below.refl _ _⟩
      case round =>
        obtain ⟨k, hk, hk', rfl, HC, HW⟩ := hrel
        by_cases hlt : k < n ∧ k < n'
        · have l1 : (k : Int) < (n : Int) := by omega
          have l2 : (k : Int) < (n' : Int) := by omega
          have l0 : (0 : Int) ≤ (k : Int) := by omega
          obtain ⟨b, o, hx, rfl, p0⟩ := (HA.out.below HW.out).at hlt.1
          obtain ⟨b', o', hx', rfl, p1⟩ := (HB.out.below HW.out).at hlt.2
          have HE : Hid (cmpL A B = if A[k] = B[k] then cmpL (A.drop (k + 1)) (B.drop (k + 1)) else cmpI B[k] A[k]) := by
            show cmpL A B = _
            rw [HC.out]; exact cmpL_drop A B k hx hx'
          generalize A[k] = x at *
          generalize B[k] = y at *
          by_cases e : x = y
          · have H23 : Hid (∀ V, Calls Tryd.prog 23 #[.int .i64 y, .int .i64 x] V fun e w' => e = .returned (.int .i64 0) ∧ w' = V) := fun V => (d23 y x V).mono fun e' w' ⟨q1, q2⟩ => ⟨by rw [q1, e]; simp [cmpI], q2⟩
            have HE2 : Hid (cmpL A B = cmpL (A.drop (k + 1)) (B.drop (k + 1))) := by have := HE.out; rw [if_pos e] at this; exact this
            clear e
            go_wp2_with fail
            go_region_with (go_at_call 23; refine (H23.out _).mono ?_; rintro e w6 ⟨rfl, hw⟩; obtain rfl := hw.symm)
            all_goals (
              go_wp2_with fail
              go_roundw
              case rel => exact ⟨k + 1, by omega, by omega, by go_num, HE2, HW.out.drew⟩
              case measure => simp [intOf]; omega)
          · have H23 : Hid (∀ V, Calls Tryd.prog 23 #[.int .i64 y, .int .i64 x] V fun e w' => e = .returned (.int .i64 (cmpI y x)) ∧ w' = V) := d23 y x
            have hz : ¬ cmpI y x = 0 := by unfold cmpI; split <;> (try split) <;> omega
            have HE2 : Hid (cmpL A B = cmpI y x) := by have := HE.out; rw [if_neg e] at this; exact this
            clear e
            generalize cmpI y x = z at *
            go_wp2_with fail
            go_region_with (go_at_call 23; refine (H23.out _).mono ?_; rintro e w6 ⟨rfl, hw⟩; obtain rfl := hw.symm)
            all_goals (
              go_wp2_with fail
              go_ret
              exact ⟨by rw [HE2.out]; rfl, HW.out.drew⟩)
        · have HE : Hid (cmpL A B = cmpI n n') := by
            show cmpL A B = _
            have a1 := HA.out.len
            have b1 := HB.out.len
            rw [HC.out, cmpL_end A B k (by omega) (by omega) (by omega), a1, b1]
          have H23 : Hid (∀ V, Calls Tryd.prog 23 #[.int .i64 n, .int .i64 n'] V fun e w' => e = .returned (.int .i64 (cmpI n n')) ∧ w' = V) := d23 n n'
          have hnot : ¬ ((k : Int) < (n : Int)) ∨ ¬ ((k : Int) < (n' : Int)) := by omega
          first
          | (have m1 : ¬ ((k : Int) < (n : Int)) := by omega
             go_wp2_with (first | (go_at_call 23; refine (H23.out _).mono ?_; rintro e w' ⟨rfl, rfl⟩))
             go_ret
             exact ⟨by rw [HE.out]; rfl, HW.out⟩)
          | (have m2 : ¬ ((k : Int) < (n' : Int)) := by omega
             go_wp2_with (first | (go_at_call 23; refine (H23.out _).mono ?_; rintro e w' ⟨rfl, rfl⟩))
             go_ret
             exact ⟨by rw [HE.out]; rfl, HW.out⟩)))
end Go.Proofs.YtopapmnoepnpcaaDoor
