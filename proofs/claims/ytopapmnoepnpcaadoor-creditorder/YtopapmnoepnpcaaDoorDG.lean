/- Contract of the reference's Right. -/
import Derived.Test.YtopapmnoepnpcaaDoorCH
namespace Go.Proofs.YtopapmnoepnpcaaDoor
open Go.RowKit
attribute [local go_sem ↓] Go.wp_at_zero Go.wp_at_succ
set_option maxRecDepth 100000 in
set_option maxHeartbeats 4000000 in
theorem d25 (v : Value) (W : Int) (B : List Int) (w : World) (h : Am w v W B) : Calls Tryd.prog 25 #[v] w fun e w' => e = .returned (.bool (rightB W B)) ∧ Below w.heap.size w w' := by
  obtain ⟨a, n, c, rfl, hS⟩ := h.val
  have HS : Hid (Sl w a n c B) := hS
  have hmax := hS.max
  obtain ⟨U, hU⟩ : ∃ U, w.alloc (.cells #[.int .i64 W, .slice a n c] 24) = U := ⟨_, rfl⟩
  obtain ⟨p, hp⟩ : ∃ p, w.heap.size = p := ⟨_, rfl⟩
  have H0 : Hid (Bk w U p (.int .i64 W) (.slice a n c) 24) := by rw [← hU, ← hp]; exact bk_new w _ _ _
  obtain ⟨s0, s1⟩ := box2 H0.out.box
  clear h hS
  by_cases h0 : W < 0
  · have e : rightB W B = false := by
      cases hr : rightB W B with
      | false => rfl
      | true => have := (right_iff.1 hr).1; omega
    rw [e]
    go_enter Tryd.func25, Tryd.ntmps25
    go_wp2_with fail
    go_ret
    exact ⟨rfl, by first | exact H0.out.bel | (subst hp; exact H0.out.bel)⟩
  · by_cases h1 : 2147483647 < W
    · have e : rightB W B = false := by
        cases hr : rightB W B with
        | false => rfl
        | true => have := (right_iff.1 hr).1; omega
      rw [e]
      go_enter Tryd.func25, Tryd.ntmps25
      go_wp2_with fail
      go_ret
      exact ⟨rfl, by first | exact H0.out.bel | (subst hp; exact H0.out.bel)⟩
    · have HR : Hid (rightB W B = riseB 0 B) := by
        show rightB W B = _
        have h2 : 0 ≤ W := by omega
        have h3 : W ≤ 2147483647 := by omega
        simp [rightB, h2, h3]
      generalize rightB W B = R at *
      go_enter Tryd.func25, Tryd.ntmps25
      go_wp2_with fail
      clear hU hp s0 s1
      go_loopw [3, 4] (fun l i wr => ∃ (k : Nat) (q : Int), k ≤ n ∧ l = .int .i64 q ∧ i = .int .i64 k ∧ Hid (R = riseB q (B.drop k)) ∧ Hid (wr = U)) (fun _ i _ => n - (intOf i).toNat)
      case atStart => exact ⟨0, 0, Nat.zero_le _, rfl, rfl, HR, rfl⟩
      case round =>
        obtain ⟨k, q, hk, rfl, rfl, HP, HU⟩ := hrel
        obtain rfl := HU.out
        obtain ⟨s0, s1⟩ := box2 H0.out.box
        by_cases hlt : k < n
        · have l1 : (k : Int) < (n : Int) := by omega
          have l0 : (0 : Int) ≤ (k : Int) := by omega
          obtain ⟨b, o, hx, rfl, p0⟩ := (HS.out.i.below H0.out.bel).at hlt
          have HD : Hid (riseB q (B.drop k) = ((decide (q + 1 ≤ B[k]) && decide (B[k] ≤ 1048576)) && riseB B[k] (B.drop (k + 1)))) := by
            show riseB q (B.drop k) = _
            rw [List.drop_eq_getElem_cons hx]; rfl
          generalize B[k] = y at *
          by_cases h2 : y ≤ q
          · have HE : Hid (R = false) := by
              show R = false
              rw [HP.out, HD.out]
              have : ¬ q + 1 ≤ y := by omega
              simp [this]
            go_wp2_with fail
            go_ret
            exact ⟨by rw [HE.out]; rfl, H0.out.bel⟩
          · by_cases h3 : 1048576 < y
            · have HE : Hid (R = false) := by
                show R = false
                rw [HP.out, HD.out]
                have : ¬ y ≤ 1048576 := by omega
                simp [this]
              go_wp2_with fail
              go_ret
              exact ⟨by rw [HE.out]; rfl, H0.out.bel⟩
            · have HE : Hid (R = riseB y (B.drop (k + 1))) := by
                show R = _
                rw [HP.out, HD.out]
                have t1 : q + 1 ≤ y := by omega
                have t2 : y ≤ 1048576 := by omega
                simp [t1, t2]
              go_wp2_with fail
              go_roundw
              case rel => exact ⟨k + 1, y, by omega, rfl, by go_num, HE, by first | exact rfl | exact trivial⟩
              case measure => simp [intOf]; omega
        · have HE : Hid (R = true) := by
            show R = true
            rw [HP.out, List.drop_of_length_le (by rw [HS.out.i.len]; omega)]; rfl
          go_wp2_with fail
          go_ret
          exact ⟨by rw [HE.out]; rfl, H0.out.bel⟩
set_option maxRecDepth 100000 in
theorem d13 (v : Value) (W : Int) (B : List Int) (w : World) (h : Am w v W B) : Calls Tryd.prog 13 #[v] w fun e w' => e = .returned (.bool (rightB W B)) ∧ Below w.heap.size w w' := by
  obtain ⟨a, n, c, e, hS⟩ := h.val
  obtain ⟨U, hU⟩ : ∃ U, w.alloc (.cells #[.int .i64 W, .slice a n c] 24) = U := ⟨_, rfl⟩
  obtain ⟨p, hp⟩ : ∃ p, w.heap.size = p := ⟨_, rfl⟩
  have H0 : Hid (Bk w U p (.int .i64 W) (.slice a n c) 24) := by rw [← hU, ← hp]; exact bk_new w _ _ _
  obtain ⟨s0, s1⟩ := box2 H0.out.box
  subst e
  have H25 : Calls Tryd.prog 25 #[.agg #[.int .i64 W, .slice a n c]] U fun e w' => e = .returned (.bool (rightB W B)) ∧ Hid (Below w.heap.size w w') := (d25 _ W B U (h.below H0.out.bel)).mono fun e w' ⟨h1, h2⟩ => ⟨h1, H0.out.bel.trans (h2.mono H0.out.bel.size)⟩
  clear h hS
  generalize rightB W B = R at *
  go_enter Tryd.func13, Tryd.ntmps13
  go_wp2_with fail
  refine H25.mono ?_
  rintro e w1 ⟨rfl, H1⟩
  go_wp2_with fail
  go_ret
  exact ⟨rfl, H1.out⟩
end Go.Proofs.YtopapmnoepnpcaaDoor
