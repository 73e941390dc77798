/- Contracts of Same and of live. -/
import Derived.Test.YthomdgafaffphaaJK
namespace Go.Proofs.Ythomdgafaffphaa
open Go.RowKit
attribute [local go_sem ↓] Go.wp_at_zero Go.wp_at_succ
/-- Are bytes the same? -/
def sameB (xs ys : List Int) : Bool := decide (xs = ys)
theorem take_ne {xs ys : List Int} {k : Nat} (h1 : k < xs.length) (h2 : k < ys.length) (h : xs[k] ≠ ys[k]) : xs ≠ ys := fun e => by subst e; exact h rfl
set_option maxRecDepth 100000 in
set_option maxHeartbeats 2000000 in
theorem j15 (a b : Option Addr) (n c n' c' : Nat) (xs ys : List Int) (w : World) (h : By w a n c xs) (h' : By w b n' c' ys) (hn : n ≤ 140737488355328) (hn' : n' ≤ 140737488355328) :
    Calls Try.prog 15 #[.slice a n c, .slice b n' c'] w fun e w' => e = .returned (.bool (sameB xs ys)) ∧ ∃ d, w' = w.drewN d := by
  have HX : Hid (By w a n c xs) := h
  have HY : Hid (By w b n' c' ys) := h'
  have hlx := h.len
  have hly := h'.len
  by_cases hnn : n = n'
  · subst hnn
    have HL : Hid (xs.length = n ∧ ys.length = n) := ⟨hlx, hly⟩
    clear h h' hlx hly
    go_enter Try.func15, Try.ntmps15
    go_wp2_with fail
    go_loopw [5] (fun i wr => ∃ k d : Nat, k ≤ n ∧ i = .int .i64 k ∧ wr = w.drewN d ∧ Hid (xs.take k = ys.take k)) (fun i _ => n - (intOf i).toNat)
    case atStart => exact ⟨0, 0, Nat.zero_le _, rfl, rfl, rfl⟩
    case round =>
      obtain ⟨k, d, hk, rfl, rfl, hT⟩ := hrel
      by_cases hlt : k < n
      · have hlt1 : (k : Int) < (n : Int) := by omega
        have hk0 : (0 : Int) ≤ (k : Int) := by omega
        obtain ⟨b1, o1, rfl, hc1, hx1⟩ := (HX.out.below (below_dN (Below.refl _ _) d)).at hlt
        obtain ⟨b2, o2, rfl, hc2, hx2⟩ := (HY.out.below (below_dN (Below.refl _ _) d)).at hlt
        have hk1 : k < xs.length := by rw [HL.out.1]; exact hlt
        have hk2 : k < ys.length := by rw [HL.out.2]; exact hlt
        have HTX : Hid (xs.take (k + 1) = xs.take k ++ [xs[k]]) := take_snoc xs k hk1
        have HTY : Hid (ys.take (k + 1) = ys.take k ++ [ys[k]]) := take_snoc ys k hk2
        have HNE : Hid (xs[k] ≠ ys[k] → sameB xs ys = false) := fun e => by
          show sameB xs ys = false
          simp only [sameB, decide_eq_false_iff_not]
          exact take_ne hk1 hk2 e
        clear hx1 hx2
        simp only [World.cell?_drewN] at hc1 hc2
        generalize xs[k] = x at *
        generalize ys[k] = y at *
        by_cases hxy : x = y
        · subst hxy
          go_wp2_with fail
          go_quiet (fail)
          go_wp2_with fail
          go_roundw
          case rel => exact ⟨k + 1, d + nq, by omega, by go_num, by simp [World.drewN], by
            show xs.take (k + 1) = ys.take (k + 1)
            rw [HTX.out, HTY.out, hT.out]⟩
          case measure => simp [intOf]; omega
        · have hxy2 : (x == y) = false := by simp [hxy]
          go_wp2_with fail
          go_quiet (fail)
          go_wp2_with fail
          go_ret
          refine ⟨?_, d + nq, by simp [World.drewN, Nat.add_assoc]⟩
          rw [HNE.out hxy]; rfl
      · go_wp2_with fail
        go_ret
        refine ⟨?_, d, rfl⟩
        have e1 : xs = ys := by
          have h1 := hT.out
          rwa [List.take_of_length_le (by rw [HL.out.1]; omega), List.take_of_length_le (by rw [HL.out.2]; omega)] at h1
        have : sameB xs ys = true := by simp [sameB, e1]
        rw [this]; rfl
  · have hne : ¬ (n : Int) = (n' : Int) := by omega
    have HF : Hid (sameB xs ys = false) := by
      show sameB xs ys = false
      simp only [sameB, decide_eq_false_iff_not]
      intro e; subst e; omega
    clear h h' hlx hly
    go_enter Try.func15, Try.ntmps15
    go_wp2_with fail
    go_ret
    exact ⟨by rw [HF.out]; rfl, 0, rfl⟩
end Go.Proofs.Ythomdgafaffphaa
