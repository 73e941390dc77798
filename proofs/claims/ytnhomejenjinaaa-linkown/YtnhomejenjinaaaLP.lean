/- The reference's link of two nodes, of node 0: New, other, copied, Next, Sent. -/
import Derived.Test.YtnhomejenjinaaaLO
namespace Go.Proofs.Ytnhomejenjinaaa
open Go.RowKit
attribute [local go_sem ↓] Go.wp_at_zero Go.wp_at_succ
/-- The reference's cells. -/
abbrev rkV (sn : Int) (ov : Value) : Array Value := #[.int .i64 0, .int .i64 2, .int .i64 0, .int .i64 sn, .int .i64 0, .int .i64 0, .int .i64 0, .int .i64 0, .int .i64 0, .int .i64 0, .slice none 0 0, ov, .slice none 0 0, .slice none 0 0]
def RkB (w : World) (rb : Nat) (sn : Int) (ov : Value) : Prop := w.heap[rb]? = some (.cells (rkV sn ov) 65 (0, 0))
structure RkC (w : World) (rb : Nat) (sn : Int) (ov : Value) : Prop where
  c0 : w.cell? ⟨rb, 0, none⟩ = some (.int .i64 0)
  c1 : w.cell? ⟨rb, 1, none⟩ = some (.int .i64 2)
  c3 : w.cell? ⟨rb, 3, none⟩ = some (.int .i64 sn)
  c7 : w.cell? ⟨rb, 7, none⟩ = some (.int .i64 0)
  c10 : w.cell? ⟨rb, 10, none⟩ = some (.slice none 0 0)
  c11 : w.cell? ⟨rb, 11, none⟩ = some ov
  c12 : w.cell? ⟨rb, 12, none⟩ = some (.slice none 0 0)
  c13 : w.cell? ⟨rb, 13, none⟩ = some (.slice none 0 0)
  f3 : w.frozen? ⟨rb, 3, none⟩ = false
  f11 : w.frozen? ⟨rb, 11, none⟩ = false
theorem RkB.cells {w : World} {rb : Nat} {sn : Int} {ov : Value} (h : RkB w rb sn ov) : RkC w rb sn ov := by
  refine ⟨?_, ?_, ?_, ?_, ?_, ?_, ?_, ?_, frozen_of_row w rb 3 _ 65 h, frozen_of_row w rb 11 _ 65 h⟩ <;> (rw [cell_of_row w rb _ _ 65 (0, 0) h]; rfl)
theorem RkB.below {w w' : World} {rb : Nat} {sn : Int} {ov : Value} (h : RkB w rb sn ov) (hb : Below w.heap.size w w') : RkB w' rb sn ov := (hb.block rb (Array.getElem?_eq_some_iff.1 h).1).trans h
set_option maxRecDepth 100000 in
theorem r8 (w : World) : Calls Try.prog 8 #[.int .i64 0, .int .i64 2] w fun e w' => e = .returned (.tuple #[.pointer (some ⟨w.heap.size, 0, none⟩), .int .i64 0]) ∧ w' = w.alloc (.cells (rkV 0 (.slice none 0 0)) 65) := by
  go_enter Try.func8, Try.ntmps8
  go_wp2_with fail
  go_ret2
  exact ⟨rfl, rfl⟩
set_option maxRecDepth 100000 in
theorem r36 (rb : Nat) (sn : Int) (ov : Value) (i : Int) (w : World) (h : RkB w rb sn ov) : Calls Try.prog 36 #[.pointer (some ⟨rb, 0, none⟩), .int .i64 i] w fun e w' => e = .returned (.bool (i == 1)) ∧ w' = w := by
  obtain ⟨c0, c1, c3, c7, c10, c11, c12, c13, f3, f11⟩ := h.cells
  clear h
  by_cases h0 : (0 : Int) ≤ i
  · by_cases h2 : i < 2
    · by_cases h1 : i = 1
      · subst h1
        go_enter Try.func36, Try.ntmps36
        go_wp2_with fail
        go_ret
        exact ⟨rfl, rfl⟩
      · obtain rfl : i = 0 := by omega
        go_enter Try.func36, Try.ntmps36
        go_wp2_with fail
        go_ret
        exact ⟨rfl, rfl⟩
    · have hne : (i == 1) = false := by rw [beq_eq_false_iff_ne]; omega
      go_enter Try.func36, Try.ntmps36
      go_wp2_with fail
      go_ret
      exact ⟨rfl, rfl⟩
  · have hne : (i == 1) = false := by rw [beq_eq_false_iff_ne]; omega
    go_enter Try.func36, Try.ntmps36
    go_wp2_with fail
    go_ret
    exact ⟨rfl, rfl⟩
set_option maxRecDepth 100000 in
theorem r28 (rb : Nat) (sn : Int) (ov : Value) (i : Int) (w : World) (h : RkB w rb sn ov) : Calls Try.prog 28 #[.pointer (some ⟨rb, 0, none⟩), .int .i64 i] w fun e w' => e = .returned (.int .i64 0) ∧ w' = w := by
  have H := r36 rb sn ov i w h
  obtain ⟨c0, c1, c3, c7, c10, c11, c12, c13, f3, f11⟩ := h.cells
  clear h
  by_cases h1 : i = 1
  · subst h1
    go_enter Try.func28, Try.ntmps28
    go_wp2_with fail
    refine H.mono ?_
    rintro e w' ⟨rfl, hw⟩
    obtain rfl := hw.symm
    clear H
    go_wp2_with fail
    go_ret
    exact ⟨rfl, rfl⟩
  · have hne : (i == 1) = false := by rw [beq_eq_false_iff_ne]; exact h1
    rw [hne] at H
    go_enter Try.func28, Try.ntmps28
    go_wp2_with fail
    refine H.mono ?_
    rintro e w' ⟨rfl, hw⟩
    obtain rfl := hw.symm
    clear H
    go_wp2_with fail
    go_ret
    exact ⟨rfl, rfl⟩
set_option maxRecDepth 100000 in
theorem r29 (rb : Nat) (sn : Int) (ov : Value) (i : Int) (w : World) (h : RkB w rb sn ov) : Calls Try.prog 29 #[.pointer (some ⟨rb, 0, none⟩), .int .i64 i] w fun e w' => e = .returned (.int .i64 (if i = 1 then sn else 0)) ∧ w' = w := by
  have H := r36 rb sn ov i w h
  obtain ⟨c0, c1, c3, c7, c10, c11, c12, c13, f3, f11⟩ := h.cells
  clear h
  by_cases h1 : i = 1
  · subst h1
    rw [if_pos rfl]
    go_enter Try.func29, Try.ntmps29
    go_wp2_with fail
    refine H.mono ?_
    rintro e w' ⟨rfl, hw⟩
    obtain rfl := hw.symm
    clear H
    go_wp2_with fail
    go_ret
    exact ⟨rfl, rfl⟩
  · have hne : (i == 1) = false := by rw [beq_eq_false_iff_ne]; exact h1
    rw [hne] at H
    rw [if_neg h1]
    go_enter Try.func29, Try.ntmps29
    go_wp2_with fail
    refine H.mono ?_
    rintro e w' ⟨rfl, hw⟩
    obtain rfl := hw.symm
    clear H
    go_wp2_with fail
    go_ret
    exact ⟨rfl, rfl⟩
set_option maxRecDepth 100000 in
theorem l33_no (lb : Nat) (fi : Int) (s : Sl) (i : Int) (w : World) (h : LkB w lb fi s) (hi : i ≠ 1) : Calls Try.prog 33 #[.pointer (some ⟨lb, 0, none⟩), .int .i64 i] w fun e w' => e = .returned (.tuple #[.pointer none, .int .i64 2]) ∧ w' = w := by
  obtain ⟨c0, c1, c6, c7, f6, f7⟩ := h.cells
  clear h
  by_cases h0 : (0 : Int) ≤ i
  · by_cases h2 : i < 2
    · obtain rfl : i = 0 := by omega
      go_enter Try.func33, Try.ntmps33
      go_wp2_with fail
      go_ret2
      exact ⟨rfl, rfl⟩
    · have h3 : (2 : Int) ≤ i := by omega
      go_enter Try.func33, Try.ntmps33
      go_wp2_with fail
      go_ret2
      exact ⟨rfl, rfl⟩
  · have h3 : i < 0 := by omega
    go_enter Try.func33, Try.ntmps33
    go_wp2_with fail
    go_ret2
    exact ⟨rfl, rfl⟩
set_option maxRecDepth 100000 in
theorem l24p (lb : Nat) (fi : Int) (s : Sl) (i : Int) (w : World) (h : LkB w lb fi s) : Calls Try.prog 24 #[.pointer (some ⟨lb, 0, none⟩), .int .i64 i] w fun e w' => e = .returned (.int .i64 0) ∧ w' = w := by
  have c5 := h.all.d5
  by_cases h1 : i = 1
  · subst h1
    have H33 := l33 lb fi s w h
    clear h
    go_enter Try.func24, Try.ntmps24
    go_wp2_with fail
    refine H33.mono ?_
    rintro e w' ⟨rfl, hw⟩
    obtain rfl := hw.symm
    clear H33
    go_wp2_with fail
    go_ret
    exact ⟨rfl, rfl⟩
  · have H33 := l33_no lb fi s i w h h1
    clear h
    go_enter Try.func24, Try.ntmps24
    go_wp2_with fail
    refine H33.mono ?_
    rintro e w' ⟨rfl, hw⟩
    obtain rfl := hw.symm
    clear H33
    go_wp2_with fail
    go_ret
    exact ⟨rfl, rfl⟩
set_option maxRecDepth 100000 in
theorem l27p (lb : Nat) (fi : Nat) (s : Sl) (i : Int) (w : World) (h : LkB w lb fi s) (hf : fi + s.n ≤ 1000000000) : Calls Try.prog 27 #[.pointer (some ⟨lb, 0, none⟩), .int .i64 i] w fun e w' => e = .returned (.int .i64 (if i = 1 then ((fi : Int) + (s.n : Int)) else 0)) ∧ ∃ d, w' = w.drewN d := by
  by_cases h1 : i = 1
  · subst h1
    rw [if_pos rfl]
    exact l27 lb fi s w h hf
  · have H33 := l33_no lb fi s i w h h1
    rw [if_neg h1]
    clear h
    go_enter Try.func27, Try.ntmps27
    go_wp2_with fail
    refine H33.mono ?_
    rintro e w' ⟨rfl, hw⟩
    obtain rfl := hw.symm
    clear H33
    go_wp2_with fail
    go_ret
    exact ⟨rfl, 0, rfl⟩
set_option maxRecDepth 100000 in
set_option maxHeartbeats 1000000 in
theorem r37 (a : Option Addr) (n c : Nat) (xs : List Int) (w : World) (h : By w a n c xs) (hn : n ≤ 140737488355328) :
    Calls Try.prog 37 #[.slice a n c] w fun e w' => ∃ a' c', e = .returned (.slice a' n c') ∧ Fresh w a' n c' xs w' := by
  obtain ⟨i0, hi, hz, hs, hb0⟩ := infoU8
  have HB : Hid (By w a n c xs) := h
  have hx0 : a = none → n = 0 := fun e => h.nil0 e
  clear h
  go_enter Try.func37, Try.ntmps37
  go_wp2_with (at_builtin; refine wpList_append_row _ rfl _ _ 34 rfl w.heap.size 5 i0 (.int .u8 0) 1 Try.underlying34 hi hz hs hb0 rfl none 0 0 [] rfl (row_nil _ _ _) a n c (u8s xs) rfl HB.out.reads (u8s_one _) hx0 (by unfold maxLen; omega) (by omega) (Nat.le_refl _) ?_)
  intro a' c' w' hr' hg' _ _
  have HF : Hid (Fresh w a' n c' xs w') := ⟨by simpa using hr', (Below.refl _ w).grown hg' (Nat.le_refl _) (fun g hg => by cases hg)⟩
  clear hr' hg'
  try simp only [Nat.zero_add]
  go_wp2_with fail
  go_ret
  exact ⟨_, _, rfl, HF.out⟩
end Go.Proofs.Ytnhomejenjinaaa
