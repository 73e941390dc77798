/- Contracts of Look of the other node's link, which has sent nothing. -/
import Derived.Test.YtnhomejenjinaaaLK
namespace Go.Proofs.Ytnhomejenjinaaa
open Go.RowKit
attribute [local go_sem ↓] Go.wp_at_zero Go.wp_at_succ
/-- What Look finds at its start. -/
structure LoS (w W : World) (lb : Nat) (t sq : Int) (v : Value) : Prop where
  bel : Below w.heap.size w W
  lw : LwB W lb t
  d : DgC W w.heap.size 0 1 sq false v
  r : DgC W (w.heap.size + 1) 0 0 0 false (.slice none 0 0)
  low : lb < w.heap.size
theorem loS (w : World) (lb : Nat) (t sq : Int) (v : Value) (h : LwB w lb t) : LoS w ((w.alloc (.cells #[.int .i64 0, .int .i64 1, .bool false, .int .i64 sq, v] 36)).alloc (.cells dz 36)) lb t sq v := by
  obtain ⟨W, hW⟩ : ∃ W, (w.alloc (.cells #[.int .i64 0, .int .i64 1, .bool false, .int .i64 sq, v] 36)).alloc (.cells dz 36) = W := ⟨_, rfl⟩
  have HB : Below w.heap.size w W := by rw [← hW]; exact ((Below.refl _ w).alloc (Nat.le_refl _) _).alloc (by simp) _
  have ha : W.heap[w.heap.size]? = some (.cells #[.int .i64 0, .int .i64 1, .bool false, .int .i64 sq, v] 36 (0, 0)) := by rw [← hW, heap_alloc_old _ _ (by simp)]; exact heap_alloc_new w _
  have hc : W.heap[w.heap.size + 1]? = some (.cells dz 36 (0, 0)) := by
    have := heap_alloc_new (w.alloc (.cells #[.int .i64 0, .int .i64 1, .bool false, .int .i64 sq, v] 36)) (.cells dz 36)
    rw [← hW]; simpa using this
  rw [hW]
  exact ⟨HB, h.below HB, dg_cells ha, dg_cells hc, (Array.getElem?_eq_some_iff.1 h).1⟩
set_option maxRecDepth 100000 in
set_option maxHeartbeats 2000000 in
theorem l18_early (lb : Nat) (sq : Int) (a : Option Addr) (n c : Nat) (w : World) (h : LwB w lb 0) (h0 : 0 < sq) : Calls Try.prog 18 #[.pointer (some ⟨lb, 0, none⟩), .agg #[.int .i64 0, .int .i64 1, .bool false, .int .i64 sq, .slice a n c]] w fun e w' => e = .returned (.tuple #[.bool false, .agg dz, .bool false, .int .i64 0]) ∧ Below w.heap.size w w' := by
  have hL := loS w lb 0 sq (.slice a n c) h
  obtain ⟨W, hW⟩ : ∃ W, (w.alloc (.cells #[.int .i64 0, .int .i64 1, .bool false, .int .i64 sq, .slice a n c] 36)).alloc (.cells dz 36) = W := ⟨_, rfl⟩
  rw [hW] at hL
  obtain ⟨c0, c1, c2, f2⟩ := hL.lw.cells
  obtain ⟨d0, d1, d2, d3, d4, _, _, _, _, _⟩ := hL.d
  obtain ⟨e0, e1, e2, e3, e4, g0, g1, g2, g3, g4⟩ := hL.r
  have HB : Hid (Below w.heap.size w W ∧ lb < w.heap.size) := ⟨hL.bel, hL.low⟩
  have H33 := l33w lb 0 W hL.lw
  have hne : (sq == 0) = false := by rw [beq_eq_false_iff_ne]; omega
  have hlt : ¬ sq < 0 := by omega
  clear hL h
  go_enter Try.func18, Try.ntmps18
  go_wp2_with fail
  refine H33.mono ?_
  rintro e w' ⟨rfl, hw⟩
  obtain rfl := hw.symm
  clear hW H33
  go_wp2_with fail
  go_quiet (fail)
  go_wp2_with fail
  go_quiet (fail)
  go_wp2_with fail
  refine bodyPost_ret (v := .tuple #[.bool false, .agg dz, .bool false, .int .i64 0]) (by simp [results, Try.results18, go_sem, e0, e1, e2, e3, e4]) rfl ⟨rfl, ?_⟩
  have h0 : w.heap.size ≤ w.heap.size + 1 := by omega
  exact (((((below_dN HB.out.1 _).setCell h0 _).setCell h0 _).setCell h0 _).setCell h0 _).setCell h0 _
set_option maxRecDepth 100000 in
set_option maxHeartbeats 2000000 in
theorem l18_fresh (lb : Nat) (t : Nat) (a : Option Addr) (n c : Nat) (w : World) (h : LwB w lb (t : Int)) (ht : t ≤ 1000000) : Calls Try.prog 18 #[.pointer (some ⟨lb, 0, none⟩), .agg #[.int .i64 0, .int .i64 1, .bool false, .int .i64 (t : Int), .slice a n c]] w fun e w' => e = .returned (.tuple #[.bool true, .agg #[.int .i64 1, .int .i64 0, .bool true, .int .i64 (t : Int), .slice none 0 0], .bool true, .int .i64 0]) ∧ Below w.heap.size w w' := by
  have hL := loS w lb (t : Int) (t : Int) (.slice a n c) h
  obtain ⟨W, hW⟩ : ∃ W, (w.alloc (.cells #[.int .i64 0, .int .i64 1, .bool false, .int .i64 (t : Int), .slice a n c] 36)).alloc (.cells dz 36) = W := ⟨_, rfl⟩
  rw [hW] at hL
  obtain ⟨c0, c1, c2, f2⟩ := hL.lw.cells
  obtain ⟨d0, d1, d2, d3, d4, _, _, _, _, _⟩ := hL.d
  obtain ⟨e0, e1, e2, e3, e4, g0, g1, g2, g3, g4⟩ := hL.r
  have HB : Hid (Below w.heap.size w W ∧ lb < w.heap.size) := ⟨hL.bel, hL.low⟩
  have H33 := l33w lb (t : Int) W hL.lw
  have h0 : (0 : Int) ≤ (t : Int) := by omega
  have h1 : ¬ (t : Int) < 0 := by omega
  have h2 : ((t : Int) == (t : Int)) = true := by simp
  clear hL h
  go_enter Try.func18, Try.ntmps18
  go_wp2_with fail
  refine H33.mono ?_
  rintro e w' ⟨rfl, hw⟩
  obtain rfl := hw.symm
  clear hW H33
  go_wp2_with fail
  go_quiet (fail)
  go_wp2_with fail
  go_quiet (fail)
  go_wp2_with fail
  go_region_law (fail)
  all_goals (
    go_wp2_with fail
    refine bodyPost_ret (v := .tuple #[.bool true, .agg #[.int .i64 1, .int .i64 0, .bool true, .int .i64 (t : Int), .slice none 0 0], .bool true, .int .i64 0]) (by simp [results, Try.results18, go_sem, e0, e1, e2, e3, e4]) rfl ⟨rfl, ?_⟩
    have h0 : w.heap.size ≤ w.heap.size + 1 := by omega
    exact ((((((below_dN HB.out.1 _).setCell h0 _).setCell h0 _).setCell h0 _).setCell h0 _).setCell h0 _))
set_option maxRecDepth 100000 in
set_option maxHeartbeats 2000000 in
theorem l18_old (lb t : Nat) (sq : Int) (a : Option Addr) (n c : Nat) (w : World) (h : LwB w lb (t : Int)) (ht : t ≤ 1000000) (h1 : 1 ≤ t) (hs : sq ≠ (t : Int)) (hq : 0 ≤ sq) : Calls Try.prog 18 #[.pointer (some ⟨lb, 0, none⟩), .agg #[.int .i64 0, .int .i64 1, .bool false, .int .i64 sq, .slice a n c]] w fun e w' => e = .returned (.tuple #[.bool false, .agg #[.int .i64 1, .int .i64 0, .bool true, .int .i64 ((t : Int) - 1), .slice none 0 0], .bool true, .int .i64 0]) ∧ Below w.heap.size w w' := by
  have hL := loS w lb (t : Int) sq (.slice a n c) h
  obtain ⟨W, hW⟩ : ∃ W, (w.alloc (.cells #[.int .i64 0, .int .i64 1, .bool false, .int .i64 sq, .slice a n c] 36)).alloc (.cells dz 36) = W := ⟨_, rfl⟩
  rw [hW] at hL
  obtain ⟨c0, c1, c2, f2⟩ := hL.lw.cells
  obtain ⟨d0, d1, d2, d3, d4, _, _, _, _, _⟩ := hL.d
  obtain ⟨e0, e1, e2, e3, e4, g0, g1, g2, g3, g4⟩ := hL.r
  have HB : Hid (Below w.heap.size w W ∧ lb < w.heap.size) := ⟨hL.bel, hL.low⟩
  have H33 := l33w lb (t : Int) W hL.lw
  have hne : (sq == (t : Int)) = false := by rw [beq_eq_false_iff_ne]; exact hs
  have hlt : ¬ sq < 0 := by omega
  have h2 : ¬ (t : Int) - 1 < 0 := by omega
  have h3 : (0 : Int) ≤ (t : Int) - 1 := by omega
  clear hL h
  go_enter Try.func18, Try.ntmps18
  go_wp2_with fail
  refine H33.mono ?_
  rintro e w' ⟨rfl, hw⟩
  obtain rfl := hw.symm
  clear hW H33
  go_wp2_with fail
  go_quiet (fail)
  go_wp2_with fail
  go_quiet (fail)
  go_wp2_with fail
  go_region_law (fail)
  all_goals (
    go_wp2_with fail
    refine bodyPost_ret (v := .tuple #[.bool false, .agg #[.int .i64 1, .int .i64 0, .bool true, .int .i64 ((t : Int) - 1), .slice none 0 0], .bool true, .int .i64 0]) (by simp [results, Try.results18, go_sem, e0, e1, e2, e3, e4]) rfl ⟨rfl, ?_⟩
    have h0 : w.heap.size ≤ w.heap.size + 1 := by omega
    exact ((((((below_dN HB.out.1 _).setCell h0 _).setCell h0 _).setCell h0 _).setCell h0 _).setCell h0 _))
end Go.Proofs.Ytnhomejenjinaaa
