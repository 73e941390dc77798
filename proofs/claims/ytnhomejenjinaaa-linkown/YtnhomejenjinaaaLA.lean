/- Contracts of no link. -/
import Derived.Test.YtnhomejenjinaaaJA
namespace Go.Proofs.Ytnhomejenjinaaa
open Go.RowKit
attribute [local go_sem ↓] Go.wp_at_zero Go.wp_at_succ
set_option maxRecDepth 100000 in
theorem l33_nil (k : Int) (w : World) : Calls Try.prog 33 #[.pointer none, .int .i64 k] w fun e w' => e = .returned (.tuple #[.pointer none, .int .i64 1]) ∧ w' = w := by
  go_enter Try.func33, Try.ntmps33
  go_wp2_with fail
  go_ret2
  exact ⟨rfl, rfl⟩
set_option maxRecDepth 100000 in
theorem l20_nil (k : Int) (w : World) : Calls Try.prog 20 #[.pointer none, .int .i64 k] w fun e w' => e = .returned (.int .i64 1) ∧ w' = w := by
  go_enter Try.func20, Try.ntmps20
  go_wp2_with fail
  refine (l33_nil k w).mono ?_
  rintro e w' ⟨rfl, hw⟩
  obtain rfl := hw.symm
  go_wp2_with fail
  go_ret
  exact ⟨rfl, rfl⟩
set_option maxRecDepth 100000 in
theorem l22_nil (k j : Int) (w : World) : Calls Try.prog 22 #[.pointer none, .int .i64 k, .int .i64 j] w fun e w' => e = .returned (.int .i64 1) ∧ w' = w := by
  go_enter Try.func22, Try.ntmps22
  go_wp2_with fail
  refine (l33_nil k w).mono ?_
  rintro e w' ⟨rfl, hw⟩
  obtain rfl := hw.symm
  go_wp2_with fail
  go_ret
  exact ⟨rfl, rfl⟩
set_option maxRecDepth 100000 in
theorem l24_nil (k : Int) (w : World) : Calls Try.prog 24 #[.pointer none, .int .i64 k] w fun e w' => e = .returned (.int .i64 0) ∧ w' = w := by
  go_enter Try.func24, Try.ntmps24
  go_wp2_with fail
  refine (l33_nil k w).mono ?_
  rintro e w' ⟨rfl, hw⟩
  obtain rfl := hw.symm
  go_wp2_with fail
  go_ret
  exact ⟨rfl, rfl⟩
set_option maxRecDepth 100000 in
theorem l27_nil (k : Int) (w : World) : Calls Try.prog 27 #[.pointer none, .int .i64 k] w fun e w' => e = .returned (.int .i64 0) ∧ w' = w := by
  go_enter Try.func27, Try.ntmps27
  go_wp2_with fail
  refine (l33_nil k w).mono ?_
  rintro e w' ⟨rfl, hw⟩
  obtain rfl := hw.symm
  go_wp2_with fail
  go_ret
  exact ⟨rfl, rfl⟩
set_option maxRecDepth 100000 in
theorem l26_nil (w : World) : Calls Try.prog 26 #[.pointer none] w fun e w' => e = .returned (.slice none 0 0) ∧ w' = w := by
  go_enter Try.func26, Try.ntmps26
  go_wp2_with fail
  go_ret
  exact ⟨rfl, rfl⟩
set_option maxRecDepth 100000 in
theorem l11_nil (w : World) : Calls Try.prog 11 #[.pointer none] w fun e w' => e = .returned (.pointer none) ∧ w' = w := by
  go_enter Try.func11, Try.ntmps11
  go_wp2_with fail
  go_ret
  exact ⟨rfl, rfl⟩
/-- A datagram of nothing. -/
abbrev dz : Array Value := #[.int .i64 0, .int .i64 0, .bool false, .int .i64 0, .slice none 0 0]
/-- The five cells of a datagram, to read and to write. -/
structure DgC (w : World) (b : Nat) (x0 x1 x3 : Int) (x2 : Bool) (v : Value) : Prop where
  c0 : w.cell? ⟨b, 0, none⟩ = some (.int .i64 x0)
  c1 : w.cell? ⟨b, 1, none⟩ = some (.int .i64 x1)
  c2 : w.cell? ⟨b, 2, none⟩ = some (.bool x2)
  c3 : w.cell? ⟨b, 3, none⟩ = some (.int .i64 x3)
  c4 : w.cell? ⟨b, 4, none⟩ = some v
  g0 : w.frozen? ⟨b, 0, none⟩ = false
  g1 : w.frozen? ⟨b, 1, none⟩ = false
  g2 : w.frozen? ⟨b, 2, none⟩ = false
  g3 : w.frozen? ⟨b, 3, none⟩ = false
  g4 : w.frozen? ⟨b, 4, none⟩ = false
theorem dg_cells {w : World} {b : Nat} {x0 x1 x3 : Int} {x2 : Bool} {v : Value} (h : w.heap[b]? = some (.cells #[.int .i64 x0, .int .i64 x1, .bool x2, .int .i64 x3, v] 36 (0, 0))) : DgC w b x0 x1 x3 x2 v :=
  ⟨by rw [cell_of_row w b 0 _ 36 (0, 0) h]; rfl, by rw [cell_of_row w b 1 _ 36 (0, 0) h]; rfl, by rw [cell_of_row w b 2 _ 36 (0, 0) h]; rfl, by rw [cell_of_row w b 3 _ 36 (0, 0) h]; rfl, by rw [cell_of_row w b 4 _ 36 (0, 0) h]; rfl,
    frozen_of_row w b 0 _ 36 h, frozen_of_row w b 1 _ 36 h, frozen_of_row w b 2 _ 36 h, frozen_of_row w b 3 _ 36 h, frozen_of_row w b 4 _ 36 h⟩
set_option maxRecDepth 100000 in
theorem l14_nil (k : Int) (a : Option Addr) (n c : Nat) (w : World) : Calls Try.prog 14 #[.pointer none, .int .i64 k, .slice a n c] w fun e w' => e = .returned (.tuple #[.agg dz, .int .i64 1]) ∧ Below w.heap.size w w' := by
  obtain ⟨W, hW⟩ : ∃ W, w.alloc (.cells dz 36) = W := ⟨_, rfl⟩
  have HB : Hid (Below w.heap.size w W) := by rw [← hW]; exact (Below.refl _ w).alloc (Nat.le_refl _) _
  have hc : W.heap[w.heap.size]? = some (.cells dz 36 (0, 0)) := by rw [← hW]; exact heap_alloc_new w _
  obtain ⟨c0, c1, c2, c3, c4, g0, g1, g2, g3, g4⟩ := dg_cells hc
  clear hc
  go_enter Try.func14, Try.ntmps14
  go_wp2_with fail
  refine (l33_nil k W).mono ?_
  rintro e w' ⟨rfl, hw⟩
  obtain rfl := hw.symm
  clear hW
  go_wp2_with fail
  refine bodyPost_ret (v := .tuple #[.agg dz, .int .i64 1]) (by simp [results, Try.results14, go_sem, c0, c1, c2, c3, c4]) rfl ⟨rfl, ?_⟩
  have h0 := Nat.le_refl w.heap.size
  exact ((((HB.out.setCell h0 _).setCell h0 _).setCell h0 _).setCell h0 _).setCell h0 _
set_option maxRecDepth 100000 in
theorem l18_nil (x0 x1 x3 : Int) (x2 : Bool) (a : Option Addr) (n c : Nat) (w : World) : Calls Try.prog 18 #[.pointer none, .agg #[.int .i64 x0, .int .i64 x1, .bool x2, .int .i64 x3, .slice a n c]] w fun e w' => e = .returned (.tuple #[.bool false, .agg dz, .bool false, .int .i64 1]) ∧ Below w.heap.size w w' := by
  obtain ⟨W, hW⟩ : ∃ W, (w.alloc (.cells #[.int .i64 x0, .int .i64 x1, .bool x2, .int .i64 x3, .slice a n c] 36)).alloc (.cells dz 36) = W := ⟨_, rfl⟩
  have HB : Hid (Below w.heap.size w W) := by rw [← hW]; exact ((Below.refl _ w).alloc (Nat.le_refl _) _).alloc (by simp) _
  have ha : W.heap[w.heap.size]? = some (.cells #[.int .i64 x0, .int .i64 x1, .bool x2, .int .i64 x3, .slice a n c] 36 (0, 0)) := by rw [← hW, heap_alloc_old _ _ (by simp)]; exact heap_alloc_new w _
  have hc : W.heap[w.heap.size + 1]? = some (.cells dz 36 (0, 0)) := by
    have := heap_alloc_new (w.alloc (.cells #[.int .i64 x0, .int .i64 x1, .bool x2, .int .i64 x3, .slice a n c] 36)) (.cells dz 36)
    rw [← hW]; simpa using this
  have a0 := (dg_cells ha).c0
  obtain ⟨c0, c1, c2, c3, c4, g0, g1, g2, g3, g4⟩ := dg_cells hc
  clear hc ha
  go_enter Try.func18, Try.ntmps18
  go_wp2_with fail
  refine (l33_nil x0 W).mono ?_
  rintro e w' ⟨rfl, hw⟩
  obtain rfl := hw.symm
  clear hW
  go_wp2_with fail
  refine bodyPost_ret (v := .tuple #[.bool false, .agg dz, .bool false, .int .i64 1]) (by simp [results, Try.results18, go_sem, c0, c1, c2, c3, c4]) rfl ⟨rfl, ?_⟩
  have h0 : w.heap.size ≤ w.heap.size + 1 := by omega
  exact ((((HB.out.setCell h0 _).setCell h0 _).setCell h0 _).setCell h0 _).setCell h0 _
end Go.Proofs.Ytnhomejenjinaaa
