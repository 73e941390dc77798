/- Contracts of no link. -/
import Derived.Test.YtopljcabcknaeaaJA
namespace Go.Proofs.Ytopljcabcknaeaa.Lk
open Go.RowKit
attribute [local go_sem ↓] Go.wp_at_zero Go.wp_at_succ
set_option maxRecDepth 100000 in
theorem l33_nil (k : Int) (w : World) : Calls Try.prog 15 #[.pointer none, .int .i64 k] w fun e w' => e = .returned (.tuple #[.pointer none, .int .i64 1]) ∧ w' = w := by
  go_enter Try.func15, Try.ntmps15
  go_wp2_with fail
  go_ret2
  exact ⟨rfl, rfl⟩
set_option maxRecDepth 100000 in
theorem l26_nil (w : World) : Calls Try.prog 13 #[.pointer none] w fun e w' => e = .returned (.slice none 0 0) ∧ w' = w := by
  go_enter Try.func13, Try.ntmps13
  go_wp2_with fail
  go_ret
  exact ⟨rfl, rfl⟩
/-- A datagram of nothing. -/
abbrev dz : Array Value := #[.int .i64 0, .int .i64 0, .bool false, .int .i64 0, .slice none 0 0]
/-- The five cells of a datagram, to read and to write. -/
structure DgC (w : World) (b : Nat) (x0 x1 x3 : Int) (x2 : Bool) (v : Value) : Prop where
  c0 : w.cell? ⟨b, 0, none⟩ = some (.int .i64 x0)
  c1 : w.cell? ⟨b, 1, none⟩ = some (.int .i64 x1)
  c2 : w.cell? ⟨b, 2, none⟩ = some (.bool x2)
  c3 : w.cell? ⟨b, 3, none⟩ = some (.int .i64 x3)
  c4 : w.cell? ⟨b, 4, none⟩ = some v
  g0 : w.frozen? ⟨b, 0, none⟩ = false
  g1 : w.frozen? ⟨b, 1, none⟩ = false
  g2 : w.frozen? ⟨b, 2, none⟩ = false
  g3 : w.frozen? ⟨b, 3, none⟩ = false
  g4 : w.frozen? ⟨b, 4, none⟩ = false
theorem dg_cells {w : World} {b : Nat} {x0 x1 x3 : Int} {x2 : Bool} {v : Value} (h : w.heap[b]? = some (.cells #[.int .i64 x0, .int .i64 x1, .bool x2, .int .i64 x3, v] 32 (0, 0))) : DgC w b x0 x1 x3 x2 v :=
  ⟨by rw [cell_of_row w b 0 _ 32 (0, 0) h]; rfl, by rw [cell_of_row w b 1 _ 32 (0, 0) h]; rfl, by rw [cell_of_row w b 2 _ 32 (0, 0) h]; rfl, by rw [cell_of_row w b 3 _ 32 (0, 0) h]; rfl, by rw [cell_of_row w b 4 _ 32 (0, 0) h]; rfl,
    frozen_of_row w b 0 _ 32 h, frozen_of_row w b 1 _ 32 h, frozen_of_row w b 2 _ 32 h, frozen_of_row w b 3 _ 32 h, frozen_of_row w b 4 _ 32 h⟩
set_option maxRecDepth 100000 in
theorem l14_nil (k : Int) (a : Option Addr) (n c : Nat) (w : World) : Calls Try.prog 7 #[.pointer none, .int .i64 k, .slice a n c] w fun e w' => e = .returned (.tuple #[.agg dz, .int .i64 1]) ∧ Below w.heap.size w w' := by
  obtain ⟨W, hW⟩ : ∃ W, w.alloc (.cells dz 32) = W := ⟨_, rfl⟩
  have HB : Hid (Below w.heap.size w W) := by rw [← hW]; exact (Below.refl _ w).alloc (Nat.le_refl _) _
  have hc : W.heap[w.heap.size]? = some (.cells dz 32 (0, 0)) := by rw [← hW]; exact heap_alloc_new w _
  obtain ⟨c0, c1, c2, c3, c4, g0, g1, g2, g3, g4⟩ := dg_cells hc
  clear hc
  go_enter Try.func7, Try.ntmps7
  go_wp2_with fail
  refine (l33_nil k W).mono ?_
  rintro e w' ⟨rfl, hw⟩
  obtain rfl := hw.symm
  clear hW
  go_wp2_with fail
  refine bodyPost_ret (v := .tuple #[.agg dz, .int .i64 1]) (by simp [results, Try.results7, go_sem, c0, c1, c2, c3, c4]) rfl ⟨rfl, ?_⟩
  have h0 := Nat.le_refl w.heap.size
  exact ((((HB.out.setCell h0 _).setCell h0 _).setCell h0 _).setCell h0 _).setCell h0 _
end Go.Proofs.Ytopljcabcknaeaa.Lk
