/- Contracts of New, peer, Look, Take, Next of the other node's link, which has sent nothing; of Same of like bytes. -/
import Derived.Test.YtnhomejenjinaaaLJ
namespace Go.Proofs.Ytnhomejenjinaaa
open Go.RowKit
attribute [local go_sem ↓] Go.wp_at_zero Go.wp_at_succ
/-- The cells of node 1's link that awaits a message of node 0. -/
abbrev lwV (t : Int) : Array Value := #[.int .i64 1, .int .i64 2, .int .i64 t, .int .i64 0, .slice none 0 0, .int .i64 0, .int .i64 0, .slice none 0 0, .int .i64 0, .int .i64 0, .slice none 0 0, .int .i64 0, .int .i64 0, .slice none 0 0]
def LwB (w : World) (lb : Nat) (t : Int) : Prop := w.heap[lb]? = some (.cells (lwV t) 61 (0, 0))
structure LwC (w : World) (lb : Nat) (t : Int) : Prop where
  c0 : w.cell? ⟨lb, 0, none⟩ = some (.int .i64 1)
  c1 : w.cell? ⟨lb, 1, none⟩ = some (.int .i64 2)
  c2 : w.cell? ⟨lb, 2, none⟩ = some (.int .i64 t)
  f2 : w.frozen? ⟨lb, 2, none⟩ = false
theorem LwB.cells {w : World} {lb : Nat} {t : Int} (h : LwB w lb t) : LwC w lb t :=
  ⟨by rw [cell_of_row w lb 0 _ 61 (0, 0) h]; rfl, by rw [cell_of_row w lb 1 _ 61 (0, 0) h]; rfl, by rw [cell_of_row w lb 2 _ 61 (0, 0) h]; rfl, frozen_of_row w lb 2 _ 61 h⟩
theorem LwB.below {w w' : World} {lb : Nat} {t : Int} (h : LwB w lb t) (hb : Below w.heap.size w w') : LwB w' lb t := (hb.block lb (Array.getElem?_eq_some_iff.1 h).1).trans h
set_option maxRecDepth 100000 in
theorem l7w (w : World) : Calls Try.prog 7 #[.int .i64 1, .int .i64 2] w fun e w' => e = .returned (.tuple #[.pointer (some ⟨w.heap.size, 0, none⟩), .int .i64 0]) ∧ w' = w.alloc (.cells (lwV 0) 61) := by
  go_enter Try.func7, Try.ntmps7
  go_wp2_with fail
  go_ret2
  exact ⟨rfl, rfl⟩
set_option maxRecDepth 100000 in
theorem l33w (lb : Nat) (t : Int) (w : World) (h : LwB w lb t) : Calls Try.prog 33 #[.pointer (some ⟨lb, 0, none⟩), .int .i64 0] w fun e w' => e = .returned (.tuple #[.pointer (some ⟨lb, 2, none⟩), .int .i64 0]) ∧ w' = w := by
  obtain ⟨c0, c1, c2, f2⟩ := h.cells
  clear h
  go_enter Try.func33, Try.ntmps33
  go_wp2_with fail
  go_ret2
  exact ⟨rfl, rfl⟩
set_option maxRecDepth 100000 in
theorem l24w (lb : Nat) (t : Int) (w : World) (h : LwB w lb t) : Calls Try.prog 24 #[.pointer (some ⟨lb, 0, none⟩), .int .i64 0] w fun e w' => e = .returned (.int .i64 t) ∧ w' = w := by
  have H33 := l33w lb t w h
  obtain ⟨c0, c1, c2, f2⟩ := h.cells
  clear h
  go_enter Try.func24, Try.ntmps24
  go_wp2_with fail
  refine H33.mono ?_
  rintro e w' ⟨rfl, hw⟩
  obtain rfl := hw.symm
  clear H33
  go_wp2_with fail
  go_ret
  exact ⟨rfl, rfl⟩
set_option maxRecDepth 100000 in
theorem l20w (lb : Nat) (t : Nat) (w : World) (h : LwB w lb t) (ht : t ≤ 1000000) : Calls Try.prog 20 #[.pointer (some ⟨lb, 0, none⟩), .int .i64 0] w fun e w' => e = .returned (.int .i64 0) ∧ LwB w' lb ((t : Int) + 1) ∧ (∀ B, B ≤ lb → Below B w w') ∧ w'.heap.size = w.heap.size ∧ ∀ k, k ≠ lb → w'.heap[k]? = w.heap[k]? := by
  have H33 := l33w lb t w h
  obtain ⟨c0, c1, c2, f2⟩ := h.cells
  have HE : Hid (LwB (w.setCell ⟨lb, 2, none⟩ (.int .i64 ((t : Int) + 1))) lb ((t : Int) + 1) ∧ (∀ B, B ≤ lb → Below B w (w.setCell ⟨lb, 2, none⟩ (.int .i64 ((t : Int) + 1)))) ∧ (w.setCell ⟨lb, 2, none⟩ (.int .i64 ((t : Int) + 1))).heap.size = w.heap.size ∧ ∀ k, k ≠ lb → (w.setCell ⟨lb, 2, none⟩ (.int .i64 ((t : Int) + 1))).heap[k]? = w.heap[k]?) := by
    refine ⟨?_, fun B hB => (Below.refl B w).setCell (p := ⟨lb, 2, none⟩) hB _, by simp, fun k hk => heap_setCell_other _ _ _ _ hk⟩
    have e2 := heap_setCell_same w lb 2 _ 61 (.int .i64 ((t : Int) + 1)) h
    show _ = _
    rw [e2]; rfl
  have h0 : (0 : Int) ≤ (t : Int) + 1 := by omega
  have h1 : (t : Int) + 1 ≤ 1000001 := by omega
  clear h
  go_enter Try.func20, Try.ntmps20
  go_wp2_with fail
  refine H33.mono ?_
  rintro e w' ⟨rfl, hw⟩
  obtain rfl := hw.symm
  clear H33
  go_wp2_with fail
  go_ret
  exact ⟨rfl, HE.out⟩
end Go.Proofs.Ytnhomejenjinaaa
