/- A token of the reference in memory. -/
import Derived.Test.YtampjlafhglceaaDoorM3
namespace Go.Proofs.YtampjlafhglceaaDoor
open Go.RowKit
theorem alloc_heap_new (w : World) (o : Obj) : (w.alloc o).heap[w.heap.size]? = some o := by
  show (w.heap.push o)[w.heap.size]? = _
  simp
theorem range_newB (w : World) (cs : List Value) (t : TypeId) : (w.alloc (.cells cs.toArray t)).rangeAt w.heap.size 0 cs := by
  intro j v hv
  rw [cell_of_row _ _ _ _ _ _ (alloc_heap_new w (.cells cs.toArray t))]
  simpa using hv
/-- A token of the reference lies at a block. -/
def Tok (w : World) (b : Nat) : Prop := w.cell? ⟨b, 0, none⟩ = some (.int .i64 0) ∧ w.cell? ⟨b, 1, none⟩ = some (.string ⟨#[]⟩) ∧ w.cell? ⟨b, 2, none⟩ = some (.int .i64 0) ∧ w.cell? ⟨b, 3, none⟩ = some (.int .i64 0) ∧ w.cell? ⟨b, 4, none⟩ = some (.int .i64 0) ∧ ∀ o, w.frozen? ⟨b, o, none⟩ = false
theorem Tok.lt {w : World} {b : Nat} (h : Tok w b) : b < w.heap.size := World.block_lt_of_cell? w _ h.1
theorem Tok.below {w w' : World} {b : Nat} (h : Tok w b) (hb : Below w.heap.size w w') : Tok w' b :=
  ⟨(hb.cell (p := ⟨b, 0, none⟩) h.lt).trans h.1, (hb.cell (p := ⟨b, 1, none⟩) h.lt).trans h.2.1, (hb.cell (p := ⟨b, 2, none⟩) h.lt).trans h.2.2.1, (hb.cell (p := ⟨b, 3, none⟩) h.lt).trans h.2.2.2.1, (hb.cell (p := ⟨b, 4, none⟩) h.lt).trans h.2.2.2.2.1, fun o => (hb.frozen (p := ⟨b, o, none⟩) h.lt).trans (h.2.2.2.2.2 o)⟩
theorem tok_new (w : World) (o : Obj) : Tok ((w.alloc (.cells #[.int .i64 0, .string ⟨#[]⟩, .int .i64 0, .int .i64 0, .int .i64 0] 29)).alloc o) w.heap.size := by
  have h0 : Tok (w.alloc (.cells #[.int .i64 0, .string ⟨#[]⟩, .int .i64 0, .int .i64 0, .int .i64 0] 29)) w.heap.size := by
    have hh := alloc_heap_new w (.cells #[.int .i64 0, .string ⟨#[]⟩, .int .i64 0, .int .i64 0, .int .i64 0] 29)
    have hr := range_newB w [.int .i64 0, .string ⟨#[]⟩, .int .i64 0, .int .i64 0, .int .i64 0] 29
    refine ⟨hr 0 _ rfl, hr 1 _ rfl, hr 2 _ rfl, hr 3 _ rfl, hr 4 _ rfl, fun o => ?_⟩
    unfold World.frozen?
    show (match (w.alloc (.cells #[.int .i64 0, .string ⟨#[]⟩, .int .i64 0, .int .i64 0, .int .i64 0] 29)).heap[w.heap.size]? with | some (.cells _ _ (lo, hi)) => decide (lo ≤ o) && decide (o < hi) | _ => false) = false
    rw [hh]
    simp
  exact h0.below (below_alloc _ o)
end Go.Proofs.YtampjlafhglceaaDoor
