/- Contracts of what must be whatever is asked, and of the statement on no table. -/
import Derived.Test.YtdonclnjgopmbaaOF
namespace Go.Proofs.Ytdonclnjgopmbaa
open Go.RowKit
attribute [local go_sem ↓] Go.wp_at_zero Go.wp_at_succ
abbrev x0 : Nm := (0, 1)
theorem wf0 : wfN x0 := ⟨by decide, by decide⟩
/-- A table, and a name in memory. -/
structure Lv (w0 w : World) (tb rb wb vb n : Nat) (s : Nm → Sl) (m : Nm → List Int) (q : Nm → Bool) : Prop where
  tab : TbAt w w0.heap.size tb rb wb n s m q
  box : w.heap[vb]? = some (.cells #[.int .i64 0, .int .i64 1] 28 (0, 0))
  bel : Below w0.heap.size w0 w
section
variable {w0 w w' : World} {tb rb wb vb n n' : Nat} {s s' : Nm → Sl} {m m' : Nm → List Int} {q q' : Nm → Bool}
theorem Lv.to (h : Lv w0 w tb rb wb vb n s m q) (ht : TbAt w' w0.heap.size tb rb wb n' s' m' q') (hk : TbTo w w' rb wb s s') : Lv w0 w' tb rb wb vb n' s' m' q' := by
  refine ⟨ht, ?_, h.bel.trans (TbTo.below h.tab hk h.bel.size)⟩
  refine (hk.block vb (Array.getElem?_eq_some_iff.1 h.box).1 (h.tab.rows.ne_cells h.box) (h.tab.want.ne_cells h.box) fun x hx e => ?_).trans h.box
  obtain ⟨cu, h1⟩ := (h.tab.row x hx).type e
  rw [h.box] at h1; cases h1
theorem Lv.below (h : Lv w0 w tb rb wb vb n s m q) (hb : Below w.heap.size w w') : Lv w0 w' tb rb wb vb n s m q := h.to (h.tab.below hb) (TbTo.of hb)
theorem Lv.cells (h : Lv w0 w tb rb wb vb n s m q) : w.cell? ⟨vb, 0, none⟩ = some (.int .i64 0) ∧ w.cell? ⟨vb, 1, none⟩ = some (.int .i64 1) := box_cells h.box
end
def m1 : Nm → List Int := setAt (fun _ => []) x0 [1]
def m2 : Nm → List Int := setAt m1 x0 [1, 2]
def m3 : Nm → List Int := setAt m2 x0 []
def q1 : Nm → Bool := setAt (fun _ => false) x0 true
theorem m1_at : m1 x0 = [1] := setAt_same _ _ _
theorem m2_at : m2 x0 = [1, 2] := setAt_same _ _ _
theorem m3_at : m3 x0 = [] := setAt_same _ _ _
theorem q1_at : q1 x0 = true := setAt_same _ _ _
theorem lv_ask {w0 w : World} {tb rb wb vb n : Nat} {s : Nm → Sl} {m : Nm → List Int} {q : Nm → Bool} (k : Int) (h : Lv w0 w tb rb wb vb n s m q) (hn : n ≤ 10) (hl : (m x0).length ≤ 10) :
    Calls Try.prog 11 #[.pointer (some ⟨tb, 0, none⟩), .agg #[.int .i64 0, .int .i64 1], .int .i64 k] w fun e w' => e = .returned (.bool (!hasI (m x0) k)) ∧ Hid (∃ s', Lv w0 w' tb rb wb vb (n + 1) s' (if hasI (m x0) k = true then m else setAt m x0 (m x0 ++ [k])) q) := by
  refine (o11 _ tb rb wb n s m q x0 k w h.tab wf0 (by omega) (by omega) h.bel.size).mono ?_
  rintro e w' ⟨rfl, s', h1, h2⟩
  exact ⟨rfl, s', h.to h1 h2⟩
set_option maxRecDepth 100000 in
set_option maxHeartbeats 4000000 in
theorem o21 (w : World) : Calls Try.prog 21 #[] w fun e w' => e = .returned (.bool true) ∧ Below w.heap.size w w' := by
  have H7 : Calls Try.prog 7 #[] w fun e w' => ∃ tb rb wb, e = .returned (.pointer (some ⟨tb, 0, none⟩)) ∧ Hid (TbAt w' w.heap.size tb rb wb 0 (fun _ => ⟨none, 0, 0⟩) (fun _ => []) (fun _ => false) ∧ Below w.heap.size w w') := by
    refine (o7 w).mono ?_
    rintro e w' ⟨rfl, h1, h2⟩
    exact ⟨_, _, _, rfl, h1, h2⟩
  go_enter Try.func21, Try.ntmps21
  go_wp2_with fail
  refine H7.mono ?_
  rintro e w1 ⟨tb, rb, wb, rfl, HT⟩
  clear H7
  obtain ⟨W1, hW1⟩ : ∃ W1, w1.alloc (.cells #[.int .i64 0, .int .i64 0] 28) = W1 := ⟨_, rfl⟩
  obtain ⟨vb, hvb⟩ : ∃ vb, w1.heap.size = vb := ⟨_, rfl⟩
  have hc : W1.heap[vb]? = some (.cells #[.int .i64 0, .int .i64 0] 28 (0, 0)) := by rw [← hW1, ← hvb]; exact heap_alloc_new w1 _
  obtain ⟨c0, c1⟩ := box_cells hc
  have g0 := frozen_of_row W1 vb 0 _ 28 hc
  have g1 := frozen_of_row W1 vb 1 _ 28 hc
  have HL : Hid (Lv w ((W1.setCell ⟨vb, 0, none⟩ (.int .i64 0)).setCell ⟨vb, 1, none⟩ (.int .i64 1)) tb rb wb vb 0 (fun _ => ⟨none, 0, 0⟩) (fun _ => []) (fun _ => false)) := by
    obtain ⟨p1, p2⟩ := HT.out
    have b1 : Below w1.heap.size w1 W1 := by rw [← hW1]; exact (Below.refl _ _).alloc (Nat.le_refl _) _
    have b2 : Below w1.heap.size w1 ((W1.setCell ⟨vb, 0, none⟩ (.int .i64 0)).setCell ⟨vb, 1, none⟩ (.int .i64 1)) := by
      have h0 : w1.heap.size ≤ vb := by omega
      exact (b1.setCell (p := ⟨vb, 0, none⟩) h0 _).setCell (p := ⟨vb, 1, none⟩) h0 _
    refine ⟨p1.below b2, ?_, p2.trans (b2.mono p2.size)⟩
    have e1 := heap_setCell_same W1 vb 0 _ 28 (.int .i64 0) hc
    exact heap_setCell_same _ vb 1 _ 28 (.int .i64 1) e1
  have H11 : Calls Try.prog 11 #[.pointer (some ⟨tb, 0, none⟩), .agg #[.int .i64 0, .int .i64 1], .int .i64 1] ((W1.setCell ⟨vb, 0, none⟩ (.int .i64 0)).setCell ⟨vb, 1, none⟩ (.int .i64 1)) fun e w' => e = .returned (.bool true) ∧ Hid (∃ s', Lv w w' tb rb wb vb 1 s' m1 (fun _ => false)) := lv_ask 1 HL.out (by omega) (by simp)
  clear HT HL
  go_wp2_with fail
  clear hW1 hvb hc c0 c1 g0 g1
  refine H11.mono ?_
  rintro e w2 ⟨rfl, H2⟩
  clear H11
  obtain ⟨s2, L2⟩ := H2.out
  obtain ⟨c0, c1⟩ := L2.cells
  have H11 : Calls Try.prog 11 #[.pointer (some ⟨tb, 0, none⟩), .agg #[.int .i64 0, .int .i64 1], .int .i64 2] w2 fun e w' => e = .returned (.bool true) ∧ Hid (∃ s', Lv w w' tb rb wb vb 2 s' m2 (fun _ => false)) := by
    have := lv_ask 2 L2 (by omega) (by rw [m1_at]; simp)
    rw [m1_at] at this
    exact this
  clear L2 H2 s2
  go_wp2_with fail
  refine H11.mono ?_
  rintro e w3 ⟨rfl, H2⟩
  clear H11 c0 c1
  obtain ⟨s2, L2⟩ := H2.out
  obtain ⟨c0, c1⟩ := L2.cells
  have H11 : Calls Try.prog 11 #[.pointer (some ⟨tb, 0, none⟩), .agg #[.int .i64 0, .int .i64 1], .int .i64 1] w3 fun e w' => e = .returned (.bool false) ∧ Hid (∃ s', Lv w w' tb rb wb vb 3 s' m2 (fun _ => false)) := by
    have := lv_ask 1 L2 (by omega) (by rw [m2_at]; simp)
    rw [m2_at] at this
    exact this
  clear L2 H2 s2
  go_wp2_with fail
  refine H11.mono ?_
  rintro e w4 ⟨rfl, H2⟩
  clear H11 c0 c1
  obtain ⟨s4, L4⟩ := H2.out
  obtain ⟨c0, c1⟩ := L4.cells
  have H14 : Calls Try.prog 14 #[.pointer (some ⟨tb, 0, none⟩), .agg #[.int .i64 0, .int .i64 1]] w4 fun e w' => ∃ a c, e = .returned (.slice a 2 c) ∧ Hid ((∃ s', Lv w w' tb rb wb vb 3 s' m3 (fun _ => false)) ∧ In w' a 2 [1, 2]) := by
    refine (o14 _ tb rb wb 3 s4 m2 _ x0 w4 L4.tab wf0).mono ?_
    rintro e w' ⟨rfl, p1, p2, p3⟩
    rw [m2_at] at p3
    have e2 : (s4 x0).n = 2 := p3.len.symm
    rw [e2] at p3 ⊢
    exact ⟨_, _, rfl, ⟨_, L4.to p1 p2⟩, p3⟩
  clear L4 H2 s4
  go_wp2_with fail
  refine H14.mono ?_
  rintro e w5 ⟨a5, k5, rfl, H5⟩
  clear H14 c0 c1
  have H13 : Calls Try.prog 13 #[.slice a5 2 k5, .slice (some ⟨w5.heap.size, 0, none⟩) 2 2] (w5.alloc (.cells #[.int .i64 1, .int .i64 2] 3)) fun e w' => e = .returned (.bool true) ∧ Hid (∃ s', Lv w w' tb rb wb vb 3 s' m3 (fun _ => false)) := by
    have hb : Below w5.heap.size w5 (w5.alloc (.cells #[.int .i64 1, .int .i64 2] 3)) := (Below.refl _ _).alloc (Nat.le_refl _) _
    have hi : In (w5.alloc (.cells #[.int .i64 1, .int .i64 2] 3)) (some ⟨w5.heap.size, 0, none⟩) 2 [1, 2] := by
      refine ⟨rfl, .inr ⟨_, _, rfl, by simp, fun j u hu => ?_⟩⟩
      rw [Nat.zero_add, cell_of_row _ w5.heap.size j _ 3 (0, 0) (heap_alloc_new w5 _)]
      simpa [i64s] using hu
    refine (o13 a5 _ 2 k5 2 2 [1, 2] [1, 2] _ (H5.out.2.below hb) hi (by omega) (by omega)).mono ?_
    rintro e w' ⟨rfl, d, rfl⟩
    obtain ⟨s', L⟩ := H5.out.1
    exact ⟨rfl, s', (L.below hb).below (below_dN (Below.refl _ _) d)⟩
  go_wp2_with fail
  refine H13.mono ?_
  rintro e w6 ⟨rfl, H6⟩
  clear H13 H5
  obtain ⟨s6, L6⟩ := H6.out
  obtain ⟨c0, c1⟩ := L6.cells
  have H14 : Calls Try.prog 14 #[.pointer (some ⟨tb, 0, none⟩), .agg #[.int .i64 0, .int .i64 1]] w6 fun e w' => e = .returned (.slice none 0 0) ∧ Hid (∃ s', Lv w w' tb rb wb vb 3 s' (setAt m3 x0 []) (fun _ => false)) := by
    refine (o14 _ tb rb wb 3 s6 m3 _ x0 w6 L6.tab wf0).mono ?_
    rintro e w' ⟨rfl, p1, p2, p3⟩
    rw [L6.tab.nil x0 m3_at]
    exact ⟨rfl, _, L6.to p1 p2⟩
  clear L6 H6 s6
  go_wp2_with fail
  refine H14.mono ?_
  rintro e w7 ⟨rfl, H7⟩
  clear H14 c0 c1
  obtain ⟨s7, L7⟩ := H7.out
  obtain ⟨c0, c1⟩ := L7.cells
  have H16 : Calls Try.prog 16 #[.pointer (some ⟨tb, 0, none⟩), .agg #[.int .i64 0, .int .i64 1]] w7 fun e w' => e = .returned (.bool true) ∧ Hid (∃ s', Lv w w' tb rb wb vb 4 s' (setAt m3 x0 []) q1) := by
    refine (o16 _ tb rb wb 3 s7 _ _ x0 w7 L7.tab wf0 (by omega)).mono ?_
    rintro e w' ⟨rfl, p1, p2⟩
    exact ⟨rfl, _, L7.to p1 p2⟩
  clear L7 H7 s7
  go_wp2_with fail
  refine H16.mono ?_
  rintro e w8 ⟨rfl, H8⟩
  clear H16 c0 c1
  obtain ⟨s8, L8⟩ := H8.out
  obtain ⟨c0, c1⟩ := L8.cells
  have H16 : Calls Try.prog 16 #[.pointer (some ⟨tb, 0, none⟩), .agg #[.int .i64 0, .int .i64 1]] w8 fun e w' => e = .returned (.bool false) ∧ Hid (Below w.heap.size w w') := by
    refine (o16 _ tb rb wb 4 s8 _ q1 x0 w8 L8.tab wf0 (by omega)).mono ?_
    rintro e w' ⟨rfl, p1, p2⟩
    rw [q1_at]
    exact ⟨rfl, (L8.to p1 p2).bel⟩
  clear L8 H8 s8
  go_wp2_with fail
  refine H16.mono ?_
  rintro e w9 ⟨rfl, H9⟩
  clear H16 c0 c1
  go_wp2_with fail
  go_ret
  exact ⟨rfl, H9.out⟩
end Go.Proofs.Ytdonclnjgopmbaa
