/- Contract of the statement on no table. -/
import Derived.Test.YtdonclnjgopmbaaOG
namespace Go.Proofs.Ytdonclnjgopmbaa
open Go.RowKit
attribute [local go_sem ↓] Go.wp_at_zero Go.wp_at_succ
/-- A world behind the beginning, in which the name stands. -/
def Nn (w w' : World) (vb : Nat) (x1 x2 : Int) : Prop := w'.heap[vb]? = some (.cells #[.int .i64 x1, .int .i64 x2] 28 (0, 0)) ∧ Below w.heap.size w w'
theorem Nn.below {w w' w'' : World} {vb : Nat} {x1 x2 : Int} (h : Nn w w' vb x1 x2) (hb : Below w'.heap.size w' w'') : Nn w w'' vb x1 x2 :=
  ⟨(hb.block vb (Array.getElem?_eq_some_iff.1 h.1).1).trans h.1, h.2.trans (hb.mono h.2.size)⟩
set_option maxRecDepth 100000 in
set_option maxHeartbeats 4000000 in
theorem o5 (x1 x2 k : Int) (w : World) : Calls Try.prog 5 #[.agg #[.int .i64 x1, .int .i64 x2], .int .i64 k] w fun e w' => e = .returned (.bool true) ∧ Below w.heap.size w w' := by
  obtain ⟨W, hW⟩ : ∃ W, w.alloc (.cells #[.int .i64 x1, .int .i64 x2] 28) = W := ⟨_, rfl⟩
  obtain ⟨vb, hvb⟩ : ∃ vb, w.heap.size = vb := ⟨_, rfl⟩
  have H0 : Hid (Nn w W vb x1 x2) := by
    rw [← hW, ← hvb]
    exact ⟨heap_alloc_new w _, (Below.refl _ w).alloc (Nat.le_refl _) _⟩
  obtain ⟨c0, c1⟩ := box_cells H0.out.1
  go_enter Try.func5, Try.ntmps5
  go_wp2_with fail
  refine (o18_nil _ _).mono ?_
  rintro e w' ⟨rfl, hw⟩
  have H1 : Hid (Nn w w' vb x1 x2) := by rw [hw]; exact H0.out.below ((Below.refl _ _).alloc (Nat.le_refl _) _)
  clear hw H0 c0 c1 hW hvb
  have H21 : Calls Try.prog 21 #[] w' fun e w'' => e = .returned (.bool true) ∧ Hid (Nn w w'' vb x1 x2) := by
    refine (o21 w').mono ?_
    rintro e w'' ⟨rfl, hb⟩
    exact ⟨rfl, H1.out.below hb⟩
  go_wp2_with fail
  refine H21.mono ?_
  rintro e w1 ⟨rfl, H2⟩
  clear H21 H1
  obtain ⟨c0, c1⟩ := box_cells H2.out.1
  have H11 : Calls Try.prog 11 #[.pointer none, .agg #[.int .i64 x1, .int .i64 x2], .int .i64 k] w1 fun e w'' => e = .returned (.bool false) ∧ Hid (Nn w w'' vb x1 x2) := by
    refine (o11_nil x1 x2 k w1).mono ?_
    rintro e w'' ⟨rfl, hb⟩
    exact ⟨rfl, H2.out.below hb⟩
  go_wp2_with fail
  refine H11.mono ?_
  rintro e w2 ⟨rfl, H3⟩
  clear H11 H2 c0 c1
  obtain ⟨c0, c1⟩ := box_cells H3.out.1
  have H14 : Calls Try.prog 14 #[.pointer none, .agg #[.int .i64 x1, .int .i64 x2]] w2 fun e w'' => e = .returned (.slice none 0 0) ∧ Hid (Nn w w'' vb x1 x2) := by
    refine (o14_nil x1 x2 w2).mono ?_
    rintro e w'' ⟨rfl, hb⟩
    exact ⟨rfl, H3.out.below hb⟩
  go_wp2_with fail
  refine H14.mono ?_
  rintro e w3 ⟨rfl, H4⟩
  clear H14 H3 c0 c1
  obtain ⟨c0, c1⟩ := box_cells H4.out.1
  have H22 : Calls Try.prog 22 #[.pointer none, .agg #[.int .i64 x1, .int .i64 x2]] w3 fun e w'' => e = .returned (.slice none 0 0) ∧ Hid (Nn w w'' vb x1 x2) := by
    refine (o22_nil x1 x2 w3).mono ?_
    rintro e w'' ⟨rfl, hb⟩
    exact ⟨rfl, H4.out.below hb⟩
  go_wp2_with fail
  refine H22.mono ?_
  rintro e w4 ⟨rfl, H5⟩
  clear H22 H4 c0 c1
  obtain ⟨c0, c1⟩ := box_cells H5.out.1
  have H16 : Calls Try.prog 16 #[.pointer none, .agg #[.int .i64 x1, .int .i64 x2]] w4 fun e w'' => e = .returned (.bool false) ∧ Hid (Nn w w'' vb x1 x2) := by
    refine (o16_nil x1 x2 w4).mono ?_
    rintro e w'' ⟨rfl, hb⟩
    exact ⟨rfl, H5.out.below hb⟩
  go_wp2_with fail
  refine H16.mono ?_
  rintro e w5 ⟨rfl, H6⟩
  clear H16 H5 c0 c1
  go_wp2_with fail
  refine (o23_nil w5).mono ?_
  rintro e w' ⟨rfl, hw⟩
  obtain rfl := hw.symm
  go_wp2_with fail
  refine (o24_nil w5).mono ?_
  rintro e w' ⟨rfl, hw⟩
  obtain rfl := hw.symm
  go_wp2_with fail
  refine (o9_nil w5).mono ?_
  rintro e w' ⟨rfl, hw⟩
  obtain rfl := hw.symm
  go_wp2_with fail
  go_ret
  exact ⟨rfl, H6.out.2⟩
end Go.Proofs.Ytdonclnjgopmbaa
