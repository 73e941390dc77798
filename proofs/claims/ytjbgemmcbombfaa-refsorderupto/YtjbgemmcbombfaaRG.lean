/- Contracts of Exports, and of what must be whatever is asked. -/
import Derived.Test.YtjbgemmcbombfaaRF
namespace Go.Proofs.Ytjbgemmcbombfaa
open Go.RowKit
attribute [local go_sem ↓] Go.wp_at_zero Go.wp_at_succ
set_option maxRecDepth 100000 in
theorem r18 (B tb eb ib n : Nat) (own nodes : Int) (f g : Hk → Int) (k : Hk) (w : World) (h : RtAt w B tb eb ib n own nodes f g) (hone : ∀ x, wfK x → x ≠ k → f x = 0) (hk : wfK k) :
    Calls Try.prog 18 #[.pointer (some ⟨tb, 0, none⟩)] w fun e w' => ∃ a m c, e = .returned (.slice a m c) ∧ RiseTo w f k (.slice a m c) w' := by
  have H49 : Calls Try.prog 49 #[.map (some eb)] w fun e w' => ∃ a m c, e = .returned (.slice a m c) ∧ Hid (RiseTo w f k (.slice a m c) w') := r49 eb n f k w h.ex hone hk
  obtain ⟨t0, t1, t2, t3⟩ := h.cells
  clear h hone hk
  go_enter Try.func18, Try.ntmps18
  go_wp2_with fail
  refine H49.mono ?_
  rintro e w1 ⟨a, m, c, rfl, H1⟩
  go_wp2_with fail
  go_ret
  exact ⟨a, m, c, rfl, H1.out⟩
theorem rise_one {w w' : World} {f : Hk → Int} {k : Hk} {a : Option Addr} {m c : Nat} (h : RiseTo w f k (.slice a m c) w') (hf : ¬ f k = 0) : m = 1 ∧ ∃ g, a = some ⟨g, 0, none⟩ ∧ w.heap.size ≤ g ∧ g < w'.heap.size ∧ w'.cell? ⟨g, 0, none⟩ = some (.int .i64 k.1.1) ∧ w'.cell? ⟨g, 1, none⟩ = some (.int .i64 k.1.2) ∧ w'.cell? ⟨g, 2, none⟩ = some (.int .i64 k.2) ∧ w'.cell? ⟨g, 3, none⟩ = some (.int .i64 (f k)) := by
  have h1 := h.1
  unfold riseN riseL at h1
  rw [if_neg hf, if_neg hf] at h1
  rcases h1.2 with ⟨_, e⟩ | ⟨g, cap, cur, e, h2, h3, h4, h5, h6, h7⟩
  · omega
  · cases e
    have key : ∀ (i : Nat) (v : Value), i < 4 → ([Value.int .i64 k.1.1, .int .i64 k.1.2, .int .i64 k.2, .int .i64 (f k)])[i]? = some v → w'.cell? ⟨g, i, none⟩ = some v := fun i v hi hv => by
      rw [cell_of_row w' g i _ 74 (0, 0) h3]
      rw [← h7, List.getElem?_take_of_lt (by omega)] at hv
      simpa using hv
    exact ⟨rfl, g, rfl, h2, (Array.getElem?_eq_some_iff.1 h3).1, key 0 _ (by omega) rfl, key 1 _ (by omega) rfl, key 2 _ (by omega) rfl, key 3 _ (by omega) rfl⟩
theorem rise_none {w w' : World} {f : Hk → Int} {k : Hk} {a : Option Addr} {m c : Nat} (h : RiseTo w f k (.slice a m c) w') (hf : f k = 0) : m = 0 := by
  have h1 := h.1
  unfold riseN riseL at h1
  rw [if_pos hf, if_pos hf] at h1
  rcases h1.2 with ⟨e, _⟩ | ⟨g, cap, cur, e, _⟩
  · cases e; rfl
  · cases e; rfl
abbrev x0 : Nm := (0, 1)
theorem wf0 : wfN x0 := ⟨by unfold wfI; decide, by unfold wfI; decide⟩
def f1 : Hk → Int := addF (fun _ => 0) (x0, 2) (-1)
def f2 : Hk → Int := addF f1 (x0, 2) 1
def f3 : Hk → Int := sentF f2 1 [x0, x0]
theorem f1_at : f1 (x0, 2) = -1 := by unfold f1 addF; simp [IntKind.wrap]; decide
theorem f2_zero (y : Hk) : f2 y = 0 := by
  unfold f2 addF
  split
  · rw [f1_at]; decide
  · next h => unfold f1 addF; rw [if_neg h]
theorem f3_at : f3 (x0, 1) = 2 := by
  unfold f3 sentF
  simp only [List.foldl_cons, List.foldl_nil, addF, if_true, f2_zero]
  decide
theorem f3_other (y : Hk) (h : y ≠ (x0, 1)) : f3 y = 0 := by
  unfold f3 sentF
  simp only [List.foldl_cons, List.foldl_nil, addF, if_neg h, f2_zero]
theorem exp1 : expB f1 3 x0 = true := by
  unfold expB
  rw [List.any_eq_true]
  refine ⟨2, by decide, ?_⟩
  show (!decide (f1 (x0, ((2 : Nat) : Int)) = 0)) = true
  have : f1 (x0, ((2 : Nat) : Int)) = -1 := f1_at
  rw [this]; decide
/-- A table, and a name in memory. -/
structure Lw (w0 w : World) (tb eb ib vb n : Nat) (f : Hk → Int) : Prop where
  tab : RtAt w w0.heap.size tb eb ib n 0 3 f (fun _ => 0)
  box : w.heap[vb]? = some (.cells #[.int .i64 0, .int .i64 1] 48 (0, 0))
  bel : Below w0.heap.size w0 w
section
variable {w0 w w' : World} {tb eb ib vb n n' : Nat} {f f' : Hk → Int}
theorem Lw.to (h : Lw w0 w tb eb ib vb n f) (ht : RtIs w w0.heap.size tb eb ib n' 0 3 f' (fun _ => 0) w') : Lw w0 w' tb eb ib vb n' f' :=
  ⟨ht.1, (ht.2.block vb (Array.getElem?_eq_some_iff.1 h.box).1 (h.tab.ex.ne_cells h.box) (h.tab.im.ne_cells h.box)).trans h.box, h.bel.trans (ht.2.below h.tab.hb.1 h.tab.hb.2 h.bel.size)⟩
theorem Lw.below (h : Lw w0 w tb eb ib vb n f) (hb : Below w.heap.size w w') : Lw w0 w' tb eb ib vb n f := h.to (RtIs.of h.tab hb)
theorem Lw.cells (h : Lw w0 w tb eb ib vb n f) : w.cell? ⟨vb, 0, none⟩ = some (.int .i64 0) ∧ w.cell? ⟨vb, 1, none⟩ = some (.int .i64 1) := box2 h.box
end
abbrev LwS (w0 : World) (tb eb ib vb n g : Nat) (f : Hk → Int) (w : World) : Prop :=
  w.cell? ⟨vb, 0, none⟩ = some (.int .i64 0) ∧ w.cell? ⟨vb, 1, none⟩ = some (.int .i64 1) ∧ w.cell? ⟨g, 0, none⟩ = some (.int .i64 0) ∧ w.cell? ⟨g, 1, none⟩ = some (.int .i64 1) ∧ w.cell? ⟨g, 2, none⟩ = some (.int .i64 1) ∧ w.cell? ⟨g, 3, none⟩ = some (.int .i64 2) ∧ Hid (Lw w0 w tb eb ib vb n f ∧ g < w.heap.size)
theorem lwS_below {w0 w w' : World} {tb eb ib vb n g : Nat} {f : Hk → Int} (h : LwS w0 tb eb ib vb n g f w) (hb : Below w.heap.size w w') : LwS w0 tb eb ib vb n g f w' := by
  obtain ⟨h1, h2, h3, h4, h5, h6, h7⟩ := h
  obtain ⟨p1, p2⟩ := h7.out
  have p3 := p1.below hb
  have e : ∀ j, w'.cell? ⟨g, j, none⟩ = w.cell? ⟨g, j, none⟩ := fun j => hb.cell (p := ⟨g, j, none⟩) p2
  exact ⟨p3.cells.1, p3.cells.2, (e 0).trans h3, (e 1).trans h4, (e 2).trans h5, (e 3).trans h6, p3, Nat.lt_of_lt_of_le p2 hb.size⟩
theorem lwS_alloc {w0 w : World} {tb eb ib vb n g : Nat} {f : Hk → Int} (o : Obj) (h : LwS w0 tb eb ib vb n g f w) : LwS w0 tb eb ib vb n g f (w.alloc o) := lwS_below h ((Below.refl _ w).alloc (Nat.le_refl _) o)
theorem lwS_drew {w0 w : World} {tb eb ib vb n g : Nat} {f : Hk → Int} (h : LwS w0 tb eb ib vb n g f w) : LwS w0 tb eb ib vb n g f w.drew := lwS_below h ((Below.refl _ w).drew)
set_option maxRecDepth 100000 in
set_option maxHeartbeats 8000000 in
theorem r11 (w : World) : Calls Try.prog 11 #[] w fun e w' => e = .returned (.bool true) ∧ Below w.heap.size w w' := by
  have H9 : Calls Try.prog 9 #[.int .i64 0, .int .i64 3] w fun e w' => ∃ tb eb ib, e = .returned (.tuple #[.pointer (some ⟨tb, 0, none⟩), .int .i64 0]) ∧ Hid (RtAt w' w.heap.size tb eb ib 0 0 3 (fun _ => 0) (fun _ => 0) ∧ Below w.heap.size w w') := r9 0 3 w (by decide) (by decide) (by decide)
  go_enter Try.func11, Try.ntmps11
  go_wp2_with fail
  refine H9.mono ?_
  rintro e w1 ⟨tb, eb, ib, rfl, HT⟩
  clear H9
  obtain ⟨W1, hW1⟩ : ∃ W1, w1.alloc (.cells #[.int .i64 0, .int .i64 0] 48) = W1 := ⟨_, rfl⟩
  obtain ⟨vb, hvb⟩ : ∃ vb, w1.heap.size = vb := ⟨_, rfl⟩
  have hc : W1.heap[vb]? = some (.cells #[.int .i64 0, .int .i64 0] 48 (0, 0)) := by rw [← hW1, ← hvb]; exact heap_alloc_new w1 _
  obtain ⟨c0, c1⟩ := box2 hc
  have g0 := frozen_of_row W1 vb 0 _ 48 hc
  have g1 := frozen_of_row W1 vb 1 _ 48 hc
  have HL : Hid (Lw w ((W1.setCell ⟨vb, 0, none⟩ (.int .i64 0)).setCell ⟨vb, 1, none⟩ (.int .i64 1)) tb eb ib vb 0 (fun _ => 0)) := by
    obtain ⟨p1, p2⟩ := HT.out
    have b1 : Below w1.heap.size w1 W1 := by rw [← hW1]; exact (Below.refl _ _).alloc (Nat.le_refl _) _
    have b2 : Below w1.heap.size w1 ((W1.setCell ⟨vb, 0, none⟩ (.int .i64 0)).setCell ⟨vb, 1, none⟩ (.int .i64 1)) := by
      have h0 : w1.heap.size ≤ vb := by omega
      exact (b1.setCell (p := ⟨vb, 0, none⟩) h0 _).setCell (p := ⟨vb, 1, none⟩) h0 _
    refine ⟨p1.below b2, ?_, p2.trans (b2.mono p2.size)⟩
    have e1 := heap_setCell_same W1 vb 0 _ 48 (.int .i64 0) hc
    exact heap_setCell_same _ vb 1 _ 48 (.int .i64 1) e1
  have H21 : Calls Try.prog 21 #[.pointer (some ⟨tb, 0, none⟩), .agg #[.int .i64 0, .int .i64 1], .int .i64 2, .int .i64 1] ((W1.setCell ⟨vb, 0, none⟩ (.int .i64 0)).setCell ⟨vb, 1, none⟩ (.int .i64 1)) fun e w' => e = .returned (.int .i64 0) ∧ Hid (Lw w w' tb eb ib vb 1 f1) := by
    refine (r21 _ tb eb ib 0 0 3 _ _ x0 2 1 _ HL.out.tab wf0 rfl (by decide) (by unfold wfI; decide) (by decide) (by decide) (by omega)).mono ?_
    rintro e w' ⟨rfl, h1⟩
    exact ⟨rfl, HL.out.to h1⟩
  clear HT
  go_wp2_with fail
  clear hW1 hvb hc c0 c1 g0 g1
  refine H21.mono ?_
  rintro e w2 ⟨rfl, H2⟩
  clear H21 HL
  obtain ⟨c0, c1⟩ := H2.out.cells
  have H20 : Calls Try.prog 20 #[.pointer (some ⟨tb, 0, none⟩), .agg #[.int .i64 0, .int .i64 1]] w2 fun e w' => e = .returned (.bool true) ∧ Hid (Lw w w' tb eb ib vb 1 f1) := by
    refine (r20 _ tb eb ib 1 0 3 f1 _ x0 w2 H2.out.tab wf0 (by omega)).mono ?_
    rintro e w' ⟨rfl, hb⟩
    rw [exp1]
    exact ⟨rfl, H2.out.below hb⟩
  go_wp2_with fail
  refine H20.mono ?_
  rintro e w3 ⟨rfl, H3⟩
  clear H20 H2 c0 c1
  obtain ⟨c0, c1⟩ := H3.out.cells
  have H30 : Calls Try.prog 30 #[.pointer (some ⟨tb, 0, none⟩), .agg #[.int .i64 0, .int .i64 1], .int .i64 2] w3 fun e w' => e = .returned (.int .i64 0) ∧ Hid (Lw w w' tb eb ib vb 2 f2) := by
    refine (r30 _ tb eb ib 1 0 3 f1 _ x0 2 w3 H3.out.tab wf0 rfl (by decide) (by decide) (by unfold wfI; decide) (by omega)).mono ?_
    rintro e w' ⟨rfl, h1⟩
    exact ⟨rfl, H3.out.to h1⟩
  go_wp2_with fail
  refine H30.mono ?_
  rintro e w4 ⟨rfl, H4⟩
  clear H30 H3 c0 c1
  obtain ⟨c0, c1⟩ := H4.out.cells
  have H19 : Calls Try.prog 19 #[.pointer (some ⟨tb, 0, none⟩), .int .i64 1, .slice (some ⟨w4.heap.size, 0, none⟩) 2 2] (w4.alloc (.cells #[.int .i64 0, .int .i64 1, .int .i64 0, .int .i64 1] 48)) fun e w' => e = .returned (.int .i64 0) ∧ Hid (Lw w w' tb eb ib vb 4 f3) := by
    have hL := H4.out.below ((Below.refl _ w4).alloc (Nat.le_refl _) (.cells #[.int .i64 0, .int .i64 1, .int .i64 0, .int .i64 1] 48))
    have hN : NmR (w4.alloc (.cells #[.int .i64 0, .int .i64 1, .int .i64 0, .int .i64 1] 48)) (some ⟨w4.heap.size, 0, none⟩) 2 [x0, x0] :=
      ⟨rfl, .inr ⟨_, _, rfl, by simp, fun j u hu => by rw [Nat.zero_add, cell_of_row _ w4.heap.size j _ 48 (0, 0) (heap_alloc_new w4 _)]; simpa [flatN] using hu⟩, fun y hy => by simp at hy; subst hy; exact wf0⟩
    refine (r19 _ tb eb ib 2 0 3 f2 _ 1 _ 2 2 [x0, x0] _ hL.tab (by decide) (by unfold wfI; decide) hN (fun j hj => by cases hj; exact ⟨hL.tab.ex.ne_cells (heap_alloc_new w4 _), hL.tab.im.ne_cells (heap_alloc_new w4 _)⟩) (by decide) (by omega)).mono ?_
    rintro e w' ⟨rfl, h1⟩
    exact ⟨rfl, hL.to h1⟩
  go_wp2_with fail
  refine H19.mono ?_
  rintro e w5 ⟨rfl, H5⟩
  clear H19 H4 c0 c1
  have H18 : Calls Try.prog 18 #[.pointer (some ⟨tb, 0, none⟩)] w5 fun e w' => ∃ g c, e = .returned (.slice (some ⟨g, 0, none⟩) 1 c) ∧ Hid (LwS w tb eb ib vb 4 g f3 w') := by
    refine (r18 _ tb eb ib 4 0 3 f3 _ (x0, 1) w5 H5.out.tab (fun y _ hy => f3_other y hy) ⟨wf0, by unfold wfI; decide⟩).mono ?_
    rintro e w' ⟨a, m, c, rfl, h1⟩
    obtain ⟨rfl, g, rfl, h2, h3, q0, q1, q2, q3⟩ := rise_one h1 (by rw [f3_at]; decide)
    rw [f3_at] at q3
    have hL := H5.out.below h1.2
    exact ⟨g, c, rfl, hL.cells.1, hL.cells.2, q0, q1, q2, q3, hL, h3⟩
  go_wp2_with fail
  refine H18.mono ?_
  rintro e w6 ⟨g, c, rfl, H6⟩
  clear H18 H5
  obtain ⟨c0, c1, d0, d1, d2, d3, _⟩ := H6.out
  have H19 : Hid (∀ w' v, LwS w tb eb ib vb 4 g f3 w' → Calls Try.prog 19 #[.pointer (some ⟨tb, 0, none⟩), .int .i64 0, v] w' fun e w'' => e = .returned (.int .i64 2) ∧ Below w'.heap.size w' w'') := fun w' v hS =>
    r19_range _ tb eb ib 4 0 3 f3 _ 0 v w' hS.2.2.2.2.2.2.out.1.tab (by decide)
  go_wp2_with fail
  go_region_held3 (fun w' => LwS w tb eb ib vb 4 g f3 w')
    (first | exact lwS_drew H6.out | (refine lwS_drew ?_; assumption) | assumption | exact lwS_below (by assumption) (by assumption) | (refine lwS_alloc _ ?_; assumption) | (refine lwS_alloc _ (lwS_drew ?_); assumption) | (refine lwS_drew (lwS_alloc _ ?_); assumption))
    (first
      | (go_at_call 19; refine (H19.out _ _ (by assumption)).mono ?_; rintro e w7 ⟨rfl, hb7⟩))
  all_goals (
    go_wp2_with fail
    go_ret
    exact ⟨rfl, (show LwS w tb eb ib vb 4 g f3 _ from by first | assumption | exact lwS_below (by assumption) (by assumption)).2.2.2.2.2.2.out.1.bel⟩)
end Go.Proofs.Ytjbgemmcbombfaa
