/- Contracts of Exports, and of what must be whatever is asked. -/
import Derived.Test.YtkpbmnaghepddabRF
namespace Go.Proofs.Ytkpbmnaghepddab
open Go.RowKit
attribute [local go_sem ↓] Go.wp_at_zero Go.wp_at_succ
set_option maxRecDepth 100000 in
theorem r18 (B tb eb ib n : Nat) (own nodes : Int) (f g : Hk → Int) (k : Hk) (w : World) (h : RtAt w B tb eb ib n own nodes f g) (hone : ∀ x, wfK x → x ≠ k → f x = 0) (hk : wfK k) :
    Calls Try.prog 12 #[.pointer (some ⟨tb, 0, none⟩)] w fun e w' => ∃ a m c, e = .returned (.slice a m c) ∧ RiseTo w f k (.slice a m c) w' := by
  have H49 : Calls Try.prog 18 #[.map (some eb)] w fun e w' => ∃ a m c, e = .returned (.slice a m c) ∧ Hid (RiseTo w f k (.slice a m c) w') := r49 eb n f k w h.ex hone hk
  obtain ⟨t0, t1, t2, t3⟩ := h.cells
  clear h hone hk
  go_enter Try.func12, Try.ntmps12
  go_wp2_with fail
  refine H49.mono ?_
  rintro e w1 ⟨a, m, c, rfl, H1⟩
  go_wp2_with fail
  go_ret
  exact ⟨a, m, c, rfl, H1.out⟩
theorem rise_one {w w' : World} {f : Hk → Int} {k : Hk} {a : Option Addr} {m c : Nat} (h : RiseTo w f k (.slice a m c) w') (hf : ¬ f k = 0) : m = 1 ∧ ∃ g, a = some ⟨g, 0, none⟩ ∧ w.heap.size ≤ g ∧ g < w'.heap.size ∧ w'.cell? ⟨g, 0, none⟩ = some (.int .i64 k.1.1) ∧ w'.cell? ⟨g, 1, none⟩ = some (.int .i64 k.1.2) ∧ w'.cell? ⟨g, 2, none⟩ = some (.int .i64 k.2) ∧ w'.cell? ⟨g, 3, none⟩ = some (.int .i64 (f k)) := by
  have h1 := h.1
  unfold riseN riseL at h1
  rw [if_neg hf, if_neg hf] at h1
  rcases h1.2 with ⟨_, e⟩ | ⟨g, cap, cur, e, h2, h3, h4, h5, h6, h7⟩
  · omega
  · cases e
    have key : ∀ (i : Nat) (v : Value), i < 4 → ([Value.int .i64 k.1.1, .int .i64 k.1.2, .int .i64 k.2, .int .i64 (f k)])[i]? = some v → w'.cell? ⟨g, i, none⟩ = some v := fun i v hi hv => by
      rw [cell_of_row w' g i _ 59 (0, 0) h3]
      rw [← h7, List.getElem?_take_of_lt (by omega)] at hv
      simpa using hv
    exact ⟨rfl, g, rfl, h2, (Array.getElem?_eq_some_iff.1 h3).1, key 0 _ (by omega) rfl, key 1 _ (by omega) rfl, key 2 _ (by omega) rfl, key 3 _ (by omega) rfl⟩
theorem rise_none {w w' : World} {f : Hk → Int} {k : Hk} {a : Option Addr} {m c : Nat} (h : RiseTo w f k (.slice a m c) w') (hf : f k = 0) : m = 0 := by
  have h1 := h.1
  unfold riseN riseL at h1
  rw [if_pos hf, if_pos hf] at h1
  rcases h1.2 with ⟨e, _⟩ | ⟨g, cap, cur, e, _⟩
  · cases e; rfl
  · cases e; rfl
abbrev x0 : Nm := (0, 1)
theorem wf0 : wfN x0 := ⟨by unfold wfI; decide, by unfold wfI; decide⟩
def f1 : Hk → Int := addF (fun _ => 0) (x0, 2) (-1)
def f2 : Hk → Int := addF f1 (x0, 2) 1
def f3 : Hk → Int := sentF f2 1 [x0, x0]
theorem f1_at : f1 (x0, 2) = -1 := by unfold f1 addF; simp [IntKind.wrap]; decide
theorem f2_zero (y : Hk) : f2 y = 0 := by
  unfold f2 addF
  split
  · rw [f1_at]; decide
  · next h => unfold f1 addF; rw [if_neg h]
theorem f3_at : f3 (x0, 1) = 2 := by
  unfold f3 sentF
  simp only [List.foldl_cons, List.foldl_nil, addF, if_true, f2_zero]
  decide
theorem f3_other (y : Hk) (h : y ≠ (x0, 1)) : f3 y = 0 := by
  unfold f3 sentF
  simp only [List.foldl_cons, List.foldl_nil, addF, if_neg h, f2_zero]
theorem exp1 : expB f1 3 x0 = true := by
  unfold expB
  rw [List.any_eq_true]
  refine ⟨2, by decide, ?_⟩
  show (!decide (f1 (x0, ((2 : Nat) : Int)) = 0)) = true
  have : f1 (x0, ((2 : Nat) : Int)) = -1 := f1_at
  rw [this]; decide
/-- A table, and a name in memory. -/
structure Lw (w0 w : World) (tb eb ib vb n : Nat) (f : Hk → Int) : Prop where
  tab : RtAt w w0.heap.size tb eb ib n 0 3 f (fun _ => 0)
  box : w.heap[vb]? = some (.cells #[.int .i64 0, .int .i64 1] 31 (0, 0))
  bel : Below w0.heap.size w0 w
section
variable {w0 w w' : World} {tb eb ib vb n n' : Nat} {f f' : Hk → Int}
theorem Lw.to (h : Lw w0 w tb eb ib vb n f) (ht : RtIs w w0.heap.size tb eb ib n' 0 3 f' (fun _ => 0) w') : Lw w0 w' tb eb ib vb n' f' :=
  ⟨ht.1, (ht.2.block vb (Array.getElem?_eq_some_iff.1 h.box).1 (h.tab.ex.ne_cells h.box) (h.tab.im.ne_cells h.box)).trans h.box, h.bel.trans (ht.2.below h.tab.hb.1 h.tab.hb.2 h.bel.size)⟩
theorem Lw.below (h : Lw w0 w tb eb ib vb n f) (hb : Below w.heap.size w w') : Lw w0 w' tb eb ib vb n f := h.to (RtIs.of h.tab hb)
theorem Lw.cells (h : Lw w0 w tb eb ib vb n f) : w.cell? ⟨vb, 0, none⟩ = some (.int .i64 0) ∧ w.cell? ⟨vb, 1, none⟩ = some (.int .i64 1) := box2 h.box
end
abbrev LwS (w0 : World) (tb eb ib vb n g : Nat) (f : Hk → Int) (w : World) : Prop :=
  w.cell? ⟨vb, 0, none⟩ = some (.int .i64 0) ∧ w.cell? ⟨vb, 1, none⟩ = some (.int .i64 1) ∧ w.cell? ⟨g, 0, none⟩ = some (.int .i64 0) ∧ w.cell? ⟨g, 1, none⟩ = some (.int .i64 1) ∧ w.cell? ⟨g, 2, none⟩ = some (.int .i64 1) ∧ w.cell? ⟨g, 3, none⟩ = some (.int .i64 2) ∧ Hid (Lw w0 w tb eb ib vb n f ∧ g < w.heap.size)
theorem lwS_below {w0 w w' : World} {tb eb ib vb n g : Nat} {f : Hk → Int} (h : LwS w0 tb eb ib vb n g f w) (hb : Below w.heap.size w w') : LwS w0 tb eb ib vb n g f w' := by
  obtain ⟨h1, h2, h3, h4, h5, h6, h7⟩ := h
  obtain ⟨p1, p2⟩ := h7.out
  have p3 := p1.below hb
  have e : ∀ j, w'.cell? ⟨g, j, none⟩ = w.cell? ⟨g, j, none⟩ := fun j => hb.cell (p := ⟨g, j, none⟩) p2
  exact ⟨p3.cells.1, p3.cells.2, (e 0).trans h3, (e 1).trans h4, (e 2).trans h5, (e 3).trans h6, p3, Nat.lt_of_lt_of_le p2 hb.size⟩
theorem lwS_alloc {w0 w : World} {tb eb ib vb n g : Nat} {f : Hk → Int} (o : Obj) (h : LwS w0 tb eb ib vb n g f w) : LwS w0 tb eb ib vb n g f (w.alloc o) := lwS_below h ((Below.refl _ w).alloc (Nat.le_refl _) o)
theorem lwS_drew {w0 w : World} {tb eb ib vb n g : Nat} {f : Hk → Int} (h : LwS w0 tb eb ib vb n g f w) : LwS w0 tb eb ib vb n g f w.drew := lwS_below h ((Below.refl _ w).drew)
end Go.Proofs.Ytkpbmnaghepddab
