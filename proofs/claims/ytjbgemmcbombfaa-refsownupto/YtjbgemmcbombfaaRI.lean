/- Contracts of atOwner, Held, Free, Imports. -/
import Derived.Test.YtjbgemmcbombfaaRG
namespace Go.Proofs.Ytjbgemmcbombfaa
open Go.RowKit
attribute [local go_sem ↓] Go.wp_at_zero Go.wp_at_succ
set_option maxRecDepth 100000 in
set_option maxHeartbeats 1000000 in
theorem r53 (x1 x2 : Int) (w : World) : Calls Try.prog 53 #[.agg #[.int .i64 x1, .int .i64 x2]] w fun e w' => e = .returned (.agg #[.int .i64 x1, .int .i64 x2, .int .i64 x1]) ∧ Below w.heap.size w w' := by
  obtain ⟨W, hW⟩ : ∃ W, (w.alloc (.cells #[.int .i64 x1, .int .i64 x2] 48)).alloc (.cells #[.int .i64 0, .int .i64 0, .int .i64 0] 87) = W := ⟨_, rfl⟩
  have HB : Hid (Below w.heap.size w W) := by rw [← hW]; exact ((Below.refl _ w).alloc (Nat.le_refl _) _).alloc (by simp) _
  have hc1 : W.heap[w.heap.size]? = some (.cells #[.int .i64 x1, .int .i64 x2] 48 (0, 0)) := by
    rw [← hW, heap_alloc_old _ _ (by simp)]; exact heap_alloc_new w _
  have hc2 : W.heap[w.heap.size + 1]? = some (.cells #[.int .i64 0, .int .i64 0, .int .i64 0] 87 (0, 0)) := by
    have := heap_alloc_new (w.alloc (.cells #[.int .i64 x1, .int .i64 x2] 48)) (.cells #[.int .i64 0, .int .i64 0, .int .i64 0] 87)
    rw [← hW]; simpa using this
  obtain ⟨b0, b1⟩ := box2 hc1
  obtain ⟨c0, c1, c2⟩ := box3 hc2
  have g0 := frozen_of_row W (w.heap.size + 1) 0 _ 87 hc2
  have g1 := frozen_of_row W (w.heap.size + 1) 1 _ 87 hc2
  have g2 := frozen_of_row W (w.heap.size + 1) 2 _ 87 hc2
  clear hc1 hc2
  go_enter Try.func53, Try.ntmps53
  go_wp2_with fail
  refine bodyPost_ret (v := .agg #[.int .i64 x1, .int .i64 x2, .int .i64 x1]) (by simp [results, Try.results53, go_sem, c0, c1, c2]) rfl ⟨rfl, ?_⟩
  have h0 : w.heap.size ≤ w.heap.size + 1 := by omega
  exact ((HB.out.setCell (p := ⟨w.heap.size + 1, 0, none⟩) h0 _).setCell (p := ⟨w.heap.size + 1, 1, none⟩) h0 _).setCell (p := ⟨w.heap.size + 1, 2, none⟩) h0 _
set_option maxRecDepth 100000 in
set_option maxHeartbeats 2000000 in
theorem r23 (B tb eb ib n : Nat) (own nodes : Int) (f g : Hk → Int) (x : Nm) (w : World) (h : RtAt w B tb eb ib n own nodes f g) (hx : wfN x) :
    Calls Try.prog 23 #[.pointer (some ⟨tb, 0, none⟩), .agg #[.int .i64 x.1, .int .i64 x.2]] w fun e w' => e = .returned (.int .i64 (g (x, x.1))) ∧ Below w.heap.size w w' := by
  obtain ⟨W, hW⟩ : ∃ W, w.alloc (.cells #[.int .i64 x.1, .int .i64 x.2] 48) = W := ⟨_, rfl⟩
  have HX : Hid (Bx w W x) := by rw [← hW]; exact bx_new w x
  have HH : Hid (RtAt w B tb eb ib n own nodes f g ∧ wfN x) := ⟨h, hx⟩
  obtain ⟨t0, t1, t2, t3⟩ := (h.below HX.out.bel).cells
  obtain ⟨b0, b1⟩ := HX.out.cells
  clear h hx
  obtain ⟨x1, x2⟩ := x
  simp only at *
  have H53 : Calls Try.prog 53 #[.agg #[.int .i64 x1, .int .i64 x2]] W.drew fun e w' => e = .returned (.agg #[.int .i64 x1, .int .i64 x2, .int .i64 x1]) ∧ Hid (Bx w w' (x1, x2)) ∧ (Instr.lookup 79 (.map (some ib)) (.agg #[.int .i64 x1, .int .i64 x2, .int .i64 x1]) false).run Try.prog w' = .ok (.int .i64 (g ((x1, x2), x1))) w' ∧ w'.cell? ⟨tb, 3, none⟩ = some (.map (some ib)) := by
    refine (r53 x1 x2 W.drew).mono ?_
    rintro e w' ⟨rfl, hb⟩
    have hX := (HX.out.below ((Below.refl _ W).drew)).below hb
    have hR := HH.out.1.below hX.bel
    refine ⟨rfl, hX, ?_, hR.cells.2.2.2⟩
    have hz : (zeroValue 3).run Try.prog w' = .ok (.int .i64 0) w' := by go_simp
    have := hR.im.look Try.underlying79 hz (x := ((x1, x2), x1)) ⟨HH.out.2, HH.out.2.1⟩
    rw [cF_get] at this
    exact this
  go_enter Try.func23, Try.ntmps23
  go_wp2_with fail
  go_region_with (go_at_call 53; refine H53.mono ?_; rintro e w1 ⟨rfl, H1, hlk, d3⟩)
  all_goals (
    go_wp2_with fail
    go_ret
    exact ⟨rfl, H1.out.bel⟩)
/-- What Free leaves. -/
def freeF (g : Hk → Int) (x : Nm) : Hk → Int := fun y => if y = (x, x.1) ∧ 0 < g (x, x.1) then 0 else g y
theorem free_upd (g : Hk → Int) (x : Nm) (h : 0 < g (x, x.1)) : updF (cF g) (x, x.1) none = cF (freeF g x) := by
  funext y
  by_cases e : y = (x, x.1)
  · subst e; simp [updF, cF, freeF, h]
  · simp [updF, cF, freeF, e]
theorem free_no (g : Hk → Int) (x : Nm) (h : ¬ 0 < g (x, x.1)) : freeF g x = g := by
  funext y
  simp [freeF, h]
set_option maxRecDepth 100000 in
set_option maxHeartbeats 2000000 in
theorem r24 (B tb eb ib n : Nat) (own nodes : Int) (f g : Hk → Int) (x : Nm) (w : World) (h : RtAt w B tb eb ib n own nodes f g) (hx : wfN x) :
    Calls Try.prog 24 #[.pointer (some ⟨tb, 0, none⟩), .agg #[.int .i64 x.1, .int .i64 x.2]] w fun e w' => e = .returned (.int .i64 (g (x, x.1))) ∧ RtIs w B tb eb ib n own nodes f (freeF g x) w' := by
  obtain ⟨W, hW⟩ : ∃ W, w.alloc (.cells #[.int .i64 x.1, .int .i64 x.2] 48) = W := ⟨_, rfl⟩
  have HX : Hid (Bx w W x) := by rw [← hW]; exact bx_new w x
  have HH : Hid (RtAt w B tb eb ib n own nodes f g ∧ wfN x) := ⟨h, hx⟩
  obtain ⟨b0, b1⟩ := HX.out.cells
  have H23 : Calls Try.prog 23 #[.pointer (some ⟨tb, 0, none⟩), .agg #[.int .i64 x.1, .int .i64 x.2]] W fun e w' => e = .returned (.int .i64 (g (x, x.1))) ∧ Hid (Bx w w' x) := by
    refine (r23 B tb eb ib n own nodes f g x W (h.below HX.out.bel) hx).mono ?_
    rintro e w' ⟨rfl, hb⟩
    exact ⟨rfl, HX.out.below hb⟩
  clear h hx
  by_cases hg : 0 < g (x, x.1)
  · have HD : Hid (∀ w', Bx w w' x → ∃ w'', (Builtin.delete_ #[79, 87] 0 #[.map (some ib), .agg #[.int .i64 x.1, .int .i64 x.2, .int .i64 x.1]]).run Try.prog w' = .ok (.tuple #[]) w'' ∧ RtIs w B tb eb ib n own nodes f (freeF g x) w'') := fun w' hX => by
      have hR := HH.out.1.below hX.bel
      obtain ⟨w'', r1, r2, r3⟩ := hR.im.del Try.underlying79 (x := (x, x.1)) ⟨HH.out.2, HH.out.2.1⟩ 0
      rw [free_upd g x hg] at r2
      refine ⟨w'', r1, ⟨(r3.block tb hR.lt (by simpa using hR.im.ne_cells hR.blk)).trans hR.blk, hR.ex.keeps (r3.block eb hR.ex.lt (by simpa using hR.ne)), r2, hR.ne, hR.hb⟩, ?_⟩
      exact (RtTo.of hX.bel).trans ⟨r3.os, r3.tape, r3.output, r3.size, fun j hj _ h2 => r3.block j hj (by simpa using h2)⟩
    obtain ⟨x1, x2⟩ := x
    simp only at *
    generalize g ((x1, x2), x1) = gv at *
    have hgt : gv > 0 := hg
    go_enter Try.func24, Try.ntmps24
    go_wp2_with fail
    refine H23.mono ?_
    rintro e w1 ⟨rfl, H1⟩
    clear H23 hW b0 b1
    obtain ⟨b0, b1⟩ := H1.out.cells
    obtain ⟨t0, t1, t2, t3⟩ := (HH.out.1.below H1.out.bel).cells
    have H53 : Calls Try.prog 53 #[.agg #[.int .i64 x1, .int .i64 x2]] w1.drew fun e w' => e = .returned (.agg #[.int .i64 x1, .int .i64 x2, .int .i64 x1]) ∧ w'.cell? ⟨tb, 3, none⟩ = some (.map (some ib)) ∧ ∃ w'', (Builtin.delete_ #[79, 87] 0 #[.map (some ib), .agg #[.int .i64 x1, .int .i64 x2, .int .i64 x1]]).run Try.prog w' = .ok (.tuple #[]) w'' ∧ Hid (RtIs w B tb eb ib n own nodes f (freeF g (x1, x2)) w'') := by
      refine (r53 x1 x2 w1.drew).mono ?_
      rintro e w' ⟨rfl, hb⟩
      have hX := (H1.out.below ((Below.refl _ w1).drew)).below hb
      obtain ⟨w'', r1, r2⟩ := HD.out w' hX
      exact ⟨rfl, (HH.out.1.below hX.bel).cells.2.2.2, w'', r1, r2⟩
    simp only at b0 b1
    go_wp2_with fail
    go_region_with (go_at_call 53; refine H53.mono ?_; rintro e w2 ⟨rfl, d3, w3, hdl, H3⟩)
    all_goals (
      go_wp2_with fail
      go_ret
      exact ⟨rfl, H3.out⟩)
  · rw [free_no g x hg]
    obtain ⟨x1, x2⟩ := x
    simp only at *
    generalize g ((x1, x2), x1) = gv at *
    have hgt : ¬ gv > 0 := hg
    go_enter Try.func24, Try.ntmps24
    go_wp2_with fail
    refine H23.mono ?_
    rintro e w1 ⟨rfl, H1⟩
    go_wp2_with fail
    go_ret
    exact ⟨rfl, RtIs.of HH.out.1 H1.out.bel⟩
set_option maxRecDepth 100000 in
theorem r25 (B tb eb ib n : Nat) (own nodes : Int) (f g : Hk → Int) (k : Hk) (w : World) (h : RtAt w B tb eb ib n own nodes f g) (hone : ∀ x, wfK x → x ≠ k → g x = 0) (hk : wfK k) :
    Calls Try.prog 25 #[.pointer (some ⟨tb, 0, none⟩)] w fun e w' => ∃ a m c, e = .returned (.slice a m c) ∧ RiseTo w g k (.slice a m c) w' := by
  have H49 : Calls Try.prog 49 #[.map (some ib)] w fun e w' => ∃ a m c, e = .returned (.slice a m c) ∧ Hid (RiseTo w g k (.slice a m c) w') := r49 ib n g k w h.im hone hk
  obtain ⟨t0, t1, t2, t3⟩ := h.cells
  clear h hone hk
  go_enter Try.func25, Try.ntmps25
  go_wp2_with fail
  refine H49.mono ?_
  rintro e w1 ⟨a, m, c, rfl, H1⟩
  go_wp2_with fail
  go_ret
  exact ⟨a, m, c, rfl, H1.out⟩
end Go.Proofs.Ytjbgemmcbombfaa
