/- Contracts of letGo and Acked: the first of two messages goes. -/
import Derived.Test.YtnhomejenjinaaaLE
namespace Go.Proofs.Ytnhomejenjinaaa
open Go.RowKit
attribute [local go_sem ↓] Go.wp_at_zero Go.wp_at_succ
theorem run_cut1 (g c : Nat) (hc : 2 ≤ c) (W : World) : (Instr.slice 49 (.slice (some ⟨g, 0, none⟩) 2 c) none (some (.int .i64 1)) none).run Try.prog W = .ok (.slice (some ⟨g, 0, none⟩) 1 c) W := by
  obtain ⟨i0, hi, hz, hs, hb⟩ := infoSl
  have h1 : (1 : Int) ≤ (c : Int) := by omega
  simp [Instr.slice, run_underlying Try.underlying49, Instr.sliceBounds, run_sliceBound, sizeOf, typeInfo, hi, h1, Addr.add]
theorem run_from1 (g c : Nat) (hc : 2 ≤ c) (W : World) : (Instr.slice 49 (.slice (some ⟨g, 0, none⟩) 2 c) (some (.int .i64 1)) none none).run Try.prog W = .ok (.slice (some ⟨g, 1, none⟩) 1 (c - 1)) W := by
  obtain ⟨i0, hi, hz, hs, hb⟩ := infoSl
  have h2 : ¬ c = 1 := by omega
  simp [Instr.slice, run_underlying Try.underlying49, Instr.sliceBounds, run_sliceBound, sizeOf, typeInfo, hi, hs, h2, Addr.add]
theorem run_clear1 (w : World) (ty : TypeId) (g c : Nat) (v : Value) (hc : w.cell? ⟨g, 0, none⟩ = some v) (hf : w.frozen? ⟨g, 0, none⟩ = false) :
    (Builtin.clear_ #[49] ty #[.slice (some ⟨g, 0, none⟩) 1 c]).run Try.prog w = .ok (.tuple #[]) (w.setCell ⟨g, 0, none⟩ (.slice none 0 0)) := by
  have hst := run_storeCells_cells (P := Try.prog) g 0 [.slice none 0 0] 0 w (by intro j hj; simp at hj; subst hj; simp [hc]) (by intro j hj; simp at hj; subst hj; simpa using hf) (by intro v hv; simp at hv; subst hv; rfl)
  simp only [Nat.add_zero] at hst
  have hzc : (Builtin.zeroCells (Value.slice none 0 0).cells 1).toList = [.slice none 0 0] := by kernel_rfl
  have hz : (zeroValue 34).run Try.prog w = .ok (.slice none 0 0) w := by go_simp
  simp [Builtin.clear_, run_underlying Try.underlying49, hzc, hst, hz, World.setCells]
theorem letgo_ends {B lb g c : Nat} {t0 t1 : Sl} {w : World} (h : LkR w B lb 0 ⟨some ⟨g, 0, none⟩, 2, c⟩ [t0, t1]) :
    LkO (((w.setCell ⟨g, 0, none⟩ (.slice none 0 0)).setCell ⟨lb, 7, none⟩ (.slice (some ⟨g, 1, none⟩) 1 (c - 1))).setCell ⟨lb, 6, none⟩ (.int .i64 1)) lb 1 ⟨some ⟨g, 1, none⟩, 1, c - 1⟩ [t1] ∧
      Below B w (((w.setCell ⟨g, 0, none⟩ (.slice none 0 0)).setCell ⟨lb, 7, none⟩ (.slice (some ⟨g, 1, none⟩) 1 (c - 1))).setCell ⟨lb, 6, none⟩ (.int .i64 1)) ∧ lb ≠ g ∧ 2 ≤ c ∧ w.cell? ⟨g, 0, none⟩ = some t0.v ∧ w.frozen? ⟨g, 0, none⟩ = false := by
  have hlt : g < w.heap.size := (h.row.lt (g := g) rfl).2
  have hBg : B ≤ g := (h.row.lt (g := g) rfl).1
  obtain ⟨cu, hcu⟩ := h.row.kind (g := g) rfl
  have hne : lb ≠ g := fun e => by
    subst e
    have h2 := h.blk; unfold LkB at h2; rw [h2] at hcu; cases hcu
  have hcell : ∀ (k : Nat) (u : Value), ([t0, t1].map Sl.v)[k]? = some u → w.cell? ⟨g, k, none⟩ = some u := fun k u hu => by
    rcases h.row.reads.2 with e | ⟨ad, e1, e2⟩
    · cases e
    · cases e1
      have := e2 k u hu
      rw [Addr.add_mid, Nat.zero_add] at this
      exact this
  have hb1 := (((Below.refl B w).setCell (p := ⟨g, 0, none⟩) hBg (.slice none 0 0)).setCell (p := ⟨lb, 7, none⟩) h.hb (.slice (some ⟨g, 1, none⟩) 1 (c - 1))).setCell (p := ⟨lb, 6, none⟩) h.hb (.int .i64 1)
  refine ⟨⟨?_, rfl, fun k t e => ?_, fun t ht => ?_⟩, hb1, hne, h.row.cap, hcell 0 _ rfl, frozen_of_row w g 0 _ 34 hcu⟩
  · have e1 : (w.setCell ⟨g, 0, none⟩ (.slice none 0 0)).heap[lb]? = some (.cells (lkV 0 ⟨some ⟨g, 0, none⟩, 2, c⟩) 61 (0, 0)) := (heap_setCell_other _ _ _ _ hne).trans h.blk
    have e2 := heap_setCell_same _ lb 7 _ 61 (.slice (some ⟨g, 1, none⟩) 1 (c - 1)) e1
    have e3 := heap_setCell_same _ lb 6 _ 61 (.int .i64 1) e2
    show _ = _
    rw [e3]; rfl
  · have hk : k = 0 := by
      have := (List.getElem?_eq_some_iff.1 e).1
      simp at this; exact this
    subst hk
    cases e
    refine ⟨g, 1, rfl, Nat.lt_of_lt_of_le hlt hb1.size, ?_⟩
    have hc1 := hcell 1 _ rfl
    have e1 : (w.setCell ⟨g, 0, none⟩ (.slice none 0 0)).heap[g]? = some (.cells (cu.setIfInBounds 0 (.slice none 0 0)) 34 (0, 0)) := heap_setCell_same w g 0 _ 34 _ hcu
    have e2 : (((w.setCell ⟨g, 0, none⟩ (.slice none 0 0)).setCell ⟨lb, 7, none⟩ (.slice (some ⟨g, 1, none⟩) 1 (c - 1))).setCell ⟨lb, 6, none⟩ (.int .i64 1)).heap[g]? = some (.cells (cu.setIfInBounds 0 (.slice none 0 0)) 34 (0, 0)) :=
      (heap_setCell_other _ _ _ _ (Ne.symm hne)).trans ((heap_setCell_other _ _ _ _ (Ne.symm hne)).trans e1)
    rw [cell_of_row _ g _ _ 34 (0, 0) e2]
    rw [cell_of_row w g 1 _ 34 (0, 0) hcu] at hc1
    simpa using hc1
  · simp only [List.mem_cons, List.not_mem_nil, or_false] at ht
    subst ht
    obtain ⟨xs, k1, k2, k3⟩ := h.bys t (by simp)
    refine ⟨xs, Row.by (B := B) (k1.keeps fun r hr => ?_) k2, k3⟩
    obtain ⟨cu2, h7⟩ := k1.kind hr
    have n1 : r ≠ g := fun e => by subst e; rw [hcu] at h7; cases h7
    have n2 : r ≠ lb := fun e => by
      subst e
      have h2 := h.blk; unfold LkB at h2; rw [h2] at h7; cases h7
    exact (heap_setCell_other _ _ _ _ n2).trans ((heap_setCell_other _ _ _ _ n2).trans (heap_setCell_other _ _ _ _ n1))
set_option maxRecDepth 100000 in
set_option maxHeartbeats 2000000 in
theorem l39 (B lb g c : Nat) (t0 t1 : Sl) (w : World) (h : LkR w B lb 0 ⟨some ⟨g, 0, none⟩, 2, c⟩ [t0, t1]) :
    Calls Try.prog 39 #[.pointer (some ⟨lb, 5, none⟩), .int .i64 0] w fun e w' => e = .returned (.tuple #[]) ∧ LkO w' lb 1 ⟨some ⟨g, 1, none⟩, 1, c - 1⟩ [t1] ∧ Below B w w' := by
  obtain ⟨k1, k2, k3, k4, k5, k6⟩ := letgo_ends h
  have HK : Hid (LkO (((w.setCell ⟨g, 0, none⟩ (.slice none 0 0)).setCell ⟨lb, 7, none⟩ (.slice (some ⟨g, 1, none⟩) 1 (c - 1))).setCell ⟨lb, 6, none⟩ (.int .i64 1)) lb 1 ⟨some ⟨g, 1, none⟩, 1, c - 1⟩ [t1] ∧
      Below B w (((w.setCell ⟨g, 0, none⟩ (.slice none 0 0)).setCell ⟨lb, 7, none⟩ (.slice (some ⟨g, 1, none⟩) 1 (c - 1))).setCell ⟨lb, 6, none⟩ (.int .i64 1))) := ⟨k1, k2⟩
  obtain ⟨c0, c1, c6, c7, f6, f7⟩ := h.blk.cells
  have r1 := run_cut1 g c k4
  have r2 := run_from1 g c k4
  have hcl : ∀ ty, (Builtin.clear_ #[49] ty #[.slice (some ⟨g, 0, none⟩) 1 c]).run Try.prog w = .ok (.tuple #[]) (w.setCell ⟨g, 0, none⟩ (.slice none 0 0)) := fun ty => run_clear1 w ty g c _ k5 k6
  have hne2 : g ≠ lb := Ne.symm k3
  clear h k1 k2 k5 k6
  go_enter Try.func39, Try.ntmps39
  go_wp2_with fail
  go_end0
  exact ⟨rfl, HK.out⟩
set_option maxRecDepth 100000 in
set_option maxHeartbeats 2000000 in
theorem l22 (B lb g c : Nat) (t0 t1 : Sl) (w : World) (h : LkR w B lb 0 ⟨some ⟨g, 0, none⟩, 2, c⟩ [t0, t1]) :
    Calls Try.prog 22 #[.pointer (some ⟨lb, 0, none⟩), .int .i64 1, .int .i64 0] w fun e w' => e = .returned (.int .i64 0) ∧ LkO w' lb 1 ⟨some ⟨g, 1, none⟩, 1, c - 1⟩ [t1] ∧ Below B w w' := by
  have H33 := l33 lb 0 _ w h.blk
  have H38 : Calls Try.prog 38 #[.pointer (some ⟨lb, 5, none⟩)] w fun e w' => e = .returned (.int .i64 2) ∧ ∃ d, w' = w.drewN d := by
    have := l38 lb 0 _ w h.blk (by simp)
    simpa using this
  have H39 : Hid (∀ d, Calls Try.prog 39 #[.pointer (some ⟨lb, 5, none⟩), .int .i64 0] (w.drewN d) fun e w' => e = .returned (.tuple #[]) ∧ Hid (LkO w' lb 1 ⟨some ⟨g, 1, none⟩, 1, c - 1⟩ [t1] ∧ Below B w w')) := fun d => by
    refine (l39 B lb g c t0 t1 (w.drewN d) (h.below (below_dN (Below.refl _ _) d))).mono ?_
    rintro e w' ⟨rfl, k1, k2⟩
    exact ⟨rfl, k1, (below_dN (Below.refl _ _) d).trans k2⟩
  clear h
  go_enter Try.func22, Try.ntmps22
  go_wp2_with fail
  refine H33.mono ?_
  rintro e w' ⟨rfl, hw⟩
  obtain rfl := hw.symm
  clear H33
  go_wp2_with fail
  refine H38.mono ?_
  rintro e w1 ⟨rfl, d, hw1⟩
  have H39b : Calls Try.prog 39 #[.pointer (some ⟨lb, 5, none⟩), .int .i64 0] w1 fun e w' => e = .returned (.tuple #[]) ∧ Hid (LkO w' lb 1 ⟨some ⟨g, 1, none⟩, 1, c - 1⟩ [t1] ∧ Below B w w') := by
    rw [hw1]; exact H39.out d
  clear hw1 H38
  go_wp2_with fail
  refine H39b.mono ?_
  rintro e w2 ⟨rfl, hp⟩
  clear H39b
  go_wp2_with fail
  go_ret
  exact ⟨rfl, hp.out⟩
theorem LkR.toO {w : World} {B lb : Nat} {fi : Int} {s : Sl} {l : List Sl} (h : LkR w B lb fi s l) : LkO w lb fi s l := by
  have hlen : l.length = s.n := by have := h.row.len; rw [List.length_map] at this; exact this
  refine ⟨h.blk, hlen.symm, fun k t e => ?_, fun t ht => ?_⟩
  · have hk := (List.getElem?_eq_some_iff.1 e).1
    rcases h.row.mem with ⟨_, e1⟩ | ⟨g, cu, e1, _⟩
    · have := h.row.cap; omega
    · refine ⟨g, 0, e1, (h.row.lt (g := g) (by rw [e1]; rfl)).2, ?_⟩
      rcases h.row.reads.2 with e2 | ⟨ad, e2, e3⟩
      · omega
      · rw [e1] at e2; cases e2
        have := e3 k t.v (by rw [List.getElem?_map, e]; rfl)
        rw [Addr.add_mid] at this
        exact this
  · obtain ⟨xs, k1, k2, k3⟩ := h.bys t ht
    exact ⟨xs, k1.by k2, k3⟩
end Go.Proofs.Ytnhomejenjinaaa
