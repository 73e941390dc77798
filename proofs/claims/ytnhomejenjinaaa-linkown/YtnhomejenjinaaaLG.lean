/- Contracts of live and of LinkNone. -/
import Derived.Test.YtnhomejenjinaaaLF
namespace Go.Proofs.Ytnhomejenjinaaa
open Go.RowKit
attribute [local go_sem ↓] Go.wp_at_zero Go.wp_at_succ
theorem by_one {w : World} (x : Int) (hx : Byte x) : By (w.alloc (.cells #[.int .u8 x] 5)) (some ⟨w.heap.size, 0, none⟩) 1 1 [x] := by
  refine ⟨rfl, Nat.le_refl _, fun e => by (cases e), fun y hy => ?_, .inr ⟨w.heap.size, 0, rfl, by simp, fun j u hu => ?_⟩⟩
  · simp only [List.mem_cons, List.not_mem_nil, or_false] at hy
    subst hy; exact hx
  · have := World.news_of_block (heap_alloc_new w (.cells #[.int .u8 x] 5)) (j := j) (u := u) hu
    rw [Addr.add_mid] at this
    exact this
set_option maxRecDepth 100000 in
set_option maxHeartbeats 4000000 in
theorem l9 (w : World) : Calls Try.prog 9 #[] w fun e w' => e = .returned (.bool true) ∧ Below w.heap.size w w' := by
  go_enter Try.func9, Try.ntmps9
  go_wp2_with fail
  refine (l7 w).mono ?_
  rintro e w1 ⟨rfl, hw1⟩
  have H1 : Hid (LkR w1 w.heap.size w.heap.size 0 ⟨none, 0, 0⟩ [] ∧ Below w.heap.size w w1 ∧ w.heap.size < w1.heap.size) := by
    rw [hw1]
    exact ⟨⟨heap_alloc_new w _, Nat.le_refl _, row_nil _ _ _, fun t ht => by cases ht⟩, (Below.refl _ w).alloc (Nat.le_refl _) _, by simp⟩
  clear hw1
  obtain ⟨lb, hlb⟩ : ∃ lb, w.heap.size = lb := ⟨_, rfl⟩
  have HLB : Hid (w.heap.size = lb) := hlb
  rw [hlb] at H1 ⊢
  clear hlb
  have H14 : Calls Try.prog 14 #[.pointer (some ⟨lb, 0, none⟩), .int .i64 1, .slice (some ⟨w1.heap.size, 0, none⟩) 1 1] (w1.alloc (.cells #[.int .u8 1] 5)) fun e w' => ∃ a' c', e = .returned (.tuple #[.agg #[.int .i64 0, .int .i64 1, .bool false, .int .i64 0, .slice a' 1 c'], .int .i64 0]) ∧ Hid (∃ s t, LkR w' lb lb 0 s [t] ∧ Below lb w w' ∧ lb < w'.heap.size) := by
    have hbl : Below w1.heap.size w1 (w1.alloc (.cells #[.int .u8 1] 5)) := (Below.refl _ _).alloc (Nat.le_refl _) _
    have hlt := H1.out.2.2
    refine (l14 lb lb 0 0 ⟨none, 0, 0⟩ [] _ 1 1 [1] _ (H1.out.1.below hbl) (by have := hbl.size; omega) (by_one 1 (by simp [Byte])) (fun g hg => by
      cases hg
      exact ⟨by simp, by show w1.heap.size ≠ lb; omega, by simp⟩) (by omega) rfl (by omega)).mono ?_
    rintro e w' ⟨a', c', rfl, s', t, k1, k2, k3, k4, k5, k6⟩
    exact ⟨a', c', rfl, s', t, k1, (H1.out.2.1.trans (hbl.mono (by omega))).trans k4, by have := hbl.size; omega⟩
  go_wp2_with fail
  refine H14.mono ?_
  rintro e w2 ⟨a2, c2, rfl, H2⟩
  clear H14 H1
  obtain ⟨b3, hb3⟩ : ∃ b3, w2.heap.size = b3 := ⟨_, rfl⟩
  obtain ⟨W2, hW2⟩ : ∃ W2, w2.alloc (.cells #[.int .i64 0, .int .i64 1, .bool false, .int .i64 0, .slice a2 1 c2] 36) = W2 := ⟨_, rfl⟩
  have H3 : Hid ((∃ s t, LkR W2 lb lb 0 s [t] ∧ ∀ g, blk s.a = some g → g < b3) ∧ Below lb w W2 ∧ lb < b3 ∧ b3 < W2.heap.size ∧ W2.heap[b3]? = some (.cells #[.int .i64 0, .int .i64 1, .bool false, .int .i64 0, .slice a2 1 c2] 36 (0, 0))) := by
    obtain ⟨s, t, k1, k2, k3⟩ := H2.out
    have hbl : Below w2.heap.size w2 W2 := by rw [← hW2]; exact (Below.refl _ _).alloc (Nat.le_refl _) _
    refine ⟨⟨s, t, k1.below hbl, fun g hg => by rw [← hb3]; exact (k1.row.lt hg).2⟩, k2.trans (hbl.mono (by omega)), by omega, ?_, ?_⟩
    · rw [← hW2, ← hb3]; simp
    · rw [← hW2, ← hb3]; exact heap_alloc_new w2 _
  have H14 : Calls Try.prog 14 #[.pointer (some ⟨lb, 0, none⟩), .int .i64 1, .slice (some ⟨W2.heap.size, 0, none⟩) 1 1] (W2.alloc (.cells #[.int .u8 2] 5)) fun e w' => ∃ a' c', e = .returned (.tuple #[.agg #[.int .i64 0, .int .i64 1, .bool false, .int .i64 1, .slice a' 1 c'], .int .i64 0]) ∧ Hid (∃ s t0 t1, LkR w' lb lb 0 s [t0, t1] ∧ s.n = 2 ∧ Below lb w w' ∧ lb < w'.heap.size ∧ b3 < w'.heap.size ∧ w'.heap[b3]? = some (.cells #[.int .i64 0, .int .i64 1, .bool false, .int .i64 0, .slice a2 1 c2] 36 (0, 0))) := by
    have hbl : Below W2.heap.size W2 (W2.alloc (.cells #[.int .u8 2] 5)) := (Below.refl _ _).alloc (Nat.le_refl _) _
    obtain ⟨⟨s, t, p1, p2⟩, p3, p4, p5, p6⟩ := H3.out
    have hsz := hbl.size
    refine (l14 lb lb 0 1 s [t] _ 1 1 [2] _ (p1.below hbl) (by omega) (by_one 2 (by simp [Byte])) (fun g hg => by
      cases hg
      refine ⟨by simp, by show W2.heap.size ≠ lb; omega, fun e => ?_⟩
      have : W2.heap.size < b3 := p2 _ e
      omega) (by omega) rfl (by omega)).mono ?_
    rintro e w' ⟨a', c', rfl, s', t1, k1, k2, k3, k4, k5, k6⟩
    refine ⟨a', c', rfl, s', t, t1, k1, k3, (p3.trans (hbl.mono (by omega))).trans k4, by omega, by omega, ?_⟩
    rw [k6 b3 (by omega) (by omega) (fun e => by have := p2 _ e; omega), hbl.block b3 p5]
    exact p6
  clear H2
  go_wp2_with fail
  clear hW2 hb3
  refine H14.mono ?_
  rintro e w4 ⟨a4, c4, rfl, H4⟩
  clear H14 H3
  obtain ⟨b4, hb4⟩ : ∃ b4, w4.heap.size = b4 := ⟨_, rfl⟩
  obtain ⟨W4, hW4⟩ : ∃ W4, w4.alloc (.cells #[.int .i64 0, .int .i64 1, .bool false, .int .i64 1, .slice a4 1 c4] 36) = W4 := ⟨_, rfl⟩
  have H5 : Hid ((∃ s t0 t1, LkR W4 lb lb 0 s [t0, t1] ∧ s.n = 2) ∧ Below lb w W4 ∧ lb < W4.heap.size ∧ W4.heap[b3]? = some (.cells #[.int .i64 0, .int .i64 1, .bool false, .int .i64 0, .slice a2 1 c2] 36 (0, 0)) ∧ W4.heap[b4]? = some (.cells #[.int .i64 0, .int .i64 1, .bool false, .int .i64 1, .slice a4 1 c4] 36 (0, 0))) := by
    obtain ⟨s, t0, t1, k1, k2, k3, k4, k5, k6⟩ := H4.out
    have hbl : Below w4.heap.size w4 W4 := by rw [← hW4]; exact (Below.refl _ _).alloc (Nat.le_refl _) _
    have hsz := hbl.size
    refine ⟨⟨s, t0, t1, k1.below hbl, k2⟩, k3.trans (hbl.mono (by omega)), by omega, (hbl.block b3 k5).trans k6, ?_⟩
    rw [← hW4, ← hb4]; exact heap_alloc_new w4 _
  clear H4
  have y3 := (dg_cells H5.out.2.2.2.1).c3
  have y4 := (dg_cells H5.out.2.2.2.2).c3
  have H26 : Calls Try.prog 26 #[.pointer (some ⟨lb, 0, none⟩)] W4 fun e w' => ∃ a c, e = .returned (.slice a 2 c) ∧ Hid (∃ g c t0 t1, LkR w' lb lb 0 ⟨some ⟨g, 0, none⟩, 2, c⟩ [t0, t1] ∧ Below lb w w' ∧ lb ≤ w'.heap.size) := by
    obtain ⟨⟨s, t0, t1, k1, k2⟩, k3, k4, _, _⟩ := H5.out
    refine (l26 lb 0 s [t0, t1] W4 k1.toO (by simp)).mono ?_
    rintro e w' ⟨a, c, rfl, hb⟩
    obtain ⟨sa, sn, sc⟩ := s
    simp only at k2
    subst k2
    have k5 := k1.below hb
    have hsz := hb.size
    rcases k5.row.mem with ⟨_, e⟩ | ⟨g, cu, e, _⟩
    · have := k5.row.cap; simp only at e this; omega
    · simp only at e
      subst e
      exact ⟨a, c, rfl, g, sc, t0, t1, k5, k3.trans (hb.mono (by omega)), by omega⟩
  go_wp2_with fail
  clear hW4 hb4
  refine H26.mono ?_
  rintro e w5 ⟨a5, c5, rfl, H6⟩
  clear H26 H5 y3 y4
  obtain ⟨g, c, t0, t1, k1, k2, k3⟩ := H6.out
  have H22 : Calls Try.prog 22 #[.pointer (some ⟨lb, 0, none⟩), .int .i64 1, .int .i64 0] w5 fun e w' => e = .returned (.int .i64 0) ∧ Hid (LkO w' lb 1 ⟨some ⟨g, 1, none⟩, 1, c - 1⟩ [t1] ∧ Below lb w w' ∧ lb ≤ w'.heap.size) := by
    refine (l22 lb lb g c t0 t1 w5 k1).mono ?_
    rintro e w' ⟨rfl, q1, q2⟩
    exact ⟨rfl, q1, k2.trans q2, by have := q2.size; omega⟩
  clear k1 k2 k3
  go_wp2_with fail
  refine H22.mono ?_
  rintro e w6 ⟨rfl, H7⟩
  clear H22 H6
  have H26 : Calls Try.prog 26 #[.pointer (some ⟨lb, 0, none⟩)] w6 fun e w' => ∃ a c, e = .returned (.slice a 1 c) ∧ Hid (Below w6.heap.size w6 w') := by
    refine (l26 lb 1 _ [t1] w6 H7.out.1 (by simp)).mono ?_
    rintro e w' ⟨a, c, rfl, hb⟩
    exact ⟨a, c, rfl, hb⟩
  go_wp2_with fail
  refine H26.mono ?_
  rintro e w7 ⟨a7, c7, rfl, H8⟩
  clear H26
  have H27 : Calls Try.prog 27 #[.pointer (some ⟨lb, 0, none⟩), .int .i64 1] w7 fun e w' => e = .returned (.int .i64 2) ∧ Hid (Below lb w w') := by
    refine (l27 lb 1 _ w7 (H7.out.1.below H8.out).blk (by simp)).mono ?_
    rintro e w' ⟨rfl, d, rfl⟩
    exact ⟨by simp, below_dN (H7.out.2.1.trans (H8.out.mono H7.out.2.2)) d⟩
  go_wp2_with fail
  refine H27.mono ?_
  rintro e w8 ⟨rfl, H9⟩
  clear H27
  go_wp2_with fail
  go_ret
  refine ⟨rfl, ?_⟩
  rw [HLB.out]
  exact H9.out
set_option maxRecDepth 100000 in
set_option maxHeartbeats 4000000 in
theorem l5 (x0 x1 x3 k : Int) (x2 : Bool) (a : Option Addr) (n c : Nat) (w : World) : Calls Try.prog 5 #[.agg #[.int .i64 x0, .int .i64 x1, .bool x2, .int .i64 x3, .slice a n c], .int .i64 k] w fun e w' => e = .returned (.bool true) ∧ Below w.heap.size w w' := by
  obtain ⟨W, hW⟩ : ∃ W, w.alloc (.cells #[.int .i64 x0, .int .i64 x1, .bool x2, .int .i64 x3, .slice a n c] 36) = W := ⟨_, rfl⟩
  obtain ⟨b, hb⟩ : ∃ b, w.heap.size = b := ⟨_, rfl⟩
  have HW : Hid (Below b w W ∧ w.heap.size = b ∧ W.heap[b]? = some (.cells #[.int .i64 x0, .int .i64 x1, .bool x2, .int .i64 x3, .slice a n c] 36 (0, 0)) ∧ b < W.heap.size) := by
    rw [← hW, ← hb]
    exact ⟨(Below.refl _ w).alloc (Nat.le_refl _) _, rfl, heap_alloc_new w _, by simp⟩
  have H14 := l14_nil k none 0 0 W
  go_enter Try.func5, Try.ntmps5
  go_wp2_with fail
  clear hW hb
  refine H14.mono ?_
  rintro e w1 ⟨rfl, hb1⟩
  have H1 : Hid (Below b w (w1.alloc (.cells dz 36)) ∧ (w1.alloc (.cells dz 36)).heap[b]? = some (.cells #[.int .i64 x0, .int .i64 x1, .bool x2, .int .i64 x3, .slice a n c] 36 (0, 0)) ∧ b < (w1.alloc (.cells dz 36)).heap.size) := by
    have hbl : Below w1.heap.size w1 (w1.alloc (.cells dz 36)) := (Below.refl _ _).alloc (Nat.le_refl _) _
    have hb2 := hb1.trans (hbl.mono hb1.size)
    obtain ⟨q1, q2, q3, q4⟩ := HW.out
    exact ⟨q1.trans (hb2.mono (by omega)), (hb2.block b q4).trans q3, by have := hb2.size; omega⟩
  obtain ⟨c0, c1, c2, c3, c4, _, _, _, _, _⟩ := dg_cells H1.out.2.1
  have H18 := l18_nil x0 x1 x3 x2 a n c (w1.alloc (.cells dz 36))
  clear hb1 H14
  go_wp2_with fail
  refine H18.mono ?_
  rintro e w2 ⟨rfl, hb2⟩
  have H2 : Hid (Below b w (w2.alloc (.cells dz 36)) ∧ b < (w2.alloc (.cells dz 36)).heap.size) := by
    have hbl : Below w2.heap.size w2 (w2.alloc (.cells dz 36)) := (Below.refl _ _).alloc (Nat.le_refl _) _
    have hb3 := hb2.trans (hbl.mono hb2.size)
    obtain ⟨q1, q2, q3⟩ := H1.out
    exact ⟨q1.trans (hb3.mono (by omega)), by have := hb3.size; omega⟩
  clear hb2 H18 H1 c0 c1 c2 c3 c4
  have H9 := l9 (w2.alloc (.cells dz 36))
  go_wp2_with fail
  refine H9.mono ?_
  rintro e w3 ⟨rfl, hb3⟩
  have H3 : Hid (Below w.heap.size w w3) := by
    rw [HW.out.2.1]
    exact H2.out.1.trans (hb3.mono (by have := H2.out.2; omega))
  clear hb3 H9 H2
  go_wp2_with fail
  refine (l20_nil k w3).mono ?_
  rintro e w' ⟨rfl, hw⟩
  obtain rfl := hw.symm
  go_wp2_with fail
  refine (l22_nil k k w3).mono ?_
  rintro e w' ⟨rfl, hw⟩
  obtain rfl := hw.symm
  go_wp2_with fail
  refine (l26_nil w3).mono ?_
  rintro e w' ⟨rfl, hw⟩
  obtain rfl := hw.symm
  go_wp2_with fail
  refine (l24_nil k w3).mono ?_
  rintro e w' ⟨rfl, hw⟩
  obtain rfl := hw.symm
  go_wp2_with fail
  refine (l27_nil k w3).mono ?_
  rintro e w' ⟨rfl, hw⟩
  obtain rfl := hw.symm
  go_wp2_with fail
  refine (l11_nil w3).mono ?_
  rintro e w' ⟨rfl, hw⟩
  obtain rfl := hw.symm
  go_wp2_with fail
  go_ret
  exact ⟨rfl, H3.out⟩
end Go.Proofs.Ytnhomejenjinaaa
