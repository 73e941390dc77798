/- Contracts of messages that are right, of amounts that are right, of units. -/
import Derived.Test.YtopapmnoepnpcaaDoorCC
namespace Go.Proofs.YtopapmnoepnpcaaDoor
open Go.RowKit
attribute [local go_sem ↓] Go.wp_at_zero Go.wp_at_succ
set_option maxRecDepth 100000 in
set_option maxHeartbeats 4000000 in
theorem d18 (W : Int) (a : Option Addr) (n c : Nat) (B : List Int) (w : World) (h : In w a n B) (hn : n ≤ 9223372036854775807) : Calls Tryd.prog 18 #[.agg #[.int .u8 6, .int .i64 0, .int .i64 0, .int .i64 0, .int .i64 0, .slice none 0 0, .int .i64 0, .int .i64 0, .int .i64 W, .slice a n c]] w fun e w' => e = .returned (.bool (nz W B)) ∧ Below w.heap.size w w' := by
  obtain ⟨U, hU⟩ : ∃ U, w.alloc (.cells #[.int .u8 6, .int .i64 0, .int .i64 0, .int .i64 0, .int .i64 0, .slice none 0 0, .int .i64 0, .int .i64 0, .int .i64 W, .slice a n c] 49) = U := ⟨_, rfl⟩
  obtain ⟨mb, hmb⟩ : ∃ mb, w.heap.size = mb := ⟨_, rfl⟩
  have H0 : Hid (U.heap[mb]? = some (.cells #[.int .u8 6, .int .i64 0, .int .i64 0, .int .i64 0, .int .i64 0, .slice none 0 0, .int .i64 0, .int .i64 0, .int .i64 W, .slice a n c] 49 (0, 0)) ∧ Below w.heap.size w U) := by
    rw [← hU, ← hmb]; exact ⟨heap_alloc_new w _, (Below.refl _ w).alloc (Nat.le_refl _) _⟩
  have hm0 : U.cell? ⟨mb, 0, none⟩ = some (.int .u8 6) := by rw [cell_of_row U mb 0 _ 49 (0, 0) H0.out.1]; rfl
  have H28 : Calls Tryd.prog 28 #[.int .u8 6] U fun e w' => e = .returned (.tuple #[.agg #[.bool false, .bool false, .bool false, .int .i64 0, .int .i64 2147483647, .int .i64 0, .int .i64 3, .bool true], .bool true]) ∧ Hid (w'.heap[mb]? = some (.cells #[.int .u8 6, .int .i64 0, .int .i64 0, .int .i64 0, .int .i64 0, .slice none 0 0, .int .i64 0, .int .i64 0, .int .i64 W, .slice a n c] 49 (0, 0)) ∧ Below w.heap.size w w') := by
    refine (d28 U).mono ?_
    rintro e w' ⟨rfl, h2⟩
    obtain ⟨p1, p2⟩ := H0.out
    exact ⟨rfl, (h2.block _ (Array.getElem?_eq_some_iff.1 p1).1).trans p1, p2.trans (h2.mono p2.size)⟩
  obtain ⟨R, hR⟩ : ∃ R, nz W B = R := ⟨_, rfl⟩
  have H29 : Hid (∀ V, Below w.heap.size w V → Calls Tryd.prog 29 #[.agg #[.bool false, .bool false, .bool false, .int .i64 0, .int .i64 2147483647, .int .i64 0, .int .i64 3, .bool true], .agg #[.int .u8 6, .int .i64 0, .int .i64 0, .int .i64 0, .int .i64 0, .slice none 0 0, .int .i64 0, .int .i64 0, .int .i64 W, .slice a n c]] V fun e w' => e = .returned (.bool R) ∧ Hid (Below w.heap.size w w')) := fun V hV => (d29 W a n c B V (h.below hV) hn).mono fun e w' ⟨h1, h2⟩ => ⟨by rw [h1, hR], hV.trans (h2.mono hV.size)⟩
  rw [hR]
  clear h hR
  go_enter Tryd.func18, Tryd.ntmps18
  go_wp2_with fail
  refine H28.mono ?_
  rintro e w1 ⟨rfl, H1⟩
  clear H28 hU hmb hm0 H0
  obtain ⟨U2, hU2⟩ : ∃ U2, w1.alloc (.cells #[.bool false, .bool false, .bool false, .int .i64 0, .int .i64 0, .int .i64 0, .int .i64 0, .bool false] 61) = U2 := ⟨_, rfl⟩
  obtain ⟨sb, hsb⟩ : ∃ sb, w1.heap.size = sb := ⟨_, rfl⟩
  have hc2 : U2.heap[sb]? = some (.cells #[.bool false, .bool false, .bool false, .int .i64 0, .int .i64 0, .int .i64 0, .int .i64 0, .bool false] 61 (0, 0)) := by rw [← hU2, ← hsb]; exact heap_alloc_new w1 _
  have c0 : U2.cell? ⟨sb, 0, none⟩ = some (.bool false) := by rw [cell_of_row U2 sb 0 _ 61 (0, 0) hc2]; rfl
  have g0 := frozen_of_row U2 sb 0 _ 61 hc2
  have c1 : U2.cell? ⟨sb, 1, none⟩ = some (.bool false) := by rw [cell_of_row U2 sb 1 _ 61 (0, 0) hc2]; rfl
  have g1 := frozen_of_row U2 sb 1 _ 61 hc2
  have c2 : U2.cell? ⟨sb, 2, none⟩ = some (.bool false) := by rw [cell_of_row U2 sb 2 _ 61 (0, 0) hc2]; rfl
  have g2 := frozen_of_row U2 sb 2 _ 61 hc2
  have c3 : U2.cell? ⟨sb, 3, none⟩ = some (.int .i64 0) := by rw [cell_of_row U2 sb 3 _ 61 (0, 0) hc2]; rfl
  have g3 := frozen_of_row U2 sb 3 _ 61 hc2
  have c4 : U2.cell? ⟨sb, 4, none⟩ = some (.int .i64 0) := by rw [cell_of_row U2 sb 4 _ 61 (0, 0) hc2]; rfl
  have g4 := frozen_of_row U2 sb 4 _ 61 hc2
  have c5 : U2.cell? ⟨sb, 5, none⟩ = some (.int .i64 0) := by rw [cell_of_row U2 sb 5 _ 61 (0, 0) hc2]; rfl
  have g5 := frozen_of_row U2 sb 5 _ 61 hc2
  have c6 : U2.cell? ⟨sb, 6, none⟩ = some (.int .i64 0) := by rw [cell_of_row U2 sb 6 _ 61 (0, 0) hc2]; rfl
  have g6 := frozen_of_row U2 sb 6 _ 61 hc2
  have c7 : U2.cell? ⟨sb, 7, none⟩ = some (.bool false) := by rw [cell_of_row U2 sb 7 _ 61 (0, 0) hc2]; rfl
  have g7 := frozen_of_row U2 sb 7 _ 61 hc2
  obtain ⟨V, hV⟩ : ∃ V, ((((((((U2.setCell ⟨sb, 0, none⟩ (.bool false)).setCell ⟨sb, 1, none⟩ (.bool false)).setCell ⟨sb, 2, none⟩ (.bool false)).setCell ⟨sb, 3, none⟩ (.int .i64 0)).setCell ⟨sb, 4, none⟩ (.int .i64 2147483647)).setCell ⟨sb, 5, none⟩ (.int .i64 0)).setCell ⟨sb, 6, none⟩ (.int .i64 3)).setCell ⟨sb, 7, none⟩ (.bool true)) = V := ⟨_, rfl⟩
  have HV : Hid (V.heap[sb]? = some (.cells #[.bool false, .bool false, .bool false, .int .i64 0, .int .i64 2147483647, .int .i64 0, .int .i64 3, .bool true] 61 (0, 0)) ∧ V.heap[mb]? = some (.cells #[.int .u8 6, .int .i64 0, .int .i64 0, .int .i64 0, .int .i64 0, .slice none 0 0, .int .i64 0, .int .i64 0, .int .i64 W, .slice a n c] 49 (0, 0)) ∧ Below w.heap.size w V) := by
    have e1 := heap_setCell_same U2 sb 0 _ 61 (.bool false) hc2
    have e2 := heap_setCell_same _ sb 1 _ 61 (.bool false) e1
    have e3 := heap_setCell_same _ sb 2 _ 61 (.bool false) e2
    have e4 := heap_setCell_same _ sb 3 _ 61 (.int .i64 0) e3
    have e5 := heap_setCell_same _ sb 4 _ 61 (.int .i64 2147483647) e4
    have e6 := heap_setCell_same _ sb 5 _ 61 (.int .i64 0) e5
    have e7 := heap_setCell_same _ sb 6 _ 61 (.int .i64 3) e6
    have e8 := heap_setCell_same _ sb 7 _ 61 (.bool true) e7
    have h0 : w1.heap.size ≤ sb := by omega
    have b2 : Below w1.heap.size w1 U2 := by rw [← hU2]; exact (Below.refl _ _).alloc (Nat.le_refl _) _
    have b3 : Below w1.heap.size w1 V := by rw [← hV]; exact ((((((((b2.setCell (p := ⟨sb, 0, none⟩) h0 _).setCell (p := ⟨sb, 1, none⟩) h0 _).setCell (p := ⟨sb, 2, none⟩) h0 _).setCell (p := ⟨sb, 3, none⟩) h0 _).setCell (p := ⟨sb, 4, none⟩) h0 _).setCell (p := ⟨sb, 5, none⟩) h0 _).setCell (p := ⟨sb, 6, none⟩) h0 _).setCell (p := ⟨sb, 7, none⟩) h0 _)
    obtain ⟨p1, p2⟩ := H1.out
    refine ⟨by rw [← hV]; exact e8, (b3.block mb (Array.getElem?_eq_some_iff.1 p1).1).trans p1, p2.trans (b3.mono p2.size)⟩
  have v0 : V.cell? ⟨sb, 0, none⟩ = some (.bool false) := by rw [cell_of_row V sb 0 _ 61 (0, 0) HV.out.1]; rfl
  have v1 : V.cell? ⟨sb, 1, none⟩ = some (.bool false) := by rw [cell_of_row V sb 1 _ 61 (0, 0) HV.out.1]; rfl
  have v2 : V.cell? ⟨sb, 2, none⟩ = some (.bool false) := by rw [cell_of_row V sb 2 _ 61 (0, 0) HV.out.1]; rfl
  have v3 : V.cell? ⟨sb, 3, none⟩ = some (.int .i64 0) := by rw [cell_of_row V sb 3 _ 61 (0, 0) HV.out.1]; rfl
  have v4 : V.cell? ⟨sb, 4, none⟩ = some (.int .i64 2147483647) := by rw [cell_of_row V sb 4 _ 61 (0, 0) HV.out.1]; rfl
  have v5 : V.cell? ⟨sb, 5, none⟩ = some (.int .i64 0) := by rw [cell_of_row V sb 5 _ 61 (0, 0) HV.out.1]; rfl
  have v6 : V.cell? ⟨sb, 6, none⟩ = some (.int .i64 3) := by rw [cell_of_row V sb 6 _ 61 (0, 0) HV.out.1]; rfl
  have v7 : V.cell? ⟨sb, 7, none⟩ = some (.bool true) := by rw [cell_of_row V sb 7 _ 61 (0, 0) HV.out.1]; rfl
  have m0 : V.cell? ⟨mb, 0, none⟩ = some (.int .u8 6) := by rw [cell_of_row V mb 0 _ 49 (0, 0) HV.out.2.1]; rfl
  have m1 : V.cell? ⟨mb, 1, none⟩ = some (.int .i64 0) := by rw [cell_of_row V mb 1 _ 49 (0, 0) HV.out.2.1]; rfl
  have m2 : V.cell? ⟨mb, 2, none⟩ = some (.int .i64 0) := by rw [cell_of_row V mb 2 _ 49 (0, 0) HV.out.2.1]; rfl
  have m3 : V.cell? ⟨mb, 3, none⟩ = some (.int .i64 0) := by rw [cell_of_row V mb 3 _ 49 (0, 0) HV.out.2.1]; rfl
  have m4 : V.cell? ⟨mb, 4, none⟩ = some (.int .i64 0) := by rw [cell_of_row V mb 4 _ 49 (0, 0) HV.out.2.1]; rfl
  have m5 : V.cell? ⟨mb, 5, none⟩ = some (.slice none 0 0) := by rw [cell_of_row V mb 5 _ 49 (0, 0) HV.out.2.1]; rfl
  have m6 : V.cell? ⟨mb, 6, none⟩ = some (.int .i64 0) := by rw [cell_of_row V mb 6 _ 49 (0, 0) HV.out.2.1]; rfl
  have m7 : V.cell? ⟨mb, 7, none⟩ = some (.int .i64 0) := by rw [cell_of_row V mb 7 _ 49 (0, 0) HV.out.2.1]; rfl
  have m8 : V.cell? ⟨mb, 8, none⟩ = some (.int .i64 W) := by rw [cell_of_row V mb 8 _ 49 (0, 0) HV.out.2.1]; rfl
  have m9 : V.cell? ⟨mb, 9, none⟩ = some (.slice a n c) := by rw [cell_of_row V mb 9 _ 49 (0, 0) HV.out.2.1]; rfl
  clear hc2 H1
  go_wp2_with fail
  refine (H29.out V HV.out.2.2).mono ?_
  rintro e w3 ⟨rfl, H3⟩
  go_wp2_with fail
  go_ret
  exact ⟨rfl, H3.out⟩
theorem right_zero (W : Int) (B : List Int) (h : zeroB W B.length = true) : rightB W B = true := by
  simp only [zeroB, Bool.and_eq_true, decide_eq_true_eq] at h
  obtain ⟨rfl, h2⟩ := h
  rw [List.length_eq_zero_iff.1 h2]
  decide
theorem right_nz (W : Int) (B : List Int) (h : zeroB W B.length = false) : nz W B = rightB W B := by
  unfold nz; rw [h]; simp
set_option maxRecDepth 100000 in
set_option maxHeartbeats 2000000 in
theorem d9 (v : Value) (W : Int) (B : List Int) (w : World) (h : Am w v W B) : Calls Tryd.prog 9 #[v] w fun e w' => e = .returned (.bool (rightB W B)) ∧ Below w.heap.size w w' := by
  obtain ⟨a, n, c, rfl, hI, hn, _, _⟩ := h.val
  obtain ⟨U, hU⟩ : ∃ U, w.alloc (.cells #[.int .i64 W, .slice a n c] 24) = U := ⟨_, rfl⟩
  obtain ⟨b, hb⟩ : ∃ b, w.heap.size = b := ⟨_, rfl⟩
  have H0 : Hid (Bk w U b (.int .i64 W) (.slice a n c) 24) := by rw [← hU, ← hb]; exact bk_new w _ _ _
  obtain ⟨s0, s1⟩ := box2 H0.out.box
  obtain ⟨Z, hZ⟩ : ∃ Z, zeroB W n = Z := ⟨_, rfl⟩
  have H8 : Calls Tryd.prog 8 #[.agg #[.int .i64 W, .slice a n c]] U fun e w' => e = .returned (.bool Z) ∧ Hid (Bk w w' b (.int .i64 W) (.slice a n c) 24) := (d8 W a n c U).mono fun e w' ⟨h1, h2⟩ => ⟨by rw [h1, hZ], H0.out.below h2⟩
  have hl := hI.len
  cases Z
  · have HE : Hid (nz W B = rightB W B) := right_nz W B (by rw [hl]; exact hZ)
    have H18 : Hid (∀ V, Hid (Bk w V b (.int .i64 W) (.slice a n c) 24) → Calls Tryd.prog 18 #[.agg #[.int .u8 6, .int .i64 0, .int .i64 0, .int .i64 0, .int .i64 0, .slice none 0 0, .int .i64 0, .int .i64 0, .int .i64 W, .slice a n c]] V fun e w' => e = .returned (.bool (rightB W B)) ∧ Hid (Below w.heap.size w w')) := fun V hV => (d18 W a n c B V (hI.below hV.out.bel) hn).mono fun e w' ⟨h1, h2⟩ => ⟨by rw [h1, HE.out], hV.out.bel.trans (h2.mono hV.out.bel.size)⟩
    clear h hI hZ hl HE
    generalize rightB W B = R at *
    go_enter Tryd.func9, Tryd.ntmps9
    go_wp2_with fail
    refine H8.mono ?_
    rintro e w1 ⟨rfl, H1⟩
    clear H8 hU hb s0 s1
    obtain ⟨s0, s1⟩ := box2 H1.out.box
    go_wp2_with fail
    refine (H18.out _ H1).mono ?_
    rintro e w2 ⟨rfl, H2⟩
    go_wp2_with fail
    go_ret
    exact ⟨rfl, H2.out⟩
  · have HE : rightB W B = true := right_zero W B (by rw [hl]; exact hZ)
    rw [HE]
    clear h hI hZ hl HE
    go_enter Tryd.func9, Tryd.ntmps9
    go_wp2_with fail
    refine H8.mono ?_
    rintro e w1 ⟨rfl, H1⟩
    clear H8 hU hb s0 s1
    go_wp2_with fail
    go_ret
    exact ⟨rfl, H1.out.bel⟩
end Go.Proofs.YtopapmnoepnpcaaDoor
