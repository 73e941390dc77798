/- Contracts of the law's helpers as the fixed program calls them; live. The contract of CheckOrder: rotated programs, and programs without the clauses of a predicate. Programs that are handed in, opened: clauses, their terms, and that their numbers fit. row.add of no predicate; contracts of has and Clauses. What is reached: the plain side; a map of rows that lies apart. Contract of Reached. row.add on a new row, of what goals call; the walk of Reached stands in K46.draft.txt. How many goals a program and a row of goals hold at most, by the bulk of what is handed in. Contracts of the reference's HasName, Vars, VarsOf. -/
import Derived.Test.YtlfccjlifjppdaaGreatDoorQ20
import Derived.Test.YtlfccjlifjppdaaGreatDoorQ11
import Derived.Test.YtlfccjlifjppdaaGreatDoorQ19
import Derived.Test.YtlfccjlifjppdaaGreatDoorQ13
namespace Go.Proofs.YtlfccjlifjppdaaGreatDoor
open Go.RowKit
theorem small_sizes {l : List C} (h : l.all (fun c => decide (c.t.size ≤ 100)) = true) : ∀ c ∈ l, c.t.size ≤ maxLen := fun c hc => by
  have := List.all_eq_true.1 h c hc
  simp at this
  unfold maxLen; omega
theorem t23 (k : Int) (w : World) :
    Calls Tryz.prog 33 #[.int .i64 k] w fun e w' => ∃ ad n cap, e = .returned (.slice ad n cap) ∧ TermAt w' (.slice ad n cap) [localC k] ∧ Below w.heap.size w w' := by
  refine (k23 k w).mono ?_
  rintro e w' ⟨u, rfl, hO, hb⟩
  have hT : TermAt w' u [localC k] := ownT_term hO (by simp [maxLen]) (small_sizes rfl)
  obtain ⟨ad, cap, hu⟩ := hT.form
  subst hu
  exact ⟨ad, _, cap, rfl, hT, hb⟩
theorem row_two (w : World) (v1 v2 : Value) (l1 l2 : List C) (h1 : TermAt w v1 l1) (h2 : TermAt w v2 l2) : RowAt (w.alloc (.cells #[v1, v2] 64)) (.slice (some ⟨w.heap.size, 0, none⟩) 2 2) [l1, l2] := by
  refine ⟨by simp [maxLen], .inr ⟨w.heap.size, 0, 2, [v1, v2], rfl, by simp, by simp [maxLen], by simp, rfl, range_new w [v1, v2] 64, ?_⟩⟩
  intro i u x hu hx
  match i, hu, hx with
  | 0, hu, hx => simp at hu hx; subst hu hx; exact h1.below (below_alloc _ _)
  | 1, hu, hx => simp at hu hx; subst hu hx; exact h2.below (below_alloc _ _)
theorem t22_one (text : ByteArray) (l : List C) (v : Value) (w : World) (h : TermAt w v l) (h0 : 0 < l.length) (hl : l.length ≤ 100) (hs : (ofL text [l] 1).all (fun c => decide (c.t.size ≤ 100)) = true) :
    Calls Tryz.prog 32 #[.string text, .slice (some ⟨w.heap.size, 0, none⟩) 1 1] (w.alloc (.cells #[v] 64)) fun e w' => ∃ ad n cap, e = .returned (.slice ad n cap) ∧ TermAt w' (.slice ad n cap) (ofL text [l] 1) ∧ Below w.heap.size w w' := by
  refine (k22 text [l] _ _ (row_one w v l h) (by simpa using h0) (by simp; omega) (by simp)).mono ?_
  rintro e w' ⟨u, rfl, hO, hb⟩
  have hT : TermAt w' u (ofL text [l] 1) := ownT_term hO (by simp [ofL, maxLen]; omega) (small_sizes hs)
  obtain ⟨ad, cap, hu⟩ := hT.form
  subst hu
  have hb0 : Below w.heap.size w (w.alloc (.cells #[v] 64)) := (Below.refl _ w).alloc (Nat.le_refl _) _
  exact ⟨ad, _, cap, rfl, hT, hb0.trans (hb.mono hb0.size)⟩
theorem t22_two (text : ByteArray) (l1 l2 : List C) (v1 v2 : Value) (w : World) (h1 : TermAt w v1 l1) (h2 : TermAt w v2 l2) (h0 : 0 < l1.length) (h0' : 0 < l2.length) (hl : l1.length + l2.length ≤ 100) (hs : (ofL text [l1, l2] 2).all (fun c => decide (c.t.size ≤ 100)) = true) :
    Calls Tryz.prog 32 #[.string text, .slice (some ⟨w.heap.size, 0, none⟩) 2 2] (w.alloc (.cells #[v1, v2] 64)) fun e w' => ∃ ad n cap, e = .returned (.slice ad n cap) ∧ TermAt w' (.slice ad n cap) (ofL text [l1, l2] 2) ∧ Below w.heap.size w w' := by
  refine (k22 text [l1, l2] _ _ (row_two w v1 v2 l1 l2 h1 h2) (by simpa using ⟨h0, h0'⟩) (by simp; omega) (by simp)).mono ?_
  rintro e w' ⟨u, rfl, hO, hb⟩
  have hT : TermAt w' u (ofL text [l1, l2] 2) := ownT_term hO (by simp [ofL, maxLen]; omega) (small_sizes hs)
  obtain ⟨ad, cap, hu⟩ := hT.form
  subst hu
  have hb0 : Below w.heap.size w (w.alloc (.cells #[v1, v2] 64)) := (Below.refl _ w).alloc (Nat.le_refl _) _
  exact ⟨ad, _, cap, rfl, hT, hb0.trans (hb.mono hb0.size)⟩
theorem one_cell (w : World) (c : C) (hc : c.t.size ≤ maxLen) : TermAt (w.alloc (.cells #[.int .u8 c.k, .string c.t, .int .i64 c.n, .int .i64 c.vn, .int .i64 c.vk] 82)) (.slice (some ⟨w.heap.size, 0, none⟩) 1 1) [c] := by
  exact ownT_term (own_one w c) (by simp [maxLen]) (by intro x hx; simp at hx; subst hx; exact hc)
theorem prog_two (w : World) (x0 x1 : ClV) (c0 c1 : Cl) (h0 : ClAt w x0 c0) (h1 : ClAt w x1 c1) : ProgAt (w.alloc (.cells #[x0.hv, x0.gv, x0.bv, .int .i64 x0.n, x1.hv, x1.gv, x1.bv, .int .i64 x1.n] 66)) (.slice (some ⟨w.heap.size, 0, none⟩) 2 2) [c0, c1] := by
  refine ⟨by simp [maxLen], .inr ⟨w.heap.size, 0, 2, [x0, x1], rfl, by simp, by simp [maxLen], by simp, rfl, range_new w (flatK [x0, x1]) 66, ?_⟩⟩
  intro i u x hu hx
  match i, hu, hx with
  | 0, hu, hx => simp at hu hx; subst hu hx; exact h0.below (below_alloc _ _)
  | 1, hu, hx => simp at hu hx; subst hu hx; exact h1.below (below_alloc _ _)
theorem prog_one (w : World) (x0 x1 : ClV) (c0 : Cl) (h0 : ClAt w x0 c0) : ProgAt (w.alloc (.cells #[x0.hv, x0.gv, x0.bv, .int .i64 x0.n, x1.hv, x1.gv, x1.bv, .int .i64 x1.n] 66)) (.slice (some ⟨w.heap.size, 0, none⟩) 1 2) [c0] := by
  refine ⟨by simp [maxLen], .inr ⟨w.heap.size, 0, 2, [x0], rfl, by simp, by simp [maxLen], by simp, rfl, ?_, ?_⟩⟩
  · intro i u hu
    have hr := range_new w (flatK [x0, x1]) 66
    refine hr i u ?_
    have e : flatK [x0, x1] = flatK [x0] ++ flatK [x1] := by simp [flatK]
    rw [e, List.getElem?_append_left (List.getElem?_eq_some_iff.1 hu).1]
    exact hu
  · intro i u x hu hx
    match i, hu, hx with
    | 0, hu, hx => simp at hu hx; subst hu hx; exact h0.below (below_alloc _ _)
theorem eq_q1 (w : World) : (binOp .eql 61 (.agg #[.string ⟨#[113]⟩, .int .i64 1]) (.agg #[.string ⟨#[113]⟩, .int .i64 1])).run Tryz.prog w = .ok (.bool true) w := by kernel_rfl
theorem row_none (w : World) : RowAt w (.slice none 0 0) [] := ⟨by simp [maxLen], .inl ⟨rfl, none, rfl⟩⟩
set_option maxRecDepth 100000 in
set_option maxHeartbeats 4000000 in
theorem k7 (w : World) (hS : Signs w) :
    Calls Tryz.prog 9 #[] w fun e w' => e = .returned (.bool true) ∧ Below w.heap.size w w' := by
  have HS : Hid (Signs w) := hS
  clear hS
  go_enter Tryz.func9, Tryz.ntmps9
  go_wp2_with fail
  refine (t23 0 w).mono ?_
  rintro e w1 ⟨a1, n1, c1, rfl, T1, hb1⟩
  have HB1 : Hid (Below w.heap.size w w1) := hb1
  have H := t22_one ⟨#[112]⟩ _ _ w1 T1 (by simp) (by simp) rfl
  clear hb1 T1
  go_wp2_with fail
  refine H.mono ?_
  clear H
  rintro e w2 ⟨a2, n2, c2, rfl, T2, hb2⟩
  have HB2 : Hid (Below w.heap.size w w2) := HB1.out.trans (hb2.mono HB1.out.size)
  have HT2 : Hid (TermAt w2 (.slice a2 n2 c2) lvH) := T2
  clear hb2 T2 HB1
  go_wp2_with fail
  refine (t23 0 w2).mono ?_
  rintro e w3 ⟨a3, n3, c3, rfl, T3, hb3⟩
  have HB3 : Hid (Below w2.heap.size w2 w3) := hb3
  have HT3 : Hid (TermAt w3 (.slice a3 n3 c3) [localC 0]) := T3
  clear hb3 T3
  go_wp2_with fail
  refine (t23 1 w3).mono ?_
  rintro e w4 ⟨a4, n4, c4, rfl, T4, hb4⟩
  have HB4 : Hid (Below w3.heap.size w3 w4) := hb4
  have H := t22_one ⟨#[102]⟩ _ _ w4 T4 (by simp) (by simp) rfl
  clear hb4 T4
  go_wp2_with fail
  refine H.mono ?_
  clear H
  rintro e w5 ⟨a5, n5, c5, rfl, T5, hb5⟩
  have HB5 : Hid (Below w3.heap.size w3 w5) := HB4.out.trans (hb5.mono HB4.out.size)
  have H := t22_two ⟨#[61]⟩ _ lvF _ _ w5 (HT3.out.below HB5.out) T5 (by simp) (by simp [lvF, ofL]) (by simp [lvF, ofL]) rfl
  clear hb5 T5 HB4 HT3
  go_wp2_with fail
  refine H.mono ?_
  clear H
  rintro e w6 ⟨a6, n6, c6, rfl, T6, hb6⟩
  have HB35 : Hid (Below w2.heap.size w2 w5) := HB3.out.trans (HB5.out.mono HB3.out.size)
  have HB6 : Hid (Below w2.heap.size w2 w6) := HB35.out.trans (hb6.mono HB35.out.size)
  have HT6 : Hid (TermAt w6 (.slice a6 n6 c6) lvB0) := T6
  clear hb6 T6 HB3 HB5 HB35
  go_wp2_with fail
  refine (t23 1 w6).mono ?_
  rintro e w7 ⟨a7, n7, c7, rfl, T7, hb7⟩
  have HB7 : Hid (Below w6.heap.size w6 w7) := hb7
  have H := t22_one ⟨#[113]⟩ _ _ w7 T7 (by simp) (by simp) rfl
  clear hb7 T7
  go_wp2_with fail
  refine H.mono ?_
  clear H
  rintro e w8 ⟨a8, n8, c8, rfl, T8, hb8⟩
  have HB8 : Hid (Below w6.heap.size w6 w8) := HB7.out.trans (hb8.mono HB7.out.size)
  have hbc : Below w8.heap.size w8 (w8.alloc (.cells #[.int .u8 1, .string ⟨#[]⟩, .int .i64 1, .int .i64 0, .int .i64 0] 82)) := (Below.refl _ w8).alloc (Nat.le_refl _) _
  have H := t22_two ⟨#[64]⟩ lvQ lvI _ _ _ (T8.below hbc) (one_cell w8 ⟨1, ⟨#[]⟩, 1, 0, 0⟩ (by decide)) (by simp [lvQ, ofL]) (by simp [lvI]) (by simp [lvQ, lvI, ofL]) rfl
  have HBc : Hid (Below w6.heap.size w6 (w8.alloc (.cells #[.int .u8 1, .string ⟨#[]⟩, .int .i64 1, .int .i64 0, .int .i64 0] 82))) := HB8.out.trans (hbc.mono HB8.out.size)
  simp only [World.size_alloc] at H
  clear hb8 T8 HB7 hbc HB8
  go_wp2_with fail
  refine H.mono ?_
  clear H
  rintro e w9 ⟨a9, n9, c9, rfl, T9, hb9⟩
  have HB9 : Hid (Below w6.heap.size w6 w9) := HBc.out.trans (hb9.mono (by have := HBc.out.size; simpa using this))
  have hR := row_two w9 _ _ _ _ (HT6.out.below HB9.out) T9
  have HT9 : Hid (TermAt w9 (.slice a9 n9 c9) lvB1) := T9
  have hbA : Below w9.heap.size w9 (w9.alloc (.cells #[.slice a6 n6 c6, .slice a9 n9 c9] 64)) := (Below.refl _ w9).alloc (Nat.le_refl _) _
  have hrow : ∀ W, Below (w9.alloc (.cells #[.slice a6 n6 c6, .slice a9 n9 c9] 64)).heap.size (w9.alloc (.cells #[.slice a6 n6 c6, .slice a9 n9 c9] 64)) W → W.cell? ⟨w9.heap.size, 1, none⟩ = some (.slice a9 n9 c9) := fun W hW => by
    rw [hW.cell (by simp), cell_of_row _ w9.heap.size 1 _ 64 (0, 0) (heap_alloc_new w9 _)]; rfl
  have HRow : Hid (∀ W, Below (w9.alloc (.cells #[.slice a6 n6 c6, .slice a9 n9 c9] 64)).heap.size (w9.alloc (.cells #[.slice a6 n6 c6, .slice a9 n9 c9] 64)) W → W.cell? ⟨w9.heap.size, 1, none⟩ = some (.slice a9 n9 c9)) := hrow
  have hbB := hbA.alloc hbA.size (.cells #[.int .u8 2, .string ⟨#[97]⟩, .int .i64 0, .int .i64 0, .int .i64 0] 82)
  have hbAB : Below (w9.alloc (.cells #[.slice a6 n6 c6, .slice a9 n9 c9] 64)).heap.size (w9.alloc (.cells #[.slice a6 n6 c6, .slice a9 n9 c9] 64)) ((w9.alloc (.cells #[.slice a6 n6 c6, .slice a9 n9 c9] 64)).alloc (.cells #[.int .u8 2, .string ⟨#[97]⟩, .int .i64 0, .int .i64 0, .int .i64 0] 82)) := (Below.refl _ _).alloc (Nat.le_refl _) _
  have HBAB : Hid (Below (w9.alloc (.cells #[.slice a6 n6 c6, .slice a9 n9 c9] 64)).heap.size (w9.alloc (.cells #[.slice a6 n6 c6, .slice a9 n9 c9] 64)) ((w9.alloc (.cells #[.slice a6 n6 c6, .slice a9 n9 c9] 64)).alloc (.cells #[.int .u8 2, .string ⟨#[97]⟩, .int .i64 0, .int .i64 0, .int .i64 0] 82))) := hbAB
  have HBB : Hid (Below w9.heap.size w9 ((w9.alloc (.cells #[.slice a6 n6 c6, .slice a9 n9 c9] 64)).alloc (.cells #[.int .u8 2, .string ⟨#[97]⟩, .int .i64 0, .int .i64 0, .int .i64 0] 82))) := hbB
  have HR : Hid (RowAt ((w9.alloc (.cells #[.slice a6 n6 c6, .slice a9 n9 c9] 64)).alloc (.cells #[.int .u8 2, .string ⟨#[97]⟩, .int .i64 0, .int .i64 0, .int .i64 0] 82)) (.slice (some ⟨w9.heap.size, 0, none⟩) 2 2) [lvB0, lvB1]) := hR.below hbAB
  have H := t22_one ⟨#[113]⟩ lvA _ _ (one_cell (w9.alloc (.cells #[.slice a6 n6 c6, .slice a9 n9 c9] 64)) ⟨2, ⟨#[97]⟩, 0, 0, 0⟩ (by decide)) (by simp [lvA]) (by simp [lvA]) rfl
  simp only [World.size_alloc, Nat.add_assoc, Nat.reduceAdd] at H
  clear hb9 T9 HBc hrow hbA hbB hbAB hR
  go_wp2_with fail
  refine H.mono ?_
  clear H
  rintro e w12 ⟨a12, n12, c12, rfl, T12, hb12⟩
  have hb12' : Below ((w9.alloc (.cells #[.slice a6 n6 c6, .slice a9 n9 c9] 64)).alloc (.cells #[.int .u8 2, .string ⟨#[97]⟩, .int .i64 0, .int .i64 0, .int .i64 0] 82)).heap.size ((w9.alloc (.cells #[.slice a6 n6 c6, .slice a9 n9 c9] 64)).alloc (.cells #[.int .u8 2, .string ⟨#[97]⟩, .int .i64 0, .int .i64 0, .int .i64 0] 82)) w12 := hb12.mono (by simp)
  have hb9_12 := HBB.out.trans (hb12'.mono HBB.out.size)
  have hb6_12 := HB9.out.trans (hb9_12.mono HB9.out.size)
  have hb2_12 := HB6.out.trans (hb6_12.mono HB6.out.size)
  have hbw12 := HB2.out.trans (hb2_12.mono HB2.out.size)
  have hC0 : ClAt w12 ⟨.slice a2 n2 c2, .slice none 0 0, .slice (some ⟨w9.heap.size, 0, none⟩) 2 2, 2⟩ lvC0 := ⟨HT2.out.below hb2_12, row_none _, HR.out.below hb12', rfl⟩
  have hC1 : ClAt w12 ⟨.slice a12 n12 c12, .slice none 0 0, .slice none 0 0, 0⟩ lvC1 := ⟨T12, row_none _, row_none _, rfl⟩
  have hP2 := prog_two w12 _ _ _ _ hC0 hC1
  have hP1 := prog_one w12 _ ⟨.slice a12 n12 c12, .slice none 0 0, .slice none 0 0, 0⟩ _ hC0
  have hbP : Below w12.heap.size w12 (w12.alloc (.cells #[.slice a2 n2 c2, .slice none 0 0, .slice (some ⟨w9.heap.size, 0, none⟩) 2 2, .int .i64 2, .slice a12 n12 c12, .slice none 0 0, .slice none 0 0, .int .i64 0] 66)) := (Below.refl _ w12).alloc (Nat.le_refl _) _
  have hbwP := hbw12.trans (hbP.mono hbw12.size)
  have hb9P := hb9_12.trans (hbP.mono hb9_12.size)
  have HPB : Hid (TermAt (w12.alloc (.cells #[.slice a2 n2 c2, .slice none 0 0, .slice (some ⟨w9.heap.size, 0, none⟩) 2 2, .int .i64 2, .slice a12 n12 c12, .slice none 0 0, .slice none 0 0, .int .i64 0] 66)) (.slice a9 n9 c9) lvB1) := HT9.out.below hb9P
  have HPc1 : Hid ((w12.alloc (.cells #[.slice a2 n2 c2, .slice none 0 0, .slice (some ⟨w9.heap.size, 0, none⟩) 2 2, .int .i64 2, .slice a12 n12 c12, .slice none 0 0, .slice none 0 0, .int .i64 0] 66)).cell? ⟨w9.heap.size, 1, none⟩ = some (.slice a9 n9 c9)) := HRow.out _ ((HBAB.out.trans (hb12'.mono HBAB.out.size)).trans (hbP.mono (HBAB.out.trans (hb12'.mono HBAB.out.size)).size))
  have HPc2 : Hid ((w12.alloc (.cells #[.slice a2 n2 c2, .slice none 0 0, .slice (some ⟨w9.heap.size, 0, none⟩) 2 2, .int .i64 2, .slice a12 n12 c12, .slice none 0 0, .slice none 0 0, .int .i64 0] 66)).cell? ⟨w12.heap.size, 2, none⟩ = some (.slice (some ⟨w9.heap.size, 0, none⟩) 2 2)) := by
    show World.cell? _ _ = _
    rw [cell_of_row _ w12.heap.size 2 _ 66 (0, 0) (heap_alloc_new w12 _)]; rfl
  have HPl : Hid (w12.heap.size < (w12.alloc (.cells #[.slice a2 n2 c2, .slice none 0 0, .slice (some ⟨w9.heap.size, 0, none⟩) 2 2, .int .i64 2, .slice a12 n12 c12, .slice none 0 0, .slice none 0 0, .int .i64 0] 66)).heap.size ∧ w9.heap.size < (w12.alloc (.cells #[.slice a2 n2 c2, .slice none 0 0, .slice (some ⟨w9.heap.size, 0, none⟩) 2 2, .int .i64 2, .slice a12 n12 c12, .slice none 0 0, .slice none 0 0, .int .i64 0] 66)).heap.size) := ⟨by simp, by have := hb9_12.size; simp; omega⟩
  have HPS : Hid (Signs (w12.alloc (.cells #[.slice a2 n2 c2, .slice none 0 0, .slice (some ⟨w9.heap.size, 0, none⟩) 2 2, .int .i64 2, .slice a12 n12 c12, .slice none 0 0, .slice none 0 0, .int .i64 0] 66))) := HS.out.below hbwP
  clear hb12 hb12' hb9_12 hb6_12 hb2_12 hbw12 hC0 hC1 T12 hbP hb9P HT9 HRow HBAB HBB HR HB9 HB6 HT6 HT2 HB2 HS
  have HP2 : Hid (ProgAt _ _ [lvC0, lvC1]) := hP2
  have HP1 : Hid (ProgAt _ _ [lvC0]) := hP1
  have HBwP : Hid (Below w.heap.size w _) := hbwP
  clear hP2 hP1 hbwP
  simp only at HP2 HP1
  go_wp2_with fail
  generalize (w12.alloc (.cells #[.slice a2 n2 c2, .slice none 0 0, .slice (some ⟨w9.heap.size, 0, none⟩) 2 2, .int .i64 2, .slice a12 n12 c12, .slice none 0 0, .slice none 0 0, .int .i64 0] 66)) = Wp at *
  generalize w12.heap.size = P at *
  generalize w9.heap.size = RB at *
  have H16 := k16 [lvC0, lvC1] _ 0 Wp HP2.out HPS.out (by intro c hc; simp at hc; rcases hc with rfl | rfl <;> simp [lvC0, lvC1])
  rw [lv_calls] at H16
  refine H16.mono ?_
  rintro e w13 ⟨u, rfl, hO, hb13⟩
  have hPr : PredsAt w13 u [((⟨#[113]⟩ : ByteArray), (1 : Int))] := predsAt_of_owns hO (by simp [maxLen])
  obtain ⟨ub, uo, uc, hu, d0, d1⟩ := preds_at hPr 0 (by simp)
  have hul : ub < w13.heap.size := by
    rcases hPr.2 with ⟨h, _⟩ | ⟨b, o, cap, h1, _, h4⟩
    · simp at h
    · rw [hu] at h1; simp at h1; rw [h1.1.1]; exact h4
  subst hu
  simp only [Nat.zero_mul, Nat.add_zero, List.getElem_cons_zero] at d0 d1
  have HD : Hid (w13.cell? ⟨ub, uo, none⟩ = some (.string ⟨#[113]⟩) ∧ w13.cell? ⟨ub, uo + 1, none⟩ = some (.int .i64 1) ∧ ub < w13.heap.size) := ⟨d0, d1, hul⟩
  have HB13 : Hid (Below Wp.heap.size Wp w13) := hb13
  have H15 := k15 [lvC0, lvC1] lv_fine _ w13 (HP2.out.below hb13) (HPS.out.below hb13)
  clear hO hPr d0 d1 hul hb13 H16
  go_wp2_with fail
  refine H15.mono ?_
  rintro e w14 ⟨n14, er, rfl, hI, hb14⟩
  obtain rfl := lv_ok hI
  have HB14 : Hid (Below w13.heap.size w13 w14) := hb14
  have hbp14 := HB13.out.trans (hb14.mono HB13.out.size)
  have H15' := k15 [lvC0] lu_fine _ w14 (HP1.out.below hbp14) (HPS.out.below hbp14)
  clear hI hb14 hbp14 H15
  go_wp2_with fail
  refine H15'.mono ?_
  rintro e w15 ⟨n15, er, rfl, hI, hb15⟩
  obtain rfl := lu_at hI
  have hb13_15 := HB14.out.trans (hb15.mono HB14.out.size)
  have hbp15 := HB13.out.trans (hb13_15.mono HB13.out.size)
  have d0 : w15.cell? ⟨ub, uo, none⟩ = some (.string ⟨#[113]⟩) := (hb13_15.cell (p := ⟨ub, uo, none⟩) HD.out.2.2).trans HD.out.1
  have d1 : w15.cell? ⟨ub, uo + 1, none⟩ = some (.int .i64 1) := (hb13_15.cell (p := ⟨ub, uo + 1, none⟩) HD.out.2.2).trans HD.out.2.1
  have e2 : w15.cell? ⟨P, 2, none⟩ = some (.slice (some ⟨RB, 0, none⟩) 2 2) := (hbp15.cell (p := ⟨P, 2, none⟩) HPl.out.1).trans HPc2.out
  have e1 : w15.cell? ⟨RB, 1, none⟩ = some (.slice a9 n9 c9) := (hbp15.cell (p := ⟨RB, 1, none⟩) HPl.out.2).trans HPc1.out
  have H12 := k12 lvB1 _ w15 (HPB.out.below hbp15) (HPS.out.below hbp15)
  rw [lv_goal] at H12
  have hq := eq_q1 w15
  have HBp15 : Hid (Below Wp.heap.size Wp w15) := hbp15
  clear hI hb15 hb13_15 hbp15 H15'
  go_wp2_with fail
  refine H12.mono ?_
  rintro e w16 ⟨rfl, hb16⟩
  have hbp16 := HBp15.out.trans (hb16.mono HBp15.out.size)
  have f2 : w16.cell? ⟨P, 2, none⟩ = some (.slice (some ⟨RB, 0, none⟩) 2 2) := (hbp16.cell (p := ⟨P, 2, none⟩) HPl.out.1).trans HPc2.out
  have f1 : w16.cell? ⟨RB, 1, none⟩ = some (.slice a9 n9 c9) := (hbp16.cell (p := ⟨RB, 1, none⟩) HPl.out.2).trans HPc1.out
  have H10 := k10 lvB1 _ w16 (HPB.out.below hbp16) (HPS.out.below hbp16)
  rw [lv_guard] at H10
  have HBp16 : Hid (Below Wp.heap.size Wp w16) := hbp16
  clear hbp16 hb16 H12
  go_wp2_with fail
  refine H10.mono ?_
  rintro e w17 ⟨rfl, hb17⟩
  have hbp17 := HBp16.out.trans (hb17.mono HBp16.out.size)
  go_wp2_with fail
  go_ret
  exact ⟨rfl, HBwP.out.trans (hbp17.mono HBwP.out.size)⟩
end Go.Proofs.YtlfccjlifjppdaaGreatDoor
namespace Go.Proofs.YtlfccjlifjppdaaGreatDoor
open Go.RowKit
theorem info38 : ∃ i, Tryz.prog.info? 66 = some i ∧ i.zero = some (.agg #[.slice none 0 0, .slice none 0 0, .slice none 0 0, .int .i64 0]) ∧ i.size = 4 ∧ i.bytes = 80 := by
  have h : (Tryz.prog.info? 66).map (fun i => (i.zero, i.size, i.bytes)) = some (some (.agg #[.slice none 0 0, .slice none 0 0, .slice none 0 0, .int .i64 0]), 4, 80) := by kernel_rfl
  cases hq : Tryz.prog.info? 66 with
  | none => rw [hq] at h; cases h
  | some i =>
    rw [hq] at h
    simp only [Option.map_some, Option.some.injEq, Prod.mk.injEq] at h
    exact ⟨i, rfl, h.1, h.2.1, h.2.2⟩
theorem wrap_u64 (x : Int) : IntKind.u64.wrap x = x % 18446744073709551616 := by simp [IntKind.wrap, IntKind.signed, IntKind.bits]
theorem rot_index (k : Int) (n : Nat) (h0 : 0 < n) (hn : n ≤ 1759218604441) : ∃ i : Nat, i < n ∧ wrap64 ((IntKind.u64.wrap k).tmod (n : Int)) = (i : Int) := by
  have hk0 : 0 ≤ IntKind.u64.wrap k := by rw [wrap_u64]; omega
  rw [Int.tmod_eq_emod_of_nonneg hk0]
  have h1 := Int.emod_nonneg (IntKind.u64.wrap k) (show (n : Int) ≠ 0 by omega)
  have h2 := Int.emod_lt_of_pos (IntKind.u64.wrap k) (show (0 : Int) < (n : Int) by omega)
  generalize IntKind.u64.wrap k % (n : Int) = m at *
  refine ⟨m.toNat, by omega, ?_⟩
  have : wrap64 m = m := by simp [wrap64]; omega
  rw [this]; omega
/-- A program's row whose cells lie in a block of one's own. -/
theorem progAt_of_owns {w : World} {base : Nat} {v : Value} {xs : List ClV} {cs : List Cl} (h : w.ownsRow base 66 4 v cs.length (flatK xs)) (hx : xs.length = cs.length) (hl : cs.length ≤ maxLen) (hC : ∀ (i : Nat) (x : ClV) (c : Cl), xs[i]? = some x → cs[i]? = some c → ClAt w x c) : ProgAt w v cs := by
  refine ⟨hl, ?_⟩
  rcases h.2 with ⟨h1, h2⟩ | ⟨g, cap, cur, h1, h2, h3, h4, h5, h6, h7⟩
  · exact Or.inl ⟨List.eq_nil_of_length_eq_zero h2, none, by rw [h1]⟩
  · exact Or.inr ⟨g, 0, cap, xs, h1, h4, h5, (Array.getElem?_eq_some_iff.1 h3).1, hx, range_of_owns h3 h7, hC⟩
theorem flatK_one {w : World} {xs : List ClV} {cs : List Cl} (hx : xs.length = cs.length) (hC : ∀ (i : Nat) (x : ClV) (c : Cl), xs[i]? = some x → cs[i]? = some c → ClAt w x c) : ∀ u ∈ flatK xs, u.oneCell' = true := by
  intro u hu
  unfold flatK at hu
  rw [List.mem_flatMap] at hu
  obtain ⟨x, hm, hu⟩ := hu
  obtain ⟨i, hi, rfl⟩ := List.getElem_of_mem hm
  have hc := hC i xs[i] (cs[i]'(by omega)) (List.getElem?_eq_getElem hi) (List.getElem?_eq_getElem (by omega))
  obtain ⟨a1, c1, e1⟩ := hc.1.form
  obtain ⟨a2, c2, e2⟩ := hc.2.1.form
  obtain ⟨a3, c3, e3⟩ := hc.2.2.1.form
  simp only [ClV.vals, List.mem_cons, List.not_mem_nil, or_false] at hu
  rcases hu with rfl | rfl | rfl | rfl
  · rw [e1]; rfl
  · rw [e2]; rfl
  · rw [e3]; rfl
  · rfl
theorem flatK_len (xs : List ClV) : (flatK xs).length = xs.length * 4 := by
  induction xs with
  | nil => rfl
  | cons a r ih => simp [flatK, ClV.vals] at *; omega
theorem flatK_append (a b : List ClV) : flatK (a ++ b) = flatK a ++ flatK b := by simp [flatK]
theorem range_part {w : World} {b o : Nat} {xs : List ClV} (h : w.rangeAt b o (flatK xs)) (i : Nat) (hi : i ≤ xs.length) : w.rangeAt b (o + i * 4) (flatK (xs.drop i)) ∧ w.rangeAt b o (flatK (xs.take i)) := by
  have e : flatK xs = flatK (xs.take i) ++ flatK (xs.drop i) := by rw [← flatK_append, List.take_append_drop]
  have hl : (flatK (xs.take i)).length = i * 4 := by rw [flatK_len, List.length_take]; omega
  constructor
  · intro j u hu
    have := h (i * 4 + j) u (by rw [e, List.getElem?_append_right (by omega), hl, Nat.add_sub_cancel_left]; exact hu)
    rwa [show o + (i * 4 + j) = o + i * 4 + j by omega] at this
  · intro j u hu
    exact h j u (by rw [e, List.getElem?_append_left (List.getElem?_eq_some_iff.1 hu).1]; exact hu)
theorem clause_cells {w : World} {b o : Nat} {xs : List ClV} (h : w.rangeAt b o (flatK xs)) (i : Nat) (hi : i < xs.length) : w.cell? ⟨b, o + i * 4, none⟩ = some xs[i].hv ∧ w.cell? ⟨b, o + i * 4 + 1, none⟩ = some xs[i].gv ∧ w.cell? ⟨b, o + i * 4 + 2, none⟩ = some xs[i].bv ∧ w.cell? ⟨b, o + i * 4 + 3, none⟩ = some (.int .i64 xs[i].n) := by
  have g : ∀ j v, j < 4 → (xs[i].vals)[j]? = some v → w.cell? ⟨b, o + i * 4 + j, none⟩ = some v := fun j v hj hv => by
    have := h (4 * i + j) v ((flatK_get xs i j hi hj).trans hv)
    rwa [show o + (4 * i + j) = o + i * 4 + j by omega] at this
  exact ⟨g 0 _ (by omega) rfl, g 1 _ (by omega) rfl, g 2 _ (by omega) rfl, g 3 _ (by omega) rfl⟩
theorem less_no (cs : List Cl) (x : Pd) (n : Nat) (h : n < cs.length) (hb : isB cs[n].hd x.1 x.2 = false) : lessS (cs.take (n + 1)) x = lessS (cs.take n) x ++ [cs[n]] := by
  unfold lessS
  rw [List.take_succ_eq_append_getElem h, List.filter_append]
  simp [hb]
theorem less_yes (cs : List Cl) (x : Pd) (n : Nat) (h : n < cs.length) (hb : isB cs[n].hd x.1 x.2 = true) : lessS (cs.take (n + 1)) x = lessS (cs.take n) x := by
  unfold lessS
  rw [List.take_succ_eq_append_getElem h, List.filter_append]
  simp [hb]
theorem Fits.sub {cs ds : List Cl} (F : Fits cs) (hl : ds.length ≤ 1759218604441) (h : ∀ c ∈ ds, c ∈ cs) : Fits ds :=
  ⟨hl, fun c hc => F.cw c (h c hc), fun c hc => F.gl c (h c hc), fun c hc => F.bl c (h c hc), fun c hc => F.hw c (h c hc), fun c hc => F.pw c (h c hc)⟩
end Go.Proofs.YtlfccjlifjppdaaGreatDoor
namespace Go.Proofs.YtlfccjlifjppdaaGreatDoor
open Go.ChangeShapes Go.WideShapes Go.ChangeAt Go.RowKit Go.Joins Go.Deep Go.Proofs.YtlfccjlifjppdaaGreatDoor.Laid
theorem cells38 : Tryz.prog.cellsOf 66 = 4 := by kernel_rfl
theorem cells36 : Tryz.prog.cellsOf 32 = 1 := by kernel_rfl
theorem bytes38 : Tryz.prog.bytesOf 66 = 80 := by kernel_rfl
def CellW (c : C) : Prop := wfN (c.vn, c.vk) ∧ (Lit.int .i64 c.n).wf = true ∧ c.t.size ≤ maxLen
def TermW (l : List C) : Prop := ∀ c ∈ l, CellW c
section
variable {H : Type} {enc : TypeId × Value → H} {w : World} {base : Nat} {sp : Nat → Bool} {held : Bool}
theorem open_cellW {fuel : Nat} {cs : List Value} {x : DataW H × List MemPlace} (h : DataW.trod enc Tryz.prog w base sp held fuel 82 cs = some x) : ∃ c : C, cs = c.vals ∧ CellW c := by
  cases fuel with
  | zero => simp [DataW.trod] at h
  | succ fuel =>
    simp only [DataW.trod, Tryz.underlying82, cells60] at h
    split at h
    · rename_i hl
      obtain ⟨a, b, c, d, e, rfl⟩ := list5 hl
      obtain ⟨xs, hm, _⟩ := Option.map_eq_some_iff.1 h
      have f0 := Lib.mapM_at hm 0 _ rfl
      have f1 := Lib.mapM_at hm 1 _ rfl
      have f2 := Lib.mapM_at hm 2 _ rfl
      have f3 := Lib.mapM_at hm 3 _ rfl
      obtain ⟨y0, _, g0⟩ := f0
      obtain ⟨y1, _, g1⟩ := f1
      obtain ⟨y2, _, g2⟩ := f2
      obtain ⟨y3, _, g3⟩ := f3
      simp only [cells58, cells9, cells3, cells23', List.drop_zero, List.drop_succ_cons, List.take_succ_cons, List.take_zero] at g0 g1 g2 g3
      obtain ⟨k, e0, _, _⟩ := DataW.trod_int Tryz.underlying78 g0
      obtain ⟨t, e1, _, ht⟩ := DataW.trod_string Tryz.underlying9 g1
      obtain ⟨n, e2, _, w2⟩ := DataW.trod_int Tryz.underlying3 g2
      obtain ⟨z0, z1, n3, _, _, h30, h31⟩ := trod_struct2 Tryz.underlying80 g3
      simp only [cells3, List.drop_zero, List.drop_succ_cons, List.take_succ_cons, List.take_zero] at h30 h31
      obtain ⟨vn, e3, _, w3⟩ := DataW.trod_int Tryz.underlying3 h30
      obtain ⟨vk, e4, _, w4⟩ := DataW.trod_int Tryz.underlying3 h31
      simp only [List.cons.injEq, and_true] at e0 e1 e2 e3 e4
      subst e0 e1 e2 e3 e4
      exact ⟨⟨k, t, n, vn, vk⟩, rfl, ⟨w3, w4⟩, w2, ht⟩
    · cases h
theorem term_wf {fuel : Nat} {v : Value} {x : DataW H × List MemPlace} {l : List C} (h : DataW.trod enc Tryz.prog w base (fun _ => true) held fuel 64 [v] = some x) (hT : TermAt w v l) : TermW l := by
  obtain ⟨_, hT⟩ := hT
  rcases hT with ⟨rfl, _⟩ | ⟨b, o, cp, hf, _, _, hr, hb⟩
  · intro c hc; simp at hc
  rcases open_slice Tryz.underlying64 h with ⟨hcs, hx⟩ | ⟨a, len, cap, m, n, D, Pl, hcs, _, hl, hmx, hm, hx, hel⟩
  · simp only [List.cons.injEq, and_true] at hcs
    rw [hf] at hcs
    cases hcs
  · simp only [List.cons.injEq, and_true] at hcs
    rw [hf] at hcs
    simp only [Value.slice.injEq, Option.some.injEq] at hcs
    obtain ⟨rfl, rfl, rfl⟩ := hcs
    simp only [if_true] at hm
    subst hm
    rw [cells60] at hel
    intro c hc
    obtain ⟨i, hi, rfl⟩ := List.getElem_of_mem hc
    obtain ⟨cs, h1, h2⟩ := hel i (by omega)
    obtain ⟨c', rfl, hw⟩ := open_cellW h2
    have h3 := (World.cells?_some h1).2.2
    obtain ⟨p0, p1, p2, p3, p4⟩ := term_cells hr i hi
    have q1 := h3 1 (by omega)
    have q2 := h3 2 (by omega)
    have q3 := h3 3 (by omega)
    have q4 := h3 4 (by omega)
    rw [Addr.add_mid, Addr.add_mid] at q1 q2 q3 q4
    rw [p1] at q1
    rw [p2] at q2
    rw [p3] at q3
    rw [p4] at q4
    simp [C.vals] at q1 q2 q3 q4
    unfold CellW at *
    rw [q1, q2, q3, q4]; exact hw
theorem row_wf {fuel : Nat} {v : Value} {x : DataW H × List MemPlace} {ls : List (List C)} (h : DataW.trod enc Tryz.prog w base (fun _ => true) held fuel 32 [v] = some x) (hR : RowAt w v ls) : ∀ l ∈ ls, TermW l := by
  obtain ⟨_, hR⟩ := hR
  rcases hR with ⟨rfl, _⟩ | ⟨b, o, cp, vs, hf, _, _, hb, hvl, hr, ht⟩
  · simp
  rcases open_slice1 Tryz.underlying32 cells29 h with ⟨hcs, hx⟩ | ⟨a, len, cap, m, n, V, D, Pl, hcs, _, hl, hmx, hm, hx, hel⟩
  · simp only [List.cons.injEq, and_true] at hcs
    rw [hf] at hcs
    cases hcs
  · simp only [List.cons.injEq, and_true] at hcs
    rw [hf] at hcs
    simp only [Value.slice.injEq, Option.some.injEq] at hcs
    obtain ⟨rfl, rfl, rfl⟩ := hcs
    simp only [if_true] at hm
    subst hm
    intro l hl'
    obtain ⟨i, hi, rfl⟩ := List.getElem_of_mem hl'
    obtain ⟨h1, h2⟩ := hel i (by omega)
    have p0 := row_cell hr i (by omega)
    rw [Addr.add_mid] at h1
    rw [p0] at h1
    simp at h1
    rw [← h1] at h2
    exact term_wf h2 (ht i _ _ (List.getElem?_eq_getElem (by omega)) (List.getElem?_eq_getElem hi))
/-- A clause's terms have numbers that fit. -/
def ClD (c : Cl) : Prop := TermW c.hd ∧ (∀ l ∈ c.gs, TermW l) ∧ ∀ l ∈ c.bs, TermW l
theorem list4 {α : Type} {l : List α} (h : l.length = 4) : ∃ a b c d, l = [a, b, c, d] := by
  match l, h with
  | [a, b, c, d], _ => exact ⟨a, b, c, d, rfl⟩
theorem open_clause {fuel : Nat} {cs : List Value} {x : DataW H × List MemPlace} (h : DataW.trod enc Tryz.prog w base (fun _ => true) held fuel 66 cs = some x) :
    ∃ (X : ClV) (c : Cl), cs = X.vals ∧ ClAt w X c ∧ ClD c ∧ ∀ M : Nat, (∀ y ∈ DataW.weights Tryz.prog 66 x.1, y ≤ M) → c.gs.length * 24 ≤ M ∧ c.bs.length * 24 ≤ M := by
  obtain ⟨y0, y1, y2, y3, n, hx, hl, g0, g1, g2, g3⟩ := trod_struct4 Tryz.underlying66 h
  rw [cells38] at hl
  obtain ⟨a, b, c, d, rfl⟩ := list4 hl
  simp only [cells29, cells36, cells3, List.drop_zero, List.drop_succ_cons, List.take_succ_cons, List.take_zero] at g0 g1 g2 g3
  obtain ⟨lh, th, _⟩ := open_term g0
  obtain ⟨lg, tg, wg⟩ := open_row g1
  obtain ⟨lb, tb, wb⟩ := open_row g2
  obtain ⟨k, e3, _, _⟩ := DataW.trod_int Tryz.underlying3 g3
  simp only [List.cons.injEq, and_true] at e3
  subst e3
  refine ⟨⟨a, b, c, k⟩, ⟨lh, lg, lb, k⟩, rfl, ⟨th, tg, tb, rfl⟩, ⟨term_wf g0 th, row_wf g1 tg, row_wf g2 tb⟩, fun M hM => ?_⟩
  rw [hx] at hM
  simp only [DataW.weights, Tryz.underlying66, DataW.weightsEach, List.mem_append, List.map_cons, List.map_nil] at hM
  exact ⟨(wg M (fun y hy => hM y (by simp [hy]))).1, (wb M (fun y hy => hM y (by simp [hy]))).1⟩
theorem flatK_div (l : List ClV) (j : Nat) (v : Value) (h : (flatK l)[j]? = some v) : ∃ (hi : j / 4 < l.length), (l[j / 4].vals)[j % 4]? = some v := by
  have hj : j < (flatK l).length := (List.getElem?_eq_some_iff.1 h).1
  rw [flatK_len] at hj
  have hi : j / 4 < l.length := by omega
  refine ⟨hi, ?_⟩
  rw [← flatK_get l (j / 4) (j % 4) hi (by omega), show 4 * (j / 4) + j % 4 = j by omega]
  exact h
theorem open_prog {fuel : Nat} {v : Value} {x : DataW H × List MemPlace} (h : DataW.trod enc Tryz.prog w base (fun _ => true) held fuel 23 [v] = some x) :
    ∃ cs : List Cl, ProgAt w v cs ∧ (∀ c ∈ cs, ClD c) ∧ ∀ M : Nat, (∀ y ∈ DataW.weights Tryz.prog 23 x.1, y ≤ M) → cs.length * 80 ≤ M ∧ ∀ c ∈ cs, c.gs.length * 24 ≤ M ∧ c.bs.length * 24 ≤ M := by
  rcases open_slice Tryz.underlying23 h with ⟨hcs, hx⟩ | ⟨a, len, cap, m, n, D, Pl, hcs, _, hl, hmx, hm, hx, hel⟩
  · simp only [List.cons.injEq, and_true] at hcs
    subst hcs
    exact ⟨[], ⟨by simp, .inl ⟨rfl, none, rfl⟩⟩, by simp, fun M _ => by simp⟩
  · simp only [List.cons.injEq, and_true] at hcs
    subst hcs
    simp only [if_true] at hm
    subst hm
    by_cases h0 : m = 0
    · have hl0 : len = 0 := by omega
      subst h0 hl0
      exact ⟨[], ⟨by simp, .inl ⟨rfl, some a, rfl⟩⟩, by simp, fun M _ => by simp⟩
    · rw [cells38] at hel
      have hc : ∀ i, i < m → ∃ p : ClV × Cl, (∀ r, r < 4 → w.cell? ((a.add (i * 4)).add r) = p.1.vals[r]?) ∧ ClAt w p.1 p.2 ∧ ClD p.2 ∧ ∀ M : Nat, (∀ y ∈ DataW.weights Tryz.prog 66 (D i), y ≤ M) → p.2.gs.length * 24 ≤ M ∧ p.2.bs.length * 24 ≤ M := by
        intro i hi
        obtain ⟨cs, h1, h2⟩ := hel i hi
        obtain ⟨X, c, rfl, h3, h4, h5⟩ := open_clause h2
        exact ⟨(X, c), (World.cells?_some h1).2.2, h3, h4, h5⟩
      obtain ⟨f, hf⟩ := @choose_lt (ClV × Cl) ⟨(⟨.slice none 0 0, .slice none 0 0, .slice none 0 0, 0⟩, ⟨[], [], [], 0⟩)⟩ m _ hc
      have h00 := (hf 0 (by omega)).1 0 (by omega)
      obtain ⟨b, o, spot⟩ := a
      have hspot : spot = none := by
        have h01 : w.cell? (((⟨b, o, spot⟩ : Addr).add (0 * 4)).add 0) = some (f 0).1.hv := h00
        simpa [Addr.add] using World.cell?_spot h01
      subst hspot
      have hr : w.rangeAt b o (flatK ((List.range len).map fun i => (f i).1)) := by
        intro j u hu
        obtain ⟨hi, hv⟩ := flatK_div _ j u hu
        simp at hi
        have h2 := (hf (j / 4) (by omega)).1 (j % 4) (by omega)
        rw [Addr.add_mid, Addr.add_mid, show o + j / 4 * 4 + j % 4 = o + j by omega] at h2
        rw [h2]
        simpa using hv
      have hb : b < w.heap.size := by
        have h01 : w.cell? (((⟨b, o, none⟩ : Addr).add (0 * 4)).add 0) = some (f 0).1.hv := h00
        rw [Addr.add_mid, Addr.add_mid] at h01
        exact World.block_lt_of_cell? w _ h01
      have hmem : ∀ c ∈ (List.range len).map (fun i => (f i).2), ∃ i, i < len ∧ (f i).2 = c := by
        intro c hc'
        simp only [List.mem_map, List.mem_range] at hc'
        exact hc'
      refine ⟨(List.range len).map fun i => (f i).2, ⟨by simp; omega, .inr ⟨b, o, m, (List.range len).map fun i => (f i).1, by simp, by simp; exact hl, hmx, hb, by simp, hr, ?_⟩⟩, ?_, fun M hM => ⟨?_, ?_⟩⟩
      · intro i X c hX hC
        simp only [List.getElem?_map, Option.map_eq_some_iff] at hX hC
        obtain ⟨j, hj, rfl⟩ := hX
        obtain ⟨j', hj', rfl⟩ := hC
        rw [hj] at hj'
        cases hj'
        have hlt : i < len := by have := (List.getElem?_eq_some_iff.1 hj).1; simpa using this
        rw [List.getElem?_range hlt] at hj
        cases hj
        exact (hf i (by omega)).2.1
      · intro c hc'
        obtain ⟨i, hi, rfl⟩ := hmem c hc'
        exact (hf i (by omega)).2.2.1
      · have h1 := hM ((len + (m - len)) * 80) (by
          rw [hx]
          simp [DataW.weights, Tryz.underlying23, bytes38])
        have h2 : len * 80 ≤ (len + (m - len)) * 80 := Nat.mul_le_mul_right _ (by omega)
        simp; omega
      · intro c hc'
        obtain ⟨i, hi, rfl⟩ := hmem c hc'
        refine (hf i (by omega)).2.2.2 M (fun y hy => hM y ?_)
        rw [hx]
        simp only [DataW.weights, Tryz.underlying23, List.mem_cons, List.mem_append]
        right; left
        exact weightsAll_mem (List.mem_map.2 ⟨i, by simpa using hi, rfl⟩) hy
end
theorem headW {l : List C} (h : TermW l) : (headC l).t.size ≤ maxLen ∧ (Lit.int .i64 (headC l).n).wf = true := by
  cases l with
  | nil => exact ⟨by decide, rfl⟩
  | cons c r => exact ⟨(h c (by simp)).2.2, (h c (by simp)).2.1⟩
theorem predW {l : List C} (h : TermW l) : wfP (predS l) := by
  obtain ⟨h1, h2⟩ := headW h
  unfold predS
  split
  · exact ⟨h1, rfl⟩
  · exact ⟨h1, h2⟩
theorem left_mem {l : List C} (hr : rightB l = true) (h1 : 0 < l.length) (hk : l[0].k = 3) (hn : l[0].n = 2) : ∀ c ∈ leftL l, c ∈ l := by
  obtain ⟨m, hm1, hml, he, ha⟩ := two_parts hr h1 hk hn
  have e1 : leftL l = (l.drop 1).take m := by unfold leftL; rw [ha]; rfl
  rw [e1]
  intro c hc
  exact List.mem_of_mem_drop (List.mem_of_mem_take hc)
theorem callW {l : List C} (h : TermW l) (hr : rightB l = true) : TermW (callT l) := by
  have h1 : 0 < l.length := (right_len hr).1
  unfold callT
  rw [headC_get h1]
  split
  · next hs =>
    have hs' : isSignB l[0].t.data.toList = true := by
      have : l[0].t.data.toList = [64] := by rw [← ByteArray.toList_eq]; simpa using hs
      rw [this]; decide
    obtain ⟨e1, e2⟩ := sign_cell (right_cell hr _ (List.getElem_mem h1)) hs'
    exact fun c hc => h c (left_mem hr h1 e1 e2 c hc)
  · exact h
theorem calledW {ls : List (List C)} (h : ∀ l ∈ ls, TermW l) : ∀ y ∈ calledS ls, wfP y := by
  intro y hy
  unfold calledS at hy
  rcases foldP_mem _ _ _ hy with hy | hy
  · simp at hy
  · unfold predsOf at hy
    obtain ⟨l, hl, rfl⟩ := List.mem_map.1 hy
    obtain ⟨hl1, hl2⟩ := List.mem_filter.1 hl
    have hr : rightB l = true := by
      unfold callB at hl2
      simp at hl2
      exact hl2.1
    exact predW (callW (h l hl1) hr)
theorem varsW {l : List C} (h : TermW l) : ∀ x ∈ varsOf l, wfN x := by
  intro x hx
  unfold varsOf at hx
  obtain ⟨c, hc, rfl⟩ := List.mem_map.1 hx
  exact (h c (List.mem_filter.1 hc).1).1
theorem fits_of {cs : List Cl} (hD : ∀ c ∈ cs, ClD c) (hl : cs.length * 80 ≤ 140737488355328) (hr : ∀ c ∈ cs, c.gs.length * 24 ≤ 140737488355328 ∧ c.bs.length * 24 ≤ 140737488355328) : Fits cs := by
  refine ⟨by omega, fun c hc l hl => ?_, fun c hc => by have := (hr c hc).1; omega, fun c hc => by have := (hr c hc).2; omega, fun c hc _ => predW (hD c hc).1, fun c hc => calledW (hD c hc).2.2⟩
  rcases hl with rfl | hl | hl
  · exact varsW (hD c hc).1
  · exact varsW ((hD c hc).2.1 l hl)
  · exact varsW ((hD c hc).2.2 l hl)
end Go.Proofs.YtlfccjlifjppdaaGreatDoor
namespace Go.Proofs.YtlfccjlifjppdaaGreatDoor
open Go.RowKit
attribute [local go_sem ↓] Go.wp_at_zero Go.wp_at_succ
set_option maxRecDepth 100000 in
theorem k39_on_nil (acc : List Pd) (lv : Value) (base R m : Nat) (ad : Option Addr) (cap : Nat) (w : World) (hS : RowSt w base R m lv acc) :
    Calls Tryz.prog 39 #[.pointer (some ⟨R, 0, none⟩), .slice ad 0 cap] w fun e w' => e = .returned (.tuple #[]) ∧ w' = w := by
  obtain ⟨cR0, cR1, fR⟩ := hS.cells
  have hnil := mapnil1 m
  clear hS
  go_enter Tryz.func39, Tryz.ntmps39
  go_wp2_with fail
  refine wp_loop_rounds 1 ?_
  rw [rounds_succ]
  go_wp2_with fail
  go_end0
  exact ⟨rfl, rfl⟩
set_option maxRecDepth 100000 in
theorem k39_new_nil (base R : Nat) (ad : Option Addr) (cap : Nat) (w : World) (hR0 : w.heap[R]? = some (.cells #[.slice none 0 0, .map none] 90 (0, 0))) (hbR0 : base ≤ R) (hbase : base ≤ w.heap.size) :
    Calls Tryz.prog 39 #[.pointer (some ⟨R, 0, none⟩), .slice ad 0 cap] w fun e w' => e = .returned (.tuple #[]) ∧ (∃ m lv', RowSt w' base R m lv' []) ∧ Below base w w' := by
  have hRlt0 : R < w.heap.size := (Array.getElem?_eq_some_iff.1 hR0).1
  have cR1 : w.cell? ⟨R, 1, none⟩ = some (.map none) := by rw [cell_of_row w R 1 _ 90 (0, 0) hR0]; rfl
  have hR0a : (w.alloc (.map #[] 0)).heap[R]? = some (.cells #[.slice none 0 0, .map none] 90 (0, 0)) := by rw [heap_alloc_old w _ hRlt0]; exact hR0
  have cR1a : (w.alloc (.map #[] 0)).cell? ⟨R, 1, none⟩ = some (.map none) := by rw [cell_of_row _ R 1 _ 90 (0, 0) hR0a]; rfl
  have fR1a : (w.alloc (.map #[] 0)).frozen? ⟨R, 1, none⟩ = false := frozen_of_row _ R 1 _ 90 hR0a
  have hnil := mapnil0
  have hmm := @run_makeMap Tryz.prog
  have HW0 : Hid (RowSt ((w.setCell ⟨R, 1, none⟩ (.map (some w.heap.size))).alloc (.map #[] 0)) base R w.heap.size (.slice none 0 0) [] ∧ Below base w ((w.setCell ⟨R, 1, none⟩ (.map (some w.heap.size))).alloc (.map #[] 0))) := by
    have hzs : (w.setCell ⟨R, 1, none⟩ (.map (some w.heap.size))).heap.size = w.heap.size := by simp
    have hm := World.ownsMap_made (w.setCell ⟨R, 1, none⟩ (.map (some w.heap.size))) Tryz.prog 61 (unitElem (H := Unit))
    rw [hzs] at hm
    refine ⟨⟨?_, hbR0, hbase, World.ownsRow_nil _ _ _ _, hm, by simp⟩, ?_⟩
    · rw [heap_alloc_old _ _ (by omega), heap_setCell_same w R 1 _ 90 _ hR0]; rfl
    · have x1 : Below base w (w.setCell ⟨R, 1, none⟩ (.map (some w.heap.size))) := ⟨rfl, rfl, rfl, by simp, fun k hk => heap_setCell_other _ _ _ _ (by show k ≠ R; omega)⟩
      exact x1.alloc (by omega) _
  go_enter Tryz.func39, Tryz.ntmps39
  go_wp2_with fail
  clear cR1 cR1a fR1a hmm hR0a
  refine wp_loop_rounds 1 ?_
  rw [rounds_succ]
  go_wp2_with fail
  go_end0
  exact ⟨rfl, ⟨_, _, HW0.out.1⟩, HW0.out.2⟩
def eqP (y x : Pd) : Bool := y.1.toList == x.1.toList && y.2 == x.2
theorem eql40 (a : ByteArray) (b : Int) (c : ByteArray) (d : Int) (w : World) :
    (binOp .eql 61 (.agg #[.string a, .int .i64 b]) (.agg #[.string c, .int .i64 d])).run Tryz.prog w = .ok (.bool (a.toList == c.toList && b == d)) w := by
  cases h1 : (a.toList == c.toList) <;> cases h2 : (b == d) <;> go_simp
/-- A row of numbers in memory. -/
def IntsAt (w : World) (v : Value) (zs : List Int) : Prop := ∃ base, w.ownsInts base 3 .i64 v zs
theorem IntsAt.below {w w' : World} {v : Value} {zs : List Int} (h : IntsAt w v zs) (hb : Below w.heap.size w w') : IntsAt w' v zs := by
  obtain ⟨base, h1, h2⟩ := h
  exact ⟨base, owns_below h1 hb, h2⟩
theorem IntsAt.form {w : World} {v : Value} {zs : List Int} (h : IntsAt w v zs) : ∃ ad cap, v = .slice ad zs.length cap := by
  obtain ⟨base, h1, _⟩ := h
  rcases h1.2 with ⟨h1, h2⟩ | ⟨g, c, cur, h1, _⟩
  · exact ⟨none, 0, by rw [h1, h2]⟩
  · exact ⟨_, _, h1⟩
theorem ints_at {w : World} {v : Value} {zs : List Int} (h : IntsAt w v zs) (i : Nat) (hi : i < zs.length) : ∃ b cap, v = .slice (some ⟨b, 0, none⟩) zs.length cap ∧ w.cell? ⟨b, i, none⟩ = some (.int .i64 zs[i]) ∧ b < w.heap.size := by
  obtain ⟨base, h1, _⟩ := h
  rcases h1.2 with ⟨_, h2⟩ | ⟨g, c, cur, h1, h2, h3, h4, h5, h6, h7⟩
  · omega
  · have hr := range_of_owns h3 h7
    have := hr i (.int .i64 zs[i]) (by simp [List.getElem?_eq_getElem hi])
    rw [Nat.zero_add] at this
    exact ⟨g, c, h1, this, (Array.getElem?_eq_some_iff.1 h3).1⟩
set_option maxRecDepth 100000 in
theorem k20 (cs : List Cl) (v : Value) (x : Pd) (w : World) (hP : ProgAt w v cs) (hl : cs.length ≤ 1759218604441) (hW : ∀ c ∈ cs, hasNameS c.hd = true → wfP (predS c.hd)) (hx : wfP x) :
    Calls Tryz.prog 14 #[v, .string x.1, .int .i64 x.2] w fun e w' => ∃ u, e = .returned u ∧ IntsAt w' u (idxG cs x cs.length) ∧ Below w.heap.size w w' := by
  have H40 := k40 cs v w hP hl hW
  have HX : Hid (wfP x) := hx
  have HL : Hid (cs.length ≤ 1759218604441) := hl
  obtain ⟨ad, cap, hv⟩ := hP.form
  subst hv
  clear hP hW hx hl
  go_enter Tryz.func14, Tryz.ntmps14
  go_wp2_with fail
  refine H40.mono ?_
  rintro e w1 ⟨rfl, ⟨D, hG, hD⟩, hb1⟩
  obtain ⟨v1, zs, hrun, hat, hoi, hzl, _⟩ := hG.at keyed40 Tryz.underlying85 (zero44 _) (by have := HL.out; unfold maxLen; omega) (key40 x HX.out)
  have hzs : zs = idxG cs x cs.length := rowG_inv hoi ((hD.2 x HX.out).symm.trans hat)
  have HI : Hid (IntsAt w1 v1 (idxG cs x cs.length)) := by rw [← hzs]; exact ⟨_, hoi⟩
  unfold Pd.val at hrun
  clear hoi hat hG hD hzs hzl
  go_wp2_with fail
  go_ret
  exact ⟨_, rfl, HI.out, hb1⟩
end Go.Proofs.YtlfccjlifjppdaaGreatDoor
namespace Go.Proofs.YtlfccjlifjppdaaGreatDoor
open Go.RowKit
/-- What the clauses of a predicate call is in S, if the predicate is. -/
def leads (cs : List Cl) (x y : Pd) : Prop := ∃ (n : Nat) (c : Cl), cs[n]? = some c ∧ hasK c x = true ∧ y ∈ calledS c.bs
def Closed (cs : List Cl) (S : Pd → Prop) : Prop := ∀ x y, S x → leads cs x y → S y
theorem addP_iff (acc : List Pd) (x y : Pd) : y ∈ addP acc x ↔ y ∈ acc ∨ y = x := by
  constructor
  · exact addP_mem acc x y
  · intro h
    unfold addP
    split
    · next hh =>
      rcases h with h | rfl
      · exact h
      · exact (hasP_iff _ _).1 hh
    · rcases h with h | rfl
      · exact List.mem_append_left _ h
      · simp
theorem foldP_iff (xs acc : List Pd) (y : Pd) : y ∈ xs.foldl addP acc ↔ y ∈ acc ∨ y ∈ xs := by
  induction xs generalizing acc with
  | nil => simp
  | cons a r ih =>
    rw [List.foldl_cons, ih, addP_iff]
    simp only [List.mem_cons]
    constructor
    · rintro ((h | h) | h)
      · exact .inl h
      · exact .inr (.inl h)
      · exact .inr (.inr h)
    · rintro (h | h | h)
      · exact .inl (.inl h)
      · exact .inl (.inr h)
      · exact .inr h
theorem addP_nodup {acc : List Pd} (x : Pd) (h : acc.Nodup) : (addP acc x).Nodup := by
  unfold addP
  split
  · exact h
  · next hh =>
    have hx : x ∉ acc := fun hm => hh ((hasP_iff _ _).2 hm)
    rw [List.nodup_append]
    exact ⟨h, by simp, fun a ha b hb => by simp at hb; rw [hb]; intro e; exact hx (e ▸ ha)⟩
theorem foldP_nodup (xs : List Pd) {acc : List Pd} (h : acc.Nodup) : (xs.foldl addP acc).Nodup := by
  induction xs generalizing acc with
  | nil => exact h
  | cons a r ih => exact ih (addP_nodup a h)
theorem addP_prefix (acc : List Pd) (x : Pd) (j : Nat) (h : j < acc.length) : (addP acc x)[j]? = acc[j]? := by
  unfold addP
  split
  · rfl
  · rw [List.getElem?_append_left h]
theorem addP_le (acc : List Pd) (x : Pd) : acc.length ≤ (addP acc x).length := by
  unfold addP; split <;> simp
theorem foldP_prefix (xs acc : List Pd) : acc.length ≤ (xs.foldl addP acc).length ∧ ∀ j, j < acc.length → (xs.foldl addP acc)[j]? = acc[j]? := by
  induction xs generalizing acc with
  | nil => exact ⟨Nat.le_refl _, fun _ _ => rfl⟩
  | cons a r ih =>
    obtain ⟨h1, h2⟩ := ih (addP acc a)
    have h3 := addP_le acc a
    exact ⟨Nat.le_trans h3 h1, fun j hj => (h2 j (by omega)).trans (addP_prefix acc a j hj)⟩
theorem nodup_le {α : Type} : ∀ (l u : List α), l.Nodup → (∀ x ∈ l, x ∈ u) → l.length ≤ u.length
  | [], _, _, _ => by simp
  | a :: r, u, hn, hs => by
    classical
    obtain ⟨s, t, rfl⟩ := List.append_of_mem (hs a (by simp))
    have hn' := List.nodup_cons.1 hn
    have := nodup_le r (s ++ t) hn'.2 (fun x hx => by
      have h := hs x (by simp [hx])
      rcases List.mem_append.1 h with h | h
      · exact List.mem_append_left _ h
      · rcases List.mem_cons.1 h with rfl | h
        · exact absurd hx hn'.1
        · exact List.mem_append_right _ h)
    simp at this ⊢
    omega
/-- All predicates that goals and clauses call. -/
def univ (cs : List Cl) (ls : List (List C)) : List Pd := calledS ls ++ cs.flatMap fun c => calledS c.bs
theorem univ_leads {cs : List Cl} {ls : List (List C)} : Closed cs (fun y => y ∈ univ cs ls) := by
  intro x y _ ⟨n, c, hc, _, hy⟩
  unfold univ
  refine List.mem_append_right _ ?_
  rw [List.mem_flatMap]
  exact ⟨c, List.mem_of_getElem? hc, hy⟩
theorem idxG_mem (cs : List Cl) (x : Pd) (z : Int) (k : Nat) (h : z ∈ idxG cs x k) : ∃ (n : Nat) (c : Cl), n < k ∧ z = (n : Int) ∧ cs[n]? = some c ∧ hasK c x = true := by
  induction k with
  | zero => simp [idxG] at h
  | succ k ih =>
    have e : idxG cs x (k + 1) = match cs[k]? with | some c => if hasK c x then idxG cs x k ++ [(k : Int)] else idxG cs x k | none => idxG cs x k := rfl
    rw [e] at h
    cases hq : cs[k]? with
    | none =>
      rw [hq] at h
      obtain ⟨n, c, h1, h2⟩ := ih h
      exact ⟨n, c, by omega, h2⟩
    | some d =>
      rw [hq] at h
      simp only at h
      split at h
      · next hd =>
        rcases List.mem_append.1 h with h | h
        · obtain ⟨n, c, h1, h2⟩ := ih h
          exact ⟨n, c, by omega, h2⟩
        · simp at h
          exact ⟨k, d, by omega, h, hq, hd⟩
      · obtain ⟨n, c, h1, h2⟩ := ih h
        exact ⟨n, c, by omega, h2⟩
theorem mem_idxG (cs : List Cl) (x : Pd) (n k : Nat) (c : Cl) (hn : n < k) (hc : cs[n]? = some c) (hk : hasK c x = true) : (n : Int) ∈ idxG cs x k := by
  induction k with
  | zero => omega
  | succ k ih =>
    have e : idxG cs x (k + 1) = match cs[k]? with | some c => if hasK c x then idxG cs x k ++ [(k : Int)] else idxG cs x k | none => idxG cs x k := rfl
    rw [e]
    by_cases h : n = k
    · subst h
      rw [hc]
      simp [hk]
    · have := ih (by omega)
      cases hq : cs[k]? with
      | none => exact this
      | some d =>
        simp only
        split
        · exact List.mem_append_left _ this
        · exact this
/-- Blocks from M to the end of w are as they were: a map of rows that lies there reads as it did. -/
theorem groups_seg {w w' : World} {M n : Nat} {D : DataW Unit} (h : w.ownsGroups (H := Unit) Tryz.prog 61 (M + 1) 3 .i64 M n D) (_hs : w.heap.size ≤ w'.heap.size) (he : ∀ k, M ≤ k → k < w.heap.size → w'.heap[k]? = w.heap[k]?) : w'.ownsGroups (H := Unit) Tryz.prog 61 (M + 1) 3 .i64 M n D := by
  have hints : ∀ v zs, w.ownsInts (M + 1) 3 .i64 v zs → w'.ownsInts (M + 1) 3 .i64 v zs := by
    intro v zs ⟨h1, h2⟩
    refine ⟨⟨h1.1, ?_⟩, h2⟩
    rcases h1.2 with h | ⟨g, cap, cur, e1, e2, e3, e4⟩
    · exact .inl h
    · exact .inr ⟨g, cap, cur, e1, e2, (he g (by omega) (Array.getElem?_eq_some_iff.1 e3).1).trans e3, e4⟩
  obtain ⟨es, clock, hb, F, hsz, rfl, hbb, hlen, hap⟩ := h
  have hblt : M < w.heap.size := (Array.getElem?_eq_some_iff.1 hb).1
  have hst : ∀ x ∈ es.toList, ∀ z, rowElem (H := Unit) w (M + 1) 3 .i64 x.val = some z → rowElem w' (M + 1) 3 .i64 x.val = some z := fun x _ z hz => by
    obtain ⟨zs, ho, rfl⟩ := rowElem_inv hz
    exact rowElem_mk (hints _ _ ho)
  obtain ⟨F1, hmap, _⟩ := F.stay hst
  refine ⟨es, clock, (he M (Nat.le_refl _) hblt).trans hb, F1, hsz, by rw [hmap], hbb, fun x hx zs ho => ?_, hap⟩
  obtain ⟨y, hy⟩ := F.reads x hx
  obtain ⟨z, hz, _⟩ := WideElems.rd_val hy
  obtain ⟨zs0, ho0, _⟩ := rowElem_inv hz
  rw [ho.unique (hints _ _ ho0)]
  exact hlen x hx zs0 ho0
end Go.Proofs.YtlfccjlifjppdaaGreatDoor
namespace Go.Proofs.YtlfccjlifjppdaaGreatDoor
open Go.RowKit
attribute [local go_sem ↓] Go.wp_at_zero Go.wp_at_succ
/-- What is known of the row as it grows: it holds what the goals call, no more than what is closed and holds that, each once. -/
structure Grows (cs : List Cl) (ls : List (List C)) (acc : List Pd) : Prop where
  goals : ∀ y ∈ calledS ls, y ∈ acc
  least : ∀ S : Pd → Prop, (∀ y ∈ calledS ls, S y) → Closed cs S → ∀ y ∈ acc, S y
  once : acc.Nodup
theorem Grows.len {cs : List Cl} {ls : List (List C)} {acc : List Pd} (h : Grows cs ls acc) : acc.length ≤ (univ cs ls).length :=
  nodup_le _ _ h.once (h.least _ (fun _ hy => List.mem_append_left _ hy) univ_leads)
theorem Grows.start (cs : List Cl) (ls : List (List C)) : Grows cs ls ((calledS ls).foldl addP []) := by
  refine ⟨fun y hy => (foldP_iff _ _ _).2 (.inr hy), fun S hS _ y hy => ?_, foldP_nodup _ (by simp)⟩
  rcases (foldP_iff _ _ _).1 hy with h | h
  · simp at h
  · exact hS y h
theorem Grows.add {cs : List Cl} {ls : List (List C)} {acc : List Pd} (h : Grows cs ls acc) {x : Pd} {n : Nat} {c : Cl} (hx : x ∈ acc) (hc : cs[n]? = some c) (hk : hasK c x = true) : Grows cs ls ((calledS c.bs).foldl addP acc) := by
  refine ⟨fun y hy => (foldP_iff _ _ _).2 (.inl (h.goals y hy)), fun S hS hC y hy => ?_, foldP_nodup _ h.once⟩
  rcases (foldP_iff _ _ _).1 hy with hy | hy
  · exact h.least S hS hC y hy
  · exact hC x y (h.least S hS hC x hx) ⟨n, c, hc, hk, hy⟩
/-- The first k predicates of the row are done: what they lead to is there. -/
def Done (cs : List Cl) (acc : List Pd) (k : Nat) : Prop := ∀ j x, j < k → acc[j]? = some x → ∀ y, leads cs x y → y ∈ acc
/-- .. and of predicate x the first j of its clauses. -/
def Half (cs : List Cl) (acc : List Pd) (x : Pd) (j : Nat) : Prop := ∀ i z, i < j → (idxG cs x cs.length)[i]? = some z → ∀ c, cs[z.toNat]? = some c → ∀ y ∈ calledS c.bs, y ∈ acc
theorem Done.mono {cs : List Cl} {acc : List Pd} {k : Nat} (h : Done cs acc k) (hk : k ≤ acc.length) (xs : List Pd) : Done cs (xs.foldl addP acc) k := by
  intro j x hj hx y hl
  rw [(foldP_prefix xs acc).2 j (by omega)] at hx
  exact (foldP_iff _ _ _).2 (.inl (h j x hj hx y hl))
theorem Half.mono {cs : List Cl} {acc : List Pd} {x : Pd} {j : Nat} (h : Half cs acc x j) {c : Cl} {z : Int} (hz : (idxG cs x cs.length)[j]? = some z) (hc : cs[z.toNat]? = some c) : Half cs ((calledS c.bs).foldl addP acc) x (j + 1) := by
  intro i z' hi hz' c' hc' y hy
  by_cases hij : i = j
  · subst hij
    rw [hz] at hz'; cases hz'
    rw [hc] at hc'; cases hc'
    exact (foldP_iff _ _ _).2 (.inr hy)
  · exact (foldP_iff _ _ _).2 (.inl (h i z' (by omega) hz' c' hc' y hy))
theorem Done.next {cs : List Cl} {acc : List Pd} {k : Nat} {x : Pd} (h : Done cs acc k) (hx : acc[k]? = some x) (hh : Half cs acc x (idxG cs x cs.length).length) : Done cs acc (k + 1) := by
  intro j x' hj hx' y hl
  by_cases hjk : j = k
  · subst hjk
    rw [hx] at hx'; cases hx'
    obtain ⟨n, c, hc, hk, hy⟩ := hl
    have hn : n < cs.length := (List.getElem?_eq_some_iff.1 hc).1
    obtain ⟨i, hi, he⟩ := List.getElem_of_mem (mem_idxG cs x n cs.length c hn hc hk)
    refine hh i (n : Int) hi (by rw [List.getElem?_eq_getElem hi, he]) c ?_ y hy
    simpa using hc
  · exact h j x' (by omega) hx' y hl
/-- The row, and the map of clauses beside it. -/
structure RS (w0 w : World) (base R m M : Nat) (lv : Value) (acc : List Pd) : Prop where
  row : RowSt w base R m lv acc
  size : w0.heap.size ≤ w.heap.size
  seg : ∀ k, M ≤ k → k < w0.heap.size → w.heap[k]? = w0.heap[k]? ∧ lv.ownBlock ≠ some k
  mR : R < M ∧ m < M
theorem RS.below {w0 w w' : World} {base R m M : Nat} {lv : Value} {acc : List Pd} (h : RS w0 w base R m M lv acc) (hb : Below w.heap.size w w') : RS w0 w' base R m M lv acc :=
  ⟨h.row.below hb, Nat.le_trans h.size hb.size, fun k h1 h2 => ⟨(hb.block k (Nat.lt_of_lt_of_le h2 h.size)).trans (h.seg k h1 h2).1, (h.seg k h1 h2).2⟩, h.mR⟩
/-- row.add of what a body calls, with the map of clauses beside. -/
theorem k39_rs (xs acc : List Pd) (lv : Value) (base R m M : Nat) (w0 w : World) (u : Value) (wb : World) (h : RS w0 wb base R m M lv acc) (hO : w.ownsRow wb.heap.size 61 2 u xs.length (flatP xs)) (hb : Below wb.heap.size wb w) (hx : ∀ y ∈ xs, wfP y) (hn : acc.length + xs.length ≤ 5864062014805) (hbase : base ≤ wb.heap.size) :
    Calls Tryz.prog 39 #[.pointer (some ⟨R, 0, none⟩), u] w fun e w' => e = .returned (.tuple #[]) ∧ (∃ lv', RS w0 w' base R m M lv' (xs.foldl addP acc)) ∧ Below base w w' := by
  have hRS := h.below hb
  have hml : m < wb.heap.size := by
    obtain ⟨es, ck, hh, _⟩ := h.row.2.2.2.2.1
    exact (Array.getElem?_eq_some_iff.1 hh).1
  have hRl : R < wb.heap.size := (Array.getElem?_eq_some_iff.1 h.row.1).1
  have hsz := hb.size
  rcases hO.2 with ⟨h1, h2⟩ | ⟨g, cap, cur, h1, h2, h3, h4, h5, h6, h7⟩
  · have hxs : xs = [] := List.eq_nil_of_length_eq_zero h2
    subst h1 hxs
    refine (k39_on_nil acc lv base R m none 0 w hRS.row).mono ?_
    rintro e w' ⟨rfl, rfl⟩
    exact ⟨rfl, ⟨lv, hRS⟩, Below.refl _ _⟩
  · subst h1
    have hg : g < w.heap.size := (Array.getElem?_eq_some_iff.1 h3).1
    have hlg : lv.ownBlock ≠ some g := fun e => by have := (h.row.2.2.2.1.lt g e).2; omega
    refine (k39_onF xs acc lv base R m g 0 cap w hRS.row (range_of_owns h3 h7) hg (by omega) (by omega) hlg hx hn (by omega)).mono ?_
    rintro e w' ⟨rfl, ⟨lv', hS, hF⟩, hb'⟩
    refine ⟨rfl, ⟨lv', hS, Nat.le_trans hRS.size hb'.size, fun k k1 k2 => ?_, h.mR⟩, hb'⟩
    obtain ⟨s1, s2⟩ := hRS.seg k k1 k2
    have hmR := h.mR
    obtain ⟨f1, f2⟩ := hF k (Nat.lt_of_lt_of_le k2 hRS.size) (by omega) (by omega) s2
    exact ⟨f1.trans s1, f2⟩
end Go.Proofs.YtlfccjlifjppdaaGreatDoor
namespace Go.Proofs.YtlfccjlifjppdaaGreatDoor
open Go.RowKit
attribute [local go_sem ↓] Go.wp_at_zero Go.wp_at_succ
theorem flatMap_le {α β : Type} (f : α → List β) : ∀ (l : List α) (x : α), x ∈ l → (f x).length ≤ (l.flatMap f).length
  | [], _, h => by simp at h
  | a :: r, x, h => by
    rcases List.mem_cons.1 h with rfl | h
    · simp
    · have := flatMap_le f r x h
      rw [List.flatMap_cons, List.length_append]
      omega
theorem called_univ {cs : List Cl} {ls : List (List C)} {c : Cl} (h : c ∈ cs) : (calledS c.bs).length ≤ (univ cs ls).length := by
  unfold univ
  rw [List.length_append]
  have := flatMap_le (fun c : Cl => calledS c.bs) cs c h
  omega
theorem k39_first (xs : List Pd) (base R : Nat) (w wb : World) (u : Value) (hR0 : wb.heap[R]? = some (.cells #[.slice none 0 0, .map none] 90 (0, 0))) (hbR : base ≤ R) (hO : w.ownsRow wb.heap.size 61 2 u xs.length (flatP xs)) (hb : Below wb.heap.size wb w) (hx : ∀ y ∈ xs, wfP y) (hn : xs.length ≤ 5864062014805) (_hbase : base ≤ wb.heap.size) :
    Calls Tryz.prog 39 #[.pointer (some ⟨R, 0, none⟩), u] w fun e w' => e = .returned (.tuple #[]) ∧ (∃ m lv', RowSt w' base R m lv' (xs.foldl addP [])) ∧ Below base w w' := by
  have hRl : R < wb.heap.size := (Array.getElem?_eq_some_iff.1 hR0).1
  have hR1 : w.heap[R]? = some (.cells #[.slice none 0 0, .map none] 90 (0, 0)) := (hb.block R hRl).trans hR0
  have hsz := hb.size
  rcases hO.2 with ⟨h1, h2⟩ | ⟨g, cap, cur, h1, h2, h3, h4, h5, h6, h7⟩
  · have hxs : xs = [] := List.eq_nil_of_length_eq_zero h2
    subst h1 hxs
    exact k39_new_nil base R none 0 w hR1 hbR (by omega)
  · subst h1
    exact k39_new xs base R g 0 cap w hR1 hbR (range_of_owns h3 h7) (Array.getElem?_eq_some_iff.1 h3).1 (by omega) hx hn (by omega)
end Go.Proofs.YtlfccjlifjppdaaGreatDoor
namespace Go.Proofs.YtlfccjlifjppdaaGreatDoor
open Go.ChangeShapes Go.WideShapes Go.ChangeAt Go.RowKit Go.Joins Go.Deep Go.Proofs.YtlfccjlifjppdaaGreatDoor.Laid
theorem bulk_pos {H : Type} (d : DataW H) : 1 ≤ Rows.uptoBulk d := by
  cases d with
  | lit x => cases x <;> simp [Rows.uptoBulk]
  | _ => simp [Rows.uptoBulk]
theorem bulkAll_len {H : Type} : ∀ ds : List (DataW H), ds.length ≤ Rows.uptoBulkAll ds
  | [] => by simp
  | d :: r => by
    have h1 := bulk_pos d
    have h2 := bulkAll_len r
    simp only [Rows.uptoBulkAll, List.length_cons]
    omega
section
variable {H : Type} {enc : TypeId × Value → H} {w : World} {base : Nat} {sp : Nat → Bool} {held : Bool}
theorem row_bulk {fuel : Nat} {v : Value} {x : DataW H × List MemPlace} {ls : List (List C)}
    (h : DataW.trod enc Tryz.prog w base (fun _ => true) held fuel 32 [v] = some x) (hR : RowAt w v ls) : ls.length ≤ Rows.uptoBulk x.1 := by
  obtain ⟨ad, cp, hf⟩ := hR.form
  rcases open_slice Tryz.underlying32 h with ⟨hcs, hx⟩ | ⟨a, len, cap, m, n, D, Pl, hcs, _, hl, hmx, hm, hx, hel⟩
  · simp only [List.cons.injEq, and_true] at hcs
    rw [hf] at hcs
    simp at hcs
    rw [hcs.2.1]
    simp
  · simp only [List.cons.injEq, and_true] at hcs
    rw [hf] at hcs
    simp at hcs
    rw [hx]
    simp only [Rows.uptoBulk]
    have := bulkAll_len ((List.range len).map D)
    simp only [List.length_map, List.length_range] at this
    omega
/-- All goals of all bodies. -/
def goals (cs : List Cl) : Nat := (cs.map fun c => c.bs.length).sum
theorem goals_bulk : ∀ (cs : List Cl) (D : Nat → DataW H), (∀ i (hi : i < cs.length), cs[i].bs.length ≤ Rows.uptoBulk (D i)) → goals cs ≤ Rows.uptoBulkAll ((List.range cs.length).map D)
  | [], _, _ => by simp [goals]
  | a :: r, D, h => by
    have h1 := h 0 (by simp)
    have h2 := goals_bulk r (fun i => D (i + 1)) (fun i hi => by have := h (i + 1) (by simpa using hi); simpa using this)
    rw [List.length_cons, List.range_succ_eq_map, List.map_cons, List.map_map]
    simp only [Rows.uptoBulkAll, goals, List.map_cons, List.sum_cons] at *
    have e : List.map (D ∘ Nat.succ) (List.range r.length) = List.map (fun i => D (i + 1)) (List.range r.length) := rfl
    rw [e]
    simp at h1
    omega
theorem prog_bulk {fuel : Nat} {v : Value} {x : DataW H × List MemPlace} {cs : List Cl}
    (h : DataW.trod enc Tryz.prog w base (fun _ => true) held fuel 23 [v] = some x) (hP : ProgAt w v cs) : goals cs ≤ Rows.uptoBulk x.1 := by
  obtain ⟨_, hP⟩ := hP
  rcases hP with ⟨rfl, _⟩ | ⟨b, o, cp, xs, hf, _, _, hb, hxl, hr, hC⟩
  · simp [goals]
  rcases open_slice Tryz.underlying23 h with ⟨hcs, hx⟩ | ⟨a, len, cap, m, n, D, Pl, hcs, _, hl, hmx, hm, hx, hel⟩
  · simp only [List.cons.injEq, and_true] at hcs
    rw [hf] at hcs
    cases hcs
  · simp only [List.cons.injEq, and_true] at hcs
    rw [hf] at hcs
    simp only [Value.slice.injEq, Option.some.injEq] at hcs
    obtain ⟨rfl, rfl, rfl⟩ := hcs
    simp only [if_true] at hm
    subst hm
    rw [cells38] at hel
    rw [hx]
    simp only [Rows.uptoBulk]
    have h3 := goals_bulk cs D (fun i hi => by
      obtain ⟨ks, h1, h2⟩ := hel i (by omega)
      obtain ⟨y0, y1, y2, y3, n', hxx, hlk, g0, g1, g2, g3⟩ := trod_struct4 Tryz.underlying66 h2
      rw [cells38] at hlk
      obtain ⟨k0, k1, k2, k3, rfl⟩ := list4 hlk
      simp only [cells36, List.drop_zero, List.drop_succ_cons, List.take_succ_cons, List.take_zero] at g2
      have h3 := (World.cells?_some h1).2.2 2 (by omega)
      obtain ⟨_, _, p2, _⟩ := clause_cells hr i (by omega)
      rw [Addr.add_mid, Addr.add_mid, p2] at h3
      simp at h3
      rw [← h3] at g2
      have hc := hC i xs[i] cs[i] (List.getElem?_eq_getElem (by omega)) (List.getElem?_eq_getElem hi)
      have h4 := row_bulk g2 hc.2.2.1
      have h5 : D i = .agg [y0.1, y1.1, y2.1, y3.1] := congrArg Prod.fst hxx
      rw [h5]
      simp only [Rows.uptoBulk, Rows.uptoBulkAll]
      omega)
    omega
end
theorem univ_goals (cs : List Cl) (ls : List (List C)) : (univ cs ls).length ≤ ls.length + goals cs := by
  unfold univ
  rw [List.length_append]
  have h1 := calledS_len ls
  have h2 : (cs.flatMap fun c => calledS c.bs).length ≤ goals cs := by
    induction cs with
    | nil => simp
    | cons a r ih =>
      have h3 := calledS_len a.bs
      rw [List.flatMap_cons, List.length_append]
      simp only [goals, List.map_cons, List.sum_cons] at *
      omega
  omega
end Go.Proofs.YtlfccjlifjppdaaGreatDoor
namespace Go.Proofs.YtlfccjlifjppdaaGreatDoor
open Go.RowKit
attribute [local go_sem ↓] Go.wp_at_zero Go.wp_at_succ
set_option maxHeartbeats 1000000 in
theorem c43_nil (ad : Option Addr) (a b : Int) (w : World) :
    Calls Tryz.prog 96 #[.slice ad 0 0, .agg #[.int .i64 a, .int .i64 b]] w fun e w' => e = .returned (.bool false) ∧ Below w.heap.size w w' := by
  go_enter Tryz.func96, Tryz.ntmps96
  go_wp2_with fail
  refine wp_loop_rounds 1 ?_
  rw [rounds_succ]
  go_wp2_with fail
  go_ret
  exact ⟨rfl, below_alloc _ _⟩
set_option maxHeartbeats 2000000 in
theorem c43_in (l : List Nm) (b1 o1 c1 : Nat) (x : Nm) (w : World) (hr1 : w.rangeAt b1 o1 (flatN l)) (hc : l.length ≤ maxLen) (hb1 : b1 < w.heap.size) :
    Calls Tryz.prog 96 #[.slice (some ⟨b1, o1, none⟩) l.length c1, .agg #[.int .i64 x.1, .int .i64 x.2]] w fun e w' => e = .returned (.bool (hasN l x)) ∧ Below w.heap.size w w' := by
  unfold maxLen at hc
  have HR1 : Hid (w.rangeAt b1 o1 (flatN l)) := hr1
  have hB0 : ∀ o : Obj, Hid (Below w.heap.size w (w.alloc o)) := fun o => below_alloc w o
  have hP := Pair.new w 80 x.1 x.2
  clear hr1
  go_enter Tryz.func96, Tryz.ntmps96
  go_wp2_with fail
  go_loopw [5] (fun i wr => ∃ k : Nat, k ≤ l.length ∧ i = .int .i64 k ∧ Hid (hasN (l.take k) x = false) ∧ Hid (Pair wr w.heap.size 80 x.1 x.2) ∧ Below w.heap.size w wr) (fun i _ => l.length - (intOf i).toNat)
  case atStart => exact ⟨0, by omega, rfl, rfl, hP, (hB0 _).out⟩
  case round =>
    obtain ⟨k, hk, rfl, HU, HP, hbr⟩ := hrel
    by_cases hlt : k < l.length
    · have hlt' : (k : Int) < (l.length : Int) := by omega
      have hk0 : (0 : Int) ≤ (k : Int) := by omega
      obtain ⟨p0, p1⟩ := name_cells (range_below HR1.out hb1 hbr) k hlt
      have q0 := HP.out.cell0
      have q1 := HP.out.cell1
      have hN := eql23b l[k].1 l[k].2 x.1 x.2
      have e1 : (l[k].1 == x.1 && l[k].2 == x.2) = eqN l[k] x := rfl
      rw [e1] at hN
      clear e1
      have hPd : ∀ n, Hid (Pair (wr.drewN n) w.heap.size 80 x.1 x.2) := fun n => HP.out
      cases hq : eqN l[k] x
      · have hU : Hid (hasN (l.take (k + 1)) x = false) := by
          show hasN (l.take (k + 1)) x = false
          unfold hasN at *
          rw [List.take_succ_eq_append_getElem hlt, List.any_append, HU.out]; simp [hq]
        rw [hq] at hN
        clear hq
        go_wp2_with fail
        go_quiet (fail)
        go_wp2_with fail
        go_roundw
        case rel => exact ⟨k + 1, by omega, by go_num, hU, hPd _, below_drewN hbr _⟩
        case measure => simp [intOf]; omega
      · have hF : Hid (hasN l x = true) := by
          show hasN l x = true
          unfold hasN
          rw [List.any_eq_true]
          exact ⟨l[k], List.getElem_mem _, hq⟩
        rw [hq] at hN
        clear hq
        go_wp2_with fail
        go_quiet (fail)
        go_wp2_with fail
        go_ret
        exact ⟨by rw [hF.out]; rfl, below_drewN hbr _⟩
    · have hF : Hid (hasN l x = false) := by
        have h := HU.out; rw [List.take_of_length_le (by omega)] at h; exact h
      have hlt' : ¬ ((k : Int) < (l.length : Int)) := by omega
      go_wp2_with fail
      go_ret
      exact ⟨by rw [hF.out]; rfl, hbr⟩
theorem c43 (l : List Nm) (v : Value) (x : Nm) (w : World) (h : NamesAt w v l) :
    Calls Tryz.prog 96 #[v, .agg #[.int .i64 x.1, .int .i64 x.2]] w fun e w' => e = .returned (.bool (hasN l x)) ∧ Below w.heap.size w w' := by
  obtain ⟨hc, h⟩ := h
  rcases h with ⟨rfl, ad, rfl⟩ | ⟨b, o, cap, rfl, h3, h4⟩
  · exact c43_nil ad x.1 x.2 w
  · exact c43_in l b o cap x w h3 hc h4
set_option maxHeartbeats 1000000 in
theorem c35_nil (ad : Option Addr) (w : World) :
    Calls Tryz.prog 97 #[.slice ad 0 0] w fun e w' => e = .returned (.slice none 0 0) ∧ Below w.heap.size w w' := by
  go_enter Tryz.func97, Tryz.ntmps97
  go_wp2_with fail
  refine wp_loop_rounds 1 ?_
  rw [rounds_succ]
  go_wp2_with fail
  go_ret
  exact ⟨rfl, Below.refl _ _⟩
set_option maxRecDepth 100000 in
set_option maxHeartbeats 4000000 in
theorem c35_in (ls : List (List C)) (b o cap : Nat) (vs : List Value) (w : World) (hb : b < w.heap.size) (hc : ls.length ≤ maxLen) (hvl : vs.length = ls.length) (hr : w.rangeAt b o vs) (ht : ∀ (i : Nat) (u : Value) (x : List C), vs[i]? = some u → ls[i]? = some x → TermAt w u x) (hT : (varsAll ls).length ≤ 1000000000000) :
    Calls Tryz.prog 97 #[.slice (some ⟨b, o, none⟩) ls.length cap] w fun e w' => ∃ u, e = .returned u ∧ OwnN w' w.heap.size u (nubN (varsAll ls)) ∧ Below w.heap.size w w' := by
  unfold maxLen at hc
  have HR : Hid (w.rangeAt b o vs) := hr
  have HT : Hid (∀ (i : Nat) (u : Value) (x : List C), vs[i]? = some u → ls[i]? = some x → TermAt w u x) := ht
  have HV : Hid (vs.length = ls.length) := hvl
  obtain ⟨i0, hi, hz, hs, hby⟩ := info23
  clear hr ht hvl
  go_enter Tryz.func97, Tryz.ntmps97
  go_wp2_with fail
  go_loopw [3, 4] (fun out i wr => ∃ k : Nat, k ≤ ls.length ∧ i = .int .i64 k ∧ Hid (OwnN wr w.heap.size out (nubN (varsAll (ls.take k)))) ∧ Below w.heap.size w wr) (fun _ i _ => ls.length - (intOf i).toNat)
  case atStart => exact ⟨0, Nat.zero_le _, rfl, World.ownsRow_nil _ _ _ _, Below.refl _ _⟩
  case round =>
    obtain ⟨k, hk, rfl, hown, hbr⟩ := hrel
    by_cases hlt : k < ls.length
    · have hlt' : (k : Int) < (ls.length : Int) := by omega
      have hkv : k < vs.length := by rw [HV.out]; exact hlt
      have htm := HT.out k _ _ (List.getElem?_eq_getElem hkv) (List.getElem?_eq_getElem hlt)
      obtain ⟨ak, ck, hfk⟩ := htm.form
      have hl63 : ls[k].length ≤ 2 ^ 63 - 1 := htm.1.1
      have HTA : Hid (TermAt w vs[k] ls[k]) := htm
      have HP : Hid (∀ wr, Below w.heap.size w wr → wr.cell? ⟨b, o + k, none⟩ = some (.slice ak ls[k].length ck)) := fun wr h => by
        have := row_cell (range_below HR.out hb h) k hkv
        rw [this, hfk]
      rw [hfk] at HTA
      clear htm hfk
      go_wp2_with fail
      go_loopw [3, 5] (fun out i wr => ∃ j : Nat, j ≤ ls[k].length ∧ i = .int .i64 j ∧ Hid (OwnN wr w.heap.size out (metN ls k j)) ∧ Below w.heap.size w wr) (fun _ i _ => ls[k].length - (intOf i).toNat)
      case atStart => exact ⟨0, Nat.zero_le _, rfl, by show OwnN _ _ _ _; rw [metN_zero]; exact hown.out, hbr⟩
      case round =>
        obtain ⟨j, hj, rfl, hown2, hbr2⟩ := hrel
        have p0 := HP.out wr hbr2
        have hsz := hbr2.size
        by_cases hltj : j < ls[k].length
        · have hltj' : (j : Int) < (ls[k].length : Int) := by omega
          obtain ⟨_, hta2⟩ := HTA.out
          rcases hta2 with ⟨hnil, _⟩ | ⟨bk, ok, ck2, hf, _, _, hrk, hbk⟩
          · rw [hnil] at hltj; simp at hltj
          simp only [Value.slice.injEq, true_and] at hf
          obtain ⟨hf1, hf2⟩ := hf
          subst hf1 hf2
          obtain ⟨q0, q1, q2, q3, q4⟩ := term_cells (range_below hrk hbk hbr2) j hltj
          have hml := metN_len ls k j hlt
          clear hrk
          cases h4 : (ls[k][j].k == 4)
          · have hE : Hid (metN ls k (j + 1) = metN ls k j) := metN_no ls k j hlt hltj h4
            go_wp2_with fail
            go_roundw
            case rel => exact ⟨j + 1, by omega, by go_num, by show OwnN _ _ _ _; rw [hE.out]; exact hown2.out.alloc _, hbr2.alloc hsz _⟩
            case measure => simp [intOf]; omega
          · have hE0 := metN_yes ls k j hlt hltj h4
            have H43 := fun ob => c43 (metN ls k j) _ (ls[k][j].vn, ls[k][j].vk) (wr.alloc ob) ((namesAt_of_owns hown2.out (by unfold maxLen; omega)).below (below_alloc _ ob))
            dsimp only at H43
            cases hh : hasN (metN ls k j) (ls[k][j].vn, ls[k][j].vk)
            · have hE : Hid (metN ls k (j + 1) = metN ls k j ++ [(ls[k][j].vn, ls[k][j].vk)]) := by
                show metN ls k (j + 1) = _
                rw [hE0]; unfold addN; rw [hh]; rfl
              rw [hh] at H43
              have H43 : Hid (∀ ob, _) := H43
              clear hE0 hh
              go_wp2_with fail
              refine (H43.out _).mono ?_
              rintro e w2 ⟨rfl, hb2⟩
              obtain ⟨hcc, hff⟩ := bcell hb2
              have hz2 : wr.heap.size < w2.heap.size := by have := hb2.size; simp at this; omega
              have hw2 : Hid (Below w.heap.size w w2) := (hbr2.alloc hsz _).trans (hb2.mono (by simp; omega))
              have hown3 : Hid (OwnN w2 w.heap.size _ (metN ls k j)) := owns_below (hown2.out.alloc _) hb2
              have hnews := newsN_new w2 (ls[k][j].vn, ls[k][j].vk)
              have hnews : Hid (∀ j' u, (flatN [(ls[k][j].vn, ls[k][j].vk)])[j']? = some u → (w2.alloc (.cells #[.int .i64 ls[k][j].vn, .int .i64 ls[k][j].vk] 80)).cell? ((⟨w2.heap.size, 0, none⟩ : Addr).add j') = some u) := hnews
              have hlen : Hid ((flatN [(ls[k][j].vn, ls[k][j].vk)]).length = 1 * 2) := rfl
              go_wp2_with (at_builtin; refine wpList_append_own _ rfl _ _ 105 rfl w.heap.size 80 i0 (.agg #[.int .i64 0, .int .i64 0]) 2 16 Tryz.underlying105 hi hz hs hby rfl (by decide) _ _ _ rfl (hown3.out.alloc _) ⟨w2.heap.size, 0, none⟩ 1 1 (flatN [(ls[k][j].vn, ls[k][j].vk)]) rfl hlen.out hnews.out (flatN_one _) (by unfold maxLen; omega) (by omega) (by simp; omega) ?_)
              intro v' w3 hown' hgrow hnil
              have hown4 : Hid (OwnN w3 w.heap.size v' (metN ls k (j + 1))) := by
                show w3.ownsRow w.heap.size 80 2 v' _ _
                rw [hE.out, flatN_append, List.length_append]; exact hown'
              have hbr3 : Hid (Below w.heap.size w w3) := (hw2.out.alloc (by omega) _).grown hgrow (by simp; omega) (fun g hg => (hown3.out.lt g hg).1)
              clear hgrow hnil
              go_wp2_with fail
              go_roundw
              case rel => exact ⟨j + 1, by omega, by go_num, hown4, hbr3.out⟩
              case measure => simp [intOf]; omega
            · have hE : Hid (metN ls k (j + 1) = metN ls k j) := by
                show metN ls k (j + 1) = _
                rw [hE0]; unfold addN; rw [hh]; rfl
              rw [hh] at H43
              have H43 : Hid (∀ ob, _) := H43
              clear hE0 hh
              go_wp2_with fail
              refine (H43.out _).mono ?_
              rintro e w2 ⟨rfl, hb2⟩
              have hw2 : Hid (Below w.heap.size w w2) := (hbr2.alloc hsz _).trans (hb2.mono (by simp; omega))
              have hown3 : Hid (OwnN w2 w.heap.size _ (metN ls k j)) := owns_below (hown2.out.alloc _) hb2
              go_wp2_with fail
              go_roundw
              case rel => exact ⟨j + 1, by omega, by go_num, by show OwnN _ _ _ _; rw [hE.out]; exact hown3.out, hw2.out⟩
              case measure => simp [intOf]; omega
        · have hlt2 : ¬ ((j : Int) < (ls[k].length : Int)) := by omega
          have hE : Hid (metN ls k j = nubN (varsAll (ls.take (k + 1)))) := metN_end ls k j hlt (by omega)
          go_wp2_with fail
          go_roundw
          case rel => exact ⟨k + 1, by omega, by go_num, by show OwnN _ _ _ _; rw [← hE.out]; exact hown2.out, hbr2⟩
          case measure => simp [intOf]; omega
    · have hlt' : ¬ ((k : Int) < (ls.length : Int)) := by omega
      rw [List.take_of_length_le (by omega)] at hown
      go_wp2_with fail
      go_ret
      exact ⟨_, rfl, hown.out, hbr⟩
theorem c35 (ls : List (List C)) (v : Value) (w : World) (h : RowAt w v ls) (hT : (varsAll ls).length ≤ 1000000000000) :
    Calls Tryz.prog 97 #[v] w fun e w' => ∃ u, e = .returned u ∧ OwnN w' w.heap.size u (nubN (varsAll ls)) ∧ Below w.heap.size w w' := by
  obtain ⟨hc, h⟩ := h
  rcases h with ⟨rfl, ad, rfl⟩ | ⟨b, o, cap, vs, rfl, h2, h3, h4, h5, h6, h7⟩
  · exact (c35_nil ad w).mono fun e w' ⟨h1, h2⟩ => ⟨_, h1, World.ownsRow_nil _ _ _ _, h2⟩
  · exact c35_in ls b o cap vs w h4 hc h5 h6 h7 hT
set_option maxHeartbeats 1000000 in
theorem c42 (l : List C) (v : Value) (w : World) (h : TermAt w v l) (hT : l.length ≤ 1000000000000) :
    Calls Tryz.prog 70 #[v] w fun e w' => ∃ u, e = .returned u ∧ OwnN w' w.heap.size u (nubN (varsOf l)) ∧ Below w.heap.size w w' := by
  have hvl : (varsAll [l]).length ≤ 1000000000000 := by
    have : (varsOf l).length ≤ l.length := by unfold varsOf; rw [List.length_map]; exact List.length_filter_le _ _
    simp [varsAll]; omega
  have hva : varsAll [l] = varsOf l := by simp [varsAll]
  have H35 := c35 [l] _ _ (row_one w v l h) hvl
  rw [hva] at H35
  obtain ⟨ad, cap, hf⟩ := h.form
  have hl63 : l.length ≤ 2 ^ 63 - 1 := h.1.1
  rw [hf] at H35
  rw [hf]
  clear h hf hva hvl
  go_enter Tryz.func70, Tryz.ntmps70
  go_wp2_with fail
  refine H35.mono ?_
  rintro e w' ⟨u, rfl, hO, hb⟩
  obtain ⟨g, c2, rfl⟩ := owns_form hO
  have HO : Hid _ := hO
  clear hO
  go_wp2_with fail
  go_ret
  refine ⟨_, rfl, ⟨HO.out.1, ?_⟩, (below_alloc w _).trans (hb.mono (by simp))⟩
  rcases HO.out.2 with h | ⟨g', cap', cur, h1, h2, h3⟩
  · exact .inl h
  · exact .inr ⟨g', cap', cur, h1, by simp at h2; omega, h3⟩
end Go.Proofs.YtlfccjlifjppdaaGreatDoor
