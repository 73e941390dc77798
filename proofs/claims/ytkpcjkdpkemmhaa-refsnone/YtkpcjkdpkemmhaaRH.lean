/- Contracts of no table; of the statement on it. -/
import Derived.Test.YtkpcjkdpkemmhaaRG
namespace Go.Proofs.Ytkpcjkdpkemmhaa
open Go.RowKit
attribute [local go_sem ↓] Go.wp_at_zero Go.wp_at_succ
set_option maxRecDepth 100000 in
theorem r29_nil (w : World) : Calls Try.prog 29 #[.pointer none] w fun e w' => e = .returned (.tuple #[.int .i64 0, .int .i64 0]) ∧ w' = w := by
  go_enter Try.func29, Try.ntmps29
  go_wp2_with fail
  go_ret2
  exact ⟨rfl, rfl⟩
set_option maxRecDepth 100000 in
theorem r19_nil (k : Int) (v : Value) (w : World) : Calls Try.prog 19 #[.pointer none, .int .i64 k, v] w fun e w' => e = .returned (.int .i64 1) ∧ w' = w := by
  go_enter Try.func19, Try.ntmps19
  go_wp2_with fail
  go_ret
  exact ⟨rfl, rfl⟩
set_option maxRecDepth 100000 in
theorem r30_nil (x1 x2 k : Int) (w : World) : Calls Try.prog 30 #[.pointer none, .agg #[.int .i64 x1, .int .i64 x2], .int .i64 k] w fun e w' => e = .returned (.int .i64 1) ∧ Below w.heap.size w w' := by
  go_enter Try.func30, Try.ntmps30
  go_wp2_with fail
  go_ret
  exact ⟨rfl, (Below.refl _ w).alloc (Nat.le_refl _) _⟩
set_option maxRecDepth 100000 in
theorem r21_nil (x1 x2 k j : Int) (w : World) : Calls Try.prog 21 #[.pointer none, .agg #[.int .i64 x1, .int .i64 x2], .int .i64 k, .int .i64 j] w fun e w' => e = .returned (.int .i64 1) ∧ Below w.heap.size w w' := by
  go_enter Try.func21, Try.ntmps21
  go_wp2_with fail
  go_ret
  exact ⟨rfl, (Below.refl _ w).alloc (Nat.le_refl _) _⟩
set_option maxRecDepth 100000 in
theorem r22_nil (v : Value) (w : World) : Calls Try.prog 22 #[.pointer none, v] w fun e w' => e = .returned (.int .i64 1) ∧ w' = w := by
  go_enter Try.func22, Try.ntmps22
  go_wp2_with fail
  go_ret
  exact ⟨rfl, rfl⟩
set_option maxRecDepth 100000 in
theorem r23_nil (x1 x2 : Int) (w : World) : Calls Try.prog 23 #[.pointer none, .agg #[.int .i64 x1, .int .i64 x2]] w fun e w' => e = .returned (.int .i64 0) ∧ Below w.heap.size w w' := by
  go_enter Try.func23, Try.ntmps23
  go_wp2_with fail
  go_ret
  exact ⟨rfl, (Below.refl _ w).alloc (Nat.le_refl _) _⟩
set_option maxRecDepth 100000 in
theorem r20_nil (x1 x2 : Int) (w : World) : Calls Try.prog 20 #[.pointer none, .agg #[.int .i64 x1, .int .i64 x2]] w fun e w' => e = .returned (.bool false) ∧ Below w.heap.size w w' := by
  go_enter Try.func20, Try.ntmps20
  go_wp2_with fail
  go_ret
  exact ⟨rfl, (Below.refl _ w).alloc (Nat.le_refl _) _⟩
set_option maxRecDepth 100000 in
theorem r18_nil (w : World) : Calls Try.prog 18 #[.pointer none] w fun e w' => e = .returned (.slice none 0 0) ∧ w' = w := by
  go_enter Try.func18, Try.ntmps18
  go_wp2_with fail
  go_ret
  exact ⟨rfl, rfl⟩
set_option maxRecDepth 100000 in
theorem r25_nil (w : World) : Calls Try.prog 25 #[.pointer none] w fun e w' => e = .returned (.slice none 0 0) ∧ w' = w := by
  go_enter Try.func25, Try.ntmps25
  go_wp2_with fail
  go_ret
  exact ⟨rfl, rfl⟩
set_option maxRecDepth 100000 in
theorem r12_nil (w : World) : Calls Try.prog 12 #[.pointer none] w fun e w' => e = .returned (.pointer none) ∧ w' = w := by
  go_enter Try.func12, Try.ntmps12
  go_wp2_with fail
  go_ret
  exact ⟨rfl, rfl⟩
set_option maxRecDepth 100000 in
theorem r24_nil (x1 x2 : Int) (w : World) : Calls Try.prog 24 #[.pointer none, .agg #[.int .i64 x1, .int .i64 x2]] w fun e w' => e = .returned (.int .i64 0) ∧ Below w.heap.size w w' := by
  obtain ⟨W, hW⟩ : ∃ W, w.alloc (.cells #[.int .i64 x1, .int .i64 x2] 48) = W := ⟨_, rfl⟩
  have HX : Hid (Bx w W (x1, x2)) := by rw [← hW]; exact bx_new w (x1, x2)
  obtain ⟨b0, b1⟩ := HX.out.cells
  have H23 : Calls Try.prog 23 #[.pointer none, .agg #[.int .i64 x1, .int .i64 x2]] W fun e w' => e = .returned (.int .i64 0) ∧ Hid (Below w.heap.size w w') := by
    refine (r23_nil x1 x2 W).mono ?_
    rintro e w' ⟨rfl, hb⟩
    exact ⟨rfl, HX.out.bel.trans (hb.mono HX.out.bel.size)⟩
  simp only at b0 b1
  go_enter Try.func24, Try.ntmps24
  go_wp2_with fail
  refine H23.mono ?_
  rintro e w1 ⟨rfl, H1⟩
  go_wp2_with fail
  go_ret
  exact ⟨rfl, H1.out⟩
/-- A world behind the beginning, in which the name stands. -/
def Nn (w w' : World) (vb : Nat) (x1 x2 : Int) : Prop := w'.heap[vb]? = some (.cells #[.int .i64 x1, .int .i64 x2] 48 (0, 0)) ∧ Below w.heap.size w w'
theorem Nn.below {w w' w'' : World} {vb : Nat} {x1 x2 : Int} (h : Nn w w' vb x1 x2) (hb : Below w'.heap.size w' w'') : Nn w w'' vb x1 x2 :=
  ⟨(hb.block vb (Array.getElem?_eq_some_iff.1 h.1).1).trans h.1, h.2.trans (hb.mono h.2.size)⟩
set_option maxRecDepth 100000 in
set_option maxHeartbeats 8000000 in
theorem r7 (x1 x2 k : Int) (w : World) : Calls Try.prog 7 #[.agg #[.int .i64 x1, .int .i64 x2], .int .i64 k] w fun e w' => e = .returned (.bool true) ∧ Below w.heap.size w w' := by
  obtain ⟨W, hW⟩ : ∃ W, w.alloc (.cells #[.int .i64 x1, .int .i64 x2] 48) = W := ⟨_, rfl⟩
  obtain ⟨vb, hvb⟩ : ∃ vb, w.heap.size = vb := ⟨_, rfl⟩
  have H0 : Hid (Nn w W vb x1 x2) := by
    rw [← hW, ← hvb]
    exact ⟨heap_alloc_new w _, (Below.refl _ w).alloc (Nat.le_refl _) _⟩
  go_enter Try.func7, Try.ntmps7
  go_wp2_with fail
  refine (r29_nil W).mono ?_
  rintro e w' ⟨rfl, hw⟩
  obtain rfl := hw.symm
  clear hW hvb
  have H11 : Calls Try.prog 11 #[] W fun e w'' => e = .returned (.bool true) ∧ Hid (Nn w w'' vb x1 x2) := by
    refine (r11 W).mono ?_
    rintro e w'' ⟨rfl, hb⟩
    exact ⟨rfl, H0.out.below hb⟩
  go_wp2_with fail
  refine H11.mono ?_
  rintro e w1 ⟨rfl, H1⟩
  clear H11 H0
  obtain ⟨c0, c1⟩ := box2 H1.out.1
  go_wp2_with fail
  refine (r19_nil k _ _).mono ?_
  rintro e w2 ⟨rfl, hw⟩
  have H2 : Hid (Nn w w2 vb x1 x2) := by rw [hw]; exact H1.out.below ((Below.refl _ _).alloc (Nat.le_refl _) _)
  clear hw H1 c0 c1
  obtain ⟨c0, c1⟩ := box2 H2.out.1
  go_wp2_with fail
  refine (r30_nil x1 x2 k w2).mono ?_
  rintro e w3 ⟨rfl, hb⟩
  have H3 : Hid (Nn w w3 vb x1 x2) := H2.out.below hb
  clear hb H2 c0 c1
  obtain ⟨c0, c1⟩ := box2 H3.out.1
  go_wp2_with fail
  refine (r21_nil x1 x2 k 1 w3).mono ?_
  rintro e w4 ⟨rfl, hb⟩
  have H4 : Hid (Nn w w4 vb x1 x2) := H3.out.below hb
  clear hb H3 c0 c1
  obtain ⟨c0, c1⟩ := box2 H4.out.1
  go_wp2_with fail
  refine (r22_nil _ _).mono ?_
  rintro e w5 ⟨rfl, hw⟩
  have H5 : Hid (Nn w w5 vb x1 x2) := by rw [hw]; exact H4.out.below ((Below.refl _ _).alloc (Nat.le_refl _) _)
  clear hw H4 c0 c1
  obtain ⟨c0, c1⟩ := box2 H5.out.1
  go_wp2_with fail
  refine (r24_nil x1 x2 w5).mono ?_
  rintro e w6 ⟨rfl, hb⟩
  have H6 : Hid (Nn w w6 vb x1 x2) := H5.out.below hb
  clear hb H5 c0 c1
  obtain ⟨c0, c1⟩ := box2 H6.out.1
  go_wp2_with fail
  refine (r23_nil x1 x2 w6).mono ?_
  rintro e w7 ⟨rfl, hb⟩
  have H7 : Hid (Nn w w7 vb x1 x2) := H6.out.below hb
  clear hb H6 c0 c1
  obtain ⟨c0, c1⟩ := box2 H7.out.1
  go_wp2_with fail
  refine (r20_nil x1 x2 w7).mono ?_
  rintro e w8 ⟨rfl, hb⟩
  have H8 : Hid (Nn w w8 vb x1 x2) := H7.out.below hb
  clear hb H7 c0 c1
  obtain ⟨c0, c1⟩ := box2 H8.out.1
  go_wp2_with fail
  refine (r18_nil w8).mono ?_
  rintro e w' ⟨rfl, hw⟩
  obtain rfl := hw.symm
  go_wp2_with fail
  refine (r25_nil w8).mono ?_
  rintro e w' ⟨rfl, hw⟩
  obtain rfl := hw.symm
  go_wp2_with fail
  refine (r12_nil w8).mono ?_
  rintro e w' ⟨rfl, hw⟩
  obtain rfl := hw.symm
  go_wp2_with fail
  go_ret
  exact ⟨rfl, H8.out.2⟩
end Go.Proofs.Ytkpcjkdpkemmhaa
