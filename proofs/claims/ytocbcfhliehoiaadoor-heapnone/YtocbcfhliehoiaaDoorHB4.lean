/- Contract of HeapNone. -/
import Derived.Test.YtocbcfhliehoiaaDoorHB3
namespace Go.Proofs.YtocbcfhliehoiaaDoor
open Go.RowKit
attribute [local go_sem ↓] Go.wp_at_zero Go.wp_at_succ
/-- A name in a block. -/
structure Nb (w W : World) (p : Nat) (x1 x2 : Int) : Prop where
  box : W.heap[p]? = some (.cells #[.int .i64 x1, .int .i64 x2] 23 (0, 0))
  bel : Below w.heap.size w W
theorem Nb.below {w W W' : World} {p : Nat} {x1 x2 : Int} (h : Nb w W p x1 x2) (hb : Below W.heap.size W W') : Nb w W' p x1 x2 := ⟨(hb.block p (Array.getElem?_eq_some_iff.1 h.box).1).trans h.box, h.bel.trans (hb.mono h.bel.size)⟩
theorem Nb.cells {w W : World} {p : Nat} {x1 x2 : Int} (h : Nb w W p x1 x2) : W.cell? ⟨p, 0, none⟩ = some (.int .i64 x1) ∧ W.cell? ⟨p, 1, none⟩ = some (.int .i64 x2) :=
  ⟨by rw [cell_of_row W p 0 _ 23 (0, 0) h.box]; rfl, by rw [cell_of_row W p 1 _ 23 (0, 0) h.box]; rfl⟩
set_option maxRecDepth 100000 in
set_option maxHeartbeats 8000000 in
theorem h3 (x1 x2 : Int) (l : List C) (v : Value) (w : World) (hT : TermAt w v l) (hW : ∀ c ∈ l, wfN (c.vn, c.vk)) (hS : Signs w) (hby : l.length * 48 ≤ 140737488355328) : Calls Tryd.prog 3 #[.agg #[.int .i64 x1, .int .i64 x2], v] w fun e w' => e = .returned (.bool true) ∧ Below w.heap.size w w' := by
  have HH : Hid (TermAt w v l ∧ (∀ c ∈ l, wfN (c.vn, c.vk)) ∧ Signs w ∧ l.length * 48 ≤ 140737488355328) := ⟨hT, hW, hS, hby⟩
  obtain ⟨p, hp⟩ : ∃ p, w.heap.size = p := ⟨_, rfl⟩
  obtain ⟨U, hU⟩ : ∃ U, w.alloc (.cells #[.int .i64 x1, .int .i64 x2] 23) = U := ⟨_, rfl⟩
  have H0 : Hid (Nb w U p x1 x2) := by rw [← hU, ← hp]; exact ⟨heap_alloc_new w _, (Below.refl _ w).alloc (Nat.le_refl _) _⟩
  have C6 : Hid (∀ V, Nb w V p x1 x2 → Calls Tryd.prog 6 #[.pointer none, .agg #[.int .i64 x1, .int .i64 x2]] V fun e w' => e = .returned (.tuple #[.slice none 0 0, .bool false]) ∧ Hid (Nb w w' p x1 x2)) := fun V hV => (h6n x1 x2 V).mono fun e w' ⟨h1, h2⟩ => ⟨h1, hV.below h2⟩
  have C7 : Hid (∀ V, Nb w V p x1 x2 → Calls Tryd.prog 7 #[.pointer none, v] V fun e w' => ∃ a c, e = .returned (.slice a (oneN l) c) ∧ Hid (Nb w w' p x1 x2)) := fun V hV => (h7n l v V (HH.out.1.below hV.bel) HH.out.2.1 HH.out.2.2.2).mono fun e w' ⟨a, c, h1, h2⟩ => ⟨a, c, h1, hV.below h2.out⟩
  have C8 : Hid (∀ V W u, Nb w V p x1 x2 → Below V.heap.size V W → Calls Tryd.prog 8 #[.pointer none, u] W fun e w' => e = .returned (.tuple #[]) ∧ Hid (Nb w w' p x1 x2)) := fun V W u hV hW => (h8n u W).mono fun e w' ⟨h1, h2⟩ => ⟨h1, by rw [h2]; exact hV.below hW⟩
  have C9 : Hid (∀ V, Nb w V p x1 x2 → Calls Tryd.prog 9 #[.pointer none, v] V fun e w' => e = .returned (.tuple #[.slice none 0 0, .int .i64 1]) ∧ Hid (Nb w w' p x1 x2)) := fun V hV => (h9n v V).mono fun e w' ⟨h1, h2⟩ => ⟨h1, by rw [h2]; exact hV⟩
  have C10 : Hid (∀ V, Nb w V p x1 x2 → Calls Tryd.prog 10 #[] V fun e w' => e = .returned (.bool true) ∧ Hid (Nb w w' p x1 x2)) := fun V hV => (h10 V (HH.out.2.2.1.below hV.bel)).mono fun e w' ⟨h1, h2⟩ => ⟨h1, hV.below h2⟩
  have C11 : Hid (∀ V, Nb w V p x1 x2 → Calls Tryd.prog 11 #[.pointer none, .agg #[.int .i64 x1, .int .i64 x2], v] V fun e w' => e = .returned (.int .i64 1) ∧ Hid (Nb w w' p x1 x2)) := fun V hV => (h11n x1 x2 v V).mono fun e w' ⟨h1, h2⟩ => ⟨h1, hV.below h2⟩
  have C12 : Hid (∀ V, Nb w V p x1 x2 → Calls Tryd.prog 12 #[.pointer none] V fun e w' => e = .returned (.slice none 0 0) ∧ Hid (Nb w w' p x1 x2)) := fun V hV => (h12n V).mono fun e w' ⟨h1, h2⟩ => ⟨h1, by rw [h2]; exact hV⟩
  have C13 : Hid (∀ V, Nb w V p x1 x2 → Calls Tryd.prog 13 #[.pointer none] V fun e w' => e = .returned (.pointer none) ∧ Hid (Nb w w' p x1 x2)) := fun V hV => (h13n V).mono fun e w' ⟨h1, h2⟩ => ⟨h1, by rw [h2]; exact hV⟩
  have C15 : Hid (∀ V, Nb w V p x1 x2 → Calls Tryd.prog 15 #[.pointer none, v] V fun e w' => ∃ u, e = .returned u ∧ Hid (Nb w w' p x1 x2 ∧ TermAt w' u l)) := fun V hV => (h15n l v V (HH.out.1.below hV.bel) HH.out.2.1 HH.out.2.2.2).mono fun e w' ⟨u, h1, h2⟩ => ⟨u, h1, hV.below h2.out.2, h2.out.1⟩
  have C14 : Hid (∀ V u, Nb w V p x1 x2 ∧ TermAt V u l → Calls Tryd.prog 14 #[u, v] V fun e w' => e = .returned (.bool true) ∧ Hid (Nb w w' p x1 x2)) := fun V u hV => (c14 l l u v V hV.2 (HH.out.1.below hV.1.bel)).mono fun e w' ⟨h1, h2⟩ => ⟨by rw [h1, eqT_refl], hV.1.below h2⟩
  obtain ⟨m0, m1⟩ := H0.out.cells
  obtain ⟨va, vc, hf⟩ := hT.form
  subst hf
  clear hT hW hS hby
  go_enter Tryd.func3, Tryd.ntmps3
  go_wp2_with fail
  refine (C6.out _ H0.out).mono ?_
  rintro e w1 ⟨rfl, H1⟩
  clear H0 m0 m1 hU hp
  go_wp2_with fail
  refine (C7.out _ H1.out).mono ?_
  rintro e w2 ⟨a2, c2, rfl, H2⟩
  clear H1
  obtain ⟨m0, m1⟩ := H2.out.cells
  have C8' : Calls Tryd.prog 8 #[.pointer none, .slice (some ⟨w2.heap.size, 0, none⟩) 1 1] (w2.alloc (.cells #[.int .i64 x1, .int .i64 x2] 23)) fun e w' => e = .returned (.tuple #[]) ∧ Hid (Nb w w' p x1 x2) := C8.out w2 _ _ H2.out (below_alloc _ _)
  go_wp2_with fail
  refine C8'.mono ?_
  rintro e w3 ⟨rfl, H3⟩
  clear C8' C8 H2 m0 m1
  go_wp2_with fail
  refine (C9.out _ H3.out).mono ?_
  rintro e w4 ⟨rfl, H4⟩
  go_wp2_with fail
  refine (C10.out _ H4.out).mono ?_
  rintro e w5 ⟨rfl, H5⟩
  clear H3 H4
  obtain ⟨m0, m1⟩ := H5.out.cells
  go_wp2_with fail
  refine (C11.out _ H5.out).mono ?_
  rintro e w6 ⟨rfl, H6⟩
  clear m0 m1 H5
  go_wp2_with fail
  refine (C12.out _ H6.out).mono ?_
  rintro e w7 ⟨rfl, H7⟩
  go_wp2_with fail
  refine (C13.out _ H7.out).mono ?_
  rintro e w8 ⟨rfl, H8⟩
  clear H6 H7
  by_cases h0 : l.length = 0
  · have hz : ((l.length : Nat) : Int) = 0 := by omega
    go_wp2_with fail
    go_ret
    exact ⟨rfl, H8.out.bel⟩
  · have hz : ¬ ((l.length : Nat) : Int) = 0 := by omega
    have e1 : oneN l = 1 := by simp [oneN, h0]
    rw [e1]
    go_wp2_with fail
    refine (C15.out _ H8.out).mono ?_
    rintro e w9 ⟨u, rfl, H9⟩
    go_wp2_with fail
    refine (C14.out _ _ H9.out).mono ?_
    rintro e w10 ⟨rfl, H10⟩
    go_wp2_with fail
    go_ret
    exact ⟨rfl, H10.out.bel⟩
end Go.Proofs.YtocbcfhliehoiaaDoor
