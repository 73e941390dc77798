/- Contract of live: it returns true. -/
import Derived.Test.YtojobiefambkoaaGreatDoorFF
namespace Go.Proofs.YtojobiefambkoaaGreatDoor
open Go.RowKit
attribute [local go_sem ↓] Go.wp_at_zero Go.wp_at_succ
def lvA : List C := [⟨3, ⟨#[102]⟩, 1, 0, 0⟩, ⟨4, ⟨#[]⟩, 0, 0, 2⟩]
def lvB : List C := [⟨3, ⟨#[103]⟩, 1, 0, 0⟩, ⟨4, ⟨#[]⟩, 0, 0, 1⟩]
def lv2 : Hp := [((0, 1), lvA), ((0, 2), lvB)]
theorem lv_bind : bindH [] (0, 1) lvA = [((0, 1), lvA)] ∧ bindH [((0, 1), lvA)] (0, 2) lvB = lv2 := by
  have e1 : bindE [] (0, 1) lvA = 0 := by decide +kernel
  have e2 : bindE [((0, 1), lvA)] (0, 2) lvB = 0 := by decide +kernel
  unfold bindH
  rw [if_pos e1, if_pos e2]
  exact ⟨rfl, rfl⟩
theorem lv_cells : (∀ c ∈ lvA, wfN (c.vn, c.vk)) ∧ ∀ c ∈ lvB, wfN (c.vn, c.vk) := by
  refine ⟨fun c hc => ?_, fun c hc => ?_⟩
  · simp only [lvA, List.mem_cons, List.not_mem_nil, or_false] at hc
    rcases hc with rfl | rfl <;> (constructor <;> decide)
  · simp only [lvB, List.mem_cons, List.not_mem_nil, or_false] at hc
    rcases hc with rfl | rfl <;> (constructor <;> decide)
theorem lv_look {x : Nm} {l : List C} (h : lookH lv2 x = some l) : (x = (0, 1) ∧ l = lvA) ∨ (x = (0, 2) ∧ l = lvB) := by
  have := look_mem h
  simpa [lv2] using this
theorem lv_good : GoodH lv2 := fun x l h => by
  rcases lv_look h with ⟨_, rfl⟩ | ⟨_, rfl⟩
  · exact ⟨by decide, by simp [lvA], by decide +kernel⟩
  · exact ⟨by decide, by simp [lvB], by decide +kernel⟩
theorem lv_wf : WfH lv2 := fun x l h => by
  rcases lv_look h with ⟨rfl, rfl⟩ | ⟨rfl, rfl⟩
  · exact ⟨by constructor <;> decide, lv_cells.1⟩
  · exact ⟨by constructor <;> decide, lv_cells.2⟩
theorem lv_ends : ((allC lv2 [(0, 2)]).map hd0) = [(0, 2), (0, 1)] := by decide +kernel
theorem lv_up : UpN (Rch lv2 [(0, 2)]) [(0, 1), (0, 2)] := by
  refine ⟨fun x => ?_, by simp [ltN]⟩
  rw [← allC_mem, lv_ends]
  simp
  exact Or.comm
theorem lv_up0 : UpN (Rch lv2 []) [] := by
  refine ⟨fun x => ⟨fun h => (by cases h), fun h => ?_⟩, List.Pairwise.nil⟩
  induction h with
  | root h => exact h
  | step _ _ ih => cases ih
theorem lv_path : pathF lv2 (0, 1) (0, 2) = some [(0, 2), (0, 1)] := by decide +kernel
theorem lv_cyc : cycF lv2 (0, 1) = true ∧ cycF [] (0, 1) = false := by decide +kernel
theorem term_row (W : World) (l : List C) (ht : ∀ c ∈ l, c.t.size ≤ maxLen) (hl : l.length ≤ maxLen) : TermAt (W.alloc (.cells (flat l).toArray 82)) (.slice (some ⟨W.heap.size, 0, none⟩) l.length l.length) l :=
  ⟨⟨hl, ht⟩, .inr ⟨W.heap.size, 0, l.length, rfl, Nat.le_refl _, hl, range_new W _ 82, by simp⟩⟩
/-- The map and the two names while it is filled. -/
structure Lv (w : World) (hb M b1 b2 j : Nat) (m : Hp) (W : World) : Prop where
  hp : ∃ n D, n ≤ j ∧ HpAt W hb M n D m
  x : W.heap[b1]? = some (.cells #[.int .i64 0, .int .i64 1] 49 (0, 0))
  y : W.heap[b2]? = some (.cells #[.int .i64 0, .int .i64 2] 49 (0, 0))
  bel : Below w.heap.size w W
  low : w.heap.size ≤ M
theorem Lv.below {w W W' : World} {hb M b1 b2 j : Nat} {m : Hp} (h : Lv w hb M b1 b2 j m W) (hw : Below W.heap.size W W') : Lv w hb M b1 b2 j m W' := by
  obtain ⟨n, D, hn, hp⟩ := h.hp
  exact ⟨⟨n, D, hn, hp.below hw⟩, (hw.block b1 (Array.getElem?_eq_some_iff.1 h.x).1).trans h.x, (hw.block b2 (Array.getElem?_eq_some_iff.1 h.y).1).trans h.y, h.bel.trans (hw.mono h.bel.size), h.low⟩
theorem lv_ne {W : World} {hb M n b : Nat} {D : DataW Value} {m : Hp} {cu : Array Value} {t : TypeId} {f : Nat × Nat} (h : HpAt W hb M n D m) (hb1 : W.heap[b]? = some (.cells cu t f)) : b ≠ M := by
  rintro rfl
  obtain ⟨es, ck, h2, _⟩ := h.map
  rw [h2] at hb1
  cases hb1
theorem Lv.cells {w W : World} {hb M b1 b2 j : Nat} {m : Hp} (h : Lv w hb M b1 b2 j m W) : W.cell? ⟨b1, 0, none⟩ = some (.int .i64 0) ∧ W.cell? ⟨b1, 1, none⟩ = some (.int .i64 1) ∧ W.cell? ⟨b2, 0, none⟩ = some (.int .i64 0) ∧ W.cell? ⟨b2, 1, none⟩ = some (.int .i64 2) := by
  refine ⟨?_, ?_, ?_, ?_⟩
  · rw [cell_of_row W b1 0 _ 49 (0, 0) h.x]; rfl
  · rw [cell_of_row W b1 1 _ 49 (0, 0) h.x]; rfl
  · rw [cell_of_row W b2 0 _ 49 (0, 0) h.y]; rfl
  · rw [cell_of_row W b2 1 _ 49 (0, 0) h.y]; rfl
theorem lv_step {w W : World} {hb M b1 b2 j : Nat} {m : Hp} (h : Lv w hb M b1 b2 j m W) (x : Nm) (l : List C) (hx : wfN x) (hl : ∀ c ∈ l, wfN (c.vn, c.vk)) (ht : ∀ c ∈ l, c.t.size ≤ maxLen) (hn : l.length ≤ 10) (hS : Signs w) (hj : j ≤ 10) :
    Calls Tryz.prog 28 #[.pointer (some ⟨hb, 0, none⟩), .agg #[.int .i64 x.1, .int .i64 x.2], .slice (some ⟨W.heap.size, 0, none⟩) l.length l.length] (W.alloc (.cells (flat l).toArray 82)) fun e w' => ∃ v, e = .returned (.int .i64 v) ∧ Hid (Lv w hb M b1 b2 (j + 1) (bindH m x l) w') := by
  have h' := h.below (below_alloc W (.cells (flat l).toArray 82))
  obtain ⟨n, D, hn', hp⟩ := h'.hp
  refine (h11 m hb M n D x l _ _ hp hx (term_row W l ht (by unfold maxLen; omega)) hl (hS.below h'.bel) (by omega) (by unfold maxLen; omega)).mono ?_
  rintro e w' ⟨rfl, n', D', k1, k2, k3, _⟩
  exact ⟨_, rfl, ⟨⟨n', D', by omega, k1⟩, (k3.2.2.2.2 b1 (Array.getElem?_eq_some_iff.1 h'.x).1 (lv_ne hp h'.x)).trans h'.x, (k3.2.2.2.2 b2 (Array.getElem?_eq_some_iff.1 h'.y).1 (lv_ne hp h'.y)).trans h'.y, h'.bel.trans (k3.below h.low h'.bel.size), h.low⟩⟩
abbrev RvS (W8 : World) (b1 b2 g : Nat) (W : World) : Prop := W.cell? ⟨b1, 0, none⟩ = some (.int .i64 0) ∧ W.cell? ⟨b1, 1, none⟩ = some (.int .i64 1) ∧ W.cell? ⟨b2, 0, none⟩ = some (.int .i64 0) ∧ W.cell? ⟨b2, 1, none⟩ = some (.int .i64 2) ∧ W.cell? ⟨g, 0, none⟩ = some (.int .i64 0) ∧ W.cell? ⟨g, 1, none⟩ = some (.int .i64 1) ∧ W.cell? ⟨g, 2, none⟩ = some (.int .i64 0) ∧ W.cell? ⟨g, 3, none⟩ = some (.int .i64 2) ∧ Hid (Below W8.heap.size W8 W ∧ b1 < W8.heap.size ∧ b2 < W8.heap.size ∧ g < W8.heap.size)
theorem rvS_st {W8 W : World} {b1 b2 g : Nat} (h : RvS W8 b1 b2 g W) : Hid (Below W8.heap.size W8 W) := h.2.2.2.2.2.2.2.2.out.1
theorem rvS_drew {W8 W : World} {b1 b2 g : Nat} (h : RvS W8 b1 b2 g W) : RvS W8 b1 b2 g W.drew := by
  obtain ⟨h1, h2, h3, h4, h5, h6, h7, h8, h9⟩ := h
  exact ⟨h1, h2, h3, h4, h5, h6, h7, h8, h9.out.1.drew, h9.out.2⟩
theorem rvS_below {W8 W W' : World} {b1 b2 g : Nat} (h : RvS W8 b1 b2 g W) (hb : Below W.heap.size W W') : RvS W8 b1 b2 g W' := by
  obtain ⟨h1, h2, h3, h4, h5, h6, h7, h8, h9⟩ := h
  have hz := h9.out.1.size
  obtain ⟨z1, z2, z3⟩ := h9.out.2
  exact ⟨(hb.cell (p := ⟨b1, 0, none⟩) (by simp; omega)).trans h1, (hb.cell (p := ⟨b1, 1, none⟩) (by simp; omega)).trans h2, (hb.cell (p := ⟨b2, 0, none⟩) (by simp; omega)).trans h3, (hb.cell (p := ⟨b2, 1, none⟩) (by simp; omega)).trans h4, (hb.cell (p := ⟨g, 0, none⟩) (by simp; omega)).trans h5, (hb.cell (p := ⟨g, 1, none⟩) (by simp; omega)).trans h6, (hb.cell (p := ⟨g, 2, none⟩) (by simp; omega)).trans h7, (hb.cell (p := ⟨g, 3, none⟩) (by simp; omega)).trans h8, h9.out.1.trans (hb.mono hz), h9.out.2⟩
set_option maxRecDepth 100000 in
set_option maxHeartbeats 8000000 in
theorem f7 (w : World) (hS : Signs w) : Calls Tryz.prog 11 #[] w fun e w' => e = .returned (.bool true) ∧ Below w.heap.size w w' := by
  have HS : Hid (Signs w) := hS
  have H19 : Calls Tryz.prog 26 #[] w fun e w' => ∃ hb M, e = .returned (.pointer (some ⟨hb, 0, none⟩)) ∧ Hid (HpAt w' hb M 0 (.map []) [] ∧ Below w.heap.size w w' ∧ w.heap.size ≤ M) := by
    refine (h26 w).mono ?_
    rintro e w' ⟨rfl, h1, h2⟩
    exact ⟨_, _, rfl, h1, h2, Nat.le_refl _⟩
  clear hS
  go_enter Tryz.func11, Tryz.ntmps11
  go_wp2_with fail
  refine H19.mono ?_
  rintro e w1 ⟨hb, M, rfl, HI0⟩
  clear H19
  obtain ⟨U1, hU1⟩ : ∃ U, w1.alloc (.cells #[.int .i64 0, .int .i64 0] 49) = U := ⟨_, rfl⟩
  obtain ⟨b1, hb1⟩ : ∃ vb, w1.heap.size = vb := ⟨_, rfl⟩
  obtain ⟨⟨c0, c1, f0, f1⟩, hVV⟩ := stored23 (x := .int .i64 0) (y := .int .i64 1) hU1 hb1
  obtain ⟨V1, hV1⟩ : ∃ V, (U1.setCell ⟨b1, 0, none⟩ (.int .i64 0)).setCell ⟨b1, 1, none⟩ (.int .i64 1) = V := ⟨_, rfl⟩
  obtain ⟨k1, k2⟩ := hVV V1 hV1
  obtain ⟨U2, hU2⟩ : ∃ U, V1.alloc (.cells #[.int .i64 0, .int .i64 0] 49) = U := ⟨_, rfl⟩
  obtain ⟨b2, hb2⟩ : ∃ vb, V1.heap.size = vb := ⟨_, rfl⟩
  obtain ⟨⟨d0, d1, g0, g1⟩, hWW⟩ := stored23 (x := .int .i64 0) (y := .int .i64 2) hU2 hb2
  obtain ⟨V2, hV2⟩ : ∃ V, (U2.setCell ⟨b2, 0, none⟩ (.int .i64 0)).setCell ⟨b2, 1, none⟩ (.int .i64 2) = V := ⟨_, rfl⟩
  obtain ⟨k3, k4⟩ := hWW V2 hV2
  have HL0 : Hid (Lv w hb M b1 b2 0 [] V2) := by
    obtain ⟨h1, h2, h3⟩ := HI0.out
    exact ⟨⟨0, _, Nat.le_refl _, (h1.below k1).below k3⟩, (k3.block b1 (Array.getElem?_eq_some_iff.1 k2).1).trans k2, k4, h2.trans ((k1.trans (k3.mono k1.size)).mono h2.size), h3⟩
  clear HI0 hVV hWW k1 k2 k3 k4
  obtain ⟨x0, x1, y0, y1⟩ := HL0.out.cells
  obtain ⟨n2, hn2⟩ : ∃ k, V2.heap.size = k := ⟨_, rfl⟩
  have H20 : Calls Tryz.prog 28 #[.pointer (some ⟨hb, 0, none⟩), .agg #[.int .i64 0, .int .i64 1], .slice (some ⟨n2, 0, none⟩) 2 2] (V2.alloc (.cells #[.int .u8 3, .string ⟨#[102]⟩, .int .i64 1, .int .i64 0, .int .i64 0, .int .u8 4, .string ⟨#[]⟩, .int .i64 0, .int .i64 0, .int .i64 2] 82)) fun e w' => ∃ v, e = .returned (.int .i64 v) ∧ Hid (Lv w hb M b1 b2 1 [((0, 1), lvA)] w') := by
    have h := lv_step HL0.out (0, 1) lvA (by constructor <;> decide) lv_cells.1 (by decide) (by decide) HS.out (by omega)
    rw [hn2, lv_bind.1] at h
    exact h
  go_wp2_with fail
  refine H20.mono ?_
  rintro e w2 ⟨v, rfl, HL1⟩
  clear H20 HL0 hn2 x0 x1 y0 y1 c0 c1 f0 f1 d0 d1 g0 g1 hU1 hU2 hV1 hV2 hb1 hb2
  obtain ⟨x0, x1, y0, y1⟩ := HL1.out.cells
  obtain ⟨n3, hn3⟩ : ∃ k, w2.heap.size = k := ⟨_, rfl⟩
  have H20 : Calls Tryz.prog 28 #[.pointer (some ⟨hb, 0, none⟩), .agg #[.int .i64 0, .int .i64 2], .slice (some ⟨n3, 0, none⟩) 2 2] (w2.alloc (.cells #[.int .u8 3, .string ⟨#[103]⟩, .int .i64 1, .int .i64 0, .int .i64 0, .int .u8 4, .string ⟨#[]⟩, .int .i64 0, .int .i64 0, .int .i64 1] 82)) fun e w' => ∃ v, e = .returned (.int .i64 v) ∧ Hid (Lv w hb M b1 b2 2 lv2 w') := by
    have h := lv_step HL1.out (0, 2) lvB (by constructor <;> decide) lv_cells.2 (by decide) (by decide) HS.out (by omega)
    rw [hn3, lv_bind.2] at h
    exact h
  go_wp2_with fail
  refine H20.mono ?_
  rintro e w3 ⟨v', rfl, HL2⟩
  clear H20 HL1 hn3 x0 x1 y0 y1
  obtain ⟨x0, x1, y0, y1⟩ := HL2.out.cells
  obtain ⟨n4, hn4⟩ : ∃ k, w3.heap.size = k := ⟨_, rfl⟩
  obtain ⟨W4, hW4⟩ : ∃ W, w3.alloc (.cells #[.int .i64 0, .int .i64 2] 49) = W := ⟨_, rfl⟩
  have HL4 : Hid (Lv w hb M b1 b2 2 lv2 W4) := by
    have h := HL2.out.below (below_alloc w3 (.cells #[.int .i64 0, .int .i64 2] 49))
    rw [hW4] at h
    exact h
  have HN4 : Hid (NamesAt W4 (.slice (some ⟨n4, 0, none⟩) 1 1) [(0, 2)]) := by
    refine ⟨by decide, .inr ⟨n4, 0, 1, rfl, ?_, ?_⟩⟩
    · have h := range_new w3 [.int .i64 0, .int .i64 2] 49
      rw [hn4] at h
      rw [← hW4]
      exact h
    · rw [← hW4, ← hn4]
      simp
  have HPV : ∀ {W : World}, Lv w hb M b1 b2 2 lv2 W → HpV W (.pointer (some ⟨hb, 0, none⟩)) lv2 := fun h => by
    obtain ⟨n, D, _, hp⟩ := h.hp
    exact .inr ⟨hb, M, n, D, rfl, hp⟩
  have H9 : Calls Tryz.prog 8 #[.pointer (some ⟨hb, 0, none⟩), .slice (some ⟨n4, 0, none⟩) 1 1] W4 fun e w' => ∃ g c, e = .returned (.slice (some ⟨g, 0, none⟩) 2 c) ∧ Hid (Lv w hb M b1 b2 2 lv2 w' ∧ w'.heap[g]? ≠ none ∧ w'.rangeAt g 0 (flatN [(0, 1), (0, 2)])) := by
    refine (f9 lv2 _ [(0, 2)] (some ⟨n4, 0, none⟩) 1 W4 (HPV HL4.out) HN4.out lv_good lv_wf (by intro x hx; rw [List.mem_singleton.1 hx]; constructor <;> decide) (by decide +kernel)).mono ?_
    rintro e w' ⟨xs, a, c, rfl, h1, h2, h3, _⟩
    obtain rfl : xs = [(0, 1), (0, 2)] := h1.like lv_up
    rcases h2.2 with ⟨_, e⟩ | ⟨g, cap, cur, e1, e2, e3, e4, e5, e6, e7⟩
    · simp at e
    · simp only [Value.slice.injEq] at e1
      obtain ⟨rfl, _, rfl⟩ := e1
      exact ⟨g, c, rfl, HL4.out.below h3, by rw [e3]; simp, range_of_owns e3 e7⟩
  clear HL2
  go_wp2_with fail
  refine H9.mono ?_
  rintro e w5 ⟨g, gc, rfl, HL5⟩
  clear H9 HN4 hW4 hn4 HL4 x0 x1 y0 y1
  obtain ⟨x0, x1, y0, y1⟩ := HL5.out.1.cells
  have H12 : Calls Tryz.prog 20 #[.pointer (some ⟨hb, 0, none⟩), .agg #[.int .i64 0, .int .i64 1], .agg #[.int .i64 0, .int .i64 2]] w5 fun e w' => ∃ a c, e = .returned (.tuple #[.slice a 2 c, .bool true]) ∧ Hid (Below w5.heap.size w5 w') := by
    refine (f12 lv2 _ (0, 1) (0, 2) w5 (HPV HL5.out.1) (by constructor <;> decide) lv_good lv_wf (by decide +kernel)).mono ?_
    rintro e w' ⟨a, k, c, rfl, h⟩
    rw [lv_path] at h ⊢
    obtain ⟨rfl, _, h3⟩ := h.out
    exact ⟨a, c, rfl, h3⟩
  go_wp2_with fail
  refine H12.mono ?_
  rintro e W8 ⟨pa, pc, rfl, HB8⟩
  clear H12 x0 x1 y0 y1
  have HL8 : Hid (Lv w hb M b1 b2 2 lv2 W8) := HL5.out.1.below HB8.out
  have hS8 : RvS W8 b1 b2 g W8 := by
    obtain ⟨x0, x1, y0, y1⟩ := HL8.out.cells
    obtain ⟨h1, h2, h3⟩ := HL5.out
    have hg : g < w5.heap.size := by
      rcases Nat.lt_or_ge g w5.heap.size with h | h
      · exact h
      · exact absurd (Array.getElem?_eq_none h) h2
    have h3 := range_below h3 hg HB8.out
    have q0 := h3 0 _ rfl
    have q1 := h3 1 _ rfl
    have q2 := h3 2 _ rfl
    have q3 := h3 3 _ rfl
    exact ⟨x0, x1, y0, y1, q0, q1, q2, q3, Below.refl _ _, (Array.getElem?_eq_some_iff.1 HL8.out.x).1, (Array.getElem?_eq_some_iff.1 HL8.out.y).1, Nat.lt_of_lt_of_le hg HB8.out.size⟩
  have H23 : ∀ W, Hid (Below W8.heap.size W8 W) → Calls Tryz.prog 23 #[.pointer (some ⟨hb, 0, none⟩), .agg #[.int .i64 0, .int .i64 1]] W fun e w' => e = .returned (.bool true) ∧ Below W.heap.size W w' := fun W hW => by
    have h := f23 lv2 _ (0, 1) W (HPV (HL8.out.below hW.out)) (by constructor <;> decide) lv_good lv_wf (by decide +kernel)
    rw [lv_cyc.1] at h
    exact h
  have H16 : ∀ W, Hid (Below W8.heap.size W8 W) → Calls Tryz.prog 9 #[.pointer (some ⟨hb, 0, none⟩), .slice none 0 0] W fun e w' => ∃ a c, e = .returned (.slice a 2 c) ∧ Below W.heap.size W w' := fun W hW => by
    obtain ⟨n, D, hn, hp⟩ := (HL8.out.below hW.out).hp
    refine (f16 lv2 hb M n D [] none 0 W hp (by omega) (by simp [lv2, RisesH]; decide) ⟨by decide, .inl ⟨rfl, none, rfl⟩⟩ lv_good lv_wf (fun x hx => by cases hx) (by decide +kernel) (by decide)).mono ?_
    rintro e w' ⟨a, k, c, rfl, xs, h1, h2, h3, h4⟩
    obtain rfl : xs = [] := h1.like lv_up0
    obtain rfl : 2 = k := h2
    exact ⟨a, c, rfl, h4⟩
  have H23n : ∀ W, Calls Tryz.prog 23 #[.pointer none, .agg #[.int .i64 0, .int .i64 1]] W fun e w' => e = .returned (.bool false) ∧ Below W.heap.size W w' := fun W => by
    have h := f23 [] (.pointer none) (0, 1) W (.inl ⟨rfl, rfl⟩) (by constructor <;> decide) (fun x l h => by cases h) (fun x l h => by cases h) (by decide +kernel)
    rw [lv_cyc.2] at h
    exact h
  have HE : Hid (Below w.heap.size w W8) := HL8.out.bel
  clear HL8 HL5 HB8 HPV
  go_wp2_with fail
  refine wp_region_noPanic ?_
  refine wp_region_held_drew (S := RvS W8 b1 b2 g) (by kernel_rfl) (rvS_drew hS8) (fun hHeld => ?_)
  first | (refine wpAnyH_take (i := 0) (v := ?_) (by simp only [List.getElem?_toArray, List.getElem?_cons_zero]; rfl) (by kernel_rfl) (by kernel_rfl) (by kernel_rfl) (fun _ _ _ h => h) (Or.inl ⟨by rfl, ?_⟩) (by assumption) ?_; rotate_left; (· (intro w hSw; (try dsimp only at hSw); go_simp <;> with_reducible rfl)); try simp only [Act.put, List.setIfInBounds_toArray, List.set_cons_zero, List.set_cons_succ]) | (refine wpAnyH_take (i := 0) (v := undef) (by simp only [List.getElem?_toArray, List.getElem?_cons_zero]; rfl) (by kernel_rfl) (by kernel_rfl) (by kernel_rfl) (fun _ _ _ h => h) (Or.inr ⟨by rfl, rfl⟩) (by assumption) ?_; try simp only [Act.put, List.setIfInBounds_toArray, List.set_cons_zero, List.set_cons_succ])
  first | (refine wpAnyH_take (i := 1) (v := ?_) (by simp only [List.getElem?_toArray, List.getElem?_cons_zero, List.getElem?_cons_succ]; rfl) (by kernel_rfl) (by kernel_rfl) (by kernel_rfl) (fun _ _ _ h => h) (Or.inl ⟨by rfl, ?_⟩) (by assumption) ?_; rotate_left; (· (intro w hSw; (try dsimp only at hSw); go_simp <;> with_reducible rfl)); try simp only [Act.put, List.setIfInBounds_toArray, List.set_cons_zero, List.set_cons_succ]) | (refine wpAnyH_take (i := 1) (v := undef) (by simp only [List.getElem?_toArray, List.getElem?_cons_zero, List.getElem?_cons_succ]; rfl) (by kernel_rfl) (by kernel_rfl) (by kernel_rfl) (fun _ _ _ h => h) (Or.inr ⟨by rfl, rfl⟩) (by assumption) ?_; try simp only [Act.put, List.setIfInBounds_toArray, List.set_cons_zero, List.set_cons_succ])
  first | (refine wpAnyH_take (i := 2) (v := ?_) (by simp only [List.getElem?_toArray, List.getElem?_cons_zero, List.getElem?_cons_succ]; rfl) (by kernel_rfl) (by kernel_rfl) (by kernel_rfl) (fun _ _ _ h => h) (Or.inl ⟨by rfl, ?_⟩) (by assumption) ?_; rotate_left; (· (intro w hSw; (try dsimp only at hSw); go_simp <;> with_reducible rfl)); try simp only [Act.put, List.setIfInBounds_toArray, List.set_cons_zero, List.set_cons_succ]) | (refine wpAnyH_take (i := 2) (v := undef) (by simp only [List.getElem?_toArray, List.getElem?_cons_zero, List.getElem?_cons_succ]; rfl) (by kernel_rfl) (by kernel_rfl) (by kernel_rfl) (fun _ _ _ h => h) (Or.inr ⟨by rfl, rfl⟩) (by assumption) ?_; try simp only [Act.put, List.setIfInBounds_toArray, List.set_cons_zero, List.set_cons_succ])
  first | (refine wpAnyH_take (i := 3) (v := ?_) (by simp only [List.getElem?_toArray, List.getElem?_cons_zero, List.getElem?_cons_succ]; rfl) (by kernel_rfl) (by kernel_rfl) (by kernel_rfl) (fun _ _ _ h => h) (Or.inl ⟨by rfl, ?_⟩) (by assumption) ?_; rotate_left; (· (intro w hSw; (try dsimp only at hSw); go_simp <;> with_reducible rfl)); try simp only [Act.put, List.setIfInBounds_toArray, List.set_cons_zero, List.set_cons_succ]) | (refine wpAnyH_take (i := 3) (v := undef) (by simp only [List.getElem?_toArray, List.getElem?_cons_zero, List.getElem?_cons_succ]; rfl) (by kernel_rfl) (by kernel_rfl) (by kernel_rfl) (fun _ _ _ h => h) (Or.inr ⟨by rfl, rfl⟩) (by assumption) ?_; try simp only [Act.put, List.setIfInBounds_toArray, List.set_cons_zero, List.set_cons_succ])
  first | (refine wpAnyH_take (i := 4) (v := ?_) (by simp only [List.getElem?_toArray, List.getElem?_cons_zero, List.getElem?_cons_succ]; rfl) (by kernel_rfl) (by kernel_rfl) (by kernel_rfl) (fun _ _ _ h => h) (Or.inl ⟨by rfl, ?_⟩) (by assumption) ?_; rotate_left; (· (intro w hSw; (try dsimp only at hSw); go_simp <;> with_reducible rfl)); try simp only [Act.put, List.setIfInBounds_toArray, List.set_cons_zero, List.set_cons_succ]) | (refine wpAnyH_take (i := 4) (v := undef) (by simp only [List.getElem?_toArray, List.getElem?_cons_zero, List.getElem?_cons_succ]; rfl) (by kernel_rfl) (by kernel_rfl) (by kernel_rfl) (fun _ _ _ h => h) (Or.inr ⟨by rfl, rfl⟩) (by assumption) ?_; try simp only [Act.put, List.setIfInBounds_toArray, List.set_cons_zero, List.set_cons_succ])
  first | (refine wpAnyH_take (i := 5) (v := ?_) (by simp only [List.getElem?_toArray, List.getElem?_cons_zero, List.getElem?_cons_succ]; rfl) (by kernel_rfl) (by kernel_rfl) (by kernel_rfl) (fun _ _ _ h => h) (Or.inl ⟨by rfl, ?_⟩) (by assumption) ?_; rotate_left; (· (intro w hSw; (try dsimp only at hSw); go_simp <;> with_reducible rfl)); try simp only [Act.put, List.setIfInBounds_toArray, List.set_cons_zero, List.set_cons_succ]) | (refine wpAnyH_take (i := 5) (v := undef) (by simp only [List.getElem?_toArray, List.getElem?_cons_zero, List.getElem?_cons_succ]; rfl) (by kernel_rfl) (by kernel_rfl) (by kernel_rfl) (fun _ _ _ h => h) (Or.inr ⟨by rfl, rfl⟩) (by assumption) ?_; try simp only [Act.put, List.setIfInBounds_toArray, List.set_cons_zero, List.set_cons_succ])
  first | (refine wpAnyH_take (i := 6) (v := ?_) (by simp only [List.getElem?_toArray, List.getElem?_cons_zero, List.getElem?_cons_succ]; rfl) (by kernel_rfl) (by kernel_rfl) (by kernel_rfl) (fun _ _ _ h => h) (Or.inl ⟨by rfl, ?_⟩) (by assumption) ?_; rotate_left; (· (intro w hSw; (try dsimp only at hSw); go_simp <;> with_reducible rfl)); try simp only [Act.put, List.setIfInBounds_toArray, List.set_cons_zero, List.set_cons_succ]) | (refine wpAnyH_take (i := 6) (v := undef) (by simp only [List.getElem?_toArray, List.getElem?_cons_zero, List.getElem?_cons_succ]; rfl) (by kernel_rfl) (by kernel_rfl) (by kernel_rfl) (fun _ _ _ h => h) (Or.inr ⟨by rfl, rfl⟩) (by assumption) ?_; try simp only [Act.put, List.setIfInBounds_toArray, List.set_cons_zero, List.set_cons_succ])
  first | (refine wpAnyH_take (i := 7) (v := ?_) (by simp only [List.getElem?_toArray, List.getElem?_cons_zero, List.getElem?_cons_succ]; rfl) (by kernel_rfl) (by kernel_rfl) (by kernel_rfl) (fun _ _ _ h => h) (Or.inl ⟨by rfl, ?_⟩) (by assumption) ?_; rotate_left; (· (intro w hSw; (try dsimp only at hSw); go_simp <;> with_reducible rfl)); try simp only [Act.put, List.setIfInBounds_toArray, List.set_cons_zero, List.set_cons_succ]) | (refine wpAnyH_take (i := 7) (v := undef) (by simp only [List.getElem?_toArray, List.getElem?_cons_zero, List.getElem?_cons_succ]; rfl) (by kernel_rfl) (by kernel_rfl) (by kernel_rfl) (fun _ _ _ h => h) (Or.inr ⟨by rfl, rfl⟩) (by assumption) ?_; try simp only [Act.put, List.setIfInBounds_toArray, List.set_cons_zero, List.set_cons_succ])
  first | (refine wpAnyH_take (i := 8) (v := ?_) (by simp only [List.getElem?_toArray, List.getElem?_cons_zero, List.getElem?_cons_succ]; rfl) (by kernel_rfl) (by kernel_rfl) (by kernel_rfl) (fun _ _ _ h => h) (Or.inl ⟨by rfl, ?_⟩) (by assumption) ?_; rotate_left; (· (intro w hSw; (try dsimp only at hSw); go_simp <;> with_reducible rfl)); try simp only [Act.put, List.setIfInBounds_toArray, List.set_cons_zero, List.set_cons_succ]) | (refine wpAnyH_take (i := 8) (v := undef) (by simp only [List.getElem?_toArray, List.getElem?_cons_zero, List.getElem?_cons_succ]; rfl) (by kernel_rfl) (by kernel_rfl) (by kernel_rfl) (fun _ _ _ h => h) (Or.inr ⟨by rfl, rfl⟩) (by assumption) ?_; try simp only [Act.put, List.setIfInBounds_toArray, List.set_cons_zero, List.set_cons_succ])
  first | (refine wpAnyH_take (i := 9) (v := ?_) (by simp only [List.getElem?_toArray, List.getElem?_cons_zero, List.getElem?_cons_succ]; rfl) (by kernel_rfl) (by kernel_rfl) (by kernel_rfl) (fun _ _ _ h => h) (Or.inl ⟨by rfl, ?_⟩) (by assumption) ?_; rotate_left; (· (intro w hSw; (try dsimp only at hSw); go_simp <;> with_reducible rfl)); try simp only [Act.put, List.setIfInBounds_toArray, List.set_cons_zero, List.set_cons_succ]) | (refine wpAnyH_take (i := 9) (v := undef) (by simp only [List.getElem?_toArray, List.getElem?_cons_zero, List.getElem?_cons_succ]; rfl) (by kernel_rfl) (by kernel_rfl) (by kernel_rfl) (fun _ _ _ h => h) (Or.inr ⟨by rfl, rfl⟩) (by assumption) ?_; try simp only [Act.put, List.setIfInBounds_toArray, List.set_cons_zero, List.set_cons_succ])
  first | (refine wpAnyH_take (i := 10) (v := ?_) (by simp only [List.getElem?_toArray, List.getElem?_cons_zero, List.getElem?_cons_succ]; rfl) (by kernel_rfl) (by kernel_rfl) (by kernel_rfl) (fun _ _ _ h => h) (Or.inl ⟨by rfl, ?_⟩) (by assumption) ?_; rotate_left; (· (intro w hSw; (try dsimp only at hSw); go_simp <;> with_reducible rfl)); try simp only [Act.put, List.setIfInBounds_toArray, List.set_cons_zero, List.set_cons_succ]) | (refine wpAnyH_take (i := 10) (v := undef) (by simp only [List.getElem?_toArray, List.getElem?_cons_zero, List.getElem?_cons_succ]; rfl) (by kernel_rfl) (by kernel_rfl) (by kernel_rfl) (fun _ _ _ h => h) (Or.inr ⟨by rfl, rfl⟩) (by assumption) ?_; try simp only [Act.put, List.setIfInBounds_toArray, List.set_cons_zero, List.set_cons_succ])
  first | (refine wpAnyH_take (i := 11) (v := ?_) (by simp only [List.getElem?_toArray, List.getElem?_cons_zero, List.getElem?_cons_succ]; rfl) (by kernel_rfl) (by kernel_rfl) (by kernel_rfl) (fun _ _ _ h => h) (Or.inl ⟨by rfl, ?_⟩) (by assumption) ?_; rotate_left; (· (intro w hSw; (try dsimp only at hSw); go_simp <;> with_reducible rfl)); try simp only [Act.put, List.setIfInBounds_toArray, List.set_cons_zero, List.set_cons_succ]) | (refine wpAnyH_take (i := 11) (v := undef) (by simp only [List.getElem?_toArray, List.getElem?_cons_zero, List.getElem?_cons_succ]; rfl) (by kernel_rfl) (by kernel_rfl) (by kernel_rfl) (fun _ _ _ h => h) (Or.inr ⟨by rfl, rfl⟩) (by assumption) ?_; try simp only [Act.put, List.setIfInBounds_toArray, List.set_cons_zero, List.set_cons_succ])
  first | (refine wpAnyH_take (i := 12) (v := ?_) (by simp only [List.getElem?_toArray, List.getElem?_cons_zero, List.getElem?_cons_succ]; rfl) (by kernel_rfl) (by kernel_rfl) (by kernel_rfl) (fun _ _ _ h => h) (Or.inl ⟨by rfl, ?_⟩) (by assumption) ?_; rotate_left; (· (intro w hSw; (try dsimp only at hSw); go_simp <;> with_reducible rfl)); try simp only [Act.put, List.setIfInBounds_toArray, List.set_cons_zero, List.set_cons_succ]) | (refine wpAnyH_take (i := 12) (v := undef) (by simp only [List.getElem?_toArray, List.getElem?_cons_zero, List.getElem?_cons_succ]; rfl) (by kernel_rfl) (by kernel_rfl) (by kernel_rfl) (fun _ _ _ h => h) (Or.inr ⟨by rfl, rfl⟩) (by assumption) ?_; try simp only [Act.put, List.setIfInBounds_toArray, List.set_cons_zero, List.set_cons_succ])
  first | (refine wpAnyH_take (i := 13) (v := ?_) (by simp only [List.getElem?_toArray, List.getElem?_cons_zero, List.getElem?_cons_succ]; rfl) (by kernel_rfl) (by kernel_rfl) (by kernel_rfl) (fun _ _ _ h => h) (Or.inl ⟨by rfl, ?_⟩) (by assumption) ?_; rotate_left; (· (intro w hSw; (try dsimp only at hSw); go_simp <;> with_reducible rfl)); try simp only [Act.put, List.setIfInBounds_toArray, List.set_cons_zero, List.set_cons_succ]) | (refine wpAnyH_take (i := 13) (v := undef) (by simp only [List.getElem?_toArray, List.getElem?_cons_zero, List.getElem?_cons_succ]; rfl) (by kernel_rfl) (by kernel_rfl) (by kernel_rfl) (fun _ _ _ h => h) (Or.inr ⟨by rfl, rfl⟩) (by assumption) ?_; try simp only [Act.put, List.setIfInBounds_toArray, List.set_cons_zero, List.set_cons_succ])
  first | (refine wpAnyH_take (i := 14) (v := ?_) (by simp only [List.getElem?_toArray, List.getElem?_cons_zero, List.getElem?_cons_succ]; rfl) (by kernel_rfl) (by kernel_rfl) (by kernel_rfl) (fun _ _ _ h => h) (Or.inl ⟨by rfl, ?_⟩) (by assumption) ?_; rotate_left; (· (intro w hSw; (try dsimp only at hSw); go_simp <;> with_reducible rfl)); try simp only [Act.put, List.setIfInBounds_toArray, List.set_cons_zero, List.set_cons_succ]) | (refine wpAnyH_take (i := 14) (v := undef) (by simp only [List.getElem?_toArray, List.getElem?_cons_zero, List.getElem?_cons_succ]; rfl) (by kernel_rfl) (by kernel_rfl) (by kernel_rfl) (fun _ _ _ h => h) (Or.inr ⟨by rfl, rfl⟩) (by assumption) ?_; try simp only [Act.put, List.setIfInBounds_toArray, List.set_cons_zero, List.set_cons_succ])
  first | (refine wpAnyH_take (i := 15) (v := ?_) (by simp only [List.getElem?_toArray, List.getElem?_cons_zero, List.getElem?_cons_succ]; rfl) (by kernel_rfl) (by kernel_rfl) (by kernel_rfl) (fun _ _ _ h => h) (Or.inl ⟨by rfl, ?_⟩) (by assumption) ?_; rotate_left; (· (intro w hSw; (try dsimp only at hSw); go_simp <;> with_reducible rfl)); try simp only [Act.put, List.setIfInBounds_toArray, List.set_cons_zero, List.set_cons_succ]) | (refine wpAnyH_take (i := 15) (v := undef) (by simp only [List.getElem?_toArray, List.getElem?_cons_zero, List.getElem?_cons_succ]; rfl) (by kernel_rfl) (by kernel_rfl) (by kernel_rfl) (fun _ _ _ h => h) (Or.inr ⟨by rfl, rfl⟩) (by assumption) ?_; try simp only [Act.put, List.setIfInBounds_toArray, List.set_cons_zero, List.set_cons_succ])
  first | (refine wpAnyH_take (i := 16) (v := ?_) (by simp only [List.getElem?_toArray, List.getElem?_cons_zero, List.getElem?_cons_succ]; rfl) (by kernel_rfl) (by kernel_rfl) (by kernel_rfl) (fun _ _ _ h => h) (Or.inl ⟨by rfl, ?_⟩) (by assumption) ?_; rotate_left; (· (intro w hSw; (try dsimp only at hSw); go_simp <;> with_reducible rfl)); try simp only [Act.put, List.setIfInBounds_toArray, List.set_cons_zero, List.set_cons_succ]) | (refine wpAnyH_take (i := 16) (v := undef) (by simp only [List.getElem?_toArray, List.getElem?_cons_zero, List.getElem?_cons_succ]; rfl) (by kernel_rfl) (by kernel_rfl) (by kernel_rfl) (fun _ _ _ h => h) (Or.inr ⟨by rfl, rfl⟩) (by assumption) ?_; try simp only [Act.put, List.setIfInBounds_toArray, List.set_cons_zero, List.set_cons_succ])
  first | (refine wpAnyH_take (i := 17) (v := ?_) (by simp only [List.getElem?_toArray, List.getElem?_cons_zero, List.getElem?_cons_succ]; rfl) (by kernel_rfl) (by kernel_rfl) (by kernel_rfl) (fun _ _ _ h => h) (Or.inl ⟨by rfl, ?_⟩) (by assumption) ?_; rotate_left; (· (intro w hSw; (try dsimp only at hSw); go_simp <;> with_reducible rfl)); try simp only [Act.put, List.setIfInBounds_toArray, List.set_cons_zero, List.set_cons_succ]) | (refine wpAnyH_take (i := 17) (v := undef) (by simp only [List.getElem?_toArray, List.getElem?_cons_zero, List.getElem?_cons_succ]; rfl) (by kernel_rfl) (by kernel_rfl) (by kernel_rfl) (fun _ _ _ h => h) (Or.inr ⟨by rfl, rfl⟩) (by assumption) ?_; try simp only [Act.put, List.setIfInBounds_toArray, List.set_cons_zero, List.set_cons_succ])
  first | (refine wpAnyH_take (i := 18) (v := ?_) (by simp only [List.getElem?_toArray, List.getElem?_cons_zero, List.getElem?_cons_succ]; rfl) (by kernel_rfl) (by kernel_rfl) (by kernel_rfl) (fun _ _ _ h => h) (Or.inl ⟨by rfl, ?_⟩) (by assumption) ?_; rotate_left; (· (intro w hSw; (try dsimp only at hSw); go_simp <;> with_reducible rfl)); try simp only [Act.put, List.setIfInBounds_toArray, List.set_cons_zero, List.set_cons_succ]) | (refine wpAnyH_take (i := 18) (v := undef) (by simp only [List.getElem?_toArray, List.getElem?_cons_zero, List.getElem?_cons_succ]; rfl) (by kernel_rfl) (by kernel_rfl) (by kernel_rfl) (fun _ _ _ h => h) (Or.inr ⟨by rfl, rfl⟩) (by assumption) ?_; try simp only [Act.put, List.setIfInBounds_toArray, List.set_cons_zero, List.set_cons_succ])
  first | (refine wpAnyH_take (i := 19) (v := ?_) (by simp only [List.getElem?_toArray, List.getElem?_cons_zero, List.getElem?_cons_succ]; rfl) (by kernel_rfl) (by kernel_rfl) (by kernel_rfl) (fun _ _ _ h => h) (Or.inl ⟨by rfl, ?_⟩) (by assumption) ?_; rotate_left; (· (intro w hSw; (try dsimp only at hSw); go_simp <;> with_reducible rfl)); try simp only [Act.put, List.setIfInBounds_toArray, List.set_cons_zero, List.set_cons_succ]) | (refine wpAnyH_take (i := 19) (v := undef) (by simp only [List.getElem?_toArray, List.getElem?_cons_zero, List.getElem?_cons_succ]; rfl) (by kernel_rfl) (by kernel_rfl) (by kernel_rfl) (fun _ _ _ h => h) (Or.inr ⟨by rfl, rfl⟩) (by assumption) ?_; try simp only [Act.put, List.setIfInBounds_toArray, List.set_cons_zero, List.set_cons_succ])
  first | (refine wpAnyH_take (i := 20) (v := ?_) (by simp only [List.getElem?_toArray, List.getElem?_cons_zero, List.getElem?_cons_succ]; rfl) (by kernel_rfl) (by kernel_rfl) (by kernel_rfl) (fun _ _ _ h => h) (Or.inl ⟨by rfl, ?_⟩) (by assumption) ?_; rotate_left; (· (intro w hSw; (try dsimp only at hSw); go_simp <;> with_reducible rfl)); try simp only [Act.put, List.setIfInBounds_toArray, List.set_cons_zero, List.set_cons_succ]) | (refine wpAnyH_take (i := 20) (v := undef) (by simp only [List.getElem?_toArray, List.getElem?_cons_zero, List.getElem?_cons_succ]; rfl) (by kernel_rfl) (by kernel_rfl) (by kernel_rfl) (fun _ _ _ h => h) (Or.inr ⟨by rfl, rfl⟩) (by assumption) ?_; try simp only [Act.put, List.setIfInBounds_toArray, List.set_cons_zero, List.set_cons_succ])
  first | (refine wpAnyH_take (i := 21) (v := ?_) (by simp only [List.getElem?_toArray, List.getElem?_cons_zero, List.getElem?_cons_succ]; rfl) (by kernel_rfl) (by kernel_rfl) (by kernel_rfl) (fun _ _ _ h => h) (Or.inl ⟨by rfl, ?_⟩) (by assumption) ?_; rotate_left; (· (intro w hSw; (try dsimp only at hSw); go_simp <;> with_reducible rfl)); try simp only [Act.put, List.setIfInBounds_toArray, List.set_cons_zero, List.set_cons_succ]) | (refine wpAnyH_take (i := 21) (v := undef) (by simp only [List.getElem?_toArray, List.getElem?_cons_zero, List.getElem?_cons_succ]; rfl) (by kernel_rfl) (by kernel_rfl) (by kernel_rfl) (fun _ _ _ h => h) (Or.inr ⟨by rfl, rfl⟩) (by assumption) ?_; try simp only [Act.put, List.setIfInBounds_toArray, List.set_cons_zero, List.set_cons_succ])
  first | (refine wpAnyH_take (i := 22) (v := ?_) (by simp only [List.getElem?_toArray, List.getElem?_cons_zero, List.getElem?_cons_succ]; rfl) (by kernel_rfl) (by kernel_rfl) (by kernel_rfl) (fun _ _ _ h => h) (Or.inl ⟨by rfl, ?_⟩) (by assumption) ?_; rotate_left; (· (intro w hSw; (try dsimp only at hSw); go_simp <;> with_reducible rfl)); try simp only [Act.put, List.setIfInBounds_toArray, List.set_cons_zero, List.set_cons_succ]) | (refine wpAnyH_take (i := 22) (v := undef) (by simp only [List.getElem?_toArray, List.getElem?_cons_zero, List.getElem?_cons_succ]; rfl) (by kernel_rfl) (by kernel_rfl) (by kernel_rfl) (fun _ _ _ h => h) (Or.inr ⟨by rfl, rfl⟩) (by assumption) ?_; try simp only [Act.put, List.setIfInBounds_toArray, List.set_cons_zero, List.set_cons_succ])
  first | (refine wpAnyH_take (i := 23) (v := ?_) (by simp only [List.getElem?_toArray, List.getElem?_cons_zero, List.getElem?_cons_succ]; rfl) (by kernel_rfl) (by kernel_rfl) (by kernel_rfl) (fun _ _ _ h => h) (Or.inl ⟨by rfl, ?_⟩) (by assumption) ?_; rotate_left; (· (intro w hSw; (try dsimp only at hSw); go_simp <;> with_reducible rfl)); try simp only [Act.put, List.setIfInBounds_toArray, List.set_cons_zero, List.set_cons_succ]) | (refine wpAnyH_take (i := 23) (v := undef) (by simp only [List.getElem?_toArray, List.getElem?_cons_zero, List.getElem?_cons_succ]; rfl) (by kernel_rfl) (by kernel_rfl) (by kernel_rfl) (fun _ _ _ h => h) (Or.inr ⟨by rfl, rfl⟩) (by assumption) ?_; try simp only [Act.put, List.setIfInBounds_toArray, List.set_cons_zero, List.set_cons_succ])
  first | (refine wpAnyH_take (i := 24) (v := ?_) (by simp only [List.getElem?_toArray, List.getElem?_cons_zero, List.getElem?_cons_succ]; rfl) (by kernel_rfl) (by kernel_rfl) (by kernel_rfl) (fun _ _ _ h => h) (Or.inl ⟨by rfl, ?_⟩) (by assumption) ?_; rotate_left; (· (intro w hSw; (try dsimp only at hSw); go_simp <;> with_reducible rfl)); try simp only [Act.put, List.setIfInBounds_toArray, List.set_cons_zero, List.set_cons_succ]) | (refine wpAnyH_take (i := 24) (v := undef) (by simp only [List.getElem?_toArray, List.getElem?_cons_zero, List.getElem?_cons_succ]; rfl) (by kernel_rfl) (by kernel_rfl) (by kernel_rfl) (fun _ _ _ h => h) (Or.inr ⟨by rfl, rfl⟩) (by assumption) ?_; try simp only [Act.put, List.setIfInBounds_toArray, List.set_cons_zero, List.set_cons_succ])
  first | (refine wpAnyH_take (i := 25) (v := ?_) (by simp only [List.getElem?_toArray, List.getElem?_cons_zero, List.getElem?_cons_succ]; rfl) (by kernel_rfl) (by kernel_rfl) (by kernel_rfl) (fun _ _ _ h => h) (Or.inl ⟨by rfl, ?_⟩) (by assumption) ?_; rotate_left; (· (intro w hSw; (try dsimp only at hSw); go_simp <;> with_reducible rfl)); try simp only [Act.put, List.setIfInBounds_toArray, List.set_cons_zero, List.set_cons_succ]) | (refine wpAnyH_take (i := 25) (v := undef) (by simp only [List.getElem?_toArray, List.getElem?_cons_zero, List.getElem?_cons_succ]; rfl) (by kernel_rfl) (by kernel_rfl) (by kernel_rfl) (fun _ _ _ h => h) (Or.inr ⟨by rfl, rfl⟩) (by assumption) ?_; try simp only [Act.put, List.setIfInBounds_toArray, List.set_cons_zero, List.set_cons_succ])
  first | (refine wpAnyH_take (i := 26) (v := ?_) (by simp only [List.getElem?_toArray, List.getElem?_cons_zero, List.getElem?_cons_succ]; rfl) (by kernel_rfl) (by kernel_rfl) (by kernel_rfl) (fun _ _ _ h => h) (Or.inl ⟨by rfl, ?_⟩) (by assumption) ?_; rotate_left; (· (intro w hSw; (try dsimp only at hSw); go_simp <;> with_reducible rfl)); try simp only [Act.put, List.setIfInBounds_toArray, List.set_cons_zero, List.set_cons_succ]) | (refine wpAnyH_take (i := 26) (v := undef) (by simp only [List.getElem?_toArray, List.getElem?_cons_zero, List.getElem?_cons_succ]; rfl) (by kernel_rfl) (by kernel_rfl) (by kernel_rfl) (fun _ _ _ h => h) (Or.inr ⟨by rfl, rfl⟩) (by assumption) ?_; try simp only [Act.put, List.setIfInBounds_toArray, List.set_cons_zero, List.set_cons_succ])
  first | (refine wpAnyH_take (i := 27) (v := ?_) (by simp only [List.getElem?_toArray, List.getElem?_cons_zero, List.getElem?_cons_succ]; rfl) (by kernel_rfl) (by kernel_rfl) (by kernel_rfl) (fun _ _ _ h => h) (Or.inl ⟨by rfl, ?_⟩) (by assumption) ?_; rotate_left; (· (intro w hSw; (try dsimp only at hSw); go_simp <;> with_reducible rfl)); try simp only [Act.put, List.setIfInBounds_toArray, List.set_cons_zero, List.set_cons_succ]) | (refine wpAnyH_take (i := 27) (v := undef) (by simp only [List.getElem?_toArray, List.getElem?_cons_zero, List.getElem?_cons_succ]; rfl) (by kernel_rfl) (by kernel_rfl) (by kernel_rfl) (fun _ _ _ h => h) (Or.inr ⟨by rfl, rfl⟩) (by assumption) ?_; try simp only [Act.put, List.setIfInBounds_toArray, List.set_cons_zero, List.set_cons_succ])
  refine wpAnyH_ready (rs := [28]) (by kernel_rfl) (by simp) ?_
  refine AllReadyH.cons (by simp only [List.getElem?_toArray, List.getElem?_cons_zero, List.getElem?_cons_succ]; rfl) (fun K hK => ?_) AllReadyH.nil
  go_simp
  go_at_call 23
  refine (H23 _ (rvS_st (by assumption))).mono ?_
  rintro e w9 ⟨rfl, hb9⟩
  refine hK.out _ _ ?_ (fun hHeld => ?_)
  · exact rvS_below (by assumption) (by assumption)
  clear hK K
  try simp only [Act.put, List.setIfInBounds_toArray, List.set_cons_zero, List.set_cons_succ]
  first | (refine wpAnyH_take (i := 29) (v := ?_) (by simp only [List.getElem?_toArray, List.getElem?_cons_zero, List.getElem?_cons_succ]; rfl) (by kernel_rfl) (by kernel_rfl) (by kernel_rfl) (fun _ _ _ h => h) (Or.inl ⟨by rfl, ?_⟩) (by assumption) ?_; rotate_left; (· (intro w hSw; (try dsimp only at hSw); go_simp <;> with_reducible rfl)); try simp only [Act.put, List.setIfInBounds_toArray, List.set_cons_zero, List.set_cons_succ]) | (refine wpAnyH_take (i := 29) (v := undef) (by simp only [List.getElem?_toArray, List.getElem?_cons_zero, List.getElem?_cons_succ]; rfl) (by kernel_rfl) (by kernel_rfl) (by kernel_rfl) (fun _ _ _ h => h) (Or.inr ⟨by rfl, rfl⟩) (by assumption) ?_; try simp only [Act.put, List.setIfInBounds_toArray, List.set_cons_zero, List.set_cons_succ])
  first | (refine wpAnyH_take (i := 30) (v := ?_) (by simp only [List.getElem?_toArray, List.getElem?_cons_zero, List.getElem?_cons_succ]; rfl) (by kernel_rfl) (by kernel_rfl) (by kernel_rfl) (fun _ _ _ h => h) (Or.inl ⟨by rfl, ?_⟩) (by assumption) ?_; rotate_left; (· (intro w hSw; (try dsimp only at hSw); go_simp <;> with_reducible rfl)); try simp only [Act.put, List.setIfInBounds_toArray, List.set_cons_zero, List.set_cons_succ]) | (refine wpAnyH_take (i := 30) (v := undef) (by simp only [List.getElem?_toArray, List.getElem?_cons_zero, List.getElem?_cons_succ]; rfl) (by kernel_rfl) (by kernel_rfl) (by kernel_rfl) (fun _ _ _ h => h) (Or.inr ⟨by rfl, rfl⟩) (by assumption) ?_; try simp only [Act.put, List.setIfInBounds_toArray, List.set_cons_zero, List.set_cons_succ])
  first | (refine wpAnyH_take (i := 31) (v := ?_) (by simp only [List.getElem?_toArray, List.getElem?_cons_zero, List.getElem?_cons_succ]; rfl) (by kernel_rfl) (by kernel_rfl) (by kernel_rfl) (fun _ _ _ h => h) (Or.inl ⟨by rfl, ?_⟩) (by assumption) ?_; rotate_left; (· (intro w hSw; (try dsimp only at hSw); go_simp <;> with_reducible rfl)); try simp only [Act.put, List.setIfInBounds_toArray, List.set_cons_zero, List.set_cons_succ]) | (refine wpAnyH_take (i := 31) (v := undef) (by simp only [List.getElem?_toArray, List.getElem?_cons_zero, List.getElem?_cons_succ]; rfl) (by kernel_rfl) (by kernel_rfl) (by kernel_rfl) (fun _ _ _ h => h) (Or.inr ⟨by rfl, rfl⟩) (by assumption) ?_; try simp only [Act.put, List.setIfInBounds_toArray, List.set_cons_zero, List.set_cons_succ])
  refine wpAnyH_ready (rs := [32]) (by kernel_rfl) (by simp) ?_
  refine AllReadyH.cons (by simp only [List.getElem?_toArray, List.getElem?_cons_zero, List.getElem?_cons_succ]; rfl) (fun K hK => ?_) AllReadyH.nil
  go_simp
  go_at_call 9
  refine (H16 _ (rvS_st (by assumption))).mono ?_
  rintro e w10 ⟨ga, gc, rfl, hb10⟩
  refine hK.out _ _ ?_ (fun hHeld => ?_)
  · exact rvS_below (by assumption) (by assumption)
  clear hK K
  try simp only [Act.put, List.setIfInBounds_toArray, List.set_cons_zero, List.set_cons_succ]
  first | (refine wpAnyH_take (i := 33) (v := ?_) (by simp only [List.getElem?_toArray, List.getElem?_cons_zero, List.getElem?_cons_succ]; rfl) (by kernel_rfl) (by kernel_rfl) (by kernel_rfl) (fun _ _ _ h => h) (Or.inl ⟨by rfl, ?_⟩) (by assumption) ?_; rotate_left; (· (intro w hSw; (try dsimp only at hSw); go_simp <;> with_reducible rfl)); try simp only [Act.put, List.setIfInBounds_toArray, List.set_cons_zero, List.set_cons_succ]) | (refine wpAnyH_take (i := 33) (v := undef) (by simp only [List.getElem?_toArray, List.getElem?_cons_zero, List.getElem?_cons_succ]; rfl) (by kernel_rfl) (by kernel_rfl) (by kernel_rfl) (fun _ _ _ h => h) (Or.inr ⟨by rfl, rfl⟩) (by assumption) ?_; try simp only [Act.put, List.setIfInBounds_toArray, List.set_cons_zero, List.set_cons_succ])
  first | (refine wpAnyH_take (i := 34) (v := ?_) (by simp only [List.getElem?_toArray, List.getElem?_cons_zero, List.getElem?_cons_succ]; rfl) (by kernel_rfl) (by kernel_rfl) (by kernel_rfl) (fun _ _ _ h => h) (Or.inl ⟨by rfl, ?_⟩) (by assumption) ?_; rotate_left; (· (intro w hSw; (try dsimp only at hSw); go_simp <;> with_reducible rfl)); try simp only [Act.put, List.setIfInBounds_toArray, List.set_cons_zero, List.set_cons_succ]) | (refine wpAnyH_take (i := 34) (v := undef) (by simp only [List.getElem?_toArray, List.getElem?_cons_zero, List.getElem?_cons_succ]; rfl) (by kernel_rfl) (by kernel_rfl) (by kernel_rfl) (fun _ _ _ h => h) (Or.inr ⟨by rfl, rfl⟩) (by assumption) ?_; try simp only [Act.put, List.setIfInBounds_toArray, List.set_cons_zero, List.set_cons_succ])
  first | (refine wpAnyH_take (i := 35) (v := ?_) (by simp only [List.getElem?_toArray, List.getElem?_cons_zero, List.getElem?_cons_succ]; rfl) (by kernel_rfl) (by kernel_rfl) (by kernel_rfl) (fun _ _ _ h => h) (Or.inl ⟨by rfl, ?_⟩) (by assumption) ?_; rotate_left; (· (intro w hSw; (try dsimp only at hSw); go_simp <;> with_reducible rfl)); try simp only [Act.put, List.setIfInBounds_toArray, List.set_cons_zero, List.set_cons_succ]) | (refine wpAnyH_take (i := 35) (v := undef) (by simp only [List.getElem?_toArray, List.getElem?_cons_zero, List.getElem?_cons_succ]; rfl) (by kernel_rfl) (by kernel_rfl) (by kernel_rfl) (fun _ _ _ h => h) (Or.inr ⟨by rfl, rfl⟩) (by assumption) ?_; try simp only [Act.put, List.setIfInBounds_toArray, List.set_cons_zero, List.set_cons_succ])
  first | (refine wpAnyH_take (i := 36) (v := ?_) (by simp only [List.getElem?_toArray, List.getElem?_cons_zero, List.getElem?_cons_succ]; rfl) (by kernel_rfl) (by kernel_rfl) (by kernel_rfl) (fun _ _ _ h => h) (Or.inl ⟨by rfl, ?_⟩) (by assumption) ?_; rotate_left; (· (intro w hSw; (try dsimp only at hSw); go_simp <;> with_reducible rfl)); try simp only [Act.put, List.setIfInBounds_toArray, List.set_cons_zero, List.set_cons_succ]) | (refine wpAnyH_take (i := 36) (v := undef) (by simp only [List.getElem?_toArray, List.getElem?_cons_zero, List.getElem?_cons_succ]; rfl) (by kernel_rfl) (by kernel_rfl) (by kernel_rfl) (fun _ _ _ h => h) (Or.inr ⟨by rfl, rfl⟩) (by assumption) ?_; try simp only [Act.put, List.setIfInBounds_toArray, List.set_cons_zero, List.set_cons_succ])
  first | (refine wpAnyH_take (i := 37) (v := ?_) (by simp only [List.getElem?_toArray, List.getElem?_cons_zero, List.getElem?_cons_succ]; rfl) (by kernel_rfl) (by kernel_rfl) (by kernel_rfl) (fun _ _ _ h => h) (Or.inl ⟨by rfl, ?_⟩) (by assumption) ?_; rotate_left; (· (intro w hSw; (try dsimp only at hSw); go_simp <;> with_reducible rfl)); try simp only [Act.put, List.setIfInBounds_toArray, List.set_cons_zero, List.set_cons_succ]) | (refine wpAnyH_take (i := 37) (v := undef) (by simp only [List.getElem?_toArray, List.getElem?_cons_zero, List.getElem?_cons_succ]; rfl) (by kernel_rfl) (by kernel_rfl) (by kernel_rfl) (fun _ _ _ h => h) (Or.inr ⟨by rfl, rfl⟩) (by assumption) ?_; try simp only [Act.put, List.setIfInBounds_toArray, List.set_cons_zero, List.set_cons_succ])
  refine wpAnyH_ready (rs := [38]) (by kernel_rfl) (by simp) ?_
  refine AllReadyH.cons (by simp only [List.getElem?_toArray, List.getElem?_cons_zero, List.getElem?_cons_succ]; rfl) (fun K hK => ?_) AllReadyH.nil
  go_simp
  go_at_call 23
  refine (H23n _).mono ?_
  rintro e w11 ⟨rfl, hb11⟩
  refine hK.out _ _ ?_ (fun hHeld => ?_)
  · exact rvS_below (by assumption) (by assumption)
  clear hK K
  try simp only [Act.put, List.setIfInBounds_toArray, List.set_cons_zero, List.set_cons_succ]
  first | (refine wpAnyH_take (i := 39) (v := ?_) (by simp only [List.getElem?_toArray, List.getElem?_cons_zero, List.getElem?_cons_succ]; rfl) (by kernel_rfl) (by kernel_rfl) (by kernel_rfl) (fun _ _ _ h => h) (Or.inl ⟨by rfl, ?_⟩) (by assumption) ?_; rotate_left; (· (intro w hSw; (try dsimp only at hSw); go_simp <;> with_reducible rfl)); try simp only [Act.put, List.setIfInBounds_toArray, List.set_cons_zero, List.set_cons_succ]) | (refine wpAnyH_take (i := 39) (v := undef) (by simp only [List.getElem?_toArray, List.getElem?_cons_zero, List.getElem?_cons_succ]; rfl) (by kernel_rfl) (by kernel_rfl) (by kernel_rfl) (fun _ _ _ h => h) (Or.inr ⟨by rfl, rfl⟩) (by assumption) ?_; try simp only [Act.put, List.setIfInBounds_toArray, List.set_cons_zero, List.set_cons_succ])
  first | (refine wpAnyH_take (i := 40) (v := ?_) (by simp only [List.getElem?_toArray, List.getElem?_cons_zero, List.getElem?_cons_succ]; rfl) (by kernel_rfl) (by kernel_rfl) (by kernel_rfl) (fun _ _ _ h => h) (Or.inl ⟨by rfl, ?_⟩) (by assumption) ?_; rotate_left; (· (intro w hSw; (try dsimp only at hSw); go_simp <;> with_reducible rfl)); try simp only [Act.put, List.setIfInBounds_toArray, List.set_cons_zero, List.set_cons_succ]) | (refine wpAnyH_take (i := 40) (v := undef) (by simp only [List.getElem?_toArray, List.getElem?_cons_zero, List.getElem?_cons_succ]; rfl) (by kernel_rfl) (by kernel_rfl) (by kernel_rfl) (fun _ _ _ h => h) (Or.inr ⟨by rfl, rfl⟩) (by assumption) ?_; try simp only [Act.put, List.setIfInBounds_toArray, List.set_cons_zero, List.set_cons_succ])
  first | (refine wpAnyH_take (i := 41) (v := ?_) (by simp only [List.getElem?_toArray, List.getElem?_cons_zero, List.getElem?_cons_succ]; rfl) (by kernel_rfl) (by kernel_rfl) (by kernel_rfl) (fun _ _ _ h => h) (Or.inl ⟨by rfl, ?_⟩) (by assumption) ?_; rotate_left; (· (intro w hSw; (try dsimp only at hSw); go_simp <;> with_reducible rfl)); try simp only [Act.put, List.setIfInBounds_toArray, List.set_cons_zero]) | (refine wpAnyH_take (i := 41) (v := undef) (by simp only [List.getElem?_toArray, List.getElem?_cons_zero, List.getElem?_cons_succ]; rfl) (by kernel_rfl) (by kernel_rfl) (by kernel_rfl) (fun _ _ _ h => h) (Or.inr ⟨by rfl, rfl⟩) (by assumption) ?_; try simp only [Act.put, List.setIfInBounds_toArray, List.set_cons_zero, List.set_cons_succ])
  refine wpAnyH_done (by kernel_rfl) ?_ _
  refine NoPanic.normal ?_
  have hend : Hid (Below w.heap.size w w11) := HE.out.trans (hHeld.2.2.2.2.2.2.2.2.out.1.mono HE.out.size)
  clear hHeld
  go_wp2_with fail
  go_ret
  exact ⟨rfl, hend.out⟩
end Go.Proofs.YtojobiefambkoaaGreatDoor
