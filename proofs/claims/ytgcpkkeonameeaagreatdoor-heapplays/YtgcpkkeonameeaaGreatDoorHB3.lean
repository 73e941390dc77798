/- Contract of live. -/
import Derived.Test.YtgcpkkeonameeaaGreatDoorHB1
import Derived.Test.YtgcpkkeonameeaaGreatDoorW13
namespace Go.Proofs.YtgcpkkeonameeaaGreatDoor
open Go.RowKit
attribute [local go_sem ↓] Go.wp_at_zero Go.wp_at_succ
def kx : C := ⟨4, ⟨#[]⟩, 0, 0, 1⟩
def ky : C := ⟨4, ⟨#[]⟩, 0, 0, 2⟩
def ki : C := ⟨1, ⟨#[]⟩, 3, 0, 0⟩
def km1 : Hp := [((0, 2), [kx])]
def km2 : Hp := [((0, 1), [ki]), ((0, 2), [kx])]
theorem kb1 : bindE [] (0, 2) [kx] = 0 := by kernel_rfl
theorem kb2 : bindE km1 (0, 1) [ki] = 0 := by kernel_rfl
theorem kb3 : bindE km2 (0, 2) [ki] = 70 := by kernel_rfl
theorem kh1 : bindH [] (0, 2) [kx] = km1 := by unfold bindH; rw [if_pos kb1]; rfl
theorem kh2 : bindH km1 (0, 1) [ki] = km2 := by unfold bindH; rw [if_pos kb2]; kernel_rfl
theorem kfol : IsFol km2 [ky] [ki] := ⟨.step (show nextH km2 [ky] = some [kx] by kernel_rfl) (.step (show nextH km2 [kx] = some [ki] by kernel_rfl) (.here _)), by kernel_rfl⟩
theorem wf0 (k : Int) (h : k = 0 ∨ k = 1 ∨ k = 2 ∨ k = 3) : wfN (0, k) := by
  rcases h with rfl | rfl | rfl | rfl <;> exact ⟨by decide, by decide⟩
theorem klook (x : Nm) : (lookH km2 x).isSome = true ↔ x = (0, 1) ∨ x = (0, 2) := by
  unfold lookH km2
  by_cases h1 : x = (0, 1)
  · subst h1; simp
  · by_cases h2 : x = (0, 2)
    · subst h2; simp
    · have e1 : (((0, 1) : Nm) == x) = false := by simpa using fun e => h1 e.symm
      have e2 : (((0, 2) : Nm) == x) = false := by simpa using fun e => h2 e.symm
      simp [List.find?, e1, e2, h1, h2]
theorem kup {w : World} {hb M n : Nat} {D : DataW Value} (h : HpAt w hb M n D km2) {xs : List Nm} (hx : UpK D xs) : xs.length = 2 := by
  have hU : UpK D [(0, 1), (0, 2)] := by
    refine ⟨fun x => ?_, by simp [ltN]⟩
    have key : wfN x → (Maps.has D (kLit x) = true ↔ (lookH km2 x).isSome = true) := fun hw => by
      cases hl : lookH km2 x with
      | none => rw [h.no x hw hl]; simp
      | some l =>
        obtain ⟨v, h1, _⟩ := h.yes x l hw hl
        rw [Maps.has_true_of_atKey h1]; simp
    constructor
    · intro hm
      have hw : wfN x := by
        simp at hm
        rcases hm with rfl | rfl
        · exact wf0 1 (by omega)
        · exact wf0 2 (by omega)
      exact ⟨hw, (key hw).2 ((klook x).2 (by simpa using hm))⟩
    · rintro ⟨hw, hd⟩
      simpa using (klook x).1 ((key hw).1 hd)
  rw [hx.like hU]
  rfl
/-- A heap of the call's own and two names in blocks. -/
structure Hl (w W : World) (p q n : Nat) (m : Hp) : Prop where
  hp : ∃ n' D, n' ≤ n ∧ HpAt W (w.heap.size + 1) w.heap.size n' D m
  bp : W.heap[p]? = some (.cells #[.int .i64 0, .int .i64 1] 24 (0, 0))
  bq : W.heap[q]? = some (.cells #[.int .i64 0, .int .i64 2] 24 (0, 0))
  np : p ≠ w.heap.size
  nq : q ≠ w.heap.size
  bel : Below w.heap.size w W
theorem Hl.below {w W W' : World} {p q n : Nat} {m : Hp} (h : Hl w W p q n m) (hb : Below W.heap.size W W') : Hl w W' p q n m := by
  obtain ⟨n', D, h1, h2⟩ := h.hp
  exact ⟨⟨n', D, h1, h2.below hb⟩, (hb.block p (Array.getElem?_eq_some_iff.1 h.bp).1).trans h.bp, (hb.block q (Array.getElem?_eq_some_iff.1 h.bq).1).trans h.bq, h.np, h.nq, h.bel.trans (hb.mono h.bel.size)⟩
theorem Hl.cells {w W : World} {p q n : Nat} {m : Hp} (h : Hl w W p q n m) : W.cell? ⟨p, 0, none⟩ = some (.int .i64 0) ∧ W.cell? ⟨p, 1, none⟩ = some (.int .i64 1) ∧ W.cell? ⟨q, 0, none⟩ = some (.int .i64 0) ∧ W.cell? ⟨q, 1, none⟩ = some (.int .i64 2) :=
  ⟨by rw [cell_of_row W p 0 _ 24 (0, 0) h.bp]; rfl, by rw [cell_of_row W p 1 _ 24 (0, 0) h.bp]; rfl, by rw [cell_of_row W q 0 _ 24 (0, 0) h.bq]; rfl, by rw [cell_of_row W q 1 _ 24 (0, 0) h.bq]; rfl⟩
theorem Hl.bind {w W : World} {p q n : Nat} {m : Hp} (h : Hl w W p q n m) (hS : Signs w) (x : Nm) (c : C) (v : Value) (hx : wfN x) (hc : wfN (c.vn, c.vk)) (hT : TermAt W v [c]) (hn : n < 10) :
    Calls Tryz.prog 24 #[.pointer (some ⟨w.heap.size + 1, 0, none⟩), .agg #[.int .i64 x.1, .int .i64 x.2], v] W fun e w' => e = .returned (.int .i64 (bindE m x [c])) ∧ Hid (Hl w w' p q (n + 1) (bindH m x [c])) := by
  obtain ⟨n', D, h1, h2⟩ := h.hp
  refine (h11 m _ _ n' D x [c] v W h2 hx hT (by intro d hd; simp at hd; subst hd; exact hc) (hS.below h.bel) (by simp) (by unfold maxLen; omega)).mono ?_
  rintro e w' ⟨rfl, n2, D2, k1, k2, k3, _⟩
  exact ⟨rfl, ⟨n2, D2, by omega, k1⟩, (k3.2.2.2.2 p (Array.getElem?_eq_some_iff.1 h.bp).1 h.np).trans h.bp, (k3.2.2.2.2 q (Array.getElem?_eq_some_iff.1 h.bq).1 h.nq).trans h.bq, h.np, h.nq, h.bel.trans (k3.below (Nat.le_refl _) h.bel.size)⟩
theorem two23 {w1 U : World} {p q : Nat} {x y x' y' : Value} (hU : (w1.alloc (.cells #[.int .i64 0, .int .i64 0] 24)).alloc (.cells #[.int .i64 0, .int .i64 0] 24) = U) (hp : w1.heap.size = p) (hq : p + 1 = q) :
    (U.cell? ⟨p, 0, none⟩ = some (.int .i64 0) ∧ U.cell? ⟨p, 1, none⟩ = some (.int .i64 0) ∧ U.cell? ⟨q, 0, none⟩ = some (.int .i64 0) ∧ U.cell? ⟨q, 1, none⟩ = some (.int .i64 0)) ∧ (U.frozen? ⟨p, 0, none⟩ = false ∧ U.frozen? ⟨p, 1, none⟩ = false ∧ U.frozen? ⟨q, 0, none⟩ = false ∧ U.frozen? ⟨q, 1, none⟩ = false) ∧
    ∀ V, (((U.setCell ⟨p, 0, none⟩ x).setCell ⟨p, 1, none⟩ y).setCell ⟨q, 0, none⟩ x').setCell ⟨q, 1, none⟩ y' = V → V.heap[p]? = some (.cells #[x, y] 24 (0, 0)) ∧ V.heap[q]? = some (.cells #[x', y'] 24 (0, 0)) ∧ Below w1.heap.size w1 V := by
  have b1 : Below w1.heap.size w1 (w1.alloc (.cells #[.int .i64 0, .int .i64 0] 24)) := (Below.refl _ w1).alloc (Nat.le_refl _) _
  have hcp : U.heap[p]? = some (.cells #[.int .i64 0, .int .i64 0] 24 (0, 0)) := by
    rw [← hU, ← hp, heap_alloc_old _ _ (by simp)]; exact heap_alloc_new w1 _
  have hcq : U.heap[q]? = some (.cells #[.int .i64 0, .int .i64 0] 24 (0, 0)) := by
    rw [← hU, ← hq, ← hp]
    have := heap_alloc_new (w1.alloc (.cells #[.int .i64 0, .int .i64 0] 24)) (.cells #[.int .i64 0, .int .i64 0] 24)
    simpa using this
  have hB : Below w1.heap.size w1 U := by rw [← hU]; exact b1.alloc b1.size _
  have hne : p ≠ q := by omega
  refine ⟨⟨by rw [cell_of_row U p 0 _ 24 (0, 0) hcp]; rfl, by rw [cell_of_row U p 1 _ 24 (0, 0) hcp]; rfl, by rw [cell_of_row U q 0 _ 24 (0, 0) hcq]; rfl, by rw [cell_of_row U q 1 _ 24 (0, 0) hcq]; rfl⟩, ⟨frozen_of_row U p 0 _ 24 hcp, frozen_of_row U p 1 _ 24 hcp, frozen_of_row U q 0 _ 24 hcq, frozen_of_row U q 1 _ 24 hcq⟩, fun V hV => ?_⟩
  have e1 := heap_setCell_same U p 0 _ 24 x hcp
  have e2 := heap_setCell_same _ p 1 _ 24 y e1
  have f0 : ((U.setCell ⟨p, 0, none⟩ x).setCell ⟨p, 1, none⟩ y).heap[q]? = some (.cells #[.int .i64 0, .int .i64 0] 24 (0, 0)) := by
    rw [heap_setCell_other _ ⟨p, 1, none⟩ q _ (Ne.symm hne), heap_setCell_other _ ⟨p, 0, none⟩ q _ (Ne.symm hne)]; exact hcq
  have f1 := heap_setCell_same _ q 0 _ 24 x' f0
  have f2 := heap_setCell_same _ q 1 _ 24 y' f1
  have l1 : w1.heap.size ≤ p := by omega
  have l2 : w1.heap.size ≤ q := by omega
  rw [← hV]
  refine ⟨?_, f2, (((hB.setCell (p := ⟨p, 0, none⟩) l1 _).setCell (p := ⟨p, 1, none⟩) l1 _).setCell (p := ⟨q, 0, none⟩) l2 _).setCell (p := ⟨q, 1, none⟩) l2 _⟩
  rw [heap_setCell_other _ ⟨q, 1, none⟩ p _ hne, heap_setCell_other _ ⟨q, 0, none⟩ p _ hne]; exact e2
set_option maxRecDepth 100000 in
set_option maxHeartbeats 8000000 in
theorem h10 (w : World) (hS : Signs w) : Calls Tryz.prog 9 #[] w fun e w' => e = .returned (.bool true) ∧ Below w.heap.size w w' := by
  have HS : Hid (Signs w) := hS
  clear hS
  have H26 : Calls Tryz.prog 22 #[] w fun e w' => e = .returned (.pointer (some ⟨w.heap.size + 1, 0, none⟩)) ∧ Hid (HpAt w' (w.heap.size + 1) w.heap.size 0 (.map []) [] ∧ Below w.heap.size w w') := h26 w
  go_enter Tryz.func9, Tryz.ntmps9
  go_wp2_with fail
  refine H26.mono ?_
  rintro e w1 ⟨rfl, H1⟩
  clear H26
  obtain ⟨h0, hh0⟩ : ∃ h0, w.heap.size + 1 = h0 := ⟨_, rfl⟩
  obtain ⟨p, hp⟩ : ∃ p, w1.heap.size = p := ⟨_, rfl⟩
  obtain ⟨q, hq⟩ : ∃ q, p + 1 = q := ⟨_, rfl⟩
  obtain ⟨U, hU⟩ : ∃ U, (w1.alloc (.cells #[.int .i64 0, .int .i64 0] 24)).alloc (.cells #[.int .i64 0, .int .i64 0] 24) = U := ⟨_, rfl⟩
  obtain ⟨⟨c00, c01, c10, c11⟩, ⟨f00, f01, f10, f11⟩, hVV⟩ := two23 (x := .int .i64 0) (y := .int .i64 1) (x' := .int .i64 0) (y' := .int .i64 2) hU hp hq
  obtain ⟨V, hV⟩ : ∃ V, (((U.setCell ⟨p, 0, none⟩ (.int .i64 0)).setCell ⟨p, 1, none⟩ (.int .i64 1)).setCell ⟨q, 0, none⟩ (.int .i64 0)).setCell ⟨q, 1, none⟩ (.int .i64 2) = V := ⟨_, rfl⟩
  have H2 : Hid (Hl w V p q 0 []) := by
    obtain ⟨g1, g2, g3⟩ := hVV V hV
    have hlt := (Array.getElem?_eq_some_iff.1 H1.out.1.blk).1
    exact ⟨⟨0, _, Nat.le_refl _, H1.out.1.below g3⟩, g1, g2, by omega, by omega, H1.out.2.trans (g3.mono H1.out.2.size)⟩
  obtain ⟨d0, d1, d2, d3⟩ := H2.out.cells
  clear hVV H1
  have B1 : Calls Tryz.prog 24 #[.pointer (some ⟨h0, 0, none⟩), .agg #[.int .i64 0, .int .i64 2], .slice (some ⟨V.heap.size, 0, none⟩) 1 1] (V.alloc (.cells #[.int .u8 4, .string ⟨#[]⟩, .int .i64 0, .int .i64 0, .int .i64 1] 59)) fun e w' => e = .returned (.int .i64 0) ∧ Hid (Hl w w' p q 1 km1) := by
    have := (H2.out.below (below_alloc V (.cells #[.int .u8 4, .string ⟨#[]⟩, .int .i64 0, .int .i64 0, .int .i64 1] 59))).bind HS.out (0, 2) kx _ (wf0 2 (by omega)) (wf0 1 (by omega)) (termAt_new V kx (by decide)) (by omega)
    rw [kb1, kh1] at this
    rw [← hh0]; exact this
  go_wp2_with fail
  refine B1.mono ?_
  rintro e w2 ⟨rfl, H3⟩
  clear B1 H2 d0 d1 d2 d3 hU hp hq hV c00 c01 c10 c11 f00 f01 f10 f11
  obtain ⟨d0, d1, d2, d3⟩ := H3.out.cells
  have B2 : Calls Tryz.prog 24 #[.pointer (some ⟨h0, 0, none⟩), .agg #[.int .i64 0, .int .i64 1], .slice (some ⟨w2.heap.size, 0, none⟩) 1 1] (w2.alloc (.cells #[.int .u8 1, .string ⟨#[]⟩, .int .i64 3, .int .i64 0, .int .i64 0] 59)) fun e w' => e = .returned (.int .i64 0) ∧ Hid (Hl w w' p q 2 km2) := by
    have := (H3.out.below (below_alloc w2 (.cells #[.int .u8 1, .string ⟨#[]⟩, .int .i64 3, .int .i64 0, .int .i64 0] 59))).bind HS.out (0, 1) ki _ (wf0 1 (by omega)) (wf0 0 (by omega)) (termAt_new w2 ki (by decide)) (by omega)
    rw [kb2, kh2] at this
    rw [← hh0]; exact this
  go_wp2_with fail
  refine B2.mono ?_
  rintro e w3 ⟨rfl, H4⟩
  clear B2 H3 d0 d1 d2 d3
  obtain ⟨d0, d1, d2, d3⟩ := H4.out.cells
  have B3 : Calls Tryz.prog 14 #[.pointer (some ⟨h0, 0, none⟩), .slice (some ⟨w3.heap.size, 0, none⟩) 1 1] (w3.alloc (.cells #[.int .u8 4, .string ⟨#[]⟩, .int .i64 0, .int .i64 0, .int .i64 2] 59)) fun e w' => ∃ tb to tc, e = .returned (.slice (some ⟨tb, to, none⟩) 1 tc) ∧ Hid (Hl w w' p q 2 km2 ∧ TermAt w' (.slice (some ⟨tb, to, none⟩) 1 tc) [ki] ∧ w'.cell? ⟨tb, to + 2, none⟩ = some (.int .i64 3)) := by
    have hA := H4.out.below (below_alloc w3 (.cells #[.int .u8 4, .string ⟨#[]⟩, .int .i64 0, .int .i64 0, .int .i64 2] 59))
    obtain ⟨n', D, _, hH⟩ := hA.hp
    refine (h15 km2 _ [ky] _ _ (.inr ⟨_, _, _, _, by rw [hh0], hH⟩) (termAt_new w3 ky (by decide)) (by intro c hc; simp at hc; subst hc; exact wf0 2 (by omega)) (by decide) (fun x l hl => ?_)).mono ?_
    · have hm := look_mem hl
      simp [km2] at hm
      rcases hm with ⟨_, rfl⟩ | ⟨_, rfl⟩ <;> decide
    · rintro e w' ⟨u, l', rfl, h1, h2, _, h4⟩
      have e2 : l' = [ki] := h2.uniq kfol
      subst e2
      have h1' := h1
      obtain ⟨_, h | ⟨tb, to, tc, e3, _, _, hr, _⟩⟩ := h1
      · exact absurd h.1 (by simp)
      · rw [e3] at h1' ⊢
        exact ⟨tb, to, tc, rfl, hA.below h4, h1', hr 2 _ rfl⟩
  go_wp2_with fail
  refine B3.mono ?_
  rintro e w4 ⟨tb, to, tc, rfl, H5⟩
  clear B3 H4 d0 d1 d2 d3
  have t2 := H5.out.2.2
  have B4 : Calls Tryz.prog 17 #[.pointer (some ⟨h0, 0, none⟩)] w4 fun e w' => ∃ a c, e = .returned (.slice a 2 c) ∧ Hid (Hl w w' p q 2 km2 ∧ TermAt w' (.slice (some ⟨tb, to, none⟩) 1 tc) [ki]) := by
    obtain ⟨n', D, hn', hH⟩ := H5.out.1.hp
    rw [← hh0]
    refine (h12 km2 _ _ n' D w4 hH (by omega) (fun x l hl => ?_)).mono ?_
    · have hm := look_mem hl
      simp [km2] at hm
      rcases hm with ⟨_, rfl⟩ | ⟨_, rfl⟩ <;> decide
    · rintro e w' ⟨a, k, c, rfl, ⟨xs, h1, rfl⟩, h2⟩
      rw [kup hH h1]
      exact ⟨a, c, rfl, H5.out.1.below h2, H5.out.2.1.below h2⟩
  go_wp2_with fail
  refine B4.mono ?_
  rintro e w5 ⟨ba, bc, rfl, H6⟩
  clear B4 H5 t2
  obtain ⟨d0, d1, d2, d3⟩ := H6.out.1.cells
  have B5 : Calls Tryz.prog 24 #[.pointer (some ⟨h0, 0, none⟩), .agg #[.int .i64 0, .int .i64 2], .slice (some ⟨tb, to, none⟩) 1 tc] w5 fun e w' => e = .returned (.int .i64 70) ∧ Hid (Below w.heap.size w w') := by
    have := H6.out.1.bind HS.out (0, 2) ki _ (wf0 2 (by omega)) (wf0 0 (by omega)) H6.out.2 (by omega)
    rw [kb3] at this
    rw [← hh0]
    exact this.mono fun e w' ⟨h1, h2⟩ => ⟨h1, h2.out.bel⟩
  go_wp2_with fail
  refine B5.mono ?_
  rintro e w6 ⟨rfl, H7⟩
  go_wp2_with fail
  go_ret
  exact ⟨rfl, H7.out⟩
end Go.Proofs.YtgcpkkeonameeaaGreatDoor
