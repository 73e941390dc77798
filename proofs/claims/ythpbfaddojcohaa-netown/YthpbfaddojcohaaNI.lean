/- Contract of takeOut. -/
import Derived.Test.YthpbfaddojcohaaNH
namespace Go.Proofs.Ythpbfaddojcohaa
open Go.RowKit
attribute [local go_sem ↓] Go.wp_at_zero Go.wp_at_succ
theorem owns_range {w : World} {B n g cap : Nat} {xs : List Value} (h : w.ownsRow B 46 5 (.slice (some ⟨g, 0, none⟩) n cap) n xs) : w.rangeAt g 0 xs := by
  rcases h.2 with ⟨e, _⟩ | ⟨g', cap', cur, e, h2, h3, _, _, h6, h7⟩
  · cases e
  · simp only [Value.slice.injEq, Option.some.injEq, Addr.mk.injEq, and_true, true_and] at e
    obtain ⟨rfl, rfl⟩ := e
    intro j u hu
    rw [Nat.zero_add, cell_of_row w g j _ 46 (0, 0) h3]
    have hj : j < n * 5 := by
      have := (List.getElem?_eq_some_iff.1 hu).1
      rw [h.1] at this; exact this
    rw [← h7, List.getElem?_take_of_lt hj] at hu
    simpa using hu
def rest (k : Nat) (l : List Dg) : List Dg := l.take k ++ l.drop (k + 1)
def OutPost (nb B : Nat) (v : Value) (N : Nt) (w w' : World) : Prop := ∃ v', NtAt w' nb B v' N ∧ FromN nb v w v' w' ∧ v'.ownBlock = v.ownBlock
theorem out_post {w w1 w2 : World} {nb B g cap m k : Nat} {N : Nt} {u : Value} (hN : NtAt w nb B (.slice (some ⟨g, 0, none⟩) (m + 1) cap) N) (hl : N.l.length = m + 1) (hk : k ≤ m) (hb : Below w.heap.size w w1) (hd : DelPost g cap (rest k N.l) w1 w2) (hu : u = .slice (some ⟨g, 0, none⟩) m cap) :
    OutPost nb B (.slice (some ⟨g, 0, none⟩) (m + 1) cap) { N with l := rest k N.l } w (w2.setCell ⟨nb, 0, none⟩ u) := by
  subst hu
  have h1 := hN.below hb
  have hgn : g ≠ nb := by
    have := row_not_net hN.own hN.blk
    simpa [Value.ownBlock] using this
  obtain ⟨⟨cur', e1, e2, e3⟩, d1, d2, d3, d4, d5⟩ := hd
  have hb2 : w2.heap[nb]? = some (.cells #[.slice (some ⟨g, 0, none⟩) (m + 1) cap, .int .i64 N.s, .int .i64 N.d, .int .i64 N.r, .int .i64 N.x, .int .i64 N.n] 77 (0, 0)) := (d5 nb (Ne.symm hgn)).trans h1.blk
  have hrl : (rest k N.l).length = m := by simp [rest, hl]; omega
  refine ⟨.slice (some ⟨g, 0, none⟩) m cap, ⟨?_, ?_⟩, ⟨⟨d1.trans hb.os, d2.trans hb.tape, d3.trans hb.output, by have := hb.size; simp; omega, fun q hq q1 q2 => ?_⟩, fun q hq => .inl hq⟩, rfl⟩
  · rw [heap_setCell_same w2 nb 0 _ 77 _ hb2]; rfl
  · rcases hN.own.2 with ⟨e, _⟩ | ⟨g', cap', cur, e, h2, h3, h4, h5, h6, h7⟩
    · cases e
    · simp only [Value.slice.injEq, Option.some.injEq, Addr.mk.injEq, and_true] at e
      obtain ⟨rfl, _, rfl⟩ := e
      show (w2.setCell _ _).ownsRow B 46 5 _ (rest k N.l).length (flatD (rest k N.l))
      rw [hrl]
      refine ⟨by rw [flatD_length, hrl], .inr ⟨g, cap, cur', rfl, h2, by rw [heap_setCell_other _ _ _ _ (by simpa using hgn)]; exact e1, by omega, h5, e2, ?_⟩⟩
      rw [← hrl]; exact e3
  · have q3 : q ≠ g := fun e => q2 (by rw [e]; rfl)
    rw [heap_setCell_other _ _ _ _ (by simpa using q1), d5 q q3]
    exact hb.block q hq
theorem OutPost.setCell {nb B A : Nat} {v : Value} {N : Nt} {w w' : World} (h : OutPost nb B v N w w') (hA : w.heap.size ≤ A) (hnb : nb < w.heap.size) (hv : ∀ g, v.ownBlock = some g → g < w.heap.size) (j : Nat) (u : Value) : OutPost nb B v N w (w'.setCell ⟨A, j, none⟩ u) := by
  obtain ⟨v', h1, h2, h3⟩ := h
  refine ⟨v', ⟨?_, ?_⟩, ⟨⟨h2.keep.os, h2.keep.tape, h2.keep.output, by have := h2.keep.size; simp; omega, fun q hq q1 q2 => ?_⟩, h2.own⟩, h3⟩
  · rw [heap_setCell_other _ _ _ _ (by show nb ≠ A; omega)]; exact h1.blk
  · exact owns_setO h1.own _ (fun e => by have := hv A (h3.symm.trans e); omega)
  · rw [heap_setCell_other _ _ _ _ (by show q ≠ A; omega)]; exact h2.keep.block q hq q1 q2
set_option maxRecDepth 100000 in
set_option maxHeartbeats 1000000 in
theorem n45 (nb B g cap m k : Nat) (N : Nt) (w : World) (h : NtAt w nb B (.slice (some ⟨g, 0, none⟩) (m + 1) cap) N) (hl : N.l.length = m + 1) (hk : k ≤ m) :
    Calls Try.prog 45 #[.pointer (some ⟨nb, 0, none⟩), .int .i64 k] w fun e w' => e = .returned (.agg (N.l[k]'(by omega)).box) ∧ OutPost nb B (.slice (some ⟨g, 0, none⟩) (m + 1) cap) { N with l := rest k N.l } w w' := by
  have hkl : k < N.l.length := by omega
  have HH : Hid (NtAt w nb B (.slice (some ⟨g, 0, none⟩) (m + 1) cap) N) := h
  obtain ⟨p0, p1, p2, p3, p4⟩ := dg_cells (owns_range (hl ▸ h.own)) k hkl
  obtain ⟨d, hd⟩ : ∃ d, N.l[k] = d := ⟨_, rfl⟩
  rw [hd] at p0 p1 p2 p3 p4 ⊢
  simp only [Nat.zero_add] at p0 p1 p2 p3 p4
  have hglt : g < w.heap.size := (owns_lt h.own rfl).2
  have hcap : m + 1 ≤ cap ∧ cap ≤ maxLen := by
    rcases h.own.2 with ⟨e, _⟩ | ⟨g', cap', cur, e, h2, h3, h4, h5, _⟩
    · cases e
    · simp only [Value.slice.injEq, Option.some.injEq, Addr.mk.injEq, and_true] at e
      obtain ⟨_, _, rfl⟩ := e
      omega
  have hc := h.cells.1
  have hnb := h.lt
  have hmk : (k : Int) < (m : Int) + 1 := by omega
  have hm63 : (m : Int) + 1 ≤ 9223372036854775807 := by have := hcap.2; unfold maxLen at this; omega
  obtain ⟨fr, to, ak, sq, ba, bn, bc⟩ := d
  simp only at p0 p1 p2 p3 p4
  show Calls Try.prog 45 _ w fun e w' => e = .returned (.agg #[.int .i64 fr, .int .i64 to, .bool ak, .int .i64 sq, .slice ba bn bc]) ∧ _
  obtain ⟨W, hW⟩ : ∃ W, W = (w.alloc (.cells #[.int .i64 0, .int .i64 0, .bool false, .int .i64 0, .slice none 0 0] 46)).alloc (.cells #[.int .i64 fr, .int .i64 to, .bool ak, .int .i64 sq, .slice ba bn bc] 46) := ⟨_, rfl⟩
  have hb0 : Below w.heap.size w W := by rw [hW]; exact ((Below.refl _ w).alloc (Nat.le_refl _) _).alloc (by simp) _
  have hz : W.heap.size = w.heap.size + 2 := by rw [hW]; simp
  have hA : W.heap[w.heap.size]? = some (.cells #[.int .i64 0, .int .i64 0, .bool false, .int .i64 0, .slice none 0 0] 46 (0, 0)) := by
    rw [hW, heap_alloc_old _ _ (by simp)]; exact heap_alloc_new w _
  have hC : W.heap[w.heap.size + 1]? = some (.cells #[.int .i64 fr, .int .i64 to, .bool ak, .int .i64 sq, .slice ba bn bc] 46 (0, 0)) := by
    have := heap_alloc_new (w.alloc (.cells #[.int .i64 0, .int .i64 0, .bool false, .int .i64 0, .slice none 0 0] 46)) (.cells #[.int .i64 fr, .int .i64 to, .bool ak, .int .i64 sq, .slice ba bn bc] 46)
    rw [hW]; simpa using this
  have HA : Hid (W.heap[w.heap.size]? = some (.cells #[.int .i64 0, .int .i64 0, .bool false, .int .i64 0, .slice none 0 0] 46 (0, 0))) := hA
  have HC : Hid (W.heap[w.heap.size + 1]? = some (.cells #[.int .i64 fr, .int .i64 to, .bool ak, .int .i64 sq, .slice ba bn bc] 46 (0, 0))) := hC
  have HZ : Hid (W.heap.size = w.heap.size + 2 ∧ Below w.heap.size w W) := ⟨hz, hb0⟩
  have hNW := h.below hb0
  have H63 : Hid (Calls Try.prog 63 #[.slice (some ⟨g, 0, none⟩) (m + 1) cap, .int .i64 k, .int .i64 (k + 1)] W fun e w' => e = .returned (.slice (some ⟨g, 0, none⟩) m cap) ∧ DelPost g cap (rest k N.l) W w') := by
    rcases hNW.own.2 with ⟨e, _⟩ | ⟨g', cap', cur, e, h2, h3, h4, h5, h6, h7⟩
    · cases e
    · simp only [Value.slice.injEq, Option.some.injEq, Addr.mk.injEq, and_true] at e
      obtain ⟨rfl, _, rfl⟩ := e
      exact n63 g cap m k N.l cur W h3 h6 hl hcap.1 hcap.2 (by rw [← hl]; exact h7) hk
  clear h hz hA hC hb0 hNW
  go_enter Try.func45, Try.ntmps45
  go_wp2_with fail
  have H := H63.out
  rw [hW] at H
  refine H.mono ?_
  rw [← hW]
  rintro e w2 ⟨rfl, hd2⟩
  clear H H63 p0 p1 p2 p3 p4
  have hgn : g ≠ nb := by
    have := row_not_net HH.out.own HH.out.blk
    simpa [Value.ownBlock] using this
  have HP : Hid (OutPost nb B (.slice (some ⟨g, 0, none⟩) (m + 1) cap) { N with l := rest k N.l } w (w2.setCell ⟨nb, 0, none⟩ (.slice (some ⟨g, 0, none⟩) m cap))) := out_post HH.out hl hk HZ.out.2 hd2 rfl
  obtain ⟨_, _, _, _, d4, d5⟩ := hd2
  have hnb2 : w2.heap[nb]? = some (.cells #[.slice (some ⟨g, 0, none⟩) (m + 1) cap, .int .i64 N.s, .int .i64 N.d, .int .i64 N.r, .int .i64 N.x, .int .i64 N.n] 77 (0, 0)) := (d5 nb (Ne.symm hgn)).trans (HH.out.below HZ.out.2).blk
  have hA1 : w2.heap[w.heap.size]? = some (.cells #[.int .i64 0, .int .i64 0, .bool false, .int .i64 0, .slice none 0 0] 46 (0, 0)) := (d5 _ (by omega)).trans HA.out
  have hC1 : w2.heap[w.heap.size + 1]? = some (.cells #[.int .i64 fr, .int .i64 to, .bool ak, .int .i64 sq, .slice ba bn bc] 46 (0, 0)) := (d5 _ (by omega)).trans HC.out
  obtain ⟨A, hAn⟩ : ∃ A, A = w.heap.size := ⟨_, rfl⟩
  rw [← hAn] at hA1 hC1
  have q0 : w2.cell? ⟨nb, 0, none⟩ = some (.slice (some ⟨g, 0, none⟩) (m + 1) cap) := by rw [cell_of_row w2 nb 0 _ 77 (0, 0) hnb2]; rfl
  have qf : w2.frozen? ⟨nb, 0, none⟩ = false := frozen_of_row w2 nb 0 _ 77 hnb2
  have a0 : w2.cell? ⟨A + 1, 0, none⟩ = some (.int .i64 fr) := by rw [cell_of_row w2 (A + 1) 0 _ 46 (0, 0) hC1]; rfl
  have a1 : w2.cell? ⟨A + 1, 1, none⟩ = some (.int .i64 to) := by rw [cell_of_row w2 (A + 1) 1 _ 46 (0, 0) hC1]; rfl
  have a2 : w2.cell? ⟨A + 1, 2, none⟩ = some (.bool ak) := by rw [cell_of_row w2 (A + 1) 2 _ 46 (0, 0) hC1]; rfl
  have a3 : w2.cell? ⟨A + 1, 3, none⟩ = some (.int .i64 sq) := by rw [cell_of_row w2 (A + 1) 3 _ 46 (0, 0) hC1]; rfl
  have a4 : w2.cell? ⟨A + 1, 4, none⟩ = some (.slice ba bn bc) := by rw [cell_of_row w2 (A + 1) 4 _ 46 (0, 0) hC1]; rfl
  have c0 : w2.cell? ⟨A, 0, none⟩ = some (.int .i64 0) := by rw [cell_of_row w2 A 0 _ 46 (0, 0) hA1]; rfl
  have c1 : w2.cell? ⟨A, 1, none⟩ = some (.int .i64 0) := by rw [cell_of_row w2 A 1 _ 46 (0, 0) hA1]; rfl
  have c2 : w2.cell? ⟨A, 2, none⟩ = some (.bool false) := by rw [cell_of_row w2 A 2 _ 46 (0, 0) hA1]; rfl
  have c3 : w2.cell? ⟨A, 3, none⟩ = some (.int .i64 0) := by rw [cell_of_row w2 A 3 _ 46 (0, 0) hA1]; rfl
  have c4 : w2.cell? ⟨A, 4, none⟩ = some (.slice none 0 0) := by rw [cell_of_row w2 A 4 _ 46 (0, 0) hA1]; rfl
  have g0 : w2.frozen? ⟨A, 0, none⟩ = false := frozen_of_row w2 A 0 _ 46 hA1
  have g1 : w2.frozen? ⟨A, 1, none⟩ = false := frozen_of_row w2 A 1 _ 46 hA1
  have g2 : w2.frozen? ⟨A, 2, none⟩ = false := frozen_of_row w2 A 2 _ 46 hA1
  have g3 : w2.frozen? ⟨A, 3, none⟩ = false := frozen_of_row w2 A 3 _ 46 hA1
  have g4 : w2.frozen? ⟨A, 4, none⟩ = false := frozen_of_row w2 A 4 _ 46 hA1
  have hnA : nb ≠ A := by omega
  have hnA1 : nb ≠ A + 1 := by omega
  have HG : Hid (∀ q, (Value.slice (some ⟨g, 0, none⟩) (m + 1) cap).ownBlock = some q → q < w.heap.size) := fun q e => by
    simp only [Value.ownBlock, Option.some.injEq] at e
    omega
  clear d4 d5 hnb2 hA1 hC1 HA HC HZ HH hc
  subst hAn
  go_wp2_with fail
  refine bodyPost_ret (v := .agg #[.int .i64 fr, .int .i64 to, .bool ak, .int .i64 sq, .slice ba bn bc]) (by simp [results, Try.results45, go_sem, c0, c1, c2, c3, c4]) rfl ⟨rfl, ?_⟩
  have hle := Nat.le_refl w.heap.size
  exact ((((HP.out.setCell hle hnb HG.out _ _).setCell hle hnb HG.out _ _).setCell hle hnb HG.out _ _).setCell hle hnb HG.out _ _).setCell hle hnb HG.out _ _
end Go.Proofs.Ythpbfaddojcohaa
