/- Contracts of Counts and live. -/
import Derived.Test.YthpbfaddojcohaaNM
namespace Go.Proofs.Ythpbfaddojcohaa
open Go.RowKit
attribute [local go_sem ↓] Go.wp_at_zero Go.wp_at_succ
set_option maxRecDepth 100000 in
set_option maxHeartbeats 1000000 in
theorem n28 (nb B : Nat) (v : Value) (N : Nt) (w : World) (h : NtAt w nb B v N) : Calls Try.prog 28 #[.pointer (some ⟨nb, 0, none⟩)] w fun e w' => e = .returned (.tuple #[.int .i64 N.s, .int .i64 N.d, .int .i64 N.r, .int .i64 N.x]) ∧ Below w.heap.size w w' := by
  obtain ⟨_, c1, c2, c3, c4, _⟩ := h.cells
  clear h
  go_enter Try.func28, Try.ntmps28
  go_wp2_with fail
  go_quiet (fail)
  go_wp2_with fail
  exact bodyPost_ret (v := .tuple #[.int .i64 N.s, .int .i64 N.d, .int .i64 N.r, .int .i64 N.x]) (by simp [results, Try.results28, go_sem]) rfl ⟨rfl, ⟨rfl, rfl, rfl, Nat.le_refl _, fun _ _ => rfl⟩⟩
def dA : Dg := ⟨0, 1, false, 5, none, 0, 0⟩
def dB : Dg := ⟨1, 0, false, 6, none, 0, 0⟩
def cA : Dc := ⟨0, 1, false, 5, []⟩
def cB : Dc := ⟨1, 0, false, 6, []⟩
theorem argAB {w : World} {b : Nat} (h : w.heap[b]? = some (.cells #[.int .i64 0, .int .i64 1, .bool false, .int .i64 5, .slice none 0 0, .int .i64 1, .int .i64 0, .bool false, .int .i64 6, .slice none 0 0] 46 (0, 0))) : ArgRow w (fun k => k = b) (some ⟨b, 0, none⟩) 2 [dA, dB] [cA, cB] := by
  refine ⟨rfl, rfl, .inr ⟨b, 0, rfl, rfl, fun j u hu => ?_⟩, fun i d x h1 h2 => ?_⟩
  · rw [Nat.zero_add, cell_of_row w b j _ 46 (0, 0) h]
    simpa [flatD, dA, dB, Dg.vals] using hu
  · match i, h1, h2 with
    | 0, h1, h2 => simp at h1 h2; subst h1 h2; exact ⟨⟨rfl, rfl, rfl, rfl, rfl⟩, rfl, .inl ⟨rfl, rfl, rfl⟩⟩
    | 1, h1, h2 => simp at h1 h2; subst h1 h2; exact ⟨⟨rfl, rfl, rfl, rfl, rfl⟩, rfl, .inl ⟨rfl, rfl, rfl⟩⟩
set_option maxRecDepth 100000 in
set_option maxHeartbeats 2000000 in
theorem n10 (w : World) : Calls Try.prog 10 #[] w fun e w' => e = .returned (.bool true) ∧ Below w.heap.size w w' := by
  have H8 := n8 2 (by decide) (by decide) w
  go_enter Try.func10, Try.ntmps10
  go_wp2_with fail
  refine H8.mono ?_
  rintro e w1 ⟨rfl, hw1⟩
  clear H8
  have hN1 : NtAt w1 w.heap.size w.heap.size (.slice none 0 0) ⟨[], 0, 0, 0, 0, 2⟩ := ⟨by rw [hw1]; exact heap_alloc_new w _, World.ownsRow_nil _ _ _ _⟩
  have hb1 : Below w.heap.size w w1 := by rw [hw1]; exact (Below.refl _ w).alloc (Nat.le_refl _) _
  have hs1 : w1.heap.size = w.heap.size + 1 := by rw [hw1]; simp
  clear hw1
  have HN1 : Hid (NtAt w1 w.heap.size w.heap.size (.slice none 0 0) ⟨[], 0, 0, 0, 0, 2⟩) := hN1
  have HB1 : Hid (Below w.heap.size w w1 ∧ w1.heap.size = w.heap.size + 1) := ⟨hb1, hs1⟩
  generalize hn0 : w.heap.size = n0 at *
  clear hN1 hb1 hs1
  go_wp2_with fail
  have hbA : Below w1.heap.size w1 (w1.alloc (.cells #[.int .i64 0, .int .i64 1, .bool false, .int .i64 5, .slice none 0 0, .int .i64 1, .int .i64 0, .bool false, .int .i64 6, .slice none 0 0] 46)) := (Below.refl _ w1).alloc (Nat.le_refl _) _
  have hNA : NtC (w1.alloc (.cells #[.int .i64 0, .int .i64 1, .bool false, .int .i64 5, .slice none 0 0, .int .i64 1, .int .i64 0, .bool false, .int .i64 6, .slice none 0 0] 46)) n0 n0 (.slice none 0 0) ⟨[], 0, 0, 0, 0, 2⟩ [] := ⟨HN1.out.below hbA, rfl, fun i d x h => by simp at h⟩
  have H16 := n16 n0 n0 (.slice none 0 0) ⟨[], 0, 0, 0, 0, 2⟩ [] (fun k => k = w1.heap.size) (some ⟨w1.heap.size, 0, none⟩) 2 2 [dA, dB] [cA, cB] _ hNA (by have := HB1.out.2; simp; omega) (argAB (heap_alloc_new w1 _)) (fun k hk => by subst hk; have := HB1.out.2; exact ⟨by simp, by omega, by simp [Value.ownBlock]⟩) (by decide) (by decide) (by decide)
  have hE : allE 2 [dA, dB] = 0 := by decide
  rw [hE] at H16
  refine H16.mono ?_
  rintro e w2 ⟨rfl, hp2⟩
  clear H16
  have hS2 : ∃ v2 l2, NtC w2 n0 n0 v2 ⟨l2, 2, 0, 0, 0, 2⟩ [cA, cB] ∧ Below n0 w w2 := by
    rcases hp2 with ⟨_, v', l', h1, h2⟩ | ⟨h1, _⟩
    · refine ⟨v', l', h1, (HB1.out.1.trans (hbA.mono (by have := HB1.out.2; omega))).trans (h2.under hNA.at_ (Nat.le_refl _) (by have := HB1.out.2; simp; omega))⟩
    · exact absurd hE h1
  clear hp2 hNA hbA hE
  obtain ⟨v2, l2, hN2, hb2⟩ := hS2
  have hl2 : l2.length = 2 := hN2.own.1
  have H20 := n20 n0 n0 v2 ⟨l2, 2, 0, 0, 0, 2⟩ [cA, cB] 0 cA w2 hN2 (by have := hb2.size; omega) (by show 0 < l2.length; omega) rfl (show (0 : Int) ≤ 0 by decide) (show (0 : Int) ≤ 1000000000000 by decide) (by show (l2.length + 1) * 56 ≤ _; omega)
  have HN2 : Hid (NtC w2 n0 n0 v2 ⟨l2, 2, 0, 0, 0, 2⟩ [cA, cB] ∧ Below n0 w w2) := ⟨hN2, hb2⟩
  clear hN2 hb2 hl2
  go_wp2_with fail
  refine H20.mono ?_
  rintro e w3 ⟨rfl, v3, l3, hN3, hF3⟩
  clear H20
  have hb3 : Below n0 w w3 := HN2.out.2.trans (hF3.under HN2.out.1.at_ (Nat.le_refl _) (by have := HN2.out.2.size; omega))
  have hl3 : l3.length = 3 := hN3.own.1
  have H17 := n17 n0 n0 v3 ⟨l3, 2, 0, 0, 1, 2⟩ [cA, cB, cA] 1 cB w3 hN3 (by show 1 < l3.length; omega) rfl (show (0 : Int) ≤ 0 by decide) (show (0 : Int) ≤ 1000000000000 by decide) (by decide)
  have HN3 : Hid (NtC w3 n0 n0 v3 ⟨l3, 2, 0, 0, 1, 2⟩ [cA, cB, cA] ∧ Below n0 w w3) := ⟨hN3, hb3⟩
  clear hN3 hb3 hl3 hF3 HN2
  go_wp2_with fail
  refine H17.mono ?_
  rintro e w4 ⟨d4, rfl, hd4, v4, l4, hN4, hF4⟩
  clear H17
  have hb4 : Below n0 w w4 := HN3.out.2.trans (hF4.under HN3.out.1.at_ (Nat.le_refl _) (by have := HN3.out.2.size; omega))
  have hl4 : l4.length = 2 := hN4.own.1
  have HD4 : Hid (d4.sq = 6) := hd4.1.2.2.2.1
  obtain ⟨dfr, dto, dak, dsq, dba, dbn, dbc⟩ := d4
  have hbA4 : Below w4.heap.size w4 (w4.alloc (.cells #[.int .i64 dfr, .int .i64 dto, .bool dak, .int .i64 dsq, .slice dba dbn dbc] 46)) := (Below.refl _ w4).alloc (Nat.le_refl _) _
  have HN4 : Hid (NtC (w4.alloc (.cells #[.int .i64 dfr, .int .i64 dto, .bool dak, .int .i64 dsq, .slice dba dbn dbc] 46)) n0 n0 v4 ⟨l4, 2, 1, 0, 1, 2⟩ [cA, cA] ∧ Below n0 w (w4.alloc (.cells #[.int .i64 dfr, .int .i64 dto, .bool dak, .int .i64 dsq, .slice dba dbn dbc] 46))) := ⟨hN4.below hbA4, hb4.trans (hbA4.mono (by have := hb4.size; omega))⟩
  have hk7 : hasN l4.length 7 = false := by rw [hl4]; decide
  have H17b := n17_no n0 n0 v4 ⟨l4, 2, 1, 0, 1, 2⟩ 7 _ HN4.out.1.at_ hk7
  clear hN4 hb4 hF4 hd4 HN3 hbA4 hk7
  simp only [Dg.box]
  go_wp2_with fail
  refine H17b.mono ?_
  rintro e w5 ⟨rfl, hb5⟩
  clear H17b
  have hD5 : w5.heap[w4.heap.size]? = some (.cells #[.int .i64 dfr, .int .i64 dto, .bool dak, .int .i64 dsq, .slice dba dbn dbc] 46 (0, 0)) := (hb5.block _ (by simp)).trans (heap_alloc_new w4 _)
  have hN5 := HN4.out.1.below hb5
  have hb5w : Below n0 w w5 := HN4.out.2.trans (hb5.mono (by have := HN4.out.2.size; omega))
  have hbA5 : Below w5.heap.size w5 (w5.alloc (.cells #[.int .i64 0, .int .i64 0, .bool false, .int .i64 0, .slice none 0 0] 46)) := (Below.refl _ w5).alloc (Nat.le_refl _) _
  have hN5a := hN5.below hbA5
  have H15 := n15 n0 n0 v4 ⟨l4, 2, 1, 0, 1, 2⟩ [cA, cA] _ hN5a (by show l4.length * 56 ≤ _; omega) (fun x hx => by simp at hx; subst hx; decide)
  have HD5 : Hid (w5.heap[w4.heap.size]? = some (.cells #[.int .i64 dfr, .int .i64 dto, .bool dak, .int .i64 dsq, .slice dba dbn dbc] 46 (0, 0)) ∧ w4.heap.size < w5.heap.size) := ⟨hD5, (Array.getElem?_eq_some_iff.1 hD5).1⟩
  have HN5 : Hid (NtC (w5.alloc (.cells #[.int .i64 0, .int .i64 0, .bool false, .int .i64 0, .slice none 0 0] 46)) n0 n0 v4 ⟨l4, 2, 1, 0, 1, 2⟩ [cA, cA] ∧ Below n0 w (w5.alloc (.cells #[.int .i64 0, .int .i64 0, .bool false, .int .i64 0, .slice none 0 0] 46))) := ⟨hN5a, hb5w.trans (hbA5.mono (by have := hb5w.size; omega))⟩
  clear hb5 hD5 hN5 hb5w hbA5 hN5a HN4
  go_wp2_with fail
  refine H15.mono ?_
  rintro e w6 ⟨u6, rfl, l6, ho6, hl6, hb6⟩
  clear H15
  have hlen6 : l6.length = 2 := hl6.1
  have H28 := n28 n0 n0 v4 ⟨l4, 2, 1, 0, 1, 2⟩ w6 (HN5.out.1.below hb6).at_
  have hb6w : Below n0 w w6 := HN5.out.2.trans (hb6.mono (by have := HN5.out.2.size; omega))
  have hD6 : w6.heap[w4.heap.size]? = some (.cells #[.int .i64 dfr, .int .i64 dto, .bool dak, .int .i64 dsq, .slice dba dbn dbc] 46 (0, 0)) := (hb6.block _ (by have := HD5.out.2; simp; omega)).trans ((heap_alloc_old w5 _ HD5.out.2).trans HD5.out.1)
  have ho6b := ho6
  rw [hlen6] at ho6b
  obtain ⟨g6, cap6, hu6⟩ := owns_some ho6b
  subst hu6
  have hsq : (l6[1]'(by omega)).sq = 5 := (hl6.2 1 l6[1] cA (List.getElem?_eq_getElem (by omega)) rfl).1.2.2.2.1
  have hc6 := (dg_cells (owns_range (hlen6 ▸ ho6)) 1 (by omega)).2.2.2.1
  rw [hsq] at hc6
  have HC6 : Hid (w6.cell? ⟨g6, 8, none⟩ = some (.int .i64 5) ∧ g6 < w6.heap.size ∧ w6.heap[w4.heap.size]? = some (.cells #[.int .i64 dfr, .int .i64 dto, .bool dak, .int .i64 dsq, .slice dba dbn dbc] 46 (0, 0)) ∧ Below n0 w w6) := ⟨by simpa using hc6, (owns_lt ho6 rfl).2, hD6, hb6w⟩
  clear hc6 hsq ho6 ho6b hl6 hb6 hb6w hD6 HN5 HD5
  go_wp2_with fail
  refine H28.mono ?_
  rintro e w7 ⟨rfl, hb7⟩
  clear H28
  have k6 : w7.cell? ⟨g6, 8, none⟩ = some (.int .i64 5) := (hb7.cell (p := ⟨g6, 8, none⟩) HC6.out.2.1).trans HC6.out.1
  have k5 : w7.cell? ⟨w4.heap.size, 3, none⟩ = some (.int .i64 dsq) := by
    have h9 := (hb7.block _ (Array.getElem?_eq_some_iff.1 HC6.out.2.2.1).1).trans HC6.out.2.2.1
    rw [cell_of_row w7 _ 3 _ 46 (0, 0) h9]; rfl
  have hdq : dsq = 6 := HD4.out
  subst hdq
  have HF : Hid (Below n0 w w7) := HC6.out.2.2.2.trans (hb7.mono (by have := HC6.out.2.2.2.size; omega))
  clear hb7 HC6 HD4 HB1 HN1
  go_wp2_with fail
  go_ret
  exact ⟨rfl, by rw [hn0]; exact HF.out⟩
end Go.Proofs.Ythpbfaddojcohaa
