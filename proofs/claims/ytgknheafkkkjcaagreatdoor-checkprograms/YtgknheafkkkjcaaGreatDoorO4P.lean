/- Programs that are handed in, opened, with how long their terms are at most. -/
import Derived.Test.YtgknheafkkkjcaaGreatDoorQ20
namespace Go.Proofs.YtgknheafkkkjcaaGreatDoor
open Go.ChangeShapes Go.WideShapes Go.ChangeAt Go.RowKit Go.Joins Go.Deep Go.Proofs.YtgknheafkkkjcaaGreatDoor.Laid
section
variable {H : Type} {enc : TypeId × Value → H} {w : World} {base : Nat} {sp : Nat → Bool} {held : Bool}
theorem open_clauseW {fuel : Nat} {cs : List Value} {x : DataW H × List MemPlace} (h : DataW.trod enc Tryz.prog w base (fun _ => true) held fuel 66 cs = some x) :
    ∃ (X : ClV) (c : Cl), cs = X.vals ∧ ClAt w X c ∧ ClD c ∧ ∀ M : Nat, (∀ y ∈ DataW.weights Tryz.prog 66 x.1, y ≤ M) → c.gs.length * 24 ≤ M ∧ c.bs.length * 24 ≤ M ∧ c.hd.length * 48 ≤ M ∧ (∀ l ∈ c.gs, l.length * 48 ≤ M) ∧ ∀ l ∈ c.bs, l.length * 48 ≤ M := by
  obtain ⟨y0, y1, y2, y3, n, hx, hl, g0, g1, g2, g3⟩ := trod_struct4 Tryz.underlying66 h
  rw [cells38] at hl
  obtain ⟨a, b, c, d, rfl⟩ := list4 hl
  simp only [cells29, cells36, cells3, List.drop_zero, List.drop_succ_cons, List.take_succ_cons, List.take_zero] at g0 g1 g2 g3
  obtain ⟨lh, th, wh⟩ := open_term g0
  obtain ⟨lg, tg, wg⟩ := open_row g1
  obtain ⟨lb, tb, wb⟩ := open_row g2
  obtain ⟨k, e3, _, _⟩ := DataW.trod_int Tryz.underlying3 g3
  simp only [List.cons.injEq, and_true] at e3
  subst e3
  refine ⟨⟨a, b, c, k⟩, ⟨lh, lg, lb, k⟩, rfl, ⟨th, tg, tb, rfl⟩, ⟨term_wf g0 th, row_wf g1 tg, row_wf g2 tb⟩, fun M hM => ?_⟩
  rw [hx] at hM
  simp only [DataW.weights, Tryz.underlying66, DataW.weightsEach, List.mem_append, List.map_cons, List.map_nil] at hM
  have x1 := wg M (fun y hy => hM y (by simp [hy]))
  have x2 := wb M (fun y hy => hM y (by simp [hy]))
  exact ⟨x1.1, x2.1, wh M (fun y hy => hM y (by simp [hy])), x1.2, x2.2⟩
theorem open_progW {fuel : Nat} {v : Value} {x : DataW H × List MemPlace} (h : DataW.trod enc Tryz.prog w base (fun _ => true) held fuel 23 [v] = some x) :
    ∃ cs : List Cl, ProgAt w v cs ∧ (∀ c ∈ cs, ClD c) ∧ ∀ M : Nat, (∀ y ∈ DataW.weights Tryz.prog 23 x.1, y ≤ M) → cs.length * 80 ≤ M ∧ ∀ c ∈ cs, c.gs.length * 24 ≤ M ∧ c.bs.length * 24 ≤ M ∧ c.hd.length * 48 ≤ M ∧ (∀ l ∈ c.gs, l.length * 48 ≤ M) ∧ ∀ l ∈ c.bs, l.length * 48 ≤ M := by
  rcases open_slice Tryz.underlying23 h with ⟨hcs, hx⟩ | ⟨a, len, cap, m, n, D, Pl, hcs, _, hl, hmx, hm, hx, hel⟩
  · simp only [List.cons.injEq, and_true] at hcs
    subst hcs
    exact ⟨[], ⟨by simp, .inl ⟨rfl, none, rfl⟩⟩, by simp, fun M _ => by simp⟩
  · simp only [List.cons.injEq, and_true] at hcs
    subst hcs
    simp only [if_true] at hm
    subst hm
    by_cases h0 : m = 0
    · have hl0 : len = 0 := by omega
      subst h0 hl0
      exact ⟨[], ⟨by simp, .inl ⟨rfl, some a, rfl⟩⟩, by simp, fun M _ => by simp⟩
    · rw [cells38] at hel
      have hc : ∀ i, i < m → ∃ p : ClV × Cl, (∀ r, r < 4 → w.cell? ((a.add (i * 4)).add r) = p.1.vals[r]?) ∧ ClAt w p.1 p.2 ∧ ClD p.2 ∧ ∀ M : Nat, (∀ y ∈ DataW.weights Tryz.prog 66 (D i), y ≤ M) → p.2.gs.length * 24 ≤ M ∧ p.2.bs.length * 24 ≤ M ∧ p.2.hd.length * 48 ≤ M ∧ (∀ l ∈ p.2.gs, l.length * 48 ≤ M) ∧ ∀ l ∈ p.2.bs, l.length * 48 ≤ M := by
        intro i hi
        obtain ⟨cs, h1, h2⟩ := hel i hi
        obtain ⟨X, c, rfl, h3, h4, h5⟩ := open_clauseW h2
        exact ⟨(X, c), (World.cells?_some h1).2.2, h3, h4, h5⟩
      obtain ⟨f, hf⟩ := @choose_lt (ClV × Cl) ⟨(⟨.slice none 0 0, .slice none 0 0, .slice none 0 0, 0⟩, ⟨[], [], [], 0⟩)⟩ m _ hc
      have h00 := (hf 0 (by omega)).1 0 (by omega)
      obtain ⟨b, o, spot⟩ := a
      have hspot : spot = none := by
        have h01 : w.cell? (((⟨b, o, spot⟩ : Addr).add (0 * 4)).add 0) = some (f 0).1.hv := h00
        simpa [Addr.add] using World.cell?_spot h01
      subst hspot
      have hr : w.rangeAt b o (flatK ((List.range len).map fun i => (f i).1)) := by
        intro j u hu
        obtain ⟨hi, hv⟩ := flatK_div _ j u hu
        simp at hi
        have h2 := (hf (j / 4) (by omega)).1 (j % 4) (by omega)
        rw [Addr.add_mid, Addr.add_mid, show o + j / 4 * 4 + j % 4 = o + j by omega] at h2
        rw [h2]
        simpa using hv
      have hb : b < w.heap.size := by
        have h01 : w.cell? (((⟨b, o, none⟩ : Addr).add (0 * 4)).add 0) = some (f 0).1.hv := h00
        rw [Addr.add_mid, Addr.add_mid] at h01
        exact World.block_lt_of_cell? w _ h01
      have hmem : ∀ c ∈ (List.range len).map (fun i => (f i).2), ∃ i, i < len ∧ (f i).2 = c := by
        intro c hc'
        simp only [List.mem_map, List.mem_range] at hc'
        exact hc'
      refine ⟨(List.range len).map fun i => (f i).2, ⟨by simp; omega, .inr ⟨b, o, m, (List.range len).map fun i => (f i).1, by simp, by simp; exact hl, hmx, hb, by simp, hr, ?_⟩⟩, ?_, fun M hM => ⟨?_, ?_⟩⟩
      · intro i X c hX hC
        simp only [List.getElem?_map, Option.map_eq_some_iff] at hX hC
        obtain ⟨j, hj, rfl⟩ := hX
        obtain ⟨j', hj', rfl⟩ := hC
        rw [hj] at hj'
        cases hj'
        have hlt : i < len := by have := (List.getElem?_eq_some_iff.1 hj).1; simpa using this
        rw [List.getElem?_range hlt] at hj
        cases hj
        exact (hf i (by omega)).2.1
      · intro c hc'
        obtain ⟨i, hi, rfl⟩ := hmem c hc'
        exact (hf i (by omega)).2.2.1
      · have h1 := hM ((len + (m - len)) * 80) (by
          rw [hx]
          simp [DataW.weights, Tryz.underlying23, bytes38])
        have h2 : len * 80 ≤ (len + (m - len)) * 80 := Nat.mul_le_mul_right _ (by omega)
        simp; omega
      · intro c hc'
        obtain ⟨i, hi, rfl⟩ := hmem c hc'
        refine (hf i (by omega)).2.2.2 M (fun y hy => hM y ?_)
        rw [hx]
        simp only [DataW.weights, Tryz.underlying23, List.mem_cons, List.mem_append]
        right; left
        exact weightsAll_mem (List.mem_map.2 ⟨i, by simpa using hi, rfl⟩) hy
end
end Go.Proofs.YtgknheafkkkjcaaGreatDoor
