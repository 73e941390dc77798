/- Deeds that are handed in, opened, with how much they hold. -/
import Derived.Test.YthpbfaddojcohaaNP
import Derived.Test.YthpbfaddojcohaaNU
import Derived.Deep.Strs
namespace Go.Proofs.Ythpbfaddojcohaa
open Go.ChangeShapes Go.WideShapes Go.ChangeAt Go.RowKit Go.Joins Go.Deep
theorem cells36 : Try.prog.cellsOf 36 = 3 := by kernel_rfl
theorem cells34 : Try.prog.cellsOf 34 = 1 := by kernel_rfl
theorem bulk_pos {H : Type} (d : DataW H) : 1 ≤ Rows.uptoBulk d := by
  cases d with
  | lit x => cases x <;> simp [Rows.uptoBulk]
  | _ => simp [Rows.uptoBulk]
theorem bulkAll_len {H : Type} : ∀ ds : List (DataW H), ds.length ≤ Rows.uptoBulkAll ds
  | [] => by simp
  | d :: r => by
    have h1 := bulk_pos d
    have h2 := bulkAll_len r
    simp only [Rows.uptoBulkAll, List.length_cons]
    omega
theorem flatE_div (l : List Deed) (j : Nat) (v : Value) (h : (flatE l)[j]? = some v) : ∃ (hi : j / 3 < l.length), (l[j / 3].vals)[j % 3]? = some v := by
  have hj : j < (flatE l).length := (List.getElem?_eq_some_iff.1 h).1
  rw [flatE_len] at hj
  have hi : j / 3 < l.length := by omega
  refine ⟨hi, ?_⟩
  rw [← flatE_get l (j / 3) (j % 3) hi (by omega), show 3 * (j / 3) + j % 3 = j by omega]
  exact h
section
variable {H : Type} {enc : TypeId × Value → H} {w : World} {base : Nat} {held : Bool}
theorem dgs_bulk {fuel : Nat} {a : Option Addr} {n c : Nat} {x : DataW H × List MemPlace} (h : DataW.trod enc Try.prog w base (fun _ => true) held fuel 34 [.slice a n c] = some x) : n ≤ Rows.uptoBulk x.1 := by
  rcases open_slice Try.underlying34 h with ⟨hcs, _⟩ | ⟨a', len, cap, m, n', D, Pl, hcs, _, hl, _, hm, hx, _⟩
  · simp only [List.cons.injEq, and_true, Value.slice.injEq] at hcs
    omega
  · simp only [List.cons.injEq, and_true, Value.slice.injEq] at hcs
    obtain ⟨_, rfl, _⟩ := hcs
    rw [hx]
    simp only [Rows.uptoBulk]
    have := bulkAll_len ((List.range n).map D)
    simp only [List.length_map, List.length_range] at this
    omega
set_option maxRecDepth 100000 in
theorem open_deed {fuel : Nat} {cs : List Value} {x : DataW H × List MemPlace} (h : DataW.trod enc Try.prog w base (fun _ => true) held fuel 36 cs = some x) :
    ∃ e : Deed, cs = e.vals ∧ (∃ ds xs, ArgRow w (fun k => k < w.heap.size) e.a e.n ds xs ∧ (e.a = none → e.n = 0 ∧ e.c = 0)) ∧ e.n ≤ Rows.uptoBulk x.1 := by
  obtain ⟨y0, y1, y2, n, hx, hl, g0, g1, g2⟩ := trod_struct3 Try.underlying36 h
  rw [cells36] at hl
  match cs, hl with
  | [a, b, c], _ =>
    simp only [cells34, cells3, List.drop_zero, List.drop_succ_cons, List.take_succ_cons, List.take_zero] at g0 g1 g2
    obtain ⟨k0, e0, _, _⟩ := DataW.trod_int Try.underlying3 g0
    obtain ⟨k1, e1, _, _⟩ := DataW.trod_int Try.underlying3 g1
    obtain ⟨la, ln, lc, ds, xs, rfl, hA, hnc, _⟩ := open_dgs g2
    simp only [List.cons.injEq, and_true] at e0 e1
    subst e0 e1
    have hb := dgs_bulk g2
    refine ⟨⟨k0, k1, la, ln, lc⟩, rfl, ⟨ds, xs, hA, fun e => ?_⟩, ?_⟩
    · simp only at e
      subst e
      rcases open_slice Try.underlying34 g2 with ⟨hcs, _⟩ | ⟨a', len, cap, m, n', D, Pl, hcs, _⟩
      · simp only [List.cons.injEq, and_true, Value.slice.injEq] at hcs
        exact ⟨hcs.2.1, hcs.2.2⟩
      · simp at hcs
    · rw [hx]
      simp only [Rows.uptoBulk, Rows.uptoBulkAll]
      omega
theorem sum_bulk : ∀ (es : List Deed) (D : Nat → DataW H), (∀ i (hi : i < es.length), es[i].n ≤ Rows.uptoBulk (D i)) → sumN es ≤ Rows.uptoBulkAll ((List.range es.length).map D)
  | [], _, _ => by simp [sumN]
  | a :: r, D, h => by
    have h1 := h 0 (by simp)
    have h2 := sum_bulk r (fun i => D (i + 1)) (fun i hi => by have := h (i + 1) (by simpa using hi); simpa using this)
    rw [List.length_cons, List.range_succ_eq_map, List.map_cons, List.map_map]
    simp only [Rows.uptoBulkAll, sumN] at *
    have e : List.map (D ∘ Nat.succ) (List.range r.length) = List.map (fun i => D (i + 1)) (List.range r.length) := rfl
    rw [e]
    simp at h1
    omega
theorem open_deeds {fuel : Nat} {v : Value} {x : DataW H × List MemPlace} (h : DataW.trod enc Try.prog w base (fun _ => true) held fuel 22 [v] = some x) :
    ∃ a n c es, v = .slice a n c ∧ DeedRow w a n es ∧ sumN es ≤ Rows.uptoBulk x.1 ∧ n ≤ Rows.uptoBulk x.1 := by
  rcases open_slice Try.underlying22 h with ⟨hcs, _⟩ | ⟨a, len, cap, m, n, D, Pl, hcs, _, hl, hmx, hm, hx, hel⟩
  · simp only [List.cons.injEq, and_true] at hcs
    exact ⟨none, 0, 0, [], hcs, ⟨rfl, .inl rfl, fun i e h => by simp at h⟩, by simp [sumN], by simp⟩
  · simp only [List.cons.injEq, and_true] at hcs
    simp only [if_true] at hm
    subst hm
    have hb1 : len ≤ Rows.uptoBulk x.1 := by
      rw [hx]
      simp only [Rows.uptoBulk]
      have := bulkAll_len ((List.range len).map D)
      simp only [List.length_map, List.length_range] at this
      omega
    by_cases h0 : m = 0
    · have hl0 : len = 0 := by omega
      subst h0 hl0
      exact ⟨some a, 0, _, [], hcs, ⟨rfl, .inl rfl, fun i e h => by simp at h⟩, by simp [sumN], by simp⟩
    · rw [cells36] at hel
      have hc : ∀ i, i < m → ∃ e : Deed, (∀ r, r < 3 → w.cell? ((a.add (i * 3)).add r) = e.vals[r]?) ∧ (∃ ds xs, ArgRow w (fun k => k < w.heap.size) e.a e.n ds xs ∧ (e.a = none → e.n = 0 ∧ e.c = 0)) ∧ e.n ≤ Rows.uptoBulk (D i) := by
        intro i hi
        obtain ⟨cs, h1, h2⟩ := hel i hi
        obtain ⟨e, rfl, h3, h4⟩ := open_deed h2
        exact ⟨e, (World.cells?_some h1).2.2, h3, h4⟩
      obtain ⟨f, hf⟩ := @choose_lt Deed ⟨⟨0, 0, none, 0, 0⟩⟩ m _ hc
      have h00 := (hf 0 (by omega)).1 0 (by omega)
      obtain ⟨b, o, spot⟩ := a
      have hspot : spot = none := by
        have h01 : w.cell? (((⟨b, o, spot⟩ : Addr).add (0 * 3)).add 0) = some (.int .i64 (f 0).kd) := h00
        simpa [Addr.add] using World.cell?_spot h01
      subst hspot
      have hr : w.rangeAt b o (flatE ((List.range len).map f)) := by
        intro j u hu
        obtain ⟨hi, hv⟩ := flatE_div _ j u hu
        simp at hi
        have h2 := (hf (j / 3) (by omega)).1 (j % 3) (by omega)
        rw [Addr.add_mid, Addr.add_mid, show o + j / 3 * 3 + j % 3 = o + j by omega] at h2
        rw [h2]
        simpa using hv
      have hb : b < w.heap.size := by
        have h01 : w.cell? (((⟨b, o, none⟩ : Addr).add (0 * 3)).add 0) = some (.int .i64 (f 0).kd) := h00
        rw [Addr.add_mid, Addr.add_mid] at h01
        exact World.block_lt_of_cell? w _ h01
      refine ⟨some ⟨b, o, none⟩, len, _, (List.range len).map f, hcs, ⟨by simp, .inr ⟨b, o, rfl, hb, hr⟩, ?_⟩, ?_, hb1⟩
      · intro i e he
        simp only [List.getElem?_map, Option.map_eq_some_iff] at he
        obtain ⟨j, hj, rfl⟩ := he
        have hlt : i < len := by have := (List.getElem?_eq_some_iff.1 hj).1; simpa using this
        rw [List.getElem?_range hlt] at hj
        cases hj
        exact (hf i (by omega)).2.1
      · rw [hx]
        simp only [Rows.uptoBulk]
        have h5 := sum_bulk ((List.range len).map f) D (fun i hi => by
          simp at hi
          simpa using (hf i (by omega)).2.2)
        simp only [List.length_map, List.length_range] at h5
        omega
end
end Go.Proofs.Ythpbfaddojcohaa
