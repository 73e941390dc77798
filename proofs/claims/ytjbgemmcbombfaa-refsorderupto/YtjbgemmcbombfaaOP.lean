/- Names and deeds that are handed in, opened, with how much they hold. -/
import Derived.Test.YtjbgemmcbombfaaRS
import Derived.Test.YtjbgemmcbombfaaRows
import Derived.ProofKit
import Derived.OpenShut
import Derived.Lib.SmallJoins
import Derived.ChangeSlices
import Derived.Deep.Slices
import Derived.Deep.Matrix
namespace Go.Proofs.Ytjbgemmcbombfaa
open Go.ChangeShapes Go.WideShapes Go.ChangeAt Go.RowKit Go.Joins Go.Deep
theorem bulk_pos {H : Type} (d : DataW H) : 1 ≤ Rows.uptoBulk d := by
  cases d with
  | lit x => cases x <;> simp [Rows.uptoBulk]
  | _ => simp [Rows.uptoBulk]
theorem bulkAll_len {H : Type} : ∀ ds : List (DataW H), ds.length ≤ Rows.uptoBulkAll ds
  | [] => by simp
  | d :: r => by
    have h1 := bulk_pos d
    have h2 := bulkAll_len r
    simp only [Rows.uptoBulkAll, List.length_cons]
    omega
theorem cells48 : Try.prog.cellsOf 48 = 2 := by kernel_rfl
theorem cells34 : Try.prog.cellsOf 34 = 1 := by kernel_rfl
theorem cells36 : Try.prog.cellsOf 36 = 4 := by kernel_rfl
theorem cells3 : Try.prog.cellsOf 3 = 1 := by kernel_rfl
theorem flatN_div (l : List Nm) (j : Nat) (v : Value) (h : (flatN l)[j]? = some v) : ∃ (hi : j / 2 < l.length), ([Value.int .i64 l[j / 2].1, .int .i64 l[j / 2].2])[j % 2]? = some v := by
  have hj : j < (flatN l).length := (List.getElem?_eq_some_iff.1 h).1
  rw [flatN_len] at hj
  have hi : j / 2 < l.length := by omega
  refine ⟨hi, ?_⟩
  obtain ⟨h1, h2⟩ := flatN_get l (j / 2) hi
  rcases Nat.mod_two_eq_zero_or_one j with e | e
  · rw [show j / 2 * 2 = j by omega, h] at h1
    rw [e]; simpa using h1.symm
  · rw [show j / 2 * 2 + 1 = j by omega, h] at h2
    rw [e]; simpa using h2.symm
theorem flatD_div (l : List Dd) (j : Nat) (v : Value) (h : (flatD l)[j]? = some v) : ∃ (hi : j / 4 < l.length), (l[j / 4].vals)[j % 4]? = some v := by
  have hj : j < (flatD l).length := (List.getElem?_eq_some_iff.1 h).1
  rw [flatD_len] at hj
  have hi : j / 4 < l.length := by omega
  refine ⟨hi, ?_⟩
  rw [← flatD_get l (j / 4) (j % 4) hi (by omega), show j / 4 * 4 + j % 4 = j by omega]
  exact h
section
variable {H : Type} {enc : TypeId × Value → H} {w : World} {base : Nat} {held : Bool}
theorem trod_struct2 {P : Program} {sp : Nat → Bool} {t : TypeId} {f0 f1 : Field} {fuel : Nat} {cs : List Value} {x : DataW H × List MemPlace} (ht : P.underlying t = some (.struct #[f0, f1])) (h : DataW.trod enc P w base sp held fuel t cs = some x) :
    ∃ y0 y1 n, x.1 = .agg [y0.1, y1.1] ∧ cs.length = P.cellsOf t ∧ DataW.trod enc P w base sp held n f0.type ((cs.drop f0.offset).take (P.cellsOf f0.type)) = some y0 ∧
      DataW.trod enc P w base sp held n f1.type ((cs.drop f1.offset).take (P.cellsOf f1.type)) = some y1 := by
  obtain ⟨xs, n, _, rfl, hl, hlen, hf⟩ := DataW.trod_struct ht h
  match xs, hlen with
  | [y0, y1], _ => exact ⟨y0, y1, n, by simp, hl, by simpa using hf 0 f0 rfl, by simpa using hf 1 f1 rfl⟩
theorem trod_struct4 {P : Program} {sp : Nat → Bool} {t : TypeId} {f0 f1 f2 f3 : Field} {fuel : Nat} {cs : List Value} {x : DataW H × List MemPlace} (ht : P.underlying t = some (.struct #[f0, f1, f2, f3])) (h : DataW.trod enc P w base sp held fuel t cs = some x) :
    ∃ y0 y1 y2 y3 n, x.1 = .agg [y0.1, y1.1, y2.1, y3.1] ∧ cs.length = P.cellsOf t ∧ DataW.trod enc P w base sp held n f0.type ((cs.drop f0.offset).take (P.cellsOf f0.type)) = some y0 ∧
      DataW.trod enc P w base sp held n f1.type ((cs.drop f1.offset).take (P.cellsOf f1.type)) = some y1 ∧ DataW.trod enc P w base sp held n f2.type ((cs.drop f2.offset).take (P.cellsOf f2.type)) = some y2 ∧ DataW.trod enc P w base sp held n f3.type ((cs.drop f3.offset).take (P.cellsOf f3.type)) = some y3 := by
  obtain ⟨xs, n, _, rfl, hl, hlen, hf⟩ := DataW.trod_struct ht h
  match xs, hlen with
  | [y0, y1, y2, y3], _ => exact ⟨y0, y1, y2, y3, n, by simp, hl, by simpa using hf 0 f0 rfl, by simpa using hf 1 f1 rfl, by simpa using hf 2 f2 rfl, by simpa using hf 3 f3 rfl⟩
set_option maxRecDepth 100000 in
theorem open_nm {fuel : Nat} {cs : List Value} {x : DataW H × List MemPlace} (h : DataW.trod enc Try.prog w base (fun _ => true) held fuel 48 cs = some x) :
    ∃ x : Nm, wfN x ∧ cs = [.int .i64 x.1, .int .i64 x.2] := by
  obtain ⟨y0, y1, n, _, hl, g0, g1⟩ := trod_struct2 Try.underlying48 h
  rw [cells48] at hl
  match cs, hl with
  | [a, b], _ =>
    simp only [cells3, List.drop_zero, List.drop_succ_cons, List.take_succ_cons, List.take_zero] at g0 g1
    obtain ⟨k0, e0, _, w0⟩ := DataW.trod_int Try.underlying3 g0
    obtain ⟨k1, e1, _, w1⟩ := DataW.trod_int Try.underlying3 g1
    simp only [List.cons.injEq, and_true] at e0 e1
    subst e0 e1
    exact ⟨(k0, k1), ⟨w0, w1⟩, rfl⟩
set_option maxRecDepth 100000 in
theorem open_names {fuel : Nat} {v : Value} {x : DataW H × List MemPlace} (h : DataW.trod enc Try.prog w base (fun _ => true) held fuel 34 [v] = some x) :
    ∃ a n c xs, v = .slice a n c ∧ NmR w a n xs ∧ n ≤ Rows.uptoBulk x.1 := by
  rcases open_slice Try.underlying34 h with ⟨hcs, hx⟩ | ⟨a, len, cap, m, n, D, Pl, hcs, _, hl, hmx, hm, hx, hel⟩
  · simp only [List.cons.injEq, and_true] at hcs
    exact ⟨none, 0, 0, [], hcs, ⟨rfl, .inl rfl, fun e h => by cases h⟩, Nat.zero_le _⟩
  · simp only [List.cons.injEq, and_true] at hcs
    simp only [if_true] at hm
    subst hm
    have hbk : len ≤ Rows.uptoBulk x.1 := by
      rw [hx]
      simp only [Rows.uptoBulk]
      have := bulkAll_len ((List.range len).map D)
      simp at this
      omega
    by_cases h0 : m = 0
    · have hl0 : len = 0 := by omega
      subst h0 hl0
      exact ⟨some a, 0, _, [], hcs, ⟨rfl, .inl rfl, fun e h => by cases h⟩, Nat.zero_le _⟩
    · rw [cells48] at hel
      have hc : ∀ i, i < m → ∃ e : Nm, (∀ r, r < 2 → w.cell? ((a.add (i * 2)).add r) = ([Value.int .i64 e.1, .int .i64 e.2])[r]?) ∧ wfN e := by
        intro i hi
        obtain ⟨cs, h1, h2⟩ := hel i hi
        obtain ⟨e, h3, rfl⟩ := open_nm h2
        exact ⟨e, (World.cells?_some h1).2.2, h3⟩
      obtain ⟨f, hf⟩ := @choose_lt Nm ⟨(0, 0)⟩ m _ hc
      have h00 := (hf 0 (by omega)).1 0 (by omega)
      obtain ⟨b, o, spot⟩ := a
      have hspot : spot = none := by
        have h01 : w.cell? (((⟨b, o, spot⟩ : Addr).add (0 * 2)).add 0) = some (.int .i64 (f 0).1) := h00
        simpa [Addr.add] using World.cell?_spot h01
      subst hspot
      have hr : w.rangeAt b o (flatN ((List.range len).map f)) := by
        intro j u hu
        obtain ⟨hi, hv⟩ := flatN_div _ j u hu
        simp at hi
        have h2 := (hf (j / 2) (by omega)).1 (j % 2) (by omega)
        rw [Addr.add_mid, Addr.add_mid, show o + j / 2 * 2 + j % 2 = o + j by omega] at h2
        rw [h2]
        simpa using hv
      have hb : b < w.heap.size := by
        have h01 : w.cell? (((⟨b, o, none⟩ : Addr).add (0 * 2)).add 0) = some (.int .i64 (f 0).1) := h00
        rw [Addr.add_mid, Addr.add_mid] at h01
        exact World.block_lt_of_cell? w _ h01
      refine ⟨some ⟨b, o, none⟩, len, _, (List.range len).map f, hcs, ⟨by simp, .inr ⟨b, o, rfl, hb, hr⟩, ?_⟩, hbk⟩
      intro e he
      simp only [List.mem_map, List.mem_range] at he
      obtain ⟨i, hi, rfl⟩ := he
      exact (hf i (by omega)).2
set_option maxRecDepth 100000 in
theorem open_dd {fuel : Nat} {cs : List Value} {x : DataW H × List MemPlace} (h : DataW.trod enc Try.prog w base (fun _ => true) held fuel 36 cs = some x) :
    ∃ d : Dd, cs = d.vals ∧ (wfI d.nd ∧ NmR w d.a d.n d.xs) ∧ d.n + 1 ≤ Rows.uptoBulk x.1 := by
  obtain ⟨y0, y1, y2, y3, n, hx, hl, g0, g1, g2, g3⟩ := trod_struct4 Try.underlying36 h
  rw [cells36] at hl
  match cs, hl with
  | [a, b, c, d], _ =>
    simp only [cells3, cells34, List.drop_zero, List.drop_succ_cons, List.take_succ_cons, List.take_zero] at g0 g1 g2 g3
    obtain ⟨k0, e0, _, _⟩ := DataW.trod_int Try.underlying3 g0
    obtain ⟨k1, e1, _, w1⟩ := DataW.trod_int Try.underlying3 g1
    obtain ⟨k2, e2, _, _⟩ := DataW.trod_int Try.underlying3 g2
    obtain ⟨pa, pn, pc, xs, rfl, hnm, hb⟩ := open_names g3
    simp only [List.cons.injEq, and_true] at e0 e1 e2
    subst e0 e1 e2
    refine ⟨⟨k0, k1, k2, pa, pn, pc, xs⟩, rfl, ⟨w1, hnm⟩, ?_⟩
    rw [hx]
    simp only [Rows.uptoBulk, Rows.uptoBulkAll]
    omega
theorem sum_bulk : ∀ (es : List Dd) (D : Nat → DataW H), (∀ i (hi : i < es.length), es[i].n + 1 ≤ Rows.uptoBulk (D i)) → tot es ≤ Rows.uptoBulkAll ((List.range es.length).map D)
  | [], _, _ => by simp [tot]
  | a :: r, D, h => by
    have h1 := h 0 (by simp)
    have h2 := sum_bulk r (fun i => D (i + 1)) (fun i hi => by have := h (i + 1) (by simpa using hi); simpa using this)
    rw [List.length_cons, List.range_succ_eq_map, List.map_cons, List.map_map]
    simp only [Rows.uptoBulkAll, tot] at *
    have e : List.map (D ∘ Nat.succ) (List.range r.length) = List.map (fun i => D (i + 1)) (List.range r.length) := rfl
    rw [e]
    simp at h1
    omega
set_option maxRecDepth 100000 in
theorem open_deeds {fuel : Nat} {v : Value} {x : DataW H × List MemPlace} (h : DataW.trod enc Try.prog w base (fun _ => true) held fuel 22 [v] = some x) :
    ∃ a n c es, v = .slice a n c ∧ DdRow w a n es ∧ tot es ≤ Rows.uptoBulk x.1 := by
  rcases open_slice Try.underlying22 h with ⟨hcs, _⟩ | ⟨a, len, cap, m, n, D, Pl, hcs, _, hl, hmx, hm, hx, hel⟩
  · simp only [List.cons.injEq, and_true] at hcs
    exact ⟨none, 0, 0, [], hcs, ⟨rfl, .inl rfl, fun e h => by cases h⟩, Nat.zero_le _⟩
  · simp only [List.cons.injEq, and_true] at hcs
    simp only [if_true] at hm
    subst hm
    by_cases h0 : m = 0
    · have hl0 : len = 0 := by omega
      subst h0 hl0
      exact ⟨some a, 0, _, [], hcs, ⟨rfl, .inl rfl, fun e h => by cases h⟩, Nat.zero_le _⟩
    · rw [cells36] at hel
      have hc : ∀ i, i < m → ∃ e : Dd, (∀ r, r < 4 → w.cell? ((a.add (i * 4)).add r) = e.vals[r]?) ∧ (wfI e.nd ∧ NmR w e.a e.n e.xs) ∧ e.n + 1 ≤ Rows.uptoBulk (D i) := by
        intro i hi
        obtain ⟨cs, h1, h2⟩ := hel i hi
        obtain ⟨e, rfl, h3, h4⟩ := open_dd h2
        exact ⟨e, (World.cells?_some h1).2.2, h3, h4⟩
      obtain ⟨f, hf⟩ := @choose_lt Dd ⟨⟨0, 0, 0, none, 0, 0, []⟩⟩ m _ hc
      have h00 := (hf 0 (by omega)).1 0 (by omega)
      obtain ⟨b, o, spot⟩ := a
      have hspot : spot = none := by
        have h01 : w.cell? (((⟨b, o, spot⟩ : Addr).add (0 * 4)).add 0) = some (.int .i64 (f 0).kd) := h00
        simpa [Addr.add] using World.cell?_spot h01
      subst hspot
      have hr : w.rangeAt b o (flatD ((List.range len).map f)) := by
        intro j u hu
        obtain ⟨hi, hv⟩ := flatD_div _ j u hu
        simp at hi
        have h2 := (hf (j / 4) (by omega)).1 (j % 4) (by omega)
        rw [Addr.add_mid, Addr.add_mid, show o + j / 4 * 4 + j % 4 = o + j by omega] at h2
        rw [h2]
        simpa using hv
      have hb : b < w.heap.size := by
        have h01 : w.cell? (((⟨b, o, none⟩ : Addr).add (0 * 4)).add 0) = some (.int .i64 (f 0).kd) := h00
        rw [Addr.add_mid, Addr.add_mid] at h01
        exact World.block_lt_of_cell? w _ h01
      refine ⟨some ⟨b, o, none⟩, len, _, (List.range len).map f, hcs, ⟨by simp, .inr ⟨b, o, rfl, hb, hr⟩, ?_⟩, ?_⟩
      · intro e he
        simp only [List.mem_map, List.mem_range] at he
        obtain ⟨i, hi, rfl⟩ := he
        exact (hf i (by omega)).2.1
      · rw [hx]
        simp only [Rows.uptoBulk]
        have h5 := sum_bulk ((List.range len).map f) D (fun i hi => by
          simp at hi
          simpa using (hf i (by omega)).2.2)
        simp only [List.length_map, List.length_range] at h5
        omega
end
end Go.Proofs.Ytjbgemmcbombfaa
