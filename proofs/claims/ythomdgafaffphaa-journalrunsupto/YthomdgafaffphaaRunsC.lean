/- For every bytes and every row of deeds that are no greater than the second form's bound (bulk 1,048,576 together), the statement on a log of any bytes and any calls (P14.2, P14.3, P3, P4) returns true and its arguments read as before. -/
import Derived.Test.YthomdgafaffphaaKF
import Derived.Test.YthomdgafaffphaaOP
import Derived.ProofKit
import Derived.OpenShut
import Derived.JoinedCond
import Derived.ChangeOld
import Derived.Below
import Derived.Deep.Strs
namespace Go.Proofs.Ythomdgafaffphaa.RunsC
open Go.ChangeShapes Go.WideShapes Go.ChangeAt Go.RowKit Go.Joins Go.Deep

theorem own : ownKnob Try.prog.godebug = none := by kernel_rfl
theorem laidOut : laidOutB Try.prog = true := by kernel_rfl
theorem cells53 : Try.prog.cellsOf 53 = 3 := by kernel_rfl
theorem cells3 : Try.prog.cellsOf 3 = 1 := by kernel_rfl
theorem flatJ_div (l : List Dj) (j : Nat) (v : Value) (h : (flatJ l)[j]? = some v) : ∃ (hi : j / 3 < l.length), (l[j / 3].vals)[j % 3]? = some v := by
  have hj : j < (flatJ l).length := (List.getElem?_eq_some_iff.1 h).1
  rw [flatJ_len] at hj
  have hi : j / 3 < l.length := by omega
  refine ⟨hi, ?_⟩
  rw [← flatJ_get l (j / 3) (j % 3) hi (by omega), show j / 3 * 3 + j % 3 = j by omega]
  exact h
section
variable {H : Type} {enc : TypeId × Value → H} {w : World} {base : Nat} {held : Bool}
theorem trod_struct3 {P : Program} {sp : Nat → Bool} {t : TypeId} {f0 f1 f2 : Field} {fuel : Nat} {cs : List Value} {x : DataW H × List MemPlace} (ht : P.underlying t = some (.struct #[f0, f1, f2])) (h : DataW.trod enc P w base sp held fuel t cs = some x) :
    ∃ y0 y1 y2 n, x.1 = .agg [y0.1, y1.1, y2.1] ∧ cs.length = P.cellsOf t ∧ DataW.trod enc P w base sp held n f0.type ((cs.drop f0.offset).take (P.cellsOf f0.type)) = some y0 ∧
      DataW.trod enc P w base sp held n f1.type ((cs.drop f1.offset).take (P.cellsOf f1.type)) = some y1 ∧ DataW.trod enc P w base sp held n f2.type ((cs.drop f2.offset).take (P.cellsOf f2.type)) = some y2 := by
  obtain ⟨xs, n, _, rfl, hl, hlen, hf⟩ := DataW.trod_struct ht h
  match xs, hlen with
  | [y0, y1, y2], _ => exact ⟨y0, y1, y2, n, by simp, hl, by simpa using hf 0 f0 rfl, by simpa using hf 1 f1 rfl, by simpa using hf 2 f2 rfl⟩
theorem open_by2 {fuel : Nat} {v : Value} {x : DataW H × List MemPlace} (h : DataW.trod enc Try.prog w base (fun _ => true) held fuel 22 [v] = some x) :
    ∃ a n c xs, v = .slice a n c ∧ By w a n c xs ∧ n ≤ Rows.uptoBulk x.1 ∧ (n = 0 ∨ ∀ k, blk a = some k → k < w.heap.size) := by
  obtain ⟨a, n, c, xs, h1, h2, h3⟩ := open_by h
  refine ⟨a, n, c, xs, h1, h2, h3, ?_⟩
  rcases h2.mem with e | ⟨b, o, e, hb, _⟩
  · exact .inl e
  · subst e
    exact .inr fun k hk => by cases hk; exact hb
set_option maxRecDepth 100000 in
theorem open_dj {fuel : Nat} {cs : List Value} {x : DataW H × List MemPlace} (h : DataW.trod enc Try.prog w base (fun _ => true) held fuel 53 cs = some x) :
    ∃ d : Dj, cs = d.vals ∧ (By w d.a d.n d.c d.p ∧ (d.n = 0 ∨ ∀ k, blk d.a = some k → k < w.heap.size)) ∧ d.n + 4 ≤ Rows.uptoBulk x.1 + 1 := by
  obtain ⟨y0, y1, y2, n, hx, hl, g0, g1, g2⟩ := trod_struct3 Try.underlying53 h
  rw [cells53] at hl
  match cs, hl with
  | [a, b, c], _ =>
    simp only [cells3, cells22, List.drop_zero, List.drop_succ_cons, List.take_succ_cons, List.take_zero] at g0 g1 g2
    obtain ⟨k0, e0, _, _⟩ := DataW.trod_int Try.underlying3 g0
    obtain ⟨k1, e1, _, _⟩ := DataW.trod_int Try.underlying3 g1
    obtain ⟨pa, pn, pc, xs, rfl, hby, hb, hlt⟩ := open_by2 g2
    simp only [List.cons.injEq, and_true] at e0 e1
    subst e0 e1
    refine ⟨⟨k0, k1, pa, pn, pc, xs⟩, rfl, ⟨hby, hlt⟩, ?_⟩
    have q0 := bulk_pos y0.1
    have q1 := bulk_pos y1.1
    rw [hx]
    simp only [Rows.uptoBulk, Rows.uptoBulkAll]
    omega
theorem sum_bulk : ∀ (es : List Dj) (D : Nat → DataW H), (∀ i (hi : i < es.length), es[i].n + 4 ≤ Rows.uptoBulk (D i) + 1) → sumJ es ≤ 3 * Rows.uptoBulkAll ((List.range es.length).map D)
  | [], _, _ => by simp [sumJ]
  | a :: r, D, h => by
    have h1 := h 0 (by simp)
    have h2 := sum_bulk r (fun i => D (i + 1)) (fun i hi => by have := h (i + 1) (by simpa using hi); simpa using this)
    rw [List.length_cons, List.range_succ_eq_map, List.map_cons, List.map_map]
    simp only [Rows.uptoBulkAll, sumJ] at *
    have e : List.map (D ∘ Nat.succ) (List.range r.length) = List.map (fun i => D (i + 1)) (List.range r.length) := rfl
    rw [e]
    simp at h1
    omega
theorem open_deeds {fuel : Nat} {v : Value} {x : DataW H × List MemPlace} (h : DataW.trod enc Try.prog w base (fun _ => true) held fuel 44 [v] = some x) :
    ∃ a n c es, v = .slice a n c ∧ DjRow w a n es ∧ sumJ es ≤ 3 * Rows.uptoBulk x.1 ∧ n ≤ 9223372036854775807 := by
  rcases open_slice Try.underlying44 h with ⟨hcs, _⟩ | ⟨a, len, cap, m, n, D, Pl, hcs, _, hl, hmx, hm, hx, hel⟩
  · simp only [List.cons.injEq, and_true] at hcs
    exact ⟨none, 0, 0, [], hcs, ⟨rfl, .inl rfl, fun e h => by cases h⟩, by simp [sumJ], by simp⟩
  · simp only [List.cons.injEq, and_true] at hcs
    simp only [if_true] at hm
    subst hm
    have hlm : len ≤ 9223372036854775807 := by unfold maxLen at hmx; omega
    by_cases h0 : m = 0
    · have hl0 : len = 0 := by omega
      subst h0 hl0
      exact ⟨some a, 0, _, [], hcs, ⟨rfl, .inl rfl, fun e h => by cases h⟩, by simp [sumJ], by simp⟩
    · rw [cells53] at hel
      have hc : ∀ i, i < m → ∃ e : Dj, (∀ r, r < 3 → w.cell? ((a.add (i * 3)).add r) = e.vals[r]?) ∧ (By w e.a e.n e.c e.p ∧ (e.n = 0 ∨ ∀ k, blk e.a = some k → k < w.heap.size)) ∧ e.n + 4 ≤ Rows.uptoBulk (D i) + 1 := by
        intro i hi
        obtain ⟨cs, h1, h2⟩ := hel i hi
        obtain ⟨e, rfl, h3, h4⟩ := open_dj h2
        exact ⟨e, (World.cells?_some h1).2.2, h3, h4⟩
      obtain ⟨f, hf⟩ := @choose_lt Dj ⟨⟨0, 0, none, 0, 0, []⟩⟩ m _ hc
      have h00 := (hf 0 (by omega)).1 0 (by omega)
      obtain ⟨b, o, spot⟩ := a
      have hspot : spot = none := by
        have h01 : w.cell? (((⟨b, o, spot⟩ : Addr).add (0 * 3)).add 0) = some (.int .i64 (f 0).kd) := h00
        simpa [Addr.add] using World.cell?_spot h01
      subst hspot
      have hr : w.rangeAt b o (flatJ ((List.range len).map f)) := by
        intro j u hu
        obtain ⟨hi, hv⟩ := flatJ_div _ j u hu
        simp at hi
        have h2 := (hf (j / 3) (by omega)).1 (j % 3) (by omega)
        rw [Addr.add_mid, Addr.add_mid, show o + j / 3 * 3 + j % 3 = o + j by omega] at h2
        rw [h2]
        simpa using hv
      have hb : b < w.heap.size := by
        have h01 : w.cell? (((⟨b, o, none⟩ : Addr).add (0 * 3)).add 0) = some (.int .i64 (f 0).kd) := h00
        rw [Addr.add_mid, Addr.add_mid] at h01
        exact World.block_lt_of_cell? w _ h01
      refine ⟨some ⟨b, o, none⟩, len, _, (List.range len).map f, hcs, ⟨by simp, .inr ⟨b, o, rfl, hb, hr⟩, ?_⟩, ?_, hlm⟩
      · intro e he
        simp only [List.mem_map, List.mem_range] at he
        obtain ⟨i, hi, rfl⟩ := he
        exact (hf i (by omega)).2.1
      · rw [hx]
        simp only [Rows.uptoBulk]
        have h5 := sum_bulk ((List.range len).map f) D (fun i hi => by
          simp at hi
          simpa using (hf i (by omega)).2.2)
        simp only [List.length_map, List.length_range] at h5
        omega
end
set_option maxRecDepth 100000 in
theorem contract (H : Type) (enc : TypeId × Value → H) (W : World) (base : Nat) (args : Array Value) (ds gs : List (DataW H)) (before : List MemPlace)
    (hval0 : ∀ (j : Nat) t v, Try.f4.params[j]? = some t → args[j]? = some v → Value.okWide Try.prog W .any base t v)
    (hW : DataW.Whole enc Try.prog Try.f4.params.toList Rows.journalRunsSpec.vars false W args.toList ds gs before)
    (hk : Rows.uptoSmall H (ds ++ gs) = true) :
    Calls Try.prog 4 args W fun e W' => ∃ v, e = .returned v ∧ Rows.journalRunsSpec.post enc Try.prog Try.f4 false true false false W args v W' := by
  have hW' := hW
  obtain ⟨p, q, hA0, hV, rfl, hfz, hnd⟩ := hW
  have hA : DataW.TrodAll enc Try.prog W 0 (fun _ => true) true Try.f4.params.toList args.toList ds p := hA0
  have hval : ∀ (j : Nat) t v, Try.f4.params[j]? = some t → args[j]? = some v → Value.okWide Try.prog W .any base t v := hval0
  rw [Try.params4] at hA hval
  obtain ⟨v0, vs0, d0, ds0, p0, q0, hargs, rfl, rfl, h0, r0⟩ := trodAll_cons hA
  obtain ⟨v1, vs1, d1, ds1, p1, q1, rfl, rfl, rfl, h1, r1⟩ := trodAll_cons r0
  obtain ⟨rfl, rfl, rfl⟩ := trodAll_nil r1
  obtain rfl : args = #[v0, v1] := by cases args; simp_all
  obtain ⟨rfl, rfl⟩ := trodVars_none hV
  have k0 := h0
  have lt0 : ∀ x ∈ p0, x.block < W.heap.size := by obtain ⟨m, hm⟩ := k0; exact DataW.trod_lt m _ _ _ hm
  have k1 := h1
  have lt1 : ∀ x ∈ p1, x.block < W.heap.size := by obtain ⟨m, hm⟩ := k1; exact DataW.trod_lt m _ _ _ hm
  obtain ⟨fuel0, hf0⟩ := h0
  obtain ⟨fuel1, hf1⟩ := h1
  have hb := of_decide_eq_true hk
  simp only [Rows.uptoBulkAll, List.append_nil] at hb
  obtain ⟨a0, n0, c0, rfl⟩ := okWide_slice Try.underlying22 (hval 0 22 v0 rfl rfl)
  obtain ⟨a1, n1, c1, rfl⟩ := okWide_slice Try.underlying44 (hval 1 44 v1 rfl rfl)
  obtain ⟨a, n, c, xs, e0, hD0, hn0⟩ := open_by (by simpa [Value.cells] using hf0)
  simp only [Value.slice.injEq] at e0
  obtain ⟨rfl, rfl, rfl⟩ := e0
  obtain ⟨a', n', c', es, e1, hD1, hs1, hn1⟩ := open_deeds (by simpa [Value.cells] using hf1)
  simp only [Value.slice.injEq] at e1
  obtain ⟨rfl, rfl, rfl⟩ := e1
  simp only [List.append_nil] at hW'
  dsimp only at hn0 hs1
  have hlx := hD0.len
  clear hA0 hval0
  refine (j4 a0 n0 c0 xs a1 n1 c1 es W hD0 hD1 (by omega) hn1).mono fun e W' ⟨he, bel⟩ => ?_
  subst he
  exact ⟨_, rfl, _, _, _, [], _, [], hW', trodAll_mk1 (shut_bool Try.underlying4 _), trodAll_cons_mk (Below.trod laidOut (by kernel_rfl) (of_decide_eq_true (by kernel_rfl)) k0 bel lt0) (trodAll_cons_mk (Below.trod laidOut (by kernel_rfl) (of_decide_eq_true (by kernel_rfl)) k1 bel lt1) trodAll_mk0), rfl, bel.frame _, fun h => by cases h⟩

set_option maxRecDepth 100000 in
theorem lifted (os : Os) (started : os.Started) (H : Type) (enc : TypeId × Value → H) (F : Stop.Interp) :
    ReturnsInHanded {} Try.checked os 4 .any ((Rows.OpenSpec.upto Rows.journalRunsSpec).pre6 enc Try.prog Try.f4 Rows.journalRunsUptoRow.domain false) (((Rows.OpenSpec.upto Rows.journalRunsSpec).at F).post enc Try.prog Try.f4 false true false false) := by
  refine returnsInHanded_of_cond (C := Try.checked) (s := Rows.OpenSpec.upto Rows.journalRunsSpec) (k := Rows.uptoSmall) rfl own started (by kernel_rfl) Try.func4
    (OpenSpec.witness (enc := enc) (C := Try.checked) (s := Rows.OpenSpec.upto Rows.journalRunsSpec) (k := Rows.uptoSmall) rfl false ⟨#[], #[.slice none 0 0, .slice none 0 0], []⟩ 8 (by kernel_rfl) (by kernel_rfl) (by kernel_rfl)
      (x := ([.nil, .nil], [], [])) (by kernel_rfl) rfl (by kernel_rfl)) ?_
  intro W base args ds gs before hval hW _ hk _
  exact contract H enc W base args ds gs before hval hW hk

theorem over : Rows.journalRunsUptoRow.holds Try.pinned (Rows.OpenSpec.upto Rows.journalRunsSpec) :=
  OpenClaim.holds_of_cond 4 Try.f4 rfl rfl rfl rfl rfl rfl rfl ⟨rfl, rfl, rfl, rfl, rfl⟩ rfl rfl rfl rfl rfl (by kernel_rfl) Try.func4 (by kernel_rfl)
    (of_decide_eq_true (by kernel_rfl)) (by unfold Func.isWrapper; first | (rw [if_pos (by decide +kernel)]; kernel_rfl) | (rw [if_neg (by decide +kernel)]; exact ⟨rfl, rfl⟩))
    (fun os started H enc _ F => lifted os started H enc F)
end Go.Proofs.Ythomdgafaffphaa.RunsC

namespace Go.Proofs.Ythomdgafaffphaa
/-- THE STATEMENT, in its second form. -/
theorem journalRunsUpto_holds : Rows.JournalRunsUptoSaid := RunsC.over
end Go.Proofs.Ythomdgafaffphaa
