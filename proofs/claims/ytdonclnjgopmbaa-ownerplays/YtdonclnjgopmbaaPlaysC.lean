/- For every row of deeds the statement that each call tells what the document says (P15.1, P15.2) returns true and its argument reads as before, without a condition. -/
import Derived.Test.YtdonclnjgopmbaaPU
import Derived.Test.YtdonclnjgopmbaaOpD
namespace Go.Proofs.Ytdonclnjgopmbaa.PlaysC
open Go.ChangeShapes Go.WideShapes Go.ChangeAt Go.RowKit Go.Joins Go.Deep
open OpD
section
variable {H : Type} {enc : TypeId × Value → H} {w : World} {base : Nat} {held : Bool}
theorem fmN_div (l : List Nm) (j : Nat) (v : Value) (h : (l.flatMap encM)[j]? = some v) : ∃ (hi : j / 2 < l.length), ([Value.int .i64 l[j / 2].1, .int .i64 l[j / 2].2])[j % 2]? = some v := by
  have hj : j < (l.flatMap encM).length := (List.getElem?_eq_some_iff.1 h).1
  rw [encM_len'] at hj
  have hi : j / 2 < l.length := by omega
  obtain ⟨h1, h2⟩ := fmN_get l (j / 2) hi
  refine ⟨hi, ?_⟩
  rcases (show j % 2 = 0 ∨ j % 2 = 1 by omega) with e | e
  · rw [show j / 2 * 2 = j by omega, h] at h1
    rw [e]; simpa using h1.symm
  · rw [show j / 2 * 2 + 1 = j by omega, h] at h2
    rw [e]; simpa using h2.symm
theorem open_names {fuel : Nat} {v : Value} {x : DataW H × List MemPlace} (h : DataW.trod enc Try.prog w base (fun _ => true) held fuel 29 [v] = some x) :
    ∃ a n c xs, v = .slice a n c ∧ Ns w a n xs ∧ (∀ x ∈ xs, wfN x) ∧ n ≤ 9223372036854775807 := by
  rcases open_slice Try.underlying29 h with ⟨hcs, hx⟩ | ⟨a, len, cap, m, n, D, Pl, hcs, _, hl, hmx, hm, hx, hel⟩
  · simp only [List.cons.injEq, and_true] at hcs
    exact ⟨none, 0, 0, [], hcs, ⟨rfl, .inl rfl⟩, fun e h => (by cases h), by simp⟩
  · simp only [List.cons.injEq, and_true] at hcs
    simp only [if_true] at hm
    subst hm
    have hlm : len ≤ 9223372036854775807 := by unfold maxLen at hmx; omega
    by_cases h0 : m = 0
    · have hl0 : len = 0 := by omega
      subst h0 hl0
      exact ⟨some a, 0, _, [], hcs, ⟨rfl, .inl rfl⟩, fun e h => (by cases h), by simp⟩
    · rw [cells28] at hel
      have hc : ∀ i, i < m → ∃ e : Nm, (∀ r, r < 2 → w.cell? ((a.add (i * 2)).add r) = ([Value.int .i64 e.1, .int .i64 e.2])[r]?) ∧ wfN e := by
        intro i hi
        obtain ⟨cs, h1, h2⟩ := hel i hi
        obtain ⟨e, h3, rfl⟩ := open_nm h2
        exact ⟨e, (World.cells?_some h1).2.2, h3⟩
      obtain ⟨f, hf⟩ := @choose_lt Nm ⟨(0, 0)⟩ m _ hc
      have h00 := (hf 0 (by omega)).1 0 (by omega)
      obtain ⟨b, o, spot⟩ := a
      have hspot : spot = none := by
        have h01 : w.cell? (((⟨b, o, spot⟩ : Addr).add (0 * 2)).add 0) = some (.int .i64 (f 0).1) := h00
        simpa [Addr.add] using World.cell?_spot h01
      subst hspot
      have hr : w.rangeAt b o (((List.range len).map f).flatMap encM) := by
        intro j u hu
        obtain ⟨hi, hv⟩ := fmN_div _ j u hu
        simp at hi
        have h2 := (hf (j / 2) (by omega)).1 (j % 2) (by omega)
        rw [Addr.add_mid, Addr.add_mid, show o + j / 2 * 2 + j % 2 = o + j by omega] at h2
        rw [h2]
        simpa using hv
      have hb : b < w.heap.size := by
        have h01 : w.cell? (((⟨b, o, none⟩ : Addr).add (0 * 2)).add 0) = some (.int .i64 (f 0).1) := h00
        rw [Addr.add_mid, Addr.add_mid] at h01
        exact World.block_lt_of_cell? w _ h01
      refine ⟨some ⟨b, o, none⟩, len, _, (List.range len).map f, hcs, ⟨by simp, .inr ⟨b, o, rfl, hb, hr⟩⟩, ?_, hlm⟩
      intro e he
      simp only [List.mem_map, List.mem_range] at he
      obtain ⟨i, hi, rfl⟩ := he
      exact (hf i (by omega)).2
set_option maxRecDepth 100000 in
theorem open_dd2 {fuel : Nat} {cs : List Value} {x : DataW H × List MemPlace} (h : DataW.trod enc Try.prog w base (fun _ => true) held fuel 31 cs = some x) :
    ∃ d : Dd, wfN d.x ∧ (∃ xs, Ns w d.a d.n xs ∧ (∀ x ∈ xs, wfN x) ∧ d.n ≤ 9223372036854775807) ∧ cs = d.vals := by
  obtain ⟨y0, y1, y2, y3, n, _, hl, g0, g1, g2, g3⟩ := OpD.trod_struct4 Try.underlying31 h
  rw [cells31] at hl
  match cs, hl with
  | [a, b, c, d, e], _ =>
    simp only [cells3, cells28, cells29, List.drop_zero, List.drop_succ_cons, List.take_succ_cons, List.take_zero] at g0 g1 g2 g3
    obtain ⟨k0, e0, _, _⟩ := DataW.trod_int Try.underlying3 g0
    obtain ⟨z, hz, e1⟩ := open_nm g1
    obtain ⟨k2, e2, _, _⟩ := DataW.trod_int Try.underlying3 g2
    simp only [List.cons.injEq, and_true] at e0 e1 e2
    obtain ⟨e3, e4⟩ := e1
    obtain ⟨a', n', c', xs, e5, hN, hwf, hnn⟩ := open_names g3
    subst e0 e2 e3 e4 e5
    exact ⟨⟨k0, z, k2, a', n', c'⟩, hz, ⟨xs, hN, hwf, hnn⟩, rfl⟩
theorem open_deeds2 {fuel : Nat} {v : Value} {x : DataW H × List MemPlace} (h : DataW.trod enc Try.prog w base (fun _ => true) held fuel 22 [v] = some x) :
    ∃ a n c es, v = .slice a n c ∧ DdRow w a n es ∧ DdMore w es ∧ n ≤ 9223372036854775807 := by
  rcases open_slice Try.underlying22 h with ⟨hcs, _⟩ | ⟨a, len, cap, m, n, D, Pl, hcs, _, hl, hmx, hm, hx, hel⟩
  · simp only [List.cons.injEq, and_true] at hcs
    exact ⟨none, 0, 0, [], hcs, ⟨rfl, .inl rfl, fun e h => by cases h⟩, fun e h => (by cases h), by simp⟩
  · simp only [List.cons.injEq, and_true] at hcs
    simp only [if_true] at hm
    subst hm
    have hlm : len ≤ 9223372036854775807 := by unfold maxLen at hmx; omega
    by_cases h0 : m = 0
    · have hl0 : len = 0 := by omega
      subst h0 hl0
      exact ⟨some a, 0, _, [], hcs, ⟨rfl, .inl rfl, fun e h => by cases h⟩, fun e h => (by cases h), by simp⟩
    · rw [cells31] at hel
      have hc : ∀ i, i < m → ∃ e : Dd, (∀ r, r < 5 → w.cell? ((a.add (i * 5)).add r) = e.vals[r]?) ∧ (wfN e.x ∧ ∃ xs, Ns w e.a e.n xs ∧ (∀ x ∈ xs, wfN x) ∧ e.n ≤ 9223372036854775807) := by
        intro i hi
        obtain ⟨cs, h1, h2⟩ := hel i hi
        obtain ⟨e, h3, h4, rfl⟩ := open_dd2 h2
        exact ⟨e, (World.cells?_some h1).2.2, h3, h4⟩
      obtain ⟨f, hf⟩ := @choose_lt Dd ⟨⟨0, (0, 0), 0, none, 0, 0⟩⟩ m _ hc
      have h00 := (hf 0 (by omega)).1 0 (by omega)
      obtain ⟨b, o, spot⟩ := a
      have hspot : spot = none := by
        have h01 : w.cell? (((⟨b, o, spot⟩ : Addr).add (0 * 5)).add 0) = some (.int .i64 (f 0).kd) := h00
        simpa [Addr.add] using World.cell?_spot h01
      subst hspot
      have hr : w.rangeAt b o (flatD ((List.range len).map f)) := by
        intro j u hu
        obtain ⟨hi, hv⟩ := flatD_div _ j u hu
        simp at hi
        have h2 := (hf (j / 5) (by omega)).1 (j % 5) (by omega)
        rw [Addr.add_mid, Addr.add_mid, show o + j / 5 * 5 + j % 5 = o + j by omega] at h2
        rw [h2]
        simpa using hv
      have hb : b < w.heap.size := by
        have h01 : w.cell? (((⟨b, o, none⟩ : Addr).add (0 * 5)).add 0) = some (.int .i64 (f 0).kd) := h00
        rw [Addr.add_mid, Addr.add_mid] at h01
        exact World.block_lt_of_cell? w _ h01
      refine ⟨some ⟨b, o, none⟩, len, _, (List.range len).map f, hcs, ⟨by simp, .inr ⟨b, o, rfl, hb, hr⟩, ?_⟩, ?_, hlm⟩
      · intro e he
        simp only [List.mem_map, List.mem_range] at he
        obtain ⟨i, hi, rfl⟩ := he
        exact (hf i (by omega)).2.1
      · intro e he
        simp only [List.mem_map, List.mem_range] at he
        obtain ⟨i, hi, rfl⟩ := he
        exact (hf i (by omega)).2.2
end
set_option maxRecDepth 100000 in
theorem lifted (os : Os) (started : os.Started) (H : Type) (enc : TypeId × Value → H) :
    ReturnsInHanded {} Try.checked os 3 .any (Rows.ownerPlaysSpec.pre6 enc Try.prog Try.f3 Rows.ownerPlaysRow.domain false) (Rows.ownerPlaysSpec.post enc Try.prog Try.f3 false true false false) := by
  refine returnsInHanded_of_change (C := Try.checked) own started (by kernel_rfl) Try.func3
    (ChangeSpec.witness6 (enc := enc) (C := Try.checked) false ⟨#[], #[.slice none 0 0], []⟩ 8 (by kernel_rfl) (by kernel_rfl) (by kernel_rfl) (by kernel_rfl)) ?_
  intro W base args ds gs before hval0 hW hcnd _
  have hval : ∀ (j : Nat) t v, Try.f3.params[j]? = some t → args[j]? = some v → Value.okWide Try.prog W .any base t v := hval0
  have hW' := hW
  obtain ⟨p, q, hA0, hV, rfl, hfz, hnd⟩ := hW
  have hA : DataW.TrodAll enc Try.prog W 0 (fun _ => true) true Try.f3.params.toList args.toList ds p := hA0
  rw [Try.params3] at hA hval
  obtain ⟨v0, vs0, d0, ds0, p0, q0, hargs, rfl, rfl, h0, r0⟩ := trodAll_cons hA
  obtain ⟨rfl, rfl, rfl⟩ := trodAll_nil r0
  obtain rfl : args = #[v0] := by cases args; simp_all
  obtain ⟨rfl, rfl⟩ := trodVars_none hV
  have k0 := h0
  have lt0 : ∀ x ∈ p0, x.block < W.heap.size := by obtain ⟨m, hm⟩ := k0; exact DataW.trod_lt m _ _ _ hm
  obtain ⟨fuel0, hf0⟩ := h0
  obtain ⟨a0, n0, c0, rfl⟩ := okWide_slice Try.underlying22 (hval 0 22 v0 rfl rfl)
  obtain ⟨a, n, c, es, e0, hD, hM, hn⟩ := open_deeds2 (by simpa [Value.cells] using hf0)
  simp only [Value.slice.injEq] at e0
  obtain ⟨rfl, rfl, rfl⟩ := e0
  clear hA0 hval0
  refine (o3 a0 n0 c0 es W hD hM hn).mono fun e W' ⟨he, bel⟩ => ?_
  subst he
  exact ⟨_, rfl, _, _, _, [], _, [], hW', trodAll_mk1 (shut_bool Try.underlying4 _), (trodAll_cons_mk (Below.trod laidOut (by kernel_rfl) (of_decide_eq_true (by kernel_rfl)) k0 bel lt0) trodAll_mk0), rfl, bel.frame _, fun h => by cases h⟩

theorem over : Rows.ownerPlaysRow.holds Try.pinned (OpenSpec.ofChange Rows.ownerPlaysSpec) :=
  OpenClaim.holds_of_wide 3 Try.f3 rfl rfl rfl rfl rfl rfl rfl ⟨rfl, rfl, rfl, rfl, rfl⟩ rfl rfl rfl rfl rfl (by kernel_rfl) Try.func3 (by kernel_rfl)
    (of_decide_eq_true (by kernel_rfl)) (by unfold Func.isWrapper; first | (rw [if_pos (by decide +kernel)]; kernel_rfl) | (rw [if_neg (by decide +kernel)]; exact ⟨rfl, rfl⟩))
    (fun os started H enc _ => lifted os started H enc)
end Go.Proofs.Ytdonclnjgopmbaa.PlaysC

namespace Go.Proofs.Ytdonclnjgopmbaa
/-- THE STATEMENT. -/
theorem ownerPlays_holds : Rows.OwnerPlaysSaid := PlaysC.over
end Go.Proofs.Ytdonclnjgopmbaa
