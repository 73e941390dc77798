/- For every row of deeds and every name the statement on one variable and another one (P15.3, P15.4) returns true and its arguments read as before, without a condition. -/
import Derived.Test.YtdonclnjgopmbaaOJ
import Derived.Test.YtdonclnjgopmbaaRows
import Derived.ProofKit
import Derived.Lib.SmallJoins
import Derived.Deep.Slices
import Derived.Deep.Matrix
import Derived.Deep.Strs
import Derived.OpenShut
import Derived.ShutString
import Derived.ChangeOld
import Derived.Below
namespace Go.Proofs.Ytdonclnjgopmbaa.ApartC
open Go.ChangeShapes Go.WideShapes Go.ChangeAt Go.RowKit Go.Joins Go.Deep

theorem own : ownKnob Try.prog.godebug = none := by kernel_rfl
theorem laidOut : laidOutB Try.prog = true := by kernel_rfl
theorem cells28 : Try.prog.cellsOf 28 = 2 := by kernel_rfl
theorem cells31 : Try.prog.cellsOf 31 = 5 := by kernel_rfl
theorem cells29 : Try.prog.cellsOf 29 = 1 := by kernel_rfl
theorem cells3 : Try.prog.cellsOf 3 = 1 := by kernel_rfl
section
variable {H : Type} {enc : TypeId × Value → H} {w : World} {base : Nat} {held : Bool}
theorem trod_struct2 {P : Program} {sp : Nat → Bool} {t : TypeId} {f0 f1 : Field} {fuel : Nat} {cs : List Value} {x : DataW H × List MemPlace} (ht : P.underlying t = some (.struct #[f0, f1])) (h : DataW.trod enc P w base sp held fuel t cs = some x) :
    ∃ y0 y1 n, x.1 = .agg [y0.1, y1.1] ∧ cs.length = P.cellsOf t ∧ DataW.trod enc P w base sp held n f0.type ((cs.drop f0.offset).take (P.cellsOf f0.type)) = some y0 ∧
      DataW.trod enc P w base sp held n f1.type ((cs.drop f1.offset).take (P.cellsOf f1.type)) = some y1 := by
  obtain ⟨xs, n, _, rfl, hl, hlen, hf⟩ := DataW.trod_struct ht h
  match xs, hlen with
  | [y0, y1], _ => exact ⟨y0, y1, n, by simp, hl, by simpa using hf 0 f0 rfl, by simpa using hf 1 f1 rfl⟩
theorem trod_struct4 {P : Program} {sp : Nat → Bool} {t : TypeId} {f0 f1 f2 f3 : Field} {fuel : Nat} {cs : List Value} {x : DataW H × List MemPlace} (ht : P.underlying t = some (.struct #[f0, f1, f2, f3])) (h : DataW.trod enc P w base sp held fuel t cs = some x) :
    ∃ y0 y1 y2 y3 n, x.1 = .agg [y0.1, y1.1, y2.1, y3.1] ∧ cs.length = P.cellsOf t ∧ DataW.trod enc P w base sp held n f0.type ((cs.drop f0.offset).take (P.cellsOf f0.type)) = some y0 ∧
      DataW.trod enc P w base sp held n f1.type ((cs.drop f1.offset).take (P.cellsOf f1.type)) = some y1 ∧ DataW.trod enc P w base sp held n f2.type ((cs.drop f2.offset).take (P.cellsOf f2.type)) = some y2 ∧ DataW.trod enc P w base sp held n f3.type ((cs.drop f3.offset).take (P.cellsOf f3.type)) = some y3 := by
  obtain ⟨xs, n, _, rfl, hl, hlen, hf⟩ := DataW.trod_struct ht h
  match xs, hlen with
  | [y0, y1, y2, y3], _ => exact ⟨y0, y1, y2, y3, n, by simp, hl, by simpa using hf 0 f0 rfl, by simpa using hf 1 f1 rfl, by simpa using hf 2 f2 rfl, by simpa using hf 3 f3 rfl⟩
theorem open_nm {fuel : Nat} {cs : List Value} {x : DataW H × List MemPlace} (h : DataW.trod enc Try.prog w base (fun _ => true) held fuel 28 cs = some x) :
    ∃ x : Nm, wfN x ∧ cs = [.int .i64 x.1, .int .i64 x.2] := by
  obtain ⟨y0, y1, n, _, hl, g0, g1⟩ := trod_struct2 Try.underlying28 h
  rw [cells28] at hl
  match cs, hl with
  | [a, b], _ =>
    simp only [cells3, List.drop_zero, List.drop_succ_cons, List.take_succ_cons, List.take_zero] at g0 g1
    obtain ⟨k0, e0, _, w0⟩ := DataW.trod_int Try.underlying3 g0
    obtain ⟨k1, e1, _, w1⟩ := DataW.trod_int Try.underlying3 g1
    simp only [List.cons.injEq, and_true] at e0 e1
    subst e0 e1
    exact ⟨(k0, k1), ⟨w0, w1⟩, rfl⟩
set_option maxRecDepth 100000 in
theorem open_dd {fuel : Nat} {cs : List Value} {x : DataW H × List MemPlace} (h : DataW.trod enc Try.prog w base (fun _ => true) held fuel 31 cs = some x) :
    ∃ d : Dd, wfN d.x ∧ cs = d.vals := by
  obtain ⟨y0, y1, y2, y3, n, _, hl, g0, g1, g2, g3⟩ := trod_struct4 Try.underlying31 h
  rw [cells31] at hl
  match cs, hl with
  | [a, b, c, d, e], _ =>
    simp only [cells3, cells28, cells29, List.drop_zero, List.drop_succ_cons, List.take_succ_cons, List.take_zero] at g0 g1 g2 g3
    obtain ⟨k0, e0, _, _⟩ := DataW.trod_int Try.underlying3 g0
    obtain ⟨z, hz, e1⟩ := open_nm g1
    obtain ⟨k2, e2, _, _⟩ := DataW.trod_int Try.underlying3 g2
    simp only [List.cons.injEq, and_true] at e0 e1 e2
    obtain ⟨e3, e4⟩ := e1
    rcases open_slice Try.underlying29 g3 with ⟨hcs, _⟩ | ⟨a', len, cap, m, n', D, Pl, hcs, _⟩
    · simp only [List.cons.injEq, and_true] at hcs
      subst e0 e2 e3 e4 hcs
      exact ⟨⟨k0, z, k2, none, 0, 0⟩, hz, rfl⟩
    · simp only [List.cons.injEq, and_true] at hcs
      subst e0 e2 e3 e4 hcs
      exact ⟨⟨k0, z, k2, some a', len, cap⟩, hz, rfl⟩
theorem flatD_div (l : List Dd) (j : Nat) (v : Value) (h : (flatD l)[j]? = some v) : ∃ (hi : j / 5 < l.length), (l[j / 5].vals)[j % 5]? = some v := by
  have hj : j < (flatD l).length := (List.getElem?_eq_some_iff.1 h).1
  rw [flatD_len] at hj
  have hi : j / 5 < l.length := by omega
  refine ⟨hi, ?_⟩
  rw [← flatD_get l (j / 5) (j % 5) hi (by omega), show j / 5 * 5 + j % 5 = j by omega]
  exact h
theorem open_deeds {fuel : Nat} {v : Value} {x : DataW H × List MemPlace} (h : DataW.trod enc Try.prog w base (fun _ => true) held fuel 22 [v] = some x) :
    ∃ a n c es, v = .slice a n c ∧ DdRow w a n es ∧ n ≤ 9223372036854775807 := by
  rcases open_slice Try.underlying22 h with ⟨hcs, _⟩ | ⟨a, len, cap, m, n, D, Pl, hcs, _, hl, hmx, hm, hx, hel⟩
  · simp only [List.cons.injEq, and_true] at hcs
    exact ⟨none, 0, 0, [], hcs, ⟨rfl, .inl rfl, fun e h => by cases h⟩, by simp⟩
  · simp only [List.cons.injEq, and_true] at hcs
    simp only [if_true] at hm
    subst hm
    have hlm : len ≤ 9223372036854775807 := by unfold maxLen at hmx; omega
    by_cases h0 : m = 0
    · have hl0 : len = 0 := by omega
      subst h0 hl0
      exact ⟨some a, 0, _, [], hcs, ⟨rfl, .inl rfl, fun e h => by cases h⟩, by simp⟩
    · rw [cells31] at hel
      have hc : ∀ i, i < m → ∃ e : Dd, (∀ r, r < 5 → w.cell? ((a.add (i * 5)).add r) = e.vals[r]?) ∧ wfN e.x := by
        intro i hi
        obtain ⟨cs, h1, h2⟩ := hel i hi
        obtain ⟨e, h3, rfl⟩ := open_dd h2
        exact ⟨e, (World.cells?_some h1).2.2, h3⟩
      obtain ⟨f, hf⟩ := @choose_lt Dd ⟨⟨0, (0, 0), 0, none, 0, 0⟩⟩ m _ hc
      have h00 := (hf 0 (by omega)).1 0 (by omega)
      obtain ⟨b, o, spot⟩ := a
      have hspot : spot = none := by
        have h01 : w.cell? (((⟨b, o, spot⟩ : Addr).add (0 * 5)).add 0) = some (.int .i64 (f 0).kd) := h00
        simpa [Addr.add] using World.cell?_spot h01
      subst hspot
      have hr : w.rangeAt b o (flatD ((List.range len).map f)) := by
        intro j u hu
        obtain ⟨hi, hv⟩ := flatD_div _ j u hu
        simp at hi
        have h2 := (hf (j / 5) (by omega)).1 (j % 5) (by omega)
        rw [Addr.add_mid, Addr.add_mid, show o + j / 5 * 5 + j % 5 = o + j by omega] at h2
        rw [h2]
        simpa using hv
      have hb : b < w.heap.size := by
        have h01 : w.cell? (((⟨b, o, none⟩ : Addr).add (0 * 5)).add 0) = some (.int .i64 (f 0).kd) := h00
        rw [Addr.add_mid, Addr.add_mid] at h01
        exact World.block_lt_of_cell? w _ h01
      refine ⟨some ⟨b, o, none⟩, len, _, (List.range len).map f, hcs, ⟨by simp, .inr ⟨b, o, rfl, hb, hr⟩, ?_⟩, hlm⟩
      intro e he
      simp only [List.mem_map, List.mem_range] at he
      obtain ⟨i, hi, rfl⟩ := he
      exact (hf i (by omega)).2
end
set_option maxRecDepth 100000 in
theorem lifted (os : Os) (started : os.Started) (H : Type) (enc : TypeId × Value → H) :
    ReturnsInHanded {} Try.checked os 4 .any (Rows.ownerApartSpec.pre6 enc Try.prog Try.f4 Rows.ownerApartRow.domain false) (Rows.ownerApartSpec.post enc Try.prog Try.f4 false true false false) := by
  refine returnsInHanded_of_change (C := Try.checked) own started (by kernel_rfl) Try.func4
    (ChangeSpec.witness6 (enc := enc) (C := Try.checked) false ⟨#[], #[.slice none 0 0, .agg #[.int .i64 0, .int .i64 0]], []⟩ 8 (by kernel_rfl) (by kernel_rfl) (by kernel_rfl) (by kernel_rfl)) ?_
  intro W base args ds gs before hval0 hW hcnd _
  have hval : ∀ (j : Nat) t v, Try.f4.params[j]? = some t → args[j]? = some v → Value.okWide Try.prog W .any base t v := hval0
  have hW' := hW
  obtain ⟨p, q, hA0, hV, rfl, hfz, hnd⟩ := hW
  have hA : DataW.TrodAll enc Try.prog W 0 (fun _ => true) true Try.f4.params.toList args.toList ds p := hA0
  rw [Try.params4] at hA hval
  obtain ⟨v0, vs0, d0, ds0, p0, q0, hargs, rfl, rfl, h0, r0⟩ := trodAll_cons hA
  obtain ⟨v1, vs1, d1, ds1, p1, q1, rfl, rfl, rfl, h1, r1⟩ := trodAll_cons r0
  obtain ⟨rfl, rfl, rfl⟩ := trodAll_nil r1
  obtain rfl : args = #[v0, v1] := by cases args; simp_all
  obtain ⟨rfl, rfl⟩ := trodVars_none hV
  obtain ⟨cs1, rfl, _⟩ := okWide_struct Try.underlying28 (hval 1 28 v1 rfl rfl)
  have k0 := h0
  have lt0 : ∀ x ∈ p0, x.block < W.heap.size := by obtain ⟨m, hm⟩ := k0; exact DataW.trod_lt m _ _ _ hm
  have k1 := h1
  have lt1 : ∀ x ∈ p1, x.block < W.heap.size := by obtain ⟨m, hm⟩ := k1; exact DataW.trod_lt m _ _ _ hm
  obtain ⟨fuel0, hf0⟩ := h0
  obtain ⟨a0, n0, c0, rfl⟩ := okWide_slice Try.underlying22 (hval 0 22 v0 rfl rfl)
  obtain ⟨a, n, c, es, e0, hD, hn⟩ := open_deeds (by simpa [Value.cells] using hf0)
  simp only [Value.slice.injEq] at e0
  obtain ⟨rfl, rfl, rfl⟩ := e0
  obtain ⟨fuel1, hf1⟩ := h1
  obtain ⟨⟨x1, x2⟩, hx, hcs⟩ := open_nm (by simpa [Value.cells] using hf1)
  obtain rfl : cs1 = #[.int .i64 x1, .int .i64 x2] := by cases cs1; simp_all
  clear hA0 hval0
  refine (o4 a0 n0 c0 es (x1, x2) W hD hn hx).mono fun e W' ⟨he, bel⟩ => ?_
  subst he
  exact ⟨_, rfl, _, _, _, [], _, [], hW', trodAll_mk1 (shut_bool Try.underlying4 _), (trodAll_cons_mk (Below.trod laidOut (by kernel_rfl) (of_decide_eq_true (by kernel_rfl)) k0 bel lt0) (trodAll_cons_mk (Below.trod laidOut (by kernel_rfl) (of_decide_eq_true (by kernel_rfl)) k1 bel lt1) trodAll_mk0)), rfl, bel.frame _, fun h => by cases h⟩

theorem over : Rows.ownerApartRow.holds Try.pinned (OpenSpec.ofChange Rows.ownerApartSpec) :=
  OpenClaim.holds_of_wide 4 Try.f4 rfl rfl rfl rfl rfl rfl rfl ⟨rfl, rfl, rfl, rfl, rfl⟩ rfl rfl rfl rfl rfl (by kernel_rfl) Try.func4 (by kernel_rfl)
    (of_decide_eq_true (by kernel_rfl)) (by unfold Func.isWrapper; first | (rw [if_pos (by decide +kernel)]; kernel_rfl) | (rw [if_neg (by decide +kernel)]; exact ⟨rfl, rfl⟩))
    (fun os started H enc _ => lifted os started H enc)
end Go.Proofs.Ytdonclnjgopmbaa.ApartC

namespace Go.Proofs.Ytdonclnjgopmbaa
/-- THE STATEMENT. -/
theorem ownerApart_holds : Rows.OwnerApartSaid := ApartC.over
end Go.Proofs.Ytdonclnjgopmbaa
