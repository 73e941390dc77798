/- Datagrams that are handed in, opened. -/
import Derived.Test.YthpbfaddojcohaaNE
import Derived.ProofKit
import Derived.OpenShut
import Derived.Lib.SmallJoins
import Derived.Deep.Slices
import Derived.Deep.Matrix
namespace Go.Proofs.Ythpbfaddojcohaa
open Go.ChangeShapes Go.WideShapes Go.ChangeAt Go.RowKit Go.Joins Go.Deep
theorem cells46 : Try.prog.cellsOf 46 = 5 := by kernel_rfl
theorem cells44 : Try.prog.cellsOf 44 = 1 := by kernel_rfl
theorem cells3 : Try.prog.cellsOf 3 = 1 := by kernel_rfl
theorem cells4 : Try.prog.cellsOf 4 = 1 := by kernel_rfl
theorem bytes46 : Try.prog.bytesOf 46 = 56 := by kernel_rfl
theorem flatD_div (l : List Dg) (j : Nat) (v : Value) (h : (flatD l)[j]? = some v) : ∃ (hi : j / 5 < l.length), (l[j / 5].vals)[j % 5]? = some v := by
  have hj : j < (flatD l).length := (List.getElem?_eq_some_iff.1 h).1
  rw [flatD_length] at hj
  have hi : j / 5 < l.length := by omega
  refine ⟨hi, ?_⟩
  rw [← flatD_get l (j / 5) (j % 5) hi (by omega), show 5 * (j / 5) + j % 5 = j by omega]
  exact h
theorem list5 {α : Type} {l : List α} (h : l.length = 5) : ∃ a b c d e, l = [a, b, c, d, e] := by
  match l, h with
  | [a, b, c, d, e], _ => exact ⟨a, b, c, d, e, rfl⟩
section
variable {H : Type} {enc : TypeId × Value → H} {w : World} {base : Nat} {held : Bool}
theorem trod_struct5 {P : Program} {sp : Nat → Bool} {t : TypeId} {f0 f1 f2 f3 f4 : Field} {fuel : Nat} {cs : List Value} {x : DataW H × List MemPlace} (ht : P.underlying t = some (.struct #[f0, f1, f2, f3, f4])) (h : DataW.trod enc P w base sp held fuel t cs = some x) :
    ∃ y0 y1 y2 y3 y4 n, x.1 = .agg [y0.1, y1.1, y2.1, y3.1, y4.1] ∧ cs.length = P.cellsOf t ∧ DataW.trod enc P w base sp held n f0.type ((cs.drop f0.offset).take (P.cellsOf f0.type)) = some y0 ∧
      DataW.trod enc P w base sp held n f1.type ((cs.drop f1.offset).take (P.cellsOf f1.type)) = some y1 ∧ DataW.trod enc P w base sp held n f2.type ((cs.drop f2.offset).take (P.cellsOf f2.type)) = some y2 ∧
      DataW.trod enc P w base sp held n f3.type ((cs.drop f3.offset).take (P.cellsOf f3.type)) = some y3 ∧ DataW.trod enc P w base sp held n f4.type ((cs.drop f4.offset).take (P.cellsOf f4.type)) = some y4 := by
  obtain ⟨xs, n, _, rfl, hl, hlen, hf⟩ := DataW.trod_struct ht h
  match xs, hlen with
  | [y0, y1, y2, y3, y4], _ => exact ⟨y0, y1, y2, y3, y4, n, by simp, hl, by simpa using hf 0 f0 rfl, by simpa using hf 1 f1 rfl, by simpa using hf 2 f2 rfl, by simpa using hf 3 f3 rfl, by simpa using hf 4 f4 rfl⟩
theorem open_bytes {fuel : Nat} {v : Value} {x : DataW H × List MemPlace} (h : DataW.trod enc Try.prog w base (fun _ => true) held fuel 44 [v] = some x) :
    ∃ a n c xs, v = .slice a n c ∧ ByAt w a n c xs := by
  rcases open_ints Try.underlying44 Try.underlying5 (by kernel_rfl) h with ⟨hcs, _⟩ | ⟨a, len, cap, zs, hcs, _, hl, _, hzl, _, hcell, _⟩
  · simp only [List.cons.injEq, and_true] at hcs
    exact ⟨none, 0, 0, [], hcs, rfl, .inl ⟨rfl, rfl, rfl⟩⟩
  · simp only [List.cons.injEq, and_true] at hcs
    simp only [if_true] at hzl
    have hlen : (zs.take len).length = len := by rw [List.length_take]; omega
    refine ⟨some a, len, cap, zs.take len, hcs, hlen, ?_⟩
    rcases Nat.eq_zero_or_pos len with h0 | h0
    · exact .inr (.inl ⟨a, rfl, h0⟩)
    · have h00 := hcell 0 (by omega)
      obtain ⟨b, o, spot⟩ := a
      have hspot : spot = none := by simpa [Addr.add] using World.cell?_spot h00
      subst hspot
      refine .inr (.inr ⟨b, o, rfl, ?_, fun j u hu => ?_⟩)
      · rw [Addr.add_mid] at h00
        exact World.block_lt_of_cell? w _ h00
      · unfold u8s at hu
        rw [List.getElem?_map, Option.map_eq_some_iff] at hu
        obtain ⟨z, hz, rfl⟩ := hu
        have hjl : j < len := by
          have := (List.getElem?_eq_some_iff.1 hz).1
          omega
        rw [List.getElem?_take_of_lt hjl] at hz
        have hc := hcell j (by omega)
        have hk : zs.getD j 0 = z := by rw [List.getD_eq_getElem?_getD, hz]; rfl
        rw [hk, Addr.add_mid] at hc
        exact hc
theorem open_dg {fuel : Nat} {cs : List Value} {x : DataW H × List MemPlace} (h : DataW.trod enc Try.prog w base (fun _ => true) held fuel 46 cs = some x) :
    ∃ (d : Dg) (c : Dc), cs = d.vals ∧ DgIs d c ∧ ByAt w d.ba d.bn d.bc c.xs := by
  obtain ⟨y0, y1, y2, y3, y4, n, _, hl, g0, g1, g2, g3, g4⟩ := trod_struct5 Try.underlying46 h
  rw [cells46] at hl
  obtain ⟨a, b, c, d, e, rfl⟩ := list5 hl
  simp only [cells44, cells3, cells4, List.drop_zero, List.drop_succ_cons, List.take_succ_cons, List.take_zero] at g0 g1 g2 g3 g4
  obtain ⟨k0, e0, _, _⟩ := DataW.trod_int Try.underlying3 g0
  obtain ⟨k1, e1, _, _⟩ := DataW.trod_int Try.underlying3 g1
  obtain ⟨k2, e2, _⟩ := DataW.trod_bool Try.underlying4 g2
  obtain ⟨k3, e3, _, _⟩ := DataW.trod_int Try.underlying3 g3
  obtain ⟨ba, bn, bc, xs, e4, hb⟩ := open_bytes g4
  simp only [List.cons.injEq, and_true] at e0 e1 e2 e3
  subst e0 e1 e2 e3 e4
  exact ⟨⟨k0, k1, k2, k3, ba, bn, bc⟩, ⟨k0, k1, k2, k3, xs⟩, rfl, ⟨rfl, rfl, rfl, rfl, hb.1.symm⟩, hb⟩
theorem byS_of {w : World} {ba : Option Addr} {bn bc : Nat} {xs : List Int} (h : ByAt w ba bn bc xs) : ByS w (fun k => k < w.heap.size) ba bn bc xs := h
theorem open_dgs {fuel : Nat} {v : Value} {x : DataW H × List MemPlace} (h : DataW.trod enc Try.prog w base (fun _ => true) held fuel 34 [v] = some x) :
    ∃ a n c ds cs, v = .slice a n c ∧ ArgRow w (fun k => k < w.heap.size) a n ds cs ∧ (n ≤ c ∧ c ≤ maxLen) ∧ ∀ M : Nat, (∀ y ∈ DataW.weights Try.prog 34 x.1, y ≤ M) → n * 56 ≤ M := by
  rcases open_slice Try.underlying34 h with ⟨hcs, _⟩ | ⟨a, len, cap, m, n, D, Pl, hcs, _, hl, hmx, hm, hx, hel⟩
  · simp only [List.cons.injEq, and_true] at hcs
    exact ⟨none, 0, 0, [], [], hcs, ⟨rfl, rfl, .inl rfl, fun i d x h => by simp at h⟩, ⟨Nat.le_refl _, by simp⟩, fun M _ => by simp⟩
  · simp only [List.cons.injEq, and_true] at hcs
    simp only [if_true] at hm
    subst hm
    by_cases h0 : m = 0
    · have hl0 : len = 0 := by omega
      subst h0 hl0
      exact ⟨some a, 0, _, [], [], hcs, ⟨rfl, rfl, .inl rfl, fun i d x h => by simp at h⟩, ⟨hl, hmx⟩, fun M _ => by simp⟩
    · rw [cells46] at hel
      have hc : ∀ i, i < m → ∃ p : Dg × Dc, (∀ r, r < 5 → w.cell? ((a.add (i * 5)).add r) = p.1.vals[r]?) ∧ DgIs p.1 p.2 ∧ ByAt w p.1.ba p.1.bn p.1.bc p.2.xs := by
        intro i hi
        obtain ⟨cs, h1, h2⟩ := hel i hi
        obtain ⟨X, c, rfl, h3, h4⟩ := open_dg h2
        exact ⟨(X, c), (World.cells?_some h1).2.2, h3, h4⟩
      obtain ⟨f, hf⟩ := @choose_lt (Dg × Dc) ⟨(⟨0, 0, false, 0, none, 0, 0⟩, ⟨0, 0, false, 0, []⟩)⟩ m _ hc
      have h00 := (hf 0 (by omega)).1 0 (by omega)
      obtain ⟨b, o, spot⟩ := a
      have hspot : spot = none := by
        have h01 : w.cell? (((⟨b, o, spot⟩ : Addr).add (0 * 5)).add 0) = some (.int .i64 (f 0).1.fr) := h00
        simpa [Addr.add] using World.cell?_spot h01
      subst hspot
      have hr : w.rangeAt b o (flatD ((List.range len).map fun i => (f i).1)) := by
        intro j u hu
        obtain ⟨hi, hv⟩ := flatD_div _ j u hu
        simp at hi
        have h2 := (hf (j / 5) (by omega)).1 (j % 5) (by omega)
        rw [Addr.add_mid, Addr.add_mid, show o + j / 5 * 5 + j % 5 = o + j by omega] at h2
        rw [h2]
        simpa using hv
      have hb : b < w.heap.size := by
        have h01 : w.cell? (((⟨b, o, none⟩ : Addr).add (0 * 5)).add 0) = some (.int .i64 (f 0).1.fr) := h00
        rw [Addr.add_mid, Addr.add_mid] at h01
        exact World.block_lt_of_cell? w _ h01
      refine ⟨some ⟨b, o, none⟩, len, _, (List.range len).map fun i => (f i).1, (List.range len).map fun i => (f i).2, hcs, ⟨by simp, by simp, .inr ⟨b, o, rfl, hb, hr⟩, ?_⟩, ⟨hl, hmx⟩, fun M hM => ?_⟩
      · intro i X c hX hC
        simp only [List.getElem?_map, Option.map_eq_some_iff] at hX hC
        obtain ⟨j, hj, rfl⟩ := hX
        obtain ⟨j', hj', rfl⟩ := hC
        rw [hj] at hj'
        cases hj'
        have hlt : i < len := by have := (List.getElem?_eq_some_iff.1 hj).1; simpa using this
        rw [List.getElem?_range hlt] at hj
        cases hj
        exact ⟨(hf i (by omega)).2.1, byS_of (hf i (by omega)).2.2⟩
      · have h1 := hM ((len + (m - len)) * 56) (by
          rw [hx]
          simp [DataW.weights, Try.underlying34, bytes46])
        have h2 : len * 56 ≤ (len + (m - len)) * 56 := Nat.mul_le_mul_right _ (by omega)
        omega
end
end Go.Proofs.Ythpbfaddojcohaa
