/- What the row's list of variables gives: the package's row holds the twelve signs. Arguments that are handed in, opened: cells, terms, rows of terms. Openings: bindings and names that are handed in. A row of terms that is handed in, opened: its terms, their names, and how many variables they hold. -/
import Derived.Test.YtojobiefambkoaaGreatDoorCards
import Derived.Test.YtojobiefambkoaaGreatDoorTie
import Derived.Test.YtojobiefambkoaaGreatDoorW18
import Derived.WalkKit
import Derived.ProofKit
import Derived.OpenShut
import Derived.Deep.DeepHandedRow
import Derived.Lib.LaidTab
import Derived.Lib.SmallJoins
import Derived.Test.YtojobiefambkoaaGreatDoorRA
import Derived.Deep.Slices
import Derived.SizedLaws
import Derived.Test.YtojobiefambkoaaGreatDoorGQ
namespace Go.Proofs.YtojobiefambkoaaGreatDoor.Laid
open Go.ChangeShapes Go.WideShapes Go.ChangeAt Go.RowKit Go.Joins
open Go.ChangeMaps (open_string shut_string)

theorem own : ownKnob Tryz.prog.godebug = none := by kernel_rfl
theorem laidOut : laidOutB Tryz.prog = true := by kernel_rfl
theorem gTab : Tryz.prog.globalNamed (Rows.reachNeededRow.named.headD default) = some 0 := by kernel_rfl
theorem gTabType : (Tryz.prog.globals[0]?).map (·.type) = some 163 := by kernel_rfl
theorem cells87 : Tryz.prog.cellsOf 163 = 12 := by kernel_rfl
theorem cells9 : Tryz.prog.cellsOf 9 = 1 := by kernel_rfl

/-- An array of strings that reads as the table holds the table's texts, cell for cell. -/
theorem cells_of_strs {H : Type} {enc : TypeId × Value → H} {w : World} {base : Nat} {sp : Nat → Bool} {held : Bool} {fuel : Nat} {cs : List Value} {zs : List (List UInt8)} {p : List MemPlace}
    (h : DataW.trod enc Tryz.prog w base sp held fuel 163 cs = some (.agg (zs.map fun z => (.lit (.string z) : DataW H)), p)) : cs = zs.map fun z => Value.string ⟨z.toArray⟩ := by
  cases fuel with
  | zero => simp [DataW.trod] at h
  | succ fuel =>
    simp only [DataW.trod, Tryz.underlying163, cells9, cells87, Nat.mul_one] at h
    split at h
    · rename_i hl
      obtain ⟨xs, hm, hx⟩ := Option.map_eq_some_iff.1 h
      have hxs : xs.map (·.1) = zs.map fun z => (DataW.lit (.string z) : DataW H) := by
        have := congrArg Prod.fst hx
        simpa using this
      have hxl : xs.length = 12 := by simpa using Lib.mapM_length hm
      have hzl : zs.length = 12 := by
        have := congrArg List.length hxs
        simp at this
        omega
      apply List.ext_getElem?
      intro i
      by_cases hi : i < 12
      · obtain ⟨b, hb, hf⟩ := Lib.mapM_at hm i i (by simp [hi])
        obtain ⟨z, hc, rfl, _⟩ := DataW.trod_string Tryz.underlying9 hf
        have h1 : cs[i]? = some (.string z) := by
          have := congrArg (·[0]?) hc
          simpa [List.getElem?_take, List.getElem?_drop] using this
        have h2 : (xs.map (·.1))[i]? = some (DataW.lit (.string z.data.toList) : DataW H) := by simp [hb]
        rw [hxs] at h2
        simp only [List.getElem?_map, Option.map_eq_some_iff, DataW.lit.injEq, Lit.string.injEq] at h2
        obtain ⟨z', hz', e⟩ := h2
        simp [h1, hz', e]
      · rw [List.getElem?_eq_none (by omega), List.getElem?_eq_none (by simp; omega)]
    · cases h

/-- What the row's list gives: the variable's cells hold the twelve signs. -/
theorem signs_of {W : World} (h : laidMetH Tryz.prog Rows.reachNeededRow.laid W) : Signs W := by
  have h' : laidMet Tryz.prog Rows.reachNeededRow.laid W := h
  obtain ⟨ps, ⟨g', t', cs, fuel, p, q, hg', ht', hvar, hd, _, _⟩, _⟩ := h'
  obtain rfl := Option.some.inj (gTab.symm.trans hg')
  obtain rfl := Option.some.inj (gTabType.symm.trans ht')
  have hcs : cs.toList = signs.map fun z => Value.string ⟨z.toArray⟩ := cells_of_strs (zs := signs) hd
  have hcell : ∀ j v, signVals[j]? = some v → W.cell? ⟨0, 0 + j, none⟩ = some v := by
    intro j v hv
    have h1 := World.var?_cell gTab hvar j
    rw [Nat.zero_add, h1]
    have h2 : cs[j]? = cs.toList[j]? := by simp
    rw [h2, hcs]
    exact hv
  refine ⟨?_, hcell⟩
  have h0 := hcell 0 _ rfl
  exact World.block_lt_of_cell? W _ h0

/-- The world with its first block holding the signs: for the witnesses. -/
def laidOn (w : World) : World :=
  { w with heap := w.heap.modify 0 fun
      | .cells _ t frozen => .cells signVals.toArray t frozen
      | o => o }
end Go.Proofs.YtojobiefambkoaaGreatDoor.Laid

namespace Go.Proofs.YtojobiefambkoaaGreatDoor
open Go.ChangeShapes Go.WideShapes Go.ChangeAt Go.RowKit Go.Joins Go.Deep Go.Proofs.YtojobiefambkoaaGreatDoor.Laid
theorem cells60 : Tryz.prog.cellsOf 82 = 5 := by kernel_rfl
theorem cells29 : Tryz.prog.cellsOf 64 = 1 := by kernel_rfl
theorem cells58 : Tryz.prog.cellsOf 80 = 1 := by kernel_rfl
theorem cells3 : Tryz.prog.cellsOf 3 = 1 := by kernel_rfl
theorem cells23' : Tryz.prog.cellsOf 49 = 2 := by kernel_rfl
theorem bytes60 : Tryz.prog.bytesOf 82 = 48 := by kernel_rfl
theorem bytes29 : Tryz.prog.bytesOf 64 = 24 := by kernel_rfl
section
variable {H : Type} {enc : TypeId × Value → H} {w : World} {base : Nat} {sp : Nat → Bool} {held : Bool}
theorem list5 {α : Type} {l : List α} (h : l.length = 5) : ∃ a b c d e, l = [a, b, c, d, e] := by
  match l, h with
  | [a, b, c, d, e], _ => exact ⟨a, b, c, d, e, rfl⟩
/-- A cell in memory, opened. -/
theorem open_cell {fuel : Nat} {cs : List Value} {x : DataW H × List MemPlace} (h : DataW.trod enc Tryz.prog w base sp held fuel 82 cs = some x) : ∃ c : C, cs = c.vals ∧ c.t.size ≤ maxLen := by
  cases fuel with
  | zero => simp [DataW.trod] at h
  | succ fuel =>
    simp only [DataW.trod, Tryz.underlying82, cells60] at h
    split at h
    · rename_i hl
      obtain ⟨a, b, c, d, e, rfl⟩ := list5 hl
      obtain ⟨xs, hm, _⟩ := Option.map_eq_some_iff.1 h
      have f0 := Lib.mapM_at hm 0 _ rfl
      have f1 := Lib.mapM_at hm 1 _ rfl
      have f2 := Lib.mapM_at hm 2 _ rfl
      have f3 := Lib.mapM_at hm 3 _ rfl
      obtain ⟨y0, _, g0⟩ := f0
      obtain ⟨y1, _, g1⟩ := f1
      obtain ⟨y2, _, g2⟩ := f2
      obtain ⟨y3, _, g3⟩ := f3
      simp only [cells58, cells9, cells3, cells23', List.drop_zero, List.drop_succ_cons, List.take_succ_cons, List.take_zero] at g0 g1 g2 g3
      obtain ⟨k, e0, _, _⟩ := DataW.trod_int Tryz.underlying80 g0
      obtain ⟨t, e1, _, ht⟩ := DataW.trod_string Tryz.underlying9 g1
      obtain ⟨n, e2, _, _⟩ := DataW.trod_int Tryz.underlying3 g2
      obtain ⟨z0, z1, n3, _, _, h30, h31⟩ := trod_struct2 Tryz.underlying49 g3
      simp only [cells3, List.drop_zero, List.drop_succ_cons, List.take_succ_cons, List.take_zero] at h30 h31
      obtain ⟨vn, e3, _, _⟩ := DataW.trod_int Tryz.underlying3 h30
      obtain ⟨vk, e4, _, _⟩ := DataW.trod_int Tryz.underlying3 h31
      simp only [List.cons.injEq, and_true] at e0 e1 e2 e3 e4
      subst e0 e1 e2 e3 e4
      exact ⟨⟨k, t, n, vn, vk⟩, rfl, ht⟩
    · cases h
theorem flat_div (l : List C) (j : Nat) (v : Value) (h : (flat l)[j]? = some v) : ∃ (hi : j / 5 < l.length), (l[j / 5].vals)[j % 5]? = some v := by
  have hj : j < (flat l).length := (List.getElem?_eq_some_iff.1 h).1
  rw [flat_length] at hj
  have hi : j / 5 < l.length := by omega
  refine ⟨hi, ?_⟩
  rw [← flat_get l (j / 5) (j % 5) hi (by omega), show 5 * (j / 5) + j % 5 = j by omega]
  exact h
/-- A term that is handed in, opened: its cells, and how long it is at most. -/
theorem open_term {fuel : Nat} {v : Value} {x : DataW H × List MemPlace} (h : DataW.trod enc Tryz.prog w base (fun _ => true) held fuel 64 [v] = some x) :
    ∃ l : List C, TermAt w v l ∧ ∀ M : Nat, (∀ y ∈ DataW.weights Tryz.prog 64 x.1, y ≤ M) → l.length * 48 ≤ M := by
  rcases open_slice Tryz.underlying64 h with ⟨hcs, hx⟩ | ⟨a, len, cap, m, n, D, Pl, hcs, _, hl, hmx, hm, hx, hel⟩
  · simp only [List.cons.injEq, and_true] at hcs
    subst hcs
    exact ⟨[], termAt_nil w, fun M _ => by simp⟩
  · simp only [List.cons.injEq, and_true] at hcs
    subst hcs
    simp only [if_true] at hm
    subst hm
    have hw : ∀ M : Nat, (∀ y ∈ DataW.weights Tryz.prog 64 x.1, y ≤ M) → len * 48 ≤ M := by
      intro M hM
      have h1 := hM ((len + (m - len)) * 48) (by
        rw [hx]
        simp [DataW.weights, Tryz.underlying64, bytes60])
      have h2 : len * 48 ≤ (len + (m - len)) * 48 := Nat.mul_le_mul_right _ (by omega)
      omega
    by_cases h0 : m = 0
    · have hl0 : len = 0 := by omega
      subst h0 hl0
      exact ⟨[], ⟨⟨by simp, by simp⟩, Or.inl ⟨rfl, some a, rfl⟩⟩, fun M _ => by simp⟩
    · rw [cells60] at hel
      have hc : ∀ i, i < m → ∃ c : C, (∀ r, r < 5 → w.cell? ((a.add (i * 5)).add r) = c.vals[r]?) ∧ c.t.size ≤ maxLen := by
        intro i hi
        obtain ⟨cs, h1, h2⟩ := hel i hi
        obtain ⟨c, rfl, ht⟩ := open_cell h2
        exact ⟨c, (World.cells?_some h1).2.2, ht⟩
      obtain ⟨f, hf⟩ := @choose_lt C ⟨⟨0, ⟨#[]⟩, 0, 0, 0⟩⟩ m _ hc
      have h00 := (hf 0 (by omega)).1 0 (by omega)
      obtain ⟨b, o, spot⟩ := a
      have hspot : spot = none := by
        have h01 : w.cell? (((⟨b, o, spot⟩ : Addr).add (0 * 5)).add 0) = some (.int .u8 (f 0).k) := h00
        simpa [Addr.add] using World.cell?_spot h01
      subst hspot
      have hr : w.rangeAt b o (flat ((List.range len).map f)) := by
        intro j u hu
        obtain ⟨hi, hv⟩ := flat_div _ j u hu
        simp at hi
        have h2 := (hf (j / 5) (by omega)).1 (j % 5) (by omega)
        rw [Addr.add_mid, Addr.add_mid, show o + j / 5 * 5 + j % 5 = o + j by omega] at h2
        rw [h2]
        simpa using hv
      refine ⟨(List.range len).map f, ⟨⟨by simp; omega, ?_⟩, Or.inr ⟨b, o, m, by simp, by simp; exact hl, hmx, hr, ?_⟩⟩, fun M hM => by simp; exact hw M hM⟩
      · intro c hc'
        simp only [List.mem_map, List.mem_range] at hc'
        obtain ⟨i, hi, rfl⟩ := hc'
        exact (hf i (by omega)).2
      · have h01 : w.cell? (((⟨b, o, none⟩ : Addr).add (0 * 5)).add 0) = some (.int .u8 (f 0).k) := h00
        rw [Addr.add_mid, Addr.add_mid] at h01
        exact World.block_lt_of_cell? w _ h01
theorem weightsAll_mem {t : TypeId} : ∀ {ds : List (DataW H)} {d : DataW H} {y : Nat}, d ∈ ds → y ∈ DataW.weights Tryz.prog t d → y ∈ DataW.weightsAll Tryz.prog t ds
  | _ :: _, _, _, hd, hy => by
    rcases List.mem_cons.1 hd with rfl | hd
    · simp [DataW.weightsAll, hy]
    · simp only [DataW.weightsAll, List.mem_append]
      exact Or.inr (weightsAll_mem hd hy)
/-- A row of terms that is handed in, opened. -/
theorem open_row {fuel : Nat} {v : Value} {x : DataW H × List MemPlace} (h : DataW.trod enc Tryz.prog w base (fun _ => true) held fuel 24 [v] = some x) :
    ∃ ls : List (List C), RowAt w v ls ∧ ∀ M : Nat, (∀ y ∈ DataW.weights Tryz.prog 24 x.1, y ≤ M) → ls.length * 24 ≤ M ∧ ∀ l ∈ ls, l.length * 48 ≤ M := by
  rcases open_slice1 Tryz.underlying24 cells29 h with ⟨hcs, hx⟩ | ⟨a, len, cap, m, n, V, D, Pl, hcs, _, hl, hmx, hm, hx, hel⟩
  · simp only [List.cons.injEq, and_true] at hcs
    subst hcs
    exact ⟨[], ⟨by simp, Or.inl ⟨rfl, none, rfl⟩⟩, fun M _ => by simp⟩
  · simp only [List.cons.injEq, and_true] at hcs
    subst hcs
    simp only [if_true] at hm
    subst hm
    by_cases h0 : m = 0
    · have hl0 : len = 0 := by omega
      subst h0 hl0
      exact ⟨[], ⟨by simp, Or.inl ⟨rfl, some a, rfl⟩⟩, fun M _ => by simp⟩
    · have hc : ∀ i, i < m → ∃ l : List C, TermAt w (V i) l ∧ ∀ M : Nat, (∀ y ∈ DataW.weights Tryz.prog 64 (D i), y ≤ M) → l.length * 48 ≤ M := fun i hi => open_term (hel i hi).2
      obtain ⟨f, hf⟩ := @choose_lt (List C) ⟨[]⟩ m _ hc
      have h00 := (hel 0 (by omega)).1
      obtain ⟨b, o, spot⟩ := a
      have hspot : spot = none := by simpa [Addr.add] using World.cell?_spot h00
      subst hspot
      have hb : b < w.heap.size := by
        rw [Addr.add_mid] at h00
        exact World.block_lt_of_cell? w _ h00
      refine ⟨(List.range len).map f, ⟨by simp; omega, Or.inr ⟨b, o, m, (List.range len).map V, by simp, by simp; exact hl, hmx, hb, by simp, ?_, ?_⟩⟩, ?_⟩
      · intro j u hu
        simp only [List.getElem?_map, Option.map_eq_some_iff] at hu
        obtain ⟨i, hi, rfl⟩ := hu
        have hj : j < len := by have := (List.getElem?_eq_some_iff.1 hi).1; simpa using this
        rw [List.getElem?_range hj] at hi
        cases hi
        have := (hel j (by omega)).1
        rw [Addr.add_mid] at this
        exact this
      · intro i u l hu hl'
        simp only [List.getElem?_map, Option.map_eq_some_iff] at hu hl'
        obtain ⟨j, hj, rfl⟩ := hu
        obtain ⟨j', hj', rfl⟩ := hl'
        rw [hj] at hj'
        cases hj'
        have hlt : i < len := by have := (List.getElem?_eq_some_iff.1 hj).1; simpa using this
        rw [List.getElem?_range hlt] at hj
        cases hj
        exact (hf i (by omega)).1
      · intro M hM
        refine ⟨?_, ?_⟩
        · have h1 := hM ((len + (m - len)) * 24) (by
            rw [hx]
            simp [DataW.weights, Tryz.underlying24, bytes29])
          have h2 : len * 24 ≤ (len + (m - len)) * 24 := Nat.mul_le_mul_right _ (by omega)
          simp; omega
        · intro l hl'
          simp only [List.mem_map, List.mem_range] at hl'
          obtain ⟨i, hi, rfl⟩ := hl'
          refine (hf i (by omega)).2 M (fun y hy => hM y ?_)
          rw [hx]
          simp only [DataW.weights, Tryz.underlying24, List.mem_cons, List.mem_append]
          right; left
          exact weightsAll_mem (List.mem_map.2 ⟨i, by simpa using hi, rfl⟩) hy
end
end Go.Proofs.YtojobiefambkoaaGreatDoor

namespace Go.Proofs.YtojobiefambkoaaGreatDoor
open Go.ChangeShapes Go.WideShapes Go.ChangeAt Go.RowKit Go.Joins Go.Deep Go.Proofs.YtojobiefambkoaaGreatDoor.Laid
section
variable {H : Type} {enc : TypeId × Value → H} {w : World} {base : Nat} {sp : Nat → Bool} {held : Bool}
theorem open_cellW {fuel : Nat} {cs : List Value} {x : DataW H × List MemPlace} (h : DataW.trod enc Tryz.prog w base sp held fuel 82 cs = some x) : ∃ c : C, cs = c.vals ∧ wfN (c.vn, c.vk) := by
  cases fuel with
  | zero => simp [DataW.trod] at h
  | succ fuel =>
    simp only [DataW.trod, Tryz.underlying82, cells60] at h
    split at h
    · rename_i hl
      obtain ⟨a, b, c, d, e, rfl⟩ := list5 hl
      obtain ⟨xs, hm, _⟩ := Option.map_eq_some_iff.1 h
      have f0 := Lib.mapM_at hm 0 _ rfl
      have f1 := Lib.mapM_at hm 1 _ rfl
      have f2 := Lib.mapM_at hm 2 _ rfl
      have f3 := Lib.mapM_at hm 3 _ rfl
      obtain ⟨y0, _, g0⟩ := f0
      obtain ⟨y1, _, g1⟩ := f1
      obtain ⟨y2, _, g2⟩ := f2
      obtain ⟨y3, _, g3⟩ := f3
      simp only [cells58, cells9, cells3, cells23', List.drop_zero, List.drop_succ_cons, List.take_succ_cons, List.take_zero] at g0 g1 g2 g3
      obtain ⟨k, e0, _, _⟩ := DataW.trod_int Tryz.underlying80 g0
      obtain ⟨t, e1, _, ht⟩ := DataW.trod_string Tryz.underlying9 g1
      obtain ⟨n, e2, _, _⟩ := DataW.trod_int Tryz.underlying3 g2
      obtain ⟨z0, z1, n3, _, _, h30, h31⟩ := trod_struct2 Tryz.underlying49 g3
      simp only [cells3, List.drop_zero, List.drop_succ_cons, List.take_succ_cons, List.take_zero] at h30 h31
      obtain ⟨vn, e3, _, w3⟩ := DataW.trod_int Tryz.underlying3 h30
      obtain ⟨vk, e4, _, w4⟩ := DataW.trod_int Tryz.underlying3 h31
      simp only [List.cons.injEq, and_true] at e0 e1 e2 e3 e4
      subst e0 e1 e2 e3 e4
      exact ⟨⟨k, t, n, vn, vk⟩, rfl, w3, w4⟩
    · cases h
theorem term_wf {fuel : Nat} {v : Value} {x : DataW H × List MemPlace} {l : List C} (h : DataW.trod enc Tryz.prog w base (fun _ => true) held fuel 64 [v] = some x) (hT : TermAt w v l) : ∀ c ∈ l, wfN (c.vn, c.vk) := by
  obtain ⟨_, hT⟩ := hT
  rcases hT with ⟨rfl, _⟩ | ⟨b, o, cp, hf, _, _, hr, hb⟩
  · simp
  rcases open_slice Tryz.underlying64 h with ⟨hcs, hx⟩ | ⟨a, len, cap, m, n, D, Pl, hcs, _, hl, hmx, hm, hx, hel⟩
  · simp only [List.cons.injEq, and_true] at hcs
    rw [hf] at hcs
    cases hcs
  · simp only [List.cons.injEq, and_true] at hcs
    rw [hf] at hcs
    simp only [Value.slice.injEq, Option.some.injEq] at hcs
    obtain ⟨rfl, rfl, rfl⟩ := hcs
    simp only [if_true] at hm
    subst hm
    rw [cells60] at hel
    intro c hc
    obtain ⟨i, hi, rfl⟩ := List.getElem_of_mem hc
    obtain ⟨cs, h1, h2⟩ := hel i (by omega)
    obtain ⟨c', rfl, hw⟩ := open_cellW h2
    have h3 := (World.cells?_some h1).2.2
    obtain ⟨_, _, _, p3, p4⟩ := term_cells hr i hi
    have q3 := h3 3 (by omega)
    have q4 := h3 4 (by omega)
    rw [Addr.add_mid, Addr.add_mid] at q3 q4
    rw [p3] at q3
    rw [p4] at q4
    simp [C.vals] at q3 q4
    rw [q3, q4]; exact hw
end
end Go.Proofs.YtojobiefambkoaaGreatDoor

namespace Go.Proofs.YtojobiefambkoaaGreatDoor.OpnC
open Go.ChangeShapes Go.WideShapes Go.ChangeAt Go.RowKit Go.Joins Go.Deep Go.Proofs.YtojobiefambkoaaGreatDoor.Laid
open Go.ChangeMaps (open_string shut_string)
theorem cells43 : Tryz.prog.cellsOf 66 = 3 := by kernel_rfl
theorem cells33 : Tryz.prog.cellsOf 49 = 2 := by kernel_rfl
theorem cells24 : Tryz.prog.cellsOf 64 = 1 := by kernel_rfl
theorem cells3' : Tryz.prog.cellsOf 3 = 1 := by kernel_rfl
theorem bytes43 : Tryz.prog.bytesOf 66 = 40 := by kernel_rfl
section
variable {H : Type} {enc : TypeId × Value → H} {w : World} {base : Nat} {held : Bool}
theorem trod_struct2 {P : Program} {sp : Nat → Bool} {t : TypeId} {f0 f1 : Field} {fuel : Nat} {cs : List Value} {x : DataW H × List MemPlace} (ht : P.underlying t = some (.struct #[f0, f1])) (h : DataW.trod enc P w base sp held fuel t cs = some x) :
    ∃ y0 y1 n, x.1 = .agg [y0.1, y1.1] ∧ cs.length = P.cellsOf t ∧ DataW.trod enc P w base sp held n f0.type ((cs.drop f0.offset).take (P.cellsOf f0.type)) = some y0 ∧
      DataW.trod enc P w base sp held n f1.type ((cs.drop f1.offset).take (P.cellsOf f1.type)) = some y1 := by
  obtain ⟨xs, n, _, rfl, hl, hlen, hf⟩ := DataW.trod_struct ht h
  match xs, hlen with
  | [y0, y1], _ => exact ⟨y0, y1, n, by simp, hl, by simpa using hf 0 f0 rfl, by simpa using hf 1 f1 rfl⟩
set_option maxRecDepth 100000 in
theorem open_nm {fuel : Nat} {cs : List Value} {x : DataW H × List MemPlace} (h : DataW.trod enc Tryz.prog w base (fun _ => true) held fuel 49 cs = some x) :
    ∃ x : Nm, wfN x ∧ cs = [.int .i64 x.1, .int .i64 x.2] := by
  obtain ⟨y0, y1, n, _, hl, g0, g1⟩ := trod_struct2 Tryz.underlying49 h
  rw [cells33] at hl
  match cs, hl with
  | [a, b], _ =>
    simp only [cells3', List.drop_zero, List.drop_succ_cons, List.take_succ_cons, List.take_zero] at g0 g1
    obtain ⟨k0, e0, _, w0⟩ := DataW.trod_int Tryz.underlying3 g0
    obtain ⟨k1, e1, _, w1⟩ := DataW.trod_int Tryz.underlying3 g1
    simp only [List.cons.injEq, and_true] at e0 e1
    subst e0 e1
    exact ⟨(k0, k1), ⟨w0, w1⟩, rfl⟩
set_option maxRecDepth 100000 in
theorem open_bd {fuel : Nat} {cs : List Value} {x : DataW H × List MemPlace} (h : DataW.trod enc Tryz.prog w base (fun _ => true) held fuel 66 cs = some x) :
    ∃ b : Bn, cs = encB b ∧ TermAt w b.v b.l ∧ wfN b.x ∧ (∀ c ∈ b.l, wfN (c.vn, c.vk)) ∧ ∀ M : Nat, (∀ y ∈ DataW.weights Tryz.prog 66 x.1, y ≤ M) → b.l.length * 48 ≤ M := by
  obtain ⟨y0, y1, n, hx, hl, g0, g1⟩ := trod_struct2 Tryz.underlying66 h
  rw [cells43] at hl
  match cs, hl with
  | [a, b, c], _ =>
    simp only [cells33, cells24, List.drop_zero, List.drop_succ_cons, List.take_succ_cons, List.take_zero] at g0 g1
    obtain ⟨z, hz, e0⟩ := open_nm g0
    obtain ⟨l, hT, hbd⟩ := open_term g1
    have hwf := term_wf g1 hT
    obtain ⟨ad, cap, e1⟩ := hT.form
    simp only [List.cons.injEq, and_true] at e0
    obtain ⟨rfl, rfl⟩ := e0
    subst e1
    refine ⟨⟨z, ad, l.length, cap, l⟩, rfl, hT, hz, hwf, fun M hM => hbd M fun y hy => hM y ?_⟩
    rw [hx]
    simp only [DataW.weights, Tryz.underlying66]
    simp [DataW.weightsEach, hy]
theorem encB_div (l : List Bn) (j : Nat) (v : Value) (h : (l.flatMap encB)[j]? = some v) : ∃ (hi : j / 3 < l.length), (encB l[j / 3])[j % 3]? = some v := by
  have hj : j < (l.flatMap encB).length := (List.getElem?_eq_some_iff.1 h).1
  rw [encB_len] at hj
  have hi : j / 3 < l.length := by omega
  obtain ⟨h1, h2, h3⟩ := encB_get l (j / 3) hi
  refine ⟨hi, ?_⟩
  rcases (show j % 3 = 0 ∨ j % 3 = 1 ∨ j % 3 = 2 by omega) with e | e | e
  · rw [show j / 3 * 3 = j by omega, h] at h1
    rw [e]; simpa [encB] using h1.symm
  · rw [show j / 3 * 3 + 1 = j by omega, h] at h2
    rw [e]; simpa [encB] using h2.symm
  · rw [show j / 3 * 3 + 2 = j by omega, h] at h3
    rw [e]; simpa [encB] using h3.symm
theorem open_bds {fuel : Nat} {v : Value} {x : DataW H × List MemPlace} (h : DataW.trod enc Tryz.prog w base (fun _ => true) held fuel 22 [v] = some x) :
    ∃ a n c bs, v = .slice a n c ∧ ∀ M : Nat, M ≤ 140737488355328 → (∀ y ∈ DataW.weights Tryz.prog 22 x.1, y ≤ M) → BdRow w a n bs ∧ n * 40 ≤ M := by
  rcases open_slice Tryz.underlying22 h with ⟨hcs, _⟩ | ⟨a, len, cap, m, n, D, Pl, hcs, _, hl, hmx, hm, hx, hel⟩
  · simp only [List.cons.injEq, and_true] at hcs
    exact ⟨none, 0, 0, [], hcs, fun M _ _ => ⟨⟨⟨rfl, .inl rfl⟩, fun e h => by cases h⟩, by simp⟩⟩
  · simp only [List.cons.injEq, and_true] at hcs
    simp only [if_true] at hm
    subst hm
    by_cases h0 : m = 0
    · have hl0 : len = 0 := by omega
      subst h0 hl0
      exact ⟨some a, 0, _, [], hcs, fun M _ _ => ⟨⟨⟨rfl, .inl rfl⟩, fun e h => by cases h⟩, by simp⟩⟩
    · rw [cells43] at hel
      have hc : ∀ i, i < m → ∃ e : Bn, (∀ r, r < 3 → w.cell? ((a.add (i * 3)).add r) = (encB e)[r]?) ∧ TermAt w e.v e.l ∧ wfN e.x ∧ (∀ c ∈ e.l, wfN (c.vn, c.vk)) ∧ ∀ M : Nat, (∀ y ∈ DataW.weights Tryz.prog 66 (D i), y ≤ M) → e.l.length * 48 ≤ M := by
        intro i hi
        obtain ⟨cs, h1, h2⟩ := hel i hi
        obtain ⟨e, rfl, h3⟩ := open_bd h2
        exact ⟨e, (World.cells?_some h1).2.2, h3⟩
      obtain ⟨f, hf⟩ := @choose_lt Bn ⟨⟨(0, 0), none, 0, 0, []⟩⟩ m _ hc
      have h00 := (hf 0 (by omega)).1 0 (by omega)
      obtain ⟨b, o, spot⟩ := a
      have hspot : spot = none := by
        have h01 : w.cell? (((⟨b, o, spot⟩ : Addr).add (0 * 3)).add 0) = some (.int .i64 (f 0).x.1) := h00
        simpa [Addr.add] using World.cell?_spot h01
      subst hspot
      have hr : w.rangeAt b o (((List.range len).map f).flatMap encB) := by
        intro j u hu
        obtain ⟨hi, hv⟩ := encB_div _ j u hu
        simp at hi
        have h2 := (hf (j / 3) (by omega)).1 (j % 3) (by omega)
        rw [Addr.add_mid, Addr.add_mid, show o + j / 3 * 3 + j % 3 = o + j by omega] at h2
        rw [h2]
        simpa using hv
      have hb : b < w.heap.size := by
        have h01 : w.cell? (((⟨b, o, none⟩ : Addr).add (0 * 3)).add 0) = some (.int .i64 (f 0).x.1) := h00
        rw [Addr.add_mid, Addr.add_mid] at h01
        exact World.block_lt_of_cell? w _ h01
      refine ⟨some ⟨b, o, none⟩, len, _, (List.range len).map f, hcs, fun M hM8 hM => ⟨⟨⟨by simp, .inr ⟨b, o, rfl, hb, hr⟩⟩, fun e he => ?_⟩, ?_⟩⟩
      · simp only [List.mem_map, List.mem_range] at he
        obtain ⟨i, hi, rfl⟩ := he
        obtain ⟨_, k1, k2, k3, k4⟩ := hf i (by omega)
        refine ⟨k1, k2, k3, Nat.le_trans (k4 M fun y hy => hM y ?_) hM8⟩
        rw [hx]
        simp only [DataW.weights, Tryz.underlying22, List.mem_cons, List.mem_append]
        right; left
        exact weightsAll_mem (List.mem_map.2 ⟨i, by simpa using hi, rfl⟩) hy
      · have h1 := hM ((len + (m - len)) * 40) (by
          rw [hx]
          simp [DataW.weights, Tryz.underlying22, bytes43])
        have h2 : len * 40 ≤ (len + (m - len)) * 40 := Nat.mul_le_mul_right _ (by omega)
        omega
theorem flatN_div (l : List Nm) (j : Nat) (v : Value) (h : (flatN l)[j]? = some v) : ∃ (hi : j / 2 < l.length), (nmV l[j / 2])[j % 2]? = some v := by
  have hj : j < (flatN l).length := (List.getElem?_eq_some_iff.1 h).1
  rw [flatN_length] at hj
  have hi : j / 2 < l.length := by omega
  refine ⟨hi, ?_⟩
  have := flatN_get l (j / 2) (j % 2) hi (by omega)
  rw [show 2 * (j / 2) + j % 2 = j by omega, h] at this
  exact this.symm
set_option maxRecDepth 100000 in
theorem open_names {fuel : Nat} {v : Value} {x : DataW H × List MemPlace} (h : DataW.trod enc Tryz.prog w base (fun _ => true) held fuel 23 [v] = some x) :
    ∃ a c xs, v = .slice a (List.length (α := Nm) xs) c ∧ NamesAt w v xs ∧ ∀ y ∈ xs, wfN y := by
  rcases open_slice Tryz.underlying23 h with ⟨hcs, hx⟩ | ⟨a, len, cap, m, n, D, Pl, hcs, _, hl, hmx, hm, hx, hel⟩
  · simp only [List.cons.injEq, and_true] at hcs
    subst hcs
    exact ⟨none, 0, [], rfl, ⟨by simp, .inl ⟨rfl, none, rfl⟩⟩, fun e h => by cases h⟩
  · simp only [List.cons.injEq, and_true] at hcs
    subst hcs
    simp only [if_true] at hm
    subst hm
    by_cases h0 : m = 0
    · have hl0 : len = 0 := by omega
      subst h0 hl0
      exact ⟨some a, _, [], rfl, ⟨by simp, .inl ⟨rfl, some a, rfl⟩⟩, fun e h => by cases h⟩
    · rw [cells33] at hel
      have hc : ∀ i, i < m → ∃ e : Nm, (∀ r, r < 2 → w.cell? ((a.add (i * 2)).add r) = ([Value.int .i64 e.1, .int .i64 e.2])[r]?) ∧ wfN e := by
        intro i hi
        obtain ⟨cs, h1, h2⟩ := hel i hi
        obtain ⟨e, h3, rfl⟩ := open_nm h2
        exact ⟨e, (World.cells?_some h1).2.2, h3⟩
      obtain ⟨f, hf⟩ := @choose_lt Nm ⟨(0, 0)⟩ m _ hc
      have h00 := (hf 0 (by omega)).1 0 (by omega)
      obtain ⟨b, o, spot⟩ := a
      have hspot : spot = none := by
        have h01 : w.cell? (((⟨b, o, spot⟩ : Addr).add (0 * 2)).add 0) = some (.int .i64 (f 0).1) := h00
        simpa [Addr.add] using World.cell?_spot h01
      subst hspot
      have hr : w.rangeAt b o (flatN ((List.range len).map f)) := by
        intro j u hu
        obtain ⟨hi, hv⟩ := flatN_div _ j u hu
        simp at hi
        have h2 := (hf (j / 2) (by omega)).1 (j % 2) (by omega)
        rw [Addr.add_mid, Addr.add_mid, show o + j / 2 * 2 + j % 2 = o + j by omega] at h2
        rw [h2]
        simpa [nmV] using hv
      have hb : b < w.heap.size := by
        have h01 : w.cell? (((⟨b, o, none⟩ : Addr).add (0 * 2)).add 0) = some (.int .i64 (f 0).1) := h00
        rw [Addr.add_mid, Addr.add_mid] at h01
        exact World.block_lt_of_cell? w _ h01
      refine ⟨some ⟨b, o, none⟩, _, (List.range len).map f, by simp; rfl, ⟨by simp; omega, .inr ⟨b, o, _, by simp; rfl, hr, hb⟩⟩, ?_⟩
      intro e he
      simp only [List.mem_map, List.mem_range] at he
      obtain ⟨i, hi, rfl⟩ := he
      exact (hf i (by omega)).2
end
theorem bulk_pos {H : Type} (d : DataW H) : 1 ≤ Rows.uptoBulk d := by
  cases d with
  | lit x => cases x <;> simp [Rows.uptoBulk]
  | _ => simp [Rows.uptoBulk]
theorem bulkAll_len {H : Type} : ∀ ds : List (DataW H), ds.length ≤ Rows.uptoBulkAll ds
  | [] => by simp
  | d :: r => by
    have h1 := bulk_pos d
    have h2 := bulkAll_len r
    simp only [Rows.uptoBulkAll, List.length_cons]
    omega
theorem bds_bulk {H : Type} {enc : TypeId × Value → H} {w : World} {base : Nat} {held : Bool} {fuel : Nat} {a : Option Addr} {n c : Nat} {x : DataW H × List MemPlace} (h : DataW.trod enc Tryz.prog w base (fun _ => true) held fuel 22 [.slice a n c] = some x) : n ≤ Rows.uptoBulk x.1 := by
  rcases open_slice Tryz.underlying22 h with ⟨hcs, hx⟩ | ⟨a', len, cap, m, n', D, Pl, hcs, _, hl, hmx, hm, hx, hel⟩
  · simp only [List.cons.injEq, and_true, Value.slice.injEq] at hcs
    rw [hcs.2.1]
    simp
  · simp only [List.cons.injEq, and_true, Value.slice.injEq] at hcs
    rw [hx, hcs.2.1]
    simp only [Rows.uptoBulk]
    have := bulkAll_len ((List.range len).map D)
    simp only [List.length_map, List.length_range] at this
    omega
theorem names_bulk {H : Type} {enc : TypeId × Value → H} {w : World} {base : Nat} {held : Bool} {fuel : Nat} {a : Option Addr} {n c : Nat} {x : DataW H × List MemPlace} (h : DataW.trod enc Tryz.prog w base (fun _ => true) held fuel 23 [.slice a n c] = some x) : n ≤ Rows.uptoBulk x.1 := by
  rcases open_slice Tryz.underlying23 h with ⟨hcs, hx⟩ | ⟨a', len, cap, m, n', D, Pl, hcs, _, hl, hmx, hm, hx, hel⟩
  · simp only [List.cons.injEq, and_true, Value.slice.injEq] at hcs
    rw [hcs.2.1]
    simp
  · simp only [List.cons.injEq, and_true, Value.slice.injEq] at hcs
    rw [hx, hcs.2.1]
    simp only [Rows.uptoBulk]
    have := bulkAll_len ((List.range len).map D)
    simp only [List.length_map, List.length_range] at this
    omega
set_option maxRecDepth 100000 in
theorem open_nm1 {H : Type} {enc : TypeId × Value → H} {w : World} {base base0 : Nat} {fuel : Nat} {v : Value} {x : DataW H × List MemPlace} (hv : Value.okWide Tryz.prog w .any base0 49 v) (h : DataW.trod enc Tryz.prog w base (fun _ => true) true fuel 49 v.cells.toList = some x) : ∃ y : Nm, wfN y ∧ v = .agg #[.int .i64 y.1, .int .i64 y.2] := by
  obtain ⟨y, hy, e⟩ := open_nm h
  refine ⟨y, hy, ?_⟩
  obtain ⟨cs, rfl, _⟩ := okWide_struct Tryz.underlying49 hv
  simp only [Value.cells] at e
  congr 1
  apply Array.toList_inj.1
  simpa using e

theorem okWide_arr {P : Program} {r : Reach} {w : World} {base : Nat} {t e : TypeId} {n : Nat} {v : Value} (ht : P.underlying t = some (.array n e)) (h : Value.okWide P w r base t v) : ∃ cs, v = .agg cs := by
  simp only [Value.okWide, ht] at h
  obtain ⟨cs, h1, _⟩ := h
  exact ⟨cs, h1⟩
theorem cells23n : Tryz.prog.cellsOf 23 = 1 := by kernel_rfl
end Go.Proofs.YtojobiefambkoaaGreatDoor.OpnC

namespace Go.Proofs.YtojobiefambkoaaGreatDoor
open Go.ChangeShapes Go.WideShapes Go.ChangeAt Go.RowKit Go.Joins Go.Deep Go.Proofs.YtojobiefambkoaaGreatDoor.Laid
section
variable {H : Type} {enc : TypeId × Value → H} {w : World} {base : Nat} {held : Bool}
theorem term_bulk {fuel : Nat} {v : Value} {x : DataW H × List MemPlace} {l : List C} (h : DataW.trod enc Tryz.prog w base (fun _ => true) held fuel 64 [v] = some x) (hT : TermAt w v l) : l.length ≤ Rows.uptoBulk x.1 := by
  obtain ⟨a, cap, hf⟩ := hT.form
  subst hf
  rcases open_slice Tryz.underlying64 h with ⟨hcs, hx⟩ | ⟨a', len, cap', m, n', D, Pl, hcs, _, hl, hmx, hm, hx, hel⟩
  · simp only [List.cons.injEq, and_true, Value.slice.injEq] at hcs
    rw [hcs.2.1]
    simp
  · simp only [List.cons.injEq, and_true, Value.slice.injEq] at hcs
    rw [hx, hcs.2.1]
    simp only [Rows.uptoBulk]
    have := OpnC.bulkAll_len ((List.range len).map D)
    simp only [List.length_map, List.length_range] at this
    omega
theorem vars_bulk {f : Nat → List C} {D : Nat → DataW H} : ∀ is : List Nat, (∀ i ∈ is, (f i).length ≤ Rows.uptoBulk (D i)) → (varsAll (is.map f)).length ≤ Rows.uptoBulkAll (is.map D)
  | [], _ => by simp [varsAll]
  | i :: is, h => by
    have h1 := vars_bulk is fun j hj => h j (List.mem_cons_of_mem _ hj)
    have h2 := h i List.mem_cons_self
    have h3 : (varsOf (f i)).length ≤ (f i).length := by
      unfold varsOf
      rw [List.length_map]
      exact List.length_filter_le _ _
    have h4 : (varsAll ((i :: is).map f)).length = (varsOf (f i)).length + (varsAll (is.map f)).length := by simp [varsAll]
    rw [h4]
    simp only [List.map_cons, Rows.uptoBulkAll]
    omega
theorem vars_wf {ls : List (List C)} (h : ∀ l ∈ ls, ∀ c ∈ l, wfN (c.vn, c.vk) ∧ c.t.size ≤ maxLen) {x : Nm} (hx : x ∈ varsAll ls) : wfN x := by
  obtain ⟨l, hl, hx⟩ := List.mem_flatMap.1 hx
  obtain ⟨c, hc, rfl⟩ := List.mem_map.1 hx
  exact (h l hl c (List.mem_filter.1 hc).1).1
theorem open_rowW {fuel : Nat} {v : Value} {x : DataW H × List MemPlace} (h : DataW.trod enc Tryz.prog w base (fun _ => true) held fuel 24 [v] = some x) :
    ∃ ls : List (List C), RowAt w v ls ∧ (∀ M : Nat, (∀ y ∈ DataW.weights Tryz.prog 24 x.1, y ≤ M) → ls.length * 24 ≤ M ∧ ∀ l ∈ ls, l.length * 48 ≤ M) ∧ (∀ l ∈ ls, ∀ c ∈ l, wfN (c.vn, c.vk) ∧ c.t.size ≤ maxLen) ∧ (varsAll ls).length ≤ Rows.uptoBulk x.1 := by
  rcases open_slice1 Tryz.underlying24 cells29 h with ⟨hcs, hx⟩ | ⟨a, len, cap, m, n, V, D, Pl, hcs, _, hl, hmx, hm, hx, hel⟩
  · simp only [List.cons.injEq, and_true] at hcs
    subst hcs
    exact ⟨[], ⟨by simp, Or.inl ⟨rfl, none, rfl⟩⟩, fun M _ => by simp, by simp, by simp [varsAll]⟩
  · simp only [List.cons.injEq, and_true] at hcs
    subst hcs
    simp only [if_true] at hm
    subst hm
    by_cases h0 : m = 0
    · have hl0 : len = 0 := by omega
      subst h0 hl0
      exact ⟨[], ⟨by simp, Or.inl ⟨rfl, some a, rfl⟩⟩, fun M _ => by simp, by simp, by simp [varsAll]⟩
    · have hc : ∀ i, i < m → ∃ l : List C, TermAt w (V i) l ∧ (∀ M : Nat, (∀ y ∈ DataW.weights Tryz.prog 64 (D i), y ≤ M) → l.length * 48 ≤ M) ∧ (∀ c ∈ l, wfN (c.vn, c.vk) ∧ c.t.size ≤ maxLen) ∧ l.length ≤ Rows.uptoBulk (D i) := fun i hi => by
        obtain ⟨l, h1, h2⟩ := open_term (hel i hi).2
        exact ⟨l, h1, h2, fun c hc => ⟨term_wf (hel i hi).2 h1 c hc, h1.1.2 c hc⟩, term_bulk (hel i hi).2 h1⟩
      obtain ⟨f, hf⟩ := @choose_lt (List C) ⟨[]⟩ m _ hc
      have h00 := (hel 0 (by omega)).1
      obtain ⟨b, o, spot⟩ := a
      have hspot : spot = none := by simpa [Addr.add] using World.cell?_spot h00
      subst hspot
      have hb : b < w.heap.size := by
        rw [Addr.add_mid] at h00
        exact World.block_lt_of_cell? w _ h00
      refine ⟨(List.range len).map f, ⟨by simp; omega, Or.inr ⟨b, o, m, (List.range len).map V, by simp, by simp; exact hl, hmx, hb, by simp, ?_, ?_⟩⟩, ?_, ?_, ?_⟩
      · intro j u hu
        simp only [List.getElem?_map, Option.map_eq_some_iff] at hu
        obtain ⟨i, hi, rfl⟩ := hu
        have hj : j < len := by have := (List.getElem?_eq_some_iff.1 hi).1; simpa using this
        rw [List.getElem?_range hj] at hi
        cases hi
        have := (hel j (by omega)).1
        rw [Addr.add_mid] at this
        exact this
      · intro i u l hu hl'
        simp only [List.getElem?_map, Option.map_eq_some_iff] at hu hl'
        obtain ⟨j, hj, rfl⟩ := hu
        obtain ⟨j', hj', rfl⟩ := hl'
        rw [hj] at hj'
        cases hj'
        have hlt : i < len := by have := (List.getElem?_eq_some_iff.1 hj).1; simpa using this
        rw [List.getElem?_range hlt] at hj
        cases hj
        exact (hf i (by omega)).1
      · intro M hM
        refine ⟨?_, ?_⟩
        · have h1 := hM ((len + (m - len)) * 24) (by
            rw [hx]
            simp [DataW.weights, Tryz.underlying24, bytes29])
          have h2 : len * 24 ≤ (len + (m - len)) * 24 := Nat.mul_le_mul_right _ (by omega)
          simp; omega
        · intro l hl'
          simp only [List.mem_map, List.mem_range] at hl'
          obtain ⟨i, hi, rfl⟩ := hl'
          refine (hf i (by omega)).2.1 M (fun y hy => hM y ?_)
          rw [hx]
          simp only [DataW.weights, Tryz.underlying24, List.mem_cons, List.mem_append]
          right; left
          exact weightsAll_mem (List.mem_map.2 ⟨i, by simpa using hi, rfl⟩) hy
      · intro l hl'
        simp only [List.mem_map, List.mem_range] at hl'
        obtain ⟨i, hi, rfl⟩ := hl'
        exact (hf i (by omega)).2.2.1
      · have h1 := vars_bulk (f := f) (D := D) (List.range len) fun i hi => (hf i (by simp at hi; omega)).2.2.2
        rw [hx]
        simp only [Rows.uptoBulk]
        omega
end
end Go.Proofs.YtojobiefambkoaaGreatDoor
