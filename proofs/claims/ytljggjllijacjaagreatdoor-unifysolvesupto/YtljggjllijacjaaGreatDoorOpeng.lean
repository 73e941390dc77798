/- What the row's list of variables gives: the package's row holds the twelve signs. Arguments that are handed in, opened: cells, terms, rows of terms. -/
import Derived.Test.YtljggjllijacjaaGreatDoorCards
import Derived.Test.YtljggjllijacjaaGreatDoorTie
import Derived.Test.YtljggjllijacjaaGreatDoorHP2g
import Derived.Test.YtljggjllijacjaaGreatDoorWDg
import Derived.WalkKit
import Derived.ProofKit
import Derived.OpenShut
import Derived.Deep.DeepHandedRow
import Derived.Lib.LaidTab
import Derived.Lib.SmallJoins
import Derived.Test.YtljggjllijacjaaGreatDoorRAg
import Derived.Deep.Slices
import Derived.SizedLaws
namespace Go.Proofs.YtljggjllijacjaaGreatDoor.Laid
open Go.ChangeShapes Go.WideShapes Go.ChangeAt Go.RowKit Go.Joins
open Go.ChangeMaps (open_string shut_string)

theorem own : ownKnob Tryz.prog.godebug = none := by kernel_rfl
theorem laidOut : laidOutB Tryz.prog = true := by kernel_rfl
theorem gTab : Tryz.prog.globalNamed (Rows.unifyStepsRow.named.headD default) = some 0 := by kernel_rfl
theorem gTabType : (Tryz.prog.globals[0]?).map (·.type) = some 148 := by kernel_rfl
theorem cells87 : Tryz.prog.cellsOf 148 = 12 := by kernel_rfl
theorem cells9 : Tryz.prog.cellsOf 9 = 1 := by kernel_rfl

/-- An array of strings that reads as the table holds the table's texts, cell for cell. -/
theorem cells_of_strs {H : Type} {enc : TypeId × Value → H} {w : World} {base : Nat} {sp : Nat → Bool} {held : Bool} {fuel : Nat} {cs : List Value} {zs : List (List UInt8)} {p : List MemPlace}
  (h : DataW.trod enc Tryz.prog w base sp held fuel 148 cs = some (.agg (zs.map fun z => (.lit (.string z) : DataW H)), p)) : cs = zs.map fun z => Value.string ⟨z.toArray⟩ := by
 cases fuel with
 | zero => simp [DataW.trod] at h
 | succ fuel =>
  simp only [DataW.trod, Tryz.underlying148, cells9, cells87, Nat.mul_one] at h
  split at h
  ·rename_i hl
   obtain ⟨xs, hm, hx⟩ := Option.map_eq_some_iff.1 h
   have hxs : xs.map (·.1) = zs.map fun z => (DataW.lit (.string z) : DataW H) := by
    have := congrArg Prod.fst hx
    simpa using this
   have hxl : xs.length = 12 := by simpa using Lib.mapM_length hm
   have hzl : zs.length = 12 := by
    have := congrArg List.length hxs
    simp at this
    omega
   apply List.ext_getElem?
   intro i
   by_cases hi : i < 12
   ·obtain ⟨b, hb, hf⟩ := Lib.mapM_at hm i i (by simp [hi])
    obtain ⟨z, hc, rfl, _⟩ := DataW.trod_string Tryz.underlying9 hf
    have h1 : cs[i]? = some (.string z) := by
     have := congrArg (·[0]?) hc
     simpa [List.getElem?_take, List.getElem?_drop] using this
    have h2 : (xs.map (·.1))[i]? = some (DataW.lit (.string z.data.toList) : DataW H) := by simp [hb]
    rw [hxs] at h2
    simp only [List.getElem?_map, Option.map_eq_some_iff, DataW.lit.injEq, Lit.string.injEq] at h2
    obtain ⟨z', hz', e⟩ := h2
    simp [h1, hz', e]
   ·rw [List.getElem?_eq_none (by omega), List.getElem?_eq_none (by simp; omega)]
  ·cases h

/-- What the row's list gives: the variable's cells hold the twelve signs. -/
theorem signs_of {W : World} (h : laidMetH Tryz.prog Rows.unifyStepsRow.laid W) : Signs W := by
 have h' : laidMet Tryz.prog Rows.unifyStepsRow.laid W := h
 obtain ⟨ps, ⟨g', t', cs, fuel, p, q, hg', ht', hvar, hd, _, _⟩, _⟩ := h'
 obtain rfl := Option.some.inj (gTab.symm.trans hg')
 obtain rfl := Option.some.inj (gTabType.symm.trans ht')
 have hcs : cs.toList = signs.map fun z => Value.string ⟨z.toArray⟩ := cells_of_strs (zs := signs) hd
 have hcell : ∀ j v, signVals[j]? = some v → W.cell? ⟨0, 0 + j, none⟩ = some v := by
  intro j v hv
  have h1 := World.var?_cell gTab hvar j
  rw [Nat.zero_add, h1]
  have h2 : cs[j]? = cs.toList[j]? := by simp
  rw [h2, hcs]
  exact hv
 refine ⟨?_, hcell⟩
 have h0 := hcell 0 _ rfl
 exact World.block_lt_of_cell? W _ h0

/-- The world with its first block holding the signs: for the witnesses. -/
def laidOn (w : World) : World :=
 { w with heap := w.heap.modify 0 fun
   | .cells _ t frozen => .cells signVals.toArray t frozen
   | o => o }
end Go.Proofs.YtljggjllijacjaaGreatDoor.Laid

namespace Go.Proofs.YtljggjllijacjaaGreatDoor
open Go.ChangeShapes Go.WideShapes Go.ChangeAt Go.RowKit Go.Joins Go.Deep Go.Proofs.YtljggjllijacjaaGreatDoor.Laid
theorem cells60 : Tryz.prog.cellsOf 78 = 5 := by kernel_rfl
theorem cells29 : Tryz.prog.cellsOf 24 = 1 := by kernel_rfl
theorem cells58 : Tryz.prog.cellsOf 76 = 1 := by kernel_rfl
theorem cells3 : Tryz.prog.cellsOf 3 = 1 := by kernel_rfl
theorem cells23' : Tryz.prog.cellsOf 32 = 2 := by kernel_rfl
theorem bytes60 : Tryz.prog.bytesOf 78 = 48 := by kernel_rfl
theorem bytes29 : Tryz.prog.bytesOf 24 = 24 := by kernel_rfl
section
variable {H : Type} {enc : TypeId × Value → H} {w : World} {base : Nat} {sp : Nat → Bool} {held : Bool}
theorem list5 {α : Type} {l : List α} (h : l.length = 5) : ∃ a b c d e, l = [a, b, c, d, e] := by
 match l, h with
 | [a, b, c, d, e], _ => exact ⟨a, b, c, d, e, rfl⟩
/-- A cell in memory, opened. -/
theorem open_cell {fuel : Nat} {cs : List Value} {x : DataW H × List MemPlace} (h : DataW.trod enc Tryz.prog w base sp held fuel 78 cs = some x) : ∃ c : C, cs = c.vals ∧ c.t.size ≤ maxLen := by
 cases fuel with
 | zero => simp [DataW.trod] at h
 | succ fuel =>
  simp only [DataW.trod, Tryz.underlying78, cells60] at h
  split at h
  ·rename_i hl
   obtain ⟨a, b, c, d, e, rfl⟩ := list5 hl
   obtain ⟨xs, hm, _⟩ := Option.map_eq_some_iff.1 h
   have f0 := Lib.mapM_at hm 0 _ rfl
   have f1 := Lib.mapM_at hm 1 _ rfl
   have f2 := Lib.mapM_at hm 2 _ rfl
   have f3 := Lib.mapM_at hm 3 _ rfl
   obtain ⟨y0, _, g0⟩ := f0
   obtain ⟨y1, _, g1⟩ := f1
   obtain ⟨y2, _, g2⟩ := f2
   obtain ⟨y3, _, g3⟩ := f3
   simp only [cells58, cells9, cells3, cells23', List.drop_zero, List.drop_succ_cons, List.take_succ_cons, List.take_zero] at g0 g1 g2 g3
   obtain ⟨k, e0, _, _⟩ := DataW.trod_int Tryz.underlying76 g0
   obtain ⟨t, e1, _, ht⟩ := DataW.trod_string Tryz.underlying9 g1
   obtain ⟨n, e2, _, _⟩ := DataW.trod_int Tryz.underlying3 g2
   obtain ⟨z0, z1, n3, _, _, h30, h31⟩ := trod_struct2 Tryz.underlying32 g3
   simp only [cells3, List.drop_zero, List.drop_succ_cons, List.take_succ_cons, List.take_zero] at h30 h31
   obtain ⟨vn, e3, _, _⟩ := DataW.trod_int Tryz.underlying3 h30
   obtain ⟨vk, e4, _, _⟩ := DataW.trod_int Tryz.underlying3 h31
   simp only [List.cons.injEq, and_true] at e0 e1 e2 e3 e4
   subst e0 e1 e2 e3 e4
   exact ⟨⟨k, t, n, vn, vk⟩, rfl, ht⟩
  ·cases h
theorem flat_div (l : List C) (j : Nat) (v : Value) (h : (flat l)[j]? = some v) : ∃ (hi : j / 5 < l.length), (l[j / 5].vals)[j % 5]? = some v := by
 have hj : j < (flat l).length := (List.getElem?_eq_some_iff.1 h).1
 rw [flat_length] at hj
 have hi : j / 5 < l.length := by omega
 refine ⟨hi, ?_⟩
 rw [← flat_get l (j / 5) (j % 5) hi (by omega), show 5 * (j / 5) + j % 5 = j by omega]
 exact h
/-- A term that is handed in, opened: its cells, and how long it is at most. -/
theorem open_term {fuel : Nat} {v : Value} {x : DataW H × List MemPlace} (h : DataW.trod enc Tryz.prog w base (fun _ => true) held fuel 24 [v] = some x) :
  ∃ l : List C, TermAt w v l ∧ ∀ M : Nat, (∀ y ∈ DataW.weights Tryz.prog 24 x.1, y ≤ M) → l.length * 48 ≤ M := by
 rcases open_slice Tryz.underlying24 h with ⟨hcs, hx⟩ | ⟨a, len, cap, m, n, D, Pl, hcs, _, hl, hmx, hm, hx, hel⟩
 ·simp only [List.cons.injEq, and_true] at hcs
  subst hcs
  exact ⟨[], termAt_nil w, fun M _ => by simp⟩
 ·simp only [List.cons.injEq, and_true] at hcs
  subst hcs
  simp only [if_true] at hm
  subst hm
  have hw : ∀ M : Nat, (∀ y ∈ DataW.weights Tryz.prog 24 x.1, y ≤ M) → len * 48 ≤ M := by
   intro M hM
   have h1 := hM ((len + (m - len)) * 48) (by
    rw [hx]
    simp [DataW.weights, Tryz.underlying24, bytes60])
   have h2 : len * 48 ≤ (len + (m - len)) * 48 := Nat.mul_le_mul_right _ (by omega)
   omega
  by_cases h0 : m = 0
  ·have hl0 : len = 0 := by omega
   subst h0 hl0
   exact ⟨[], ⟨⟨by simp, by simp⟩, Or.inl ⟨rfl, some a, rfl⟩⟩, fun M _ => by simp⟩
  ·rw [cells60] at hel
   have hc : ∀ i, i < m → ∃ c : C, (∀ r, r < 5 → w.cell? ((a.add (i * 5)).add r) = c.vals[r]?) ∧ c.t.size ≤ maxLen := by
    intro i hi
    obtain ⟨cs, h1, h2⟩ := hel i hi
    obtain ⟨c, rfl, ht⟩ := open_cell h2
    exact ⟨c, (World.cells?_some h1).2.2, ht⟩
   obtain ⟨f, hf⟩ := @choose_lt C ⟨⟨0, ⟨#[]⟩, 0, 0, 0⟩⟩ m _ hc
   have h00 := (hf 0 (by omega)).1 0 (by omega)
   obtain ⟨b, o, spot⟩ := a
   have hspot : spot = none := by
    have h01 : w.cell? (((⟨b, o, spot⟩ : Addr).add (0 * 5)).add 0) = some (.int .u8 (f 0).k) := h00
    simpa [Addr.add] using World.cell?_spot h01
   subst hspot
   have hr : w.rangeAt b o (flat ((List.range len).map f)) := by
    intro j u hu
    obtain ⟨hi, hv⟩ := flat_div _ j u hu
    simp at hi
    have h2 := (hf (j / 5) (by omega)).1 (j % 5) (by omega)
    rw [Addr.add_mid, Addr.add_mid, show o + j / 5 * 5 + j % 5 = o + j by omega] at h2
    rw [h2]
    simpa using hv
   refine ⟨(List.range len).map f, ⟨⟨by simp; omega, ?_⟩, Or.inr ⟨b, o, m, by simp, by simp; exact hl, hmx, hr, ?_⟩⟩, fun M hM => by simp; exact hw M hM⟩
   ·intro c hc'
    simp only [List.mem_map, List.mem_range] at hc'
    obtain ⟨i, hi, rfl⟩ := hc'
    exact (hf i (by omega)).2
   ·have h01 : w.cell? (((⟨b, o, none⟩ : Addr).add (0 * 5)).add 0) = some (.int .u8 (f 0).k) := h00
    rw [Addr.add_mid, Addr.add_mid] at h01
    exact World.block_lt_of_cell? w _ h01
theorem weightsAll_mem {t : TypeId} : ∀ {ds : List (DataW H)} {d : DataW H} {y : Nat}, d ∈ ds → y ∈ DataW.weights Tryz.prog t d → y ∈ DataW.weightsAll Tryz.prog t ds
 | _ :: _, _, _, hd, hy => by
  rcases List.mem_cons.1 hd with rfl | hd
  ·simp [DataW.weightsAll, hy]
  ·simp only [DataW.weightsAll, List.mem_append]
   exact Or.inr (weightsAll_mem hd hy)
end
end Go.Proofs.YtljggjllijacjaaGreatDoor
