/- What the row's list of variables gives: the package's row holds the twelve signs. -/
import Derived.Test.YtljggjllijacjaaDoorCards
import Derived.Test.YtljggjllijacjaaDoorTie
import Derived.Test.YtljggjllijacjaaDoorW18
import Derived.WalkKit
import Derived.ProofKit
import Derived.OpenShut
import Derived.Deep.DeepHandedRow
import Derived.Lib.LaidTab
import Derived.Lib.SmallJoins
namespace Go.Proofs.YtljggjllijacjaaDoor.Laid
open Go.ChangeShapes Go.WideShapes Go.ChangeAt Go.RowKit Go.Joins
open Go.ChangeMaps (open_string shut_string)

theorem own : ownKnob Tryd.prog.godebug = none := by kernel_rfl
theorem laidOut : laidOutB Tryd.prog = true := by kernel_rfl
theorem gTab : Tryd.prog.globalNamed (Rows.unifyEquationsRow.named.headD default) = some 0 := by kernel_rfl
theorem gTabType : (Tryd.prog.globals[0]?).map (·.type) = some 123 := by kernel_rfl
theorem cells87 : Tryd.prog.cellsOf 123 = 12 := by kernel_rfl
theorem cells9 : Tryd.prog.cellsOf 9 = 1 := by kernel_rfl

/-- An array of strings that reads as the table holds the table's texts, cell for cell. -/
theorem cells_of_strs {H : Type} {enc : TypeId × Value → H} {w : World} {base : Nat} {sp : Nat → Bool} {held : Bool} {fuel : Nat} {cs : List Value} {zs : List (List UInt8)} {p : List MemPlace}
    (h : DataW.trod enc Tryd.prog w base sp held fuel 123 cs = some (.agg (zs.map fun z => (.lit (.string z) : DataW H)), p)) : cs = zs.map fun z => Value.string ⟨z.toArray⟩ := by
  cases fuel with
  | zero => simp [DataW.trod] at h
  | succ fuel =>
    simp only [DataW.trod, Tryd.underlying123, cells9, cells87, Nat.mul_one] at h
    split at h
    · rename_i hl
      obtain ⟨xs, hm, hx⟩ := Option.map_eq_some_iff.1 h
      have hxs : xs.map (·.1) = zs.map fun z => (DataW.lit (.string z) : DataW H) := by
        have := congrArg Prod.fst hx
        simpa using this
      have hxl : xs.length = 12 := by simpa using Lib.mapM_length hm
      have hzl : zs.length = 12 := by
        have := congrArg List.length hxs
        simp at this
        omega
      apply List.ext_getElem?
      intro i
      by_cases hi : i < 12
      · obtain ⟨b, hb, hf⟩ := Lib.mapM_at hm i i (by simp [hi])
        obtain ⟨z, hc, rfl, _⟩ := DataW.trod_string Tryd.underlying9 hf
        have h1 : cs[i]? = some (.string z) := by
          have := congrArg (·[0]?) hc
          simpa [List.getElem?_take, List.getElem?_drop] using this
        have h2 : (xs.map (·.1))[i]? = some (DataW.lit (.string z.data.toList) : DataW H) := by simp [hb]
        rw [hxs] at h2
        simp only [List.getElem?_map, Option.map_eq_some_iff, DataW.lit.injEq, Lit.string.injEq] at h2
        obtain ⟨z', hz', e⟩ := h2
        simp [h1, hz', e]
      · rw [List.getElem?_eq_none (by omega), List.getElem?_eq_none (by simp; omega)]
    · cases h

/-- What the row's list gives: the variable's cells hold the twelve signs. -/
theorem signs_of {W : World} (h : laidMetH Tryd.prog Rows.unifyEquationsRow.laid W) : Signs W := by
  have h' : laidMet Tryd.prog Rows.unifyEquationsRow.laid W := h
  obtain ⟨ps, ⟨g', t', cs, fuel, p, q, hg', ht', hvar, hd, _, _⟩, _⟩ := h'
  obtain rfl := Option.some.inj (gTab.symm.trans hg')
  obtain rfl := Option.some.inj (gTabType.symm.trans ht')
  have hcs : cs.toList = signs.map fun z => Value.string ⟨z.toArray⟩ := cells_of_strs (zs := signs) hd
  have hcell : ∀ j v, signVals[j]? = some v → W.cell? ⟨0, 0 + j, none⟩ = some v := by
    intro j v hv
    have h1 := World.var?_cell gTab hvar j
    rw [Nat.zero_add, h1]
    have h2 : cs[j]? = cs.toList[j]? := by simp
    rw [h2, hcs]
    exact hv
  refine ⟨?_, hcell⟩
  have h0 := hcell 0 _ rfl
  exact World.block_lt_of_cell? W _ h0

/-- The world with its first block holding the signs: for the witnesses. -/
def laidOn (w : World) : World :=
  { w with heap := w.heap.modify 0 fun
      | .cells _ t frozen => .cells signVals.toArray t frozen
      | o => o }
end Go.Proofs.YtljggjllijacjaaDoor.Laid
