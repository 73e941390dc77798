/- What the row's list of variables gives for TopWords: both rows hold the signs. -/
import Derived.Test.YtiemngihndbobaaDoorLxLaid
import Derived.Test.YtiemngihndbobaaDoorTmW13
namespace Go.Proofs.YtiemngihndbobaaDoor.TWLaid
open Go.ChangeShapes Go.WideShapes Go.ChangeAt Go.RowKit Go.Joins
open Go.ChangeMaps (open_string shut_string)
open Go.Proofs.YtiemngihndbobaaDoor.LxLaid (cells9 gTab gTabType)
theorem gTabT : Tryd.prog.globalNamed ((Rows.topWordsRow.laid.headD default).1) = some 0 := by kernel_rfl
theorem gTabTypeT : (Tryd.prog.globals[0]?).map (·.type) = some 90 := by kernel_rfl
theorem cells90 : Tryd.prog.cellsOf 90 = 12 := by kernel_rfl

/-- An array of strings that reads as the table holds the table's texts, cell for cell. -/
theorem cells_of_twelve {H : Type} {enc : TypeId × Value → H} {w : World} {base : Nat} {sp : Nat → Bool} {held : Bool} {fuel : Nat} {cs : List Value} {zs : List (List UInt8)} {p : List MemPlace}
    (h : DataW.trod enc Tryd.prog w base sp held fuel 90 cs = some (.agg (zs.map fun z => (.lit (.string z) : DataW H)), p)) : cs = zs.map fun z => Value.string ⟨z.toArray⟩ := by
  cases fuel with
  | zero => simp [DataW.trod] at h
  | succ fuel =>
    simp only [DataW.trod, Tryd.underlying90, cells9, cells90, Nat.mul_one] at h
    split at h
    · rename_i hl
      obtain ⟨xs, hm, hx⟩ := Option.map_eq_some_iff.1 h
      have hxs : xs.map (·.1) = zs.map fun z => (DataW.lit (.string z) : DataW H) := by
        have := congrArg Prod.fst hx
        simpa using this
      have hxl : xs.length = 12 := by simpa using Lib.mapM_length hm
      have hzl : zs.length = 12 := by
        have := congrArg List.length hxs
        simp at this
        omega
      apply List.ext_getElem?
      intro i
      by_cases hi : i < 12
      · obtain ⟨b, hb, hf⟩ := Lib.mapM_at hm i i (by simp [hi])
        obtain ⟨z, hc, rfl, _⟩ := DataW.trod_string Tryd.underlying9 hf
        have h1 : cs[i]? = some (.string z) := by
          have := congrArg (·[0]?) hc
          simpa [List.getElem?_take, List.getElem?_drop] using this
        have h2 : (xs.map (·.1))[i]? = some (DataW.lit (.string z.data.toList) : DataW H) := by simp [hb]
        rw [hxs] at h2
        simp only [List.getElem?_map, Option.map_eq_some_iff, DataW.lit.injEq, Lit.string.injEq] at h2
        obtain ⟨z', hz', e⟩ := h2
        simp [h1, hz', e]
      · rw [List.getElem?_eq_none (by omega), List.getElem?_eq_none (by simp; omega)]
    · cases h

/-- What the row's list gives: the variables' cells hold the signs. -/
theorem signs_of {W : World} (h : laidMetH Tryd.prog Rows.topWordsRow.laid W) : Tm.Signs W ∧ Lx.Signs W := by
  have h' : laidMet Tryd.prog Rows.topWordsRow.laid W := h
  obtain ⟨ps, ⟨g', t', cs, fuel, p, q, hg', ht', hvar, hd, hrest, _⟩, _⟩ := h'
  obtain ⟨g2, t2, cs2, fuel2, p2, q2, hg2, ht2, hvar2, hd2, _, _⟩ := hrest
  obtain rfl := Option.some.inj (gTabT.symm.trans hg')
  obtain rfl := Option.some.inj (gTabTypeT.symm.trans ht')
  obtain rfl := Option.some.inj (gTab.symm.trans hg2)
  obtain rfl := Option.some.inj (gTabType.symm.trans ht2)
  constructor
  · have hcs : cs.toList = Tm.signs.map fun z => Value.string ⟨z.toArray⟩ := cells_of_twelve (zs := Tm.signs) hd
    have hcell : ∀ j v, Tm.signVals[j]? = some v → W.cell? ⟨0, 0 + j, none⟩ = some v := by
      intro j v hv
      have h1 := World.var?_cell gTabT hvar j
      rw [Nat.zero_add, h1]
      have h2 : cs[j]? = cs.toList[j]? := by simp
      rw [h2, hcs]
      exact hv
    refine ⟨?_, hcell⟩
    have h0 := hcell 0 _ rfl
    exact World.block_lt_of_cell? W _ h0
  · have hcs : cs2.toList = Lx.signs.map fun z => Value.string ⟨z.toArray⟩ := LxLaid.cells_of_strs (zs := Lx.signs) hd2
    have hcell : ∀ j v, Lx.signVals[j]? = some v → W.cell? ⟨2, 0 + j, none⟩ = some v := by
      intro j v hv
      have h1 := World.var?_cell gTab hvar2 j
      rw [Nat.zero_add, h1]
      have h2 : cs2[j]? = cs2.toList[j]? := by simp
      rw [h2, hcs]
      have e : Lx.signVals = Lx.signs.map fun z => Value.string ⟨z.toArray⟩ := rfl
      rw [← e]
      exact hv
    refine ⟨?_, hcell⟩
    have h0 := hcell 0 _ rfl
    exact World.block_lt_of_cell? W _ h0
/-- The world with both blocks holding the signs: for the witnesses. -/
def laidOn (w : World) : World :=
  { w with heap := (w.heap.modify 0 fun
      | .cells _ t frozen => .cells Tm.signVals.toArray t frozen
      | o => o).modify 2 fun
      | .cells _ t frozen => .cells Lx.signVals.toArray t frozen
      | o => o }
end Go.Proofs.YtiemngihndbobaaDoor.TWLaid
