/- Amounts opened out of data; what the rows' list of variables gives; the world that the witnesses need. -/
import Derived.Test.YtopapmnoepnpcaaDoorRows
import Derived.Test.YtopapmnoepnpcaaDoorDE
import Derived.WalkKit
import Derived.ProofKit
import Derived.OpenShut
import Derived.Deep.DeepHandedRow
import Derived.Lib.LaidTab
import Derived.Stop.LaidErr
import Derived.Lib.SmallJoins
namespace Go.Proofs.YtopapmnoepnpcaaDoor.Opens
open Go.ChangeShapes Go.WideShapes Go.ChangeAt Go.RowKit Go.Joins
theorem own : ownKnob Tryd.prog.godebug = none := by kernel_rfl
theorem laidOut : laidOutB Tryd.prog = true := by kernel_rfl
def signs : List (List UInt8) := [[61], [58, 61], [64], [43], [45], [42], [60], [61, 60], [62], [62, 61], [61, 58, 61], [61, 92, 61]]
def bits32 : List Int := [0, 1, 28, 2, 29, 14, 24, 3, 30, 22, 20, 15, 25, 17, 4, 8, 31, 27, 13, 23, 21, 19, 16, 7, 26, 12, 18, 6, 11, 5, 10, 9]
def bits64 : List Int := [0, 1, 56, 2, 57, 49, 28, 3, 61, 58, 42, 50, 38, 29, 17, 4, 62, 47, 59, 36, 45, 43, 51, 22, 53, 39, 33, 30, 24, 18, 12, 5, 63, 55, 48, 27, 60, 41, 37, 16, 46, 35, 44, 21, 52, 32, 23, 11, 54, 26, 40, 15, 34, 20, 31, 10, 25, 14, 19, 9, 13, 8, 7, 6]
/-- The world with the variables' blocks holding what their initialisers lay: for the witnesses. -/
def fill (b : Nat) (vs : List Value) (w : World) : World :=
  { w with heap := w.heap.modify b fun
      | .cells _ t frozen => .cells vs.toArray t frozen
      | o => o }
def laidOn (w : World) : World :=
  fill 0 (Lib.pow10Tab.map fun z => .int .u64 z) (fill 1 (bits32.map fun z => .int .u8 z) (fill 2 (bits64.map fun z => .int .u8 z) (fill 3 (signs.map fun z => .string ⟨z.toArray⟩) w)))
theorem cells24 : Tryd.prog.cellsOf 24 = 2 := by kernel_rfl
theorem cells22 : Tryd.prog.cellsOf 22 = 1 := by kernel_rfl
theorem cells3 : Tryd.prog.cellsOf 3 = 1 := by kernel_rfl
section
variable {H : Type} {enc : TypeId × Value → H} {w : World} {base : Nat} {held : Bool}
theorem open_sl {fuel : Nat} {v : Value} {x : DataW H × List MemPlace} (h : DataW.trod enc Tryd.prog w base (fun _ => true) held fuel 22 [v] = some x) :
    ∃ a n c ns, v = .slice a n c ∧ Sl w a n c ns := by
  rcases open_ints Tryd.underlying22 Tryd.underlying3 (by kernel_rfl) h with ⟨hcs, hx⟩ | ⟨a, len, cap, zs, hcs, _, hl, hm, hzl, hx, hcell, hwf⟩
  · simp only [List.cons.injEq, and_true] at hcs
    exact ⟨none, 0, 0, [], hcs, ⟨⟨rfl, .inl rfl⟩, by omega, by omega, fun _ => rfl⟩⟩
  · simp only [List.cons.injEq, and_true] at hcs
    simp only [if_true] at hzl
    have hlen : (zs.take len).length = len := by rw [List.length_take]; omega
    unfold maxLen at hm
    refine ⟨some a, len, cap, zs.take len, hcs, ⟨⟨hlen, ?_⟩, by omega, hl, fun e => by cases e⟩⟩
    rcases Nat.eq_zero_or_pos cap with h0 | h0
    · exact .inl (by omega)
    · have h00 := hcell 0 (by omega)
      obtain ⟨b, o, spot⟩ := a
      have hspot : spot = none := by simpa [Addr.add] using World.cell?_spot h00
      subst hspot
      refine .inr ⟨b, o, rfl, ?_, fun j u hu => ?_⟩
      · rw [Addr.add_mid] at h00
        exact World.block_lt_of_cell? w _ h00
      · unfold i64s at hu
        rw [List.getElem?_map, Option.map_eq_some_iff] at hu
        obtain ⟨z, hz, rfl⟩ := hu
        have hjl : j < len := by
          have := (List.getElem?_eq_some_iff.1 hz).1
          omega
        rw [List.getElem?_take_of_lt hjl] at hz
        have hc := hcell j (by omega)
        have hk : zs.getD j 0 = z := by rw [List.getD_eq_getElem?_getD, hz]; rfl
        rw [hk, Addr.add_mid] at hc
        exact hc
theorem list2 {α : Type} {l : List α} (h : l.length = 2) : ∃ a b, l = [a, b] := by
  match l, h with
  | [a, b], _ => exact ⟨a, b, rfl⟩
theorem trod_struct2 {P : Program} {sp : Nat → Bool} {t : TypeId} {f0 f1 : Field} {fuel : Nat} {cs : List Value} {x : DataW H × List MemPlace} (ht : P.underlying t = some (.struct #[f0, f1])) (h : DataW.trod enc P w base sp held fuel t cs = some x) :
    ∃ y0 y1 n, cs.length = P.cellsOf t ∧ DataW.trod enc P w base sp held n f0.type ((cs.drop f0.offset).take (P.cellsOf f0.type)) = some y0 ∧
      DataW.trod enc P w base sp held n f1.type ((cs.drop f1.offset).take (P.cellsOf f1.type)) = some y1 := by
  obtain ⟨xs, n, _, rfl, hl, hlen, hf⟩ := DataW.trod_struct ht h
  match xs, hlen with
  | [y0, y1], _ => exact ⟨y0, y1, n, hl, by simpa using hf 0 f0 rfl, by simpa using hf 1 f1 rfl⟩
theorem open_am {fuel : Nat} {cs : Array Value} {x : DataW H × List MemPlace} (h : DataW.trod enc Tryd.prog w base (fun _ => true) held fuel 24 cs.toList = some x) :
    ∃ (W : Int) (a : Option Addr) (n c : Nat) (B : List Int), cs = #[.int .i64 W, .slice a n c] ∧ Sl w a n c B := by
  obtain ⟨y0, y1, n, hl, g0, g1⟩ := trod_struct2 Tryd.underlying24 h
  rw [cells24] at hl
  obtain ⟨a, b, e⟩ := list2 hl
  rw [e] at g0 g1
  simp only [cells22, cells3, List.drop_zero, List.drop_succ_cons, List.take_succ_cons, List.take_zero] at g0 g1
  obtain ⟨k0, e0, _, _⟩ := DataW.trod_int Tryd.underlying3 g0
  obtain ⟨ba, bn, bc, B, e1, hS⟩ := open_sl g1
  simp only [List.cons.injEq, and_true] at e0
  subst e0 e1
  exact ⟨k0, ba, bn, bc, B, by cases cs; simp_all, hS⟩
end
/-- What the rows' lists give: the table of powers. -/
theorem tb_of {r : List (String × DataW Unit)} {W : World} {x y : String × DataW Unit}
    (h : laidMet Tryd.prog (x :: y :: ("internal/strconv.uint64pow10", Lib.tabData .u64 Lib.pow10Tab) :: r) W) : Tb W :=
  Lib.tabIs_of_head (g := 0) (t := 113) (e := 84) (n := 20) (by kernel_rfl) (by kernel_rfl) Tryd.underlying113 Tryd.underlying84 (by kernel_rfl) (by kernel_rfl) (Go.laidMet.tail (Go.laidMet.tail h))
end Go.Proofs.YtopapmnoepnpcaaDoor.Opens
