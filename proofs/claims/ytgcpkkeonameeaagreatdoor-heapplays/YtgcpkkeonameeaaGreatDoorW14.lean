/- Contract of the library function Grow of an empty list of cells. -/
import Derived.Test.YtgcpkkeonameeaaGreatDoorW13
import Derived.Lib.AppendZeros
import Derived.Deep.AppendLies
namespace Go.Proofs.YtgcpkkeonameeaaGreatDoor
open Go.RowKit
def zero60 : Value := .agg #[.int .u8 0, .string ⟨#[]⟩, .int .i64 0, .int .i64 0, .int .i64 0]
theorem info60 : ∃ i, Tryz.prog.info? 59 = some i ∧ i.zero = some zero60 ∧ i.size = 5 ∧ i.bytes = 48 := by
  have h : (Tryz.prog.info? 59).map (fun i => (i.zero, i.size, i.bytes)) = some (some zero60, 5, 48) := by kernel_rfl
  cases hq : Tryz.prog.info? 59 with
  | none => rw [hq] at h; cases h
  | some i =>
    rw [hq] at h
    simp only [Option.map_some, Option.some.injEq, Prod.mk.injEq] at h
    exact ⟨i, rfl, h.1, h.2.1, h.2.2⟩
theorem info29 : ∃ i, Tryz.prog.info? 26 = some i ∧ i.zero = some (.slice none 0 0) ∧ i.size = 1 ∧ i.bytes = 24 := by
  have h : (Tryz.prog.info? 26).map (fun i => (i.zero, i.size, i.bytes)) = some (some (.slice none 0 0), 1, 24) := by kernel_rfl
  cases hq : Tryz.prog.info? 26 with
  | none => rw [hq] at h; cases h
  | some i =>
    rw [hq] at h
    simp only [Option.map_some, Option.some.injEq, Prod.mk.injEq] at h
    exact ⟨i, rfl, h.1, h.2.1, h.2.2⟩
theorem zeroCells_size (n : Nat) : (Builtin.zeroCells zero60.cells n).size = n * 5 := by
  simp [Builtin.zeroCells, zero60, Value.cells]
end Go.Proofs.YtgcpkkeonameeaaGreatDoor
