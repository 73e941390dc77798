/- Contract of the library function Grow of an empty list of cells. -/
import Derived.Test.YtpepogmkbcbmpabDoorW13
import Derived.Lib.AppendZeros
import Derived.Deep.AppendLies
namespace Go.Proofs.YtpepogmkbcbmpabDoor
open Go.RowKit
def zero60 : Value := .agg #[.int .u8 0, .string ⟨#[]⟩, .int .i64 0, .int .i64 0, .int .i64 0]
theorem info60 : ∃ i, Tryd.prog.info? 34 = some i ∧ i.zero = some zero60 ∧ i.size = 5 ∧ i.bytes = 48 := by
  have h : (Tryd.prog.info? 34).map (fun i => (i.zero, i.size, i.bytes)) = some (some zero60, 5, 48) := by kernel_rfl
  cases hq : Tryd.prog.info? 34 with
  | none => rw [hq] at h; cases h
  | some i =>
    rw [hq] at h
    simp only [Option.map_some, Option.some.injEq, Prod.mk.injEq] at h
    exact ⟨i, rfl, h.1, h.2.1, h.2.2⟩
theorem info29 : ∃ i, Tryd.prog.info? 23 = some i ∧ i.zero = some (.slice none 0 0) ∧ i.size = 1 ∧ i.bytes = 24 := by
  have h : (Tryd.prog.info? 23).map (fun i => (i.zero, i.size, i.bytes)) = some (some (.slice none 0 0), 1, 24) := by kernel_rfl
  cases hq : Tryd.prog.info? 23 with
  | none => rw [hq] at h; cases h
  | some i =>
    rw [hq] at h
    simp only [Option.map_some, Option.some.injEq, Prod.mk.injEq] at h
    exact ⟨i, rfl, h.1, h.2.1, h.2.2⟩
theorem zeroCells_size (n : Nat) : (Builtin.zeroCells zero60.cells n).size = n * 5 := by
  simp [Builtin.zeroCells, zero60, Value.cells]
set_option maxHeartbeats 1000000 in
theorem c63 (T : Nat) (w : World) (h0 : 0 < T) (hT : T ≤ 1000000000) :
    Calls Tryd.prog 39 #[.slice none 0 0, .int .i64 T] w fun e w' => ∃ v, e = .returned v ∧ w'.ownsRow w.heap.size 34 5 v 0 [] ∧ Below w.heap.size w w' := by
  obtain ⟨i, hi, hz, hs, hby⟩ := info60
  have happ := fun (W : World) (ty : TypeId) => Lib.run_append_nil_zeros (P := Tryd.prog) W 23 3 ty 34 i zero60 .i64 .i64 Tryd.underlying23 Tryd.underlying3 hi hz T h0 (by omega) (by omega) (by rw [hby]; omega)
  have hge := grownCap_ge w T 0 34
  have hle := grownCap_le_maxLen w T 0 34 (by unfold maxLen; omega)
  have hown : Hid ((w.drew.alloc (.cells (Builtin.zeroCells zero60.cells T ++ Builtin.zeroCells zero60.cells (grownCap w T 0 34 - T)) 34)).ownsRow w.heap.size 34 5 (.slice (some ⟨w.heap.size, 0, none⟩) 0 (grownCap w T 0 34)) 0 []) := by
    exact World.ownsRow_made w.drew _ (grownCap w T 0 34) (Nat.le_refl _) hle (by rw [Array.size_append, zeroCells_size, zeroCells_size]; omega)
  have hT0 : (0 : Int) < (T : Int) := by omega
  have hB : ∀ o : Obj, Hid (Below w.heap.size w (w.alloc o).drew) := fun o => (below_alloc w o).drew
  clear hge hle hz hs hby hi
  generalize zero60.cells = zc at happ hown
  go_enter Tryd.func39, Tryd.ntmps39
  go_wp2_with (at_builtin; refine Lib.wpList_append_run _ rfl _ _ 23 3 rfl _ _ rfl rfl _ _ (happ _ _) ?_)
  go_ret
  exact ⟨_, rfl, hown.out, (hB _).out⟩
end Go.Proofs.YtpepogmkbcbmpabDoor
