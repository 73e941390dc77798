/- Contracts of the reference IsSign and cell: a cell is whole in itself. -/
import Derived.Test.YtaehhophaaipdabDoorJW
import Derived.Deep.RegionHeld3
import Derived.Deep.DrawnRows
namespace Go.Proofs.YtaehhophaaipdabDoor
open Go.RowKit
def eqName (a0 a1 b0 b1 : Int) : Bool := (a0 == b0) && (a1 == b1)
set_option maxHeartbeats 1000000 in
theorem eql23 (a0 a1 b0 b1 : Int) (w : World) :
    (binOp .eql 26 (.agg #[.int .i64 a0, .int .i64 a1]) (.agg #[.int .i64 b0, .int .i64 b1])).run Tryd.prog w = .ok (.bool (eqName a0 a1 b0 b1)) w := by
  unfold eqName
  cases h1 : (a0 == b0) <;> cases h2 : (a1 == b1) <;> go_simp
theorem empty_toList (t : ByteArray) : (t.toList == (⟨#[]⟩ : ByteArray).toList) = t.toList.isEmpty := by
  rw [ByteArray.toList_eq, ByteArray.toList_eq]
  cases t.data.toList <;> rfl
theorem cellB1 (t : ByteArray) (n vn vk : Int) : cellB 1 t n vn vk = (t.toList.isEmpty && eqName vn vk 0 0 && decide (-2147483648 ≤ n) && decide (n ≤ 2147483648)) := by
  unfold cellB eqCells between eqName
  rw [empty_toList]
  simp [Bool.and_assoc]
theorem cellB2 (t : ByteArray) (n vn vk : Int) : cellB 2 t n vn vk = (isNameB t.data.toList && eqName vn vk 0 0 && (n == 0)) := by
  unfold cellB eqCells eqName
  simp
  cases isNameB t.data.toList <;> cases (n == 0) <;> cases (vn == 0) <;> cases (vk == 0) <;> rfl
theorem cellB3 (t : ByteArray) (n vn vk : Int) : cellB 3 t n vn vk = (eqName vn vk 0 0 && ((isNameB t.data.toList && decide (1 ≤ n) && decide (n ≤ 8)) || (isSignB t.data.toList && (n == 2)))) := by
  unfold cellB eqCells eqName structFits between
  simp [Bool.and_assoc]
theorem cellB4 (t : ByteArray) (n vn vk : Int) : cellB 4 t n vn vk = (t.toList.isEmpty && (n == 0) && decide (-1 ≤ vn) && decide (vn ≤ 3) && decide (0 ≤ vk)) := by
  unfold cellB eqCells between
  rw [empty_toList]
  simp [Bool.and_assoc]
theorem signs_elem (k : Nat) (hk : k < 12) : signVals[k]? = some (.string (signS k)) := by
  match k, hk with
  | 0, _ | 1, _ | 2, _ | 3, _ | 4, _ | 5, _ | 6, _ | 7, _ | 8, _ | 9, _ | 10, _ | 11, _ => rfl
end Go.Proofs.YtaehhophaaipdabDoor
