/- Contract of obeys: for every cell and every table of rules it says whether the cell is whole in itself. -/
import Derived.Test.YtaehhophaaipdabDoorW9a
import Derived.Test.YtaehhophaaipdabDoorW9b
import Derived.Test.YtaehhophaaipdabDoorW9c
import Derived.Test.YtaehhophaaipdabDoorW9d
namespace Go.Proofs.YtaehhophaaipdabDoor
open Go.RowKit
/-- Is a cell whole in itself? -/
def cellB (k : Int) (t : ByteArray) (n vn vk : Int) : Bool :=
  if k = 1 then eqCells 1 t n vn vk 1 ⟨#[]⟩ n 0 0 && between (-2147483648) 2147483648 n
  else if k = 2 then eqCells 2 t n vn vk 2 t 0 0 0 && isNameB t.data.toList
  else if k = 3 then eqCells 3 t n vn vk 3 t n 0 0 && structFits 1 8 t.data.toList n
  else if k = 4 then eqCells 4 t n vn vk 4 ⟨#[]⟩ 0 vn vk && (between (-1) 3 vn && decide (0 ≤ vk))
  else false
theorem c62 (k : Int) (t : ByteArray) (n vn vk : Int) (v : Value) (w : World) (hR : Rules w v) (hSg : Signs w) (ht : t.size ≤ maxLen) :
    Calls Tryd.prog 35 #[.agg #[.int .u8 k, .string t, .int .i64 n, .int .i64 vn, .int .i64 vk], v] w fun e w' => e = .returned (.bool (cellB k t n vn vk)) ∧ Below w.heap.size w w' := by
  by_cases h1 : k = 1
  · subst h1
    cases hg : eqCells 1 t n vn vk 1 ⟨#[]⟩ n 0 0
    · have e : cellB 1 t n vn vk = false := by simp [cellB, hg]
      rw [e]; exact c62_1_false t n vn vk v w hR hg
    · have e : cellB 1 t n vn vk = between (-2147483648) 2147483648 n := by simp [cellB, hg]
      rw [e]; exact c62_1_true t n vn vk v w hR hg
  by_cases h2 : k = 2
  · subst h2
    cases hg : eqCells 2 t n vn vk 2 t 0 0 0
    · have e : cellB 2 t n vn vk = false := by simp [cellB, hg]
      rw [e]; exact c62_2_false t n vn vk v w hR hg
    · have e : cellB 2 t n vn vk = isNameB t.data.toList := by simp [cellB, hg]
      rw [e]; exact c62_2_true t n vn vk v w hR ht hg
  by_cases h3 : k = 3
  · subst h3
    cases hg : eqCells 3 t n vn vk 3 t n 0 0
    · have e : cellB 3 t n vn vk = false := by simp [cellB, hg]
      rw [e]; exact c62_3_false t n vn vk v w hR hg
    · have e : cellB 3 t n vn vk = structFits 1 8 t.data.toList n := by simp [cellB, hg]
      rw [e]; exact c62_3_true t n vn vk v w hR ht hSg hg
  by_cases h4 : k = 4
  · subst h4
    cases hg : eqCells 4 t n vn vk 4 ⟨#[]⟩ 0 vn vk
    · have e : cellB 4 t n vn vk = false := by simp [cellB, hg]
      rw [e]; exact c62_4_false t n vn vk v w hR hg
    · have e : cellB 4 t n vn vk = (between (-1) 3 vn && decide (0 ≤ vk)) := by simp [cellB, hg]
      rw [e]; exact c62_4_true t n vn vk v w hR hg
  have e : cellB k t n vn vk = false := by simp [cellB, h1, h2, h3, h4]
  rw [e]
  exact c62_other k t n vn vk v w hR (by simp; omega) (by simp; omega) (by simp; omega) (by simp; omega)
end Go.Proofs.YtaehhophaaipdabDoor
