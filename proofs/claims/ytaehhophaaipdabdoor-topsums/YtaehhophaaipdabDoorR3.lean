/- Contract of the reference Equal: for every two terms it says whether they have the same cells. -/
import Derived.Test.YtaehhophaaipdabDoorJW
import Derived.Deep.RegionHeld3
import Derived.Deep.DrawnRows
namespace Go.Proofs.YtaehhophaaipdabDoor
open Go.RowKit
attribute [local go_sem ↓] Go.wp_at_zero Go.wp_at_succ
set_option maxHeartbeats 1000000 in
theorem neq60 (k : Int) (t : ByteArray) (n vn vk : Int) (k' : Int) (t' : ByteArray) (n' vn' vk' : Int) (w : World) :
    (binOp .neq 52 (.agg #[.int .u8 k, .string t, .int .i64 n, .int .i64 vn, .int .i64 vk]) (.agg #[.int .u8 k', .string t', .int .i64 n', .int .i64 vn', .int .i64 vk'])).run Tryd.prog w = .ok (.bool (!eqCells k t n vn vk k' t' n' vn' vk')) w := by
  unfold eqCells
  cases h1 : (k == k') <;> cases h2 : (t.toList == t'.toList) <;> cases h3 : (n == n') <;> cases h4 : (vn == vn') <;> cases h5 : (vk == vk') <;> go_simp
def eqC (c d : C) : Bool := eqCells c.k c.t c.n c.vn c.vk d.k d.t d.n d.vn d.vk
def eqUpto (l m : List C) (k : Nat) : Prop := ∀ j, j < k → ∀ (h1 : j < l.length) (h2 : j < m.length), eqC l[j] m[j] = true
def eqT (l m : List C) : Bool := decide (l.length = m.length) && (l.zip m).all (fun p => eqC p.1 p.2)
theorem eqT_len {l m : List C} (h : ¬ l.length = m.length) : eqT l m = false := by simp [eqT, h]
theorem eqT_true {l m : List C} (h : l.length = m.length) (hu : eqUpto l m l.length) : eqT l m = true := by
  simp only [eqT, h, decide_true, Bool.true_and, List.all_eq_true]
  intro p hp
  obtain ⟨j, hj, rfl⟩ := List.getElem_of_mem hp
  simp at hj
  simpa using hu j (by omega) (by omega) (by omega)
theorem eqT_false {l m : List C} (j : Nat) (h1 : j < l.length) (h2 : j < m.length) (h : eqC l[j] m[j] = false) : eqT l m = false := by
  unfold eqT
  have : (l.zip m).all (fun p => eqC p.1 p.2) = false := by
    rw [List.all_eq_false]
    exact ⟨(l.zip m)[j]'(by simp; omega), List.getElem_mem _, by simp [h]⟩
  rw [this]; simp
theorem eqC_refl (c : C) : eqC c c = true := by simp [eqC, eqCells]
theorem eqT_refl (l : List C) : eqT l l = true := eqT_true rfl (fun j _ h1 _ => eqC_refl l[j])
end Go.Proofs.YtaehhophaaipdabDoor
