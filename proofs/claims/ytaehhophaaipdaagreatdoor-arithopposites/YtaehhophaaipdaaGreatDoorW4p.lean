/- Contracts of the closures of the table of rules. -/
import Derived.Test.YtaehhophaaipdaaGreatDoorW3p
namespace Go.Proofs.YtaehhophaaipdaaGreatDoor
open Go.RowKit
/-- How many arguments a cell asks for. -/
def argsOf (k n : Int) : Int := if k = 3 then max n 0 else 0
set_option maxHeartbeats 400000 in
theorem c50 (k : Int) (t : ByteArray) (n vn vk : Int) (w : World) :
    Calls Tryz.prog 91 #[.agg #[.int .u8 k, .string t, .int .i64 n, .int .i64 vn, .int .i64 vk]] w fun e w' => e = .returned (.int .i64 (argsOf k n)) ∧ Below w.heap.size w w' := by
  by_cases h : k = 3
  · subst h
    by_cases hn : n < 0
    · have hb : argsOf 3 n = 0 := by simp [argsOf]; omega
      rw [hb]; clear hb
      go_enter Tryz.func91, Tryz.ntmps91
      go_wp2
      go_ret
      exact ⟨rfl, by repeat (first | exact Below.refl _ _ | refine Below.drew ?_ | refine Below.alloc ?_ (by simp) _)⟩
    · have hb : argsOf 3 n = n := by simp [argsOf]; omega
      rw [hb]; clear hb
      go_enter Tryz.func91, Tryz.ntmps91
      go_wp2
      go_ret
      exact ⟨rfl, by repeat (first | exact Below.refl _ _ | refine Below.drew ?_ | refine Below.alloc ?_ (by simp) _)⟩
  · have h1 : (k == 3) = false := by simp [h]
    have hb : argsOf k n = 0 := by simp [argsOf, h]
    rw [hb]; clear hb
    go_enter Tryz.func91, Tryz.ntmps91
    go_wp2
    go_ret
    exact ⟨rfl, by repeat (first | exact Below.refl _ _ | refine Below.drew ?_ | refine Below.alloc ?_ (by simp) _)⟩
def between (lo hi n : Int) : Bool := decide (lo ≤ n) && decide (n ≤ hi)
set_option maxHeartbeats 400000 in
theorem c78 (lo hi n : Int) (w : World) (a b : Nat) (ha : w.cell? ⟨a, 0, none⟩ = some (.int .i64 lo)) (hb : w.cell? ⟨b, 0, none⟩ = some (.int .i64 hi)) :
    Calls Tryz.prog 147 #[.int .i64 n, .pointer (some ⟨a, 0, none⟩), .pointer (some ⟨b, 0, none⟩)] w fun e w' => e = .returned (.bool (between lo hi n)) ∧ w' = w := by
  by_cases h : lo ≤ n
  · have hb : between lo hi n = decide (n ≤ hi) := by simp [between, h]
    rw [hb]; clear hb
    go_enter Tryz.func147, Tryz.ntmps147
    go_wp2
    go_ret
    exact ⟨rfl, rfl⟩
  · have hb : between lo hi n = false := by unfold between; rw [decide_eq_false h]; rfl
    rw [hb]; clear hb
    go_enter Tryz.func147, Tryz.ntmps147
    go_wp2
    go_ret
    exact ⟨rfl, rfl⟩
set_option maxHeartbeats 400000 in
theorem c68 (lo hi : Int) (w : World) :
    Calls Tryz.prog 128 #[.int .i64 lo, .int .i64 hi] w fun e w' => e = .returned (.func (.func 147) #[] #[.pointer (some ⟨w.heap.size, 0, none⟩), .pointer (some ⟨w.heap.size+1, 0, none⟩)]) ∧ w' = (w.alloc (.cells #[.int .i64 lo] 3)).alloc (.cells #[.int .i64 hi] 3) := by
  have hmf : ∀ (fn : Fn) (first cap : Array Value) (w : World), (Instr.makeFunc fn first cap).run Tryz.prog w = .ok (.func fn first cap) w := fun _ _ _ _ => rfl
  go_enter Tryz.func128, Tryz.ntmps128
  go_wp2
  go_ret
  exact ⟨rfl, rfl⟩
set_option maxHeartbeats 400000 in
theorem c69 (k : Int) (t : ByteArray) (n vn vk : Int) (w : World) :
    Calls Tryz.prog 129 #[.agg #[.int .u8 k, .string t, .int .i64 n, .int .i64 vn, .int .i64 vk]] w fun e w' => e = .returned (.agg #[.int .u8 k, .string ⟨#[]⟩, .int .i64 n, .int .i64 0, .int .i64 0]) ∧ Below w.heap.size w w' := by
  go_enter Tryz.func129, Tryz.ntmps129
  go_wp2
  exact bodyPost_ret (v := .agg #[.int .u8 k, .string ⟨#[]⟩, .int .i64 n, .int .i64 0, .int .i64 0]) (by simp [results, Tryz.results129, go_sem]) rfl ⟨rfl, by repeat (first | exact Below.refl _ _ | refine Below.drew ?_ | refine Below.alloc ?_ (by simp) _)⟩
set_option maxHeartbeats 400000 in
theorem c71 (k : Int) (t : ByteArray) (n vn vk : Int) (w : World) :
    Calls Tryz.prog 131 #[.agg #[.int .u8 k, .string t, .int .i64 n, .int .i64 vn, .int .i64 vk]] w fun e w' => e = .returned (.agg #[.int .u8 k, .string t, .int .i64 0, .int .i64 0, .int .i64 0]) ∧ Below w.heap.size w w' := by
  go_enter Tryz.func131, Tryz.ntmps131
  go_wp2
  exact bodyPost_ret (v := .agg #[.int .u8 k, .string t, .int .i64 0, .int .i64 0, .int .i64 0]) (by simp [results, Tryz.results131, go_sem]) rfl ⟨rfl, by repeat (first | exact Below.refl _ _ | refine Below.drew ?_ | refine Below.alloc ?_ (by simp) _)⟩
set_option maxHeartbeats 400000 in
theorem c73 (k : Int) (t : ByteArray) (n vn vk : Int) (w : World) :
    Calls Tryz.prog 134 #[.agg #[.int .u8 k, .string t, .int .i64 n, .int .i64 vn, .int .i64 vk]] w fun e w' => e = .returned (.agg #[.int .u8 k, .string t, .int .i64 n, .int .i64 0, .int .i64 0]) ∧ Below w.heap.size w w' := by
  go_enter Tryz.func134, Tryz.ntmps134
  go_wp2
  exact bodyPost_ret (v := .agg #[.int .u8 k, .string t, .int .i64 n, .int .i64 0, .int .i64 0]) (by simp [results, Tryz.results134, go_sem]) rfl ⟨rfl, by repeat (first | exact Below.refl _ _ | refine Below.drew ?_ | refine Below.alloc ?_ (by simp) _)⟩
set_option maxHeartbeats 400000 in
theorem c76 (k : Int) (t : ByteArray) (n vn vk : Int) (w : World) :
    Calls Tryz.prog 137 #[.agg #[.int .u8 k, .string t, .int .i64 n, .int .i64 vn, .int .i64 vk]] w fun e w' => e = .returned (.agg #[.int .u8 k, .string ⟨#[]⟩, .int .i64 0, .int .i64 vn, .int .i64 vk]) ∧ Below w.heap.size w w' := by
  go_enter Tryz.func137, Tryz.ntmps137
  go_wp2
  exact bodyPost_ret (v := .agg #[.int .u8 k, .string ⟨#[]⟩, .int .i64 0, .int .i64 vn, .int .i64 vk]) (by simp [results, Tryz.results137, go_sem]) rfl ⟨rfl, by repeat (first | exact Below.refl _ _ | refine Below.drew ?_ | refine Below.alloc ?_ (by simp) _)⟩

/-- A variable that holds the function 'between lo and hi'. -/
def HoldsBetween (w : World) (r : Nat) (lo hi : Int) : Prop :=
  ∃ a b : Nat, w.cell? ⟨r, 0, none⟩ = some (.func (.func 147) #[] #[.pointer (some ⟨a, 0, none⟩), .pointer (some ⟨b, 0, none⟩)]) ∧ w.cell? ⟨a, 0, none⟩ = some (.int .i64 lo) ∧ w.cell? ⟨b, 0, none⟩ = some (.int .i64 hi) ∧ r < w.heap.size ∧ a < w.heap.size ∧ b < w.heap.size
theorem HoldsBetween.below {w w' : World} {r : Nat} {lo hi : Int} (h : HoldsBetween w r lo hi) (hb : Below w.heap.size w w') : HoldsBetween w' r lo hi := by
  obtain ⟨a, b, h1, h2, h3, h4, h5, h6⟩ := h
  have := hb.size
  exact ⟨a, b, (hb.cell (p := ⟨r, 0, none⟩) h4).trans h1, (hb.cell (p := ⟨a, 0, none⟩) h5).trans h2, (hb.cell (p := ⟨b, 0, none⟩) h6).trans h3, by omega, by omega, by omega⟩

end Go.Proofs.YtaehhophaaipdaaGreatDoor
