/- Contracts of the small functions on bytes and names: for every argument, each returns what the plain function says, and no memory that was there changes. -/
import Derived.Test.YtljggjllijacjaaGreatDoorRows
import Derived.WalkKit
import Derived.WalkSpells
import Derived.WalkLawsBesides
import Derived.Deep.QuietTactic
import Derived.BigQuiet
namespace Go.Proofs.YtljggjllijacjaaGreatDoor
open Go.RowKit

def smallB (c : UInt8) : Bool := decide (97 ≤ (c.toNat : Int)) && decide ((c.toNat : Int) ≤ 122)
def capitalB (c : UInt8) : Bool := decide (65 ≤ (c.toNat : Int)) && decide ((c.toNat : Int) ≤ 90)
def digitB (c : UInt8) : Bool := decide (48 ≤ (c.toNat : Int)) && decide ((c.toNat : Int) ≤ 57)
def innerB (c : UInt8) : Bool := smallB c || capitalB c || digitB c || ((c.toNat : Int) == 95)

set_option maxHeartbeats 400000 in
theorem c58 (c : UInt8) (w : World) :
  Calls Tryz.prog 141 #[.int .u8 (c.toNat : Int)] w fun e w' => e = .returned (.bool (smallB c)) ∧ w' = w := by
 by_cases h : 97 ≤ (c.toNat : Int)
 ·have hb : smallB c = decide ((c.toNat : Int) ≤ 122) := by simp [smallB, h]
  rw [hb]; clear hb
  go_enter Tryz.func141, Tryz.ntmps141
  go_wp2
  go_ret
  exact ⟨rfl, rfl⟩
 ·have hb : smallB c = false := by unfold smallB; rw [decide_eq_false h]; rfl
  rw [hb]; clear hb
  go_enter Tryz.func141, Tryz.ntmps141
  go_wp2
  go_ret
  exact ⟨rfl, rfl⟩
set_option maxHeartbeats 400000 in
theorem c66 (c : UInt8) (w : World) :
  Calls Tryz.prog 149 #[.int .u8 (c.toNat : Int)] w fun e w' => e = .returned (.bool (capitalB c)) ∧ w' = w := by
 by_cases h : 65 ≤ (c.toNat : Int)
 ·have hb : capitalB c = decide ((c.toNat : Int) ≤ 90) := by simp [capitalB, h]
  rw [hb]; clear hb
  go_enter Tryz.func149, Tryz.ntmps149
  go_wp2
  go_ret
  exact ⟨rfl, rfl⟩
 ·have hb : capitalB c = false := by unfold capitalB; rw [decide_eq_false h]; rfl
  rw [hb]; clear hb
  go_enter Tryz.func149, Tryz.ntmps149
  go_wp2
  go_ret
  exact ⟨rfl, rfl⟩
set_option maxHeartbeats 400000 in
theorem c67 (c : UInt8) (w : World) :
  Calls Tryz.prog 150 #[.int .u8 (c.toNat : Int)] w fun e w' => e = .returned (.bool (digitB c)) ∧ w' = w := by
 by_cases h : 48 ≤ (c.toNat : Int)
 ·have hb : digitB c = decide ((c.toNat : Int) ≤ 57) := by simp [digitB, h]
  rw [hb]; clear hb
  go_enter Tryz.func150, Tryz.ntmps150
  go_wp2
  go_ret
  exact ⟨rfl, rfl⟩
 ·have hb : digitB c = false := by unfold digitB; rw [decide_eq_false h]; rfl
  rw [hb]; clear hb
  go_enter Tryz.func150, Tryz.ntmps150
  go_wp2
  go_ret
  exact ⟨rfl, rfl⟩

set_option maxHeartbeats 400000 in
theorem c60 (c : UInt8) (w : World) :
  Calls Tryz.prog 143 #[.int .u8 (c.toNat : Int)] w fun e w' => e = .returned (.bool (innerB c)) ∧ w' = w := by
 have hb : innerB c = (smallB c || capitalB c || digitB c || ((c.toNat : Int) == 95)) := rfl
 rw [hb]; clear hb
 have H58 := c58 c
 have H66 := c66 c
 have H67 := c67 c
 generalize smallB c = s at *
 generalize capitalB c = k at *
 generalize digitB c = d at *
 have H58 : Hid (∀ w, Calls Tryz.prog 141 #[.int .u8 (c.toNat : Int)] w fun e w' => e = .returned (.bool s) ∧ w' = w) := H58
 have H66 : Hid (∀ w, Calls Tryz.prog 149 #[.int .u8 (c.toNat : Int)] w fun e w' => e = .returned (.bool k) ∧ w' = w) := H66
 have H67 : Hid (∀ w, Calls Tryz.prog 150 #[.int .u8 (c.toNat : Int)] w fun e w' => e = .returned (.bool d) ∧ w' = w) := H67
 cases s <;> cases k <;> cases d
 all_goals
  go_enter Tryz.func143, Tryz.ntmps143
  go_wp2_with (first | (go_at_call 141; refine (H58.out _).mono ?_; rintro e w' ⟨rfl, rfl⟩) | (go_at_call 149; refine (H66.out _).mono ?_; rintro e w' ⟨rfl, rfl⟩) | (go_at_call 150; refine (H67.out _).mono ?_; rintro e w' ⟨rfl, rfl⟩))
  go_ret
  exact ⟨rfl, rfl⟩

def lessB (a0 a1 b0 b1 : Int) : Bool := decide (a0 < b0) || ((a0 == b0) && decide (a1 < b1))

set_option maxHeartbeats 400000 in
theorem c41 (a0 a1 b0 b1 : Int) (w : World) :
  Calls Tryz.prog 28 #[.agg #[.int .i64 a0, .int .i64 a1], .agg #[.int .i64 b0, .int .i64 b1]] w fun e w' => e = .returned (.bool (lessB a0 a1 b0 b1)) ∧ Below w.heap.size w w' := by
 by_cases h : a0 < b0
 ·have hb : lessB a0 a1 b0 b1 = true := by simp [lessB, h]
  rw [hb]; clear hb
  go_enter Tryz.func28, Tryz.ntmps28
  go_wp2
  go_ret
  exact ⟨rfl, by repeat (first | exact Below.refl _ _ | refine Below.drew ?_ | refine Below.alloc ?_ (by simp) _)⟩
 ·by_cases h2 : a0 = b0
  ·have hb : lessB a0 a1 b0 b1 = decide (a1 < b1) := by simp [lessB, h2]
   rw [hb]; clear hb
   go_enter Tryz.func28, Tryz.ntmps28
   go_wp2
   go_ret
   exact ⟨rfl, by repeat (first | exact Below.refl _ _ | refine Below.drew ?_ | refine Below.alloc ?_ (by simp) _)⟩
  ·have hb : lessB a0 a1 b0 b1 = false := by simp [lessB, h2]; omega
   rw [hb]; clear hb
   have h3 : (a0 == b0) = false := by simp [h2]
   go_enter Tryz.func28, Tryz.ntmps28
   go_wp2
   go_ret
   exact ⟨rfl, by repeat (first | exact Below.refl _ _ | refine Below.drew ?_ | refine Below.alloc ?_ (by simp) _)⟩
/-- How many bytes at the beginning are inner ones. -/
def runB (l : List UInt8) : Nat := (l.takeWhile innerB).length
theorem runB_stop (l : List UInt8) (k : Nat) (hk : k < l.length) (h : (l.take k).all innerB = true) (hn : innerB l[k] = false) : runB l = k := by
 unfold runB
 induction l generalizing k with
 | nil => simp at hk
 | cons a r ih =>
  cases k with
  | zero => simp at hn; simp [hn]
  | succ k =>
   simp at h hk hn
   have := ih k hk (by simpa using h.2) hn
   simp [h.1, this]
theorem runB_all (l : List UInt8) (h : l.all innerB = true) : runB l = l.length := by
 unfold runB
 induction l with
 | nil => rfl
 | cons a r ih => simp at h; simp [h.1]; exact ih (by simpa using h.2)
theorem all_snoc (s : ByteArray) (k : Nat) (hk : k < s.size) (h : (s.data.toList.take k).all innerB = true) (hi : innerB s[k] = true) : (s.data.toList.take (k + 1)).all innerB = true := by
 have e : s.data.toList.take (k + 1) = s.data.toList.take k ++ [s[k]] := by
  rw [List.take_succ_eq_append_getElem (by simpa using hk)]; rfl
 rw [e, List.all_append, h]
 simp [hi]
set_option maxHeartbeats 400000 in
theorem c59 (s : ByteArray) (w : World) (hs : s.size ≤ maxLen) :
  Calls Tryz.prog 142 #[.string s, .func (.func 143) #[] #[]] w fun e w' => e = .returned (.int .i64 (runB s.data.toList)) ∧ w' = w := by
 unfold maxLen at hs
 go_enter Tryz.func142, Tryz.ntmps142
 go_wp2
 go_loop [8] (fun i => ∃ k : Nat, k ≤ s.size ∧ i = .int .i64 k ∧ (s.data.toList.take k).all innerB = true) (fun i => s.size - (intOf i).toNat)
 case atStart => exact ⟨0, Nat.zero_le _, rfl, rfl⟩
 case round =>
  obtain ⟨k, hk, rfl, hall⟩ := hrel
  have HA : Hid ((s.data.toList.take k).all innerB = true) := hall
  clear hall
  by_cases hlt : k < s.size
  ·have H60 : Hid (∀ w, Calls Tryz.prog 143 #[.int .u8 (s[k].toNat : Int)] w fun e w' => e = .returned (.bool (innerB s[k])) ∧ w' = w) := c60 s[k]
   cases hi : innerB s[k]
   ·have hrun : Hid (runB s.data.toList = k) := runB_stop _ k (by simpa using hlt) HA.out hi
    rw [hi] at H60
    clear hi
    go_wp2_with (first | (go_at_call 143; refine (H60.out _).mono ?_; rintro e w' ⟨rfl, rfl⟩))
    go_ret
    exact ⟨by rw [hrun.out]; rfl, rfl⟩
   ·have hA := all_snoc s k hlt HA.out hi
    rw [hi] at H60
    clear hi
    go_wp2_with (first | (go_at_call 143; refine (H60.out _).mono ?_; rintro e w' ⟨rfl, rfl⟩))
    go_round
    case rel => exact ⟨k + 1, by omega, by go_num, hA⟩
    case measure => simp [intOf]; omega
  ·have hrun : Hid (runB s.data.toList = s.size) := by
    show runB s.data.toList = s.size
    have h1 := HA.out
    rw [List.take_of_length_le (by simp; omega)] at h1
    have h2 := runB_all _ h1
    exact by simpa using h2
   go_wp2
   go_ret
   exact ⟨by rw [hrun.out]; rfl, rfl⟩
end Go.Proofs.YtljggjllijacjaaGreatDoor
