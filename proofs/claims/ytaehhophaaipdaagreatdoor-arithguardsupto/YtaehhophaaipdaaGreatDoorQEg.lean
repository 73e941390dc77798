/- Contracts of arith's small functions. Contracts of the operators: what each makes of numbers. -/
import Derived.Test.YtaehhophaaipdaaGreatDoorWAg
import Derived.Below
import Derived.Deep.MidRow
namespace Go.Proofs.YtaehhophaaipdaaGreatDoor
open Go.RowKit
/-- Does a number stand in no term? -/
def greatB (x : Int) : Bool := decide (x < -2147483648) || decide (2147483648 < x)
set_option maxRecDepth 100000 in
theorem h35 (x : Int) (w : World) : Calls Tryz.prog 73 #[.int .i64 x] w fun e w' => e = .returned (.bool (greatB x)) ∧ w' = w := by
 by_cases h1 : x < -2147483648
 ·have he : greatB x = true := by simp [greatB, h1]
  rw [he]
  go_enter Tryz.func73, Tryz.ntmps73
  go_wp2_with fail
  go_ret
  exact ⟨rfl, rfl⟩
 ·by_cases h2 : 2147483648 < x
  ·have he : greatB x = true := by simp [greatB, h2]
   rw [he]
   go_enter Tryz.func73, Tryz.ntmps73
   go_wp2_with fail
   go_ret
   exact ⟨rfl, rfl⟩
  ·have he : greatB x = false := by simp [greatB, h1, h2]
   rw [he]
   go_enter Tryz.func73, Tryz.ntmps73
   go_wp2_with fail
   go_ret
   exact ⟨rfl, rfl⟩
/-- A row of numbers that can be read. -/
def IntsR (w : World) (v : Value) (ns : List Int) : Prop := ns.length ≤ maxLen ∧ ((ns = [] ∧ ∃ ad, v = .slice ad 0 0) ∨ ∃ b o cap, v = .slice (some ⟨b, o, none⟩) ns.length cap ∧ b < w.heap.size ∧ w.rangeAt b o (ns.map (Value.int .i64)))
theorem IntsR.below {w w' : World} {v : Value} {ns : List Int} (h : IntsR w v ns) (hb : Below w.heap.size w w') : IntsR w' v ns := by
 obtain ⟨h0, h⟩ := h
 refine ⟨h0, ?_⟩
 rcases h with h | ⟨b, o, cap, h1, h2, h3⟩
 ·exact .inl h
 ·exact .inr ⟨b, o, cap, h1, Nat.lt_of_lt_of_le h2 hb.size, fun j u hu => (hb.cell (p := ⟨b, o + j, none⟩) h2).trans (h3 j u hu)⟩
theorem IntsR.form {w : World} {v : Value} {ns : List Int} (h : IntsR w v ns) : ∃ ad cap, v = .slice ad ns.length cap := by
 rcases h.2 with ⟨rfl, ad, rfl⟩ | ⟨b, o, cap, h1, _⟩
 ·exact ⟨ad, 0, rfl⟩
 ·exact ⟨_, _, h1⟩
theorem IntsR.at {w : World} {v : Value} {ns : List Int} (h : IntsR w v ns) (i : Nat) (hi : i < ns.length) : ∃ b o cap, v = .slice (some ⟨b, o, none⟩) ns.length cap ∧ w.cell? ⟨b, o + i, none⟩ = some (.int .i64 ns[i]) ∧ b < w.heap.size := by
 rcases h.2 with ⟨rfl, _⟩ | ⟨b, o, cap, h1, h2, h3⟩
 ·simp at hi
 ·exact ⟨b, o, cap, h1, h3 i _ (by simp [List.getElem?_eq_getElem hi]), h2⟩
theorem any_false_take (f : Int → Bool) (ns : List Int) (h : ∀ j (hj : j < ns.length), f ns[j] = false) : ns.any f = false := by
 rw [List.any_eq_false]
 intro y hy
 obtain ⟨j, hj, rfl⟩ := List.getElem_of_mem hy
 simp [h j hj]
set_option maxRecDepth 100000 in
theorem h51 (f : Nat) (w : World) : Calls Tryz.prog 92 #[.func (Fn.func f) #[] #[]] w fun e w' => e = .returned (.func (Fn.func 139) #[] #[.pointer (some ⟨w.heap.size, 0, none⟩)]) ∧ w' = w.alloc (.cells #[.func (Fn.func f) #[] #[]] 139) := by
 go_enter Tryz.func92, Tryz.ntmps92
 go_wp2_with fail
 go_ret
 exact ⟨rfl, rfl⟩
set_option maxRecDepth 100000 in
theorem h55 (f : Nat) (w : World) : Calls Tryz.prog 96 #[.func (Fn.func f) #[] #[]] w fun e w' => e = .returned (.func (Fn.func 140) #[] #[.pointer (some ⟨w.heap.size, 0, none⟩)]) ∧ w' = w.alloc (.cells #[.func (Fn.func f) #[] #[]] 139) := by
 go_enter Tryz.func96, Tryz.ntmps96
 go_wp2_with fail
 go_ret
 exact ⟨rfl, rfl⟩
end Go.Proofs.YtaehhophaaipdaaGreatDoor

namespace Go.Proofs.YtaehhophaaipdaaGreatDoor
open Go.RowKit
def okI (x : Int) : Prop := -2147483648 ≤ x ∧ x ≤ 2147483648
def divF (a b : Int) : Int := if a.tmod b ≠ 0 ∧ ((decide (a < 0)) != (decide (b < 0))) = true then a.tdiv b - 1 else a.tdiv b
theorem mul_bd {a b : Int} (ha : okI a) (hb : okI b) : -4611686018427387904 ≤ a * b ∧ a * b ≤ 4611686018427387904 := by
 have h1 : a.natAbs ≤ 2147483648 := by unfold okI at ha; omega
 have h2 : b.natAbs ≤ 2147483648 := by unfold okI at hb; omega
 have h3 : (a * b).natAbs ≤ 2147483648 * 2147483648 := by
  rw [Int.natAbs_mul]
  exact Nat.mul_le_mul h1 h2
 omega
theorem tdiv_bd {a b : Int} (ha : okI a) : -2147483648 ≤ a.tdiv b ∧ a.tdiv b ≤ 2147483648 := by
 have h1 : (a.tdiv b).natAbs ≤ a.natAbs := by
  rw [Int.natAbs_tdiv]
  exact Nat.div_le_self _ _
 unfold okI at ha
 omega
set_option maxRecDepth 100000 in
theorem h52 (a b : Int) (w : World) (ha : okI a) (hb : okI b) : Calls Tryz.prog 93 #[.int .i64 a, .int .i64 b] w fun e w' => e = .returned (.int .i64 (a + b)) ∧ w' = w := by
 unfold okI at *
 obtain ⟨a1, a2⟩ := ha
 obtain ⟨b1, b2⟩ := hb
 go_enter Tryz.func93, Tryz.ntmps93
 go_wp2_with fail
 go_ret
 exact ⟨rfl, rfl⟩
set_option maxRecDepth 100000 in
theorem h53 (a b : Int) (w : World) (ha : okI a) (hb : okI b) : Calls Tryz.prog 94 #[.int .i64 a, .int .i64 b] w fun e w' => e = .returned (.int .i64 (a - b)) ∧ w' = w := by
 unfold okI at *
 obtain ⟨a1, a2⟩ := ha
 obtain ⟨b1, b2⟩ := hb
 go_enter Tryz.func94, Tryz.ntmps94
 go_wp2_with fail
 go_ret
 exact ⟨rfl, rfl⟩
set_option maxRecDepth 100000 in
theorem h54 (a b : Int) (w : World) (ha : okI a) (hb : okI b) : Calls Tryz.prog 95 #[.int .i64 a, .int .i64 b] w fun e w' => e = .returned (.int .i64 (a * b)) ∧ w' = w := by
 obtain ⟨m1, m2⟩ := mul_bd ha hb
 clear ha hb
 go_enter Tryz.func95, Tryz.ntmps95
 go_wp2_with fail
 go_ret
 exact ⟨rfl, rfl⟩
set_option maxRecDepth 100000 in
theorem h58 (a b : Int) (w : World) : Calls Tryz.prog 99 #[.int .i64 a, .int .i64 b] w fun e w' => e = .returned (.int .i64 (if b < a then b else a)) ∧ w' = w := by
 by_cases h : b < a
 ·rw [if_pos h]
  go_enter Tryz.func99, Tryz.ntmps99
  go_wp2_with fail
  go_ret
  exact ⟨rfl, rfl⟩
 ·rw [if_neg h]
  go_enter Tryz.func99, Tryz.ntmps99
  go_wp2_with fail
  go_ret
  exact ⟨rfl, rfl⟩
set_option maxRecDepth 100000 in
theorem h59 (a b : Int) (w : World) : Calls Tryz.prog 100 #[.int .i64 a, .int .i64 b] w fun e w' => e = .returned (.int .i64 (if a < b then b else a)) ∧ w' = w := by
 by_cases h : a < b
 ·rw [if_pos h]
  go_enter Tryz.func100, Tryz.ntmps100
  go_wp2_with fail
  go_ret
  exact ⟨rfl, rfl⟩
 ·rw [if_neg h]
  go_enter Tryz.func100, Tryz.ntmps100
  go_wp2_with fail
  go_ret
  exact ⟨rfl, rfl⟩
set_option maxRecDepth 100000 in
theorem h56 (a b : Int) (w : World) (ha : okI a) (h0 : b ≠ 0) : Calls Tryz.prog 97 #[.int .i64 a, .int .i64 b] w fun e w' => e = .returned (.int .i64 (divF a b)) ∧ w' = w := by
 obtain ⟨t1, t2⟩ := tdiv_bd (b := b) ha
 have HD : divF a b = if a.tmod b ≠ 0 ∧ ((decide (a < 0)) != (decide (b < 0))) = true then a.tdiv b - 1 else a.tdiv b := rfl
 clear ha
 by_cases hr : a.tmod b = 0
 ·rw [if_neg (fun h => h.1 hr)] at HD
  rw [HD]
  clear HD
  go_enter Tryz.func97, Tryz.ntmps97
  go_wp2_with fail
  go_ret
  exact ⟨rfl, rfl⟩
 ·have hq : (a.tmod b != 0) = true := by simpa using hr
  cases hs : ((decide (a < 0)) != (decide (b < 0)))
  ·rw [if_neg (fun h => by rw [hs] at h; cases h.2)] at HD
   rw [HD]
   have hs' : (!decide (a < 0) == decide (b < 0)) = false := hs
   clear HD
   go_enter Tryz.func97, Tryz.ntmps97
   go_wp2_with fail
   go_ret
   exact ⟨rfl, rfl⟩
  ·rw [if_pos ⟨hr, hs⟩] at HD
   rw [HD]
   have hs' : (!decide (a < 0) == decide (b < 0)) = true := hs
   clear HD
   go_enter Tryz.func97, Tryz.ntmps97
   go_wp2_with fail
   go_ret
   exact ⟨rfl, rfl⟩
theorem divF_bd {a b : Int} (ha : okI a) : -2147483649 ≤ divF a b ∧ divF a b ≤ 2147483648 := by
 obtain ⟨t1, t2⟩ := tdiv_bd (b := b) ha
 unfold divF
 split <;> omega
/-- What is left by divF. -/
def modF (a b : Int) : Int := a - b * divF a b
theorem modF_eq (a b : Int) : modF a b = if a.tmod b ≠ 0 ∧ ((decide (a < 0)) != (decide (b < 0))) = true then a.tmod b + b else a.tmod b := by
 have h := Int.tmod_def a b
 unfold modF divF
 have e : b * (a.tdiv b - 1) = b * a.tdiv b - b := by rw [Int.mul_sub, Int.mul_one]
 split
 ·rw [e]; omega
 ·omega
theorem mul_divF_bd {a b : Int} (ha : okI a) (hb : okI b) : -9000000000000000000 ≤ b * divF a b ∧ b * divF a b ≤ 9000000000000000000 := by
 obtain ⟨d1, d2⟩ := divF_bd (b := b) ha
 have h1 : b.natAbs ≤ 2147483648 := by unfold okI at hb; omega
 have h2 : (divF a b).natAbs ≤ 2147483649 := by omega
 have h3 : (b * divF a b).natAbs ≤ 2147483648 * 2147483649 := by
  rw [Int.natAbs_mul]
  exact Nat.mul_le_mul h1 h2
 omega
set_option maxRecDepth 100000 in
theorem h57 (a b : Int) (w : World) (ha : okI a) (hb : okI b) (h0 : b ≠ 0) : Calls Tryz.prog 98 #[.int .i64 a, .int .i64 b] w fun e w' => e = .returned (.int .i64 (modF a b)) ∧ w' = w := by
 have H56 := h56 a b w ha h0
 obtain ⟨m1, m2⟩ := mul_divF_bd ha hb
 have HM : modF a b = a - b * divF a b := rfl
 rw [HM]
 unfold okI at ha
 obtain ⟨a1, a2⟩ := ha
 clear HM hb
 generalize divF a b = q at *
 go_enter Tryz.func98, Tryz.ntmps98
 go_wp2_with fail
 refine H56.mono ?_
 rintro e w1 ⟨rfl, hw⟩
 obtain rfl := hw
 go_wp2_with fail
 go_ret
 exact ⟨rfl, rfl⟩
end Go.Proofs.YtaehhophaaipdaaGreatDoor
