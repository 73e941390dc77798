/- Contracts of a number among so many, of Split of a share. -/
import Derived.Test.YtopapmnoepnpcaaDoorDA
import Derived.Test.YtopapmnoepnpcaaDoorCL
import Derived.Test.YtopapmnoepnpcaaDoorCH
namespace Go.Proofs.YtopapmnoepnpcaaDoor
open Go.RowKit
attribute [local go_sem ↓] Go.wp_at_zero Go.wp_at_succ
/-- What a number is among so many. -/
def whF (x n : Int) : Int := if Int.tmod x n < 0 then Int.tmod x n + n else Int.tmod x n
theorem whF_bd (x n : Int) (h : 0 < n) : 0 ≤ whF x n ∧ whF x n < n := by
  have h1 := Int.tmod_lt_of_pos x h
  have h2 := Int.lt_tmod_of_pos x h
  unfold whF
  split <;> omega
set_option maxRecDepth 100000 in
theorem d15 (x n : Int) (w : World) (h0 : 0 < n) (h1 : n ≤ 1000) : Calls Tryd.prog 15 #[.int .i64 x, .int .i64 n] w fun e w' => e = .returned (.int .i64 (whF x n)) ∧ w' = w := by
  have a1 := Int.tmod_lt_of_pos x h0
  have a2 := Int.lt_tmod_of_pos x h0
  have hn0 : ¬ n = 0 := by omega
  by_cases hT : Int.tmod x n < 0
  · have HE : Hid (whF x n = Int.tmod x n + n) := by show whF x n = _; unfold whF; rw [if_pos hT]
    generalize whF x n = R at *
    go_enter Tryd.func15, Tryd.ntmps15
    go_wp2_with fail
    go_ret
    exact ⟨by rw [HE.out]; rfl, rfl⟩
  · have HE : Hid (whF x n = Int.tmod x n) := by show whF x n = _; unfold whF; rw [if_neg hT]
    generalize whF x n = R at *
    go_enter Tryd.func15, Tryd.ntmps15
    go_wp2_with fail
    go_ret
    exact ⟨by rw [HE.out]; rfl, rfl⟩
/-- Two halves, in memory of their own. -/
def HalE (e : Ending) (w w' : World) (y : Amt) : Prop :=
  ∃ a1 n1 c1 a2 n2 c2, e = .returned (.tuple #[.agg #[.int .i64 y.1, .slice a1 n1 c1], .agg #[.int .i64 y.1, .slice a2 n2 c2], .int .i64 0]) ∧ Sl w' a1 n1 c1 y.2 ∧ Sl w' a2 n2 c2 y.2 ∧ Below w.heap.size w w' ∧ (∀ g, g < w.heap.size → blk a1 ≠ some g ∧ blk a2 ≠ some g) ∧ (∀ b, blk a1 = some b → b < w'.heap.size) ∧ (∀ b, blk a2 = some b → b < w'.heap.size)
theorem sl_lt {w : World} {a : Option Addr} {n c : Nat} {B : List Int} (h : Sl w a n c B) (hB : B ≠ []) : ∀ b, blk a = some b → b < w.heap.size := fun b hb => by
  rcases h.i.mem with e | ⟨g, o, e, hl, _⟩
  · have := h.i.len
    rw [e] at this
    exact absurd (List.length_eq_zero_iff.1 this) hB
  · rw [e] at hb
    have : g = b := by simpa [blk] using hb
    omega
theorem d6s (v : Value) (x : Amt) (k : Int) (w : World) (h : Am w v x.1 x.2) (hk : k ≤ 1000) (hs : share k x) : Calls Tryd.prog 6 #[v] w fun e w' => HalE e w w' (half x) := by
  obtain ⟨a, n, c, rfl, hS⟩ := h.val
  have hn := hS.i.len
  have fin : ∀ y : Amt, y.2 ≠ [] → rightB y.1 y.2 = true → zeroB x.1 x.2.length = false → (∀ V, Below w.heap.size w V → Calls Tryd.prog 16 #[.agg #[.int .i64 x.1, .slice a n c]] V fun e w' => TwoE e V w' (y, y)) → Calls Tryd.prog 6 #[.agg #[.int .i64 x.1, .slice a n c]] w fun e w' => HalE e w w' y := fun y hy hr hz hp => by
    refine (d6 _ x.1 x.2 (y, y) w h (share_right hk hs) hz hr hp).mono ?_
    rintro e w' ⟨a1, n1, c1, a2, n2, c2, rfl, s1, s2, b1, f1⟩
    exact ⟨a1, n1, c1, a2, n2, c2, rfl, s1, s2, b1, f1, sl_lt s1 hy, sl_lt s2 hy⟩
  rcases hs with rfl | ⟨b, rfl, h1, h2⟩
  · have h0 : n = 0 := by simpa using hn.symm
    subst h0
    exact fin (0, [1]) (by simp) (by decide) (by decide) fun V _ => d16_one a c V
  · have h0 : n = 1 := by simpa using hn.symm
    subst h0
    refine fin (0, [b + 1]) (by simp) (by simp [rightB, riseB]; omega) (by simp [zeroB]) fun V hV => d16_bit b a c V (hS.i.below hV) (by omega) (by omega)
end Go.Proofs.YtopapmnoepnpcaaDoor
