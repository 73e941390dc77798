/- The walk over a text: what it yields. -/
import Derived.Test.YtiemngihndbobaaDoorLxL5
import Derived.RangeFuncNested
import Derived.RangeFuncBound
import Derived.RangeFuncCalls
import Derived.RangeFuncLeaves
import Derived.Shelf.Abstract
import Derived.Shelf.RegionOpen
import Derived.OwnWalkIn
import Derived.TacticsInMore
import Derived.LoopNIn
import Derived.LoopIn
import Derived.Sort.EveryDepth
namespace Go.Proofs.YtiemngihndbobaaDoor.Lx
open Go.RowKit Go.Shelf
attribute [local go_sem] Oper.semAt_some
abbrev Fd := T × Int × Int
def Fd.val (x : Fd) : Value := .agg #[.int .u8 x.1.k, .string x.1.t, .int .i64 x.1.n, .int .i64 x.1.node, .int .i64 x.1.at_, .int .i64 x.2.1, .int .i64 x.2.2]
/-- Is it the last one that is yielded? -/
def lastB (x : Fd) : Bool := (x.2.2 != 0) || (x.1.k == 0)
def walkF (s : ByteArray) : Nat → Nat → List Fd
  | 0, _ => []
  | f + 1, k => if lastB (nextN s k) then [nextN s k] else nextN s k :: walkF s f (nextN s k).2.1.toNat
def walkL (s : ByteArray) : List Fd := walkF s (s.size + 1) 0
/-- A token that is not the End has a text, and its place behind it lies farther on. -/
theorem run_pos (p : UInt8 → Bool) (s : ByteArray) (h : 0 < s.size) (hp : p s[0] = true) : 1 ≤ runP p s.data.toList := by
  have e := drop_consB s 0 h
  rw [List.drop_zero] at e
  unfold runP
  rw [e, List.takeWhile_cons, if_pos hp]; simp
theorem word_pos (s : ByteArray) (k : Int) (h : 0 < s.size) (hp : innerB s[0] = true) (he : (wordT s k).2 = 0) : 1 ≤ (wordT s k).1.t.size := by
  have h1 := run_pos innerB s h hp
  have h2 := runP_le innerB s.data.toList
  rw [len_list] at h2
  unfold wordT at *
  split at he
  · simp at he
  · rename_i h3
    rw [if_neg h3]
    show 1 ≤ (s.extract 0 _).size
    rw [ByteArray.size_extract]; omega
theorem sign_pos (k : Nat) (hk : k < 18) : 1 ≤ (signS k).size := by
  have h : (signS k).size = (signs.getD k []).length := by rw [← len_list, signS_data]
  rw [h]
  rcases below18 k hk with rfl | rfl | rfl | rfl | rfl | rfl | rfl | rfl | rfl | rfl | rfl | rfl | rfl | rfl | rfl | rfl | rfl | rfl <;> simp [signs]
theorem first_eq (s : ByteArray) (h : 0 < s.size) : firstT s = if (((s[0].toNat : Int) == 95) || capitalB s[0]) then wordT s 2 else if smallB s[0] then wordT s 1 else if digitB s[0] then numT s else if (s[0].toNat : Int) == 63 then globT s else signT s := by
  unfold firstT
  rw [byteAt_get s 0 h, headD_of s h, if_neg]
  intro h2
  have h3 : s.data.toList.length = 0 := by rw [h2]; rfl
  rw [len_list] at h3; omega
theorem glob_pos (s : ByteArray) (hpos : 0 < s.size) (he : (globT s).2 = 0) : 1 ≤ (globT s).1.t.size := by
  unfold globT at *
  split at he
  · rename_i h5
    rw [if_pos h5]
    split at he
    · simp at he
    · rename_i h6
      rw [if_neg h6]
      split at he
      · rename_i h7
        rw [if_pos h7]
        show 1 ≤ (s.extract 0 _).size
        rw [ByteArray.size_extract]; omega
      · rename_i h7
        exact absurd he h7
  · simp at he
theorem sgn_pos (s : ByteArray) (he : (signT s).2 = 0) : 1 ≤ (signT s).1.t.size := by
  unfold signT at *
  split at he
  · rename_i k hk2
    refine sign_pos k ?_
    unfold signK at hk2
    have := List.mem_of_find?_eq_some hk2
    simpa using this
  · simp at he
theorem num_pos (s : ByteArray) (hpos : 0 < s.size) (h3 : digitB s[0] = true) : 1 ≤ (numT s).1.t.size := by
  have h4 := run_pos digitB s hpos h3
  have h5 := runP_le digitB s.data.toList
  rw [len_list] at h5
  show 1 ≤ (s.extract 0 _).size
  rw [ByteArray.size_extract]; omega
theorem first_pos (s : ByteArray) (he : (firstT s).2 = 0) (hk : (firstT s).1.k ≠ 0) : 1 ≤ (firstT s).1.t.size := by
  rcases Nat.eq_zero_or_pos s.size with h | hpos
  · exfalso
    unfold firstT at hk; rw [if_pos (List.eq_nil_of_length_eq_zero (by rw [len_list]; exact h))] at hk; exact absurd rfl hk
  · clear hk
    rw [first_eq s hpos] at he ⊢
    by_cases h1 : (((s[0].toNat : Int) == 95) || capitalB s[0]) = true
    · rw [if_pos h1] at he ⊢
      refine word_pos s 2 hpos ?_ he
      unfold innerB
      revert h1
      cases ((s[0].toNat : Int) == 95) <;> cases capitalB s[0] <;> simp
    · rw [if_neg h1] at he ⊢
      by_cases h2 : smallB s[0] = true
      · rw [if_pos h2] at he ⊢
        exact word_pos s 1 hpos (by unfold innerB; rw [h2]; rfl) he
      · rw [if_neg h2] at he ⊢
        by_cases h3 : digitB s[0] = true
        · rw [if_pos h3] at he ⊢
          exact num_pos s hpos h3
        · rw [if_neg h3] at he ⊢
          by_cases h4 : ((s[0].toNat : Int) == 63) = true
          · rw [if_pos h4] at he ⊢
            exact glob_pos s hpos he
          · rw [if_neg h4] at he ⊢
            exact sgn_pos s he
theorem next_on (s : ByteArray) (k : Nat) (hk : k ≤ s.size) (h : lastB (nextN s k) = false) : ∃ q : Nat, (nextN s k).2.1 = q ∧ k < q ∧ q ≤ s.size := by
  have hst := startN_le s k hk
  have hge : k ≤ startN s k := by unfold startN; omega
  unfold lastB at h
  simp only [Bool.or_eq_false_iff, bne_eq_false_iff_eq, beq_eq_false_iff_ne] at h
  obtain ⟨h1, h2⟩ := h
  unfold nextN at *
  split at h1
  · rename_i he
    rw [if_pos he] at *
    have h3 := first_pos _ he h2
    have h4 := first_len (s.extract (startN s k) s.size)
    rw [ByteArray.size_extract] at h4
    exact ⟨_, rfl, by omega, by omega⟩
  · rename_i he
    exact absurd h1 he
end Go.Proofs.YtiemngihndbobaaDoor.Lx
