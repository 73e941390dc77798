/- Where tokens stand: what LexPlaces wants, in plain lists. -/
import Derived.Test.YtampjlafhglceaaDoorQ5
namespace Go.Proofs.YtampjlafhglceaaDoor
open Go.RowKit
theorem run_more (p : UInt8 → Bool) (g : Nat) : ∀ r : List UInt8, runP p (r.take (runP p r + g)) = runP p r
  | [] => by simp [runP]
  | c :: r => by
    by_cases h : p c = true
    · have e : runP p (c :: r) = runP p r + 1 := by unfold runP; rw [List.takeWhile_cons, if_pos h]; rfl
      have e2 : runP p (c :: r) + g = (runP p r + g) + 1 := by omega
      have ih := run_more p g r
      rw [e2, List.take_succ_cons, e, ← ih]
      unfold runP; rw [List.takeWhile_cons, if_pos h]
      simp only [List.length_cons]
      rw [show (List.takeWhile p (List.take ((List.takeWhile p (List.take ((List.takeWhile p r).length + g) r)).length + g) r)).length = (List.takeWhile p (List.take ((List.takeWhile p r).length + g) r)).length by have := ih; unfold runP at this; rw [this, this]]
    · have e : runP p (c :: r) = 0 := by unfold runP; rw [List.takeWhile_cons, if_neg h]; rfl
      rw [e]
      cases g with
      | zero => rfl
      | succ g => rw [Nat.zero_add, List.take_succ_cons]; unfold runP; rw [List.takeWhile_cons, if_neg h]; rfl
/-- The gap ahead of a token is a gap by itself. -/
theorem gap_take : ∀ (n : Nat) (l : List UInt8), l.length ≤ n → gapL (l.take (gapL l)) = gapL l
  | _, [], _ => by simp [gapL, gapN]
  | 0, c :: r, h => by simp at h
  | n + 1, c :: r, h => by
    have hr : r.length ≤ n := by simpa using h
    cases h1 : blankB c with
    | true => rw [gap_blank c r h1, Nat.add_comm 1, List.take_succ_cons, gap_blank c _ h1, gap_take n r hr, Nat.add_comm]
    | false =>
      cases h2 : ((c.toNat : Int) == 37) with
      | true =>
        rw [gap_rem c r h1 h2]
        have ih := gap_take n (r.drop (runP lineB r)) (by simp; omega)
        generalize hg : gapL (r.drop (runP lineB r)) = g at *
        have e2 : 1 + runP lineB r + g = (runP lineB r + g) + 1 := by omega
        rw [e2, List.take_succ_cons, gap_rem c _ h1 h2, run_more, List.drop_take, Nat.add_sub_cancel_left, ih]
        omega
      | false => rw [gap_stop c r h1 h2]; simp [gapL, gapN]
theorem ext_pref (s : ByteArray) (n : Nat) : (s.extract 0 n).data.toList <+: s.data.toList := by
  rw [ext_list, List.drop_zero]; exact List.take_prefix _ _
/-- A token's text begins the text. -/
theorem first_pref (s : ByteArray) : (firstT s).1.t.data.toList <+: s.data.toList := by
  have hz : zeroT.t.data.toList <+: s.data.toList := List.nil_prefix
  have hw : ∀ k, (wordT s k).1.t.data.toList <+: s.data.toList := fun k => by
    unfold wordT; split
    · exact hz
    · exact ext_pref s _
  unfold firstT
  split
  · exact hz
  · split
    · exact hw 2
    · split
      · exact hw 1
      · split
        · exact ext_pref s _
        · split
          · unfold globT
            split
            · split
              · exact hz
              · split
                · exact ext_pref s _
                · exact hz
            · exact hz
          · unfold signT
            split
            · rename_i k hk
              unfold signK at hk
              have h := List.find?_some hk
              unfold signAt prefB at h
              show (signS k).data.toList <+: _
              rw [signS_data]; exact of_decide_eq_true h
            · exact hz
/-- The End is told at the end alone. -/
theorem first_end (s : ByteArray) (he : (firstT s).2 = 0) (hk : (firstT s).1.k = 0) : s.size = 0 := by
  have hw : ∀ k : Int, k ≠ 0 → (wordT s k).2 = 0 → (wordT s k).1.k = 0 → False := fun k hk0 h1 h2 => by
    unfold wordT at h1 h2
    split at h1
    · simp at h1
    · rename_i h3; rw [if_neg h3] at h2; exact hk0 h2
  unfold firstT at he hk
  split at he
  · rename_i h; rw [← len_list, h]; rfl
  · rename_i h; rw [if_neg h] at hk
    exfalso
    split at he
    · rename_i h1; rw [if_pos h1] at hk; exact hw 2 (by decide) he hk
    · rename_i h1; rw [if_neg h1] at hk
      split at he
      · rename_i h2; rw [if_pos h2] at hk; exact hw 1 (by decide) he hk
      · rename_i h2; rw [if_neg h2] at hk
        split at he
        · rename_i h3; rw [if_pos h3] at hk; exact absurd (show (3 : Int) = 0 from hk) (by decide)
        · rename_i h3; rw [if_neg h3] at hk
          split at he
          · rename_i h4; rw [if_pos h4] at hk
            unfold globT at he hk
            split at he
            · rename_i h5; rw [if_pos h5] at hk
              split at he
              · simp at he
              · rename_i h6; rw [if_neg h6] at hk
                split at he
                · rename_i h7; rw [if_pos h7] at hk; exact absurd (show (4 : Int) = 0 from hk) (by decide)
                · rename_i h7; exact h7 he
            · simp at he
          · rename_i h4; rw [if_neg h4] at hk
            unfold signT at he hk
            split at he
            · rename_i q hq; rw [hq] at hk; exact absurd (show (5 : Int) = 0 from hk) (by decide)
            · simp at he
/-- Where a token stands. -/
theorem next_place (s : ByteArray) (k : Nat) (hk : k ≤ s.size) (h : okB (nextN s k) = true) :
    (nextN s k).1.at_ = (startN s k : Int) ∧ (nextN s k).2.1 = ((startN s k + (nextN s k).1.t.size : Nat) : Int) ∧ k ≤ startN s k ∧ startN s k + (nextN s k).1.t.size ≤ s.size ∧ s.extract (startN s k) (startN s k + (nextN s k).1.t.size) = (nextN s k).1.t ∧ ((nextN s k).1.k = 0 → startN s k = s.size ∧ (nextN s k).1.t.size = 0) := by
  have hst := startN_le s k hk
  have hge : k ≤ startN s k := by unfold startN; omega
  have h4 := first_len (s.extract (startN s k) s.size)
  rw [ByteArray.size_extract] at h4
  have h5 := first_pref (s.extract (startN s k) s.size)
  have h6 := first_end (s.extract (startN s k) s.size)
  rw [ByteArray.size_extract] at h6
  unfold okB at h
  unfold nextN at *
  by_cases he : (firstT (s.extract (startN s k) s.size)).2 = 0
  · rw [if_pos he] at *
    refine ⟨rfl, rfl, hge, by show startN s k + (firstT _).1.t.size ≤ _; omega, ?_, fun h0 => ?_⟩
    · show s.extract (startN s k) (startN s k + (firstT (s.extract (startN s k) s.size)).1.t.size) = (firstT (s.extract (startN s k) s.size)).1.t
      apply byte_ext
      rw [drop_take_ext]
      rw [ext_list, take_all] at h5
      rw [← len_list]
      exact (List.prefix_iff_eq_take.1 h5).symm
    · have := h6 he h0
      refine ⟨by omega, ?_⟩
      show (firstT _).1.t.size = 0
      omega
  · rw [if_neg he] at h
    exact absurd (by simpa using h) he
/-- What lies between two tokens is told as nothing but the End. -/
theorem between (s : ByteArray) (k : Nat) (hk : k ≤ s.size) : nextN (s.extract k (startN s k)) 0 = ({ zeroT with at_ := ((startN s k - k : Nat) : Int) }, ((startN s k - k : Nat) : Int), 0) := by
  have hst := startN_le s k hk
  have hge : k ≤ startN s k := by unfold startN; omega
  have hsz : (s.extract k (startN s k)).size = startN s k - k := by rw [ByteArray.size_extract]; omega
  have hl : (s.extract k (startN s k)).data.toList = (s.data.toList.drop k).take (gapL (s.data.toList.drop k)) := by
    unfold startN; rw [drop_take_ext]
  have h0 : startN (s.extract k (startN s k)) 0 = startN s k - k := by
    rw [startN, List.drop_zero, hl, gap_take _ _ (Nat.le_refl _)]
    unfold startN; omega
  have he : firstT ((s.extract k (startN s k)).extract (startN (s.extract k (startN s k)) 0) (s.extract k (startN s k)).size) = (zeroT, 0) := by
    unfold firstT
    rw [if_pos]
    rw [← List.length_eq_zero_iff, len_list, ByteArray.size_extract, h0, hsz]; omega
  unfold nextN
  rw [he, if_pos rfl, h0]
  rfl
end Go.Proofs.YtampjlafhglceaaDoor
