/- What stands behind a token does not change it, where a blank or nothing stands there; blanks and remarks put in ahead of a token change places alone. -/
import Derived.Test.YtampjlafhglceaaDoorQ1
namespace Go.Proofs.YtampjlafhglceaaDoor
open Go.RowKit
theorem runP_cons_t (p : UInt8 → Bool) (c : UInt8) (r : List UInt8) (h : p c = true) : runP p (c :: r) = runP p r + 1 := by unfold runP; rw [List.takeWhile_cons, if_pos h]; rfl
theorem runP_cons_f (p : UInt8 → Bool) (c : UInt8) (r : List UInt8) (h : p c = false) : runP p (c :: r) = 0 := by unfold runP; rw [List.takeWhile_cons, if_neg (by simp [h])]; rfl
/-- A run that ends within a text is the same, whatever stands behind. -/
theorem run_cut (p : UInt8 → Bool) : ∀ (l : List UInt8) (n : Nat) (z : List UInt8), runP p l < n → runP p l < l.length → runP p (l.take n ++ z) = runP p l
  | [], _, _, _, h => by simp at h
  | c :: r, 0, _, h, _ => by omega
  | c :: r, n + 1, z, h, h2 => by
    rw [List.take_succ_cons, List.cons_append]
    cases hc : p c with
    | true =>
      rw [runP_cons_t p c r hc] at h h2
      rw [runP_cons_t p c _ hc, runP_cons_t p c _ hc, run_cut p r n z (by omega) (by simpa using h2)]
    | false => rw [runP_cons_f p c _ hc, runP_cons_f p c _ hc]
/-- A run up to a place, with what does not go on behind it. -/
theorem run_stop (p : UInt8 → Bool) : ∀ (l : List UInt8) (n : Nat) (z : List UInt8), runP p l ≤ n → (∀ c r, z = c :: r → p c = false) → runP p (l.take n ++ z) = runP p l
  | [], _, z, _, hz => by
    rw [List.take_nil, List.nil_append]
    cases z with
    | nil => rfl
    | cons c r => rw [runP_cons_f p c r (hz c r rfl)]; rfl
  | c :: r, 0, z, h, hz => by
    rw [List.take_zero, List.nil_append]
    have h0 : runP p (c :: r) = 0 := by omega
    rw [h0]
    cases z with
    | nil => rfl
    | cons c r => rw [runP_cons_f p c r (hz c r rfl)]
  | c :: r, n + 1, z, h, hz => by
    rw [List.take_succ_cons, List.cons_append]
    cases hc : p c with
    | true =>
      rw [runP_cons_t p c r hc] at h
      rw [runP_cons_t p c _ hc, runP_cons_t p c _ hc, run_stop p r n z (by omega) hz]
    | false => rw [runP_cons_f p c _ hc, runP_cons_f p c _ hc]
theorem run_atX (p : UInt8 → Bool) : ∀ (l : List UInt8), runP p l < l.length → ∃ c r, l.drop (runP p l) = c :: r ∧ p c = false
  | [], h => by simp at h
  | c :: r, h => by
    cases hc : p c with
    | true =>
      rw [runP_cons_t p c r hc] at h ⊢
      obtain ⟨d, q, h1, h2⟩ := run_atX p r (by simpa using h)
      exact ⟨d, q, by rw [List.drop_succ_cons]; exact h1, h2⟩
    | false => rw [runP_cons_f p c r hc]; exact ⟨c, r, rfl, hc⟩
theorem line_no {c : UInt8} (h : lineB c = false) : c = 10 := by
  unfold lineB at h
  simp at h
  have h10 : (10 : UInt8).toNat = 10 := rfl
  exact UInt8.toNat_inj.1 (by omega)
/-- A gap that ends within a text is the same, whatever stands behind. -/
theorem gap_cut : ∀ (m : Nat) (l : List UInt8) (n : Nat) (z : List UInt8), l.length ≤ m → gapL l < n → gapL l < l.length → gapL (l.take n ++ z) = gapL l
  | _, [], _, _, _, _, h => by simp at h
  | 0, c :: r, _, _, h, _, _ => by simp at h
  | _, c :: r, 0, _, _, h, _ => by omega
  | m + 1, c :: r, n + 1, z, hm, h, h2 => by
    have hr : r.length ≤ m := by simpa using hm
    rw [List.take_succ_cons, List.cons_append]
    rw [List.length_cons] at h2
    cases h1 : blankB c with
    | true =>
      rw [gap_blank c r h1] at h h2
      rw [gap_blank c _ h1, gap_blank c _ h1, gap_cut m r n z hr (by omega) (by omega)]
    | false =>
      cases h3 : ((c.toNat : Int) == 37) with
      | true =>
        rw [gap_rem c r h1 h3] at h h2
        have hrl := runP_le lineB r
        by_cases hq : runP lineB r < r.length
        · have hrc := run_cut lineB r n z (by omega) hq
          rw [gap_rem c _ h1 h3, gap_rem c _ h1 h3, hrc, List.drop_append_of_le_length (by rw [List.length_take]; omega), List.drop_take,
            gap_cut m (r.drop (runP lineB r)) (n - runP lineB r) z (by simp; omega) (by omega) (by simp; omega)]
        · exfalso; omega
      | false => rw [gap_stop c _ h1 h3, gap_stop c _ h1 h3]
theorem gap_drop : ∀ (m : Nat) (l : List UInt8), l.length ≤ m → gapL (l.drop (gapL l)) = 0
  | _, [], _ => by simp [gapL, gapN]
  | 0, c :: r, h => by simp at h
  | m + 1, c :: r, hm => by
    have hr : r.length ≤ m := by simpa using hm
    cases h1 : blankB c with
    | true => rw [gap_blank c r h1, Nat.add_comm, List.drop_succ_cons, gap_drop m r hr]
    | false =>
      cases h3 : ((c.toNat : Int) == 37) with
      | true =>
        rw [gap_rem c r h1 h3, show 1 + runP lineB r + gapL (r.drop (runP lineB r)) = (runP lineB r + gapL (r.drop (runP lineB r))) + 1 by omega, List.drop_succ_cons, ← List.drop_drop]
        exact gap_drop m _ (by simp; omega)
      | false => rw [gap_stop c r h1 h3, List.drop_zero, gap_stop c r h1 h3]
theorem gap_ten (z : List UInt8) : gapL (10 :: z) = 1 + gapL z := gap_blank 10 z rfl
/-- What is put in: a blank, a remark, a line's end, a tab. -/
def insL (r : List UInt8) : List UInt8 := 32 :: 37 :: (r ++ [10, 9])
theorem insL_len (r : List UInt8) : (insL r).length = r.length + 4 := by simp [insL]
theorem run_line (r z : List UInt8) (h : ∀ c ∈ r, c ≠ 10) : runP lineB (r ++ 10 :: z) = r.length := by
  induction r with
  | nil => rfl
  | cons c r ih =>
    have hc : lineB c = true := by
      cases h2 : lineB c with
      | true => rfl
      | false => exact absurd (line_no h2) (h c List.mem_cons_self)
    rw [List.cons_append, runP_cons_t lineB c _ hc, ih (fun d hd => h d (List.mem_cons_of_mem _ hd)), List.length_cons]
theorem gap_insL (r z : List UInt8) (h : ∀ c ∈ r, c ≠ 10) : gapL (insL r ++ z) = r.length + 4 + gapL z := by
  have e : insL r ++ z = 32 :: 37 :: (r ++ 10 :: 9 :: z) := by simp [insL]
  have h2 := run_line r (9 :: z) h
  rw [e, gap_blank 32 _ rfl, gap_rem 37 _ rfl rfl, h2, List.drop_left, gap_ten, gap_blank 9 _ rfl]
  omega
theorem gap_ins (r : List UInt8) (h : ∀ c ∈ r, c ≠ 10) : ∀ (m : Nat) (l : List UInt8), l.length ≤ m → gapL (l.take (gapL l) ++ (insL r ++ l.drop (gapL l))) = gapL l + (r.length + 4)
  | _, [], _ => by
    have := gap_insL r [] h
    simpa [gapL, gapN] using this
  | 0, c :: q, hm => by simp at hm
  | m + 1, c :: q, hm => by
    have hr : q.length ≤ m := by simpa using hm
    cases h1 : blankB c with
    | true =>
      rw [gap_blank c q h1, Nat.add_comm 1, List.take_succ_cons, List.drop_succ_cons, List.cons_append, gap_blank c _ h1, gap_ins r h m q hr]
      omega
    | false =>
      cases h3 : ((c.toNat : Int) == 37) with
      | true =>
        have hrl := runP_le lineB q
        rw [gap_rem c q h1 h3]
        by_cases hq : runP lineB q < q.length
        · obtain ⟨d, z, hd, hd2⟩ := run_atX lineB q hq
          have hg1 : 1 ≤ gapL (q.drop (runP lineB q)) := by rw [hd, line_no hd2, gap_ten]; omega
          have ih := gap_ins r h m (q.drop (runP lineB q)) (by simp; omega)
          have hgl := gapL_le (q.drop (runP lineB q))
          rw [List.length_drop] at hgl
          rw [List.drop_drop] at ih
          generalize hg : gapL (q.drop (runP lineB q)) = g at *
          rw [show 1 + runP lineB q + g = (runP lineB q + g) + 1 by omega, List.take_succ_cons, List.drop_succ_cons, List.cons_append, gap_rem c _ h1 h3,
            run_cut lineB q _ _ (by omega) hq, List.drop_append_of_le_length (by rw [List.length_take]; omega), List.drop_take, Nat.add_sub_cancel_left, ih]
          omega
        · have hq2 : runP lineB q = q.length := by omega
          have hall : ∀ c ∈ q, c ≠ 10 := by
            intro c hc h10
            have h4 : (q.takeWhile lineB).length = q.length := hq2
            have h5 : q.takeWhile lineB = q := List.IsPrefix.eq_of_length (List.takeWhile_prefix _) h4
            have h6 := List.all_takeWhile (p := lineB) (l := q)
            rw [h5, List.all_eq_true] at h6
            have := h6 c hc
            rw [h10] at this
            exact absurd this (by decide)
          have hr2 : ∀ c ∈ q ++ 32 :: 37 :: r, c ≠ 10 := by
            intro c hc
            rcases List.mem_append.1 hc with h4 | h4
            · exact hall c h4
            · rcases List.mem_cons.1 h4 with rfl | h5
              · decide
              · rcases List.mem_cons.1 h5 with rfl | h6
                · decide
                · exact h c h6
          rw [hq2, List.drop_length, show gapL ([] : List UInt8) = 0 from rfl, show 1 + q.length + 0 = q.length + 1 by omega, List.take_succ_cons, List.drop_succ_cons, List.take_length, List.drop_length, List.append_nil, List.cons_append, gap_rem c _ h1 h3]
          have e : q ++ insL r = (q ++ 32 :: 37 :: r) ++ 10 :: [9] := by simp [insL]
          rw [e, run_line _ [9] hr2, List.drop_left]
          simp [gapL, gapN, blankB]
          omega
      | false =>
        rw [gap_stop c q h1 h3, List.take_zero, List.drop_zero, List.nil_append, gap_insL r _ h, gap_stop c q h1 h3]
        omega
end Go.Proofs.YtampjlafhglceaaDoor
