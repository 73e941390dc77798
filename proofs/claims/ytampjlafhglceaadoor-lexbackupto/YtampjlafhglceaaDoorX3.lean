/- Blanks and a remark put in ahead of a token: the walk. -/
import Derived.Test.YtampjlafhglceaaDoorX2
import Derived.Test.YtampjlafhglceaaDoorQ7
namespace Go.Proofs.YtampjlafhglceaaDoor
open Go.RowKit
def shiftF (d : Nat) (x : Fd) : Fd := ({ x.1 with at_ := x.1.at_ + d }, x.2.1 + d, x.2.2)
theorem shift_last (d : Nat) (x : Fd) : lastB (shiftF d x) = lastB x := rfl
theorem ext_end (s : ByteArray) (k : Nat) : (s.extract k s.size).data.toList = s.data.toList.drop k := by rw [ext_list, take_all]
/-- A token by the text from its place on. -/
theorem next_by (s s' : ByteArray) (k k' : Nat) (d : Nat) (hst : startN s' k' = startN s k + d) (hx : s'.data.toList.drop (startN s k + d) = s.data.toList.drop (startN s k)) (hok : okB (nextN s k) = true) : nextN s' k' = shiftF d (nextN s k) := by
  have e : s'.extract (startN s' k') s'.size = s.extract (startN s k) s.size := by
    apply byte_ext
    rw [ext_end, ext_end, hst, hx]
  unfold okB at hok
  unfold nextN at *
  rw [e]
  by_cases he : (firstT (s.extract (startN s k) s.size)).2 = 0
  · rw [if_pos he, if_pos he, hst]
    unfold shiftF
    simp only [Prod.mk.injEq, T.mk.injEq, true_and, and_true]
    refine ⟨by omega, by omega⟩
  · rw [if_neg he] at hok
    exact absurd (by simpa using hok) he
theorem next_shift (s s' : ByteArray) (k d : Nat) (hd : s'.data.toList.drop (k + d) = s.data.toList.drop k) (hok : okB (nextN s k) = true) : nextN s' (k + d) = shiftF d (nextN s k) := by
  have hst : startN s' (k + d) = startN s k + d := by unfold startN; rw [hd]; omega
  refine next_by s s' k (k + d) d hst ?_ hok
  unfold startN
  rw [show k + gapL (s.data.toList.drop k) + d = (k + d) + gapL (s.data.toList.drop k) by omega, ← List.drop_drop, hd, List.drop_drop]
theorem walk_shift (s s' : ByteArray) (d : Nat) : ∀ f k, k ≤ s.size → s'.data.toList.drop (k + d) = s.data.toList.drop k → (∀ y ∈ walkF s f k, okB y = true) → walkF s' f (k + d) = (walkF s f k).map (shiftF d)
  | 0, _, _, _, _ => rfl
  | f + 1, k, hk, hd, hok => by
    have h0 : okB (nextN s k) = true := by
      obtain ⟨r, hr⟩ := walk_cons s f k
      exact hok _ (by rw [hr]; exact List.mem_cons_self)
    have hn := next_shift s s' k d hd h0
    cases hl : lastB (nextN s k) with
    | true =>
      rw [walk_last s f k hl, walk_last s' f (k + d) (by rw [hn, shift_last]; exact hl), hn]; rfl
    | false =>
      obtain ⟨q, hq, h1, h2⟩ := next_on s k hk hl
      rw [walk_more s f k q hl hq] at hok ⊢
      rw [walk_more s' f (k + d) (q + d) (by rw [hn, shift_last]; exact hl) (by rw [hn]; unfold shiftF; rw [hq]; simp), hn,
        walk_shift s s' d f q h2 ?_ (fun y hy => hok y (List.mem_cons_of_mem _ hy))]
      · rfl
      · obtain ⟨m, rfl⟩ : ∃ m, q = k + m := ⟨q - k, by omega⟩
        rw [show k + m + d = (k + d) + m by omega, ← List.drop_drop, hd, List.drop_drop]
theorem walk_fuel (s : ByteArray) : ∀ f g k, k ≤ s.size → s.size - k < f → s.size - k < g → walkF s f k = walkF s g k
  | 0, _, _, _, h, _ => by omega
  | _ + 1, 0, _, _, _, h => by omega
  | f + 1, g + 1, k, hk, h1, h2 => by
    cases hl : lastB (nextN s k) with
    | true => rw [walk_last s f k hl, walk_last s g k hl]
    | false =>
      obtain ⟨q, hq, h3, h4⟩ := next_on s k hk hl
      rw [walk_more s f k q hl hq, walk_more s g k q hl hq, walk_fuel s f g q h4 (by omega) (by omega)]
/-- Tokens of a walk stand at its place or behind it. -/
theorem walk_ge (s : ByteArray) : ∀ f k, k ≤ s.size → (∀ y ∈ walkF s f k, okB y = true) → ∀ y ∈ walkF s f k, (k : Int) ≤ y.1.at_ ∧ y.1.at_ ≤ s.size
  | 0, _, _, _, y, hy => by simp [walkF] at hy
  | f + 1, k, hk, hok, y, hy => by
    have h0 : okB (nextN s k) = true := by
      obtain ⟨r, hr⟩ := walk_cons s f k
      exact hok _ (by rw [hr]; exact List.mem_cons_self)
    obtain ⟨p1, p2, p3, p4, _, _⟩ := next_place s k hk h0
    cases hl : lastB (nextN s k) with
    | true =>
      rw [walk_last s f k hl] at hy
      rw [List.mem_singleton.1 hy, p1]
      omega
    | false =>
      obtain ⟨q, hq, h3, h4⟩ := next_on s k hk hl
      rw [walk_more s f k q hl hq] at hy hok
      rcases List.mem_cons.1 hy with rfl | hy
      · rw [p1]; omega
      · have := walk_ge s f q h4 (fun y hy => hok y (List.mem_cons_of_mem _ hy)) y hy
        omega
theorem ins_shift (s s' : ByteArray) (a d : Nat) (r : List UInt8) (ha : a ≤ s.size) (hr : r.length + 4 = d) (hs' : s'.data.toList = s.data.toList.take a ++ (insL r ++ s.data.toList.drop a)) (k : Nat) (hk : a ≤ k) : s'.data.toList.drop (k + d) = s.data.toList.drop k := by
  have hl := len_list s
  have h1 : (s.data.toList.take a).length = a := by rw [List.length_take]; omega
  rw [hs', List.drop_append, h1, List.drop_eq_nil_of_le (by omega), List.nil_append, List.drop_append, insL_len, List.drop_eq_nil_of_le (by rw [insL_len]; omega), List.nil_append, List.drop_drop]
  congr 1; omega
theorem walk_ins (s s' : ByteArray) (a d : Nat) (r : List UInt8) (hr10 : ∀ c ∈ r, c ≠ 10) (ha : a ≤ s.size) (hr : r.length + 4 = d) (hs' : s'.data.toList = s.data.toList.take a ++ (insL r ++ s.data.toList.drop a)) :
    ∀ (i f k : Nat), k ≤ s.size → s.size - k < f → (∀ y ∈ walkF s f k, okB y = true) → (h : i < (walkF s f k).length) → (walkF s f k)[i].1.at_ = (a : Int) → walkF s' f k = (walkF s f k).take i ++ ((walkF s f k).drop i).map (shiftF d)
  | _, 0, _, _, h, _, _, _ => by omega
  | 0, f + 1, k, hk, hf, hok, hi, hat => by
    have h0 : okB (nextN s k) = true := by
      obtain ⟨q, hq⟩ := walk_cons s f k
      exact hok _ (by rw [hq]; exact List.mem_cons_self)
    obtain ⟨p1, p2, p3, p4, _, _⟩ := next_place s k hk h0
    have hat2 : startN s k = a := by
      have e : (walkF s (f + 1) k)[0]? = some (nextN s k) := by obtain ⟨q, hq⟩ := walk_cons s f k; rw [hq]; rfl
      rw [List.getElem?_eq_getElem hi] at e
      rw [Option.some.inj e, p1] at hat
      omega
    have hll := len_list s
    have hdk : s'.data.toList.drop k = (s.data.toList.drop k).take (gapL (s.data.toList.drop k)) ++ (insL r ++ (s.data.toList.drop k).drop (gapL (s.data.toList.drop k))) := by
      have hg : k + gapL (s.data.toList.drop k) = a := hat2
      rw [hs', List.drop_append_of_le_length (by rw [List.length_take]; omega), List.drop_take, List.drop_drop, hg, show a - k = gapL (s.data.toList.drop k) by omega]
    have hst : startN s' k = startN s k + d := by
      have := gap_ins r hr10 _ (s.data.toList.drop k) (Nat.le_refl _)
      unfold startN
      rw [hdk, this]; omega
    have hn : nextN s' k = shiftF d (nextN s k) := next_by s s' k k d hst (ins_shift s s' a d r ha hr hs' _ (by omega)) h0
    rw [List.take_zero, List.drop_zero, List.nil_append]
    cases hl : lastB (nextN s k) with
    | true => rw [walk_last s f k hl, walk_last s' f k (by rw [hn, shift_last]; exact hl), hn]; rfl
    | false =>
      obtain ⟨q, hq, h1, h2⟩ := next_on s k hk hl
      have hqa : a ≤ q := by rw [p2] at hq; omega
      rw [walk_more s f k q hl hq] at hok ⊢
      rw [walk_more s' f k (q + d) (by rw [hn, shift_last]; exact hl) (by rw [hn]; unfold shiftF; rw [hq]; simp), hn,
        walk_shift s s' d f q h2 (ins_shift s s' a d r ha hr hs' _ hqa) (fun y hy => hok y (List.mem_cons_of_mem _ hy))]
      rfl
  | i + 1, f + 1, k, hk, hf, hok, hi, hat => by
    have h0 : okB (nextN s k) = true := by
      obtain ⟨q, hq⟩ := walk_cons s f k
      exact hok _ (by rw [hq]; exact List.mem_cons_self)
    obtain ⟨p1, p2, p3, p4, _, _⟩ := next_place s k hk h0
    have hll := len_list s
    cases hl : lastB (nextN s k) with
    | true => rw [walk_last s f k hl] at hi; simp at hi
    | false =>
      obtain ⟨q, hq, h1, h2⟩ := next_on s k hk hl
      rw [walk_more s f k q hl hq] at hok
      have hat2 : ∃ hi2 : i < (walkF s f q).length, (walkF s f q)[i].1.at_ = (a : Int) := by
        have hw := walk_more s f k q hl hq
        have hi2 : i < (walkF s f q).length := by rw [hw] at hi; simpa using hi
        refine ⟨hi2, ?_⟩
        rw [← hat]
        have : (walkF s (f + 1) k)[i + 1]? = (walkF s f q)[i]? := by rw [hw]; rfl
        rw [List.getElem?_eq_getElem hi, List.getElem?_eq_getElem hi2] at this
        rw [Option.some.inj this]
      obtain ⟨hi2, hat2⟩ := hat2
      have hok2 : ∀ y ∈ walkF s f q, okB y = true := fun y hy => hok y (List.mem_cons_of_mem _ hy)
      have hqa : q ≤ a := by
        have := walk_ge s f q h2 hok2 _ (List.getElem_mem hi2)
        rw [hat2] at this; omega
      have hqe : q = startN s k + (nextN s k).1.t.size := by rw [p2] at hq; omega
      have hlk : (nextN s k).1.k ≠ 0 := by
        intro h; unfold lastB at hl; simp [h] at hl
      have hnn := h0
      unfold okB at hnn
      have hT : (firstT (s.extract (startN s k) s.size)).2 = 0 := by
        unfold nextN at hnn
        by_cases he : (firstT (s.extract (startN s k) s.size)).2 = 0
        · exact he
        · rw [if_neg he] at hnn; simpa using hnn
      have hN : nextN s k = ({ (firstT (s.extract (startN s k) s.size)).1 with at_ := (startN s k : Int) }, ((startN s k + (firstT (s.extract (startN s k) s.size)).1.t.size : Nat) : Int), 0) := by
        unfold nextN; rw [if_pos hT]
      have ht : (nextN s k).1.t = (firstT (s.extract (startN s k) s.size)).1.t := by rw [hN]
      have hkk : (nextN s k).1.k = (firstT (s.extract (startN s k) s.size)).1.k := by rw [hN]
      have htp := first_pos _ hT (by rw [← hkk]; exact hlk)
      rw [← ht] at htp
      have hdk : s'.data.toList.drop k = (s.data.toList.drop k).take (a - k) ++ (insL r ++ s.data.toList.drop a) := by
        rw [hs', List.drop_append_of_le_length (by rw [List.length_take]; omega), List.drop_take]
      have hst : startN s' k = startN s k := by
        unfold startN
        have hgd : startN s k = k + gapL (s.data.toList.drop k) := rfl
        rw [hdk, gap_cut _ _ (a - k) _ (Nat.le_refl _) (by omega) (by rw [List.length_drop]; omega)]
      have hds : (s'.extract (startN s k) s'.size).data.toList = (s.extract (startN s k) s.size).data.toList.take (a - startN s k) ++ (insL r ++ s.data.toList.drop a) := by
        rw [ext_end, ext_end, hs', List.drop_append_of_le_length (by rw [List.length_take]; omega), List.drop_take]
      have hfc : firstT (s'.extract (startN s k) s'.size) = firstT (s.extract (startN s k) s.size) := by
        refine first_cut hds ?_ hT (by rw [← hkk]; exact hlk) (by rw [← ht]; omega)
        intro c u hcu
        simp [insL] at hcu
        exact hcu.1.symm
      have hn : nextN s' k = nextN s k := by
        unfold nextN
        rw [hst, hfc]
      rw [walk_more s f k q hl hq, walk_more s' f k q (by rw [hn]; exact hl) (by rw [hn]; exact hq), hn, List.take_succ_cons, List.drop_succ_cons, List.cons_append,
        walk_ins s s' a d r hr10 ha hr hs' i f q h2 (by omega) hok2 hi2 hat2]
end Go.Proofs.YtampjlafhglceaaDoor
