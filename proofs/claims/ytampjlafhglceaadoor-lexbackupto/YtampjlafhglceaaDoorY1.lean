/- Tokens joined by blanks are these tokens again, in plain lists. -/
import Derived.Test.YtampjlafhglceaaDoorX3
namespace Go.Proofs.YtampjlafhglceaaDoor
open Go.RowKit
/-- A token that is told first of some text which begins with it. -/
def TokOK (t : T) : Prop := t.k ≠ 0 ∧ ∃ x : ByteArray, (firstT x).2 = 0 ∧ gapL x.data.toList = 0 ∧ (firstT x).1.k = t.k ∧ (firstT x).1.t = t.t ∧ (firstT x).1.n = t.n ∧ (firstT x).1.node = t.node
def tailL : List (List UInt8) → List UInt8
  | [] => []
  | t :: r => 32 :: (t ++ tailL r)
def joinL : List (List UInt8) → List UInt8
  | [] => []
  | t :: r => t ++ tailL r
theorem tail_blank (l : List (List UInt8)) : blankAhead (tailL l) := by
  cases l with
  | nil => intro c r h; cases h
  | cons t r => intro c q h; simp only [tailL, List.cons.injEq] at h; exact h.1.symm
theorem gap_head (c : UInt8) (r q : List UInt8) (h : gapL (c :: r) = 0) : gapL (c :: q) = 0 := by
  cases h1 : blankB c with
  | true => rw [gap_blank c r h1] at h; omega
  | false =>
    cases h3 : ((c.toNat : Int) == 37) with
    | true => rw [gap_rem c r h1 h3] at h; omega
    | false => exact gap_stop c q h1 h3
/-- One step over what is joined. -/
theorem step_join (s : ByteArray) (k g : Nat) (t : T) (z : List UInt8) (ht : TokOK t) (hz : blankAhead z) (hg : g ≤ 1) (hd : s.data.toList.drop k = List.replicate g 32 ++ (t.t.data.toList ++ z)) :
    nextN s k = ({ t with at_ := ((k + g : Nat) : Int) }, ((k + g + t.t.size : Nat) : Int), 0) ∧ 1 ≤ t.t.size := by
  obtain ⟨hk, x, h1, h2, h3, h4, h5, h6⟩ := ht
  have hp := first_pos x h1 (by rw [h3]; exact hk)
  rw [h4] at hp
  have hpre := first_pref x
  rw [h4] at hpre
  have hgz : gapL (t.t.data.toList ++ z) = 0 := by
    obtain ⟨c, r, hc⟩ : ∃ c r, t.t.data.toList = c :: r := by
      cases hq : t.t.data.toList with
      | nil => have := len_list t.t; rw [hq] at this; simp at this; omega
      | cons c r => exact ⟨c, r, rfl⟩
    obtain ⟨u, hu⟩ := hpre
    rw [hc] at hu
    rw [← hu] at h2
    rw [hc]
    exact gap_head c _ _ h2
  have hst : startN s k = k + g := by
    unfold startN
    rw [hd]
    rcases Nat.eq_zero_or_pos g with rfl | h
    · rw [List.replicate_zero, List.nil_append, hgz]
    · obtain rfl : g = 1 := by omega
      rw [show List.replicate 1 (32 : UInt8) ++ (t.t.data.toList ++ z) = 32 :: (t.t.data.toList ++ z) from rfl, gap_blank 32 _ rfl, hgz]
  have hx : (s.extract (startN s k) s.size).data.toList = x.data.toList.take t.t.size ++ z := by
    rw [ext_end, hst, ← List.drop_drop, hd, List.drop_left' (by simp)]
    have := List.prefix_iff_eq_take.1 hpre
    rw [len_list] at this
    rw [← this]
  have hf : firstT (s.extract (startN s k) s.size) = firstT x := first_cut hx hz h1 (by rw [h3]; exact hk) (by rw [h4]; exact Nat.le_refl _)
  refine ⟨?_, hp⟩
  unfold nextN
  rw [hf, if_pos h1, hst, h4]
  obtain ⟨tk, tt, tn, td, ta⟩ := t
  simp only at h3 h4 h5 h6 ⊢
  rw [h3, h5, h6, h4]
theorem next_end (s : ByteArray) (k : Nat) (hd : s.data.toList.drop k = []) : nextN s k = ({ zeroT with at_ := (k : Int) }, (k : Int), 0) := by
  have hst : startN s k = k := by unfold startN; rw [hd]; rfl
  have hf : firstT (s.extract (startN s k) s.size) = (zeroT, 0) := by
    unfold firstT; rw [if_pos (by rw [ext_end, hst, hd])]
  unfold nextN
  rw [hf, if_pos rfl, hst]
  rfl
/-- What a token is but for its place. -/
def bare (t : T) : Int × ByteArray × Int × Int := (t.k, t.t, t.n, t.node)
theorem walk_tail (s : ByteArray) : ∀ (l : List T) (f k : Nat), (∀ t ∈ l, TokOK t) → k ≤ s.size → s.size - k < f → s.data.toList.drop k = tailL (l.map fun t => t.t.data.toList) →
    (∀ y ∈ walkF s f k, okB y = true) ∧ (walkF s f k).map (fun y => bare y.1) = l.map bare ++ [bare zeroT]
  | [], 0, _, _, _, h, _ => by omega
  | _ :: _, 0, _, _, _, h, _ => by omega
  | [], f + 1, k, _, hk, hf, hd => by
    have hn := next_end s k hd
    rw [walk_last s f k (by rw [hn]; rfl), hn]
    exact ⟨fun y hy => by rw [List.mem_singleton.1 hy]; rfl, rfl⟩
  | t :: r, f + 1, k, hl, hk, hf, hd => by
    have ht := hl t List.mem_cons_self
    obtain ⟨hn, hp⟩ := step_join s k 1 t (tailL (r.map fun t => t.t.data.toList)) ht (tail_blank _) (Nat.le_refl _) (by rw [hd]; rfl)
    have hlast : lastB (nextN s k) = false := by
      rw [hn]; unfold lastB; simp [ht.1]
    have hdl := congrArg List.length hd
    simp only [List.map_cons, tailL, List.length_drop, List.length_cons, List.length_append] at hdl
    have hll := len_list s
    have hll2 := len_list t.t
    have hd2 : s.data.toList.drop (k + 1 + t.t.size) = tailL (r.map fun t => t.t.data.toList) := by
      rw [Nat.add_assoc, ← List.drop_drop, hd]
      simp only [List.map_cons, tailL]
      rw [Nat.add_comm 1, List.drop_succ_cons, List.drop_left' (by rw [len_list])]
    rw [walk_more s f k (k + 1 + t.t.size) hlast (by rw [hn])]
    obtain ⟨h1, h2⟩ := walk_tail s r f (k + 1 + t.t.size) (fun u hu => hl u (List.mem_cons_of_mem _ hu)) (by omega) (by omega) hd2
    refine ⟨fun y hy => ?_, ?_⟩
    · rcases List.mem_cons.1 hy with rfl | hy
      · rw [hn]; rfl
      · exact h1 y hy
    · rw [List.map_cons, h2, hn]; rfl
theorem walk_join (s : ByteArray) (l : List T) (hl : ∀ t ∈ l, TokOK t) (hd : s.data.toList = joinL (l.map fun t => t.t.data.toList)) :
    (∀ y ∈ walkL s, okB y = true) ∧ (walkL s).map (fun y => bare y.1) = l.map bare ++ [bare zeroT] := by
  cases l with
  | nil => exact walk_tail s [] (s.size + 1) 0 hl (Nat.zero_le _) (by omega) (by rw [List.drop_zero, hd]; rfl)
  | cons t r =>
    have ht := hl t List.mem_cons_self
    obtain ⟨hn, hp⟩ := step_join s 0 0 t (tailL (r.map fun t => t.t.data.toList)) ht (tail_blank _) (Nat.zero_le _) (by rw [List.drop_zero, hd]; rfl)
    have hlast : lastB (nextN s 0) = false := by
      rw [hn]; unfold lastB; simp [ht.1]
    have hdl := congrArg List.length hd
    simp only [List.map_cons, joinL, List.length_append] at hdl
    have hll := len_list s
    have hll2 := len_list t.t
    have hd2 : s.data.toList.drop (0 + 0 + t.t.size) = tailL (r.map fun t => t.t.data.toList) := by
      rw [hd]
      simp only [List.map_cons, joinL]
      rw [List.drop_left' (by rw [len_list]; omega)]
    unfold walkL
    rw [walk_more s s.size 0 (0 + 0 + t.t.size) hlast (by rw [hn])]
    obtain ⟨h1, h2⟩ := walk_tail s r s.size (0 + 0 + t.t.size) (fun u hu => hl u (List.mem_cons_of_mem _ hu)) (by omega) (by omega) hd2
    refine ⟨fun y hy => ?_, ?_⟩
    · rcases List.mem_cons.1 hy with rfl | hy
      · rw [hn]; rfl
      · exact h1 y hy
    · rw [List.map_cons, h2, hn]; rfl
/-- Of a text that is all tokens: all but the last are tokens, the last is the End. -/
theorem walk_toks (s : ByteArray) : ∀ f k, k ≤ s.size → s.size - k < f → (∀ y ∈ walkF s f k, okB y = true) → ∃ pre x, walkF s f k = pre ++ [x] ∧ bare x.1 = bare zeroT ∧ ∀ y ∈ pre, TokOK y.1 ∧ 1 ≤ y.1.t.size
  | 0, _, _, h, _ => by omega
  | f + 1, k, hk, h, hok => by
    have h0 : okB (nextN s k) = true := by
      obtain ⟨q, hq⟩ := walk_cons s f k
      exact hok _ (by rw [hq]; exact List.mem_cons_self)
    have hT : (firstT (s.extract (startN s k) s.size)).2 = 0 := by
      unfold okB nextN at h0
      by_cases he : (firstT (s.extract (startN s k) s.size)).2 = 0
      · exact he
      · rw [if_neg he] at h0; simpa using h0
    have hN : nextN s k = ({ (firstT (s.extract (startN s k) s.size)).1 with at_ := (startN s k : Int) }, ((startN s k + (firstT (s.extract (startN s k) s.size)).1.t.size : Nat) : Int), 0) := by
      unfold nextN; rw [if_pos hT]
    cases hl : lastB (nextN s k) with
    | true =>
      rw [walk_last s f k hl]
      refine ⟨[], _, rfl, ?_, fun y hy => by cases hy⟩
      have hk0 : (nextN s k).1.k = 0 := by
        unfold lastB at hl; unfold okB at h0
        simp at hl h0
        rcases hl with h5 | h5
        · exact absurd h0 h5
        · exact h5
      have hk0' : (firstT (s.extract (startN s k) s.size)).1.k = 0 := by rw [hN] at hk0; exact hk0
      have hz := first_end _ hT hk0'
      have hf : firstT (s.extract (startN s k) s.size) = (zeroT, 0) := by
        unfold firstT; rw [if_pos (List.eq_nil_of_length_eq_zero (by rw [len_list]; exact hz))]
      rw [hN, hf]; rfl
    | false =>
      obtain ⟨q, hq, q1, q2⟩ := next_on s k hk hl
      rw [walk_more s f k q hl hq] at hok ⊢
      obtain ⟨pre, x, e1, e2, e3⟩ := walk_toks s f q q2 (by omega) (fun y hy => hok y (List.mem_cons_of_mem _ hy))
      refine ⟨nextN s k :: pre, x, by rw [e1]; rfl, e2, fun y hy => ?_⟩
      rcases List.mem_cons.1 hy with rfl | hy
      · have hkk : (nextN s k).1.k ≠ 0 := by
          intro h; unfold lastB at hl; simp [h] at hl
        have hkk2 : (firstT (s.extract (startN s k) s.size)).1.k ≠ 0 := by rw [hN] at hkk; exact hkk
        refine ⟨⟨hkk, s.extract (startN s k) s.size, hT, ?_, ?_, ?_, ?_, ?_⟩, ?_⟩
        · rw [ext_end]
          unfold startN
          rw [← List.drop_drop]
          exact gap_drop _ _ (Nat.le_refl _)
        · rw [hN]
        · rw [hN]
        · rw [hN]
        · rw [hN]
        · rw [hN]; exact first_pos _ hT hkk2
      · exact e3 y hy
/-- The texts that are joined: those that are not empty. -/
def textsOf (l : List T) : List ByteArray := (l.filter fun t => decide (t.t.size ≠ 0)).map (·.t)
theorem back_all (s s2 : ByteArray) (hE : (allE s).1 = 0) (h2 : s2.data.toList = joinL ((textsOf (allL s)).map (·.data.toList))) :
    allE s2 = (0, 0) ∧ (allL s2).map bare = (allL s).map bare := by
  obtain ⟨hok, hL⟩ := all_ok s hE
  obtain ⟨pre, x, e1, e2, e3⟩ := walk_toks s (s.size + 1) 0 (Nat.zero_le _) (by omega) hok
  have e1 : walkL s = pre ++ [x] := e1
  have hx : x.1.t = ⟨#[]⟩ := by
    have := congrArg (fun b => b.2.1) e2
    exact this
  have ht : textsOf (allL s) = (toks pre).map (·.t) := by
    rw [hL, e1]
    unfold textsOf toks
    rw [List.map_append, List.filter_append, List.map_append]
    have h5 : ((pre.map (·.1)).filter fun t => decide (t.t.size ≠ 0)) = pre.map (·.1) := by
      rw [List.filter_eq_self]
      intro t ht
      obtain ⟨y, hy, rfl⟩ := List.mem_map.1 ht
      have := (e3 y hy).2
      exact decide_eq_true (by omega)
    rw [h5]
    have h6 : (([x].map (·.1)).filter fun t => decide (t.t.size ≠ 0)) = [] := by
      rw [List.map_cons, List.map_nil, List.filter_cons, if_neg (by rw [hx]; decide)]; rfl
    rw [h6]; simp
  have hj := walk_join s2 (toks pre) (fun t ht => by
    unfold toks at ht
    obtain ⟨y, hy, rfl⟩ := List.mem_map.1 ht
    exact (e3 y hy).1) (by rw [h2, ht, List.map_map]; rfl)
  obtain ⟨o1, o2⟩ := allE_ok rfl hj.1
  refine ⟨o1, ?_⟩
  rw [o2, hL, e1]
  unfold toks at *
  rw [List.map_map]
  have := hj.2
  rw [show (bare ∘ fun (x : Fd) => x.1) = (fun y : Fd => bare y.1) from rfl, this, List.map_append, List.map_append, List.map_cons, List.map_cons, e2]
  rfl
theorem lens_walk (s : ByteArray) : ∀ f k, k ≤ s.size → (∀ y ∈ walkF s f k, okB y = true) → ((walkF s f k).map fun y => y.1.t.size).sum + k ≤ s.size
  | 0, k, hk, _ => by simpa [walkF] using hk
  | f + 1, k, hk, hok => by
    have h0 : okB (nextN s k) = true := by
      obtain ⟨q, hq⟩ := walk_cons s f k
      exact hok _ (by rw [hq]; exact List.mem_cons_self)
    obtain ⟨p1, p2, p3, p4, _, _⟩ := next_place s k hk h0
    cases hl : lastB (nextN s k) with
    | true => rw [walk_last s f k hl]; simp; omega
    | false =>
      obtain ⟨q, hq, q1, q2⟩ := next_on s k hk hl
      rw [walk_more s f k q hl hq] at hok ⊢
      have ih := lens_walk s f q q2 (fun y hy => hok y (List.mem_cons_of_mem _ hy))
      rw [List.map_cons, List.sum_cons]
      rw [p2] at hq
      omega
theorem texts_sum (l : List T) : ((textsOf l).map (·.size)).sum ≤ (l.map (·.t.size)).sum ∧ (textsOf l).length ≤ l.length := by
  induction l with
  | nil => exact ⟨Nat.le_refl _, Nat.le_refl _⟩
  | cons t r ih =>
    unfold textsOf at *
    rw [List.filter_cons]
    split
    · simp only [List.map_cons, List.sum_cons, List.length_cons] at *; omega
    · simp only [List.map_cons, List.sum_cons, List.length_cons] at *; omega
theorem tail_len (l : List (List UInt8)) : (tailL l).length = (l.map (·.length)).sum + l.length := by
  induction l with
  | nil => rfl
  | cons t r ih => simp only [tailL, List.length_cons, List.length_append, List.map_cons, List.sum_cons, ih]; omega
theorem join_len (l : List (List UInt8)) : (joinL l).length ≤ (l.map (·.length)).sum + l.length := by
  cases l with
  | nil => exact Nat.le_refl _
  | cons t r => simp only [joinL, List.length_append, tail_len, List.map_cons, List.sum_cons, List.length_cons]; omega
theorem texts_join (l : List T) : (joinL ((textsOf l).map (·.data.toList))).length ≤ (l.map (·.t.size)).sum + l.length := by
  have h1 := join_len ((textsOf l).map (·.data.toList))
  have h2 := texts_sum l
  rw [List.map_map, List.length_map] at h1
  have h3 : (textsOf l).map ((fun x : List UInt8 => x.length) ∘ fun x : ByteArray => x.data.toList) = (textsOf l).map (·.size) := by
    apply List.map_congr_left
    intro x _
    exact len_list x
  rw [h3] at h1
  omega
theorem all_lens (s : ByteArray) : ((allL s).map (·.t.size)).sum ≤ s.size := by
  unfold allL
  split
  · rename_i h
    have := lens_walk s (s.size + 1) 0 (Nat.zero_le _) (List.all_eq_true.1 h)
    unfold toks
    rw [List.map_map]
    exact this
  · exact Nat.zero_le _
end Go.Proofs.YtampjlafhglceaaDoor
