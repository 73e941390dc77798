/- The contract of LexPlaces. -/
import Derived.Test.YtampjlafhglceaaDoorQ6
namespace Go.Proofs.YtampjlafhglceaaDoor
open Go.RowKit
theorem all_ok (s : ByteArray) (h : (allE s).1 = 0) : (∀ y ∈ walkL s, okB y = true) ∧ allL s = toks (walkL s) := by
  have hall : ∀ y ∈ walkL s, okB y = true := by
    unfold allE at h
    split at h
    · rename_i x hx
      have h2 := List.find?_some hx
      unfold okB at h2
      simp at h2
      exact absurd h h2
    · rename_i hx
      intro y hy
      have h2 := List.find?_eq_none.1 hx y hy
      simpa using h2
  refine ⟨hall, ?_⟩
  unfold allL
  rw [if_pos (List.all_eq_true.2 hall)]
theorem walk_end (s : ByteArray) : ∀ f k, k ≤ s.size → s.size - k < f → (∀ y ∈ walkF s f k, okB y = true) → ∃ pre x, walkF s f k = pre ++ [x] ∧ x.1.k = 0
  | 0, _, _, h, _ => by omega
  | f + 1, k, hk, h, hok => by
    cases hl : lastB (nextN s k) with
    | true =>
      rw [walk_last s f k hl] at hok ⊢
      refine ⟨[], _, rfl, ?_⟩
      have h1 := hok _ (List.mem_singleton.2 rfl)
      unfold okB at h1; unfold lastB at hl
      simp at h1 hl
      rcases hl with h2 | h2
      · exact absurd h1 h2
      · exact h2
    | false =>
      obtain ⟨q, hq, h1, h2⟩ := next_on s k hk hl
      rw [walk_more s f k q hl hq] at hok ⊢
      obtain ⟨pre, x, h3, h4⟩ := walk_end s f q h2 (by omega) (fun y hy => hok y (List.mem_cons_of_mem _ hy))
      exact ⟨_ :: pre, x, by rw [h3]; rfl, h4⟩
/-- Behind i tokens the place is k. -/
def AtN (s : ByteArray) (i k : Nat) : Prop := k ≤ s.size ∧ ∃ pre rest, walkL s = pre ++ rest ∧ pre.length = i ∧ ((rest = [] ∧ k = s.size) ∨ ∃ f, s.size - k < f + 1 ∧ rest = walkF s (f + 1) k)
theorem at_zero (s : ByteArray) : AtN s 0 0 := ⟨Nat.zero_le _, [], walkL s, rfl, rfl, Or.inr ⟨s.size, by omega, rfl⟩⟩
theorem walk_cons (s : ByteArray) (f k : Nat) : ∃ r, walkF s (f + 1) k = nextN s k :: r := by
  cases hl : lastB (nextN s k) with
  | true => exact ⟨_, walk_last s f k hl⟩
  | false => exact ⟨_, by simp only [walkF]; rw [if_neg (by simp [hl])]⟩
theorem at_done {s : ByteArray} {i k : Nat} (h : AtN s i k) (hi : ¬ i < (walkL s).length) : k = s.size := by
  obtain ⟨_, pre, rest, h1, h2, h3⟩ := h
  rcases h3 with h3 | ⟨f, _, h4⟩
  · exact h3.2
  · obtain ⟨r, hr⟩ := walk_cons s f k
    rw [h1, h4, hr] at hi; simp at hi; omega
theorem at_step {s : ByteArray} {i k : Nat} (h : AtN s i k) (hok : ∀ y ∈ walkL s, okB y = true) (hi : i < (toks (walkL s)).length) : (toks (walkL s))[i] = (nextN s k).1 ∧ okB (nextN s k) = true ∧ AtN s (i + 1) (startN s k + (nextN s k).1.t.size) := by
  obtain ⟨hk, pre, rest, h1, h2, h3⟩ := h
  have hi' : i < (walkL s).length := by simpa [toks] using hi
  rcases h3 with h3 | ⟨f, hf, h4⟩
  · rw [h1, h3.1] at hi'; simp at hi'; omega
  · obtain ⟨r, hr⟩ := walk_cons s f k
    have hm : nextN s k ∈ walkL s := by rw [h1, h4, hr]; simp
    have hkok := hok _ hm
    obtain ⟨p1, p2, p3, p4, p5, p6⟩ := next_place s k hk hkok
    refine ⟨?_, hkok, p4, ?_⟩
    · have e : (walkL s)[i]? = some (nextN s k) := by rw [h1, h4, hr, List.getElem?_append_right (by omega), h2, Nat.sub_self]; rfl
      have e2 : (toks (walkL s))[i]? = some (nextN s k).1 := by simp [toks, e]
      rw [List.getElem?_eq_getElem hi] at e2
      exact Option.some.inj e2
    · cases hl : lastB (nextN s k) with
      | true =>
        refine ⟨pre ++ [nextN s k], [], by rw [h1, h4, walk_last s f k hl]; simp, by simp [h2], Or.inl ⟨rfl, ?_⟩⟩
        unfold okB at hkok; unfold lastB at hl
        simp at hkok hl
        rcases hl with h5 | h5
        · exact absurd hkok h5
        · have := p6 h5; omega
      | false =>
        obtain ⟨q, hq, q1, q2⟩ := next_on s k hk hl
        have hqe : q = startN s k + (nextN s k).1.t.size := by rw [p2] at hq; omega
        obtain ⟨f, rfl⟩ : ∃ f', f = f' + 1 := ⟨f - 1, by omega⟩
        refine ⟨pre ++ [nextN s k], walkF s (f + 1) q, by rw [h1, h4, walk_more s (f + 1) k q hl hq]; simp, by simp [h2], Or.inr ⟨f, by omega, by rw [hqe]⟩⟩
theorem below_dN {n : Nat} {w w' : World} (h : Below n w w') (m : Nat) : Below n w (w'.drewN m) := by
  exact below_drewN h m
set_option maxHeartbeats 1000000 in
theorem neq24 (k : Int) (t : ByteArray) (n d a : Int) (w : World) :
    (binOp .neq 24 (.agg #[.int .u8 k, .string t, .int .i64 n, .int .i64 d, .int .i64 a]) (.agg #[.int .u8 k, .string t, .int .i64 n, .int .i64 d, .int .i64 a])).run Tryd.prog w = .ok (.bool false) w := by
  have h1 : (k == k) = true := by simp
  have h2 : (t.toList == t.toList) = true := by simp
  have h3 : (n == n) = true := by simp
  have h4 : (d == d) = true := by simp
  have h5 : (a == a) = true := by simp
  go_simp
set_option maxRecDepth 100000 in
set_option maxHeartbeats 4000000 in
theorem c7 (s : ByteArray) (w : World) (hS : Signs w) (hs : s.size ≤ 1000000000) :
    Calls Tryd.prog 7 #[.string s] w fun e w' => e = .returned (.bool true) ∧ Below w.heap.size w w' := by
  have H13 := c13 s w hS hs
  have HS : Hid (Signs w) := hS
  have hlen := all_len s
  obtain ⟨L, hL⟩ : ∃ L, allL s = L := ⟨_, rfl⟩
  rw [hL] at H13 hlen
  obtain ⟨⟨ae, ap⟩, hA⟩ : ∃ x, allE s = x := ⟨_, rfl⟩
  rw [hA] at H13
  have HF : Hid (ae = 0 → (∀ y ∈ walkL s, okB y = true) ∧ L = toks (walkL s)) := fun h => by
    have := all_ok s (by rw [hA]; exact h)
    rw [hL] at this; exact this
  clear hS hL hA
  go_enter Tryd.func7, Tryd.ntmps7
  go_wp2_with fail
  refine H13.mono ?_
  clear H13
  rintro e w1 ⟨v, rfl, hO1, hb1⟩
  have HO1 : Hid (w1.ownsRow w.heap.size 24 5 v L.length (flatT L)) := hO1
  clear hO1
  go_wp2_with fail
  refine (c11 w1 (HS.out.below hb1)).mono ?_
  rintro e w2 ⟨rfl, hb2⟩
  have HO1 : Hid (w2.ownsRow w.heap.size 24 5 v L.length (flatT L)) := owns_below5 HO1.out hb2
  have hw2 : Hid (Below w.heap.size w w2) := hb1.trans (hb2.mono hb1.size)
  clear hb1 hb2
  by_cases he : ae = 0
  · subst he
    have HOK : Hid (∀ y ∈ walkL s, okB y = true) := (HF.out rfl).1
    have HL : Hid (L = toks (walkL s)) := (HF.out rfl).2
    obtain ⟨m, hm, hlast⟩ : ∃ m, L.length = m + 1 ∧ ∃ h : m < L.length, L[m].k = 0 := by
      obtain ⟨pre, x, h1, h2⟩ := walk_end s (s.size + 1) 0 (Nat.zero_le _) (by omega) HOK.out
      have h3 : L = toks pre ++ [x.1] := by rw [HL.out]; show toks (walkF s (s.size + 1) 0) = _; rw [h1]; simp [toks]
      refine ⟨(toks pre).length, by rw [h3]; simp, by rw [h3]; simp, ?_⟩
      simp only [h3, List.getElem_concat_length]; exact h2
    obtain ⟨hmL, hmk⟩ := hlast
    obtain ⟨g1, cp1, hv, hr1⟩ := owns_range HO1.out (by omega)
    have hg1 : g1 < w2.heap.size := (HO1.out.lt g1 (by rw [hv]; rfl)).2
    subst hv
    have HR1 : Hid (w2.rangeAt g1 0 (L.flatMap T.vals)) := hr1
    have HM : Hid (w2.cell? ⟨g1, m * 5, none⟩ = some (.int .u8 0)) := by
      have := tok_cells T.vals (fun _ => rfl) hr1 m hmL 0 (.int .u8 L[m].k) (by omega) rfl
      rw [hmk] at this; exact this
    have HWL : Hid (L.length = (walkL s).length) := by show L.length = _; rw [HL.out]; simp [toks]
    clear hr1 HO1 HF hmk
    go_wp2_with fail
    go_loopw [6, 7] (fun a i wr => ∃ k i0 : Nat, i0 ≤ L.length ∧ k ≤ s.size ∧ a = .int .i64 k ∧ i = .int .i64 i0 ∧ Hid (AtN s i0 k) ∧ Below w2.heap.size w2 wr) (fun _ i _ => L.length - (intOf i).toNat)
    case atStart => exact ⟨0, 0, Nat.zero_le _, Nat.zero_le _, rfl, rfl, at_zero s, Below.refl _ _⟩
    case round =>
      obtain ⟨k, i0, hi0, hk, rfl, rfl, HA, hbr⟩ := hrel
      by_cases hlt : i0 < L.length
      · have hlt' : (i0 : Int) < (L.length : Int) := by omega
        have hi00 : (0 : Int) ≤ (i0 : Int) := by omega
        have hk00 : (0 : Int) ≤ (k : Int) := by omega
        have H9 := c9_in s k wr (HS.out.below (hw2.out.trans (hbr.mono hw2.out.size))) (by unfold maxLen; omega) hk
        have hT : L[i0] = (nextN s k).1 ∧ okB (nextN s k) = true ∧ AtN s (i0 + 1) (startN s k + (nextN s k).1.t.size) := by
          have h1 := HL.out
          subst h1
          exact at_step HA.out HOK.out hlt
        obtain ⟨p1, p2, p3, p4, p5, p6⟩ := next_place s k hk hT.2.1
        have H10 : ∀ w : World, Calls Tryd.prog 10 #[.string (s.extract k (startN s k)), .int .i64 0] w fun e w' => e = .returned (.tuple #[.agg #[.int .i64 0, .string ⟨#[]⟩, .int .i64 0, .int .i64 0, .int .i64 ((startN s k : Int) - (k : Int))], .int .i64 ((startN s k : Int) - (k : Int)), .int .i64 0]) ∧ Below w.heap.size w w' := fun w => by
          have h := c10_in (s.extract k (startN s k)) 0 w (by rw [ByteArray.size_extract]; omega) (Nat.zero_le _)
          rw [between s k hk, show ((startN s k - k : Nat) : Int) = (startN s k : Int) - (k : Int) by omega] at h
          exact h
        have hcl : ∀ j v, j < 5 → (T.vals L[i0])[j]? = some v → wr.cell? ⟨g1, i0 * 5 + j, none⟩ = some v := fun j v hj hv => (hbr.cell (p := ⟨g1, i0 * 5 + j, none⟩) hg1).trans (tok_cells T.vals (fun _ => rfl) HR1.out i0 hlt j v hj hv)
        rw [hT.1] at hcl
        have h0 : okB (nextN s k) = true := hT.2.1
        have HA2 : Hid (AtN s (i0 + 1) (startN s k + (nextN s k).1.t.size)) := hT.2.2
        clear hT p6 HA
        generalize hst : startN s k = st at *
        obtain ⟨⟨⟨tk, tt, tn, td, ta⟩, tq, te⟩, hx⟩ : ∃ x, nextN s k = x := ⟨_, rfl⟩
        rw [hx] at H9 p1 p2 p4 p5 hcl h0 HA2
        clear hx
        simp only at p1 p2 p4 p5 HA2
        obtain rfl : te = 0 := by unfold okB at h0; simpa using h0
        obtain ⟨q, hq⟩ : ∃ q, st + tt.size = q := ⟨_, rfl⟩
        rw [hq] at p2 p4 p5 HA2
        subst p1 p2
        clear h0
        simp only [tripV, T.val] at H9
        have hN := neq24 tk tt tn td (st : Int)
        have f1 : ¬ (s.size < q) := by omega
        have f3 : st ≤ q := by omega
        have f4 : (tt.toList != tt.toList) = false := by simp
        have f5 : (((st : Int) - (k : Int)) != ((st : Int) - (k : Int))) = false := by simp
        have f6 : ¬ (st < k) := by omega
        have f7 : st ≤ s.size := by omega
        have f8 : IntKind.i64.wrap ((st : Int) + (tt.size : Int)) = (q : Int) := by rw [IntKind.wrap_i64]; omega
        have f9 : IntKind.i64.wrap ((st : Int) - (k : Int)) = (st : Int) - (k : Int) := by rw [IntKind.wrap_i64]; omega
        have g2 : (0 : Int) ≤ (st : Int) := by omega
        have g3 : (st : Int) ≤ (q : Int) := by omega
        have g4 : (q : Int) ≤ (s.size : Int) := by omega
        have g5 : (k : Int) ≤ (st : Int) := by omega
        have g6 : (st : Int) ≤ (s.size : Int) := by omega
        go_wp2_with fail
        refine H9.mono ?_
        clear H9
        rintro e w3 ⟨rfl, hb3⟩
        have hsz3 := hb3.size
        have hbr3 : Hid (Below w2.heap.size w2 (w3.alloc (.cells #[.int .u8 tk, .string tt, .int .i64 tn, .int .i64 td, .int .i64 (st : Int)] 24))) := (hbr.trans (hb3.mono hbr.size)).alloc (Nat.le_trans hbr.size hb3.size) _
        have H24 : Hid ((w3.alloc (.cells #[.int .u8 tk, .string tt, .int .i64 tn, .int .i64 td, .int .i64 (st : Int)] 24)).heap[w3.heap.size]? = some (.cells #[.int .u8 tk, .string tt, .int .i64 tn, .int .i64 td, .int .i64 (st : Int)] 24)) := World.alloc_heap_new w3 _
        obtain ⟨a0, a1, a2, a3, a4⟩ := cells5 H24.out
        have hg3 : g1 < wr.heap.size := Nat.lt_of_lt_of_le hg1 hbr.size
        have hcl3 : ∀ j v, j < 5 → (T.vals ⟨tk, tt, tn, td, (st : Int)⟩)[j]? = some v → (w3.alloc (.cells #[.int .u8 tk, .string tt, .int .i64 tn, .int .i64 td, .int .i64 (st : Int)] 24)).cell? ⟨g1, i0 * 5 + j, none⟩ = some v := fun j v hj hv => ((hb3.alloc (Nat.le_of_lt_succ (by omega)) _).cell (p := ⟨g1, i0 * 5 + j, none⟩) hg3).trans (hcl j v hj hv)
        have b0 := hcl3 0 _ (by omega) rfl
        have b1 := hcl3 1 _ (by omega) rfl
        have b2 := hcl3 2 _ (by omega) rfl
        have b3 := hcl3 3 _ (by omega) rfl
        have b4 := hcl3 4 _ (by omega) rfl
        rw [Nat.add_zero] at b0
        clear hcl hcl3 hb3
        go_wp2_with fail
        go_quiet (fail)
        have hbq : Hid (Below w2.heap.size w2 ((w3.alloc (.cells #[.int .u8 tk, .string tt, .int .i64 tn, .int .i64 td, .int .i64 (st : Int)] 24)).drewN nq)) := below_dN hbr3.out nq
        go_wp2_with fail
        refine (H10 _).mono ?_
        clear H10
        rintro e w4 ⟨rfl, hb4⟩
        have hsz4 : w3.heap.size < w4.heap.size := by have := hb4.size; simp at this; omega
        have hbr4 : Hid (Below w2.heap.size w2 (w4.alloc (.cells #[.int .i64 0, .string ⟨#[]⟩, .int .i64 0, .int .i64 0, .int .i64 ((st : Int) - (k : Int))] 29))) := (hbq.out.trans (hb4.mono hbq.out.size)).alloc (Nat.le_trans hbq.out.size hb4.size) _
        have h24b : w4.heap[w3.heap.size]? = some (.cells #[.int .u8 tk, .string tt, .int .i64 tn, .int .i64 td, .int .i64 (st : Int)] 24) := (hb4.block w3.heap.size (by simp)).trans H24.out
        obtain ⟨_, _, _, _, x4⟩ := cells5 ((Below.heap_alloc w4 (.cells #[.int .i64 0, .string ⟨#[]⟩, .int .i64 0, .int .i64 0, .int .i64 ((st : Int) - (k : Int))] 29) w3.heap.size hsz4).trans h24b)
        obtain ⟨y0, _, _, _, _⟩ := cells5 (World.alloc_heap_new w4 (.cells #[.int .i64 0, .string ⟨#[]⟩, .int .i64 0, .int .i64 0, .int .i64 ((st : Int) - (k : Int))] 29))
        clear hb4 h24b a0 a1 a2 a3 a4 b0 b1 b2 b3 b4 H24
        go_wp2_with fail
        go_roundw
        case rel => exact ⟨q, i0 + 1, by omega, by omega, rfl, by go_num, HA2, hbr4.out⟩
        case measure => simp [intOf]; omega
      · have hlt' : ¬ ((i0 : Int) < (L.length : Int)) := by omega
        have hk2 : k = s.size := at_done HA.out (by rw [← HWL.out]; exact hlt)
        subst hk2
        have d0 : wr.cell? ⟨g1, m * 5, none⟩ = some (.int .u8 0) := (hbr.cell (p := ⟨g1, m * 5, none⟩) hg1).trans HM.out
        have d1 : ((s.size : Int) == (s.size : Int)) = true := by simp
        have d2 : (m : Int) + 1 - 1 = (m : Int) := by omega
        have d3 : (0 : Int) < (m : Int) + 1 := by omega
        have d4 : (m : Int) < (m : Int) + 1 := by omega
        have d5 : (0 : Int) ≤ (m : Int) := by omega
        go_wp2_with fail
        go_ret
        exact ⟨rfl, hw2.out.trans (hbr.mono hw2.out.size)⟩
  · have he' : (ae != 0) = true := by simp [he]
    go_wp2_with fail
    refine (c11 w2 (HS.out.below hw2.out)).mono ?_
    rintro e w3 ⟨rfl, hb3⟩
    go_wp2_with fail
    go_ret
    exact ⟨rfl, hw2.out.trans (hb3.mono hw2.out.size)⟩
end Go.Proofs.YtampjlafhglceaaDoor
