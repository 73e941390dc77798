/- Contracts of Exports, Imports and sameCounts; the order of deeds plays no part in the exports. -/
import Derived.Test.YtjbgemmcbombfaaRS
namespace Go.Proofs.Ytjbgemmcbombfaa
open Go.RowKit
attribute [local go_sem ↓] Go.wp_at_zero Go.wp_at_succ
set_option maxRecDepth 100000 in
theorem r18g (B tb eb ib n : Nat) (own nodes : Int) (f g : Hk → Int) (w : World) (h : RtAt w B tb eb ib n own nodes f g) (hn : n ≤ 1000000000) :
    Calls Try.prog 18 #[.pointer (some ⟨tb, 0, none⟩)] w fun e w' => ∃ a m c, e = .returned (.slice a m c) ∧ Hid (∃ L, L.length = m ∧ RiseTo2 w f L (.slice a m c) w') := by
  have H49 : Calls Try.prog 49 #[.map (some eb)] w fun e w' => ∃ a m c, e = .returned (.slice a m c) ∧ Hid (∃ L, L.length = m ∧ RiseTo2 w f L (.slice a m c) w') := (r49g eb n f w h.ex hn).mono fun e w' ⟨a, c, L, h1, h2⟩ => ⟨a, _, c, h1, L, rfl, h2⟩
  obtain ⟨t0, t1, t2, t3⟩ := h.cells
  clear h hn
  go_enter Try.func18, Try.ntmps18
  go_wp2_with fail
  refine H49.mono ?_
  rintro e w1 ⟨a, m, c, rfl, H1⟩
  go_wp2_with fail
  go_ret
  exact ⟨a, m, c, rfl, H1⟩
set_option maxRecDepth 100000 in
theorem r25g (B tb eb ib n : Nat) (own nodes : Int) (f g : Hk → Int) (w : World) (h : RtAt w B tb eb ib n own nodes f g) (hn : n ≤ 1000000000) :
    Calls Try.prog 25 #[.pointer (some ⟨tb, 0, none⟩)] w fun e w' => ∃ a m c, e = .returned (.slice a m c) ∧ Hid (∃ L, L.length = m ∧ RiseTo2 w g L (.slice a m c) w') := by
  have H49 : Calls Try.prog 49 #[.map (some ib)] w fun e w' => ∃ a m c, e = .returned (.slice a m c) ∧ Hid (∃ L, L.length = m ∧ RiseTo2 w g L (.slice a m c) w') := (r49g ib n g w h.im hn).mono fun e w' ⟨a, c, L, h1, h2⟩ => ⟨a, _, c, h1, L, rfl, h2⟩
  obtain ⟨t0, t1, t2, t3⟩ := h.cells
  clear h hn
  go_enter Try.func25, Try.ntmps25
  go_wp2_with fail
  refine H49.mono ?_
  rintro e w1 ⟨a, m, c, rfl, H1⟩
  go_wp2_with fail
  go_ret
  exact ⟨a, m, c, rfl, H1⟩
/-- A row of counts that can be read. -/
structure CtR (w : World) (a : Option Addr) (n : Nat) (L : List Ct) : Prop where
  len : L.length = n
  max : n ≤ maxLen
  mem : n = 0 ∨ ∃ g cur, a = some ⟨g, 0, none⟩ ∧ w.heap[g]? = some (.cells cur 74 (0, 0)) ∧ cur.toList.take (n * 4) = L.flatMap encC
theorem CtR.keeps {w w' : World} {a : Option Addr} {n : Nat} {L : List Ct} (h : CtR w a n L) (hk : ∀ g, blk a = some g → g < w.heap.size → w'.heap[g]? = w.heap[g]?) : CtR w' a n L :=
  ⟨h.len, h.max, by
    rcases h.mem with e | ⟨g, cur, e, h1, h2⟩
    · exact .inl e
    · exact .inr ⟨g, cur, e, (hk g (by rw [e]; rfl) (Array.getElem?_eq_some_iff.1 h1).1).trans h1, h2⟩⟩
theorem CtR.below {w w' : World} {a : Option Addr} {n : Nat} {L : List Ct} (h : CtR w a n L) (hb : Below w.heap.size w w') : CtR w' a n L := h.keeps fun g _ hg => hb.block g hg
theorem RiseTo2.ctr {w w' : World} {f : Hk → Int} {L : List Ct} {a : Option Addr} {m c : Nat} (h : RiseTo2 w f L (.slice a m c) w') (hl : L.length = m) : CtR w' a m L := by
  rcases h.2.1.2 with ⟨e, h0⟩ | ⟨g, cap, cur, e, _, h2, h3, h4, _, h6⟩
  · exact ⟨hl, by omega, .inl (by omega)⟩
  · simp only [Value.slice.injEq] at e
    exact ⟨hl, by omega, .inr ⟨g, cur, e.1, h2, by rw [← hl]; exact h6⟩⟩
theorem CtR.at {w : World} {a : Option Addr} {n : Nat} {L : List Ct} (h : CtR w a n L) {k : Nat} (hk : k < n) : ∃ g, ∃ (hx : k < L.length), a = some ⟨g, 0, none⟩ ∧ w.cell? ⟨g, 0 + k * 4, none⟩ = some (.int .i64 L[k].1.1.1) ∧ w.cell? ⟨g, 0 + k * 4 + 1, none⟩ = some (.int .i64 L[k].1.1.2) ∧ w.cell? ⟨g, 0 + k * 4 + 2, none⟩ = some (.int .i64 L[k].1.2) ∧ w.cell? ⟨g, 0 + k * 4 + 3, none⟩ = some (.int .i64 L[k].2) := by
  rcases h.mem with e | ⟨g, cur, e, h1, h2⟩
  · omega
  · have hx : k < L.length := by rw [h.len]; exact hk
    have key : ∀ j, j < 4 → ∀ v, (encC L[k])[j]? = some v → w.cell? ⟨g, 0 + k * 4 + j, none⟩ = some v := fun j hj v hv => by
      have hlt : k * 4 + j < n * 4 := by omega
      have h3 : (L.flatMap encC)[k * 4 + j]? = some v := by
        rw [flatMap_get encC_len L (k * 4 + j) (by rw [h.len]; exact hlt)]
        have d1 : (k * 4 + j) / 4 = k := by omega
        have d2 : (k * 4 + j) % 4 = j := by omega
        rw [d1, d2, getElem!_pos L k hx]
        obtain ⟨hl, he⟩ := List.getElem?_eq_some_iff.1 hv
        rw [getElem!_pos (encC L[k]) j hl, he]
      rw [← h2, List.getElem?_take_of_lt hlt] at h3
      rw [cell_of_row w g _ _ 74 (0, 0) h1, ← Array.getElem?_toList, Nat.zero_add]
      exact h3
    exact ⟨g, hx, e, key 0 (by omega) _ rfl, key 1 (by omega) _ rfl, key 2 (by omega) _ rfl, key 3 (by omega) _ rfl⟩
set_option maxRecDepth 100000 in
set_option maxHeartbeats 4000000 in
theorem r16 (a a' : Option Addr) (n c c' : Nat) (L : List Ct) (w : World) (h : CtR w a n L) (h' : CtR w a' n L) : Calls Try.prog 16 #[.slice a n c, .slice a' n c'] w fun e w' => e = .returned (.bool true) ∧ Below w.heap.size w w' := by
  have HH : Hid (CtR w a n L ∧ CtR w a' n L) := ⟨h, h'⟩
  have hn := h.max
  unfold maxLen at hn
  clear h h'
  go_enter Try.func16, Try.ntmps16
  go_wp2_with fail
  go_loopw [5] (fun i wr => ∃ k : Nat, k ≤ n ∧ i = .int .i64 k ∧ Hid (Below w.heap.size w wr)) (fun i _ => n - (intOf i).toNat)
  case atStart => exact ⟨0, Nat.zero_le _, rfl, Below.refl _ _⟩
  case round =>
    obtain ⟨k, hk, rfl, HK⟩ := hrel
    by_cases hlt : k < n
    · have hltI : (k : Int) < (n : Int) := by omega
      have hk0 : (0 : Int) ≤ (k : Int) := by omega
      obtain ⟨g, hx, rfl, p0, p1, p2, p3⟩ := (HH.out.1.below HK.out).at hlt
      obtain ⟨g', _, rfl, q0, q1, q2, q3⟩ := (HH.out.2.below HK.out).at hlt
      simp only [Nat.zero_add] at p0 p1 p2 p3 q0 q1 q2 q3
      generalize L[k] = y at *
      obtain ⟨⟨⟨y1, y2⟩, y3⟩, y4⟩ := y
      simp only at p0 p1 p2 p3 q0 q1 q2 q3
      go_wp2_with fail
      go_quiet (fail)
      have H5 : Hid (Below w.heap.size w (wr.drewN nq)) := below_dN HK.out nq
      clear p0 p1 p2 p3 q0 q1 q2 q3 HK
      go_wp2_with fail
      go_roundw
      case rel => exact ⟨k + 1, by omega, by go_num, H5⟩
      case measure => simp [intOf]; omega
    · have hltI : ¬ (k : Int) < (n : Int) := by omega
      go_wp2_with fail
      go_ret
      exact ⟨rfl, HK.out⟩
/-- Numbers go round. -/
abbrev wr64 (x : Int) : Int := IntKind.i64.wrap x
theorem wr_add (a b : Int) : wr64 (wr64 a + b) = wr64 (a + b) := by
  have e : ((if 9223372036854775808 ≤ a % 18446744073709551616 then a % 18446744073709551616 - 18446744073709551616 else a % 18446744073709551616) + b) % 18446744073709551616 = (a + b) % 18446744073709551616 := by split <;> omega
  simp only [wr64, IntKind.wrap, IntKind.bits, IntKind.signed]
  simp
  rw [e]
theorem wr_wr (a : Int) : wr64 (wr64 a) = wr64 a := by have := wr_add a 0; simpa using this
def NF (f : Hk → Int) : Prop := ∀ y, wr64 (f y) = f y
/-- What a deed adds to the exports. -/
def cntS (to : Int) (y : Hk) : List Nm → Int
  | [] => 0
  | x :: r => (if y = (x, to) then 1 else 0) + cntS to y r
theorem nf_add {f : Hk → Int} (h : NF f) (k : Hk) (t : Int) : NF (addF f k t) ∧ ∀ y, addF f k t y = wr64 (f y + if y = k then t else 0) := by
  refine ⟨fun y => ?_, fun y => ?_⟩
  · unfold addF
    split
    · exact wr_wr _
    · exact h y
  · unfold addF
    split
    · next e => subst e; rfl
    · rw [Int.add_zero, h y]
theorem nf_sent (to : Int) : ∀ (xs : List Nm) {f : Hk → Int}, NF f → NF (sentF f to xs) ∧ ∀ y, sentF f to xs y = wr64 (f y + cntS to y xs)
  | [], f, h => ⟨h, fun y => by simp only [sentF, List.foldl_nil, cntS, Int.add_zero]; exact (h y).symm⟩
  | x :: r, f, h => by
    obtain ⟨h1, h2⟩ := nf_add h (x, to) 1
    obtain ⟨h3, h4⟩ := nf_sent to r h1
    refine ⟨h3, fun y => ?_⟩
    have e : sentF f to (x :: r) = sentF (addF f (x, to) 1) to r := rfl
    rw [e, h4, h2, wr_add, cntS]
    congr 1
    omega
def delta (d : Dd) (y : Hk) : Int :=
  if d.kd = 0 then (if (othB 0 4 d.nd && allOwn 0 d.xs) = true then cntS d.nd y d.xs else 0)
  else if d.kd = 1 then (if (othB 0 4 d.nd && decide ((fst d.xs).1 = 0)) = true then (if y = (fst d.xs, d.nd) then 1 else 0) else 0)
  else if d.kd = 2 then (if ((othB 0 4 d.nd && decide ((fst d.xs).1 = 0)) && (decide (1 ≤ d.ti) && decide (d.ti ≤ 2147483647))) = true then (if y = (fst d.xs, d.nd) then -d.ti else 0) else 0)
  else 0
theorem nf_step {f : Hk → Int} (h : NF f) (d : Dd) : NF (stepE f d) ∧ ∀ y, stepE f d y = wr64 (f y + delta d y) := by
  have id : ∀ y, f y = wr64 (f y + 0) := fun y => by rw [Int.add_zero]; exact (h y).symm
  unfold stepE delta sentG addG relG
  by_cases h0 : d.kd = 0
  · simp only [if_pos h0]
    split
    · exact nf_sent _ _ h
    · exact ⟨h, id⟩
  · simp only [if_neg h0]
    by_cases h1 : d.kd = 1
    · simp only [if_pos h1]
      split
      · exact nf_add h _ _
      · exact ⟨h, id⟩
    · simp only [if_neg h1]
      by_cases h2 : d.kd = 2
      · simp only [if_pos h2]
        split
        · exact nf_add h _ _
        · exact ⟨h, id⟩
      · simp only [if_neg h2]
        exact ⟨h, id⟩
def dsum (y : Hk) : List Dd → Int
  | [] => 0
  | d :: r => delta d y + dsum y r
theorem dsum_append (y : Hk) : ∀ l m : List Dd, dsum y (l ++ m) = dsum y l + dsum y m
  | [], m => by simp [dsum]
  | d :: r, m => by simp only [List.cons_append, dsum, dsum_append y r m]; omega
theorem dsum_rev (y : Hk) : ∀ l : List Dd, dsum y l.reverse = dsum y l
  | [] => rfl
  | d :: r => by rw [List.reverse_cons, dsum_append, dsum_rev y r]; simp only [dsum]; omega
theorem nf_run : ∀ (es : List Dd) {f : Hk → Int}, NF f → ∀ y, es.foldl stepE f y = wr64 (f y + dsum y es)
  | [], f, h, y => by simp only [List.foldl_nil, dsum, Int.add_zero]; exact (h y).symm
  | d :: r, f, h, y => by
    obtain ⟨h1, h2⟩ := nf_step h d
    rw [List.foldl_cons, nf_run r h1 y, h2, wr_add, dsum]
    congr 1
    omega
theorem run_rev (es : List Dd) (y : Hk) : runE es.reverse y = runE es y := by
  have h : NF fun _ => 0 := fun _ => rfl
  unfold runE
  rw [nf_run _ h, nf_run _ h, dsum_rev]
theorem tot_rev : ∀ l : List Dd, tot l.reverse = tot l
  | [] => rfl
  | d :: r => by rw [List.reverse_cons, tot_append, tot_rev r]; simp only [tot]; omega
end Go.Proofs.Ytjbgemmcbombfaa
