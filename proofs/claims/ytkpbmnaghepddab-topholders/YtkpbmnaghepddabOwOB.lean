/- Contracts of copied, Index, Contains, SameInts. -/
import Derived.Test.YtkpbmnaghepddabOwOA
namespace Go.Proofs.Ytkpbmnaghepddab.Ow
open Go.RowKit
attribute [local go_sem ↓] Go.wp_at_zero Go.wp_at_succ
theorem below_dN {B : Nat} {w0 w : World} (h : Below B w0 w) (n : Nat) : Below B w0 (w.drewN n) := ⟨h.os, h.tape, h.output, h.size, fun k hk => h.block k hk⟩
/-- Numbers that can be read. -/
structure In (w : World) (a : Option Addr) (n : Nat) (xs : List Int) : Prop where
  len : xs.length = n
  mem : n = 0 ∨ ∃ b o, a = some ⟨b, o, none⟩ ∧ b < w.heap.size ∧ w.rangeAt b o (i64s xs)
theorem In.below {w w' : World} {a : Option Addr} {n : Nat} {xs : List Int} (h : In w a n xs) (hb : Below w.heap.size w w') : In w' a n xs :=
  ⟨h.len, by
    rcases h.mem with e | ⟨b, o, e, hl, hr⟩
    · exact .inl e
    · exact .inr ⟨b, o, e, Nat.lt_of_lt_of_le hl hb.size, fun j u hu => (hb.cell (p := ⟨b, o + j, none⟩) hl).trans (hr j u hu)⟩⟩
theorem In.keeps {w w' : World} {a : Option Addr} {n : Nat} {xs : List Int} (h : In w a n xs) (hk : ∀ g, blk a = some g → w'.heap[g]? = w.heap[g]?) : In w' a n xs :=
  ⟨h.len, by
    rcases h.mem with e | ⟨b, o, e, hl, hr⟩
    · exact .inl e
    · subst e
      have hg := hk b rfl
      refine .inr ⟨b, o, rfl, ?_, fun j u hu => ?_⟩
      · rw [Array.getElem?_eq_getElem hl] at hg
        exact (Array.getElem?_eq_some_iff.1 hg).1
      · have := hr j u hu
        unfold World.cell? at this ⊢
        simp only [hg]
        exact this⟩
theorem In.at {w : World} {a : Option Addr} {n : Nat} {xs : List Int} (h : In w a n xs) {k : Nat} (hk : k < n) : ∃ b o, ∃ (hx : k < xs.length), a = some ⟨b, o, none⟩ ∧ w.cell? ⟨b, o + k, none⟩ = some (.int .i64 xs[k]) := by
  rcases h.mem with e | ⟨b, o, e, _, hr⟩
  · omega
  · have hx : k < xs.length := by rw [h.len]; exact hk
    exact ⟨b, o, hx, e, hr k _ (by simp [i64s, List.getElem?_eq_getElem hx])⟩
theorem In.reads {w : World} {a : Option Addr} {n : Nat} {xs : List Int} (h : In w a n xs) : Reads w a n (i64s xs) := by
  refine ⟨by simp [h.len], ?_⟩
  rcases h.mem with e | ⟨b, o, e, _, hr⟩
  · exact .inl e
  · exact .inr ⟨_, e, fun j u hu => by rw [Addr.add_mid]; exact hr j u hu⟩
theorem Row.in {w : World} {B : Nat} {a : Option Addr} {n c : Nat} {xs : List Int} (h : Row w B 3 a n c (i64s xs)) : In w a n xs := by
  refine ⟨by simpa using h.len, ?_⟩
  rcases Nat.eq_zero_or_pos n with h0 | h0
  · exact .inl h0
  · rcases h.reads.2 with e | ⟨ad, e, hr⟩
    · omega
    · rcases h.mem with ⟨rfl, _⟩ | ⟨g, cur, rfl, _, hb, _⟩
      · cases e
      · cases e
        exact .inr ⟨g, 0, rfl, (Array.getElem?_eq_some_iff.1 hb).1, fun j u hu => by have := hr j u hu; rwa [Addr.add_mid] at this⟩
/-- Does a number stand among others? -/
def hasI (xs : List Int) (k : Int) : Bool := xs.contains k
set_option maxRecDepth 100000 in
set_option maxHeartbeats 1000000 in
theorem o39 (a : Option Addr) (n c : Nat) (xs : List Int) (k : Int) (w : World) (h : In w a n xs) (hn : n ≤ 1000000) :
    Calls Try.prog 19 #[.slice a n c, .int .i64 k] w fun e w' => (∃ i : Int, e = .returned (.int .i64 i) ∧ decide (i ≥ 0) = hasI xs k) ∧ w' = w := by
  have HH : Hid (In w a n xs) := h
  clear h
  go_enter Try.func19, Try.ntmps19
  go_wp2_with fail
  go_loopw [8, 5] (fun i _ wr => ∃ j : Nat, j ≤ n ∧ i = .int .i64 j ∧ wr = w ∧ Hid (hasI (xs.take j) k = false)) (fun i _ _ => n - (intOf i).toNat)
  case atStart => exact ⟨0, Nat.zero_le _, rfl, rfl, rfl⟩
  case round =>
    obtain ⟨j, hj, rfl, rfl, hF⟩ := hrel
    by_cases hlt : j < n
    · have hlt1 : (j : Int) < (n : Int) := by omega
      have hj0 : (0 : Int) ≤ (j : Int) := by omega
      obtain ⟨b, o, hx, rfl, hc⟩ := HH.out.at hlt
      have HT : Hid (xs.take (j + 1) = xs.take j ++ [xs[j]]) := (List.take_append_getElem hx).symm
      have HM : Hid (xs[j] ∈ xs) := List.getElem_mem hx
      generalize xs[j] = y at *
      by_cases hy : k = y
      · subst hy
        go_wp2_with fail
        go_ret
        refine ⟨⟨j, rfl, ?_⟩, rfl⟩
        have h1 : hasI xs k = true := by simpa [hasI] using HM.out
        rw [h1]; simp
      · have hy2 : (k == y) = false := by simp [hy]
        go_wp2_with fail
        go_roundw
        case rel => exact ⟨j + 1, by omega, by go_num, by first | rfl | trivial, by
          show hasI (xs.take (j + 1)) k = false
          rw [HT.out]
          have := hF.out
          simp only [hasI, List.contains_eq_mem, decide_eq_false_iff_not, List.mem_append, List.mem_singleton] at this ⊢
          intro h
          rcases h with h | h
          · exact this h
          · exact hy h⟩
        case measure => simp [intOf]; omega
    · go_wp2_with fail
      go_ret
      refine ⟨⟨-1, rfl, ?_⟩, rfl⟩
      have h1 := hF.out
      rw [List.take_of_length_le (by rw [HH.out.len]; omega)] at h1
      rw [h1]; rfl
set_option maxRecDepth 100000 in
theorem o27 (a : Option Addr) (n c : Nat) (xs : List Int) (k : Int) (w : World) (h : In w a n xs) (hn : n ≤ 1000000) :
    Calls Try.prog 14 #[.slice a n c, .int .i64 k] w fun e w' => e = .returned (.bool (hasI xs k)) ∧ w' = w := by
  have H39 : Calls Try.prog 19 #[.slice a n c, .int .i64 k] w fun e w' => ∃ i : Int, e = .returned (.int .i64 i) ∧ Hid (decide (i ≥ 0) = hasI xs k) ∧ w' = w := by
    refine (o39 a n c xs k w h hn).mono ?_
    rintro e w' ⟨⟨i, rfl, h1⟩, rfl⟩
    exact ⟨i, rfl, h1, rfl⟩
  clear h
  go_enter Try.func14, Try.ntmps14
  go_wp2_with fail
  refine H39.mono ?_
  rintro e w' ⟨i, rfl, HI, hw⟩
  obtain rfl := hw
  go_wp2_with fail
  go_ret
  refine ⟨?_, rfl⟩
  rw [← HI.out]; rfl
/-- Are numbers the same? -/
def sameI (xs ys : List Int) : Bool := decide (xs = ys)
theorem take_ne {xs ys : List Int} {k : Nat} (h1 : k < xs.length) (h2 : k < ys.length) (h : xs[k] ≠ ys[k]) : xs ≠ ys := fun e => by subst e; exact h rfl
end Go.Proofs.Ytkpbmnaghepddab.Ow
