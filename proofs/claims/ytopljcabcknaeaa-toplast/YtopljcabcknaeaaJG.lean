/- A log in memory; contracts of its small functions. -/
import Derived.Test.YtopljcabcknaeaaJP
namespace Go.Proofs.Ytopljcabcknaeaa
open Go.RowKit
attribute [local go_sem ↓] Go.wp_at_zero Go.wp_at_succ
/-- A log at lb: its bytes xs lie in the slice s, at B or behind. -/
structure LogAt (w : World) (lb B : Nat) (s : Sl) (xs : List Int) : Prop where
  blk : w.heap[lb]? = some (.cells #[.slice s.a s.n s.c, .int .i64 (recs 0 xs).length, .int .i64 (lastE (recs 0 xs))] 46 (0, 0))
  row : Row w B 5 s.a s.n s.c (u8s xs)
  rng : ∀ x ∈ xs, Byte x
theorem LogAt.lt {w : World} {lb B : Nat} {s : Sl} {xs : List Int} (h : LogAt w lb B s xs) : lb < w.heap.size := (Array.getElem?_eq_some_iff.1 h.blk).1
theorem LogAt.len {w : World} {lb B : Nat} {s : Sl} {xs : List Int} (h : LogAt w lb B s xs) : xs.length = s.n := by simpa [u8s] using h.row.len
theorem LogAt.by {w : World} {lb B : Nat} {s : Sl} {xs : List Int} (h : LogAt w lb B s xs) : By w s.a s.n s.c xs := h.row.by h.rng
theorem LogAt.keeps {w w' : World} {lb B : Nat} {s : Sl} {xs : List Int} (h : LogAt w lb B s xs) (h1 : w'.heap[lb]? = w.heap[lb]?) (h2 : ∀ g, Go.Proofs.Ytopljcabcknaeaa.blk s.a = some g → w'.heap[g]? = w.heap[g]?) : LogAt w' lb B s xs :=
  ⟨h1.trans h.blk, h.row.keeps h2, h.rng⟩
theorem LogAt.below {w w' : World} {lb B : Nat} {s : Sl} {xs : List Int} (h : LogAt w lb B s xs) (hb : Below w.heap.size w w') : LogAt w' lb B s xs :=
  h.keeps (hb.block lb h.lt) fun g e => hb.block g (h.row.lt e).2
theorem LogAt.ne {w : World} {lb B : Nat} {s : Sl} {xs : List Int} (h : LogAt w lb B s xs) : Go.Proofs.Ytopljcabcknaeaa.blk s.a ≠ some lb := fun e => by
  obtain ⟨cu, h1⟩ := h.row.type e
  rw [h.blk] at h1; cases h1
theorem LogAt.cells {w : World} {lb B : Nat} {s : Sl} {xs : List Int} (h : LogAt w lb B s xs) : w.cell? ⟨lb, 0, none⟩ = some (.slice s.a s.n s.c) ∧ w.cell? ⟨lb, 1, none⟩ = some (.int .i64 (recs 0 xs).length) ∧ w.cell? ⟨lb, 2, none⟩ = some (.int .i64 (lastE (recs 0 xs))) ∧ w.frozen? ⟨lb, 0, none⟩ = false ∧ w.frozen? ⟨lb, 1, none⟩ = false ∧ w.frozen? ⟨lb, 2, none⟩ = false := by
  refine ⟨?_, ?_, ?_, frozen_of_row w lb 0 _ 46 h.blk, frozen_of_row w lb 1 _ 46 h.blk, frozen_of_row w lb 2 _ 46 h.blk⟩
  · rw [cell_of_row w lb 0 _ 46 (0, 0) h.blk]; rfl
  · rw [cell_of_row w lb 1 _ 46 (0, 0) h.blk]; rfl
  · rw [cell_of_row w lb 2 _ 46 (0, 0) h.blk]; rfl
theorem last_le (xs : List Int) : lastE (recs 0 xs) ≤ xs.length := by
  unfold lastE
  cases hq : (recs 0 xs).getLast? with
  | none => simp
  | some x => simpa using (recs_mem _ 0 xs (Nat.le_refl _) x (List.mem_of_getLast? hq)).1
/-- All blocks but a log's and its row's stay. -/
structure KeepL (lb : Nat) (a : Option Addr) (w w' : World) : Prop where
  os : w'.os = w.os
  tape : w'.tape = w.tape
  output : w'.output = w.output
  size : w.heap.size ≤ w'.heap.size
  block : ∀ k, k < w.heap.size → k ≠ lb → blk a ≠ some k → w'.heap[k]? = w.heap[k]?
theorem KeepL.below {lb B : Nat} {a : Option Addr} {w w' : World} (h : KeepL lb a w w') (h1 : B ≤ lb) (h2 : ∀ g, blk a = some g → B ≤ g) (hB : B ≤ w.heap.size) : Below B w w' :=
  ⟨h.os, h.tape, h.output, h.size, fun k hk => h.block k (by omega) (by omega) (fun e => by have := h2 k e; omega)⟩
set_option maxRecDepth 100000 in
theorem j34 (w : World) : Calls Try.prog 4 #[] w fun e w' => e = .returned (.pointer (some ⟨w.heap.size, 0, none⟩)) ∧ w' = w.alloc (.cells #[.slice none 0 0, .int .i64 0, .int .i64 0] 46) := by
  go_enter Try.func4, Try.ntmps4
  go_wp2_with fail
  go_ret
  exact ⟨rfl, rfl⟩
theorem log_new (w : World) (B : Nat) : LogAt (w.alloc (.cells #[.slice none 0 0, .int .i64 0, .int .i64 0] 46)) w.heap.size B ⟨none, 0, 0⟩ [] :=
  ⟨heap_alloc_new w _, row_nil _ _ _, by simp⟩
set_option maxRecDepth 100000 in
set_option maxHeartbeats 1000000 in
theorem j56 (lb B : Nat) (s : Sl) (xs : List Int) (w : World) (h : LogAt w lb B s xs) (hn : s.n ≤ 140737488355328) :
    Calls Try.prog 23 #[.pointer (some ⟨lb, 0, none⟩)] w fun e w' => e = .returned (.int .i64 ((s.n : Int) - (lastE (recs 0 xs) : Int))) ∧ ∃ d, w' = w.drewN d := by
  obtain ⟨c0, c1, c2, _⟩ := h.cells
  have hle := last_le xs
  rw [h.len] at hle
  generalize lastE (recs 0 xs) = le at *
  obtain ⟨a, n, c⟩ := s
  simp only at *
  clear h c1
  go_enter Try.func23, Try.ntmps23
  go_wp2_with fail
  go_quiet (fail)
  go_wp2_with fail
  go_ret
  exact ⟨rfl, _, rfl⟩
set_option maxRecDepth 100000 in
set_option maxHeartbeats 1000000 in
theorem j54 (lb B : Nat) (s : Sl) (xs : List Int) (w : World) (h : LogAt w lb B s xs) (hn : s.n ≤ 140737488355328) :
    Calls Try.prog 22 #[.pointer (some ⟨lb, 0, none⟩)] w fun e w' => e = .returned (.slice s.a (lastE (recs 0 xs)) (lastE (recs 0 xs))) ∧ ∃ d, w' = w.drewN d := by
  obtain ⟨c0, c1, c2, _⟩ := h.cells
  have hle := last_le xs
  rw [h.len] at hle
  have hcap := h.row.cap
  have hmem : s.a = none ∨ ∃ g, s.a = some ⟨g, 0, none⟩ := by
    rcases h.row.mem with ⟨e, _⟩ | ⟨g, cu, e, _⟩
    · exact .inl e
    · exact .inr ⟨g, e⟩
  generalize lastE (recs 0 xs) = le at *
  obtain ⟨a, n, c⟩ := s
  simp only at *
  clear h c1
  have h0 : (0 : Int) ≤ (le : Int) := by omega
  have h1 : (le : Int) ≤ (c : Int) := by omega
  rcases hmem with rfl | ⟨g, rfl⟩
  all_goals (
    go_enter Try.func22, Try.ntmps22
    go_wp2_with fail
    go_quiet (fail)
    go_wp2_with fail
    go_ret
    exact ⟨rfl, _, rfl⟩)
theorem log_cut {w : World} {lb B : Nat} {s : Sl} {xs : List Int} (h : LogAt w lb B s xs) (d : Nat) : LogAt ((w.drewN d).setCell ⟨lb, 0, none⟩ (.slice s.a (lastE (recs 0 xs)) (lastE (recs 0 xs)))) lb B ⟨s.a, lastE (recs 0 xs), lastE (recs 0 xs)⟩ (xs.take (lastE (recs 0 xs))) ∧ KeepL lb s.a w ((w.drewN d).setCell ⟨lb, 0, none⟩ (.slice s.a (lastE (recs 0 xs)) (lastE (recs 0 xs)))) := by
  have hle := last_le xs
  have hlen := h.len
  have hcap := h.row.cap
  have hmax := h.row.max
  refine ⟨⟨?_, ?_, fun x hx => h.rng x (List.mem_of_mem_take hx)⟩, rfl, rfl, rfl, by simp, fun k hk h1 _ => heap_setCell_other _ _ _ _ h1⟩
  · rw [recs_take h.rng, heap_setCell_same (w.drewN d) lb 0 _ 46 _ h.blk]
    rfl
  · have hr : Row (w.drewN d) B 5 s.a (lastE (recs 0 xs)) (lastE (recs 0 xs)) (u8s (xs.take (lastE (recs 0 xs)))) := by
      refine ⟨by simp [u8s]; omega, Nat.le_refl _, by omega, ?_⟩
      rcases h.row.mem with ⟨e1, e2⟩ | ⟨g, cu, e1, e2, e3, e4, e5⟩
      · exact .inl ⟨e1, by omega⟩
      · refine .inr ⟨g, cu, e1, e2, e3, by omega, ?_⟩
        have : u8s (xs.take (lastE (recs 0 xs))) = (u8s xs).take (lastE (recs 0 xs)) := by simp [u8s, List.map_take]
        rw [this, ← e5, List.take_take, Nat.min_eq_left (by omega)]
    exact hr.other _ h.ne
set_option maxRecDepth 100000 in
set_option maxHeartbeats 1000000 in
theorem j55 (lb B : Nat) (s : Sl) (xs : List Int) (w : World) (h : LogAt w lb B s xs) (hn : s.n ≤ 140737488355328) :
    Calls Try.prog 20 #[.pointer (some ⟨lb, 0, none⟩)] w fun e w' => e = .returned (.int .i64 ((s.n : Int) - (lastE (recs 0 xs) : Int))) ∧ LogAt w' lb B ⟨s.a, lastE (recs 0 xs), lastE (recs 0 xs)⟩ (xs.take (lastE (recs 0 xs))) ∧ KeepL lb s.a w w' := by
  have HC : Hid (∀ d, LogAt ((w.drewN d).setCell ⟨lb, 0, none⟩ (.slice s.a (lastE (recs 0 xs)) (lastE (recs 0 xs)))) lb B ⟨s.a, lastE (recs 0 xs), lastE (recs 0 xs)⟩ (xs.take (lastE (recs 0 xs))) ∧ KeepL lb s.a w ((w.drewN d).setCell ⟨lb, 0, none⟩ (.slice s.a (lastE (recs 0 xs)) (lastE (recs 0 xs))))) := log_cut h
  have HH : Hid (LogAt w lb B s xs) := h
  have c0 := h.cells.1
  have f0 := h.cells.2.2.2.1
  clear h
  go_enter Try.func20, Try.ntmps20
  go_wp2_with fail
  refine (j56 lb B s xs w HH.out hn).mono ?_
  rintro e w1 ⟨rfl, d1, rfl⟩
  go_wp2_with fail
  refine (j54 lb B s xs (w.drewN d1) (HH.out.below (below_dN (Below.refl _ _) _)) hn).mono ?_
  rintro e w2 ⟨rfl, d2, hw2⟩
  obtain ⟨d, hd⟩ : ∃ d, w2 = w.drewN d := ⟨d1 + d2, by rw [hw2]; simp [World.drewN, Nat.add_assoc]⟩
  subst hd
  clear hw2
  go_wp2_with fail
  go_ret
  exact ⟨rfl, HC.out d⟩
set_option maxRecDepth 100000 in
set_option maxHeartbeats 1000000 in
theorem j31 (lb B : Nat) (s : Sl) (xs : List Int) (w : World) (h : LogAt w lb B s xs) (hn : s.n ≤ 140737488355328) :
    Calls Try.prog 11 #[.pointer (some ⟨lb, 0, none⟩)] w fun e w' => e = .returned (.int .i64 ((s.n : Int) - (lastE (recs 0 xs) : Int))) ∧ LogAt w' lb B ⟨s.a, lastE (recs 0 xs), lastE (recs 0 xs)⟩ (xs.take (lastE (recs 0 xs))) ∧ KeepL lb s.a w w' := by
  have HH : Hid (LogAt w lb B s xs) := h
  clear h
  go_enter Try.func11, Try.ntmps11
  go_wp2_with fail
  refine (j55 lb B s xs w HH.out hn).mono ?_
  rintro e w1 ⟨rfl, h1, h2⟩
  have HF : Hid (LogAt w1 lb B ⟨s.a, lastE (recs 0 xs), lastE (recs 0 xs)⟩ (xs.take (lastE (recs 0 xs))) ∧ KeepL lb s.a w w1) := ⟨h1, h2⟩
  clear h1 h2
  go_wp2_with fail
  go_ret
  exact ⟨rfl, HF.out⟩
set_option maxRecDepth 100000 in
theorem j31_nil (w : World) : Calls Try.prog 11 #[.pointer none] w fun e w' => e = .returned (.int .i64 0) ∧ w' = w := by
  go_enter Try.func11, Try.ntmps11
  go_wp2_with fail
  go_ret
  exact ⟨rfl, rfl⟩
/-- Is a tail there? -/
def tornB (xs : List Int) : Bool := decide (lastE (recs 0 xs) < xs.length)
end Go.Proofs.Ytopljcabcknaeaa
