/- Contracts of a link of two nodes, of node 0, that has sent to node 1: what live asks. -/
import Derived.Test.YtopljcabcknaeaaLkLA
import Derived.Lib.SliceRun
namespace Go.Proofs.Ytopljcabcknaeaa.Lk
open Go.RowKit
attribute [local go_sem ↓] Go.wp_at_zero Go.wp_at_succ
theorem below_dN {n : Nat} {w w' : World} (h : Below n w w') (m : Nat) : Below n w (w'.drewN m) := by
  exact below_drewN h m
/-- A slice's three parts. -/
structure Sl where
  a : Option Addr
  n : Nat
  c : Nat
abbrev Sl.v (s : Sl) : Value := .slice s.a s.n s.c
def Fresh (w : World) (a : Option Addr) (n c : Nat) (xs : List Int) (w' : World) : Prop := Row w' w.heap.size 5 a n c (u8s xs) ∧ Below w.heap.size w w'
set_option maxRecDepth 100000 in
set_option maxHeartbeats 1000000 in
theorem l41 (a : Option Addr) (n c : Nat) (xs : List Int) (w : World) (h : By w a n c xs) (hn : n ≤ 140737488355328) :
    Calls Try.prog 18 #[.slice a n c] w fun e w' => ∃ a' c', e = .returned (.slice a' n c') ∧ Fresh w a' n c' xs w' := by
  obtain ⟨i0, hi, hz, hs, hb0⟩ := infoU8
  have hnl := fun (a : Option Addr) (n c : Nat) => Lib.run_eql_slice_nil (P := Try.prog) w 29 5 a n c 0 0 Try.underlying29
  have HR0 : Hid (Row (w.alloc (.cells #[] 5)) w.heap.size 5 (some ⟨w.heap.size, 0, none⟩) 0 0 [] ∧ Below w.heap.size w (w.alloc (.cells #[] 5))) := ⟨⟨rfl, Nat.le_refl _, Nat.zero_le _, .inr ⟨_, _, rfl, Nat.le_refl _, heap_alloc_new w _, Nat.le_refl _, rfl⟩⟩, (Below.refl _ w).alloc (Nat.le_refl _) _⟩
  have HB : Hid (By w a n c xs) := h
  cases a with
  | none =>
    have hc0 := h.nil rfl
    have hn0 := h.nil0 rfl
    have hx0 : xs = [] := List.eq_nil_of_length_eq_zero (by rw [h.len, hn0])
    subst hc0
    subst hn0
    subst hx0
    go_enter Try.func18, Try.ntmps18
    go_wp2_with fail
    go_ret
    exact ⟨_, _, rfl, row_nil _ _ _, Below.refl _ _⟩
  | some ad =>
    clear h
    go_enter Try.func18, Try.ntmps18
    go_wp2_with (at_builtin; refine wpList_append_row _ rfl _ _ 29 rfl w.heap.size 5 i0 (.int .u8 0) 1 Try.underlying29 hi hz hs hb0 rfl (some ⟨w.heap.size, 0, none⟩) 0 0 [] rfl HR0.out.1 (some ad) n c (u8s xs) rfl (HB.out.below HR0.out.2).reads (u8s_one _) (fun e => by cases e) (by unfold maxLen; omega) (by omega) HR0.out.2.size ?_)
    intro a' c' w' hr' hg' ho' hx' hy'
    have HF : Hid (Fresh w a' n c' xs w') := ⟨by simpa using hr', HR0.out.2.grown hg' HR0.out.2.size (fun g hg => (HR0.out.1.lt hg).1)⟩
    clear hr' hg' ho' hx' hy'
    try simp only [Nat.zero_add]
    go_wp2_with fail
    go_ret
    exact ⟨_, _, rfl, HF.out⟩
/-- The link's cells. -/
abbrev lkV (fi : Int) (s : Sl) : Array Value := #[.int .i64 0, .int .i64 2, .int .i64 0, .int .i64 0, .slice none 0 0, .int .i64 0, .int .i64 fi, .slice s.a s.n s.c, .int .i64 0, .int .i64 0, .slice none 0 0, .int .i64 0, .int .i64 0, .slice none 0 0]
def LkB (w : World) (lb : Nat) (fi : Int) (s : Sl) : Prop := w.heap[lb]? = some (.cells (lkV fi s) 51 (0, 0))
/-- Its cells that are read and written, one by one. -/
structure LkC (w : World) (lb : Nat) (fi : Int) (s : Sl) : Prop where
  c0 : w.cell? ⟨lb, 0, none⟩ = some (.int .i64 0)
  c1 : w.cell? ⟨lb, 1, none⟩ = some (.int .i64 2)
  c6 : w.cell? ⟨lb, 6, none⟩ = some (.int .i64 fi)
  c7 : w.cell? ⟨lb, 7, none⟩ = some (.slice s.a s.n s.c)
  f6 : w.frozen? ⟨lb, 6, none⟩ = false
  f7 : w.frozen? ⟨lb, 7, none⟩ = false
theorem LkB.cells {w : World} {lb : Nat} {fi : Int} {s : Sl} (h : LkB w lb fi s) : LkC w lb fi s :=
  ⟨by rw [cell_of_row w lb 0 _ 51 (0, 0) h]; rfl, by rw [cell_of_row w lb 1 _ 51 (0, 0) h]; rfl, by rw [cell_of_row w lb 6 _ 51 (0, 0) h]; rfl, by rw [cell_of_row w lb 7 _ 51 (0, 0) h]; rfl, frozen_of_row w lb 6 _ 51 h, frozen_of_row w lb 7 _ 51 h⟩
theorem LkB.below {w w' : World} {lb : Nat} {fi : Int} {s : Sl} (h : LkB w lb fi s) (hb : Below w.heap.size w w') : LkB w' lb fi s := (hb.block lb (Array.getElem?_eq_some_iff.1 h).1).trans h
set_option maxRecDepth 100000 in
theorem l7 (w : World) : Calls Try.prog 5 #[.int .i64 0, .int .i64 2] w fun e w' => e = .returned (.tuple #[.pointer (some ⟨w.heap.size, 0, none⟩), .int .i64 0]) ∧ w' = w.alloc (.cells (lkV 0 ⟨none, 0, 0⟩) 51) := by
  go_enter Try.func5, Try.ntmps5
  go_wp2_with fail
  go_ret2
  exact ⟨rfl, rfl⟩
set_option maxRecDepth 100000 in
theorem l33 (lb : Nat) (fi : Int) (s : Sl) (w : World) (h : LkB w lb fi s) : Calls Try.prog 15 #[.pointer (some ⟨lb, 0, none⟩), .int .i64 1] w fun e w' => e = .returned (.tuple #[.pointer (some ⟨lb, 5, none⟩), .int .i64 0]) ∧ w' = w := by
  obtain ⟨c0, c1, c6, c7, f6, f7⟩ := h.cells
  clear h
  go_enter Try.func15, Try.ntmps15
  go_wp2_with fail
  go_ret2
  exact ⟨rfl, rfl⟩
set_option maxRecDepth 100000 in
theorem l38 (lb : Nat) (fi : Nat) (s : Sl) (w : World) (h : LkB w lb fi s) (hf : fi + s.n ≤ 1000000000) : Calls Try.prog 26 #[.pointer (some ⟨lb, 5, none⟩)] w fun e w' => e = .returned (.int .i64 ((fi : Int) + (s.n : Int))) ∧ ∃ d, w' = w.drewN d := by
  obtain ⟨c0, c1, c6, c7, f6, f7⟩ := h.cells
  have h1 : (fi : Int) + (s.n : Int) ≤ 1000000000 := by omega
  have h0 : 0 ≤ (fi : Int) + (s.n : Int) := by omega
  clear h
  go_enter Try.func26, Try.ntmps26
  go_wp2_with fail
  go_quiet (fail)
  go_wp2_with fail
  go_ret
  exact ⟨rfl, _, rfl⟩
end Go.Proofs.Ytopljcabcknaeaa.Lk
