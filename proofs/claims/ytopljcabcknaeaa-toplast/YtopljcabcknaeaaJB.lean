/- Contracts of Record (both) and of bytes.Clone. -/
import Derived.Test.YtopljcabcknaeaaJA
import Derived.Lib.SliceRun
namespace Go.Proofs.Ytopljcabcknaeaa
open Go.RowKit
attribute [local go_sem ↓] Go.wp_at_zero Go.wp_at_succ
/-- The record of a payload. -/
def recI (xs : List Int) : List Int := fourI xs.length ++ fourI (sumB xs).toNat ++ xs
theorem recI_length (xs : List Int) : (recI xs).length = 8 + xs.length := by simp [recI, fourI]; omega
theorem sumB_lt (xs : List Int) : ((sumB xs).toNat : Int) < 4294967296 := by have := (sumB xs).isLt; omega
theorem recI_byte {xs : List Int} (hl : xs.length ≤ 131072) (h : ∀ x ∈ xs, Byte x) : ∀ x ∈ recI xs, Byte x := by
  intro x hx
  simp only [recI, List.mem_append] at hx
  rcases hx with (hx | hx) | hx
  · exact fourI_byte (by omega) (by omega) x hx
  · exact fourI_byte (by omega) (sumB_lt xs) x hx
  · exact h x hx
/-- Bytes of the caller's own. -/
def Fresh (w : World) (a : Option Addr) (n c : Nat) (xs : List Int) (w' : World) : Prop := Row w' w.heap.size 5 a n c (u8s xs) ∧ Below w.heap.size w w'
set_option maxRecDepth 100000 in
theorem j10_long (a : Option Addr) (n c : Nat) (w : World) (hn : n ≤ 140737488355328) (hl : 131072 < n) :
    Calls Try.prog 24 #[.slice a n c] w fun e w' => e = .returned (.tuple #[.slice none 0 0, .int .i64 5]) ∧ w' = w := by
  have h1 : (131072 : Int) < (n : Int) := by omega
  go_enter Try.func24, Try.ntmps24
  go_wp2_with fail
  go_ret2
  exact ⟨rfl, rfl⟩
set_option maxRecDepth 100000 in
set_option maxHeartbeats 1000000 in
theorem j10x (a : Option Addr) (n c : Nat) (xs : List Int) (w : World) (h : By w a n c xs) (hl : n ≤ 131072) :
    Calls Try.prog 24 #[.slice a n c] w fun e w' => ∃ a' c', e = .returned (.tuple #[.slice a' (8 + n) c', .int .i64 0]) ∧ Fresh w a' (8 + n) c' (recI xs) w' ∧ Ex w' 5 a' c' := by
  obtain ⟨i0, hi, hz, hs, hb⟩ := infoU8
  have HB : Hid (By w a n c xs) := h
  have HL : Hid (xs.length = n) := h.len
  have HN : Hid (a = none → n = 0) := h.nil0
  have h1 : ¬ (131072 : Int) < (n : Int) := by omega
  have hmk : ∃ w1, (Instr.makeSlice 29 (.int .i64 0) (.int .i64 ((8 : Int) + (n : Int)))).run Try.prog w = .ok (.slice (some ⟨w.heap.size, 0, none⟩) 0 (8 + n)) w1 ∧ Row w1 w.heap.size 5 (some ⟨w.heap.size, 0, none⟩) 0 (8 + n) (u8s []) ∧ Below w.heap.size w w1 ∧ Ex w1 5 (some ⟨w.heap.size, 0, none⟩) (8 + n) := by
    obtain ⟨w1, hr, ho, hg⟩ := run_make_own (P := Try.prog) w w.heap.size 29 5 i0 (.int .u8 0) 1 Try.underlying29 hi hz hs .i64 .i64 (8 + n) (by rw [hb]; omega) (by unfold maxLen; omega) (Nat.le_refl _)
    obtain ⟨a1, c1, e1, hrow⟩ := Row.of_owns ho
    cases e1
    refine ⟨w1, by rw [show ((8 : Int) + (n : Int)) = ((8 + n : Nat) : Int) by omega]; exact hr, hrow, (Below.refl _ w).grown hg (Nat.le_refl _) (fun g hg => by cases hg), ex_of_owns ho⟩
  obtain ⟨w1, hmr, hrow, hbl, hex1⟩ := hmk
  have HM : Hid (Row w1 w.heap.size 5 (some ⟨w.heap.size, 0, none⟩) 0 (8 + n) (u8s []) ∧ Below w.heap.size w w1 ∧ Ex w1 5 (some ⟨w.heap.size, 0, none⟩) (8 + n)) := ⟨hrow, hbl, hex1⟩
  clear h hrow hbl hex1
  go_enter Try.func24, Try.ntmps24
  go_wp2_with fail
  refine (j37 _ 0 (8 + n) w.heap.size [] n w1 HM.out.1 HM.out.2.2 HM.out.2.1.size (by omega) (by omega) (by omega)).mono ?_
  rintro e w2 ⟨a2, c2, rfl, hr2, hb2, hx2⟩
  have HM2 : Hid (Row w2 w.heap.size 5 a2 4 c2 (u8s (fourI n)) ∧ Below w.heap.size w w2 ∧ Ex w2 5 a2 c2) := ⟨by simpa using hr2, HM.out.2.1.trans hb2, hx2⟩
  clear hr2 hb2 HM hmr hx2
  simp only [Nat.zero_add]
  go_wp2_with fail
  refine (j16 a n c xs w2 (HB.out.below HM2.out.2.1) (by omega)).mono ?_
  rintro e w3 ⟨rfl, rfl⟩
  have hs0 := sumB_lt xs
  have hs1 : (0 : Int) ≤ ((sumB xs).toNat : Int) := by omega
  have HS : Hid (u8s (recI xs) = u8s (fourI n ++ fourI (sumB xs).toNat) ++ u8s xs) := by
    show u8s (recI xs) = _
    rw [← u8s_append, recI, HL.out]
  generalize ((sumB xs).toNat : Int) = sm at *
  go_wp2_with fail
  refine (j37 _ 4 c2 w.heap.size (fourI n) sm w3 HM2.out.1 HM2.out.2.2 HM2.out.2.1.size (by omega) hs1 hs0).mono ?_
  rintro e w4 ⟨a4, c4, rfl, hr4, hb4, hx4⟩
  have HM4 : Hid (Row w4 w.heap.size 5 a4 8 c4 (u8s (fourI n ++ fourI sm)) ∧ Below w.heap.size w w4 ∧ Ex w4 5 a4 c4) := ⟨hr4, HM2.out.2.1.trans hb4, hx4⟩
  clear hr4 hb4 hx4
  simp only [Nat.reduceAdd]
  go_wp2_with (at_builtin; refine wpList_append_row_ex _ rfl _ _ 29 rfl w.heap.size 5 i0 (.int .u8 0) 1 Try.underlying29 hi hz hs hb rfl a4 8 c4 (u8s (fourI n ++ fourI sm)) rfl HM4.out.1 HM4.out.2.2 a n c (u8s xs) rfl (HB.out.below HM4.out.2.1).reads (u8s_one _) HN.out (by unfold maxLen; omega) (by omega) HM4.out.2.1.size ?_)
  intro a' c' w' hr' hg' ho' hx'
  have HF : Hid (Fresh w a' (8 + n) c' (recI xs) w' ∧ Ex w' 5 a' c') := ⟨⟨by rw [HS.out]; exact hr', HM4.out.2.1.grown hg' HM4.out.2.1.size (fun g hg => (HM4.out.1.lt hg).1)⟩, hx'⟩
  clear hr' hg' ho' hx'
  go_wp2_with fail
  go_ret2
  exact ⟨_, _, rfl, HF.out⟩
theorem j10 (a : Option Addr) (n c : Nat) (xs : List Int) (w : World) (h : By w a n c xs) (hl : n ≤ 131072) :
    Calls Try.prog 24 #[.slice a n c] w fun e w' => ∃ a' c', e = .returned (.tuple #[.slice a' (8 + n) c', .int .i64 0]) ∧ Fresh w a' (8 + n) c' (recI xs) w' :=
  (j10x a n c xs w h hl).mono fun _ _ ⟨a', c', h1, h2, _⟩ => ⟨a', c', h1, h2⟩
set_option maxRecDepth 100000 in
set_option maxHeartbeats 2000000 in
theorem j40x (a : Option Addr) (n c : Nat) (xs : List Int) (w : World) (h : By w a n c xs) (hn : n ≤ 140737488355328) :
    Calls Try.prog 18 #[.slice a n c] w fun e w' => ∃ a' c', e = .returned (.slice a' n c') ∧ Fresh w a' n c' xs w' ∧ Ex w' 5 a' c' := by
  obtain ⟨i0, hi, hz, hs, hb0⟩ := infoU8
  have hnl := fun (a : Option Addr) (n c : Nat) => Lib.run_eql_slice_nil (P := Try.prog) w 29 5 a n c 0 0 Try.underlying29
  have HR0 : Hid (Row (w.alloc (.cells #[] 5)) w.heap.size 5 (some ⟨w.heap.size, 0, none⟩) 0 0 [] ∧ Below w.heap.size w (w.alloc (.cells #[] 5)) ∧ Ex (w.alloc (.cells #[] 5)) 5 (some ⟨w.heap.size, 0, none⟩) 0) := ⟨⟨rfl, Nat.le_refl _, Nat.zero_le _, .inr ⟨_, _, rfl, Nat.le_refl _, heap_alloc_new w _, Nat.le_refl _, rfl⟩⟩, (Below.refl _ w).alloc (Nat.le_refl _) _, fun g hg => by cases hg; exact ⟨_, heap_alloc_new w _, rfl⟩⟩
  have HB : Hid (By w a n c xs) := h
  cases a with
  | none =>
    have hc0 := h.nil rfl
    have hn0 := h.nil0 rfl
    have hx0 : xs = [] := List.eq_nil_of_length_eq_zero (by rw [h.len, hn0])
    subst hc0
    subst hn0
    subst hx0
    go_enter Try.func18, Try.ntmps18
    go_wp2_with fail
    go_ret
    exact ⟨_, _, rfl, ⟨row_nil _ _ _, Below.refl _ _⟩, ex_nil _ _⟩
  | some ad =>
    clear h
    go_enter Try.func18, Try.ntmps18
    go_wp2_with (at_builtin; refine wpList_append_row_ex _ rfl _ _ 29 rfl w.heap.size 5 i0 (.int .u8 0) 1 Try.underlying29 hi hz hs hb0 rfl (some ⟨w.heap.size, 0, none⟩) 0 0 [] rfl HR0.out.1 HR0.out.2.2 (some ad) n c (u8s xs) rfl (HB.out.below HR0.out.2.1).reads (u8s_one _) (fun e => by cases e) (by unfold maxLen; omega) (by omega) HR0.out.2.1.size ?_)
    intro a' c' w' hr' hg' ho' hx'
    have HF : Hid (Fresh w a' n c' xs w' ∧ Ex w' 5 a' c') := ⟨⟨by simpa using hr', HR0.out.2.1.grown hg' HR0.out.2.1.size (fun g hg => (HR0.out.1.lt hg).1)⟩, hx'⟩
    clear hr' hg' ho' hx'
    try simp only [Nat.zero_add]
    go_wp2_with fail
    go_ret
    exact ⟨_, _, rfl, HF.out⟩
theorem j40 (a : Option Addr) (n c : Nat) (xs : List Int) (w : World) (h : By w a n c xs) (hn : n ≤ 140737488355328) :
    Calls Try.prog 18 #[.slice a n c] w fun e w' => ∃ a' c', e = .returned (.slice a' n c') ∧ Fresh w a' n c' xs w' :=
  (j40x a n c xs w h hn).mono fun _ _ ⟨a', c', h1, h2, _⟩ => ⟨a', c', h1, h2⟩
end Go.Proofs.Ytopljcabcknaeaa
