/- Contract of the statement on names: for every text and names it returns true. -/
import Derived.Test.YtpepogmkbcbmpaaDoorHP2
import Derived.Test.YtpepogmkbcbmpaaDoorW18
import Derived.Deep.RegionHeld3
import Derived.Deep.DrawnRows
namespace Go.Proofs.YtpepogmkbcbmpaaDoor
open Go.RowKit
attribute [local go_sem ↓] Go.wp_at_zero Go.wp_at_succ
def neName (a0 a1 b0 b1 : Int) : Bool := !((a0 == b0) && (a1 == b1))
set_option maxHeartbeats 1000000 in
theorem neq23 (a0 a1 b0 b1 : Int) (w : World) :
    (binOp .neq 23 (.agg #[.int .i64 a0, .int .i64 a1]) (.agg #[.int .i64 b0, .int .i64 b1])).run Tryd.prog w = .ok (.bool (neName a0 a1 b0 b1)) w := by
  unfold neName
  cases h1 : (a0 == b0) <;> cases h2 : (a1 == b1) <;> go_simp
theorem less_both (a0 a1 b0 b1 : Int) : (lessB a0 a1 b0 b1 && lessB b0 b1 a0 a1) = false := by
  unfold lessB
  rw [Bool.eq_false_iff]
  simp only [ne_eq, Bool.and_eq_true, Bool.or_eq_true, decide_eq_true_eq, beq_iff_eq]
  omega
theorem less_one (a0 a1 b0 b1 : Int) : (lessB a0 a1 b0 b1 || lessB b0 b1 a0 a1) = neName a0 a1 b0 b1 := by
  unfold lessB neName
  rw [Bool.eq_iff_iff]
  simp only [Bool.or_eq_true, Bool.and_eq_true, decide_eq_true_eq, beq_iff_eq, Bool.not_eq_true', Bool.and_eq_false_iff, beq_eq_false_iff_ne, ne_eq]
  omega
abbrev NnS (w : World) (a0 a1 b0 b1 : Int) (w' : World) : Prop :=
  w'.cell? ⟨w.heap.size, 0, none⟩ = some (.int .i64 a0) ∧ w'.cell? ⟨w.heap.size, 1, none⟩ = some (.int .i64 a1) ∧ w'.cell? ⟨w.heap.size + 1, 0, none⟩ = some (.int .i64 b0) ∧ w'.cell? ⟨w.heap.size + 1, 1, none⟩ = some (.int .i64 b1) ∧ Hid (Below w.heap.size w w' ∧ w.heap.size + 1 < w'.heap.size)
theorem nnS_drew {w : World} {a0 a1 b0 b1 : Int} {w' : World} (h : NnS w a0 a1 b0 b1 w') : NnS w a0 a1 b0 b1 w'.drew :=
  ⟨by simpa using h.1, by simpa using h.2.1, by simpa using h.2.2.1, by simpa using h.2.2.2.1, h.2.2.2.2.out.1.drew, h.2.2.2.2.out.2⟩
theorem nnS_below {w : World} {a0 a1 b0 b1 : Int} {w' w'' : World} (h : NnS w a0 a1 b0 b1 w') (hb : Below w'.heap.size w' w'') : NnS w a0 a1 b0 b1 w'' := by
  obtain ⟨h1, h2, h3, h4, h5⟩ := h
  have h9 := h5.out
  have := hb.size
  have hz : w.heap.size < w'.heap.size := by omega
  exact ⟨(hb.cell (p := ⟨_, _, none⟩) hz).trans h1, (hb.cell (p := ⟨_, _, none⟩) hz).trans h2, (hb.cell (p := ⟨_, _, none⟩) h9.2).trans h3, (hb.cell (p := ⟨_, _, none⟩) h9.2).trans h4, h9.1.trans (hb.mono (by omega)), by omega⟩
theorem nnS_hb {w : World} {a0 a1 b0 b1 : Int} {w' : World} (h : NnS w a0 a1 b0 b1 w') : Below w.heap.size w w' := h.2.2.2.2.out.1
theorem nnS_new (w : World) (a0 a1 b0 b1 : Int) : NnS w a0 a1 b0 b1 ((w.alloc (.cells #[.int .i64 a0, .int .i64 a1] 23)).alloc (.cells #[.int .i64 b0, .int .i64 b1] 23)) := by
  refine ⟨cell_alloc (by simp) (cell_new _ _ _ _ _ rfl), cell_alloc (by simp) (cell_new _ _ _ _ _ rfl), ?_, ?_, (below_alloc w _).alloc (by simp) _, by simp⟩
  · have h := cell_new (w.alloc (.cells #[.int .i64 a0, .int .i64 a1] 23)) #[.int .i64 b0, .int .i64 b1] 23 0 _ rfl
    rw [World.size_alloc] at h; exact h
  · have h := cell_new (w.alloc (.cells #[.int .i64 a0, .int .i64 a1] 23)) #[.int .i64 b0, .int .i64 b1] 23 1 _ rfl
    rw [World.size_alloc] at h; exact h
set_option maxRecDepth 100000 in
set_option maxHeartbeats 4000000 in
theorem c6 (s : ByteArray) (a0 a1 b0 b1 : Int) (w : World) (hS : Signs w) (hs : s.size ≤ maxLen) :
    Calls Tryd.prog 6 #[.string s, .agg #[.int .i64 a0, .int .i64 a1], .agg #[.int .i64 b0, .int .i64 b1]] w fun e w' => e = .returned (.bool true) ∧ Below w.heap.size w w' := by
  have HS : Hid (Signs w) := hS
  have H1 := c38 a0 a1 b0 b1
  have H2 := c38 b0 b1 a0 a1
  have H3 := c41 a0 a1 b0 b1
  have H39 := fun w => c39 s w hs
  have H40 := fun w => c40 s w hs
  have hNe := neq23 a0 a1 b0 b1
  have hA := less_both a0 a1 b0 b1
  have hB := less_one a0 a1 b0 b1
  generalize lessB a0 a1 b0 b1 = x at *
  generalize lessB b0 b1 a0 a1 = y at *
  generalize neName a0 a1 b0 b1 = z at *
  generalize isNameB s.data.toList = q at *
  have H1 : Hid (∀ w : World, Calls Tryd.prog 38 #[.agg #[.int .i64 a0, .int .i64 a1], .agg #[.int .i64 b0, .int .i64 b1]] w fun e w' => e = .returned (.bool x) ∧ Below w.heap.size w w') := H1
  have H2 : Hid (∀ w : World, Calls Tryd.prog 38 #[.agg #[.int .i64 b0, .int .i64 b1], .agg #[.int .i64 a0, .int .i64 a1]] w fun e w' => e = .returned (.bool y) ∧ Below w.heap.size w w') := H2
  have H3 : Hid (∀ w : World, Calls Tryd.prog 41 #[.agg #[.int .i64 a0, .int .i64 a1], .agg #[.int .i64 b0, .int .i64 b1]] w fun e w' => e = .returned (.bool x) ∧ Below w.heap.size w w') := H3
  have H39 : Hid (∀ w : World, Calls Tryd.prog 39 #[.string s] w fun e w' => e = .returned (.bool q) ∧ w' = w) := H39
  have H40 : Hid (∀ w : World, Calls Tryd.prog 40 #[.string s] w fun e w' => e = .returned (.bool q) ∧ w' = w) := H40
  have hS0 : Hid (NnS w a0 a1 b0 b1 ((w.alloc (.cells #[.int .i64 a0, .int .i64 a1] 23)).alloc (.cells #[.int .i64 b0, .int .i64 b1] 23))) := nnS_new w a0 a1 b0 b1
  have H12 : Hid (∀ w' : World, Below w.heap.size w w' → Calls Tryd.prog 12 #[] w' fun e w'' => e = .returned (.bool true) ∧ Below w'.heap.size w' w'') := fun w' hb => c12 w' (HS.out.below hb)
  clear hS hs
  subst hB
  cases x <;> cases y <;> simp at hA
  all_goals
    go_enter Tryd.func6, Tryd.ntmps6
    go_wp2_with fail
    go_region_held3 (fun w' => NnS w a0 a1 b0 b1 w')
      (first | exact nnS_drew hS0.out | (refine nnS_drew ?_; assumption) | assumption | exact nnS_below (by assumption) (by assumption))
      (first | (go_at_call_of 38 (#[Value.agg #[Value.int IntKind.i64 a0, Value.int IntKind.i64 a1], Value.agg #[Value.int IntKind.i64 b0, Value.int IntKind.i64 b1]]); refine (H1.out _).mono ?_; rintro e w' ⟨rfl, hb1⟩) | (go_at_call 38; refine (H2.out _).mono ?_; rintro e w' ⟨rfl, hb2⟩))
    have hH0 := ‹NnS w a0 a1 b0 b1 _›
    have HH0 : Hid (NnS w a0 a1 b0 b1 _) := hH0
    clear hH0
    go_wp2_with fail
    refine (H12.out _ (nnS_hb HH0.out)).mono ?_
    rintro e w3 ⟨rfl, hb3⟩
    have hH3 := nnS_below HH0.out hb3
    have HH3 : Hid (NnS w a0 a1 b0 b1 _) := hH3
    obtain ⟨p1, p2, p3, p4, p5⟩ := hH3
    go_wp2_with fail
    refine (H39.out _).mono ?_
    rintro e w4 ⟨rfl, rfl⟩
    go_wp2_with fail
    refine (H40.out _).mono ?_
    rintro e w5 ⟨rfl, rfl⟩
    go_wp2_with fail
    refine (H3.out _).mono ?_
    rintro e w6 ⟨rfl, hb6⟩
    have hH6 := nnS_below HH3.out hb6
    have HH6 : Hid (NnS w a0 a1 b0 b1 _) := hH6
    obtain ⟨q1, q2, q3, q4, q5⟩ := hH6
    go_wp2_with fail
    go_ret
    exact ⟨rfl, nnS_hb HH6.out⟩
end Go.Proofs.YtpepogmkbcbmpaaDoor
