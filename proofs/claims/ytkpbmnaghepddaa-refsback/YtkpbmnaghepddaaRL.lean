/- Contract of RefsBack. -/
import Derived.Test.YtkpbmnaghepddaaRK
namespace Go.Proofs.Ytkpbmnaghepddaa
open Go.RowKit
attribute [local go_sem ↓] Go.wp_at_zero Go.wp_at_succ
/-- A table, a name and three numbers in memory. -/
structure Bs (w0 w : World) (tb eb ib vb ab n : Nat) (x2 a b c : Int) (f g : Hk → Int) : Prop where
  tab : RtAt w w0.heap.size tb eb ib n 0 4 f g
  box : w.heap[vb]? = some (.cells #[.int .i64 0, .int .i64 x2] 48 (0, 0))
  arr : w.heap[ab]? = some (.cells #[.int .u8 a, .int .u8 b, .int .u8 c] 49 (0, 0))
  bel : Below w0.heap.size w0 w
section
variable {w0 w w' : World} {tb eb ib vb ab n n' : Nat} {x2 a b c : Int} {f f' g g' : Hk → Int}
theorem Bs.to (h : Bs w0 w tb eb ib vb ab n x2 a b c f g) (ht : RtIs w w0.heap.size tb eb ib n' 0 4 f' g' w') : Bs w0 w' tb eb ib vb ab n' x2 a b c f' g' :=
  ⟨ht.1, (ht.2.block vb (Array.getElem?_eq_some_iff.1 h.box).1 (h.tab.ex.ne_cells h.box) (h.tab.im.ne_cells h.box)).trans h.box, (ht.2.block ab (Array.getElem?_eq_some_iff.1 h.arr).1 (h.tab.ex.ne_cells h.arr) (h.tab.im.ne_cells h.arr)).trans h.arr, h.bel.trans (ht.2.below h.tab.hb.1 h.tab.hb.2 h.bel.size)⟩
theorem Bs.below (h : Bs w0 w tb eb ib vb ab n x2 a b c f g) (hb : Below w.heap.size w w') : Bs w0 w' tb eb ib vb ab n x2 a b c f g := h.to (RtIs.of h.tab hb)
theorem Bs.le (h : Bs w0 w tb eb ib vb ab n x2 a b c f g) (hn : n ≤ n') : Bs w0 w tb eb ib vb ab n' x2 a b c f g := ⟨h.tab.le hn, h.box, h.arr, h.bel⟩
theorem Bs.cells (h : Bs w0 w tb eb ib vb ab n x2 a b c f g) : w.cell? ⟨vb, 0, none⟩ = some (.int .i64 0) ∧ w.cell? ⟨vb, 1, none⟩ = some (.int .i64 x2) := box2 h.box
end
/-- And another name. -/
def Bt (w0 w : World) (tb eb ib vb ab ub n : Nat) (x2 a b c : Int) (g : Hk → Int) : Prop := Bs w0 w tb eb ib vb ab n x2 a b c (fun _ => 0) g ∧ w.heap[ub]? = some (.cells #[.int .i64 2, .int .i64 x2] 48 (0, 0))
abbrev BtS (w0 w : World) (tb eb ib vb ab ub n : Nat) (x2 a b c : Int) : Prop :=
  w.cell? ⟨vb, 0, none⟩ = some (.int .i64 0) ∧ w.cell? ⟨vb, 1, none⟩ = some (.int .i64 x2) ∧ w.cell? ⟨ub, 0, none⟩ = some (.int .i64 2) ∧ w.cell? ⟨ub, 1, none⟩ = some (.int .i64 x2) ∧ w.cell? ⟨ab, 0, none⟩ = some (.int .u8 a) ∧ Hid (∃ g, Bt w0 w tb eb ib vb ab ub n x2 a b c g)
section
variable {w0 w w' : World} {tb eb ib vb ab ub n n' : Nat} {x2 a b c : Int} {g g' : Hk → Int}
theorem Bt.to (h : Bt w0 w tb eb ib vb ab ub n x2 a b c g) (ht : RtIs w w0.heap.size tb eb ib n' 0 4 (fun _ => 0) g' w') : Bt w0 w' tb eb ib vb ab ub n' x2 a b c g' :=
  ⟨h.1.to ht, (ht.2.block ub (Array.getElem?_eq_some_iff.1 h.2).1 (h.1.tab.ex.ne_cells h.2) (h.1.tab.im.ne_cells h.2)).trans h.2⟩
theorem Bt.below (h : Bt w0 w tb eb ib vb ab ub n x2 a b c g) (hb : Below w.heap.size w w') : Bt w0 w' tb eb ib vb ab ub n x2 a b c g := h.to (RtIs.of h.1.tab hb)
end
theorem bts {w0 w : World} {tb eb ib vb ab ub n : Nat} {x2 a b c : Int} {g : Hk → Int} (h : Hid (Bt w0 w tb eb ib vb ab ub n x2 a b c g)) : BtS w0 w tb eb ib vb ab ub n x2 a b c :=
  ⟨h.out.1.cells.1, h.out.1.cells.2, (box2 h.out.2).1, (box2 h.out.2).2, (box3 h.out.1.arr).1, _, h.out⟩
theorem bts_drew {w0 w : World} {tb eb ib vb ab ub n : Nat} {x2 a b c : Int} {g : Hk → Int} (h : Hid (Bt w0 w tb eb ib vb ab ub n x2 a b c g)) : BtS w0 w.drew tb eb ib vb ab ub n x2 a b c :=
  bts (h.out.below ((Below.refl _ w).drew))
/-- The three numbers, by their places. -/
def tri (a b c : Int) (m : Nat) : Int := if m = 0 then a else if m = 1 then b else c
def kT (a b c : Int) (j : Int) : Int := tri a b c (j - 1).toNat % 20
def cI (a b c : Int) (m : Nat) (k : Int) : Int → Int := fun j => if 1 ≤ j ∧ j ≤ m then kT a b c j else if j = m + 1 then k else 0
def cR (a b c : Int) (m : Nat) : Int → Int := fun j => if (m : Int) < j ∧ j ≤ 3 then kT a b c j else 0
theorem cI_up (a b c : Int) (m : Nat) (k : Int) : upC (cI a b c m k) ((m : Int) + 1) 1 = cI a b c m (k + 1) := by
  funext j
  unfold upC cI
  by_cases e : j = (m : Int) + 1
  · subst e
    rw [if_pos rfl, if_neg (by omega), if_pos rfl, if_neg (by omega), if_pos rfl]
  · rw [if_neg e, if_neg e, if_neg e]
theorem cI_at (a b c : Int) (m : Nat) (k : Int) : cI a b c m k ((m : Int) + 1) = k := by
  unfold cI
  rw [if_neg (by omega), if_pos rfl]
theorem cI_next (a b c : Int) (m : Nat) : cI a b c m (kT a b c ((m : Int) + 1)) = cI a b c (m + 1) 0 := by
  funext j
  unfold cI
  by_cases e : j = (m : Int) + 1
  · subst e
    rw [if_neg (by omega), if_pos rfl, if_pos (by omega)]
  · by_cases e1 : 1 ≤ j ∧ j ≤ (m : Int)
    · rw [if_pos e1, if_pos (by omega)]
    · rw [if_neg e1, if_neg e, if_neg (by omega)]
      split <;> rfl
theorem cI_end (a b c : Int) : cI a b c 3 0 = cR a b c 0 := by
  funext j
  unfold cI cR
  by_cases e : 1 ≤ j ∧ j ≤ ((3 : Nat) : Int)
  · rw [if_pos e, if_pos ⟨by omega, by omega⟩]
  · have e2 : ¬ (((0 : Nat) : Int) < j ∧ j ≤ 3) := by omega
    rw [if_neg e, if_neg e2, ite_self]
theorem cI_zero (a b c : Int) : cI a b c 0 0 = fun _ => 0 := by
  funext j
  unfold cI
  rw [if_neg (by omega)]
  split <;> rfl
theorem cR_at (a b c : Int) (m : Nat) (h : m < 3) : cR a b c m ((m : Int) + 1) = kT a b c ((m : Int) + 1) := by
  unfold cR
  rw [if_pos (by omega)]
theorem cR_down (a b c : Int) (m : Nat) (h : m < 3) : upC (cR a b c m) ((m : Int) + 1) (-kT a b c ((m : Int) + 1)) = cR a b c (m + 1) := by
  funext j
  unfold upC
  by_cases e : j = (m : Int) + 1
  · subst e
    rw [if_pos rfl, cR_at _ _ _ _ h]
    unfold cR
    rw [if_neg (by omega)]
    omega
  · rw [if_neg e]
    unfold cR
    by_cases e1 : (m : Int) < j ∧ j ≤ 3
    · rw [if_pos e1, if_pos (by omega)]
    · rw [if_neg e1, if_neg (by omega)]
theorem cR_skip (a b c : Int) (m : Nat) (h : m < 3) (h0 : kT a b c ((m : Int) + 1) = 0) : cR a b c m = cR a b c (m + 1) := by
  rw [← cR_down a b c m h, h0]
  funext j
  unfold upC
  by_cases e : j = (m : Int) + 1
  · subst e; rw [if_pos rfl]; omega
  · rw [if_neg e]
theorem cR_end (a b c : Int) : cR a b c 3 = fun _ => 0 := by
  funext j
  unfold cR
  rw [if_neg (by omega)]
/-- What is held of another's variable. -/
def gK (x : Nm) (k : Int) : Hk → Int := fun y => if y = (x, x.1) then k else 0
theorem gK_add (x : Nm) (k : Int) (h0 : 0 ≤ k) (h1 : k ≤ 500) : addF (gK x k) (x, x.1) 1 = gK x (k + 1) := by
  funext y
  unfold addF gK
  by_cases e : y = (x, x.1)
  · rw [if_pos e, if_pos rfl, if_pos e, wrap_small _ (by omega) (by omega)]
  · rw [if_neg e, if_neg e, if_neg e]
theorem gK_zero (x : Nm) : gK x 0 = fun _ => 0 := by funext y; unfold gK; split <;> rfl
theorem gK_free (x : Nm) (k : Int) (h0 : 0 ≤ k) : freeF (gK x k) x = fun _ => 0 := by
  funext y
  unfold freeF gK
  rw [if_pos rfl]
  by_cases e : y = (x, x.1)
  · by_cases h : 0 < k
    · rw [if_pos ⟨e, h⟩]
    · rw [if_neg (fun q => h q.2), if_pos e]; omega
  · rw [if_neg (fun q => e q.1), if_neg e]
theorem exp_zero (n : Nat) (x : Nm) : expB (fun _ => 0) n x = false := by
  unfold expB
  rw [List.any_eq_false]
  intro i _
  simp
theorem exp_pos (v : Nm) (c : Int → Int) (m : Nat) (hm : m < 3) (h : ¬ c ((m : Int) + 1) = 0) : expB (cntF v c) 4 v = true := by
  unfold expB
  rw [List.any_eq_true]
  refine ⟨m + 1, List.mem_range.2 (by omega), ?_⟩
  have : cntF v c (v, ((m + 1 : Nat) : Int)) = c ((m : Int) + 1) := by unfold cntF; rw [if_pos rfl]; rfl
  rw [this]
  simp [h]
theorem wf_small (x : Int) (h1 : 0 ≤ x) (h2 : x ≤ 1000) : wfI x := by
  unfold wfI Lit.wf
  simp only [IntKind.min, IntKind.max, IntKind.bits, IntKind.signed]
  simp
  omega
theorem tri_at {w : World} {ab : Nat} {a b c : Int} (h : w.heap[ab]? = some (.cells #[.int .u8 a, .int .u8 b, .int .u8 c] 49 (0, 0))) {m : Nat} (hm : m < 3) : w.cell? ⟨ab, m, none⟩ = some (.int .u8 (tri a b c m)) := by
  obtain ⟨h0, h1, h2⟩ := box3 h
  match m, hm with
  | 0, _ => exact h0
  | 1, _ => exact h1
  | 2, _ => exact h2
theorem tri_bd {a b c : Int} (ha : 0 ≤ a ∧ a ≤ 255) (hb : 0 ≤ b ∧ b ≤ 255) (hc : 0 ≤ c ∧ c ≤ 255) (m : Nat) : 0 ≤ tri a b c m ∧ tri a b c m ≤ 255 := by
  unfold tri; split
  · exact ha
  · split
    · exact hb
    · exact hc
set_option maxRecDepth 100000 in
set_option maxHeartbeats 8000000 in
theorem r5 (x1 x2 a b c : Int) (w : World) (hx : wfI x2) (ha : 0 ≤ a ∧ a ≤ 255) (hb : 0 ≤ b ∧ b ≤ 255) (hc : 0 ≤ c ∧ c ≤ 255) : Calls Try.prog 5 #[.agg #[.int .i64 x1, .int .i64 x2], .agg #[.int .u8 a, .int .u8 b, .int .u8 c]] w fun e w' => e = .returned (.bool true) ∧ Below w.heap.size w w' := by
  have HB : Hid (∀ m, 0 ≤ tri a b c m ∧ tri a b c m ≤ 255) := fun m => tri_bd ha hb hc m
  have HX : Hid (wfN (0, x2)) := ⟨(show wfI 0 by unfold wfI; decide), hx⟩
  obtain ⟨W1, hW1⟩ : ∃ W1, (w.alloc (.cells #[.int .i64 x1, .int .i64 x2] 48)).alloc (.cells #[.int .u8 a, .int .u8 b, .int .u8 c] 49) = W1 := ⟨_, rfl⟩
  obtain ⟨vb, hvb⟩ : ∃ vb, w.heap.size = vb := ⟨_, rfl⟩
  obtain ⟨ab, hab⟩ : ∃ ab, vb + 1 = ab := ⟨_, rfl⟩
  have H1 : Hid (W1.heap[vb]? = some (.cells #[.int .i64 x1, .int .i64 x2] 48 (0, 0)) ∧ W1.heap[ab]? = some (.cells #[.int .u8 a, .int .u8 b, .int .u8 c] 49 (0, 0)) ∧ Below w.heap.size w W1) := by
    rw [← hW1, ← hab, ← hvb]
    have b1 : Below w.heap.size w (w.alloc (.cells #[.int .i64 x1, .int .i64 x2] 48)) := (Below.refl _ w).alloc (Nat.le_refl _) _
    have e1 := heap_alloc_new w (.cells #[.int .i64 x1, .int .i64 x2] 48)
    refine ⟨?_, ?_, b1.alloc b1.size _⟩
    · have := ((Below.refl _ (w.alloc (.cells #[.int .i64 x1, .int .i64 x2] 48))).alloc (Nat.le_refl _) (.cells #[.int .u8 a, .int .u8 b, .int .u8 c] 49)).block w.heap.size (Array.getElem?_eq_some_iff.1 e1).1
      exact this.trans e1
    · have := heap_alloc_new (w.alloc (.cells #[.int .i64 x1, .int .i64 x2] 48)) (.cells #[.int .u8 a, .int .u8 b, .int .u8 c] 49)
      simpa using this
  have H11 : Calls Try.prog 11 #[] W1 fun e w' => e = .returned (.bool true) ∧ Hid (w'.heap[vb]? = some (.cells #[.int .i64 x1, .int .i64 x2] 48 (0, 0)) ∧ w'.heap[ab]? = some (.cells #[.int .u8 a, .int .u8 b, .int .u8 c] 49 (0, 0)) ∧ Below w.heap.size w w') := by
    refine (r11 W1).mono ?_
    rintro e w' ⟨rfl, h2⟩
    obtain ⟨p1, p2, p3⟩ := H1.out
    exact ⟨rfl, (h2.block _ (Array.getElem?_eq_some_iff.1 p1).1).trans p1, (h2.block _ (Array.getElem?_eq_some_iff.1 p2).1).trans p2, p3.trans (h2.mono p3.size)⟩
  clear ha hb hc hx
  go_enter Try.func5, Try.ntmps5
  go_wp2_with fail
  refine H11.mono ?_
  rintro e w1 ⟨rfl, H2⟩
  clear H11 H1 hW1
  have H9 : Calls Try.prog 9 #[.int .i64 0, .int .i64 4] w1 fun e w' => ∃ tb eb ib, e = .returned (.tuple #[.pointer (some ⟨tb, 0, none⟩), .int .i64 0]) ∧ Hid (RtAt w' w1.heap.size tb eb ib 0 0 4 (fun _ => 0) (fun _ => 0) ∧ Below w1.heap.size w1 w') := r9 0 4 w1 (by decide) (by decide) (by decide)
  go_wp2_with fail
  refine H9.mono ?_
  rintro e w2 ⟨tb, eb, ib, rfl, H3⟩
  clear H9
  have hc2 : w2.heap[vb]? = some (.cells #[.int .i64 x1, .int .i64 x2] 48 (0, 0)) := (H3.out.2.block _ (Array.getElem?_eq_some_iff.1 H2.out.1).1).trans H2.out.1
  obtain ⟨c0, c1⟩ := box2 hc2
  have g0 := frozen_of_row w2 vb 0 _ 48 hc2
  obtain ⟨V, hV⟩ : ∃ V, w2.setCell ⟨vb, 0, none⟩ (.int .i64 0) = V := ⟨_, rfl⟩
  have HS : Hid (Bs w V tb eb ib vb ab 0 x2 a b c (cntF (0, x2) (cI a b c 0 0)) (fun _ => 0)) := by
    rw [cI_zero, cntF_zero]
    obtain ⟨p1, p2⟩ := H3.out
    obtain ⟨s1, s2, s3⟩ := H2.out
    have b1 : Below w.heap.size w V := by
      have := s3.trans (p2.mono s3.size)
      rw [← hV]
      exact this.setCell (p := ⟨vb, 0, none⟩) (by show w.heap.size ≤ vb; omega) _
    have hne : ∀ j, j ≠ vb → V.heap[j]? = w2.heap[j]? := fun j hj => by rw [← hV]; exact heap_setCell_other w2 ⟨vb, 0, none⟩ _ _ hj
    have q1 : V.heap[vb]? = some (.cells #[.int .i64 0, .int .i64 x2] 48 (0, 0)) := by rw [← hV]; exact heap_setCell_same w2 vb 0 _ 48 (.int .i64 0) hc2
    have l1 := (Array.getElem?_eq_some_iff.1 s1).1
    have l2 := (Array.getElem?_eq_some_iff.1 s2).1
    have n1 : tb ≠ vb := fun e => by subst e; have := p1.blk; rw [hc2] at this; cases this
    refine ⟨⟨(hne tb n1).trans p1.blk, p1.ex.keeps (hne eb (Ne.symm (p1.ex.ne_cells hc2))), p1.im.keeps (hne ib (Ne.symm (p1.im.ne_cells hc2))), p1.ne, ?_⟩, q1, (hne ab (by omega)).trans ((p2.block ab l2).trans s2), b1⟩
    have := p1.hb
    have := s3.size
    omega
  clear hc2 H3 H2
  go_wp2_with fail
  clear c0 c1 g0 hV
  go_loopw [7, 8] (fun i _ wr => ∃ m : Nat, m ≤ 3 ∧ i = .int .i64 ((m : Int) + 1) ∧ Hid (Bs w wr tb eb ib vb ab (20 * m) x2 a b c (cntF (0, x2) (cI a b c m 0)) (fun _ => 0))) (fun i _ _ => 4 - (intOf i).toNat)
  case atStart => exact ⟨0, by omega, rfl, HS⟩
  case round =>
    clear HS
    obtain ⟨m, hm, rfl, HM⟩ := hrel
    by_cases hlt : m < 3
    · have hltI : (m : Int) + 1 ≤ 3 := by omega
      have hk20 : 0 ≤ kT a b c ((m : Int) + 1) ∧ kT a b c ((m : Int) + 1) < 20 := by unfold kT; omega
      obtain ⟨K, hK⟩ : ∃ K : Nat, kT a b c ((m : Int) + 1) = (K : Int) := ⟨(kT a b c ((m : Int) + 1)).toNat, by omega⟩
      have hK20 : K < 20 := by omega
      have HK : Hid (kT a b c ((m : Int) + 1) = (K : Int)) := hK
      have hT : tri a b c m = 20 * (tri a b c m / 20) + K := by
        have : kT a b c ((m : Int) + 1) = tri a b c m % 20 := by unfold kT; rw [show ((m : Int) + 1 - 1).toNat = m by omega]
        omega
      clear hk20 hK
      have hT0 := HB.out m
      generalize tri a b c m / 20 = q at *
      go_wp2_with fail
      go_loopw [8] (fun i wr => ∃ k : Nat, k ≤ K ∧ i = .int .i64 k ∧ Hid (Bs w wr tb eb ib vb ab (20 * m + k) x2 a b c (cntF (0, x2) (cI a b c m k)) (fun _ => 0))) (fun i _ => K - (intOf i).toNat)
      case atStart => exact ⟨0, by omega, rfl, HM⟩
      case round =>
        clear HM
        obtain ⟨k, hk, rfl, HJ⟩ := hrel
        obtain ⟨v0, v1⟩ := HJ.out.cells
        have ta := tri_at HJ.out.arr hlt
        by_cases hkl : k < K
        · go_wp2_with fail
          have H19 : Calls Try.prog 19 #[.pointer (some ⟨tb, 0, none⟩), .int .i64 ((m : Int) + 1), .slice (some ⟨wr.heap.size, 0, none⟩) 1 1] (wr.alloc (.cells #[.int .i64 0, .int .i64 x2] 48)) fun e w' => e = .returned (.int .i64 0) ∧ Hid (Bs w w' tb eb ib vb ab (20 * m + (k + 1)) x2 a b c (cntF (0, x2) (cI a b c m ((k + 1 : Nat) : Int))) (fun _ => 0)) := by
            have hL := HJ.out.below ((Below.refl _ wr).alloc (Nat.le_refl _) (.cells #[.int .i64 0, .int .i64 x2] 48))
            refine (r19 _ tb eb ib (20 * m + k) 0 4 _ _ ((m : Int) + 1) _ 1 1 [(0, x2)] _ hL.tab (by simp [isN]; omega) (wf_small _ (by omega) (by omega)) (nm_one wr (0, x2) HX.out) (fun j hj => by cases hj; exact ⟨hL.tab.ex.ne_cells (heap_alloc_new wr _), hL.tab.im.ne_cells (heap_alloc_new wr _)⟩) (by simp [allOwn]) (by omega)).mono ?_
            rintro e w' ⟨rfl, h1⟩
            rw [sentF_one, cntF_add _ _ _ _ (by rw [cI_at]; omega) (by rw [cI_at]; omega), cI_up] at h1
            exact ⟨rfl, hL.to h1⟩
          refine H19.mono ?_
          rintro e w5 ⟨rfl, H5⟩
          clear H19 HJ v0 v1 ta
          go_wp2_with fail
          go_roundw
          case rel => exact ⟨k + 1, by omega, by go_num, H5⟩
          case measure => simp [intOf]; omega
        · have hkK : k = K := by omega
          subst hkK
          have H6 : Hid (Bs w wr tb eb ib vb ab (20 * (m + 1)) x2 a b c (cntF (0, x2) (cI a b c (m + 1) 0)) (fun _ => 0)) := by
            have := HJ.out
            rw [← HK.out, cI_next] at this
            exact this.le (by omega)
          clear HJ
          go_wp2_with fail
          go_roundw
          case rel => exact ⟨m + 1, by omega, by go_num, H6⟩
          case measure => simp [intOf]; omega
    · have HS : Hid (Bs w wr tb eb ib vb ab 60 x2 a b c (cntF (0, x2) (cR a b c 0)) (fun _ => 0)) := by
        have := HM.out
        have hm3 : m = 3 := by omega
        subst hm3
        rw [cI_end] at this
        exact this
      have hgt : ¬ ((m : Int) + 1 ≤ 3) := by omega
      clear HM hlt hm
      generalize (m : Int) + 1 = M1 at *
      go_wp2_with fail
      go_loopw [9, 10] (fun i _ wr => ∃ m : Nat, m ≤ 3 ∧ i = .int .i64 ((m : Int) + 1) ∧ Hid (Bs w wr tb eb ib vb ab (60 + m) x2 a b c (cntF (0, x2) (cR a b c m)) (fun _ => 0))) (fun i _ _ => 4 - (intOf i).toNat)
      case atStart => exact ⟨0, by omega, rfl, HS⟩
      case round =>
        clear HS
        obtain ⟨m, hm, rfl, HM⟩ := hrel
        by_cases hlt : m < 3
        · have hltI : (m : Int) + 1 ≤ 3 := by omega
          have hk20 : 0 ≤ kT a b c ((m : Int) + 1) ∧ kT a b c ((m : Int) + 1) < 20 := by unfold kT; omega
          obtain ⟨K, hK⟩ : ∃ K : Nat, kT a b c ((m : Int) + 1) = (K : Int) := ⟨(kT a b c ((m : Int) + 1)).toNat, by omega⟩
          have hK20 : K < 20 := by omega
          have HK : Hid (kT a b c ((m : Int) + 1) = (K : Int)) := hK
          have hT : tri a b c m = 20 * (tri a b c m / 20) + K := by
            have : kT a b c ((m : Int) + 1) = tri a b c m % 20 := by unfold kT; rw [show ((m : Int) + 1 - 1).toNat = m by omega]
            omega
          clear hk20 hK
          have hT0 := HB.out m
          obtain ⟨v0, v1⟩ := HM.out.cells
          have ta := tri_at HM.out.arr hlt
          generalize tri a b c m = T at *
          have hT2 : Int.tmod T 20 = K := by rw [Int.tmod_eq_emod_of_nonneg hT0.1]; omega
          clear hT
          by_cases hK0 : 0 < K
          · go_wp2_with fail
            have H20 : Calls Try.prog 20 #[.pointer (some ⟨tb, 0, none⟩), .agg #[.int .i64 0, .int .i64 x2]] wr fun e w' => e = .returned (.bool true) ∧ Hid (Bs w w' tb eb ib vb ab (60 + m) x2 a b c (cntF (0, x2) (cR a b c m)) (fun _ => 0)) := by
              refine (r20 _ tb eb ib (60 + m) 0 4 _ _ (0, x2) wr HM.out.tab HX.out (by omega)).mono ?_
              rintro e w' ⟨rfl, h1⟩
              rw [exp_pos _ _ m hlt (by rw [cR_at _ _ _ _ hlt, HK.out]; omega)]
              exact ⟨rfl, HM.out.below h1⟩
            refine H20.mono ?_
            rintro e w5 ⟨rfl, H5⟩
            clear H20 HM v0 v1 ta
            obtain ⟨v0, v1⟩ := H5.out.cells
            have H21 : Calls Try.prog 21 #[.pointer (some ⟨tb, 0, none⟩), .agg #[.int .i64 0, .int .i64 x2], .int .i64 ((m : Int) + 1), .int .i64 (K : Int)] w5 fun e w' => e = .returned (.int .i64 0) ∧ Hid (Bs w w' tb eb ib vb ab (60 + (m + 1)) x2 a b c (cntF (0, x2) (cR a b c (m + 1))) (fun _ => 0)) := by
              refine (r21 _ tb eb ib (60 + m) 0 4 _ _ (0, x2) ((m : Int) + 1) K w5 H5.out.tab HX.out rfl (by simp [isN]; omega) (wf_small _ (by omega) (by omega)) (by omega) (by omega) (by omega)).mono ?_
              rintro e w' ⟨rfl, h1⟩
              rw [← HK.out, cntF_add _ _ _ _ (by rw [cR_at _ _ _ _ hlt]; omega) (by rw [cR_at _ _ _ _ hlt]; omega), cR_down _ _ _ _ hlt] at h1
              exact ⟨rfl, H5.out.to h1⟩
            go_wp2_with fail
            refine H21.mono ?_
            rintro e w6 ⟨rfl, H6⟩
            clear H21 H5 v0 v1
            go_wp2_with fail
            go_roundw
            case rel => exact ⟨m + 1, by omega, by go_num, H6⟩
            case measure => simp [intOf]; omega
          · have hK00 : K = 0 := by omega
            subst hK00
            have H6 : Hid (Bs w wr tb eb ib vb ab (60 + (m + 1)) x2 a b c (cntF (0, x2) (cR a b c (m + 1))) (fun _ => 0)) := by
              have := HM.out
              rw [cR_skip _ _ _ _ hlt HK.out] at this
              exact this.le (by omega)
            clear HM
            go_wp2_with fail
            go_roundw
            case rel =>
              exact ⟨m + 1, by omega, by go_num, H6⟩
            case measure => simp [intOf]; omega
        · have hgt2 : ¬ ((m : Int) + 1 ≤ 3) := by omega
          obtain ⟨v0, v1⟩ := HM.out.cells
          obtain ⟨U, hU⟩ : ∃ U, wr.alloc (.cells #[.int .i64 0, .int .i64 0] 48) = U := ⟨_, rfl⟩
          obtain ⟨ub, hub⟩ : ∃ ub, wr.heap.size = ub := ⟨_, rfl⟩
          obtain ⟨⟨c0, c1, g0, g1⟩, hbV, hcV⟩ := stored (y1 := 2) (y2 := x2) hU hub
          obtain ⟨V2, hV2⟩ : ∃ V2, (U.setCell ⟨ub, 0, none⟩ (.int .i64 2)).setCell ⟨ub, 1, none⟩ (.int .i64 x2) = V2 := ⟨_, rfl⟩
          rw [hV2] at hbV hcV
          have HS : Hid (Bs w V2 tb eb ib vb ab (63 + 2 * 0) x2 a b c (fun _ => 0) (gK (2, x2) ((0 : Nat) : Int)) ∧ V2.heap[ub]? = some (.cells #[.int .i64 2, .int .i64 x2] 48 (0, 0))) := by
            have := HM.out.below hbV
            have hm3 : m = 3 := by omega
            subst hm3
            rw [cR_end, cntF_zero] at this
            refine ⟨?_, hcV⟩
            show Bs w V2 tb eb ib vb ab (63 + 2 * 0) x2 a b c (fun _ => 0) (gK (2, x2) 0)
            rw [gK_zero]
            exact this
          have hu1 : (wr.alloc (.cells #[.int .i64 0, .int .i64 0] 48)).cell? ⟨vb, 1, none⟩ = some (.int .i64 x2) := by
            have l := (Array.getElem?_eq_some_iff.1 HM.out.box).1
            exact (((Below.refl wr.heap.size wr).alloc (Nat.le_refl _) _).cell (p := ⟨vb, 1, none⟩) l).trans v1
          clear hbV hcV HM hlt hm
          generalize (m : Int) + 1 = M2 at *
          go_wp2_with fail
          clear v0 v1 hU hub c0 c1 g0 g1 hV2 hu1 hgt hgt2
          have hT0 := HB.out 0
          obtain ⟨K, hK⟩ : ∃ K : Nat, a % 20 = (K : Int) := ⟨(a % 20).toNat, by omega⟩
          have hK20 : K < 20 := by omega
          have hT2 : Int.tmod a 20 = K := by
            have : 0 ≤ a := hT0.1
            rw [Int.tmod_eq_emod_of_nonneg this]; exact hK
          have hA : 0 ≤ a ∧ a ≤ 255 := hT0
          clear hK hT0
          go_loopw [12] (fun i wr => ∃ k : Nat, k ≤ K ∧ i = .int .i64 k ∧ Hid (Bs w wr tb eb ib vb ab (63 + 2 * k) x2 a b c (fun _ => 0) (gK (2, x2) (k : Int)) ∧ wr.heap[ub]? = some (.cells #[.int .i64 2, .int .i64 x2] 48 (0, 0)))) (fun i _ => K - (intOf i).toNat)
          case atStart => exact ⟨0, by omega, rfl, HS⟩
          case round =>
            clear HS
            obtain ⟨k, hk, rfl, HJ⟩ := hrel
            obtain ⟨v0, v1⟩ := HJ.out.1.cells
            obtain ⟨ta, _, _⟩ := box3 HJ.out.1.arr
            obtain ⟨u0, u1⟩ := box2 HJ.out.2
            by_cases hkl : k < K
            · have H22 : Calls Try.prog 22 #[.pointer (some ⟨tb, 0, none⟩), .slice (some ⟨wr.heap.size, 0, none⟩) 2 2] (wr.alloc (.cells #[.int .i64 2, .int .i64 x2, .int .i64 0, .int .i64 x2] 48)) fun e w' => e = .returned (.int .i64 0) ∧ Hid (Bs w w' tb eb ib vb ab (63 + 2 * (k + 1)) x2 a b c (fun _ => 0) (gK (2, x2) ((k + 1 : Nat) : Int)) ∧ w'.heap[ub]? = some (.cells #[.int .i64 2, .int .i64 x2] 48 (0, 0))) := by
                have b1 := (Below.refl _ wr).alloc (Nat.le_refl _) (.cells #[.int .i64 2, .int .i64 x2, .int .i64 0, .int .i64 x2] 48)
                have hL := HJ.out.1.below b1
                have hl := (Array.getElem?_eq_some_iff.1 HJ.out.2).1
                have hu := (b1.block ub hl).trans HJ.out.2
                have hwf : wfN (2, x2) := ⟨wf_small 2 (by omega) (by omega), HX.out.2⟩
                have hN : NmR (wr.alloc (.cells #[.int .i64 2, .int .i64 x2, .int .i64 0, .int .i64 x2] 48)) (some ⟨wr.heap.size, 0, none⟩) 2 [(2, x2), (0, x2)] :=
                  ⟨rfl, .inr ⟨_, _, rfl, by simp, fun j u hu => by rw [Nat.zero_add, cell_of_row _ wr.heap.size j _ 48 (0, 0) (heap_alloc_new wr _)]; simpa [flatN] using hu⟩, fun y hy => by
                    simp at hy
                    rcases hy with e | e
                    · subst e; exact hwf
                    · subst e; exact HX.out⟩
                refine (r22 _ tb eb ib (63 + 2 * k) 0 4 _ _ _ 2 2 [(2, x2), (0, x2)] _ hL.tab hN (fun j hj => by cases hj; exact ⟨hL.tab.ex.ne_cells (heap_alloc_new wr _), hL.tab.im.ne_cells (heap_alloc_new wr _)⟩) (fun y hy => by
                    simp at hy
                    rcases hy with e | e <;> subst e <;> rfl) (by omega)).mono ?_
                rintro e w' ⟨rfl, h1⟩
                have e1 : gotF (gK (2, x2) (k : Int)) 0 [(2, x2), (0, x2)] = gK (2, x2) ((k + 1 : Nat) : Int) := by
                  have := gK_add (2, x2) (k : Int) (by omega) (by omega)
                  simp only [gotF, List.foldl_cons, List.foldl_nil, if_true]
                  rw [if_neg (by omega)]
                  exact this
                rw [e1] at h1
                exact ⟨rfl, hL.to h1, (h1.2.block ub (Nat.lt_of_lt_of_le hl b1.size) (hL.tab.ex.ne_cells hu) (hL.tab.im.ne_cells hu)).trans hu⟩
              go_wp2_with fail
              refine H22.mono ?_
              rintro e w5 ⟨rfl, H5⟩
              clear H22 HJ v0 v1 ta u0 u1
              go_wp2_with fail
              go_roundw
              case rel => exact ⟨k + 1, by omega, by go_num, H5⟩
              case measure => simp [intOf]; omega
            · have hkK : k = K := by omega
              subst hkK
              clear hk hkl
              have HT : Hid (Bt w wr tb eb ib vb ab ub (63 + 2 * k) x2 a b c (gK (2, x2) (k : Int))) := HJ.out
              clear HJ
              have H20 : Calls Try.prog 20 #[.pointer (some ⟨tb, 0, none⟩), .agg #[.int .i64 0, .int .i64 x2]] wr.drew fun e w' => e = .returned (.bool false) ∧ Hid (Bt w w' tb eb ib vb ab ub (63 + 2 * k) x2 a b c (gK (2, x2) (k : Int))) := by
                have h0 := HT.out.below ((Below.refl _ wr).drew)
                refine (r20 _ tb eb ib _ 0 4 _ _ (0, x2) wr.drew h0.1.tab HX.out (by omega)).mono ?_
                rintro e w' ⟨rfl, h1⟩
                rw [exp_zero]
                exact ⟨rfl, (h0.below h1)⟩
              have hwf : Hid (wfN (2, x2)) := ⟨wf_small 2 (by omega) (by omega), HX.out.2⟩
              have H18 : Hid (∀ W g, Hid (Bt w W tb eb ib vb ab ub (63 + 2 * k) x2 a b c g) → Calls Try.prog 18 #[.pointer (some ⟨tb, 0, none⟩)] W fun e w' => ∃ p q, e = .returned (.slice p 0 q) ∧ Hid (Bt w w' tb eb ib vb ab ub (63 + 2 * k) x2 a b c g)) := fun W g hW => by
                refine (r18 _ tb eb ib _ 0 4 _ _ ((2, x2), 2) W hW.out.1.tab (fun _ _ _ => rfl) ⟨hwf.out, hwf.out.1⟩).mono ?_
                rintro e w' ⟨p, m, q, rfl, h1⟩
                obtain rfl := rise_none h1 rfl
                exact ⟨p, q, rfl, (hW.out.below h1.2)⟩
              have H23 : Hid (∀ W y r, Hid (Bt w W tb eb ib vb ab ub (63 + 2 * k) x2 a b c (gK (2, x2) (k : Int))) → (y = 2 ∧ r = (k : Int) ∨ y = 0 ∧ r = 0) → Calls Try.prog 23 #[.pointer (some ⟨tb, 0, none⟩), .agg #[.int .i64 y, .int .i64 x2]] W fun e w' => e = .returned (.int .i64 r) ∧ Hid (Bt w w' tb eb ib vb ab ub (63 + 2 * k) x2 a b c (gK (2, x2) (k : Int)))) := fun W y r hW hy => by
                have hyw : wfN (y, x2) := by
                  rcases hy with ⟨rfl, _⟩ | ⟨rfl, _⟩
                  · exact hwf.out
                  · exact HX.out
                refine (r23 _ tb eb ib _ 0 4 _ _ (y, x2) W hW.out.1.tab hyw).mono ?_
                rintro e w' ⟨rfl, h1⟩
                have e1 : gK (2, x2) (k : Int) ((y, x2), y) = r := by
                  rcases hy with ⟨rfl, rfl⟩ | ⟨rfl, rfl⟩
                  · unfold gK; rw [if_pos rfl]
                  · unfold gK; rw [if_neg]; intro h; exact absurd (show (0 : Int) = 2 from congrArg Prod.snd h) (by decide)
                rw [e1]
                exact ⟨rfl, (hW.out.below h1)⟩
              have H24 : Hid (∀ W g r, Hid (Bt w W tb eb ib vb ab ub (63 + 2 * k) x2 a b c g) → (g = gK (2, x2) (k : Int) ∧ r = (k : Int) ∨ g = (fun _ => 0) ∧ r = 0) → Calls Try.prog 24 #[.pointer (some ⟨tb, 0, none⟩), .agg #[.int .i64 2, .int .i64 x2]] W fun e w' => e = .returned (.int .i64 r) ∧ Hid (Bt w w' tb eb ib vb ab ub (63 + 2 * k) x2 a b c (fun _ => 0))) := fun W g r hW hy => by
                refine (r24 _ tb eb ib _ 0 4 _ _ (2, x2) W hW.out.1.tab hwf.out).mono ?_
                rintro e w' ⟨rfl, h1⟩
                have e1 : g ((2, x2), 2) = r ∧ freeF g (2, x2) = fun _ => 0 := by
                  rcases hy with ⟨rfl, rfl⟩ | ⟨rfl, rfl⟩
                  · exact ⟨by unfold gK; rw [if_pos rfl], gK_free _ _ (by omega)⟩
                  · refine ⟨rfl, ?_⟩
                    have := gK_free (2, x2) 0 (by omega)
                    rwa [gK_zero] at this
                rw [e1.2] at h1
                rw [e1.1]
                exact ⟨rfl, (hW.out.to h1)⟩
              have H25 : Hid (∀ W, Hid (Bt w W tb eb ib vb ab ub (63 + 2 * k) x2 a b c (fun _ => 0)) → Calls Try.prog 25 #[.pointer (some ⟨tb, 0, none⟩)] W fun e w' => ∃ p q, e = .returned (.slice p 0 q) ∧ Hid (Bt w w' tb eb ib vb ab ub (63 + 2 * k) x2 a b c (fun _ => 0))) := fun W hW => by
                refine (r25 _ tb eb ib _ 0 4 _ _ ((2, x2), 2) W hW.out.1.tab (fun _ _ _ => rfl) ⟨hwf.out, hwf.out.1⟩).mono ?_
                rintro e w' ⟨p, m, q, rfl, h1⟩
                obtain rfl := rise_none h1 rfl
                exact ⟨p, q, rfl, (hW.out.below h1.2)⟩
              have hwa : IntKind.i64.wrap a = a := wrap_small a (by omega) (by omega)
              go_wp2_with fail
              go_region_held3 (fun w' => BtS w w' tb eb ib vb ab ub (63 + 2 * k) x2 a b c)
                (first | assumption | exact bts (by assumption) | exact bts_drew HT)
                (first
                  | (go_at_call 20; refine H20.mono ?_; rintro e w6 ⟨rfl, H6⟩)
                  | (go_at_call 18; refine (H18.out _ _ (by assumption)).mono ?_; rintro e w6 ⟨p, q, rfl, H6⟩)
                  | (go_at_call 23; refine (H23.out _ _ _ (by assumption) (by first | exact .inl ⟨rfl, rfl⟩ | exact .inr ⟨rfl, rfl⟩)).mono ?_; rintro e w6 ⟨rfl, H6⟩)
                  | (go_at_call 24; refine (H24.out _ _ _ (by assumption) (by first | exact .inl ⟨rfl, rfl⟩ | exact .inr ⟨rfl, rfl⟩)).mono ?_; rintro e w6 ⟨rfl, H6⟩)
                  | (go_at_call 25; refine (H25.out _ (by assumption)).mono ?_; rintro e w6 ⟨p, q, rfl, H6⟩))
              all_goals (
                go_wp2_with fail
                go_ret
                exact ⟨rfl, H6.out.1.bel⟩)
end Go.Proofs.Ytkpbmnaghepddaa
