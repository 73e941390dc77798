/- Contracts of the order of counts: Compare, Or, Names, rising's compare: worlds that only grow. -/
import Derived.Test.YtjbgemmcbombfaaRN
namespace Go.Proofs.Ytjbgemmcbombfaa
open Go.RowKit
set_option maxRecDepth 100000 in
theorem r69 (x : Int) (w : World) : Calls Try.prog 69 #[.int .i64 x] w fun e w' => e = .returned (.bool false) ∧ w' = w := by
  have hq : (x != x) = false := by simp
  go_enter Try.func69, Try.ntmps69
  go_wp2_with fail
  go_ret
  exact ⟨rfl, rfl⟩
set_option maxRecDepth 100000 in
theorem r65 (x y : Int) (w : World) : Calls Try.prog 65 #[.int .i64 x, .int .i64 y] w fun e w' => e = .returned (.int .i64 (cmpI x y)) ∧ w' = w := by
  have H1 := r69 x w
  have H2 := r69 y w
  have HC : Hid (cmpI x y = if x < y then -1 else if y < x then 1 else 0) := rfl
  by_cases hx : x < y
  · have HE : Hid (cmpI x y = -1) := by show cmpI x y = -1; rw [HC.out, if_pos hx]
    rw [HE.out]
    go_enter Try.func65, Try.ntmps65
    go_wp2_with fail
    refine H1.mono ?_
    rintro e w1 ⟨rfl, hw⟩
    obtain rfl := hw
    go_wp2_with fail
    refine H2.mono ?_
    rintro e w1 ⟨rfl, hw⟩
    obtain rfl := hw
    go_wp2_with fail
    go_ret
    exact ⟨rfl, rfl⟩
  · by_cases hy : y < x
    · have HE : Hid (cmpI x y = 1) := by show cmpI x y = 1; rw [HC.out, if_neg hx, if_pos hy]
      rw [HE.out]
      go_enter Try.func65, Try.ntmps65
      go_wp2_with fail
      refine H1.mono ?_
      rintro e w1 ⟨rfl, hw⟩
      obtain rfl := hw
      go_wp2_with fail
      refine H2.mono ?_
      rintro e w1 ⟨rfl, hw⟩
      obtain rfl := hw
      go_wp2_with fail
      go_ret
      exact ⟨rfl, rfl⟩
    · have HE : Hid (cmpI x y = 0) := by show cmpI x y = 0; rw [HC.out, if_neg hx, if_neg hy]
      rw [HE.out]
      go_enter Try.func65, Try.ntmps65
      go_wp2_with fail
      refine H1.mono ?_
      rintro e w1 ⟨rfl, hw⟩
      obtain rfl := hw
      go_wp2_with fail
      refine H2.mono ?_
      rintro e w1 ⟨rfl, hw⟩
      obtain rfl := hw
      go_wp2_with fail
      go_ret
      exact ⟨rfl, rfl⟩
set_option maxRecDepth 100000 in
theorem r63 (x y : Int) (b : Nat) (w : World) (h : w.heap[b]? = some (.cells #[.int .i64 x, .int .i64 y] 3 (0, 0))) : Calls Try.prog 63 #[.slice (some ⟨b, 0, none⟩) 2 2] w fun e w' => e = .returned (.int .i64 (orI x y)) ∧ w' = w := by
  have HO : orI x y = if x = 0 then y else x := rfl
  have c0 : w.cell? ⟨b, 0, none⟩ = some (.int .i64 x) := by rw [cell_of_row w b 0 _ 3 (0, 0) h]; rfl
  have c1 : w.cell? ⟨b, 1, none⟩ = some (.int .i64 y) := by rw [cell_of_row w b 1 _ 3 (0, 0) h]; rfl
  clear h
  by_cases hx : x = 0
  · subst hx
    rw [if_pos rfl] at HO
    rw [HO]
    clear HO
    by_cases hy : y = 0
    · subst hy
      go_enter Try.func63, Try.ntmps63
      go_wp2_with fail
      refine wp_loop_rounds 3 ?_
      rw [rounds_succ]
      go_wp2_with fail
      rw [rounds_succ]
      go_wp2_with fail
      rw [rounds_succ]
      go_wp2_with fail
      go_ret
      exact ⟨rfl, rfl⟩
    · have hq : (y != 0) = true := by simp [hy]
      go_enter Try.func63, Try.ntmps63
      go_wp2_with fail
      refine wp_loop_rounds 3 ?_
      rw [rounds_succ]
      go_wp2_with fail
      rw [rounds_succ]
      go_wp2_with fail
      go_ret
      exact ⟨rfl, rfl⟩
  · have hq : (x != 0) = true := by simp [hx]
    rw [if_neg hx] at HO
    rw [HO]
    clear HO
    go_enter Try.func63, Try.ntmps63
    go_wp2_with fail
    refine wp_loop_rounds 3 ?_
    rw [rounds_succ]
    go_wp2_with fail
    go_ret
    exact ⟨rfl, rfl⟩
/-- Two names in blocks. -/
abbrev NmS (w2 : World) (b1 b2 : Nat) (x1 x2 y1 y2 : Int) (w' : World) : Prop :=
  w'.cell? ⟨b1, 0, none⟩ = some (.int .i64 x1) ∧ w'.cell? ⟨b1, 1, none⟩ = some (.int .i64 x2) ∧ w'.cell? ⟨b2, 0, none⟩ = some (.int .i64 y1) ∧ w'.cell? ⟨b2, 1, none⟩ = some (.int .i64 y2) ∧ Hid (Gr w2 w' ∧ b1 < w2.heap.size ∧ b2 < w2.heap.size)
theorem nmS_gr {w2 : World} {b1 b2 : Nat} {x1 x2 y1 y2 : Int} {w' : World} (h : NmS w2 b1 b2 x1 x2 y1 y2 w') : Gr w2 w' := h.2.2.2.2.out.1
theorem nmS_to {w2 : World} {b1 b2 : Nat} {x1 x2 y1 y2 : Int} {w' w'' : World} (h : NmS w2 b1 b2 x1 x2 y1 y2 w') (hb : Gr w2 w'') : NmS w2 b1 b2 x1 x2 y1 y2 w'' := by
  obtain ⟨h1, h2, h3, h4, h5⟩ := h
  have h9 := h5.out
  have t : ∀ q j u, q < w2.heap.size → w'.cell? ⟨q, j, none⟩ = some u → w''.cell? ⟨q, j, none⟩ = some u := fun q j u hq hu =>
    (hb.bel.cell (p := ⟨q, j, none⟩) hq).trans ((h9.1.bel.cell (p := ⟨q, j, none⟩) hq).symm.trans hu)
  exact ⟨t _ _ _ h9.2.1 h1, t _ _ _ h9.2.1 h2, t _ _ _ h9.2.2 h3, t _ _ _ h9.2.2 h4, hb, h9.2⟩
theorem nmS_drew {w2 : World} {b1 b2 : Nat} {x1 x2 y1 y2 : Int} {w' : World} (h : NmS w2 b1 b2 x1 x2 y1 y2 w') : NmS w2 b1 b2 x1 x2 y1 y2 w'.drew := nmS_to h (nmS_gr h).drew
theorem nmS_alloc {w2 : World} {b1 b2 : Nat} {x1 x2 y1 y2 : Int} {w' : World} (h : NmS w2 b1 b2 x1 x2 y1 y2 w') (ob : Obj) : NmS w2 b1 b2 x1 x2 y1 y2 (w'.alloc ob) := nmS_to h ((nmS_gr h).alloc ob)
theorem two_boxes (w : World) (x1 x2 y1 y2 : Int) : NmS ((w.alloc (.cells #[.int .i64 x1, .int .i64 x2] 48)).alloc (.cells #[.int .i64 y1, .int .i64 y2] 48)) w.heap.size (w.heap.size + 1) x1 x2 y1 y2 ((w.alloc (.cells #[.int .i64 x1, .int .i64 x2] 48)).alloc (.cells #[.int .i64 y1, .int .i64 y2] 48)) := by
  have e1 : ((w.alloc (.cells #[.int .i64 x1, .int .i64 x2] 48)).alloc (.cells #[.int .i64 y1, .int .i64 y2] 48)).heap[w.heap.size]? = some (.cells #[.int .i64 x1, .int .i64 x2] 48 (0, 0)) := (heap_alloc_old _ _ (by simp)).trans (heap_alloc_new w _)
  have e2 : ((w.alloc (.cells #[.int .i64 x1, .int .i64 x2] 48)).alloc (.cells #[.int .i64 y1, .int .i64 y2] 48)).heap[w.heap.size + 1]? = some (.cells #[.int .i64 y1, .int .i64 y2] 48 (0, 0)) := by
    have := heap_alloc_new (w.alloc (.cells #[.int .i64 x1, .int .i64 x2] 48)) (.cells #[.int .i64 y1, .int .i64 y2] 48)
    simpa using this
  exact ⟨(box2 e1).1, (box2 e1).2, (box2 e2).1, (box2 e2).2, Gr.refl _, by simp; omega, by simp⟩
set_option maxRecDepth 100000 in
set_option maxHeartbeats 2000000 in
theorem r64 (x1 x2 y1 y2 : Int) (w : World) : Calls Try.prog 64 #[.agg #[.int .i64 x1, .int .i64 x2], .agg #[.int .i64 y1, .int .i64 y2]] w fun e w' => e = .returned (.int .i64 (namesS x1 x2 y1 y2)) ∧ Gr w w' := by
  have hS0 := two_boxes w x1 x2 y1 y2
  have HB0 : Hid (Gr w ((w.alloc (.cells #[.int .i64 x1, .int .i64 x2] 48)).alloc (.cells #[.int .i64 y1, .int .i64 y2] 48))) := ((Gr.refl w).alloc _).alloc _
  go_enter Try.func64, Try.ntmps64
  go_wp2_with fail
  generalize hW : (w.alloc (.cells #[.int .i64 x1, .int .i64 x2] 48)).alloc (.cells #[.int .i64 y1, .int .i64 y2] 48) = w2 at *
  clear hW
  refine wp_region_noPanic ?_
  refine wp_region_held_drew (S := fun w' => NmS w2 w.heap.size (w.heap.size + 1) x1 x2 y1 y2 w') (by kernel_rfl) (nmS_drew hS0) (fun hHeld => ?_)
  refine wpAnyH_take (i := 0) (v := ?_) (by simp only [List.getElem?_toArray, List.getElem?_cons_zero]; rfl) (by kernel_rfl) (by kernel_rfl) (by kernel_rfl) (fun _ _ _ h => h) (Or.inl ⟨by rfl, ?_⟩) (by assumption) ?_
  rotate_left
  · (intro w hSw; (try dsimp only at hSw); go_simp <;> with_reducible rfl)
  try simp only [Act.put, List.setIfInBounds_toArray, List.set_cons_zero, List.set_cons_succ]
  refine wpAnyH_take (i := 1) (v := ?_) (by simp only [List.getElem?_toArray, List.getElem?_cons_zero, List.getElem?_cons_succ]; rfl) (by kernel_rfl) (by kernel_rfl) (by kernel_rfl) (fun _ _ _ h => h) (Or.inl ⟨by rfl, ?_⟩) (by assumption) ?_
  rotate_left
  · (intro w hSw; (try dsimp only at hSw); go_simp <;> with_reducible rfl)
  try simp only [Act.put, List.setIfInBounds_toArray, List.set_cons_zero, List.set_cons_succ]
  refine wpAnyH_take (i := 2) (v := ?_) (by simp only [List.getElem?_toArray, List.getElem?_cons_zero, List.getElem?_cons_succ]; rfl) (by kernel_rfl) (by kernel_rfl) (by kernel_rfl) (fun _ _ _ h => h) (Or.inl ⟨by rfl, ?_⟩) (by assumption) ?_
  rotate_left
  · (intro w hSw; (try dsimp only at hSw); go_simp <;> with_reducible rfl)
  try simp only [Act.put, List.setIfInBounds_toArray, List.set_cons_zero, List.set_cons_succ]
  refine wpAnyH_take (i := 3) (v := ?_) (by simp only [List.getElem?_toArray, List.getElem?_cons_zero, List.getElem?_cons_succ]; rfl) (by kernel_rfl) (by kernel_rfl) (by kernel_rfl) (fun _ _ _ h => h) (Or.inl ⟨by rfl, ?_⟩) (by assumption) ?_
  rotate_left
  · (intro w hSw; (try dsimp only at hSw); go_simp <;> with_reducible rfl)
  try simp only [Act.put, List.setIfInBounds_toArray, List.set_cons_zero, List.set_cons_succ]
  refine wpAnyH_take (i := 5) (v := ?_) (by simp only [List.getElem?_toArray, List.getElem?_cons_zero, List.getElem?_cons_succ]; rfl) (by kernel_rfl) (by kernel_rfl) (by kernel_rfl) (fun _ _ _ h => h) (Or.inl ⟨by rfl, ?_⟩) (by assumption) ?_
  rotate_left
  · (intro w hSw; (try dsimp only at hSw); go_simp <;> with_reducible rfl)
  try simp only [Act.put, List.setIfInBounds_toArray, List.set_cons_zero, List.set_cons_succ]
  refine wpAnyH_take (i := 6) (v := ?_) (by simp only [List.getElem?_toArray, List.getElem?_cons_zero, List.getElem?_cons_succ]; rfl) (by kernel_rfl) (by kernel_rfl) (by kernel_rfl) (fun _ _ _ h => h) (Or.inl ⟨by rfl, ?_⟩) (by assumption) ?_
  rotate_left
  · (intro w hSw; (try dsimp only at hSw); go_simp <;> with_reducible rfl)
  try simp only [Act.put, List.setIfInBounds_toArray, List.set_cons_zero, List.set_cons_succ]
  refine wpAnyH_take (i := 7) (v := ?_) (by simp only [List.getElem?_toArray, List.getElem?_cons_zero, List.getElem?_cons_succ]; rfl) (by kernel_rfl) (by kernel_rfl) (by kernel_rfl) (fun _ _ _ h => h) (Or.inl ⟨by rfl, ?_⟩) (by assumption) ?_
  rotate_left
  · (intro w hSw; (try dsimp only at hSw); go_simp <;> with_reducible rfl)
  try simp only [Act.put, List.setIfInBounds_toArray, List.set_cons_zero, List.set_cons_succ]
  refine wpAnyH_take (i := 8) (v := ?_) (by simp only [List.getElem?_toArray, List.getElem?_cons_zero, List.getElem?_cons_succ]; rfl) (by kernel_rfl) (by kernel_rfl) (by kernel_rfl) (fun _ _ _ h => h) (Or.inl ⟨by rfl, ?_⟩) (by assumption) ?_
  rotate_left
  · (intro w hSw; (try dsimp only at hSw); go_simp <;> with_reducible rfl)
  try simp only [Act.put, List.setIfInBounds_toArray, List.set_cons_zero, List.set_cons_succ]
  refine wpAnyH_ready (rs := [4]) (by kernel_rfl) (by simp) ?_
  refine AllReadyH.cons (by simp only [List.getElem?_toArray, List.getElem?_cons_zero, List.getElem?_cons_succ]; rfl) (fun K hK => ?_) AllReadyH.nil
  go_simp
  go_at_call 65
  refine (r65 _ _ _).mono ?_
  rintro e w3 ⟨rfl, hw3⟩
  obtain rfl := hw3
  refine hK.out _ _ ?_ (fun hHeld => ?_)
  · exact (by assumption)
  clear hK K
  try simp only [Act.put, List.setIfInBounds_toArray, List.set_cons_zero, List.set_cons_succ]
  refine wpAnyH_ready (rs := [9]) (by kernel_rfl) (by simp) ?_
  refine AllReadyH.cons (by simp only [List.getElem?_toArray, List.getElem?_cons_zero, List.getElem?_cons_succ]; rfl) (fun K hK => ?_) AllReadyH.nil
  go_simp
  go_at_call 65
  refine (r65 _ _ _).mono ?_
  rintro e w4 ⟨rfl, hw4⟩
  obtain rfl := hw4
  refine hK.out _ _ ?_ (fun hHeld => ?_)
  · exact (by assumption)
  clear hK K
  try simp only [Act.put, List.setIfInBounds_toArray, List.set_cons_zero, List.set_cons_succ]
  refine wpAnyH_ready (rs := [10]) (by kernel_rfl) (by simp) ?_
  refine AllReadyH.cons (by simp only [List.getElem?_toArray, List.getElem?_cons_zero, List.getElem?_cons_succ]; rfl) (fun K hK => ?_) AllReadyH.nil
  go_simp
  refine hK.out _ _ ?_ (fun hHeld => ?_)
  · exact nmS_alloc (by assumption) _
  clear hK K
  try simp only [Act.put, List.setIfInBounds_toArray, List.set_cons_zero, List.set_cons_succ]
  refine wpAnyH_ready (rs := [11]) (by kernel_rfl) (by simp) ?_
  refine AllReadyH.cons (by simp only [List.getElem?_toArray, List.getElem?_cons_zero, List.getElem?_cons_succ]; rfl) (fun K hK => ?_) AllReadyH.nil
  go_simp
  go_at_call 63
  refine (r63 (cmpI x1 y1) (cmpI x2 y2) w2.heap.size _ (by exact heap_alloc_new w2 _)).mono ?_
  rintro e w5 ⟨rfl, hw5⟩
  obtain rfl := hw5
  refine hK.out _ _ ?_ (fun hHeld => ?_)
  · exact (by assumption)
  clear hK K
  try simp only [Act.put, List.setIfInBounds_toArray, List.set_cons_zero, List.set_cons_succ]
  refine wpAnyH_take (i := 12) (v := ?_) (by simp only [List.getElem?_toArray, List.getElem?_cons_zero, List.getElem?_cons_succ]; rfl) (by kernel_rfl) (by kernel_rfl) (by kernel_rfl) (fun _ _ _ h => h) (Or.inl ⟨by rfl, ?_⟩) (by assumption) ?_
  rotate_left
  · (intro w hSw; (try dsimp only at hSw); go_simp <;> with_reducible rfl)
  try simp only [Act.put, List.setIfInBounds_toArray, List.set_cons_zero, List.set_cons_succ]
  refine wpAnyH_done (by kernel_rfl) ?_ _
  refine NoPanic.normal ?_
  have hbf := nmS_gr (w2 := w2) (by assumption)
  go_wp2_with fail
  go_ret
  exact ⟨rfl, HB0.out.trans hbf⟩
/-- Two counts in blocks. -/
abbrev NcS (w2 : World) (b1 b2 : Nat) (x1 x2 x3 y1 y2 y3 : Int) (w' : World) : Prop :=
  w'.cell? ⟨b1, 0, none⟩ = some (.int .i64 x1) ∧ w'.cell? ⟨b1, 1, none⟩ = some (.int .i64 x2) ∧ w'.cell? ⟨b1, 2, none⟩ = some (.int .i64 x3) ∧ w'.cell? ⟨b2, 0, none⟩ = some (.int .i64 y1) ∧ w'.cell? ⟨b2, 1, none⟩ = some (.int .i64 y2) ∧ w'.cell? ⟨b2, 2, none⟩ = some (.int .i64 y3) ∧ Hid (Gr w2 w' ∧ b1 < w2.heap.size ∧ b2 < w2.heap.size)
section
variable {w2 w' w'' : World} {b1 b2 : Nat} {x1 x2 x3 y1 y2 y3 : Int}
theorem ncS_get (h : NcS w2 b1 b2 x1 x2 x3 y1 y2 y3 w') : Gr w2 w' := h.2.2.2.2.2.2.out.1
theorem ncS_to (h : NcS w2 b1 b2 x1 x2 x3 y1 y2 y3 w') (hb : Gr w2 w'') : NcS w2 b1 b2 x1 x2 x3 y1 y2 y3 w'' := by
  obtain ⟨h1, h2, h3, h4, h5, h6, h7⟩ := h
  have h9 := h7.out
  have t : ∀ q j u, q < w2.heap.size → w'.cell? ⟨q, j, none⟩ = some u → w''.cell? ⟨q, j, none⟩ = some u := fun q j u hq hu =>
    (hb.bel.cell (p := ⟨q, j, none⟩) hq).trans ((h9.1.bel.cell (p := ⟨q, j, none⟩) hq).symm.trans hu)
  exact ⟨t _ _ _ h9.2.1 h1, t _ _ _ h9.2.1 h2, t _ _ _ h9.2.1 h3, t _ _ _ h9.2.2 h4, t _ _ _ h9.2.2 h5, t _ _ _ h9.2.2 h6, hb, h9.2⟩
theorem ncS_drew (h : NcS w2 b1 b2 x1 x2 x3 y1 y2 y3 w') : NcS w2 b1 b2 x1 x2 x3 y1 y2 y3 w'.drew := ncS_to h (ncS_get h).drew
theorem ncS_alloc (h : NcS w2 b1 b2 x1 x2 x3 y1 y2 y3 w') (ob : Obj) : NcS w2 b1 b2 x1 x2 x3 y1 y2 y3 (w'.alloc ob) := ncS_to h ((ncS_get h).alloc ob)
theorem ncS_gr (h : NcS w2 b1 b2 x1 x2 x3 y1 y2 y3 w') (hb : Gr w' w'') : NcS w2 b1 b2 x1 x2 x3 y1 y2 y3 w'' := ncS_to h ((ncS_get h).trans hb)
end
theorem two_counts (w : World) (x1 x2 x3 x4 y1 y2 y3 y4 : Int) : NcS ((w.alloc (.cells #[.int .i64 x1, .int .i64 x2, .int .i64 x3, .int .i64 x4] 74)).alloc (.cells #[.int .i64 y1, .int .i64 y2, .int .i64 y3, .int .i64 y4] 74)) w.heap.size (w.heap.size + 1) x1 x2 x3 y1 y2 y3 ((w.alloc (.cells #[.int .i64 x1, .int .i64 x2, .int .i64 x3, .int .i64 x4] 74)).alloc (.cells #[.int .i64 y1, .int .i64 y2, .int .i64 y3, .int .i64 y4] 74)) := by
  have e1 : ((w.alloc (.cells #[.int .i64 x1, .int .i64 x2, .int .i64 x3, .int .i64 x4] 74)).alloc (.cells #[.int .i64 y1, .int .i64 y2, .int .i64 y3, .int .i64 y4] 74)).heap[w.heap.size]? = some (.cells #[.int .i64 x1, .int .i64 x2, .int .i64 x3, .int .i64 x4] 74 (0, 0)) := (heap_alloc_old _ _ (by simp)).trans (heap_alloc_new w _)
  have e2 : ((w.alloc (.cells #[.int .i64 x1, .int .i64 x2, .int .i64 x3, .int .i64 x4] 74)).alloc (.cells #[.int .i64 y1, .int .i64 y2, .int .i64 y3, .int .i64 y4] 74)).heap[w.heap.size + 1]? = some (.cells #[.int .i64 y1, .int .i64 y2, .int .i64 y3, .int .i64 y4] 74 (0, 0)) := by
    have := heap_alloc_new (w.alloc (.cells #[.int .i64 x1, .int .i64 x2, .int .i64 x3, .int .i64 x4] 74)) (.cells #[.int .i64 y1, .int .i64 y2, .int .i64 y3, .int .i64 y4] 74)
    simpa using this
  refine ⟨?_, ?_, ?_, ?_, ?_, ?_, Gr.refl _, by simp; omega, by simp⟩
  · rw [cell_of_row _ _ 0 _ 74 (0, 0) e1]; rfl
  · rw [cell_of_row _ _ 1 _ 74 (0, 0) e1]; rfl
  · rw [cell_of_row _ _ 2 _ 74 (0, 0) e1]; rfl
  · rw [cell_of_row _ _ 0 _ 74 (0, 0) e2]; rfl
  · rw [cell_of_row _ _ 1 _ 74 (0, 0) e2]; rfl
  · rw [cell_of_row _ _ 2 _ 74 (0, 0) e2]; rfl
set_option maxRecDepth 100000 in
set_option maxHeartbeats 2000000 in
theorem r62' (x1 x2 x3 x4 y1 y2 y3 y4 : Int) (w : World) : Calls Try.prog 62 #[.agg #[.int .i64 x1, .int .i64 x2, .int .i64 x3, .int .i64 x4], .agg #[.int .i64 y1, .int .i64 y2, .int .i64 y3, .int .i64 y4]] w fun e w' => e = .returned (.int .i64 (orI (namesS x1 x2 y1 y2) (cmpI x3 y3))) ∧ Gr w w' := by
  have hS0 := two_counts w x1 x2 x3 x4 y1 y2 y3 y4
  have HB0 : Hid (Gr w ((w.alloc (.cells #[.int .i64 x1, .int .i64 x2, .int .i64 x3, .int .i64 x4] 74)).alloc (.cells #[.int .i64 y1, .int .i64 y2, .int .i64 y3, .int .i64 y4] 74))) := ((Gr.refl w).alloc _).alloc _
  go_enter Try.func62, Try.ntmps62
  go_wp2_with fail
  generalize hW : (w.alloc (.cells #[.int .i64 x1, .int .i64 x2, .int .i64 x3, .int .i64 x4] 74)).alloc (.cells #[.int .i64 y1, .int .i64 y2, .int .i64 y3, .int .i64 y4] 74) = w2 at *
  clear hW
  refine wp_region_noPanic ?_
  refine wp_region_held_drew (S := fun w' => NcS w2 w.heap.size (w.heap.size + 1) x1 x2 x3 y1 y2 y3 w') (by kernel_rfl) (ncS_drew hS0) (fun hHeld => ?_)
  refine wpAnyH_take (i := 0) (v := ?_) (by simp only [List.getElem?_toArray, List.getElem?_cons_zero]; rfl) (by kernel_rfl) (by kernel_rfl) (by kernel_rfl) (fun _ _ _ h => h) (Or.inl ⟨by rfl, ?_⟩) (by assumption) ?_
  rotate_left
  · (intro w hSw; (try dsimp only at hSw); go_simp <;> with_reducible rfl)
  try simp only [Act.put, List.setIfInBounds_toArray, List.set_cons_zero, List.set_cons_succ]
  refine wpAnyH_take (i := 1) (v := ?_) (by simp only [List.getElem?_toArray, List.getElem?_cons_zero, List.getElem?_cons_succ]; rfl) (by kernel_rfl) (by kernel_rfl) (by kernel_rfl) (fun _ _ _ h => h) (Or.inl ⟨by rfl, ?_⟩) (by assumption) ?_
  rotate_left
  · (intro w hSw; (try dsimp only at hSw); go_simp <;> with_reducible rfl)
  try simp only [Act.put, List.setIfInBounds_toArray, List.set_cons_zero, List.set_cons_succ]
  refine wpAnyH_take (i := 2) (v := ?_) (by simp only [List.getElem?_toArray, List.getElem?_cons_zero, List.getElem?_cons_succ]; rfl) (by kernel_rfl) (by kernel_rfl) (by kernel_rfl) (fun _ _ _ h => h) (Or.inl ⟨by rfl, ?_⟩) (by assumption) ?_
  rotate_left
  · (intro w hSw; (try dsimp only at hSw); go_simp <;> with_reducible rfl)
  try simp only [Act.put, List.setIfInBounds_toArray, List.set_cons_zero, List.set_cons_succ]
  refine wpAnyH_take (i := 3) (v := ?_) (by simp only [List.getElem?_toArray, List.getElem?_cons_zero, List.getElem?_cons_succ]; rfl) (by kernel_rfl) (by kernel_rfl) (by kernel_rfl) (fun _ _ _ h => h) (Or.inl ⟨by rfl, ?_⟩) (by assumption) ?_
  rotate_left
  · (intro w hSw; (try dsimp only at hSw); go_simp <;> with_reducible rfl)
  try simp only [Act.put, List.setIfInBounds_toArray, List.set_cons_zero, List.set_cons_succ]
  refine wpAnyH_take (i := 5) (v := ?_) (by simp only [List.getElem?_toArray, List.getElem?_cons_zero, List.getElem?_cons_succ]; rfl) (by kernel_rfl) (by kernel_rfl) (by kernel_rfl) (fun _ _ _ h => h) (Or.inl ⟨by rfl, ?_⟩) (by assumption) ?_
  rotate_left
  · (intro w hSw; (try dsimp only at hSw); go_simp <;> with_reducible rfl)
  try simp only [Act.put, List.setIfInBounds_toArray, List.set_cons_zero, List.set_cons_succ]
  refine wpAnyH_take (i := 6) (v := ?_) (by simp only [List.getElem?_toArray, List.getElem?_cons_zero, List.getElem?_cons_succ]; rfl) (by kernel_rfl) (by kernel_rfl) (by kernel_rfl) (fun _ _ _ h => h) (Or.inl ⟨by rfl, ?_⟩) (by assumption) ?_
  rotate_left
  · (intro w hSw; (try dsimp only at hSw); go_simp <;> with_reducible rfl)
  try simp only [Act.put, List.setIfInBounds_toArray, List.set_cons_zero, List.set_cons_succ]
  refine wpAnyH_take (i := 7) (v := ?_) (by simp only [List.getElem?_toArray, List.getElem?_cons_zero, List.getElem?_cons_succ]; rfl) (by kernel_rfl) (by kernel_rfl) (by kernel_rfl) (fun _ _ _ h => h) (Or.inl ⟨by rfl, ?_⟩) (by assumption) ?_
  rotate_left
  · (intro w hSw; (try dsimp only at hSw); go_simp <;> with_reducible rfl)
  try simp only [Act.put, List.setIfInBounds_toArray, List.set_cons_zero, List.set_cons_succ]
  refine wpAnyH_take (i := 8) (v := ?_) (by simp only [List.getElem?_toArray, List.getElem?_cons_zero, List.getElem?_cons_succ]; rfl) (by kernel_rfl) (by kernel_rfl) (by kernel_rfl) (fun _ _ _ h => h) (Or.inl ⟨by rfl, ?_⟩) (by assumption) ?_
  rotate_left
  · (intro w hSw; (try dsimp only at hSw); go_simp <;> with_reducible rfl)
  try simp only [Act.put, List.setIfInBounds_toArray, List.set_cons_zero, List.set_cons_succ]
  refine wpAnyH_ready (rs := [4]) (by kernel_rfl) (by simp) ?_
  refine AllReadyH.cons (by simp only [List.getElem?_toArray, List.getElem?_cons_zero, List.getElem?_cons_succ]; rfl) (fun K hK => ?_) AllReadyH.nil
  go_simp
  go_at_call 64
  refine (r64 _ _ _ _ _).mono ?_
  rintro e w3 ⟨rfl, hw3⟩
  refine hK.out _ _ ?_ (fun hHeld => ?_)
  · exact ncS_gr (by assumption) hw3
  clear hK K
  try simp only [Act.put, List.setIfInBounds_toArray, List.set_cons_zero, List.set_cons_succ]
  refine wpAnyH_ready (rs := [9]) (by kernel_rfl) (by simp) ?_
  refine AllReadyH.cons (by simp only [List.getElem?_toArray, List.getElem?_cons_zero, List.getElem?_cons_succ]; rfl) (fun K hK => ?_) AllReadyH.nil
  go_simp
  go_at_call 65
  refine (r65 _ _ _).mono ?_
  rintro e w4 ⟨rfl, hw4⟩
  obtain rfl := hw4
  refine hK.out _ _ ?_ (fun hHeld => ?_)
  · exact (by assumption)
  clear hK K
  try simp only [Act.put, List.setIfInBounds_toArray, List.set_cons_zero, List.set_cons_succ]
  refine wpAnyH_ready (rs := [10]) (by kernel_rfl) (by simp) ?_
  refine AllReadyH.cons (by simp only [List.getElem?_toArray, List.getElem?_cons_zero, List.getElem?_cons_succ]; rfl) (fun K hK => ?_) AllReadyH.nil
  go_simp
  refine hK.out _ _ ?_ (fun hHeld => ?_)
  · exact ncS_alloc (by assumption) _
  clear hK K
  try simp only [Act.put, List.setIfInBounds_toArray, List.set_cons_zero, List.set_cons_succ]
  refine wpAnyH_ready (rs := [11]) (by kernel_rfl) (by simp) ?_
  refine AllReadyH.cons (by simp only [List.getElem?_toArray, List.getElem?_cons_zero, List.getElem?_cons_succ]; rfl) (fun K hK => ?_) AllReadyH.nil
  go_simp
  go_at_call 63
  refine (r63 (namesS x1 x2 y1 y2) (cmpI x3 y3) w4.heap.size _ (by exact heap_alloc_new w4 _)).mono ?_
  rintro e w5 ⟨rfl, hw5⟩
  obtain rfl := hw5
  refine hK.out _ _ ?_ (fun hHeld => ?_)
  · exact (by assumption)
  clear hK K
  try simp only [Act.put, List.setIfInBounds_toArray, List.set_cons_zero, List.set_cons_succ]
  refine wpAnyH_take (i := 12) (v := ?_) (by simp only [List.getElem?_toArray, List.getElem?_cons_zero, List.getElem?_cons_succ]; rfl) (by kernel_rfl) (by kernel_rfl) (by kernel_rfl) (fun _ _ _ h => h) (Or.inl ⟨by rfl, ?_⟩) (by assumption) ?_
  rotate_left
  · (intro w hSw; (try dsimp only at hSw); go_simp <;> with_reducible rfl)
  try simp only [Act.put, List.setIfInBounds_toArray, List.set_cons_zero, List.set_cons_succ]
  refine wpAnyH_done (by kernel_rfl) ?_ _
  refine NoPanic.normal ?_
  have hbf := ncS_get (w2 := w2) (by assumption)
  go_wp2_with fail
  go_ret
  exact ⟨rfl, HB0.out.trans hbf⟩
theorem r62 (x y : Ct) (w : World) : Calls Try.prog 62 #[.agg (encC x).toArray, .agg (encC y).toArray] w fun e w' => e = .returned (.int .i64 (cfC x y)) ∧ Gr w w' := r62' _ _ _ _ _ _ _ _ w
theorem cmpLays62 (blk off size : Nat) (w : World) : CmpLays Try.prog 62 #[] encC 4 cfC blk off size w := fun m os dk _ x y => by
  refine (r62 x y _).mono fun e w' ⟨h1, h2⟩ => ⟨h1, ?_⟩
  obtain ⟨q, os', h3⟩ := h2.eq
  exact ⟨q, os', h3⟩
end Go.Proofs.Ytjbgemmcbombfaa
