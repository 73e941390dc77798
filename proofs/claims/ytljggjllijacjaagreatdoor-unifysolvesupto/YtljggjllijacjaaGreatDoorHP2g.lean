/- Contracts of the order of names: Compare, Or, Names, Less. -/
import Derived.Test.YtljggjllijacjaaGreatDoorW1g
import Derived.Deep.RegionHeld3
import Derived.Below
namespace Go.Proofs.YtljggjllijacjaaGreatDoor
open Go.RowKit
def cmpI (x y : Int) : Int := if x < y then -1 else if y < x then 1 else 0
def orI (x y : Int) : Int := if x = 0 then y else x
set_option maxRecDepth 100000 in
theorem h88 (x : Int) (w : World) : Calls Tryz.prog 114 #[.int .i64 x] w fun e w' => e = .returned (.bool false) ∧ w' = w := by
 have hq : (x != x) = false := by simp
 go_enter Tryz.func114, Tryz.ntmps114
 go_wp2_with fail
 go_ret
 exact ⟨rfl, rfl⟩
set_option maxRecDepth 100000 in
theorem h68 (x y : Int) (w : World) : Calls Tryz.prog 101 #[.int .i64 x, .int .i64 y] w fun e w' => e = .returned (.int .i64 (cmpI x y)) ∧ w' = w := by
 have H1 := h88 x w
 have H2 := h88 y w
 have HC : Hid (cmpI x y = if x < y then -1 else if y < x then 1 else 0) := rfl
 by_cases hx : x < y
 ·have HE : Hid (cmpI x y = -1) := by show cmpI x y = -1; rw [HC.out, if_pos hx]
  rw [HE.out]
  go_enter Tryz.func101, Tryz.ntmps101
  go_wp2_with fail
  refine H1.mono ?_
  rintro e w1 ⟨rfl, hw⟩
  obtain rfl := hw
  go_wp2_with fail
  refine H2.mono ?_
  rintro e w1 ⟨rfl, hw⟩
  obtain rfl := hw
  go_wp2_with fail
  go_ret
  exact ⟨rfl, rfl⟩
 ·by_cases hy : y < x
  ·have HE : Hid (cmpI x y = 1) := by show cmpI x y = 1; rw [HC.out, if_neg hx, if_pos hy]
   rw [HE.out]
   go_enter Tryz.func101, Tryz.ntmps101
   go_wp2_with fail
   refine H1.mono ?_
   rintro e w1 ⟨rfl, hw⟩
   obtain rfl := hw
   go_wp2_with fail
   refine H2.mono ?_
   rintro e w1 ⟨rfl, hw⟩
   obtain rfl := hw
   go_wp2_with fail
   go_ret
   exact ⟨rfl, rfl⟩
  ·have HE : Hid (cmpI x y = 0) := by show cmpI x y = 0; rw [HC.out, if_neg hx, if_neg hy]
   rw [HE.out]
   go_enter Tryz.func101, Tryz.ntmps101
   go_wp2_with fail
   refine H1.mono ?_
   rintro e w1 ⟨rfl, hw⟩
   obtain rfl := hw
   go_wp2_with fail
   refine H2.mono ?_
   rintro e w1 ⟨rfl, hw⟩
   obtain rfl := hw
   go_wp2_with fail
   go_ret
   exact ⟨rfl, rfl⟩
set_option maxRecDepth 100000 in
theorem h67 (x y : Int) (b : Nat) (w : World) (h : w.heap[b]? = some (.cells #[.int .i64 x, .int .i64 y] 3 (0, 0))) : Calls Tryz.prog 100 #[.slice (some ⟨b, 0, none⟩) 2 2] w fun e w' => e = .returned (.int .i64 (orI x y)) ∧ w' = w := by
 have HO : orI x y = if x = 0 then y else x := rfl
 have c0 : w.cell? ⟨b, 0, none⟩ = some (.int .i64 x) := by rw [cell_of_row w b 0 _ 3 (0, 0) h]; rfl
 have c1 : w.cell? ⟨b, 1, none⟩ = some (.int .i64 y) := by rw [cell_of_row w b 1 _ 3 (0, 0) h]; rfl
 clear h
 by_cases hx : x = 0
 ·subst hx
  rw [if_pos rfl] at HO
  rw [HO]
  clear HO
  by_cases hy : y = 0
  ·subst hy
   go_enter Tryz.func100, Tryz.ntmps100
   go_wp2_with fail
   refine wp_loop_rounds 3 ?_
   rw [rounds_succ]
   go_wp2_with fail
   rw [rounds_succ]
   go_wp2_with fail
   rw [rounds_succ]
   go_wp2_with fail
   go_ret
   exact ⟨rfl, rfl⟩
  ·have hq : (y != 0) = true := by simp [hy]
   go_enter Tryz.func100, Tryz.ntmps100
   go_wp2_with fail
   refine wp_loop_rounds 3 ?_
   rw [rounds_succ]
   go_wp2_with fail
   rw [rounds_succ]
   go_wp2_with fail
   go_ret
   exact ⟨rfl, rfl⟩
 ·have hq : (x != 0) = true := by simp [hx]
  rw [if_neg hx] at HO
  rw [HO]
  clear HO
  go_enter Tryz.func100, Tryz.ntmps100
  go_wp2_with fail
  refine wp_loop_rounds 3 ?_
  rw [rounds_succ]
  go_wp2_with fail
  go_ret
  exact ⟨rfl, rfl⟩
abbrev NmS (w2 : World) (b1 b2 : Nat) (x1 x2 y1 y2 : Int) (w' : World) : Prop :=
 w'.cell? ⟨b1, 0, none⟩ = some (.int .i64 x1) ∧ w'.cell? ⟨b1, 1, none⟩ = some (.int .i64 x2) ∧ w'.cell? ⟨b2, 0, none⟩ = some (.int .i64 y1) ∧ w'.cell? ⟨b2, 1, none⟩ = some (.int .i64 y2) ∧ Hid (Below w2.heap.size w2 w' ∧ b1 < w2.heap.size ∧ b2 < w2.heap.size)
theorem nmS_hb {w2 : World} {b1 b2 : Nat} {x1 x2 y1 y2 : Int} {w' : World} (h : NmS w2 b1 b2 x1 x2 y1 y2 w') : Below w2.heap.size w2 w' := h.2.2.2.2.out.1
theorem nmS_to {w2 : World} {b1 b2 : Nat} {x1 x2 y1 y2 : Int} {w' w'' : World} (h : NmS w2 b1 b2 x1 x2 y1 y2 w') (hb : Below w2.heap.size w2 w'') : NmS w2 b1 b2 x1 x2 y1 y2 w'' := by
 obtain ⟨h1, h2, h3, h4, h5⟩ := h
 have h9 := h5.out
 have t : ∀ q j u, q < w2.heap.size → w'.cell? ⟨q, j, none⟩ = some u → w''.cell? ⟨q, j, none⟩ = some u := fun q j u hq hu =>
  (hb.cell (p := ⟨q, j, none⟩) hq).trans ((h9.1.cell (p := ⟨q, j, none⟩) hq).symm.trans hu)
 exact ⟨t _ _ _ h9.2.1 h1, t _ _ _ h9.2.1 h2, t _ _ _ h9.2.2 h3, t _ _ _ h9.2.2 h4, hb, h9.2⟩
theorem nmS_drew {w2 : World} {b1 b2 : Nat} {x1 x2 y1 y2 : Int} {w' : World} (h : NmS w2 b1 b2 x1 x2 y1 y2 w') : NmS w2 b1 b2 x1 x2 y1 y2 w'.drew := nmS_to h (nmS_hb h).drew
theorem nmS_alloc {w2 : World} {b1 b2 : Nat} {x1 x2 y1 y2 : Int} {w' : World} (h : NmS w2 b1 b2 x1 x2 y1 y2 w') (ob : Obj) : NmS w2 b1 b2 x1 x2 y1 y2 (w'.alloc ob) := nmS_to h ((nmS_hb h).alloc (nmS_hb h).size ob)
def namesS (x1 x2 y1 y2 : Int) : Int := orI (cmpI x1 y1) (cmpI x2 y2)
theorem two_boxes (w : World) (x1 x2 y1 y2 : Int) : NmS ((w.alloc (.cells #[.int .i64 x1, .int .i64 x2] 32)).alloc (.cells #[.int .i64 y1, .int .i64 y2] 32)) w.heap.size (w.heap.size + 1) x1 x2 y1 y2 ((w.alloc (.cells #[.int .i64 x1, .int .i64 x2] 32)).alloc (.cells #[.int .i64 y1, .int .i64 y2] 32)) := by
 have e1 : ((w.alloc (.cells #[.int .i64 x1, .int .i64 x2] 32)).alloc (.cells #[.int .i64 y1, .int .i64 y2] 32)).heap[w.heap.size]? = some (.cells #[.int .i64 x1, .int .i64 x2] 32 (0, 0)) := (heap_alloc_old _ _ (by simp)).trans (heap_alloc_new w _)
 have e2 : ((w.alloc (.cells #[.int .i64 x1, .int .i64 x2] 32)).alloc (.cells #[.int .i64 y1, .int .i64 y2] 32)).heap[w.heap.size + 1]? = some (.cells #[.int .i64 y1, .int .i64 y2] 32 (0, 0)) := by
  have := heap_alloc_new (w.alloc (.cells #[.int .i64 x1, .int .i64 x2] 32)) (.cells #[.int .i64 y1, .int .i64 y2] 32)
  simpa using this
 refine ⟨?_, ?_, ?_, ?_, Below.refl _ _, by simp; omega, by simp⟩
 ·rw [cell_of_row _ _ 0 _ 32 (0, 0) e1]; rfl
 ·rw [cell_of_row _ _ 1 _ 32 (0, 0) e1]; rfl
 ·rw [cell_of_row _ _ 0 _ 32 (0, 0) e2]; rfl
 ·rw [cell_of_row _ _ 1 _ 32 (0, 0) e2]; rfl
set_option maxRecDepth 100000 in
set_option maxHeartbeats 2000000 in
theorem h46 (x1 x2 y1 y2 : Int) (w : World) : Calls Tryz.prog 78 #[.agg #[.int .i64 x1, .int .i64 x2], .agg #[.int .i64 y1, .int .i64 y2]] w fun e w' => e = .returned (.int .i64 (namesS x1 x2 y1 y2)) ∧ Below w.heap.size w w' := by
 have hS0 := two_boxes w x1 x2 y1 y2
 have HB0 : Hid (Below w.heap.size w ((w.alloc (.cells #[.int .i64 x1, .int .i64 x2] 32)).alloc (.cells #[.int .i64 y1, .int .i64 y2] 32))) := ((Below.refl _ w).alloc (Nat.le_refl _) _).alloc (by simp) _
 go_enter Tryz.func78, Tryz.ntmps78
 go_wp2_with fail
 generalize hW : (w.alloc (.cells #[.int .i64 x1, .int .i64 x2] 32)).alloc (.cells #[.int .i64 y1, .int .i64 y2] 32) = w2 at *
 clear hW
 refine wp_region_noPanic ?_
 refine wp_region_held_drew (S := fun w' => NmS w2 w.heap.size (w.heap.size + 1) x1 x2 y1 y2 w') (by kernel_rfl) (nmS_drew hS0) (fun hHeld => ?_)
 refine wpAnyH_take (i := 0) (v := ?_) (by simp only [List.getElem?_toArray, List.getElem?_cons_zero]; rfl) (by kernel_rfl) (by kernel_rfl) (by kernel_rfl) (fun _ _ _ h => h) (Or.inl ⟨by rfl, ?_⟩) (by assumption) ?_
 rotate_left
 ·(intro w hSw; (try dsimp only at hSw); go_simp <;> with_reducible rfl)
 try simp only [Act.put, List.setIfInBounds_toArray, List.set_cons_zero, List.set_cons_succ]
 refine wpAnyH_take (i := 1) (v := ?_) (by simp only [List.getElem?_toArray, List.getElem?_cons_zero, List.getElem?_cons_succ]; rfl) (by kernel_rfl) (by kernel_rfl) (by kernel_rfl) (fun _ _ _ h => h) (Or.inl ⟨by rfl, ?_⟩) (by assumption) ?_
 rotate_left
 ·(intro w hSw; (try dsimp only at hSw); go_simp <;> with_reducible rfl)
 try simp only [Act.put, List.setIfInBounds_toArray, List.set_cons_zero, List.set_cons_succ]
 refine wpAnyH_take (i := 2) (v := ?_) (by simp only [List.getElem?_toArray, List.getElem?_cons_zero, List.getElem?_cons_succ]; rfl) (by kernel_rfl) (by kernel_rfl) (by kernel_rfl) (fun _ _ _ h => h) (Or.inl ⟨by rfl, ?_⟩) (by assumption) ?_
 rotate_left
 ·(intro w hSw; (try dsimp only at hSw); go_simp <;> with_reducible rfl)
 try simp only [Act.put, List.setIfInBounds_toArray, List.set_cons_zero, List.set_cons_succ]
 refine wpAnyH_take (i := 3) (v := ?_) (by simp only [List.getElem?_toArray, List.getElem?_cons_zero, List.getElem?_cons_succ]; rfl) (by kernel_rfl) (by kernel_rfl) (by kernel_rfl) (fun _ _ _ h => h) (Or.inl ⟨by rfl, ?_⟩) (by assumption) ?_
 rotate_left
 ·(intro w hSw; (try dsimp only at hSw); go_simp <;> with_reducible rfl)
 try simp only [Act.put, List.setIfInBounds_toArray, List.set_cons_zero, List.set_cons_succ]
 refine wpAnyH_take (i := 5) (v := ?_) (by simp only [List.getElem?_toArray, List.getElem?_cons_zero, List.getElem?_cons_succ]; rfl) (by kernel_rfl) (by kernel_rfl) (by kernel_rfl) (fun _ _ _ h => h) (Or.inl ⟨by rfl, ?_⟩) (by assumption) ?_
 rotate_left
 ·(intro w hSw; (try dsimp only at hSw); go_simp <;> with_reducible rfl)
 try simp only [Act.put, List.setIfInBounds_toArray, List.set_cons_zero, List.set_cons_succ]
 refine wpAnyH_take (i := 6) (v := ?_) (by simp only [List.getElem?_toArray, List.getElem?_cons_zero, List.getElem?_cons_succ]; rfl) (by kernel_rfl) (by kernel_rfl) (by kernel_rfl) (fun _ _ _ h => h) (Or.inl ⟨by rfl, ?_⟩) (by assumption) ?_
 rotate_left
 ·(intro w hSw; (try dsimp only at hSw); go_simp <;> with_reducible rfl)
 try simp only [Act.put, List.setIfInBounds_toArray, List.set_cons_zero, List.set_cons_succ]
 refine wpAnyH_take (i := 7) (v := ?_) (by simp only [List.getElem?_toArray, List.getElem?_cons_zero, List.getElem?_cons_succ]; rfl) (by kernel_rfl) (by kernel_rfl) (by kernel_rfl) (fun _ _ _ h => h) (Or.inl ⟨by rfl, ?_⟩) (by assumption) ?_
 rotate_left
 ·(intro w hSw; (try dsimp only at hSw); go_simp <;> with_reducible rfl)
 try simp only [Act.put, List.setIfInBounds_toArray, List.set_cons_zero, List.set_cons_succ]
 refine wpAnyH_take (i := 8) (v := ?_) (by simp only [List.getElem?_toArray, List.getElem?_cons_zero, List.getElem?_cons_succ]; rfl) (by kernel_rfl) (by kernel_rfl) (by kernel_rfl) (fun _ _ _ h => h) (Or.inl ⟨by rfl, ?_⟩) (by assumption) ?_
 rotate_left
 ·(intro w hSw; (try dsimp only at hSw); go_simp <;> with_reducible rfl)
 try simp only [Act.put, List.setIfInBounds_toArray, List.set_cons_zero, List.set_cons_succ]
 refine wpAnyH_ready (rs := [4]) (by kernel_rfl) (by simp) ?_
 refine AllReadyH.cons (by simp only [List.getElem?_toArray, List.getElem?_cons_zero, List.getElem?_cons_succ]; rfl) (fun K hK => ?_) AllReadyH.nil
 go_simp
 go_at_call 101
 refine (h68 _ _ _).mono ?_
 rintro e w3 ⟨rfl, hw3⟩
 obtain rfl := hw3
 refine hK.out _ _ ?_ (fun hHeld => ?_)
 ·exact (by assumption)
 clear hK K
 try simp only [Act.put, List.setIfInBounds_toArray, List.set_cons_zero, List.set_cons_succ]
 refine wpAnyH_ready (rs := [9]) (by kernel_rfl) (by simp) ?_
 refine AllReadyH.cons (by simp only [List.getElem?_toArray, List.getElem?_cons_zero, List.getElem?_cons_succ]; rfl) (fun K hK => ?_) AllReadyH.nil
 go_simp
 go_at_call 101
 refine (h68 _ _ _).mono ?_
 rintro e w4 ⟨rfl, hw4⟩
 obtain rfl := hw4
 refine hK.out _ _ ?_ (fun hHeld => ?_)
 ·exact (by assumption)
 clear hK K
 try simp only [Act.put, List.setIfInBounds_toArray, List.set_cons_zero, List.set_cons_succ]
 refine wpAnyH_ready (rs := [10]) (by kernel_rfl) (by simp) ?_
 refine AllReadyH.cons (by simp only [List.getElem?_toArray, List.getElem?_cons_zero, List.getElem?_cons_succ]; rfl) (fun K hK => ?_) AllReadyH.nil
 go_simp
 refine hK.out _ _ ?_ (fun hHeld => ?_)
 ·exact nmS_alloc (by assumption) _
 clear hK K
 try simp only [Act.put, List.setIfInBounds_toArray, List.set_cons_zero, List.set_cons_succ]
 refine wpAnyH_ready (rs := [11]) (by kernel_rfl) (by simp) ?_
 refine AllReadyH.cons (by simp only [List.getElem?_toArray, List.getElem?_cons_zero, List.getElem?_cons_succ]; rfl) (fun K hK => ?_) AllReadyH.nil
 go_simp
 go_at_call 100
 refine (h67 (cmpI x1 y1) (cmpI x2 y2) w2.heap.size _ (by exact heap_alloc_new w2 _)).mono ?_
 rintro e w5 ⟨rfl, hw5⟩
 obtain rfl := hw5
 refine hK.out _ _ ?_ (fun hHeld => ?_)
 ·exact (by assumption)
 clear hK K
 try simp only [Act.put, List.setIfInBounds_toArray, List.set_cons_zero, List.set_cons_succ]
 refine wpAnyH_take (i := 12) (v := ?_) (by simp only [List.getElem?_toArray, List.getElem?_cons_zero, List.getElem?_cons_succ]; rfl) (by kernel_rfl) (by kernel_rfl) (by kernel_rfl) (fun _ _ _ h => h) (Or.inl ⟨by rfl, ?_⟩) (by assumption) ?_
 rotate_left
 ·(intro w hSw; (try dsimp only at hSw); go_simp <;> with_reducible rfl)
 try simp only [Act.put, List.setIfInBounds_toArray, List.set_cons_zero, List.set_cons_succ]
 refine wpAnyH_done (by kernel_rfl) ?_ _
 refine NoPanic.normal ?_
 have hbf := nmS_hb (w2 := w2) (by assumption)
 go_wp2_with fail
 go_ret
 exact ⟨rfl, HB0.out.trans (hbf.mono HB0.out.size)⟩
set_option maxRecDepth 100000 in
theorem h30 (x1 x2 y1 y2 : Int) (w : World) : Calls Tryz.prog 41 #[.agg #[.int .i64 x1, .int .i64 x2], .agg #[.int .i64 y1, .int .i64 y2]] w fun e w' => e = .returned (.bool (decide (namesS x1 x2 y1 y2 < 0))) ∧ Below w.heap.size w w' := by
 obtain ⟨c0, c1, c2, c3, _⟩ := two_boxes w x1 x2 y1 y2
 have HB0 : Hid (Below w.heap.size w ((w.alloc (.cells #[.int .i64 x1, .int .i64 x2] 32)).alloc (.cells #[.int .i64 y1, .int .i64 y2] 32))) := ((Below.refl _ w).alloc (Nat.le_refl _) _).alloc (by simp) _
 have H46 := h46 x1 x2 y1 y2 ((w.alloc (.cells #[.int .i64 x1, .int .i64 x2] 32)).alloc (.cells #[.int .i64 y1, .int .i64 y2] 32))
 generalize namesS x1 x2 y1 y2 = q at *
 go_enter Tryz.func41, Tryz.ntmps41
 go_wp2_with fail
 refine H46.mono ?_
 rintro e w1 ⟨rfl, hb1⟩
 have HB1 : Hid (Below w.heap.size w w1) := HB0.out.trans (hb1.mono HB0.out.size)
 go_wp2_with fail
 go_ret
 exact ⟨rfl, HB1.out⟩
theorem less_namesB (x1 x2 y1 y2 : Int) : decide (namesS x1 x2 y1 y2 < 0) = lessB x1 x2 y1 y2 := by
 unfold namesS orI cmpI lessB
 rcases Int.lt_trichotomy x1 y1 with h | h | h
 ·simp [h]
 ·rcases Int.lt_trichotomy x2 y2 with k | k | k
  ·simp [h, k]
  ·simp [h, k]
  ·have k' : ¬ x2 < y2 := by omega
   simp [h, k, k']
 ·have h' : ¬ x1 < y1 := by omega
  have h'' : x1 ≠ y1 := by omega
  simp [h, h', h'']
theorem c38 (a0 a1 b0 b1 : Int) (w : World) :
  Calls Tryz.prog 41 #[.agg #[.int .i64 a0, .int .i64 a1], .agg #[.int .i64 b0, .int .i64 b1]] w fun e w' => e = .returned (.bool (lessB a0 a1 b0 b1)) ∧ Below w.heap.size w w' := by
 have h := h30 a0 a1 b0 b1 w
 rw [less_namesB] at h
 exact h
end Go.Proofs.YtljggjllijacjaaGreatDoor
