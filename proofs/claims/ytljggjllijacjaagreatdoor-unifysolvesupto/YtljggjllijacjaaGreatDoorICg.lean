/- Contract of the reference's Bind. -/
import Derived.Test.YtljggjllijacjaaGreatDoorIQg
namespace Go.Proofs.YtljggjllijacjaaGreatDoor
open Go.RowKit
attribute [local go_sem ↓] Go.wp_at_zero Go.wp_at_succ
theorem c37 (l : List C) (v : Value) (w : World) (h : TermAt w v l) :
  Calls Tryz.prog 44 #[v] w fun e w' => e = .returned (.bool (refGlobalB l)) ∧ Below w.heap.size w w' := by
 cases hr : rightB l
 ·exact c37_no l v w h hr (c23 l v w h)
 ·exact c37_yes l v w h hr (c23 l v w h)
theorem global_same (l : List C) : globalB l = refGlobalB l := by
 unfold globalB refGlobalB
 cases hr : rightB l
 ·simp
 ·rw [Bool.and_true, Bool.true_and]
  have h := right_vars hr
  rw [Bool.eq_iff_iff, List.all_eq_true, List.all_eq_true]
  constructor
  ·intro h1 x hx
   have := h1 x hx
   have := h x hx
   simp at *; omega
  ·intro h1 x hx
   have := h1 x hx
   have := h x hx
   simp at *; omega
theorem var_one {c : C} {r : List C} (h : rightB (c :: r) = true) (hk : c.k = 4) : r = [] := by
 have ha : argsOf c.k c.n = 0 := by simp [argsOf, hk]
 have e : endS (c :: r) 0 = 1 := by
  unfold endS
  rw [if_neg (by simp)]
  simp only [Int.toNat_zero, List.drop_zero]
  unfold endF
  rw [ha, if_neg (by simp), if_pos (by omega)]
  rfl
 unfold rightB at h
 simp only [Bool.and_eq_true, beq_iff_eq] at h
 have h1 := h.2
 rw [e] at h1
 refine List.eq_nil_of_length_eq_zero ?_
 simp only [List.length_cons] at h1
 omega
theorem infoB : ∃ i, Tryz.prog.info? 73 = some i ∧ i.zero = some (.agg #[.int .i64 0, .int .i64 0, .slice none 0 0]) ∧ i.size = 3 ∧ i.bytes = 40 := by
 have h : (Tryz.prog.info? 73).map (fun i => (i.zero, i.size, i.bytes)) = some (some (.agg #[.int .i64 0, .int .i64 0, .slice none 0 0]), 3, 40) := by kernel_rfl
 cases hq : Tryz.prog.info? 73 with
 | none => rw [hq] at h; cases h
 | some i =>
  rw [hq] at h
  simp only [Option.map_some, Option.some.injEq, Prod.mk.injEq] at h
  exact ⟨i, rfl, h.1, h.2.1, h.2.2⟩
theorem bindE_six {m : Hp} {x : Nm} {l : List C} (h : x.1 < 0 ∨ oneT ⟨4, ⟨#[]⟩, 0, x.1, x.2⟩ = [] ∨ globalB l = false) : bindE m x l = 6 := by unfold bindE; rw [if_pos h]
theorem bindE_70 {m : Hp} {x : Nm} {l : List C} (h : ¬ (x.1 < 0 ∨ oneT ⟨4, ⟨#[]⟩, 0, x.1, x.2⟩ = [] ∨ globalB l = false)) (h2 : (lookH m x).isSome = true) : bindE m x l = 70 := by unfold bindE; rw [if_neg h, if_pos h2]
theorem bindE_71 {m : Hp} {x : Nm} {l : List C} (h : ¬ (x.1 < 0 ∨ oneT ⟨4, ⟨#[]⟩, 0, x.1, x.2⟩ = [] ∨ globalB l = false)) (h2 : (lookH m x).isSome = false) (h3 : isVarL l = true) (h4 : lessN (varL l) x = false) : bindE m x l = 71 := by unfold bindE; rw [if_neg h, if_neg (by rw [h2]; simp), if_pos ⟨h3, h4⟩]
theorem bindE_0 {m : Hp} {x : Nm} {l : List C} (h : ¬ (x.1 < 0 ∨ oneT ⟨4, ⟨#[]⟩, 0, x.1, x.2⟩ = [] ∨ globalB l = false)) (h2 : (lookH m x).isSome = false) (h3 : isVarL l = true → lessN (varL l) x = true) : bindE m x l = 0 := by
 unfold bindE
 rw [if_neg h, if_neg (by rw [h2]; simp), if_neg]
 rintro ⟨k1, k2⟩
 rw [h3 k1] at k2; cases k2
set_option maxRecDepth 100000 in
set_option maxHeartbeats 4000000 in
theorem i24_six (G : Nat → Prop) (rt : Nat) (bs : List Bn) (x : Nm) (l : List C) (v : Value) (w : World) (h : RfH w G rt bs) (hT : TermAt w v l) (_hbt : l.length * 48 ≤ 140737488355328) (hn : bs.length ≤ 3518437208780) (he : x.1 < 0 ∨ oneT ⟨4, ⟨#[]⟩, 0, x.1, x.2⟩ = [] ∨ globalB l = false) :
  Calls Tryz.prog 35 #[.pointer (some ⟨rt, 0, none⟩), .agg #[.int .i64 x.1, .int .i64 x.2], v] w fun e w' => e = .returned (.int .i64 (bindE (hpOf bs) x l)) ∧ BindR w G rt bs x l w' := by
 obtain ⟨i0, hi, hz, hs3, hby⟩ := infoB
 obtain ⟨j0, hj, hjz, hjs, hjb⟩ := info60
 obtain ⟨W, hW⟩ : ∃ W, w.alloc (.cells #[.int .i64 x.1, .int .i64 x.2] 32) = W := ⟨_, rfl⟩
 obtain ⟨vb, hvb⟩ : ∃ vb, w.heap.size = vb := ⟨_, rfl⟩
 have hbW : Below w.heap.size w W := by rw [← hW]; exact (Below.refl _ w).alloc (Nat.le_refl _) _
 have hc : W.heap[vb]? = some (.cells #[.int .i64 x.1, .int .i64 x.2] 32 (0, 0)) := by rw [← hW, ← hvb]; exact heap_alloc_new w _
 have hvl : vb < W.heap.size := (Array.getElem?_eq_some_iff.1 hc).1
 obtain ⟨v0, v1⟩ := box_cells hc
 obtain ⟨ra, rc, hblk, hRs, hG⟩ := (h.below hbW).ex
 obtain ⟨n, hnn⟩ : ∃ n, bs.length = n := ⟨_, rfl⟩
 rw [hnn] at hRs hblk hn
 have HS : Hid (∀ u, Below W.heap.size W u → u.cell? ⟨rt, 0, none⟩ = some (.slice ra n rc) ∧ u.frozen? ⟨rt, 0, none⟩ = false ∧ u.cell? ⟨vb, 0, none⟩ = some (.int .i64 x.1) ∧ u.cell? ⟨vb, 1, none⟩ = some (.int .i64 x.2) ∧ Bs u ra n bs) := fun u hu => by
  have hrl : rt < W.heap.size := (Array.getElem?_eq_some_iff.1 hblk).1
  have k1 := (hu.block rt hrl).trans hblk
  have k2 := box_cells ((hu.block vb hvl).trans hc)
  exact ⟨by rw [cell_of_row u rt 0 _ 57 (0, 0) k1]; rfl, frozen_of_row u rt 0 _ 57 k1, k2.1, k2.2, hRs.keeps fun g hg => hu.block g ((h.below hbW).lt g (hG g hg))⟩
 have H38 : Calls Tryz.prog 72 #[.agg #[.int .i64 x.1, .int .i64 x.2]] W fun e w' => ∃ a c, e = .returned (.slice a (oneT ⟨4, ⟨#[]⟩, 0, x.1, x.2⟩).length c) ∧ Hid (Below W.heap.size W w') := by
  refine (c19 x.1 x.2 W).mono ?_
  rintro e w' ⟨u, rfl, h1, h2⟩
  obtain ⟨a, c, e⟩ := h1.form
  exact ⟨a, c, by rw [e], h2⟩
 have H39 : Hid (∀ u, Below W.heap.size W u → Calls Tryz.prog 44 #[v] u fun e w' => e = .returned (.bool (globalB l)) ∧ Hid (Below W.heap.size W w')) := fun u hu => by
  refine (c37 l v u ((hT.below hbW).below hu)).mono ?_
  rintro e w' ⟨rfl, hb⟩
  exact ⟨by rw [global_same], hu.trans (hb.mono hu.size)⟩
 have H40 : Hid (∀ u, Below W.heap.size W u → Calls Tryz.prog 73 #[.pointer (some ⟨rt, 0, none⟩), .agg #[.int .i64 x.1, .int .i64 x.2]] u fun e w' => ∃ i : Int, e = .returned (.int .i64 i) ∧ Hid (decide (i ≥ 0) = hasB bs x) ∧ Hid (Below W.heap.size W w')) := fun u hu => by
  refine (i40 G rt bs x u ((h.below hbW).below hu) (by omega)).mono ?_
  rintro e w' ⟨i, rfl, h1, hb⟩
  exact ⟨i, rfl, h1, hu.trans (hb.mono hu.size)⟩
 have HBE : Hid (bindE (hpOf bs) x l = 6 ∧ ∀ w', Below W.heap.size W w' → BindR w G rt bs x l w') := ⟨bindE_six he, fun w' hb => bindR_no h (by rw [bindE_six he]; decide) (hbW.trans (hb.mono hbW.size))⟩
 obtain ⟨k0, hk0⟩ : ∃ k0, (oneT ⟨4, ⟨#[]⟩, 0, x.1, x.2⟩).length = k0 := ⟨_, rfl⟩
 have hk1 : k0 = 0 ∨ k0 = 1 := by rw [← hk0]; unfold oneT; split <;> simp
 have hcase : k0 = 0 ∨ (k0 = 1 ∧ x.1 < 0) ∨ (k0 = 1 ∧ ¬ x.1 < 0 ∧ globalB l = false) := by
  rcases hk1 with e | e
  ·exact .inl e
  ·by_cases hx : x.1 < 0
   ·exact .inr (.inl ⟨e, hx⟩)
   ·refine .inr (.inr ⟨e, hx, ?_⟩)
    rcases he with e1 | e1 | e1
    ·exact absurd e1 hx
    ·rw [e1] at hk0; simp at hk0; omega
    ·exact e1
 rw [hk0] at H38
 clear h hT _hbt hn he hbW hc hvl hblk hRs hG hk0 hk1 H40 hnn
 obtain ⟨x1, x2⟩ := x
 simp only at *
 rcases hcase with rfl | ⟨rfl, hx⟩ | ⟨rfl, hx, hgl⟩
 ·go_enter Tryz.func35, Tryz.ntmps35
  go_wp2_with fail
  refine H38.mono ?_
  rintro e w1 ⟨a1, c1, rfl, HB1⟩
  go_wp2_with fail
  go_ret
  exact ⟨by rw [HBE.out.1]; rfl, HBE.out.2 _ HB1.out⟩
 ·go_enter Tryz.func35, Tryz.ntmps35
  go_wp2_with fail
  refine H38.mono ?_
  rintro e w1 ⟨a1, c1, rfl, HB1⟩
  clear v0 v1
  obtain ⟨_, _, v0, v1, _⟩ := HS.out w1 HB1.out
  go_wp2_with fail
  go_ret
  exact ⟨by rw [HBE.out.1]; rfl, HBE.out.2 _ HB1.out⟩
 ·go_enter Tryz.func35, Tryz.ntmps35
  go_wp2_with fail
  refine H38.mono ?_
  rintro e w1 ⟨a1, c1, rfl, HB1⟩
  clear v0 v1
  obtain ⟨_, _, v0, v1, _⟩ := HS.out w1 HB1.out
  have H39' := H39.out w1 HB1.out
  rw [hgl] at H39'
  clear hgl
  go_wp2_with fail
  refine H39'.mono ?_
  rintro e w2 ⟨rfl, HB2⟩
  clear v0 v1
  go_wp2_with fail
  go_ret
  exact ⟨by rw [HBE.out.1]; rfl, HBE.out.2 _ HB2.out⟩
set_option maxRecDepth 100000 in
set_option maxHeartbeats 4000000 in
theorem i24_70 (G : Nat → Prop) (rt : Nat) (bs : List Bn) (x : Nm) (l : List C) (v : Value) (w : World) (h : RfH w G rt bs) (hT : TermAt w v l) (_hbt : l.length * 48 ≤ 140737488355328) (hn : bs.length ≤ 3518437208780) (he : ¬ (x.1 < 0 ∨ oneT ⟨4, ⟨#[]⟩, 0, x.1, x.2⟩ = [] ∨ globalB l = false)) (h70 : hasB bs x = true) :
  Calls Tryz.prog 35 #[.pointer (some ⟨rt, 0, none⟩), .agg #[.int .i64 x.1, .int .i64 x.2], v] w fun e w' => e = .returned (.int .i64 (bindE (hpOf bs) x l)) ∧ BindR w G rt bs x l w' := by
 obtain ⟨i0, hi, hz, hs3, hby⟩ := infoB
 obtain ⟨j0, hj, hjz, hjs, hjb⟩ := info60
 obtain ⟨W, hW⟩ : ∃ W, w.alloc (.cells #[.int .i64 x.1, .int .i64 x.2] 32) = W := ⟨_, rfl⟩
 obtain ⟨vb, hvb⟩ : ∃ vb, w.heap.size = vb := ⟨_, rfl⟩
 have hbW : Below w.heap.size w W := by rw [← hW]; exact (Below.refl _ w).alloc (Nat.le_refl _) _
 have hc : W.heap[vb]? = some (.cells #[.int .i64 x.1, .int .i64 x.2] 32 (0, 0)) := by rw [← hW, ← hvb]; exact heap_alloc_new w _
 have hvl : vb < W.heap.size := (Array.getElem?_eq_some_iff.1 hc).1
 obtain ⟨v0, v1⟩ := box_cells hc
 obtain ⟨ra, rc, hblk, hRs, hG⟩ := (h.below hbW).ex
 obtain ⟨n, hnn⟩ : ∃ n, bs.length = n := ⟨_, rfl⟩
 rw [hnn] at hRs hblk hn
 have HS : Hid (∀ u, Below W.heap.size W u → u.cell? ⟨rt, 0, none⟩ = some (.slice ra n rc) ∧ u.frozen? ⟨rt, 0, none⟩ = false ∧ u.cell? ⟨vb, 0, none⟩ = some (.int .i64 x.1) ∧ u.cell? ⟨vb, 1, none⟩ = some (.int .i64 x.2) ∧ Bs u ra n bs) := fun u hu => by
  have hrl : rt < W.heap.size := (Array.getElem?_eq_some_iff.1 hblk).1
  have k1 := (hu.block rt hrl).trans hblk
  have k2 := box_cells ((hu.block vb hvl).trans hc)
  exact ⟨by rw [cell_of_row u rt 0 _ 57 (0, 0) k1]; rfl, frozen_of_row u rt 0 _ 57 k1, k2.1, k2.2, hRs.keeps fun g hg => hu.block g ((h.below hbW).lt g (hG g hg))⟩
 have H38 : Calls Tryz.prog 72 #[.agg #[.int .i64 x.1, .int .i64 x.2]] W fun e w' => ∃ a c, e = .returned (.slice a (oneT ⟨4, ⟨#[]⟩, 0, x.1, x.2⟩).length c) ∧ Hid (Below W.heap.size W w') := by
  refine (c19 x.1 x.2 W).mono ?_
  rintro e w' ⟨u, rfl, h1, h2⟩
  obtain ⟨a, c, e⟩ := h1.form
  exact ⟨a, c, by rw [e], h2⟩
 have H39 : Hid (∀ u, Below W.heap.size W u → Calls Tryz.prog 44 #[v] u fun e w' => e = .returned (.bool (globalB l)) ∧ Hid (Below W.heap.size W w')) := fun u hu => by
  refine (c37 l v u ((hT.below hbW).below hu)).mono ?_
  rintro e w' ⟨rfl, hb⟩
  exact ⟨by rw [global_same], hu.trans (hb.mono hu.size)⟩
 have H40 : Hid (∀ u, Below W.heap.size W u → Calls Tryz.prog 73 #[.pointer (some ⟨rt, 0, none⟩), .agg #[.int .i64 x.1, .int .i64 x.2]] u fun e w' => ∃ i : Int, e = .returned (.int .i64 i) ∧ Hid (decide (i ≥ 0) = hasB bs x) ∧ Hid (Below W.heap.size W w')) := fun u hu => by
  refine (i40 G rt bs x u ((h.below hbW).below hu) (by omega)).mono ?_
  rintro e w' ⟨i, rfl, h1, hb⟩
  exact ⟨i, rfl, h1, hu.trans (hb.mono hu.size)⟩
 have HBE : Hid (bindE (hpOf bs) x l = 70 ∧ ∀ w', Below W.heap.size W w' → BindR w G rt bs x l w') := ⟨bindE_70 he h70, fun w' hb => bindR_no h (by rw [bindE_70 he h70]; decide) (hbW.trans (hb.mono hbW.size))⟩
 have hk0 : (oneT ⟨4, ⟨#[]⟩, 0, x.1, x.2⟩).length = 1 := by
  have : oneT ⟨4, ⟨#[]⟩, 0, x.1, x.2⟩ ≠ [] := fun e => he (.inr (.inl e))
  unfold oneT at this ⊢
  split
  ·rfl
  ·next e => rw [if_neg e] at this; exact absurd rfl this
 have hx : ¬ x.1 < 0 := fun e => he (.inl e)
 have hgl : globalB l = true := by
  cases e : globalB l
  ·exact absurd (.inr (.inr e)) he
  ·rfl
 rw [hk0] at H38
 rw [h70] at H40
 clear h hT _hbt hn he hbW hc hvl hblk hRs hG hk0 hnn h70
 obtain ⟨x1, x2⟩ := x
 simp only at *
 go_enter Tryz.func35, Tryz.ntmps35
 go_wp2_with fail
 refine H38.mono ?_
 rintro e w1 ⟨a1, c1, rfl, HB1⟩
 clear v0 v1 H38
 obtain ⟨_, _, v0, v1, _⟩ := HS.out w1 HB1.out
 have H39' := H39.out w1 HB1.out
 rw [hgl] at H39'
 clear hgl
 go_wp2_with fail
 refine H39'.mono ?_
 rintro e w1b ⟨rfl, HB1b⟩
 clear v0 v1 H39'
 obtain ⟨_, _, v0, v1, _⟩ := HS.out w1b HB1b.out
 go_wp2_with fail
 refine (H40.out _ HB1b.out).mono ?_
 rintro e w2 ⟨i, rfl, HI, HB2⟩
 have hi0 : i ≥ 0 := of_decide_eq_true HI.out
 clear v0 v1 HI
 go_wp2_with fail
 go_ret
 exact ⟨by rw [HBE.out.1]; rfl, HBE.out.2 _ HB2.out⟩
set_option maxRecDepth 100000 in
set_option maxHeartbeats 16000000 in
theorem i24_71 (G : Nat → Prop) (rt : Nat) (bs : List Bn) (x : Nm) (l : List C) (v : Value) (w : World) (h : RfH w G rt bs) (hT : TermAt w v l) (hbt : l.length * 48 ≤ 140737488355328) (hn : bs.length ≤ 3518437208780) (he : ¬ (x.1 < 0 ∨ oneT ⟨4, ⟨#[]⟩, 0, x.1, x.2⟩ = [] ∨ globalB l = false)) (h70 : hasB bs x = false) (h71 : isVarL l = true ∧ lessN (varL l) x = false) :
  Calls Tryz.prog 35 #[.pointer (some ⟨rt, 0, none⟩), .agg #[.int .i64 x.1, .int .i64 x.2], v] w fun e w' => e = .returned (.int .i64 (bindE (hpOf bs) x l)) ∧ BindR w G rt bs x l w' := by
 obtain ⟨i0, hi, hz, hs3, hby⟩ := infoB
 obtain ⟨j0, hj, hjz, hjs, hjb⟩ := info60
 obtain ⟨W, hW⟩ : ∃ W, w.alloc (.cells #[.int .i64 x.1, .int .i64 x.2] 32) = W := ⟨_, rfl⟩
 obtain ⟨vb, hvb⟩ : ∃ vb, w.heap.size = vb := ⟨_, rfl⟩
 have hbW : Below w.heap.size w W := by rw [← hW]; exact (Below.refl _ w).alloc (Nat.le_refl _) _
 have hc : W.heap[vb]? = some (.cells #[.int .i64 x.1, .int .i64 x.2] 32 (0, 0)) := by rw [← hW, ← hvb]; exact heap_alloc_new w _
 have hvl : vb < W.heap.size := (Array.getElem?_eq_some_iff.1 hc).1
 obtain ⟨v0, v1⟩ := box_cells hc
 obtain ⟨ra, rc, hblk, hRs, hG⟩ := (h.below hbW).ex
 obtain ⟨n, hnn⟩ : ∃ n, bs.length = n := ⟨_, rfl⟩
 rw [hnn] at hRs hblk hn
 have HS : Hid (∀ u, Below W.heap.size W u → u.cell? ⟨rt, 0, none⟩ = some (.slice ra n rc) ∧ u.frozen? ⟨rt, 0, none⟩ = false ∧ u.cell? ⟨vb, 0, none⟩ = some (.int .i64 x.1) ∧ u.cell? ⟨vb, 1, none⟩ = some (.int .i64 x.2) ∧ Bs u ra n bs) := fun u hu => by
  have hrl : rt < W.heap.size := (Array.getElem?_eq_some_iff.1 hblk).1
  have k1 := (hu.block rt hrl).trans hblk
  have k2 := box_cells ((hu.block vb hvl).trans hc)
  exact ⟨by rw [cell_of_row u rt 0 _ 57 (0, 0) k1]; rfl, frozen_of_row u rt 0 _ 57 k1, k2.1, k2.2, hRs.keeps fun g hg => hu.block g ((h.below hbW).lt g (hG g hg))⟩
 have H38 : Calls Tryz.prog 72 #[.agg #[.int .i64 x.1, .int .i64 x.2]] W fun e w' => ∃ a c, e = .returned (.slice a (oneT ⟨4, ⟨#[]⟩, 0, x.1, x.2⟩).length c) ∧ Hid (Below W.heap.size W w') := by
  refine (c19 x.1 x.2 W).mono ?_
  rintro e w' ⟨u, rfl, h1, h2⟩
  obtain ⟨a, c, e⟩ := h1.form
  exact ⟨a, c, by rw [e], h2⟩
 have H39 : Hid (∀ u, Below W.heap.size W u → Calls Tryz.prog 44 #[v] u fun e w' => e = .returned (.bool (globalB l)) ∧ Hid (Below W.heap.size W w')) := fun u hu => by
  refine (c37 l v u ((hT.below hbW).below hu)).mono ?_
  rintro e w' ⟨rfl, hb⟩
  exact ⟨by rw [global_same], hu.trans (hb.mono hu.size)⟩
 have H40 : Hid (∀ u, Below W.heap.size W u → Calls Tryz.prog 73 #[.pointer (some ⟨rt, 0, none⟩), .agg #[.int .i64 x.1, .int .i64 x.2]] u fun e w' => ∃ i : Int, e = .returned (.int .i64 i) ∧ Hid (decide (i ≥ 0) = hasB bs x) ∧ Hid (Below W.heap.size W w')) := fun u hu => by
  refine (i40 G rt bs x u ((h.below hbW).below hu) (by omega)).mono ?_
  rintro e w' ⟨i, rfl, h1, hb⟩
  exact ⟨i, rfl, h1, hu.trans (hb.mono hu.size)⟩
 have hk0 : (oneT ⟨4, ⟨#[]⟩, 0, x.1, x.2⟩).length = 1 := by
  have : oneT ⟨4, ⟨#[]⟩, 0, x.1, x.2⟩ ≠ [] := fun e => he (.inr (.inl e))
  unfold oneT at this ⊢
  split
  ·rfl
  ·next e => rw [if_neg e] at this; exact absurd rfl this
 have hx : ¬ x.1 < 0 := fun e => he (.inl e)
 have hgl : globalB l = true := by
  cases e : globalB l
  ·exact absurd (.inr (.inr e)) he
  ·rfl
 rw [hk0] at H38
 have hrl : rightB l = true := by unfold globalB at hgl; simp only [Bool.and_eq_true] at hgl; exact hgl.2
 have HBE : Hid (bindE (hpOf bs) x l = 71 ∧ ∀ w', Below W.heap.size W w' → BindR w G rt bs x l w') := ⟨bindE_71 he h70 h71.1 h71.2, fun w' hb => bindR_no h (by rw [bindE_71 he h70 h71.1 h71.2]; decide) (hbW.trans (hb.mono hbW.size))⟩
 have hl1 := right_len hrl
 obtain ⟨tb, to, tcap, rfl, hrg, htb⟩ : ∃ tb to tcap, v = .slice (some ⟨tb, to, none⟩) l.length tcap ∧ w.rangeAt tb to (flat l) ∧ tb < w.heap.size := by
  rcases hT.2 with ⟨e, _⟩ | ⟨b, o, cap, h1, _, _, h3, h4⟩
  ·rw [e] at hl1; simp at hl1
  ·exact ⟨b, o, cap, h1, h3, h4⟩
 have HTC : Hid (∀ u, Below W.heap.size W u → ∀ j z, (flat l)[j]? = some z → u.cell? ((⟨tb, to, none⟩ : Addr).add j) = some z) := fun u hu j z hz => by
  rw [Addr.add_mid]
  exact range_below hrg htb (hbW.trans (hu.mono hbW.size)) j z hz
 have HFL : Hid ((flat l).length = l.length * 5) := by show _ = _; rw [flat_length]; omega
 obtain ⟨ck, cn, cv, ct, cm, hcc⟩ : ∃ ck cn cv ct cm, l[0]'(by omega) = ⟨ck, ct, cm, cn, cv⟩ := ⟨_, _, _, _, _, rfl⟩
 have HCC : Hid (l[0]'(by omega) = ⟨ck, ct, cm, cn, cv⟩) := hcc
 clear hcc
 have HT0 : Hid (∀ u, Below W.heap.size W u → u.cell? ⟨tb, to, none⟩ = some (.int .u8 ck) ∧ u.cell? ⟨tb, to + 3, none⟩ = some (.int .i64 cn) ∧ u.cell? ⟨tb, to + 4, none⟩ = some (.int .i64 cv)) := fun u hu => by
  obtain ⟨z0, _, _, z3, z4⟩ := term_cells (range_below hrg htb (hbW.trans (hu.mono hbW.size))) 0 (by omega)
  rw [HCC.out] at z0 z3 z4
  exact ⟨by simpa using z0, by simpa using z3, by simpa using z4⟩
 have hlN : 0 < l.length := by omega
 have hl256 : l.length ≤ 256 := hl1.2
 have HV : Hid ((ck = 4 → isVarL l = true ∧ varL l = (cn, cv)) ∧ (ck ≠ 4 → isVarL l = false)) := by
  cases l with
  | nil => simp at hl1
  | cons c r =>
   have hcc := HCC.out
   simp only [List.getElem_cons_zero] at hcc
   refine ⟨fun e => ?_, fun e => ?_⟩
   ·have hck : c.k = 4 := by rw [hcc]; exact e
    have := var_one hrl hck
    subst this
    exact ⟨by simp [isVarL, hck], by rw [hcc]; rfl⟩
   ·have hck : c.k ≠ 4 := by rw [hcc]; exact e
    cases r with
    | nil => simp [isVarL, hck]
    | cons d t => rfl
 have H10 : Hid (∀ (y1 y2 : Int) (z u : World), Below z.heap.size z u → Calls Tryz.prog 28 #[.agg #[.int .i64 x.1, .int .i64 x.2], .agg #[.int .i64 y1, .int .i64 y2]] u fun e w' => e = .returned (.bool (lsB x.1 x.2 y1 y2)) ∧ Hid (Below z.heap.size z w')) := fun y1 y2 z u hu => by
  refine (i10 x.1 x.2 y1 y2 u).mono ?_
  rintro e w' ⟨rfl, hb⟩
  exact ⟨rfl, hu.trans (hb.mono hu.size)⟩
 have H10v : Hid (∀ (z u : World), Below z.heap.size z u → Calls Tryz.prog 28 #[.agg #[.int .i64 cn, .int .i64 cv], .agg #[.int .i64 x.1, .int .i64 x.2]] u fun e w' => e = .returned (.bool (lsB cn cv x.1 x.2)) ∧ Hid (Below z.heap.size z w')) := fun z u hu => by
  refine (i10 cn cv x.1 x.2 u).mono ?_
  rintro e w' ⟨rfl, hb⟩
  exact ⟨rfl, hu.trans (hb.mono hu.size)⟩
 have hck : ck = 4 := by
  by_cases e : ck = 4
  ·exact e
  ·have := HV.out.2 e; rw [h71.1] at this; cases this
 have hls : lsB cn cv x.1 x.2 = false := by
  have h1 := h71.2
  rw [(HV.out.1 hck).2] at h1
  exact (lsB_N (cn, cv) x).trans h1
 rw [hls] at H10v
 subst hck
 rw [h70] at H40
 clear hls h71 HV
 clear h hT hbt he hbW hc hvl hblk hRs hG hk0 hnn h70 hrl HCC hl1 hrg htb
 obtain ⟨x1, x2⟩ := x
 simp only at *
 go_enter Tryz.func35, Tryz.ntmps35
 go_wp2_with fail
 refine H38.mono ?_
 rintro e w1 ⟨a1, c1, rfl, HB1⟩
 clear v0 v1 H38
 obtain ⟨_, _, v0, v1, _⟩ := HS.out w1 HB1.out
 have H39' := H39.out w1 HB1.out
 rw [hgl] at H39'
 clear hgl
 go_wp2_with fail
 refine H39'.mono ?_
 rintro e w1b ⟨rfl, HB1b⟩
 clear v0 v1 H39'
 obtain ⟨_, _, v0, v1, _⟩ := HS.out w1b HB1b.out
 go_wp2_with fail
 refine (H40.out _ HB1b.out).mono ?_
 rintro e w2 ⟨i, rfl, HI, HB2⟩
 have hi0 : ¬ i ≥ 0 := of_decide_eq_false HI.out
 clear v0 v1 HI
 go_wp2_with fail
 refine wp_region_noPanic ?_
 refine wp_region_held_drew (S := fun u => u.cell? ⟨tb, to, none⟩ = some (.int .u8 4) ∧ u.cell? ⟨tb, to + 3, none⟩ = some (.int .i64 cn) ∧ u.cell? ⟨tb, to + 4, none⟩ = some (.int .i64 cv) ∧ u.cell? ⟨vb, 0, none⟩ = some (.int .i64 x1) ∧ u.cell? ⟨vb, 1, none⟩ = some (.int .i64 x2)) (by kernel_rfl) ((by obtain ⟨_, _, z1, z2, _⟩ := HS.out _ (below_dN HB2.out 1); obtain ⟨d0, d1, d2⟩ := HT0.out _ (below_dN HB2.out 1); exact ⟨d0, d1, d2, z1, z2⟩)) (fun hHeld => ?_)
 (refine wpAnyH_take (i := 0) (v := ?_) (by simp only [List.getElem?_toArray, List.getElem?_cons_zero]; rfl) (by kernel_rfl) (by kernel_rfl) (by kernel_rfl) (fun _ _ _ h => h) (Or.inl ⟨by rfl, ?_⟩) (by assumption) ?_; rotate_left; (· (intro w hSw; (try dsimp only at hSw); go_simp <;> with_reducible rfl)); try simp only [Act.put, List.setIfInBounds_toArray, List.set_cons_zero, List.set_cons_succ])
 (refine wpAnyH_take (i := 1) (v := ?_) (by simp only [List.getElem?_toArray, List.getElem?_cons_zero, List.getElem?_cons_succ]; rfl) (by kernel_rfl) (by kernel_rfl) (by kernel_rfl) (fun _ _ _ h => h) (Or.inl ⟨by rfl, ?_⟩) (by assumption) ?_; rotate_left; (· (intro w hSw; (try dsimp only at hSw); go_simp <;> with_reducible rfl)); try simp only [Act.put, List.setIfInBounds_toArray, List.set_cons_zero, List.set_cons_succ])
 (refine wpAnyH_take (i := 2) (v := ?_) (by simp only [List.getElem?_toArray, List.getElem?_cons_zero, List.getElem?_cons_succ]; rfl) (by kernel_rfl) (by kernel_rfl) (by kernel_rfl) (fun _ _ _ h => h) (Or.inl ⟨by rfl, ?_⟩) (by assumption) ?_; rotate_left; (· (intro w hSw; (try dsimp only at hSw); go_simp <;> with_reducible rfl)); try simp only [Act.put, List.setIfInBounds_toArray, List.set_cons_zero, List.set_cons_succ])
 (refine wpAnyH_take (i := 3) (v := ?_) (by simp only [List.getElem?_toArray, List.getElem?_cons_zero, List.getElem?_cons_succ]; rfl) (by kernel_rfl) (by kernel_rfl) (by kernel_rfl) (fun _ _ _ h => h) (Or.inl ⟨by rfl, ?_⟩) (by assumption) ?_; rotate_left; (· (intro w hSw; (try dsimp only at hSw); go_simp <;> with_reducible rfl)); try simp only [Act.put, List.setIfInBounds_toArray, List.set_cons_zero, List.set_cons_succ])
 (refine wpAnyH_take (i := 4) (v := ?_) (by simp only [List.getElem?_toArray, List.getElem?_cons_zero, List.getElem?_cons_succ]; rfl) (by kernel_rfl) (by kernel_rfl) (by kernel_rfl) (fun _ _ _ h => h) (Or.inl ⟨by rfl, ?_⟩) (by assumption) ?_; rotate_left; (· (intro w hSw; (try dsimp only at hSw); go_simp <;> with_reducible rfl)); try simp only [Act.put, List.setIfInBounds_toArray, List.set_cons_zero, List.set_cons_succ])
 (refine wpAnyH_take (i := 5) (v := ?_) (by simp only [List.getElem?_toArray, List.getElem?_cons_zero, List.getElem?_cons_succ]; rfl) (by kernel_rfl) (by kernel_rfl) (by kernel_rfl) (fun _ _ _ h => h) (Or.inl ⟨by rfl, ?_⟩) (by assumption) ?_; rotate_left; (· (intro w hSw; (try dsimp only at hSw); go_simp <;> with_reducible rfl)); try simp only [Act.put, List.setIfInBounds_toArray, List.set_cons_zero, List.set_cons_succ])
 (refine wpAnyH_take (i := 6) (v := ?_) (by simp only [List.getElem?_toArray, List.getElem?_cons_zero, List.getElem?_cons_succ]; rfl) (by kernel_rfl) (by kernel_rfl) (by kernel_rfl) (fun _ _ _ h => h) (Or.inl ⟨by rfl, ?_⟩) (by assumption) ?_; rotate_left; (· (intro w hSw; (try dsimp only at hSw); go_simp <;> with_reducible rfl)); try simp only [Act.put, List.setIfInBounds_toArray, List.set_cons_zero, List.set_cons_succ])
 (refine wpAnyH_take (i := 7) (v := ?_) (by simp only [List.getElem?_toArray, List.getElem?_cons_zero, List.getElem?_cons_succ]; rfl) (by kernel_rfl) (by kernel_rfl) (by kernel_rfl) (fun _ _ _ h => h) (Or.inl ⟨by rfl, ?_⟩) (by assumption) ?_; rotate_left; (· (intro w hSw; (try dsimp only at hSw); go_simp <;> with_reducible rfl)); try simp only [Act.put, List.setIfInBounds_toArray, List.set_cons_zero, List.set_cons_succ])
 (refine wpAnyH_take (i := 8) (v := ?_) (by simp only [List.getElem?_toArray, List.getElem?_cons_zero, List.getElem?_cons_succ]; rfl) (by kernel_rfl) (by kernel_rfl) (by kernel_rfl) (fun _ _ _ h => h) (Or.inl ⟨by rfl, ?_⟩) (by assumption) ?_; rotate_left; (· (intro w hSw; (try dsimp only at hSw); go_simp <;> with_reducible rfl)); try simp only [Act.put, List.setIfInBounds_toArray, List.set_cons_zero, List.set_cons_succ])
 (refine wpAnyH_take (i := 9) (v := ?_) (by simp only [List.getElem?_toArray, List.getElem?_cons_zero, List.getElem?_cons_succ]; rfl) (by kernel_rfl) (by kernel_rfl) (by kernel_rfl) (fun _ _ _ h => h) (Or.inl ⟨by rfl, ?_⟩) (by assumption) ?_; rotate_left; (· (intro w hSw; (try dsimp only at hSw); go_simp <;> with_reducible rfl)); try simp only [Act.put, List.setIfInBounds_toArray, List.set_cons_zero, List.set_cons_succ])
 (refine wpAnyH_take (i := 10) (v := ?_) (by simp only [List.getElem?_toArray, List.getElem?_cons_zero, List.getElem?_cons_succ]; rfl) (by kernel_rfl) (by kernel_rfl) (by kernel_rfl) (fun _ _ _ h => h) (Or.inl ⟨by rfl, ?_⟩) (by assumption) ?_; rotate_left; (· (intro w hSw; (try dsimp only at hSw); go_simp <;> with_reducible rfl)); try simp only [Act.put, List.setIfInBounds_toArray, List.set_cons_zero, List.set_cons_succ])
 refine wpAnyH_ready (rs := [11]) (by kernel_rfl) (by simp) ?_
 refine AllReadyH.cons (by simp only [List.getElem?_toArray, List.getElem?_cons_zero, List.getElem?_cons_succ]; rfl) (fun K hK => ?_) AllReadyH.nil
 go_simp
 go_at_call 28
 refine (H10v.out w2 _ (by first | exact Below.refl _ _ | exact (Below.refl _ _).drew | exact below_dN (Below.refl _ _) _)).mono ?_
 rintro e w2b ⟨rfl, HB2b⟩
 refine hK.out _ _ ?_ (fun hHeld => ?_)
 ·exact (by obtain ⟨_, _, z1, z2, _⟩ := HS.out w2b (HB2.out.trans (HB2b.out.mono HB2.out.size)); obtain ⟨d0, d1, d2⟩ := HT0.out w2b (HB2.out.trans (HB2b.out.mono HB2.out.size)); exact ⟨d0, d1, d2, z1, z2⟩)
 clear hK K
 try simp only [Act.put, List.setIfInBounds_toArray, List.set_cons_zero, List.set_cons_succ]
 (refine wpAnyH_take (i := 12) (v := ?_) (by simp only [List.getElem?_toArray, List.getElem?_cons_zero, List.getElem?_cons_succ]; rfl) (by kernel_rfl) (by kernel_rfl) (by kernel_rfl) (fun _ _ _ h => h) (Or.inl ⟨by rfl, ?_⟩) (by assumption) ?_; rotate_left; (· (intro w hSw; (try dsimp only at hSw); go_simp <;> with_reducible rfl)); try simp only [Act.put, List.setIfInBounds_toArray, List.set_cons_zero, List.set_cons_succ])
 (refine wpAnyH_take (i := 13) (v := ?_) (by simp only [List.getElem?_toArray, List.getElem?_cons_zero, List.getElem?_cons_succ]; rfl) (by kernel_rfl) (by kernel_rfl) (by kernel_rfl) (fun _ _ _ h => h) (Or.inl ⟨by rfl, ?_⟩) (by assumption) ?_; rotate_left; (· (intro w hSw; (try dsimp only at hSw); go_simp <;> with_reducible rfl)); try simp only [Act.put, List.setIfInBounds_toArray, List.set_cons_zero, List.set_cons_succ])
 (refine wpAnyH_take (i := 14) (v := ?_) (by simp only [List.getElem?_toArray, List.getElem?_cons_zero, List.getElem?_cons_succ]; rfl) (by kernel_rfl) (by kernel_rfl) (by kernel_rfl) (fun _ _ _ h => h) (Or.inl ⟨by rfl, ?_⟩) (by assumption) ?_; rotate_left; (· (intro w hSw; (try dsimp only at hSw); go_simp <;> with_reducible rfl)); try simp only [Act.put, List.setIfInBounds_toArray, List.set_cons_zero, List.set_cons_succ])
 refine wpAnyH_done (by kernel_rfl) ?_ _
 refine NoPanic.normal ?_
 clear hHeld
 go_wp2_with fail
 go_ret
 exact ⟨by rw [HBE.out.1]; rfl, HBE.out.2 _ (HB2.out.trans (HB2b.out.mono HB2.out.size))⟩
end Go.Proofs.YtljggjllijacjaaGreatDoor
