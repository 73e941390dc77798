/- Contract of live. -/
import Derived.Test.YtljggjllijacjaaGreatDoorQAg
import Derived.Test.YtljggjllijacjaaGreatDoorU8g
import Derived.Test.YtljggjllijacjaaGreatDoorR7g
namespace Go.Proofs.YtljggjllijacjaaGreatDoor
open Go.RowKit
attribute [local go_sem ↓] Go.wp_at_zero Go.wp_at_succ
theorem stYX (a b : List C) (ha : IsFol [] Y3 a) (hb : IsFol [] X3 b) : stK a b = 2 ∧ stV a b = (1, 0) ∧ stT a b = Y3 := by
 rw [ha.uniq (fol_nil Y3), hb.uniq (fol_nil X3)]
 exact ⟨by kernel_rfl, by kernel_rfl, by kernel_rfl⟩
theorem stXX (a b : List C) (ha : IsFol [] X3 a) (hb : IsFol [] X3 b) : stK a b = 1 := by
 rw [ha.uniq (fol_nil X3), hb.uniq (fol_nil X3)]
 kernel_rfl
theorem wfY : ∀ c ∈ Y3, wfN (c.vn, c.vk) := by simp [Y3]; exact ⟨by kernel_rfl, by kernel_rfl⟩
abbrev LvS (W8 : World) (b0 r3 r5 r8 : Nat) (tv : Value) (za : Option Addr) (zc : Nat) (W : World) : Prop := W.cell? ⟨r3, 0, none⟩ = some (.int .u8 2) ∧ W.cell? ⟨r3, 1, none⟩ = some (.int .i64 1) ∧ W.cell? ⟨r3, 2, none⟩ = some (.int .i64 0) ∧ W.cell? ⟨r3, 3, none⟩ = some (tv) ∧ W.cell? ⟨r5, 0, none⟩ = some (.int .u8 1) ∧ W.cell? ⟨r8, 0, none⟩ = some (.int .u8 1) ∧ W.cell? ⟨r8, 3, none⟩ = some (.int .i64 2) ∧ W.cell? ⟨r8, 1, none⟩ = some (.slice za 1 zc) ∧ True ∧ W.cell? ⟨b0, 3, none⟩ = some (.int .i64 1) ∧ W.cell? ⟨b0, 4, none⟩ = some (.int .i64 0) ∧ Hid (Below W8.heap.size W8 W ∧ b0 < W8.heap.size ∧ r3 < W8.heap.size ∧ r5 < W8.heap.size ∧ r8 < W8.heap.size)
theorem lvS_st {W8 W : World} {b0 r3 r5 r8 : Nat} {tv : Value} {za : Option Addr} {zc : Nat} (h : LvS W8 b0 r3 r5 r8 tv za zc W) : Hid (Below W8.heap.size W8 W) := h.2.2.2.2.2.2.2.2.2.2.2.out.1
theorem lvS_drew {W8 W : World} {b0 r3 r5 r8 : Nat} {tv : Value} {za : Option Addr} {zc : Nat} (h : LvS W8 b0 r3 r5 r8 tv za zc W) : LvS W8 b0 r3 r5 r8 tv za zc W.drew := by
 obtain ⟨h1, h2, h3, h4, h5, h6, h7, h8, h9, h10, h11, h12⟩ := h
 exact ⟨h1, h2, h3, h4, h5, h6, h7, h8, h9, h10, h11, h12.out.1.drew, h12.out.2⟩
theorem lvS_below {W8 W W' : World} {b0 r3 r5 r8 : Nat} {tv : Value} {za : Option Addr} {zc : Nat} (h : LvS W8 b0 r3 r5 r8 tv za zc W) (hb : Below W.heap.size W W') : LvS W8 b0 r3 r5 r8 tv za zc W' := by
 obtain ⟨h1, h2, h3, h4, h5, h6, h7, h8, h9, h10, h11, h12⟩ := h
 have hz := h12.out.1.size
 obtain ⟨z1, z2, z3, z4⟩ := h12.out.2
 exact ⟨(hb.cell (p := ⟨r3, 0, none⟩) (by simp; omega)).trans h1, (hb.cell (p := ⟨r3, 1, none⟩) (by simp; omega)).trans h2, (hb.cell (p := ⟨r3, 2, none⟩) (by simp; omega)).trans h3, (hb.cell (p := ⟨r3, 3, none⟩) (by simp; omega)).trans h4, (hb.cell (p := ⟨r5, 0, none⟩) (by simp; omega)).trans h5, (hb.cell (p := ⟨r8, 0, none⟩) (by simp; omega)).trans h6, (hb.cell (p := ⟨r8, 3, none⟩) (by simp; omega)).trans h7, (hb.cell (p := ⟨r8, 1, none⟩) (by simp; omega)).trans h8, trivial, (hb.cell (p := ⟨b0, 3, none⟩) (by simp; omega)).trans h10, (hb.cell (p := ⟨b0, 4, none⟩) (by simp; omega)).trans h11, h12.out.1.trans (hb.mono hz), h12.out.2⟩
set_option maxRecDepth 100000 in
set_option maxHeartbeats 4000000 in
theorem u8 (w : World) (hS : Signs w) : Calls Tryz.prog 9 #[] w fun e w' => e = .returned (.bool true) ∧ Below w.heap.size w w' := by
 have HS : Hid (Signs w) := hS
 clear hS
 have hX0 : TermAt ((w.alloc (.cells #[.int .u8 4, .string ⟨#[]⟩, .int .i64 0, .int .i64 1, .int .i64 0] 78)).alloc (.cells #[.int .u8 4, .string ⟨#[]⟩, .int .i64 0, .int .i64 0, .int .i64 5] 78)) (.slice (some ⟨w.heap.size, 0, none⟩) 1 1) X3 := (termAt_new w ⟨4, ⟨#[]⟩, 0, 1, 0⟩ (Nat.zero_le _)).below (below_alloc _ _)
 have hY0 : TermAt ((w.alloc (.cells #[.int .u8 4, .string ⟨#[]⟩, .int .i64 0, .int .i64 1, .int .i64 0] 78)).alloc (.cells #[.int .u8 4, .string ⟨#[]⟩, .int .i64 0, .int .i64 0, .int .i64 5] 78)) (.slice (some ⟨w.heap.size + 1, 0, none⟩) 1 1) Y3 := by
  have h := termAt_new (w.alloc (.cells #[.int .u8 4, .string ⟨#[]⟩, .int .i64 0, .int .i64 1, .int .i64 0] 78)) ⟨4, ⟨#[]⟩, 0, 0, 5⟩ (Nat.zero_le _)
  rw [World.size_alloc] at h
  exact h
 have hB0 : Below w.heap.size w ((w.alloc (.cells #[.int .u8 4, .string ⟨#[]⟩, .int .i64 0, .int .i64 1, .int .i64 0] 78)).alloc (.cells #[.int .u8 4, .string ⟨#[]⟩, .int .i64 0, .int .i64 0, .int .i64 5] 78)) := ((Below.refl _ w).alloc (Nat.le_refl _) _).alloc (by simp) _
 have hz0 : ((w.alloc (.cells #[.int .u8 4, .string ⟨#[]⟩, .int .i64 0, .int .i64 1, .int .i64 0] 78)).alloc (.cells #[.int .u8 4, .string ⟨#[]⟩, .int .i64 0, .int .i64 0, .int .i64 5] 78)).heap.size = w.heap.size + 2 := by simp
 go_enter Tryz.func9, Tryz.ntmps9
 go_wp2_with fail
 generalize ((w.alloc (.cells #[.int .u8 4, .string ⟨#[]⟩, .int .i64 0, .int .i64 1, .int .i64 0] 78)).alloc (.cells #[.int .u8 4, .string ⟨#[]⟩, .int .i64 0, .int .i64 0, .int .i64 5] 78)) = W0 at *
 obtain ⟨b0, hb0⟩ : ∃ b0, w.heap.size = b0 := ⟨_, rfl⟩
 rw [hb0] at hX0 hY0 hz0 hB0 ⊢
 have H0 : Hid (TermAt W0 (.slice (some ⟨b0, 0, none⟩) 1 1) X3 ∧ TermAt W0 (.slice (some ⟨b0 + 1, 0, none⟩) 1 1) Y3 ∧ Below b0 w W0 ∧ W0.heap.size = b0 + 2) := ⟨hX0, hY0, hB0, hz0⟩
 clear hX0 hY0 hB0 hz0
 refine (h26 W0).mono ?_
 rintro e w1 ⟨rfl, hh1, hb1⟩
 have HB1 : Hid (Below W0.heap.size W0 w1) := hb1
 have HH1 : Hid (HpAt w1 (W0.heap.size + 1) W0.heap.size 0 (.map []) []) := hh1
 have hSS : ∀ W, Below W0.heap.size W0 W → Signs W := fun W hW => HS.out.below (by rw [hb0]; exact H0.out.2.2.1.trans (hW.mono (by have := H0.out.2.2.2; omega)))
 have H14a : Hid (Calls Tryz.prog 8 #[.pointer (some ⟨W0.heap.size + 1, 0, none⟩), .slice (some ⟨b0 + 1, 0, none⟩) 1 1, .slice (some ⟨b0, 0, none⟩) 1 1] w1 fun e w' => ∃ ad n c, e = .returned (.agg #[.int .u8 2, .int .i64 1, .int .i64 0, .slice ad n c, .slice none 0 0]) ∧ OwnT w' w1.heap.size (.slice ad n c) Y3 ∧ Below w1.heap.size w1 w') := (u14 [] _ Y3 X3 _ _ w1 (.inr ⟨_, _, _, _, rfl, HH1.out⟩) (H0.out.2.1.below HB1.out) (H0.out.1.below HB1.out) wfY eqOk3.wx (hSS _ HB1.out) (by kernel_rfl) eqOk3.gx (fun x l h => by cases h)).mono fun e w' ⟨p, q, h1, h2, _, _, h3, h4⟩ => by
  obtain ⟨k1, k2, k3⟩ := stYX p q h1 h2
  rcases h4 with ⟨h5, _⟩ | ⟨h5, _⟩ | ⟨_, ad, n, c, h6, h7⟩ | ⟨h5, _⟩
  ·rw [k1] at h5; cases h5
  ·rw [k1] at h5; cases h5
  ·rw [k2] at h6
   rw [k3] at h7
   exact ⟨ad, n, c, h6, h7, h3⟩
  ·rw [k1] at h5; cases h5
 clear hh1 hb1
 go_wp2_with fail
 refine H14a.out.mono ?_
 rintro e w2 ⟨ta, tn, tc, rfl, hO2, hb2⟩
 have HB2 : Hid (Below W0.heap.size W0 w2) := HB1.out.trans (hb2.mono HB1.out.size)
 have HT2 : Hid (TermAt w2 (.slice ta tn tc) Y3) := ownT_term hO2 (by simp [Y3, maxLen]) (by simp [Y3]; decide)
 clear hO2 hb2 H14a
 have HB3 : Hid (Below W0.heap.size W0 (w2.alloc (.cells #[.int .u8 2, .int .i64 1, .int .i64 0, .slice ta tn tc, .slice none 0 0] 35))) := HB2.out.alloc HB2.out.size _
 have HR3 : Hid (TermAt (w2.alloc (.cells #[.int .u8 2, .int .i64 1, .int .i64 0, .slice ta tn tc, .slice none 0 0] 35)) (.slice ta tn tc) Y3 ∧ (w2.alloc (.cells #[.int .u8 2, .int .i64 1, .int .i64 0, .slice ta tn tc, .slice none 0 0] 35)).heap[w2.heap.size]? = some (.cells #[.int .u8 2, .int .i64 1, .int .i64 0, .slice ta tn tc, .slice none 0 0] 35 (0, 0))) := ⟨HT2.out.below (below_alloc _ _), heap_alloc_new w2 _⟩
 go_wp2_with fail
 generalize (w2.alloc (.cells #[.int .u8 2, .int .i64 1, .int .i64 0, .slice ta tn tc, .slice none 0 0] 35)) = W3 at *
 obtain ⟨r3, hr3⟩ : ∃ r3, w2.heap.size = r3 := ⟨_, rfl⟩
 rw [hr3] at HR3 ⊢
 have H14b : Hid (Calls Tryz.prog 8 #[.pointer none, .slice (some ⟨b0, 0, none⟩) 1 1, .slice (some ⟨b0, 0, none⟩) 1 1] W3 fun e w' => e = .returned (.agg #[.int .u8 1, .int .i64 0, .int .i64 0, .slice none 0 0, .slice none 0 0]) ∧ Below W3.heap.size W3 w') := (u14 [] _ X3 X3 _ _ W3 (.inl ⟨rfl, rfl⟩) (H0.out.1.below HB3.out) (H0.out.1.below HB3.out) eqOk3.wx eqOk3.wx (hSS _ HB3.out) eqOk3.gx eqOk3.gx (fun x l h => by cases h)).mono fun e w' ⟨p, q, h1, h2, _, _, h3, h4⟩ => by
  have k1 := stXX p q h1 h2
  rcases h4 with ⟨h5, _⟩ | ⟨_, h6⟩ | ⟨h5, _⟩ | ⟨h5, _⟩
  ·rw [k1] at h5; cases h5
  ·exact ⟨h6, h3⟩
  ·rw [k1] at h5; cases h5
  ·rw [k1] at h5; cases h5
 clear HT2 HB2 hr3
 refine H14b.out.mono ?_
 rintro e w4 ⟨rfl, hb4⟩
 have HB4 : Hid (Below W0.heap.size W0 w4) := HB3.out.trans (hb4.mono HB3.out.size)
 have HB5 : Hid (Below W0.heap.size W0 (w4.alloc (.cells #[.int .u8 1, .int .i64 0, .int .i64 0, .slice none 0 0, .slice none 0 0] 35))) := HB4.out.alloc HB4.out.size _
 have HB35 : Hid (Below W3.heap.size W3 (w4.alloc (.cells #[.int .u8 1, .int .i64 0, .int .i64 0, .slice none 0 0, .slice none 0 0] 35))) := hb4.alloc hb4.size _
 have HR5 : Hid ((w4.alloc (.cells #[.int .u8 1, .int .i64 0, .int .i64 0, .slice none 0 0, .slice none 0 0] 35)).heap[w4.heap.size]? = some (.cells #[.int .u8 1, .int .i64 0, .int .i64 0, .slice none 0 0, .slice none 0 0] 35 (0, 0))) := heap_alloc_new w4 _
 have hz5 : (w4.alloc (.cells #[.int .u8 1, .int .i64 0, .int .i64 0, .slice none 0 0, .slice none 0 0] 35)).heap.size = w4.heap.size + 1 := by simp
 clear hb4 H14b
 go_wp2_with fail
 generalize (w4.alloc (.cells #[.int .u8 1, .int .i64 0, .int .i64 0, .slice none 0 0, .slice none 0 0] 35)) = W5 at *
 obtain ⟨r5, hr5⟩ : ∃ r5, w4.heap.size = r5 := ⟨_, rfl⟩
 rw [hr5] at HR5 hz5 ⊢
 clear hr5 HB4
 have hT3 : TermAt (W5.alloc (.cells #[.int .u8 1, .string ⟨#[]⟩, .int .i64 3, .int .i64 0, .int .i64 0] 78)) (.slice (some ⟨r5 + 1, 0, none⟩) 1 1) T3 := by
  have h := termAt_new W5 ⟨1, ⟨#[]⟩, 3, 0, 0⟩ (Nat.zero_le _)
  rw [hz5] at h
  exact h
 have hrow : RowAt ((W5.alloc (.cells #[.int .u8 1, .string ⟨#[]⟩, .int .i64 3, .int .i64 0, .int .i64 0] 78)).alloc (.cells #[.slice (some ⟨b0, 0, none⟩) 1 1, .slice (some ⟨r5 + 1, 0, none⟩) 1 1] 24)) (.slice (some ⟨r5 + 1 + 1, 0, none⟩) 2 2) [X3, T3] := by
  refine ⟨by simp [maxLen], .inr ⟨r5 + 1 + 1, 0, 2, [.slice (some ⟨b0, 0, none⟩) 1 1, .slice (some ⟨r5 + 1, 0, none⟩) 1 1], rfl, Nat.le_refl _, by simp [maxLen], by simp; omega, rfl, ?_, ?_⟩⟩
  ·have h := range_new (W5.alloc (.cells #[.int .u8 1, .string ⟨#[]⟩, .int .i64 3, .int .i64 0, .int .i64 0] 78)) [.slice (some ⟨b0, 0, none⟩) 1 1, .slice (some ⟨r5 + 1, 0, none⟩) 1 1] 24
   rw [World.size_alloc, hz5] at h
   exact h
  ·intro i u l hu hl
   match i with
   | 0 => simp at hu hl; subst hu hl; exact (H0.out.1.below HB5.out).below ((below_alloc _ _).alloc (by simp) _)
   | 1 => simp at hu hl; subst hu hl; exact hT3.below (below_alloc _ _)
   | _ + 2 => simp at hu
 have H11 : Hid (Calls Tryz.prog 42 #[.string ⟨#[61]⟩, .slice (some ⟨r5 + 1 + 1, 0, none⟩) 2 2] ((W5.alloc (.cells #[.int .u8 1, .string ⟨#[]⟩, .int .i64 3, .int .i64 0, .int .i64 0] 78)).alloc (.cells #[.slice (some ⟨b0, 0, none⟩) 1 1, .slice (some ⟨r5 + 1, 0, none⟩) 1 1] 24)) fun e w' => ∃ u, e = .returned (.tuple #[u, .int .i64 0]) ∧ TermAt w' u E3 ∧ Below W5.heap.size W5 w') := (c11 eqS [X3, T3] _ _ hrow (by decide)).mono fun e w' ⟨u, h1, h2, h3⟩ => by
  rw [made3.1] at h1
  rw [made3.2] at h2
  exact ⟨u, h1, h2, ((below_alloc _ _).alloc (by simp) _).trans (h3.mono (by simp; omega))⟩
 clear hT3 hrow hz5
 go_wp2_with fail
 refine H11.out.mono ?_
 rintro e w6 ⟨u6, rfl, hT6, hb6⟩
 obtain ⟨ea, ec, hef⟩ := hT6.form
 have hl3 : E3.length = 3 := rfl
 rw [hl3] at hef
 subst hef
 have HB6 : Hid (Below W0.heap.size W0 w6 ∧ Below W3.heap.size W3 w6 ∧ Below W5.heap.size W5 w6) := ⟨HB5.out.trans (hb6.mono HB5.out.size), HB35.out.trans (hb6.mono HB35.out.size), hb6⟩
 have hrow : RowAt (w6.alloc (.cells #[.slice ea 3 ec, .slice ea 3 ec] 24)) (.slice (some ⟨w6.heap.size, 0, none⟩) 2 2) [E3, E3] := by
  refine ⟨by simp [maxLen], .inr ⟨w6.heap.size, 0, 2, [.slice ea 3 ec, .slice ea 3 ec], rfl, Nat.le_refl _, by simp [maxLen], by simp, rfl, range_new w6 _ 24, ?_⟩⟩
  intro i u l hu hl
  match i with
  | 0 => simp at hu hl; subst hu hl; exact hT6.below (below_alloc _ _)
  | 1 => simp at hu hl; subst hu hl; exact hT6.below (below_alloc _ _)
  | _ + 2 => simp at hu
 have H24 : Hid (Calls Tryz.prog 20 #[.pointer none, .int .i64 9, .slice (some ⟨w6.heap.size, 0, none⟩) 2 2] (w6.alloc (.cells #[.slice ea 3 ec, .slice ea 3 ec] 24)) fun e w' => ∃ ba bc, e = .returned (.agg #[.int .u8 1, .slice ba 1 bc, .slice none 0 0, .int .i64 2]) ∧ Below w6.heap.size w6 w') := (u24 _ _ hrow ((hSS _ HB6.out.1).below (below_alloc _ _))).mono fun e w' ⟨ba, bc, h1, h2⟩ => ⟨ba, bc, h1, (below_alloc _ _).trans (h2.mono (by simp))⟩
 clear hT6 hb6 hrow H11
 go_wp2_with fail
 refine H24.out.mono ?_
 rintro e w7 ⟨za, zc, rfl, hb7⟩
 have HB7 : Hid (Below W0.heap.size W0 w7 ∧ Below W3.heap.size W3 w7 ∧ Below W5.heap.size W5 w7) := ⟨HB6.out.1.trans (hb7.mono HB6.out.1.size), HB6.out.2.1.trans (hb7.mono HB6.out.2.1.size), HB6.out.2.2.trans (hb7.mono HB6.out.2.2.size)⟩
 clear hb7 H24
 have HB8 : Hid (Below W0.heap.size W0 (w7.alloc (.cells #[.int .u8 1, .slice za 1 zc, .slice none 0 0, .int .i64 2] 62)) ∧ Below W3.heap.size W3 (w7.alloc (.cells #[.int .u8 1, .slice za 1 zc, .slice none 0 0, .int .i64 2] 62)) ∧ Below W5.heap.size W5 (w7.alloc (.cells #[.int .u8 1, .slice za 1 zc, .slice none 0 0, .int .i64 2] 62))) := ⟨HB7.out.1.alloc HB7.out.1.size _, HB7.out.2.1.alloc HB7.out.2.1.size _, HB7.out.2.2.alloc HB7.out.2.2.size _⟩
 have hc8 := heap_alloc_new w7 (.cells #[.int .u8 1, .slice za 1 zc, .slice none 0 0, .int .i64 2] 62)
 go_wp2_with fail
 generalize (w7.alloc (.cells #[.int .u8 1, .slice za 1 zc, .slice none 0 0, .int .i64 2] 62)) = W8 at *
 obtain ⟨r8, hr8⟩ : ∃ r8, w7.heap.size = r8 := ⟨_, rfl⟩
 rw [hr8] at hc8 ⊢
 have hX8 := H0.out.1.below HB8.out.1
 have hY8 := H0.out.2.1.below HB8.out.1
 have hc3 := (HB8.out.2.1.block r3 (Array.getElem?_eq_some_iff.1 HR3.out.2).1).trans HR3.out.2
 have hc5 := (HB8.out.2.2.block r5 (Array.getElem?_eq_some_iff.1 HR5.out).1).trans HR5.out
 have hY38 : TermAt W8 (.slice ta tn tc) Y3 := HR3.out.1.below HB8.out.2.1
 have hxx : W8.cell? ⟨b0, 3, none⟩ = some (.int .i64 1) ∧ W8.cell? ⟨b0, 4, none⟩ = some (.int .i64 0) := by
  rcases hX8.2 with ⟨e, _⟩ | ⟨b, o, cap, e1, _, _, e4, _⟩
  ·simp [X3] at e
  ·simp only [Value.slice.injEq, Option.some.injEq, Addr.mk.injEq, and_true] at e1
   obtain ⟨⟨rfl, rfl⟩, _, _⟩ := e1
   have k := term_cells e4 0 (by simp [X3])
   simp only [X3, Nat.zero_mul, Nat.zero_add, List.getElem_cons_zero] at k
   exact ⟨k.2.2.2.1, k.2.2.2.2⟩
 have hlt8 : b0 < W8.heap.size ∧ r3 < W8.heap.size ∧ r5 < W8.heap.size ∧ r8 < W8.heap.size := ⟨by have := HB8.out.1.size; have := H0.out.2.2.2; omega, (Array.getElem?_eq_some_iff.1 hc3).1, (Array.getElem?_eq_some_iff.1 hc5).1, (Array.getElem?_eq_some_iff.1 hc8).1⟩
 have hS8 : LvS W8 b0 r3 r5 r8 (.slice ta tn tc) za zc W8 := by
  refine ⟨?_, ?_, ?_, ?_, ?_, ?_, ?_, ?_, ?_, hxx.1, hxx.2, ⟨Below.refl _ _, hlt8⟩⟩
  ·rw [cell_of_row W8 r3 0 _ 35 (0, 0) hc3]; rfl
  ·rw [cell_of_row W8 r3 1 _ 35 (0, 0) hc3]; rfl
  ·rw [cell_of_row W8 r3 2 _ 35 (0, 0) hc3]; rfl
  ·rw [cell_of_row W8 r3 3 _ 35 (0, 0) hc3]; rfl
  ·rw [cell_of_row W8 r5 0 _ 35 (0, 0) hc5]; rfl
  ·rw [cell_of_row W8 r8 0 _ 62 (0, 0) hc8]; rfl
  ·rw [cell_of_row W8 r8 3 _ 62 (0, 0) hc8]; rfl
  ·rw [cell_of_row W8 r8 1 _ 62 (0, 0) hc8]; rfl
  ·exact trivial
 have H9 : ∀ W, Hid (Below W8.heap.size W8 W) → Calls Tryz.prog 32 #[.slice ta tn tc, .slice (some ⟨b0 + 1, 0, none⟩) 1 1] W fun e w' => e = .returned (.bool true) ∧ Below W.heap.size W w' := fun W hW => by
  have h := c13 Y3 Y3 _ _ W (hY38.below hW.out) (hY8.below hW.out)
  rw [eqT_refl] at h
  exact h
 have HE : Hid (Below w.heap.size w W8) := by
  show Below w.heap.size w W8
  rw [hb0]
  exact H0.out.2.2.1.trans (HB8.out.1.mono (by have := H0.out.2.2.2; omega))
 clear hX8 hY8 hc3 hc5 hc8 hY38 hxx hlt8 HB8 HB7 HB6 HR3 HR5 HH1 hSS
 refine wp_region_noPanic ?_
 refine wp_region_held_drew (S := fun u => LvS W8 b0 r3 r5 r8 (.slice ta tn tc) za zc u) (by kernel_rfl) (lvS_drew hS8) (fun hHeld => ?_)
 first | (refine wpAnyH_take (i := 0) (v := ?_) (by simp only [qA, qB]; rfl) (by kernel_rfl) (by kernel_rfl) (by kernel_rfl) (fun _ _ _ h => h) (Or.inl ⟨by rfl, ?_⟩) (by assumption) ?_; rotate_left; (· (intro w hSw; (try dsimp only at hSw); go_simp <;> with_reducible rfl)); try simp only [Act.put, qD, qE, qF]) | (refine wpAnyH_take (i := 0) (v := undef) (by simp only [qA, qB]; rfl) (by kernel_rfl) (by kernel_rfl) (by kernel_rfl) (fun _ _ _ h => h) (Or.inr ⟨by rfl, rfl⟩) (by assumption) ?_; try simp only [Act.put, qD, qE, qF])
 first | (refine wpAnyH_take (i := 1) (v := ?_) (by simp only [qA, qB, qC]; rfl) (by kernel_rfl) (by kernel_rfl) (by kernel_rfl) (fun _ _ _ h => h) (Or.inl ⟨by rfl, ?_⟩) (by assumption) ?_; rotate_left; (· (intro w hSw; (try dsimp only at hSw); go_simp <;> with_reducible rfl)); try simp only [Act.put, qD, qE, qF]) | (refine wpAnyH_take (i := 1) (v := undef) (by simp only [qA, qB, qC]; rfl) (by kernel_rfl) (by kernel_rfl) (by kernel_rfl) (fun _ _ _ h => h) (Or.inr ⟨by rfl, rfl⟩) (by assumption) ?_; try simp only [Act.put, qD, qE, qF])
 first | (refine wpAnyH_take (i := 2) (v := ?_) (by simp only [qA, qB, qC]; rfl) (by kernel_rfl) (by kernel_rfl) (by kernel_rfl) (fun _ _ _ h => h) (Or.inl ⟨by rfl, ?_⟩) (by assumption) ?_; rotate_left; (· (intro w hSw; (try dsimp only at hSw); go_simp <;> with_reducible rfl)); try simp only [Act.put, qD, qE, qF]) | (refine wpAnyH_take (i := 2) (v := undef) (by simp only [qA, qB, qC]; rfl) (by kernel_rfl) (by kernel_rfl) (by kernel_rfl) (fun _ _ _ h => h) (Or.inr ⟨by rfl, rfl⟩) (by assumption) ?_; try simp only [Act.put, qD, qE, qF])
 first | (refine wpAnyH_take (i := 3) (v := ?_) (by simp only [qA, qB, qC]; rfl) (by kernel_rfl) (by kernel_rfl) (by kernel_rfl) (fun _ _ _ h => h) (Or.inl ⟨by rfl, ?_⟩) (by assumption) ?_; rotate_left; (· (intro w hSw; (try dsimp only at hSw); go_simp <;> with_reducible rfl)); try simp only [Act.put, qD, qE, qF]) | (refine wpAnyH_take (i := 3) (v := undef) (by simp only [qA, qB, qC]; rfl) (by kernel_rfl) (by kernel_rfl) (by kernel_rfl) (fun _ _ _ h => h) (Or.inr ⟨by rfl, rfl⟩) (by assumption) ?_; try simp only [Act.put, qD, qE, qF])
 first | (refine wpAnyH_take (i := 4) (v := ?_) (by simp only [qA, qB, qC]; rfl) (by kernel_rfl) (by kernel_rfl) (by kernel_rfl) (fun _ _ _ h => h) (Or.inl ⟨by rfl, ?_⟩) (by assumption) ?_; rotate_left; (· (intro w hSw; (try dsimp only at hSw); go_simp <;> with_reducible rfl)); try simp only [Act.put, qD, qE, qF]) | (refine wpAnyH_take (i := 4) (v := undef) (by simp only [qA, qB, qC]; rfl) (by kernel_rfl) (by kernel_rfl) (by kernel_rfl) (fun _ _ _ h => h) (Or.inr ⟨by rfl, rfl⟩) (by assumption) ?_; try simp only [Act.put, qD, qE, qF])
 first | (refine wpAnyH_take (i := 5) (v := ?_) (by simp only [qA, qB, qC]; rfl) (by kernel_rfl) (by kernel_rfl) (by kernel_rfl) (fun _ _ _ h => h) (Or.inl ⟨by rfl, ?_⟩) (by assumption) ?_; rotate_left; (· (intro w hSw; (try dsimp only at hSw); go_simp <;> with_reducible rfl)); try simp only [Act.put, qD, qE, qF]) | (refine wpAnyH_take (i := 5) (v := undef) (by simp only [qA, qB, qC]; rfl) (by kernel_rfl) (by kernel_rfl) (by kernel_rfl) (fun _ _ _ h => h) (Or.inr ⟨by rfl, rfl⟩) (by assumption) ?_; try simp only [Act.put, qD, qE, qF])
 first | (refine wpAnyH_take (i := 6) (v := ?_) (by simp only [qA, qB, qC]; rfl) (by kernel_rfl) (by kernel_rfl) (by kernel_rfl) (fun _ _ _ h => h) (Or.inl ⟨by rfl, ?_⟩) (by assumption) ?_; rotate_left; (· (intro w hSw; (try dsimp only at hSw); go_simp <;> with_reducible rfl)); try simp only [Act.put, qD, qE, qF]) | (refine wpAnyH_take (i := 6) (v := undef) (by simp only [qA, qB, qC]; rfl) (by kernel_rfl) (by kernel_rfl) (by kernel_rfl) (fun _ _ _ h => h) (Or.inr ⟨by rfl, rfl⟩) (by assumption) ?_; try simp only [Act.put, qD, qE, qF])
 first | (refine wpAnyH_take (i := 7) (v := ?_) (by simp only [qA, qB, qC]; rfl) (by kernel_rfl) (by kernel_rfl) (by kernel_rfl) (fun _ _ _ h => h) (Or.inl ⟨by rfl, ?_⟩) (by assumption) ?_; rotate_left; (· (intro w hSw; (try dsimp only at hSw); go_simp <;> with_reducible rfl)); try simp only [Act.put, qD, qE, qF]) | (refine wpAnyH_take (i := 7) (v := undef) (by simp only [qA, qB, qC]; rfl) (by kernel_rfl) (by kernel_rfl) (by kernel_rfl) (fun _ _ _ h => h) (Or.inr ⟨by rfl, rfl⟩) (by assumption) ?_; try simp only [Act.put, qD, qE, qF])
 first | (refine wpAnyH_take (i := 8) (v := ?_) (by simp only [qA, qB, qC]; rfl) (by kernel_rfl) (by kernel_rfl) (by kernel_rfl) (fun _ _ _ h => h) (Or.inl ⟨by rfl, ?_⟩) (by assumption) ?_; rotate_left; (· (intro w hSw; (try dsimp only at hSw); go_simp <;> with_reducible rfl)); try simp only [Act.put, qD, qE, qF]) | (refine wpAnyH_take (i := 8) (v := undef) (by simp only [qA, qB, qC]; rfl) (by kernel_rfl) (by kernel_rfl) (by kernel_rfl) (fun _ _ _ h => h) (Or.inr ⟨by rfl, rfl⟩) (by assumption) ?_; try simp only [Act.put, qD, qE, qF])
 first | (refine wpAnyH_take (i := 9) (v := ?_) (by simp only [qA, qB, qC]; rfl) (by kernel_rfl) (by kernel_rfl) (by kernel_rfl) (fun _ _ _ h => h) (Or.inl ⟨by rfl, ?_⟩) (by assumption) ?_; rotate_left; (· (intro w hSw; (try dsimp only at hSw); go_simp <;> with_reducible rfl)); try simp only [Act.put, qD, qE, qF]) | (refine wpAnyH_take (i := 9) (v := undef) (by simp only [qA, qB, qC]; rfl) (by kernel_rfl) (by kernel_rfl) (by kernel_rfl) (fun _ _ _ h => h) (Or.inr ⟨by rfl, rfl⟩) (by assumption) ?_; try simp only [Act.put, qD, qE, qF])
 first | (refine wpAnyH_take (i := 10) (v := ?_) (by simp only [qA, qB, qC]; rfl) (by kernel_rfl) (by kernel_rfl) (by kernel_rfl) (fun _ _ _ h => h) (Or.inl ⟨by rfl, ?_⟩) (by assumption) ?_; rotate_left; (· (intro w hSw; (try dsimp only at hSw); go_simp <;> with_reducible rfl)); try simp only [Act.put, qD, qE, qF]) | (refine wpAnyH_take (i := 10) (v := undef) (by simp only [qA, qB, qC]; rfl) (by kernel_rfl) (by kernel_rfl) (by kernel_rfl) (fun _ _ _ h => h) (Or.inr ⟨by rfl, rfl⟩) (by assumption) ?_; try simp only [Act.put, qD, qE, qF])
 first | (refine wpAnyH_take (i := 11) (v := ?_) (by simp only [qA, qB, qC]; rfl) (by kernel_rfl) (by kernel_rfl) (by kernel_rfl) (fun _ _ _ h => h) (Or.inl ⟨by rfl, ?_⟩) (by assumption) ?_; rotate_left; (· (intro w hSw; (try dsimp only at hSw); go_simp <;> with_reducible rfl)); try simp only [Act.put, qD, qE, qF]) | (refine wpAnyH_take (i := 11) (v := undef) (by simp only [qA, qB, qC]; rfl) (by kernel_rfl) (by kernel_rfl) (by kernel_rfl) (fun _ _ _ h => h) (Or.inr ⟨by rfl, rfl⟩) (by assumption) ?_; try simp only [Act.put, qD, qE, qF])
 first | (refine wpAnyH_take (i := 12) (v := ?_) (by simp only [qA, qB, qC]; rfl) (by kernel_rfl) (by kernel_rfl) (by kernel_rfl) (fun _ _ _ h => h) (Or.inl ⟨by rfl, ?_⟩) (by assumption) ?_; rotate_left; (· (intro w hSw; (try dsimp only at hSw); go_simp <;> with_reducible rfl)); try simp only [Act.put, qD, qE, qF]) | (refine wpAnyH_take (i := 12) (v := undef) (by simp only [qA, qB, qC]; rfl) (by kernel_rfl) (by kernel_rfl) (by kernel_rfl) (fun _ _ _ h => h) (Or.inr ⟨by rfl, rfl⟩) (by assumption) ?_; try simp only [Act.put, qD, qE, qF])
 first | (refine wpAnyH_take (i := 13) (v := ?_) (by simp only [qA, qB, qC]; rfl) (by kernel_rfl) (by kernel_rfl) (by kernel_rfl) (fun _ _ _ h => h) (Or.inl ⟨by rfl, ?_⟩) (by assumption) ?_; rotate_left; (· (intro w hSw; (try dsimp only at hSw); go_simp <;> with_reducible rfl)); try simp only [Act.put, qD, qE, qF]) | (refine wpAnyH_take (i := 13) (v := undef) (by simp only [qA, qB, qC]; rfl) (by kernel_rfl) (by kernel_rfl) (by kernel_rfl) (fun _ _ _ h => h) (Or.inr ⟨by rfl, rfl⟩) (by assumption) ?_; try simp only [Act.put, qD, qE, qF])
 first | (refine wpAnyH_take (i := 14) (v := ?_) (by simp only [qA, qB, qC]; rfl) (by kernel_rfl) (by kernel_rfl) (by kernel_rfl) (fun _ _ _ h => h) (Or.inl ⟨by rfl, ?_⟩) (by assumption) ?_; rotate_left; (· (intro w hSw; (try dsimp only at hSw); go_simp <;> with_reducible rfl)); try simp only [Act.put, qD, qE, qF]) | (refine wpAnyH_take (i := 14) (v := undef) (by simp only [qA, qB, qC]; rfl) (by kernel_rfl) (by kernel_rfl) (by kernel_rfl) (fun _ _ _ h => h) (Or.inr ⟨by rfl, rfl⟩) (by assumption) ?_; try simp only [Act.put, qD, qE, qF])
 first | (refine wpAnyH_take (i := 15) (v := ?_) (by simp only [qA, qB, qC]; rfl) (by kernel_rfl) (by kernel_rfl) (by kernel_rfl) (fun _ _ _ h => h) (Or.inl ⟨by rfl, ?_⟩) (by assumption) ?_; rotate_left; (· (intro w hSw; (try dsimp only at hSw); go_simp <;> with_reducible rfl)); try simp only [Act.put, qD, qE, qF]) | (refine wpAnyH_take (i := 15) (v := undef) (by simp only [qA, qB, qC]; rfl) (by kernel_rfl) (by kernel_rfl) (by kernel_rfl) (fun _ _ _ h => h) (Or.inr ⟨by rfl, rfl⟩) (by assumption) ?_; try simp only [Act.put, qD, qE, qF])
 refine wpAnyH_ready (rs := [16]) (by kernel_rfl) (by simp) ?_
 refine AllReadyH.cons (by simp only [qA, qB, qC]; rfl) (fun K hK => ?_) AllReadyH.nil
 go_simp
 go_at_call 32
 refine (H9 _ (lvS_st (by assumption))).mono ?_
 rintro e w9 ⟨rfl, hb9⟩
 refine hK.out _ _ ?_ (fun hHeld => ?_)
 ·exact lvS_below (by assumption) (by assumption)
 clear hK K
 try simp only [Act.put, qD, qE, qF]
 first | (refine wpAnyH_take (i := 17) (v := ?_) (by simp only [qA, qB, qC]; rfl) (by kernel_rfl) (by kernel_rfl) (by kernel_rfl) (fun _ _ _ h => h) (Or.inl ⟨by rfl, ?_⟩) (by assumption) ?_; rotate_left; (· (intro w hSw; (try dsimp only at hSw); go_simp <;> with_reducible rfl)); try simp only [Act.put, qD, qE, qF]) | (refine wpAnyH_take (i := 17) (v := undef) (by simp only [qA, qB, qC]; rfl) (by kernel_rfl) (by kernel_rfl) (by kernel_rfl) (fun _ _ _ h => h) (Or.inr ⟨by rfl, rfl⟩) (by assumption) ?_; try simp only [Act.put, qD, qE, qF])
 first | (refine wpAnyH_take (i := 18) (v := ?_) (by simp only [qA, qB, qC]; rfl) (by kernel_rfl) (by kernel_rfl) (by kernel_rfl) (fun _ _ _ h => h) (Or.inl ⟨by rfl, ?_⟩) (by assumption) ?_; rotate_left; (· (intro w hSw; (try dsimp only at hSw); go_simp <;> with_reducible rfl)); try simp only [Act.put, qD, qE, qF]) | (refine wpAnyH_take (i := 18) (v := undef) (by simp only [qA, qB, qC]; rfl) (by kernel_rfl) (by kernel_rfl) (by kernel_rfl) (fun _ _ _ h => h) (Or.inr ⟨by rfl, rfl⟩) (by assumption) ?_; try simp only [Act.put, qD, qE, qF])
 first | (refine wpAnyH_take (i := 19) (v := ?_) (by simp only [qA, qB, qC]; rfl) (by kernel_rfl) (by kernel_rfl) (by kernel_rfl) (fun _ _ _ h => h) (Or.inl ⟨by rfl, ?_⟩) (by assumption) ?_; rotate_left; (· (intro w hSw; (try dsimp only at hSw); go_simp <;> with_reducible rfl)); try simp only [Act.put, qD, qE, qF]) | (refine wpAnyH_take (i := 19) (v := undef) (by simp only [qA, qB, qC]; rfl) (by kernel_rfl) (by kernel_rfl) (by kernel_rfl) (fun _ _ _ h => h) (Or.inr ⟨by rfl, rfl⟩) (by assumption) ?_; try simp only [Act.put, qD, qE, qF])
 first | (refine wpAnyH_take (i := 20) (v := ?_) (by simp only [qA, qB, qC]; rfl) (by kernel_rfl) (by kernel_rfl) (by kernel_rfl) (fun _ _ _ h => h) (Or.inl ⟨by rfl, ?_⟩) (by assumption) ?_; rotate_left; (· (intro w hSw; (try dsimp only at hSw); go_simp <;> with_reducible rfl)); try simp only [Act.put, qD, qE, qF]) | (refine wpAnyH_take (i := 20) (v := undef) (by simp only [qA, qB, qC]; rfl) (by kernel_rfl) (by kernel_rfl) (by kernel_rfl) (fun _ _ _ h => h) (Or.inr ⟨by rfl, rfl⟩) (by assumption) ?_; try simp only [Act.put, qD, qE, qF])
 first | (refine wpAnyH_take (i := 21) (v := ?_) (by simp only [qA, qB, qC]; rfl) (by kernel_rfl) (by kernel_rfl) (by kernel_rfl) (fun _ _ _ h => h) (Or.inl ⟨by rfl, ?_⟩) (by assumption) ?_; rotate_left; (· (intro w hSw; (try dsimp only at hSw); go_simp <;> with_reducible rfl)); try simp only [Act.put, qD, qE, qF]) | (refine wpAnyH_take (i := 21) (v := undef) (by simp only [qA, qB, qC]; rfl) (by kernel_rfl) (by kernel_rfl) (by kernel_rfl) (fun _ _ _ h => h) (Or.inr ⟨by rfl, rfl⟩) (by assumption) ?_; try simp only [Act.put, qD, qE, qF])
 first | (refine wpAnyH_take (i := 22) (v := ?_) (by simp only [qA, qB, qC]; rfl) (by kernel_rfl) (by kernel_rfl) (by kernel_rfl) (fun _ _ _ h => h) (Or.inl ⟨by rfl, ?_⟩) (by assumption) ?_; rotate_left; (· (intro w hSw; (try dsimp only at hSw); go_simp <;> with_reducible rfl)); try simp only [Act.put, qD, qE, qF]) | (refine wpAnyH_take (i := 22) (v := undef) (by simp only [qA, qB, qC]; rfl) (by kernel_rfl) (by kernel_rfl) (by kernel_rfl) (fun _ _ _ h => h) (Or.inr ⟨by rfl, rfl⟩) (by assumption) ?_; try simp only [Act.put, qD, qE, qF])
 first | (refine wpAnyH_take (i := 23) (v := ?_) (by simp only [qA, qB, qC]; rfl) (by kernel_rfl) (by kernel_rfl) (by kernel_rfl) (fun _ _ _ h => h) (Or.inl ⟨by rfl, ?_⟩) (by assumption) ?_; rotate_left; (· (intro w hSw; (try dsimp only at hSw); go_simp <;> with_reducible rfl)); try simp only [Act.put, qD, qE, qF]) | (refine wpAnyH_take (i := 23) (v := undef) (by simp only [qA, qB, qC]; rfl) (by kernel_rfl) (by kernel_rfl) (by kernel_rfl) (fun _ _ _ h => h) (Or.inr ⟨by rfl, rfl⟩) (by assumption) ?_; try simp only [Act.put, qD, qE, qF])
 first | (refine wpAnyH_take (i := 24) (v := ?_) (by simp only [qA, qB, qC]; rfl) (by kernel_rfl) (by kernel_rfl) (by kernel_rfl) (fun _ _ _ h => h) (Or.inl ⟨by rfl, ?_⟩) (by assumption) ?_; rotate_left; (· (intro w hSw; (try dsimp only at hSw); go_simp <;> with_reducible rfl)); try simp only [Act.put, qD, qE, qF]) | (refine wpAnyH_take (i := 24) (v := undef) (by simp only [qA, qB, qC]; rfl) (by kernel_rfl) (by kernel_rfl) (by kernel_rfl) (fun _ _ _ h => h) (Or.inr ⟨by rfl, rfl⟩) (by assumption) ?_; try simp only [Act.put, qD, qE, qF])
 first | (refine wpAnyH_take (i := 25) (v := ?_) (by simp only [qA, qB, qC]; rfl) (by kernel_rfl) (by kernel_rfl) (by kernel_rfl) (fun _ _ _ h => h) (Or.inl ⟨by rfl, ?_⟩) (by assumption) ?_; rotate_left; (· (intro w hSw; (try dsimp only at hSw); go_simp <;> with_reducible rfl)); try simp only [Act.put, qD, qE, qF]) | (refine wpAnyH_take (i := 25) (v := undef) (by simp only [qA, qB, qC]; rfl) (by kernel_rfl) (by kernel_rfl) (by kernel_rfl) (fun _ _ _ h => h) (Or.inr ⟨by rfl, rfl⟩) (by assumption) ?_; try simp only [Act.put, qD, qE, qF])
 first | (refine wpAnyH_take (i := 26) (v := ?_) (by simp only [qA, qB, qC]; rfl) (by kernel_rfl) (by kernel_rfl) (by kernel_rfl) (fun _ _ _ h => h) (Or.inl ⟨by rfl, ?_⟩) (by assumption) ?_; rotate_left; (· (intro w hSw; (try dsimp only at hSw); go_simp <;> with_reducible rfl)); try simp only [Act.put, qD, qE, qF]) | (refine wpAnyH_take (i := 26) (v := undef) (by simp only [qA, qB, qC]; rfl) (by kernel_rfl) (by kernel_rfl) (by kernel_rfl) (fun _ _ _ h => h) (Or.inr ⟨by rfl, rfl⟩) (by assumption) ?_; try simp only [Act.put, qD, qE, qF])
 first | (refine wpAnyH_take (i := 27) (v := ?_) (by simp only [qA, qB, qC]; rfl) (by kernel_rfl) (by kernel_rfl) (by kernel_rfl) (fun _ _ _ h => h) (Or.inl ⟨by rfl, ?_⟩) (by assumption) ?_; rotate_left; (· (intro w hSw; (try dsimp only at hSw); go_simp <;> with_reducible rfl)); try simp only [Act.put, qD, qE, qF]) | (refine wpAnyH_take (i := 27) (v := undef) (by simp only [qA, qB, qC]; rfl) (by kernel_rfl) (by kernel_rfl) (by kernel_rfl) (fun _ _ _ h => h) (Or.inr ⟨by rfl, rfl⟩) (by assumption) ?_; try simp only [Act.put, qD, qE, qF])
 first | (refine wpAnyH_take (i := 28) (v := ?_) (by simp only [qA, qB, qC]; rfl) (by kernel_rfl) (by kernel_rfl) (by kernel_rfl) (fun _ _ _ h => h) (Or.inl ⟨by rfl, ?_⟩) (by assumption) ?_; rotate_left; (· (intro w hSw; (try dsimp only at hSw); go_simp <;> with_reducible rfl)); try simp only [Act.put, qD, qE, qF]) | (refine wpAnyH_take (i := 28) (v := undef) (by simp only [qA, qB, qC]; rfl) (by kernel_rfl) (by kernel_rfl) (by kernel_rfl) (fun _ _ _ h => h) (Or.inr ⟨by rfl, rfl⟩) (by assumption) ?_; try simp only [Act.put, qD, qE, qF])
 first | (refine wpAnyH_take (i := 29) (v := ?_) (by simp only [qA, qB, qC]; rfl) (by kernel_rfl) (by kernel_rfl) (by kernel_rfl) (fun _ _ _ h => h) (Or.inl ⟨by rfl, ?_⟩) (by assumption) ?_; rotate_left; (· (intro w hSw; (try dsimp only at hSw); go_simp <;> with_reducible rfl)); try simp only [Act.put, qD, qE, qF]) | (refine wpAnyH_take (i := 29) (v := undef) (by simp only [qA, qB, qC]; rfl) (by kernel_rfl) (by kernel_rfl) (by kernel_rfl) (fun _ _ _ h => h) (Or.inr ⟨by rfl, rfl⟩) (by assumption) ?_; try simp only [Act.put, qD, qE, qF])
 first | (refine wpAnyH_take (i := 30) (v := ?_) (by simp only [qA, qB, qC]; rfl) (by kernel_rfl) (by kernel_rfl) (by kernel_rfl) (fun _ _ _ h => h) (Or.inl ⟨by rfl, ?_⟩) (by assumption) ?_; rotate_left; (· (intro w hSw; (try dsimp only at hSw); go_simp <;> with_reducible rfl)); try simp only [Act.put, qD, qE, qF]) | (refine wpAnyH_take (i := 30) (v := undef) (by simp only [qA, qB, qC]; rfl) (by kernel_rfl) (by kernel_rfl) (by kernel_rfl) (fun _ _ _ h => h) (Or.inr ⟨by rfl, rfl⟩) (by assumption) ?_; try simp only [Act.put, qD, qE, qF])
 first | (refine wpAnyH_take (i := 31) (v := ?_) (by simp only [qA, qB, qC]; rfl) (by kernel_rfl) (by kernel_rfl) (by kernel_rfl) (fun _ _ _ h => h) (Or.inl ⟨by rfl, ?_⟩) (by assumption) ?_; rotate_left; (· (intro w hSw; (try dsimp only at hSw); go_simp <;> with_reducible rfl)); try simp only [Act.put, qD, qE, qF]) | (refine wpAnyH_take (i := 31) (v := undef) (by simp only [qA, qB, qC]; rfl) (by kernel_rfl) (by kernel_rfl) (by kernel_rfl) (fun _ _ _ h => h) (Or.inr ⟨by rfl, rfl⟩) (by assumption) ?_; try simp only [Act.put, qD, qE, qF])
 first | (refine wpAnyH_take (i := 32) (v := ?_) (by simp only [qA, qB, qC]; rfl) (by kernel_rfl) (by kernel_rfl) (by kernel_rfl) (fun _ _ _ h => h) (Or.inl ⟨by rfl, ?_⟩) (by assumption) ?_; rotate_left; (· (intro w hSw; (try dsimp only at hSw); go_simp <;> with_reducible rfl)); try simp only [Act.put, qD, qE, qF]) | (refine wpAnyH_take (i := 32) (v := undef) (by simp only [qA, qB, qC]; rfl) (by kernel_rfl) (by kernel_rfl) (by kernel_rfl) (fun _ _ _ h => h) (Or.inr ⟨by rfl, rfl⟩) (by assumption) ?_; try simp only [Act.put, qD, qE, qF])
 first | (refine wpAnyH_take (i := 33) (v := ?_) (by simp only [qA, qB, qC]; rfl) (by kernel_rfl) (by kernel_rfl) (by kernel_rfl) (fun _ _ _ h => h) (Or.inl ⟨by rfl, ?_⟩) (by assumption) ?_; rotate_left; (· (intro w hSw; (try dsimp only at hSw); go_simp <;> with_reducible rfl)); try simp only [Act.put, qD, qE, qF]) | (refine wpAnyH_take (i := 33) (v := undef) (by simp only [qA, qB, qC]; rfl) (by kernel_rfl) (by kernel_rfl) (by kernel_rfl) (fun _ _ _ h => h) (Or.inr ⟨by rfl, rfl⟩) (by assumption) ?_; try simp only [Act.put, qD, qE, qF])
 first | (refine wpAnyH_take (i := 34) (v := ?_) (by simp only [qA, qB, qC]; rfl) (by kernel_rfl) (by kernel_rfl) (by kernel_rfl) (fun _ _ _ h => h) (Or.inl ⟨by rfl, ?_⟩) (by assumption) ?_; rotate_left; (· (intro w hSw; (try dsimp only at hSw); go_simp <;> with_reducible rfl)); try simp only [Act.put, qD, qE, qF]) | (refine wpAnyH_take (i := 34) (v := undef) (by simp only [qA, qB, qC]; rfl) (by kernel_rfl) (by kernel_rfl) (by kernel_rfl) (fun _ _ _ h => h) (Or.inr ⟨by rfl, rfl⟩) (by assumption) ?_; try simp only [Act.put, qD, qE, qF])
 first | (refine wpAnyH_take (i := 35) (v := ?_) (by simp only [qA, qB, qC]; rfl) (by kernel_rfl) (by kernel_rfl) (by kernel_rfl) (fun _ _ _ h => h) (Or.inl ⟨by rfl, ?_⟩) (by assumption) ?_; rotate_left; (· (intro w hSw; (try dsimp only at hSw); go_simp <;> with_reducible rfl)); try simp only [Act.put, qD, qE, qF]) | (refine wpAnyH_take (i := 35) (v := undef) (by simp only [qA, qB, qC]; rfl) (by kernel_rfl) (by kernel_rfl) (by kernel_rfl) (fun _ _ _ h => h) (Or.inr ⟨by rfl, rfl⟩) (by assumption) ?_; try simp only [Act.put, qD, qE, qF])
 first | (refine wpAnyH_take (i := 36) (v := ?_) (by simp only [qA, qB, qC]; rfl) (by kernel_rfl) (by kernel_rfl) (by kernel_rfl) (fun _ _ _ h => h) (Or.inl ⟨by rfl, ?_⟩) (by assumption) ?_; rotate_left; (· (intro w hSw; (try dsimp only at hSw); go_simp <;> with_reducible rfl)); try simp only [Act.put, qD, qE, qF]) | (refine wpAnyH_take (i := 36) (v := undef) (by simp only [qA, qB, qC]; rfl) (by kernel_rfl) (by kernel_rfl) (by kernel_rfl) (fun _ _ _ h => h) (Or.inr ⟨by rfl, rfl⟩) (by assumption) ?_; try simp only [Act.put, qD, qE, qF])
 first | (refine wpAnyH_take (i := 37) (v := ?_) (by simp only [qA, qB, qC]; rfl) (by kernel_rfl) (by kernel_rfl) (by kernel_rfl) (fun _ _ _ h => h) (Or.inl ⟨by rfl, ?_⟩) (by assumption) ?_; rotate_left; (· (intro w hSw; (try dsimp only at hSw); go_simp <;> with_reducible rfl)); try simp only [Act.put, qD, qE, qF]) | (refine wpAnyH_take (i := 37) (v := undef) (by simp only [qA, qB, qC]; rfl) (by kernel_rfl) (by kernel_rfl) (by kernel_rfl) (fun _ _ _ h => h) (Or.inr ⟨by rfl, rfl⟩) (by assumption) ?_; try simp only [Act.put, qD, qE, qF])
 first | (refine wpAnyH_take (i := 38) (v := ?_) (by simp only [qA, qB, qC]; rfl) (by kernel_rfl) (by kernel_rfl) (by kernel_rfl) (fun _ _ _ h => h) (Or.inl ⟨by rfl, ?_⟩) (by assumption) ?_; rotate_left; (· (intro w hSw; (try dsimp only at hSw); go_simp <;> with_reducible rfl)); try simp only [Act.put, qD, qE, qF]) | (refine wpAnyH_take (i := 38) (v := undef) (by simp only [qA, qB, qC]; rfl) (by kernel_rfl) (by kernel_rfl) (by kernel_rfl) (fun _ _ _ h => h) (Or.inr ⟨by rfl, rfl⟩) (by assumption) ?_; try simp only [Act.put, qD, qE, qF])
 first | (refine wpAnyH_take (i := 39) (v := ?_) (by simp only [qA, qB, qC]; rfl) (by kernel_rfl) (by kernel_rfl) (by kernel_rfl) (fun _ _ _ h => h) (Or.inl ⟨by rfl, ?_⟩) (by assumption) ?_; rotate_left; (· (intro w hSw; (try dsimp only at hSw); go_simp <;> with_reducible rfl)); try simp only [Act.put, qD, qE]) | (refine wpAnyH_take (i := 39) (v := undef) (by simp only [qA, qB, qC]; rfl) (by kernel_rfl) (by kernel_rfl) (by kernel_rfl) (fun _ _ _ h => h) (Or.inr ⟨by rfl, rfl⟩) (by assumption) ?_; try simp only [Act.put, qD, qE])
 refine wpAnyH_done (by kernel_rfl) ?_ _
 refine NoPanic.normal ?_
 have hend : Hid (Below w.heap.size w w9) := HE.out.trans (hHeld.2.2.2.2.2.2.2.2.2.2.2.out.1.mono HE.out.size)
 clear hHeld
 go_wp2_with fail
 go_ret
 exact ⟨rfl, hend.out⟩
end Go.Proofs.YtljggjllijacjaaGreatDoor
