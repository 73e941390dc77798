/- Contract of both parts of an amount: more than one Bit. -/
import Derived.Test.YtopapmnoepnpcaaDoorCF
namespace Go.Proofs.YtopapmnoepnpcaaDoor
open Go.RowKit
attribute [local go_sem ↓] Go.wp_at_zero Go.wp_at_succ
set_option maxRecDepth 100000 in
set_option maxHeartbeats 8000000 in
theorem d16_more2 (W : Int) (a : Option Addr) (c : Nat) (B : List Int) (y : Int) (w : World) (hI : In w a (1) (B ++ [y])) (hc : 1 ≤ c) (h1 : ¬ W = 0) : Calls Tryd.prog 16 #[.agg #[.int .i64 W, .slice a (1) c]] w fun e w' => TwoE e w w' ((W, B), (0, [y])) := by
  obtain ⟨U, hU⟩ : ∃ U, (((w.alloc (.cells #[.int .i64 W, .slice a (1) c] 24)).alloc (.cells #[.int .i64 0, .slice none 0 0] 24)).alloc (.cells #[.int .i64 0, .slice none 0 0] 24)) = U := ⟨_, rfl⟩
  obtain ⟨p, hp⟩ : ∃ p, w.heap.size = p := ⟨_, rfl⟩
  obtain ⟨r, hr⟩ : ∃ r, p + 1 = r := ⟨_, rfl⟩
  obtain ⟨q, hq⟩ : ∃ q, r + 1 = q := ⟨_, rfl⟩
  have H0 : Hid (Pt w U p r q W a (1) c) := by rw [← hU, ← hq, ← hr, ← hp]; exact pt_new w W a (1) c
  obtain ⟨s0, s1⟩ := box2 H0.out.box
  have hBn : B.length = 0 := by have := hI.len; simp at this; simp [this]
  obtain ⟨b, o, hx, rfl, p0⟩ := hI.at (show 0 < 1 by omega)
  have HI2 : Hid (In w (some ⟨b, o, none⟩) 0 B) := by
    refine ⟨hBn, ?_⟩
    rcases hI.mem with e | ⟨g, o', e, hl, hg⟩
    · omega
    · cases e
      refine .inr ⟨_, _, rfl, hl, fun j u hu => hg j u ?_⟩
      unfold i64s at hu ⊢
      rw [List.map_append, List.getElem?_append_left (by have := (List.getElem?_eq_some_iff.1 hu).1; exact this)]
      exact hu
  have HP : Hid (∀ V, Pt w V p r q W (some ⟨b, o, none⟩) (1) c → V.cell? ⟨b, o, none⟩ = some (.int .i64 y)) := fun V hV => by
    obtain ⟨b', o', hx', e', p'⟩ := (hI.below hV.bel).at (show 0 < 1 by omega)
    cases e'
    rw [Nat.add_zero] at p'
    rw [p']
    simp [List.getElem_append_right, hBn]
  have H26 : Hid (∀ V, Pt w V p r q W (some ⟨b, o, none⟩) (1) c → Calls Tryd.prog 26 #[.int .i64 y] V fun e w' => ∃ g, e = .returned (.agg #[.int .i64 0, .slice (some ⟨g, 0, none⟩) 1 1]) ∧ Hid (In w' (some ⟨g, 0, none⟩) 1 [y] ∧ Pt w w' p r q W (some ⟨b, o, none⟩) (1) c ∧ Below V.heap.size V w' ∧ V.heap.size ≤ g)) := fun V hV => (d26 y V).mono fun e w' ⟨g, h1, h2, h3, h4⟩ => ⟨g, h1, h2, hV.below h3, h3, h4⟩
  have H21 : Hid (∀ V, Pt w V p r q W (some ⟨b, o, none⟩) (1) c → Calls Tryd.prog 21 #[.slice (some ⟨b, o, none⟩) 0 c] V fun e w' => ∃ a' c', e = .returned (.slice a' 0 c') ∧ Hid (Row w' V.heap.size 3 a' 0 c' (i64s B) ∧ Pt w w' p r q W (some ⟨b, o, none⟩) (1) c ∧ Below V.heap.size V w' ∧ 0 = 0)) := fun V hV => (d21 _ 0 c B V (HI2.out.below hV.bel) (by omega) (fun e => by cases e)).mono fun e w' ⟨a', c', h1, h2, h3⟩ => ⟨a', c', h1, h2, hV.below h3, h3, rfl⟩
  clear p0 hI hx
  have u0 := HP.out U H0.out
  have HD : Hid (Pt w U.drew p r q W (some ⟨b, o, none⟩) (1) c) := H0.out.below ((Below.refl _ U).drew)
  have hne : ¬ q = r := Ne.symm H0.out.ne
  have hne' : ¬ r = q := H0.out.ne
  have hB2 : Hid (B.length = 0) := hBn
  clear hBn
  have hsl := run_head (some ⟨b, o, none⟩) (1) c 0 (by omega)
  all_goals (
    go_enter Tryd.func16, Tryd.ntmps16
    go_wp2_with fail
    clear hU hp hr hq
    go_region_with (first
      | (go_at_call 21; refine (H21.out _ HD.out).mono ?_; rintro e w6 ⟨a1, ct, rfl, H6⟩
         obtain ⟨x0, x1⟩ := box2 H6.out.2.1.box
         have x2 := HP.out _ H6.out.2.1)
      | (go_at_call 26; refine (H26.out _ H6.out.2.1).mono ?_; rintro e w7 ⟨g2, rfl, H7⟩
         obtain ⟨y0, y1⟩ := box2 H7.out.2.1.box
         obtain ⟨c0, c1⟩ := box2 H7.out.2.1.r1
         obtain ⟨d0, d1⟩ := box2 H7.out.2.1.r2
         have z0 := frozen_of_row w7 r 0 _ 24 H7.out.2.1.r1
         have z1 := frozen_of_row w7 r 1 _ 24 H7.out.2.1.r1
         have k0 := frozen_of_row w7 q 0 _ 24 H7.out.2.1.r2
         have k1 := frozen_of_row w7 q 1 _ 24 H7.out.2.1.r2))
    all_goals (
      obtain ⟨V', hV'⟩ : ∃ V', (((w7.setCell ⟨r, 0, none⟩ (.int .i64 W)).setCell ⟨r, 1, none⟩ (.slice a1 0 ct)).setCell ⟨q, 0, none⟩ (.int .i64 0)).setCell ⟨q, 1, none⟩ (.slice (some ⟨g2, 0, none⟩) 1 1) = V' := ⟨_, rfl⟩
      have HF : Hid (Fin w V' r q W a1 0 ct B 0 (some ⟨g2, 0, none⟩) 1 1 [y] ∧ 0 ≤ ct ∧ (a1 = none → 0 = 0)) := by
        obtain ⟨x1, x2, x3, x4⟩ := H6.out
        obtain ⟨y1, y2, y3, y4⟩ := H7.out
        have l1 := (Array.getElem?_eq_some_iff.1 HD.out.r1).1
        have l2 := (Array.getElem?_eq_some_iff.1 HD.out.r2).1
        have hs := x3.size
        refine ⟨fin_a y2 (x1.in.below y3) y1 ⟨fun e => ?_, fun e => ?_⟩ ⟨by simp; omega, by simp; omega⟩ hV', x1.cap, fun e => ?_⟩
        · have := (x1.lt e).1; omega
        · have := (x1.lt e).1; omega
        · exact rfl
      have HG : Hid (∀ g, g < w.heap.size → blk a1 ≠ some g ∧ blk (some (⟨g2, 0, none⟩ : Addr)) ≠ some g) := fun g hg => by
        have t1 := HD.out.bel.size
        have t2 := H6.out.2.2.1.size
        have t4 := H7.out.2.2.2
        refine ⟨fun e => ?_, by simp; omega⟩
        have t3 := (H6.out.1.lt e).1
        omega
      rw [hV']
      clear hV'
      go_wp2_with fail
      obtain ⟨z0, z1⟩ := box2 HF.out.1.b1
      obtain ⟨z2, z3⟩ := box2 HF.out.1.b2
      exact bodyPost_ret (v := .tuple #[.agg #[.int .i64 W, .slice a1 0 ct], .agg #[.int .i64 0, .slice (some ⟨g2, 0, none⟩) 1 1]]) (by simp [results, Tryd.results16, go_sem, z0, z1, z2, z3]) rfl ⟨_, _, _, _, _, _, rfl, ⟨HF.out.1.i1, by omega, HF.out.2.1, fun _ => rfl⟩, ⟨HF.out.1.i2, by omega, by omega, fun e => (by cases e)⟩, HF.out.1.bel, HG.out⟩))
end Go.Proofs.YtopapmnoepnpcaaDoor
