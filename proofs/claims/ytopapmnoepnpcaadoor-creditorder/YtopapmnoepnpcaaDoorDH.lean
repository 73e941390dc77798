/- Contract of Split of an amount that is not right, or zero. -/
import Derived.Test.YtopapmnoepnpcaaDoorCL
namespace Go.Proofs.YtopapmnoepnpcaaDoor
open Go.RowKit
attribute [local go_sem ↓] Go.wp_at_zero Go.wp_at_succ
def SplB (e : Ending) (w w' : World) (k : Int) : Prop :=
  e = .returned (.tuple #[.agg #[.int .i64 0, .slice none 0 0], .agg #[.int .i64 0, .slice none 0 0], .int .i64 k]) ∧ Below w.heap.size w w'
theorem fin_zero {w V V' : World} {r q n1 c1 n2 c2 : Nat} {W1 W2 : Int} {a1 a2 : Option Addr} {B1 B2 : List Int} (h : Fin w V r q W1 a1 n1 c1 B1 W2 a2 n2 c2 B2) (hne : r ≠ q) (hr : w.heap.size ≤ r) (hq : w.heap.size ≤ q)
    (hV : (((V.setCell ⟨r, 0, none⟩ (.int .i64 0)).setCell ⟨r, 1, none⟩ (.slice none 0 0)).setCell ⟨q, 0, none⟩ (.int .i64 0)).setCell ⟨q, 1, none⟩ (.slice none 0 0) = V') : Fin w V' r q 0 none 0 0 [] 0 none 0 0 [] := by
  have e1 := heap_setCell_same V r 0 _ 24 (.int .i64 0) h.b1
  have e2 := heap_setCell_same _ r 1 _ 24 (.slice none 0 0) e1
  have f0 : ((V.setCell ⟨r, 0, none⟩ (.int .i64 0)).setCell ⟨r, 1, none⟩ (.slice none 0 0)).heap[q]? = some (.cells #[.int .i64 W2, .slice a2 n2 c2] 24 (0, 0)) := by
    rw [heap_setCell_other _ ⟨r, 1, none⟩ q _ (Ne.symm hne), heap_setCell_other _ ⟨r, 0, none⟩ q _ (Ne.symm hne)]; exact h.b2
  have f1 := heap_setCell_same _ q 0 _ 24 (.int .i64 0) f0
  have f2 := heap_setCell_same _ q 1 _ 24 (.slice none 0 0) f1
  rw [← hV]
  refine ⟨?_, f2, ⟨rfl, .inl rfl⟩, ⟨rfl, .inl rfl⟩, (((h.bel.setCell (p := ⟨r, 0, none⟩) hr _).setCell (p := ⟨r, 1, none⟩) hr _).setCell (p := ⟨q, 0, none⟩) hq _).setCell (p := ⟨q, 1, none⟩) hq _⟩
  rw [heap_setCell_other _ ⟨q, 1, none⟩ r _ hne, heap_setCell_other _ ⟨q, 0, none⟩ r _ hne]; exact e2
set_option maxRecDepth 100000 in
set_option maxHeartbeats 8000000 in
theorem d6_form (v : Value) (W : Int) (B : List Int) (w : World) (h : Am w v W B) (hr : rightB W B = false) : Calls Tryd.prog 6 #[v] w fun e w' => SplB e w w' 6 := by
  have HV : Hid (Am w v W B) := h
  obtain ⟨a, n, c, rfl, hS⟩ := h.val
  obtain ⟨U, hU⟩ : ∃ U, (((w.alloc (.cells #[.int .i64 W, .slice a n c] 24)).alloc (.cells #[.int .i64 0, .slice none 0 0] 24)).alloc (.cells #[.int .i64 0, .slice none 0 0] 24)) = U := ⟨_, rfl⟩
  obtain ⟨p, hpp⟩ : ∃ p, w.heap.size = p := ⟨_, rfl⟩
  obtain ⟨r, hrr⟩ : ∃ r, p + 1 = r := ⟨_, rfl⟩
  obtain ⟨q, hq⟩ : ∃ q, r + 1 = q := ⟨_, rfl⟩
  have H0 : Hid (Pt w U p r q W a n c) := by rw [← hU, ← hq, ← hrr, ← hpp]; exact pt_new w W a n c
  obtain ⟨s0, s1⟩ := box2 H0.out.box
  have H9 : Calls Tryd.prog 9 #[.agg #[.int .i64 W, .slice a n c]] U fun e w' => e = .returned (.bool false) ∧ Hid (Pt w w' p r q W a n c) := (d9 _ W B U (HV.out.below H0.out.bel)).mono fun e w' ⟨h1, h3⟩ => ⟨by rw [h1, hr], H0.out.below h3⟩
  have hne : ¬ q = r := Ne.symm H0.out.ne
  have hne' : ¬ r = q := H0.out.ne
  clear h hS hr
  go_enter Tryd.func6, Tryd.ntmps6
  go_wp2_with fail
  refine H9.mono ?_
  rintro e w1 ⟨rfl, H1⟩
  clear H9 hU hpp hrr hq s0 s1
  obtain ⟨s0, s1⟩ := box2 H1.out.box
  obtain ⟨c0, c0'⟩ := box2 H1.out.r1
  obtain ⟨d0, d1⟩ := box2 H1.out.r2
  have g0 := frozen_of_row w1 r 0 _ 24 H1.out.r1
  have g1 := frozen_of_row w1 r 1 _ 24 H1.out.r1
  have k0 := frozen_of_row w1 q 0 _ 24 H1.out.r2
  have k1 := frozen_of_row w1 q 1 _ 24 H1.out.r2
  go_wp2_with fail
  obtain ⟨V', hV'⟩ : ∃ V', (((w1.setCell ⟨r, 0, none⟩ (.int .i64 0)).setCell ⟨r, 1, none⟩ (.slice none 0 0)).setCell ⟨q, 0, none⟩ (.int .i64 0)).setCell ⟨q, 1, none⟩ (.slice none 0 0) = V' := ⟨_, rfl⟩
  have HF : Fin w V' r q 0 none 0 0 [] 0 none 0 0 [] := fin_a H1.out ⟨rfl, .inl rfl⟩ ⟨rfl, .inl rfl⟩ (by simp [blk]) (by simp [blk]) hV'
  rw [hV']
  obtain ⟨z0, z1⟩ := box2 HF.b1
  obtain ⟨z2, z3⟩ := box2 HF.b2
  exact bodyPost_ret (v := .tuple #[.agg #[.int .i64 0, .slice none 0 0], .agg #[.int .i64 0, .slice none 0 0], .int .i64 6]) (by simp [results, Tryd.results6, go_sem, z0, z1, z2, z3]) rfl ⟨rfl, HF.bel⟩
set_option maxRecDepth 100000 in
set_option maxHeartbeats 8000000 in
theorem d6_none (v : Value) (W : Int) (B : List Int) (w : World) (h : Am w v W B) (hr : rightB W B = true) (hz : zeroB W B.length = true) : Calls Tryd.prog 6 #[v] w fun e w' => SplB e w w' 4 := by
  have HV : Hid (Am w v W B) := h
  obtain ⟨a, n, c, rfl, hS⟩ := h.val
  obtain ⟨U, hU⟩ : ∃ U, (((w.alloc (.cells #[.int .i64 W, .slice a n c] 24)).alloc (.cells #[.int .i64 0, .slice none 0 0] 24)).alloc (.cells #[.int .i64 0, .slice none 0 0] 24)) = U := ⟨_, rfl⟩
  obtain ⟨p, hpp⟩ : ∃ p, w.heap.size = p := ⟨_, rfl⟩
  obtain ⟨r, hrr⟩ : ∃ r, p + 1 = r := ⟨_, rfl⟩
  obtain ⟨q, hq⟩ : ∃ q, r + 1 = q := ⟨_, rfl⟩
  have H0 : Hid (Pt w U p r q W a n c) := by rw [← hU, ← hq, ← hrr, ← hpp]; exact pt_new w W a n c
  obtain ⟨s0, s1⟩ := box2 H0.out.box
  have H9 : Calls Tryd.prog 9 #[.agg #[.int .i64 W, .slice a n c]] U fun e w' => e = .returned (.bool true) ∧ Hid (Pt w w' p r q W a n c) := (d9 _ W B U (HV.out.below H0.out.bel)).mono fun e w' ⟨h1, h3⟩ => ⟨by rw [h1, hr], H0.out.below h3⟩
  have hn := hS.i.len
  have H8 : Hid (∀ V, Hid (Pt w V p r q W a n c) → Calls Tryd.prog 8 #[.agg #[.int .i64 W, .slice a n c]] V fun e w' => e = .returned (.bool true) ∧ Hid (Pt w w' p r q W a n c)) := fun V hV => (d8 W a n c V).mono fun e w' ⟨h1, h3⟩ => ⟨by rw [h1, ← hn, hz], hV.out.below h3⟩
  have hne : ¬ q = r := Ne.symm H0.out.ne
  have hne' : ¬ r = q := H0.out.ne
  clear h hS hr hz hn
  go_enter Tryd.func6, Tryd.ntmps6
  go_wp2_with fail
  refine H9.mono ?_
  rintro e w0 ⟨rfl, H1'⟩
  clear H9 hU hpp hrr hq s0 s1
  obtain ⟨s0, s1⟩ := box2 H1'.out.box
  go_wp2_with fail
  refine (H8.out _ H1').mono ?_
  rintro e w1 ⟨rfl, H1⟩
  clear s0 s1 H1'
  obtain ⟨s0, s1⟩ := box2 H1.out.box
  obtain ⟨c0, c0'⟩ := box2 H1.out.r1
  obtain ⟨d0, d1⟩ := box2 H1.out.r2
  have g0 := frozen_of_row w1 r 0 _ 24 H1.out.r1
  have g1 := frozen_of_row w1 r 1 _ 24 H1.out.r1
  have k0 := frozen_of_row w1 q 0 _ 24 H1.out.r2
  have k1 := frozen_of_row w1 q 1 _ 24 H1.out.r2
  go_wp2_with fail
  obtain ⟨V', hV'⟩ : ∃ V', (((w1.setCell ⟨r, 0, none⟩ (.int .i64 0)).setCell ⟨r, 1, none⟩ (.slice none 0 0)).setCell ⟨q, 0, none⟩ (.int .i64 0)).setCell ⟨q, 1, none⟩ (.slice none 0 0) = V' := ⟨_, rfl⟩
  have HF : Fin w V' r q 0 none 0 0 [] 0 none 0 0 [] := fin_a H1.out ⟨rfl, .inl rfl⟩ ⟨rfl, .inl rfl⟩ (by simp [blk]) (by simp [blk]) hV'
  rw [hV']
  obtain ⟨z0, z1⟩ := box2 HF.b1
  obtain ⟨z2, z3⟩ := box2 HF.b2
  exact bodyPost_ret (v := .tuple #[.agg #[.int .i64 0, .slice none 0 0], .agg #[.int .i64 0, .slice none 0 0], .int .i64 4]) (by simp [results, Tryd.results6, go_sem, z0, z1, z2, z3]) rfl ⟨rfl, HF.bel⟩
set_option maxRecDepth 100000 in
set_option maxHeartbeats 8000000 in
theorem d6_full (v : Value) (W : Int) (B : List Int) (P : (Int × List Int) × (Int × List Int)) (w : World) (h : Am w v W B) (hr : rightB W B = true) (hz : zeroB W B.length = false) (h2 : rightB P.2.1 P.2.2 = false)
    (hp : ∀ V, Below w.heap.size w V → Calls Tryd.prog 16 #[v] V fun e w' => ∃ a1 n1 c1 a2 n2 c2, e = .returned (.tuple #[.agg #[.int .i64 P.1.1, .slice a1 n1 c1], .agg #[.int .i64 P.2.1, .slice a2 n2 c2]]) ∧ Sl w' a1 n1 c1 P.1.2 ∧ Sl w' a2 n2 c2 P.2.2 ∧ Below V.heap.size V w' ∧ (∀ g, g < V.heap.size → blk a1 ≠ some g ∧ blk a2 ≠ some g)) : Calls Tryd.prog 6 #[v] w fun e w' => SplB e w w' 3 := by
  have HV : Hid (Am w v W B) := h
  obtain ⟨a, n, c, rfl, hS⟩ := h.val
  have hn := hS.i.len
  obtain ⟨U, hU⟩ : ∃ U, (((w.alloc (.cells #[.int .i64 W, .slice a n c] 24)).alloc (.cells #[.int .i64 0, .slice none 0 0] 24)).alloc (.cells #[.int .i64 0, .slice none 0 0] 24)) = U := ⟨_, rfl⟩
  obtain ⟨p, hpp⟩ : ∃ p, w.heap.size = p := ⟨_, rfl⟩
  obtain ⟨r, hrr⟩ : ∃ r, p + 1 = r := ⟨_, rfl⟩
  obtain ⟨q, hq⟩ : ∃ q, r + 1 = q := ⟨_, rfl⟩
  have H0 : Hid (Pt w U p r q W a n c) := by rw [← hU, ← hq, ← hrr, ← hpp]; exact pt_new w W a n c
  obtain ⟨s0, s1⟩ := box2 H0.out.box
  have H9 : Calls Tryd.prog 9 #[.agg #[.int .i64 W, .slice a n c]] U fun e w' => e = .returned (.bool true) ∧ Hid (Pt w w' p r q W a n c) := (d9 _ W B U (HV.out.below H0.out.bel)).mono fun e w' ⟨h1, h3⟩ => ⟨by rw [h1, hr], H0.out.below h3⟩
  have H8 : Hid (∀ V, Hid (Pt w V p r q W a n c) → Calls Tryd.prog 8 #[.agg #[.int .i64 W, .slice a n c]] V fun e w' => e = .returned (.bool false) ∧ Hid (Pt w w' p r q W a n c)) := fun V hV => (d8 W a n c V).mono fun e w' ⟨h1, h3⟩ => ⟨by rw [h1, ← hn, hz], hV.out.below h3⟩
  obtain ⟨⟨W1, B1⟩, W2, B2⟩ := P
  simp only at *
  have H16 : Hid (∀ V, Hid (Pt w V p r q W a n c) → Calls Tryd.prog 16 #[.agg #[.int .i64 W, .slice a n c]] V fun e w' => ∃ a1 n1 c1 a2 n2 c2, e = .returned (.tuple #[.agg #[.int .i64 W1, .slice a1 n1 c1], .agg #[.int .i64 W2, .slice a2 n2 c2]]) ∧ Hid (Pt w w' p r q W a n c ∧ Sl w' a1 n1 c1 B1 ∧ Sl w' a2 n2 c2 B2 ∧ (blk a1 ≠ some r ∧ blk a1 ≠ some q) ∧ (blk a2 ≠ some r ∧ blk a2 ≠ some q) ∧ ∀ g, g < w.heap.size → blk a1 ≠ some g ∧ blk a2 ≠ some g)) := fun V hV => (hp V hV.out.bel).mono fun e w' ⟨a1, n1, c1, a2, n2, c2, h1, h3, h4, h5, h6⟩ => by
    have l1 := (Array.getElem?_eq_some_iff.1 hV.out.r1).1
    have l2 := (Array.getElem?_eq_some_iff.1 hV.out.r2).1
    exact ⟨a1, n1, c1, a2, n2, c2, h1, hV.out.below h5, h3, h4, ⟨(h6 r l1).1, (h6 q l2).1⟩, ⟨(h6 r l1).2, (h6 q l2).2⟩, fun g hg => h6 g (Nat.lt_of_lt_of_le hg hV.out.bel.size)⟩
  have H9' : Hid (∀ V a2 n2 c2, Sl V a2 n2 c2 B2 → Calls Tryd.prog 9 #[.agg #[.int .i64 W2, .slice a2 n2 c2]] V fun e w' => e = .returned (.bool false) ∧ Hid (Below V.heap.size V w')) := fun V a2 n2 c2 hV => (d9 _ W2 B2 V ⟨a2, n2, c2, rfl, hV⟩).mono fun e w' ⟨h1, h3⟩ => ⟨by rw [h1, h2], h3⟩
  have hne : ¬ q = r := Ne.symm H0.out.ne
  have hne' : ¬ r = q := H0.out.ne
  clear h hS hp h2 hr hz hn
  go_enter Tryd.func6, Tryd.ntmps6
  go_wp2_with fail
  refine H9.mono ?_
  rintro e w1 ⟨rfl, H1⟩
  clear H9 hU hpp hrr hq s0 s1
  obtain ⟨s0, s1⟩ := box2 H1.out.box
  go_wp2_with fail
  refine (H8.out _ H1).mono ?_
  rintro e w2 ⟨rfl, H2⟩
  clear s0 s1 H1
  obtain ⟨s0, s1⟩ := box2 H2.out.box
  go_wp2_with fail
  refine (H16.out _ H2).mono ?_
  rintro e w3 ⟨a1, n1, c1, a2, n2, c2, rfl, H3⟩
  clear s0 s1 H2
  obtain ⟨V', hV'⟩ : ∃ V', (((w3.setCell ⟨r, 0, none⟩ (.int .i64 W1)).setCell ⟨r, 1, none⟩ (.slice a1 n1 c1)).setCell ⟨q, 0, none⟩ (.int .i64 W2)).setCell ⟨q, 1, none⟩ (.slice a2 n2 c2) = V' := ⟨_, rfl⟩
  have HF : Hid (Fin w V' r q W1 a1 n1 c1 B1 W2 a2 n2 c2 B2) := by
    obtain ⟨x1, x2, x3, x4, x5, _⟩ := H3.out
    exact fin_a x1 x2.i x3.i x4 x5 hV'
  obtain ⟨c0, c0'⟩ := box2 H3.out.1.r1
  obtain ⟨d0, d1⟩ := box2 H3.out.1.r2
  have g0 := frozen_of_row w3 r 0 _ 24 H3.out.1.r1
  have g1 := frozen_of_row w3 r 1 _ 24 H3.out.1.r1
  have k0 := frozen_of_row w3 q 0 _ 24 H3.out.1.r2
  have k1 := frozen_of_row w3 q 1 _ 24 H3.out.1.r2
  obtain ⟨z2, z3⟩ := box2 HF.out.b2
  go_wp2_with fail
  refine (H9'.out V' a2 n2 c2 ⟨HF.out.i2, H3.out.2.2.1.max, H3.out.2.2.1.cap, H3.out.2.2.1.nil⟩).mono ?_
  rintro e w5 ⟨rfl, H5⟩
  clear c0 c0' d0 d1 g0 g1 k0 k1 z2 z3 hV'
  have HF5 : Hid (Fin w w5 r q W1 a1 n1 c1 B1 W2 a2 n2 c2 B2) := HF.out.below H5.out
  obtain ⟨z0, z1⟩ := box2 HF5.out.b1
  obtain ⟨z2, z3⟩ := box2 HF5.out.b2
  have g0 := frozen_of_row w5 r 0 _ 24 HF5.out.b1
  have g1 := frozen_of_row w5 r 1 _ 24 HF5.out.b1
  have k0 := frozen_of_row w5 q 0 _ 24 HF5.out.b2
  have k1 := frozen_of_row w5 q 1 _ 24 HF5.out.b2
  clear HF
  go_wp2_with fail
  obtain ⟨V6, hV6⟩ : ∃ V6, (((w5.setCell ⟨r, 0, none⟩ (.int .i64 0)).setCell ⟨r, 1, none⟩ (.slice none 0 0)).setCell ⟨q, 0, none⟩ (.int .i64 0)).setCell ⟨q, 1, none⟩ (.slice none 0 0) = V6 := ⟨_, rfl⟩
  have HF6 : Fin w V6 r q 0 none 0 0 [] 0 none 0 0 [] := fin_zero HF5.out hne' H3.out.1.hr H3.out.1.hq hV6
  rw [hV6]
  clear z0 z1 z2 z3
  obtain ⟨z0, z1⟩ := box2 HF6.b1
  obtain ⟨z2, z3⟩ := box2 HF6.b2
  exact bodyPost_ret (v := .tuple #[.agg #[.int .i64 0, .slice none 0 0], .agg #[.int .i64 0, .slice none 0 0], .int .i64 3]) (by simp [results, Tryd.results6, go_sem, z0, z1, z2, z3]) rfl ⟨rfl, HF6.bel⟩
end Go.Proofs.YtopapmnoepnpcaaDoor
