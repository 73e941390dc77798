/- CreditWhole where an amount can be split. -/
import Derived.Test.YtopapmnoepnpcaaDoorDJ
import Derived.Test.YtopapmnoepnpcaaDoorDD
namespace Go.Proofs.YtopapmnoepnpcaaDoor
open Go.RowKit
attribute [local go_sem ↓] Go.wp_at_zero Go.wp_at_succ
theorem sum_two {W1 W2 W code W3 : Int} {B1 B2 B B3 : List Int} (h : SumIs [(W1, B1), (W2, B2)] code W3 B3) (hr : rightB W B = true) (hv : ∀ N : Nat, 1048576 ≤ N → val N W1 B1 + val N W2 B2 = val N W B) : code = 0 ∧ W3 = W ∧ B3 = B := by
  obtain ⟨N, hN⟩ : ∃ N : Nat, 1048576 ≤ N := ⟨1048576, Nat.le_refl _⟩
  have h1 := hv N hN
  have h2 := val_bd N hN hr
  rcases h with ⟨rfl, h3, h4⟩ | ⟨_, _, _, h4⟩
  · have h5 := h4 N hN
    simp only [valS] at h5
    exact ⟨rfl, val_inj N hN h3 hr (by omega)⟩
  · have h5 := h4 N hN
    simp only [valS] at h5
    omega
theorem cmp_part {W1 W2 W : Int} {B1 B2 B : List Int} (h1 : rightB W1 B1 = true) (h2 : rightB W2 B2 = true) (hr : rightB W B = true) (hz : zeroB W2 B2.length = false) (hv : ∀ N : Nat, 1048576 ≤ N → val N W1 B1 + val N W2 B2 = val N W B) : cmpA W1 B1 W B = -1 := by
  obtain ⟨N, hN⟩ : ∃ N : Nat, 1048576 ≤ N := ⟨1048576, Nat.le_refl _⟩
  have e1 := hv N hN
  have e2 := val_bd N hN h2
  have e3 := val_zero N hN h2
  have e4 : val N W2 B2 ≠ 0 := fun e => by
    obtain ⟨rfl, rfl⟩ := e3.1 e
    simp [zeroB] at hz
  rcases cmpA_val N hN W1 W B1 B h1 hr with ⟨e, _⟩ | ⟨_, rfl, rfl⟩ | ⟨_, e⟩
  · exact e
  · omega
  · omega
/-- An amount and its parts, in blocks. -/
structure Gd (w0 w : World) (p r q : Nat) (W : Int) (a : Option Addr) (n c : Nat) (B : List Int) (W1 : Int) (a1 : Option Addr) (n1 c1 : Nat) (B1 : List Int) (W2 : Int) (a2 : Option Addr) (n2 c2 : Nat) (B2 : List Int) : Prop where
  b0 : w.heap[p]? = some (.cells #[.int .i64 W, .slice a n c] 24 (0, 0))
  b1 : w.heap[r]? = some (.cells #[.int .i64 W1, .slice a1 n1 c1] 24 (0, 0))
  b2 : w.heap[q]? = some (.cells #[.int .i64 W2, .slice a2 n2 c2] 24 (0, 0))
  s0 : Sl w a n c B
  s1 : Sl w a1 n1 c1 B1
  s2 : Sl w a2 n2 c2 B2
  bel : Below w0.heap.size w0 w
theorem Gd.below {w0 w w' : World} {p r q n c n1 c1 n2 c2 : Nat} {W W1 W2 : Int} {a a1 a2 : Option Addr} {B B1 B2 : List Int} (h : Gd w0 w p r q W a n c B W1 a1 n1 c1 B1 W2 a2 n2 c2 B2) (hb : Below w.heap.size w w') : Gd w0 w' p r q W a n c B W1 a1 n1 c1 B1 W2 a2 n2 c2 B2 :=
  ⟨(hb.block p (Array.getElem?_eq_some_iff.1 h.b0).1).trans h.b0, (hb.block r (Array.getElem?_eq_some_iff.1 h.b1).1).trans h.b1, (hb.block q (Array.getElem?_eq_some_iff.1 h.b2).1).trans h.b2, h.s0.below hb, h.s1.below hb, h.s2.below hb, h.bel.trans (hb.mono h.bel.size)⟩
set_option maxRecDepth 100000 in
set_option maxHeartbeats 8000000 in
theorem d3_good (v : Value) (W W1 W2 : Int) (B B1 B2 : List Int) (w : World) (h : Am w v W B) (hT : Tb w) (hr : rightB W B = true) (r1 : rightB W1 B1 = true) (r2 : rightB W2 B2 = true) (z1 : zeroB W1 B1.length = false) (z2 : zeroB W2 B2.length = false) (hv : ∀ N : Nat, 1048576 ≤ N → val N W1 B1 + val N W2 B2 = val N W B)
    (hs : ∀ V, Below w.heap.size w V → Calls Tryd.prog 6 #[v] V fun e w' => SplE e V w' ((W1, B1), (W2, B2))) : Calls Tryd.prog 3 #[v] w fun e w' => e = .returned (.bool true) ∧ Below w.heap.size w w' := by
  have HV : Hid (Am w v W B ∧ Tb w) := ⟨h, hT⟩
  obtain ⟨a, n, c, rfl, hS⟩ := h.val
  have HS : Hid (Sl w a n c B) := hS
  have HR : Hid (rightB W B = true ∧ rightB W1 B1 = true ∧ rightB W2 B2 = true ∧ ∀ N : Nat, 1048576 ≤ N → val N W1 B1 + val N W2 B2 = val N W B) := ⟨hr, r1, r2, hv⟩
  have HC1 : Hid (cmpA W1 B1 W B = -1) := cmp_part r1 r2 hr z2 hv
  have HC2 : Hid (cmpA W2 B2 W B = -1) := cmp_part r2 r1 hr z1 fun N hN => by rw [Int.add_comm]; exact hv N hN
  obtain ⟨U, hU⟩ : ∃ U, w.alloc (.cells #[.int .i64 W, .slice a n c] 24) = U := ⟨_, rfl⟩
  obtain ⟨p, hp⟩ : ∃ p, w.heap.size = p := ⟨_, rfl⟩
  have H0 : Hid (Bk w U p (.int .i64 W) (.slice a n c) 24) := by rw [← hU, ← hp]; exact bk_new w _ _ _
  obtain ⟨s0, s1⟩ := box2 H0.out.box
  have H6 : Calls Tryd.prog 6 #[.agg #[.int .i64 W, .slice a n c]] U fun e w' => ∃ a1 n1 c1 a2 n2 c2, e = .returned (.tuple #[.agg #[.int .i64 W1, .slice a1 n1 c1], .agg #[.int .i64 W2, .slice a2 n2 c2], .int .i64 0]) ∧ Hid (Bk w w' p (.int .i64 W) (.slice a n c) 24 ∧ Sl w' a1 n1 c1 B1 ∧ Sl w' a2 n2 c2 B2) := (hs U H0.out.bel).mono fun e w' ⟨a1, n1, c1, a2, n2, c2, h1, h2, h3, h4, _⟩ => ⟨a1, n1, c1, a2, n2, c2, h1, H0.out.below h4, h2, h3⟩
  have HZ : Hid (zeroB W1 B1.length = false ∧ zeroB W2 B2.length = false) := ⟨z1, z2⟩
  clear h hT hS hr hs hv r1 r2 z1 z2
  go_enter Tryd.func3, Tryd.ntmps3
  go_wp2_with fail
  refine H6.mono ?_
  rintro e w2 ⟨a1, n1, c1, a2, n2, c2, rfl, H2⟩
  clear H6 hU hp s0 s1 H0
  obtain ⟨U2, hU⟩ : ∃ U, (w2.alloc (.cells #[.int .i64 0, .slice none 0 0] 24)).alloc (.cells #[.int .i64 0, .slice none 0 0] 24) = U := ⟨_, rfl⟩
  obtain ⟨r, hr⟩ : ∃ r, w2.heap.size = r := ⟨_, rfl⟩
  obtain ⟨q, hq⟩ : ∃ q, r + 1 = q := ⟨_, rfl⟩
  obtain ⟨⟨c00, c01, c10, c11⟩, ⟨f00, f01, f10, f11⟩, hVV⟩ := stored2 (x := .int .i64 W1) (y := .slice a1 n1 c1) (x' := .int .i64 W2) (y' := .slice a2 n2 c2) hU hr hq
  obtain ⟨V, hV⟩ : ∃ V, (((U2.setCell ⟨r, 0, none⟩ (.int .i64 W1)).setCell ⟨r, 1, none⟩ (.slice a1 n1 c1)).setCell ⟨q, 0, none⟩ (.int .i64 W2)).setCell ⟨q, 1, none⟩ (.slice a2 n2 c2) = V := ⟨_, rfl⟩
  have H3 : Hid (Gd w V p r q W a n c B W1 a1 n1 c1 B1 W2 a2 n2 c2 B2) := by
    obtain ⟨x1, x2, x3⟩ := hVV V hV
    obtain ⟨y1, y2, y3⟩ := H2.out
    have y4 := y1.below x3
    exact ⟨y4.box, x1, x2, HS.out.below y4.bel, y2.below x3, y3.below x3, y4.bel⟩
  clear hVV H2
  obtain ⟨m0, m1⟩ := box2 H3.out.b1
  obtain ⟨m2, m3⟩ := box2 H3.out.b2
  have H10 : Calls Tryd.prog 10 #[.slice (some ⟨V.heap.size, 0, none⟩) 2 2] (V.alloc (.cells #[.int .i64 W1, .slice a1 n1 c1, .int .i64 W2, .slice a2 n2 c2] 24)) fun e w' => ∃ a3 n3 c3, e = .returned (.tuple #[.agg #[.int .i64 W, .slice a3 n3 c3], .int .i64 0]) ∧ Hid (Gd w w' p r q W a n c B W1 a1 n1 c1 B1 W2 a2 n2 c2 B2 ∧ Sl w' a3 n3 c3 B) := by
    have hA := amr_two V W1 W2 a1 a2 n1 c1 n2 c2 B1 B2 H3.out.s1 H3.out.s2
    refine (d10 _ 2 2 _ _ hA (by omega) (fun x hx => by simp at hx; rcases hx with rfl | rfl; exact HR.out.2.1; exact HR.out.2.2.1)).mono ?_
    rintro e w' ⟨code, W3, a3, n3, c3, B3, rfl, s1, s2, s3⟩
    obtain ⟨rfl, rfl, rfl⟩ := sum_two s3 HR.out.1 HR.out.2.2.2
    exact ⟨a3, n3, c3, rfl, (H3.out.below ((Below.refl _ V).alloc (Nat.le_refl _) _)).below s2, s1⟩
  go_wp2_with fail
  refine H10.mono ?_
  rintro e w3 ⟨a3, n3, c3, rfl, H4⟩
  clear H10 hU hr hq c00 c01 c10 c11 f00 f01 f10 f11 hV m0 m1 m2 m3 H3
  obtain ⟨U3, hU⟩ : ∃ U, w3.alloc (.cells #[.int .i64 0, .slice none 0 0] 24) = U := ⟨_, rfl⟩
  obtain ⟨sb, hsb⟩ : ∃ sb, w3.heap.size = sb := ⟨_, rfl⟩
  obtain ⟨⟨k0, k1, f0, f1⟩, hbV, hcV⟩ := stored24 (x := .int .i64 W) (y := .slice a3 n3 c3) hU hsb
  obtain ⟨V2, hV⟩ : ∃ V, (U3.setCell ⟨sb, 0, none⟩ (.int .i64 W)).setCell ⟨sb, 1, none⟩ (.slice a3 n3 c3) = V := ⟨_, rfl⟩
  rw [hV] at hbV hcV
  obtain ⟨G, hG⟩ : ∃ G : World → Prop, G = fun V => Gd w V p r q W a n c B W1 a1 n1 c1 B1 W2 a2 n2 c2 B2 ∧ V.heap[sb]? = some (.cells #[.int .i64 W, .slice a3 n3 c3] 24 (0, 0)) ∧ Sl V a3 n3 c3 B := ⟨_, rfl⟩
  have HG : Hid (∀ V V', G V → Below V.heap.size V V' → G V') := fun V V' h1 h2 => by
    rw [hG] at h1 ⊢
    exact ⟨h1.1.below h2, (h2.block sb (Array.getElem?_eq_some_iff.1 h1.2.1).1).trans h1.2.1, h1.2.2.below h2⟩
  have HO : Hid (∀ V, G V → Gd w V p r q W a n c B W1 a1 n1 c1 B1 W2 a2 n2 c2 B2 ∧ V.heap[sb]? = some (.cells #[.int .i64 W, .slice a3 n3 c3] 24 (0, 0)) ∧ Sl V a3 n3 c3 B) := fun V h1 => by rw [hG] at h1; exact h1
  have H5 : Hid (G V2) := by
    show G V2
    rw [hG]
    exact ⟨H4.out.1.below hbV, hcV, H4.out.2.below hbV⟩
  clear hbV hcV H4 hG
  have H7 : Calls Tryd.prog 7 #[] V2 fun e w' => e = .returned (.bool true) ∧ Hid (G w') := (d7 V2 (HV.out.2.below (HO.out _ H5.out).1.bel)).mono fun e w' ⟨h1, h2⟩ => ⟨h1, HG.out _ _ H5.out h2⟩
  go_wp2_with fail
  refine H7.mono ?_
  rintro e w4 ⟨rfl, I1⟩
  clear H7 hU hsb k0 k1 f0 f1 hV H5
  obtain ⟨m0, m1⟩ := box2 (HO.out _ I1.out).1.b0
  obtain ⟨m2, m3⟩ := box2 (HO.out _ I1.out).2.1
  have H11 : Calls Tryd.prog 11 #[.agg #[.int .i64 W, .slice a3 n3 c3], .agg #[.int .i64 W, .slice a n c]] w4 fun e w' => e = .returned (.bool true) ∧ Hid (G w') := (d11 _ _ W W B B w4 ⟨a3, n3, c3, rfl, (HO.out _ I1.out).2.2⟩ ⟨a, n, c, rfl, (HO.out _ I1.out).1.s0⟩).mono fun e w' ⟨h1, h2⟩ => ⟨by rw [h1]; simp [sameB], HG.out _ _ I1.out h2⟩
  go_wp2_with fail
  refine H11.mono ?_
  rintro e w5 ⟨rfl, I2⟩
  clear H11 m0 m1 m2 m3 I1
  obtain ⟨m0, m1⟩ := box2 (HO.out _ I2.out).1.b1
  have H8 : Calls Tryd.prog 8 #[.agg #[.int .i64 W1, .slice a1 n1 c1]] w5 fun e w' => e = .returned (.bool false) ∧ Hid (G w') := (d8 W1 a1 n1 c1 w5).mono fun e w' ⟨h1, h2⟩ => ⟨by rw [h1, ← (HO.out _ I2.out).1.s1.i.len, HZ.out.1], HG.out _ _ I2.out h2⟩
  go_wp2_with fail
  refine H8.mono ?_
  rintro e w6 ⟨rfl, I3⟩
  clear H8 m0 m1 I2
  obtain ⟨m0, m1⟩ := box2 (HO.out _ I3.out).1.b2
  have H8 : Calls Tryd.prog 8 #[.agg #[.int .i64 W2, .slice a2 n2 c2]] w6 fun e w' => e = .returned (.bool false) ∧ Hid (G w') := (d8 W2 a2 n2 c2 w6).mono fun e w' ⟨h1, h2⟩ => ⟨by rw [h1, ← (HO.out _ I3.out).1.s2.i.len, HZ.out.2], HG.out _ _ I3.out h2⟩
  go_wp2_with fail
  refine H8.mono ?_
  rintro e w7 ⟨rfl, I4⟩
  clear H8 m0 m1 I3
  obtain ⟨m0, m1⟩ := box2 (HO.out _ I4.out).1.b1
  obtain ⟨m2, m3⟩ := box2 (HO.out _ I4.out).1.b0
  have H12 : Calls Tryd.prog 12 #[.agg #[.int .i64 W1, .slice a1 n1 c1], .agg #[.int .i64 W, .slice a n c]] w7 fun e w' => e = .returned (.int .i64 (-1)) ∧ Hid (G w') := (d12 _ _ W1 W B1 B w7 ⟨a1, n1, c1, rfl, (HO.out _ I4.out).1.s1⟩ ⟨a, n, c, rfl, (HO.out _ I4.out).1.s0⟩ HR.out.2.1 HR.out.1).mono fun e w' ⟨h1, h2⟩ => ⟨by rw [h1, HC1.out], HG.out _ _ I4.out h2⟩
  go_wp2_with fail
  refine H12.mono ?_
  rintro e w8 ⟨rfl, I5⟩
  clear H12 m0 m1 m2 m3 I4
  obtain ⟨m0, m1⟩ := box2 (HO.out _ I5.out).1.b2
  obtain ⟨m2, m3⟩ := box2 (HO.out _ I5.out).1.b0
  have H12 : Calls Tryd.prog 12 #[.agg #[.int .i64 W2, .slice a2 n2 c2], .agg #[.int .i64 W, .slice a n c]] w8 fun e w' => e = .returned (.int .i64 (-1)) ∧ Hid (G w') := (d12 _ _ W2 W B2 B w8 ⟨a2, n2, c2, rfl, (HO.out _ I5.out).1.s2⟩ ⟨a, n, c, rfl, (HO.out _ I5.out).1.s0⟩ HR.out.2.2.1 HR.out.1).mono fun e w' ⟨h1, h2⟩ => ⟨by rw [h1, HC2.out], HG.out _ _ I5.out h2⟩
  go_wp2_with fail
  refine H12.mono ?_
  rintro e w9 ⟨rfl, I6⟩
  go_wp2_with fail
  go_ret
  exact ⟨rfl, (HO.out _ I6.out).1.bel⟩
end Go.Proofs.YtopapmnoepnpcaaDoor
