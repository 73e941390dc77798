/- CreditOrder of right amounts. -/
import Derived.Test.YtopapmnoepnpcaaDoorDM
namespace Go.Proofs.YtopapmnoepnpcaaDoor
open Go.RowKit
attribute [local go_sem ↓] Go.wp_at_zero Go.wp_at_succ
set_option maxRecDepth 100000 in
set_option maxHeartbeats 16000000 in
theorem d4_good (x y z : AD) (w : World) (h : Sl w x.a x.n x.c x.B) (h1 : Sl w y.a y.n y.c y.B) (h2 : Sl w z.a z.n z.c z.B) (hT : Tb w) (gx : rightB x.W x.B = true) (gy : rightB y.W y.B = true) (gz : rightB z.W z.B = true) : Calls Tryd.prog 4 #[.agg #[.int .i64 x.W, .slice x.a x.n x.c], .agg #[.int .i64 y.W, .slice y.a y.n y.c], .agg #[.int .i64 z.W, .slice z.a z.n z.c]] w fun e w' => e = .returned (.bool true) ∧ Below w.heap.size w w' := by
  have HT : Hid (Tb w) := hT
  obtain ⟨p, hp⟩ : ∃ p, w.heap.size = p := ⟨_, rfl⟩
  obtain ⟨r, hr⟩ : ∃ r, p + 1 = r := ⟨_, rfl⟩
  obtain ⟨q, hq⟩ : ∃ q, r + 1 = q := ⟨_, rfl⟩
  obtain ⟨U, hU⟩ : ∃ U, ((w.alloc (.cells #[.int .i64 x.W, .slice x.a x.n x.c] 24)).alloc (.cells #[.int .i64 y.W, .slice y.a y.n y.c] 24)).alloc (.cells #[.int .i64 z.W, .slice z.a z.n z.c] 24) = U := ⟨_, rfl⟩
  have H0 : Hid (Tri w U p r q x y z) := tri_new hU hp hr hq h h1 h2
  have C7 : Hid (∀ V, Tri w V p r q x y z → Calls Tryd.prog 7 #[] V fun e w' => e = .returned (.bool true) ∧ Hid (Tri w w' p r q x y z)) := fun V hV => (d7 V (HT.out.below hV.2.2.2)).mono fun e w' ⟨h1, h2⟩ => ⟨h1, hV.below h2⟩
  have C9x : Hid (∀ V, Tri w V p r q x y z → Calls Tryd.prog 9 #[.agg #[.int .i64 x.W, .slice x.a x.n x.c]] V fun e w' => e = .returned (.bool true) ∧ Hid (Tri w w' p r q x y z)) := fun V hV => (d9 _ x.W x.B V hV.1.am).mono fun e w' ⟨h1, h2⟩ => ⟨by rw [h1, gx], hV.below h2⟩
  have C9y : Hid (∀ V, Tri w V p r q x y z → Calls Tryd.prog 9 #[.agg #[.int .i64 y.W, .slice y.a y.n y.c]] V fun e w' => e = .returned (.bool true) ∧ Hid (Tri w w' p r q x y z)) := fun V hV => (d9 _ y.W y.B V hV.2.1.am).mono fun e w' ⟨h1, h2⟩ => ⟨by rw [h1, gy], hV.below h2⟩
  have C9z : Hid (∀ V, Tri w V p r q x y z → Calls Tryd.prog 9 #[.agg #[.int .i64 z.W, .slice z.a z.n z.c]] V fun e w' => e = .returned (.bool true) ∧ Hid (Tri w w' p r q x y z)) := fun V hV => (d9 _ z.W z.B V hV.2.2.1.am).mono fun e w' ⟨h1, h2⟩ => ⟨by rw [h1, gz], hV.below h2⟩
  have HR : Hid (rightB x.W x.B = true ∧ rightB y.W y.B = true ∧ rightB z.W z.B = true) := ⟨gx, gy, gz⟩
  clear h h1 h2 hT gx gy gz
  obtain ⟨m0, m1⟩ := box2 H0.out.1.1
  obtain ⟨m2, m3⟩ := box2 H0.out.2.1.1
  obtain ⟨m4, m5⟩ := box2 H0.out.2.2.1.1
  go_enter Tryd.func4, Tryd.ntmps4
  go_wp2_with fail
  refine (C9x.out _ H0.out).mono ?_
  rintro e w1 ⟨rfl, H1⟩
  clear m0 m1 m2 m3 m4 m5 H0 hU hp hr hq
  obtain ⟨m0, m1⟩ := box2 H1.out.1.1
  obtain ⟨m2, m3⟩ := box2 H1.out.2.1.1
  obtain ⟨m4, m5⟩ := box2 H1.out.2.2.1.1
  go_wp2_with fail
  refine (C9y.out _ H1.out).mono ?_
  rintro e w2 ⟨rfl, H2⟩
  clear m0 m1 m2 m3 m4 m5 H1
  obtain ⟨m0, m1⟩ := box2 H2.out.1.1
  obtain ⟨m2, m3⟩ := box2 H2.out.2.1.1
  obtain ⟨m4, m5⟩ := box2 H2.out.2.2.1.1
  go_wp2_with fail
  refine (C9z.out _ H2.out).mono ?_
  rintro e w3 ⟨rfl, H3⟩
  clear m0 m1 m2 m3 m4 m5 H2
  obtain ⟨m0, m1⟩ := box2 H3.out.1.1
  obtain ⟨m2, m3⟩ := box2 H3.out.2.1.1
  obtain ⟨m4, m5⟩ := box2 H3.out.2.2.1.1
  have H10 : Calls Tryd.prog 10 #[.slice (some ⟨w3.heap.size, 0, none⟩) 3 3] (w3.alloc (.cells #[.int .i64 x.W, .slice x.a x.n x.c, .int .i64 y.W, .slice y.a y.n y.c, .int .i64 z.W, .slice z.a z.n z.c] 24)) fun e w' => ∃ (k : Int) (s : AD), e = .returned (.tuple #[.agg #[.int .i64 s.W, .slice s.a s.n s.c], .int .i64 k]) ∧ Hid (Tri w w' p r q x y z ∧ Sl w' s.a s.n s.c s.B ∧ SumIs [(x.W, x.B), (y.W, y.B), (z.W, z.B)] k s.W s.B) := by
    have hA := amr_three w3 x y z H3.out.1.2 H3.out.2.1.2 H3.out.2.2.1.2
    refine (d10 _ 3 3 _ _ hA (by omega) (fun u hu => by simp at hu; rcases hu with rfl | rfl | rfl; exact HR.out.1; exact HR.out.2.1; exact HR.out.2.2)).mono ?_
    rintro e w' ⟨code, W3, a3, n3, c3, B3, rfl, s1, s2, s3⟩
    exact ⟨code, ⟨W3, a3, n3, c3, B3⟩, rfl, (H3.out.below ((Below.refl _ w3).alloc (Nat.le_refl _) _)).below s2, s1, s3⟩
  go_wp2_with fail
  refine H10.mono ?_
  rintro e w4 ⟨k, s, rfl, H4⟩
  clear H10 m0 m1 m2 m3 m4 m5 H3
  obtain ⟨U4, hU⟩ : ∃ U, w4.alloc (.cells #[.int .i64 0, .slice none 0 0] 24) = U := ⟨_, rfl⟩
  obtain ⟨sb, hsb⟩ : ∃ sb, w4.heap.size = sb := ⟨_, rfl⟩
  obtain ⟨⟨k0, k1, f0, f1⟩, hbV, hcV⟩ := stored24 (x := .int .i64 s.W) (y := .slice s.a s.n s.c) hU hsb
  obtain ⟨V, hV⟩ : ∃ V, (U4.setCell ⟨sb, 0, none⟩ (.int .i64 s.W)).setCell ⟨sb, 1, none⟩ (.slice s.a s.n s.c) = V := ⟨_, rfl⟩
  rw [hV] at hbV hcV
  have H5 : Hid (Tet w V p r q sb x y z s) := ⟨H4.out.1.below hbV, hcV, H4.out.2.1.below hbV⟩
  have HS : Hid (SumIs [(x.W, x.B), (y.W, y.B), (z.W, z.B)] k s.W s.B) := H4.out.2.2
  clear hbV hcV H4
  obtain ⟨m0, m1⟩ := box2 H5.out.1.1.1
  obtain ⟨m2, m3⟩ := box2 H5.out.1.2.1.1
  obtain ⟨m4, m5⟩ := box2 H5.out.1.2.2.1.1
  have H10 : Calls Tryd.prog 10 #[.slice (some ⟨V.heap.size, 0, none⟩) 3 3] (V.alloc (.cells #[.int .i64 z.W, .slice z.a z.n z.c, .int .i64 x.W, .slice x.a x.n x.c, .int .i64 y.W, .slice y.a y.n y.c] 24)) fun e w' => ∃ (t : AD), e = .returned (.tuple #[.agg #[.int .i64 t.W, .slice t.a t.n t.c], .int .i64 k]) ∧ Hid (Tet w w' p r q sb x y z s ∧ Sl w' t.a t.n t.c t.B ∧ sameB s.W s.B t.W t.B = true) := by
    have hA := amr_three V z x y H5.out.1.2.2.1.2 H5.out.1.1.2 H5.out.1.2.1.2
    refine (d10 _ 3 3 _ _ hA (by omega) (fun u hu => by simp at hu; rcases hu with rfl | rfl | rfl; exact HR.out.2.2; exact HR.out.1; exact HR.out.2.1)).mono ?_
    rintro e w' ⟨code, W3, a3, n3, c3, B3, rfl, s1, s2, s3⟩
    obtain ⟨rfl, e1, e2⟩ := sum_like HS.out s3 fun N _ => by simp only [valS]; omega
    exact ⟨⟨W3, a3, n3, c3, B3⟩, rfl, (H5.out.below ((Below.refl _ V).alloc (Nat.le_refl _) _)).below s2, s1, by simp [sameB, e1, e2]⟩
  go_wp2_with fail
  refine H10.mono ?_
  rintro e w6 ⟨t, rfl, H6⟩
  clear H10 m0 m1 m2 m3 m4 m5 H5 HS hU hsb k0 k1 f0 f1 hV
  obtain ⟨U6, hU⟩ : ∃ U, w6.alloc (.cells #[.int .i64 0, .slice none 0 0] 24) = U := ⟨_, rfl⟩
  obtain ⟨tb, htb⟩ : ∃ tb, w6.heap.size = tb := ⟨_, rfl⟩
  obtain ⟨⟨k0, k1, f0, f1⟩, hbV, hcV⟩ := stored24 (x := .int .i64 t.W) (y := .slice t.a t.n t.c) hU htb
  obtain ⟨V2, hV⟩ : ∃ V, (U6.setCell ⟨tb, 0, none⟩ (.int .i64 t.W)).setCell ⟨tb, 1, none⟩ (.slice t.a t.n t.c) = V := ⟨_, rfl⟩
  rw [hV] at hbV hcV
  have H7 : Hid (Tet w V2 p r q sb x y z s ∧ Bx V2 tb t) := ⟨H6.out.1.below hbV, hcV, H6.out.2.1.below hbV⟩
  obtain ⟨m0, m1⟩ := box2 H7.out.1.2.1
  obtain ⟨m2, m3⟩ := box2 H7.out.2.1
  have H11 : Calls Tryd.prog 11 #[.agg #[.int .i64 s.W, .slice s.a s.n s.c], .agg #[.int .i64 t.W, .slice t.a t.n t.c]] V2 fun e w' => e = .returned (.bool true) ∧ Hid (Tri w w' p r q x y z) := (d11 _ _ _ _ _ _ V2 H7.out.1.2.am H7.out.2.am).mono fun e w' ⟨h1, h2⟩ => ⟨by rw [h1, H6.out.2.2], H7.out.1.1.below h2⟩
  clear hbV hcV H6
  go_wp2_with fail
  refine H11.mono ?_
  rintro e w8 ⟨rfl, H8⟩
  clear H11 m0 m1 m2 m3 H7 hU htb k0 k1 f0 f1 hV
  obtain ⟨m0, m1⟩ := box2 H8.out.1.1
  obtain ⟨m2, m3⟩ := box2 H8.out.2.1.1
  obtain ⟨m4, m5⟩ := box2 H8.out.2.2.1.1
  have H10 : Calls Tryd.prog 10 #[.slice (some ⟨w8.heap.size, 0, none⟩) 2 2] (w8.alloc (.cells #[.int .i64 x.W, .slice x.a x.n x.c, .int .i64 y.W, .slice y.a y.n y.c] 24)) fun e w' => ∃ (j : Int) (u : AD), e = .returned (.tuple #[.agg #[.int .i64 u.W, .slice u.a u.n u.c], .int .i64 j]) ∧ Hid (Tri w w' p r q x y z ∧ Sl w' u.a u.n u.c u.B ∧ SumIs [(x.W, x.B), (y.W, y.B)] j u.W u.B) := by
    have hA := amr_two w8 x.W y.W x.a y.a x.n x.c y.n y.c x.B y.B H8.out.1.2 H8.out.2.1.2
    refine (d10 _ 2 2 _ _ hA (by omega) (fun u hu => by simp at hu; rcases hu with rfl | rfl; exact HR.out.1; exact HR.out.2.1)).mono ?_
    rintro e w' ⟨code, W3, a3, n3, c3, B3, rfl, s1, s2, s3⟩
    exact ⟨code, ⟨W3, a3, n3, c3, B3⟩, rfl, (H8.out.below ((Below.refl _ w8).alloc (Nat.le_refl _) _)).below s2, s1, s3⟩
  go_wp2_with fail
  refine H10.mono ?_
  rintro e w9 ⟨j, u, rfl, H9⟩
  clear H10 m0 m1 m2 m3 m4 m5 H8
  obtain ⟨U9, hU⟩ : ∃ U, w9.alloc (.cells #[.int .i64 0, .slice none 0 0] 24) = U := ⟨_, rfl⟩
  obtain ⟨ub, hub⟩ : ∃ ub, w9.heap.size = ub := ⟨_, rfl⟩
  obtain ⟨⟨k0, k1, f0, f1⟩, hbV, hcV⟩ := stored24 (x := .int .i64 u.W) (y := .slice u.a u.n u.c) hU hub
  obtain ⟨V3, hV⟩ : ∃ V, (U9.setCell ⟨ub, 0, none⟩ (.int .i64 u.W)).setCell ⟨ub, 1, none⟩ (.slice u.a u.n u.c) = V := ⟨_, rfl⟩
  rw [hV] at hbV hcV
  have HQ : Hid (Tet w V3 p r q ub x y z u) := ⟨H9.out.1.below hbV, hcV, H9.out.2.1.below hbV⟩
  have HJ : Hid (SumIs [(x.W, x.B), (y.W, y.B)] j u.W u.B) := H9.out.2.2
  obtain ⟨P, Y, S, HP⟩ : ∃ (P Y : Int) (S : Bool), Hid (P = cmpA x.W x.B y.W y.B ∧ Y = cmpA y.W y.B x.W x.B ∧ S = sameB x.W x.B y.W y.B) := ⟨_, _, _, rfl, rfl, rfl⟩
  obtain ⟨Q, R, HX⟩ : ∃ (Q R : Int), Hid (Q = cmpA y.W y.B z.W z.B ∧ R = cmpA x.W x.B z.W z.B) := ⟨_, _, rfl, rfl⟩
  have HE : Hid (P ≤ 0 → Q ≤ 0 → R ≤ 0) := by
    obtain ⟨rfl, rfl, rfl⟩ := HP.out
    obtain ⟨rfl, rfl⟩ := HX.out
    exact fun h1 h2 => Int.not_lt.1 (cmp_row HR.out.1 HR.out.2.1 HR.out.2.2 h1 h2)
  have D12 : Hid (∀ V, Hid (Tri w V p r q x y z) → Calls Tryd.prog 12 #[.agg #[.int .i64 x.W, .slice x.a x.n x.c], .agg #[.int .i64 y.W, .slice y.a y.n y.c]] V fun e w' => e = .returned (.int .i64 P) ∧ Hid (Tri w w' p r q x y z)) := fun V hV => (d12 _ _ _ _ _ _ V hV.out.1.am hV.out.2.1.am HR.out.1 HR.out.2.1).mono fun e w' ⟨h1, h2⟩ => ⟨by rw [h1, HP.out.1], hV.out.below h2⟩
  have E12 : Hid (∀ V, Hid (Tri w V p r q x y z) → Calls Tryd.prog 12 #[.agg #[.int .i64 y.W, .slice y.a y.n y.c], .agg #[.int .i64 z.W, .slice z.a z.n z.c]] V fun e w' => e = .returned (.int .i64 Q) ∧ Hid (Tri w w' p r q x y z)) := fun V hV => (d12 _ _ _ _ _ _ V hV.out.2.1.am hV.out.2.2.1.am HR.out.2.1 HR.out.2.2).mono fun e w' ⟨h1, h2⟩ => ⟨by rw [h1, HX.out.1], hV.out.below h2⟩
  have F12 : Hid (∀ V, Hid (Tri w V p r q x y z) → Calls Tryd.prog 12 #[.agg #[.int .i64 x.W, .slice x.a x.n x.c], .agg #[.int .i64 z.W, .slice z.a z.n z.c]] V fun e w' => e = .returned (.int .i64 R) ∧ Hid (Tri w w' p r q x y z)) := fun V hV => (d12 _ _ _ _ _ _ V hV.out.1.am hV.out.2.2.1.am HR.out.1 HR.out.2.2).mono fun e w' ⟨h1, h2⟩ => ⟨by rw [h1, HX.out.2], hV.out.below h2⟩
  have G12 : Hid (∀ V, Tri w V p r q x y z → Calls Tryd.prog 12 #[.agg #[.int .i64 y.W, .slice y.a y.n y.c], .agg #[.int .i64 x.W, .slice x.a x.n x.c]] V fun e w' => e = .returned (.int .i64 Y) ∧ Hid (Tri w w' p r q x y z)) := fun V hV => (d12 _ _ _ _ _ _ V hV.2.1.am hV.1.am HR.out.2.1 HR.out.1).mono fun e w' ⟨h1, h2⟩ => ⟨by rw [h1, HP.out.2.1], hV.below h2⟩
  have C11 : Hid (∀ V, Tri w V p r q x y z → Calls Tryd.prog 11 #[.agg #[.int .i64 x.W, .slice x.a x.n x.c], .agg #[.int .i64 y.W, .slice y.a y.n y.c]] V fun e w' => e = .returned (.bool S) ∧ Hid (Tri w w' p r q x y z)) := fun V hV => (d11 _ _ _ _ _ _ V hV.1.am hV.2.1.am).mono fun e w' ⟨h1, h2⟩ => ⟨by rw [h1, HP.out.2.2], hV.below h2⟩
  have HC : Hid ((P = -1 ∧ Y = 1 ∧ S = false) ∨ (P = 0 ∧ Y = 0 ∧ S = true) ∨ (P = 1 ∧ Y = -1 ∧ S = false)) := by
    obtain ⟨rfl, rfl, rfl⟩ := HP.out
    exact cmp_pair HR.out.1 HR.out.2.1
  have HL : Hid (Tri w V3 p r q x y z) := HQ.out.1
  have HJ2 : Hid (j = 3 ∨ (j = 0 ∧ rightB u.W u.B = true ∧ ((cmpA u.W u.B x.W x.B = 0 ∧ zeroB y.W y.B.length = true) ∨ (cmpA u.W u.B x.W x.B = 1 ∧ zeroB y.W y.B.length = false)))) := by
    rcases HJ.out with ⟨rfl, h1, h2⟩ | ⟨rfl, _⟩
    · exact .inr ⟨rfl, sum_cmp (.inl ⟨rfl, h1, h2⟩) HR.out.1 HR.out.2.1⟩
    · exact .inl rfl
  clear hbV hcV H9 HP HX HJ
  obtain ⟨cv, zv, HV⟩ : ∃ (cv : Int) (zv : Bool), Hid (cv = cmpA u.W u.B x.W x.B ∧ zv = zeroB y.W y.B.length) := ⟨_, _, rfl, rfl⟩
  have K12 : Hid (rightB u.W u.B = true → ∀ V, Hid (Tet w V p r q ub x y z u) → Calls Tryd.prog 12 #[.agg #[.int .i64 u.W, .slice u.a u.n u.c], .agg #[.int .i64 x.W, .slice x.a x.n x.c]] V fun e w' => e = .returned (.int .i64 cv) ∧ Hid (Tet w w' p r q ub x y z u)) := fun hu V hV => (d12 _ _ _ _ _ _ V hV.out.2.am hV.out.1.1.am hu HR.out.1).mono fun e w' ⟨h1, h2⟩ => ⟨by rw [h1, HV.out.1], hV.out.below h2⟩
  have K8 : Hid (∀ V, Hid (Tet w V p r q ub x y z u) → Calls Tryd.prog 8 #[.agg #[.int .i64 y.W, .slice y.a y.n y.c]] V fun e w' => e = .returned (.bool zv) ∧ Hid (Tet w w' p r q ub x y z u)) := fun V hV => (d8 y.W y.a y.n y.c V).mono fun e w' ⟨h1, h2⟩ => ⟨by rw [h1, HV.out.2, hV.out.1.2.1.2.i.len], hV.out.below h2⟩
  have HTS : TetS w V3 p r q ub x y z u := tets HQ
  rcases HJ2.out with rfl | ⟨rfl, hu, hc⟩
  · clear HJ2 HV K12 K8
    go_wp2_with fail
    refine wp_region_noPanic ?_
    refine wp_region_held_drew (S := fun w' => TetS w w' p r q ub x y z u) (by kernel_rfl) (tets_drew HQ) (fun hHeld => ?_)
    first | (refine wpAnyH_take (i := 0) (v := ?_) (by simp only [List.getElem?_toArray, List.getElem?_cons_zero]; rfl) (by kernel_rfl) (by kernel_rfl) (by kernel_rfl) (fun _ _ _ h => h) (Or.inl ⟨by rfl, ?_⟩) (by assumption) ?_; rotate_left; (· (intro w hSw; (try dsimp only at hSw); go_simp <;> with_reducible rfl)); try simp only [Act.put, List.setIfInBounds_toArray, List.set_cons_zero, List.set_cons_succ]) | (refine wpAnyH_take (i := 0) (v := undef) (by simp only [List.getElem?_toArray, List.getElem?_cons_zero]; rfl) (by kernel_rfl) (by kernel_rfl) (by kernel_rfl) (fun _ _ _ h => h) (Or.inr ⟨by rfl, rfl⟩) (by assumption) ?_; try simp only [Act.put, List.setIfInBounds_toArray, List.set_cons_zero, List.set_cons_succ])
    first | (refine wpAnyH_take (i := 1) (v := ?_) (by simp only [List.getElem?_toArray, List.getElem?_cons_zero, List.getElem?_cons_succ]; rfl) (by kernel_rfl) (by kernel_rfl) (by kernel_rfl) (fun _ _ _ h => h) (Or.inl ⟨by rfl, ?_⟩) (by assumption) ?_; rotate_left; (· (intro w hSw; (try dsimp only at hSw); go_simp <;> with_reducible rfl)); try simp only [Act.put, List.setIfInBounds_toArray, List.set_cons_zero, List.set_cons_succ]) | (refine wpAnyH_take (i := 1) (v := undef) (by simp only [List.getElem?_toArray, List.getElem?_cons_zero, List.getElem?_cons_succ]; rfl) (by kernel_rfl) (by kernel_rfl) (by kernel_rfl) (fun _ _ _ h => h) (Or.inr ⟨by rfl, rfl⟩) (by assumption) ?_; try simp only [Act.put, List.setIfInBounds_toArray, List.set_cons_zero, List.set_cons_succ])
    first | (refine wpAnyH_take (i := 2) (v := ?_) (by simp only [List.getElem?_toArray, List.getElem?_cons_zero, List.getElem?_cons_succ]; rfl) (by kernel_rfl) (by kernel_rfl) (by kernel_rfl) (fun _ _ _ h => h) (Or.inl ⟨by rfl, ?_⟩) (by assumption) ?_; rotate_left; (· (intro w hSw; (try dsimp only at hSw); go_simp <;> with_reducible rfl)); try simp only [Act.put, List.setIfInBounds_toArray, List.set_cons_zero, List.set_cons_succ]) | (refine wpAnyH_take (i := 2) (v := undef) (by simp only [List.getElem?_toArray, List.getElem?_cons_zero, List.getElem?_cons_succ]; rfl) (by kernel_rfl) (by kernel_rfl) (by kernel_rfl) (fun _ _ _ h => h) (Or.inr ⟨by rfl, rfl⟩) (by assumption) ?_; try simp only [Act.put, List.setIfInBounds_toArray, List.set_cons_zero, List.set_cons_succ])
    first | (refine wpAnyH_take (i := 3) (v := ?_) (by simp only [List.getElem?_toArray, List.getElem?_cons_zero, List.getElem?_cons_succ]; rfl) (by kernel_rfl) (by kernel_rfl) (by kernel_rfl) (fun _ _ _ h => h) (Or.inl ⟨by rfl, ?_⟩) (by assumption) ?_; rotate_left; (· (intro w hSw; (try dsimp only at hSw); go_simp <;> with_reducible rfl)); try simp only [Act.put, List.setIfInBounds_toArray, List.set_cons_zero, List.set_cons_succ]) | (refine wpAnyH_take (i := 3) (v := undef) (by simp only [List.getElem?_toArray, List.getElem?_cons_zero, List.getElem?_cons_succ]; rfl) (by kernel_rfl) (by kernel_rfl) (by kernel_rfl) (fun _ _ _ h => h) (Or.inr ⟨by rfl, rfl⟩) (by assumption) ?_; try simp only [Act.put, List.setIfInBounds_toArray, List.set_cons_zero, List.set_cons_succ])
    first | (refine wpAnyH_take (i := 4) (v := ?_) (by simp only [List.getElem?_toArray, List.getElem?_cons_zero, List.getElem?_cons_succ]; rfl) (by kernel_rfl) (by kernel_rfl) (by kernel_rfl) (fun _ _ _ h => h) (Or.inl ⟨by rfl, ?_⟩) (by assumption) ?_; rotate_left; (· (intro w hSw; (try dsimp only at hSw); go_simp <;> with_reducible rfl)); try simp only [Act.put, List.setIfInBounds_toArray, List.set_cons_zero, List.set_cons_succ]) | (refine wpAnyH_take (i := 4) (v := undef) (by simp only [List.getElem?_toArray, List.getElem?_cons_zero, List.getElem?_cons_succ]; rfl) (by kernel_rfl) (by kernel_rfl) (by kernel_rfl) (fun _ _ _ h => h) (Or.inr ⟨by rfl, rfl⟩) (by assumption) ?_; try simp only [Act.put, List.setIfInBounds_toArray, List.set_cons_zero, List.set_cons_succ])
    first | (refine wpAnyH_take (i := 5) (v := ?_) (by simp only [List.getElem?_toArray, List.getElem?_cons_zero, List.getElem?_cons_succ]; rfl) (by kernel_rfl) (by kernel_rfl) (by kernel_rfl) (fun _ _ _ h => h) (Or.inl ⟨by rfl, ?_⟩) (by assumption) ?_; rotate_left; (· (intro w hSw; (try dsimp only at hSw); go_simp <;> with_reducible rfl)); try simp only [Act.put, List.setIfInBounds_toArray, List.set_cons_zero, List.set_cons_succ]) | (refine wpAnyH_take (i := 5) (v := undef) (by simp only [List.getElem?_toArray, List.getElem?_cons_zero, List.getElem?_cons_succ]; rfl) (by kernel_rfl) (by kernel_rfl) (by kernel_rfl) (fun _ _ _ h => h) (Or.inr ⟨by rfl, rfl⟩) (by assumption) ?_; try simp only [Act.put, List.setIfInBounds_toArray, List.set_cons_zero, List.set_cons_succ])
    first | (refine wpAnyH_take (i := 6) (v := ?_) (by simp only [List.getElem?_toArray, List.getElem?_cons_zero, List.getElem?_cons_succ]; rfl) (by kernel_rfl) (by kernel_rfl) (by kernel_rfl) (fun _ _ _ h => h) (Or.inl ⟨by rfl, ?_⟩) (by assumption) ?_; rotate_left; (· (intro w hSw; (try dsimp only at hSw); go_simp <;> with_reducible rfl)); try simp only [Act.put, List.setIfInBounds_toArray, List.set_cons_zero, List.set_cons_succ]) | (refine wpAnyH_take (i := 6) (v := undef) (by simp only [List.getElem?_toArray, List.getElem?_cons_zero, List.getElem?_cons_succ]; rfl) (by kernel_rfl) (by kernel_rfl) (by kernel_rfl) (fun _ _ _ h => h) (Or.inr ⟨by rfl, rfl⟩) (by assumption) ?_; try simp only [Act.put, List.setIfInBounds_toArray, List.set_cons_zero, List.set_cons_succ])
    first | (refine wpAnyH_take (i := 7) (v := ?_) (by simp only [List.getElem?_toArray, List.getElem?_cons_zero, List.getElem?_cons_succ]; rfl) (by kernel_rfl) (by kernel_rfl) (by kernel_rfl) (fun _ _ _ h => h) (Or.inl ⟨by rfl, ?_⟩) (by assumption) ?_; rotate_left; (· (intro w hSw; (try dsimp only at hSw); go_simp <;> with_reducible rfl)); try simp only [Act.put, List.setIfInBounds_toArray, List.set_cons_zero, List.set_cons_succ]) | (refine wpAnyH_take (i := 7) (v := undef) (by simp only [List.getElem?_toArray, List.getElem?_cons_zero, List.getElem?_cons_succ]; rfl) (by kernel_rfl) (by kernel_rfl) (by kernel_rfl) (fun _ _ _ h => h) (Or.inr ⟨by rfl, rfl⟩) (by assumption) ?_; try simp only [Act.put, List.setIfInBounds_toArray, List.set_cons_zero, List.set_cons_succ])
    first | (refine wpAnyH_take (i := 8) (v := ?_) (by simp only [List.getElem?_toArray, List.getElem?_cons_zero, List.getElem?_cons_succ]; rfl) (by kernel_rfl) (by kernel_rfl) (by kernel_rfl) (fun _ _ _ h => h) (Or.inl ⟨by rfl, ?_⟩) (by assumption) ?_; rotate_left; (· (intro w hSw; (try dsimp only at hSw); go_simp <;> with_reducible rfl)); try simp only [Act.put, List.setIfInBounds_toArray, List.set_cons_zero, List.set_cons_succ]) | (refine wpAnyH_take (i := 8) (v := undef) (by simp only [List.getElem?_toArray, List.getElem?_cons_zero, List.getElem?_cons_succ]; rfl) (by kernel_rfl) (by kernel_rfl) (by kernel_rfl) (fun _ _ _ h => h) (Or.inr ⟨by rfl, rfl⟩) (by assumption) ?_; try simp only [Act.put, List.setIfInBounds_toArray, List.set_cons_zero, List.set_cons_succ])
    first | (refine wpAnyH_take (i := 9) (v := ?_) (by simp only [List.getElem?_toArray, List.getElem?_cons_zero, List.getElem?_cons_succ]; rfl) (by kernel_rfl) (by kernel_rfl) (by kernel_rfl) (fun _ _ _ h => h) (Or.inl ⟨by rfl, ?_⟩) (by assumption) ?_; rotate_left; (· (intro w hSw; (try dsimp only at hSw); go_simp <;> with_reducible rfl)); try simp only [Act.put, List.setIfInBounds_toArray, List.set_cons_zero, List.set_cons_succ]) | (refine wpAnyH_take (i := 9) (v := undef) (by simp only [List.getElem?_toArray, List.getElem?_cons_zero, List.getElem?_cons_succ]; rfl) (by kernel_rfl) (by kernel_rfl) (by kernel_rfl) (fun _ _ _ h => h) (Or.inr ⟨by rfl, rfl⟩) (by assumption) ?_; try simp only [Act.put, List.setIfInBounds_toArray, List.set_cons_zero, List.set_cons_succ])
    first | (refine wpAnyH_take (i := 10) (v := ?_) (by simp only [List.getElem?_toArray, List.getElem?_cons_zero, List.getElem?_cons_succ]; rfl) (by kernel_rfl) (by kernel_rfl) (by kernel_rfl) (fun _ _ _ h => h) (Or.inl ⟨by rfl, ?_⟩) (by assumption) ?_; rotate_left; (· (intro w hSw; (try dsimp only at hSw); go_simp <;> with_reducible rfl)); try simp only [Act.put, List.setIfInBounds_toArray, List.set_cons_zero, List.set_cons_succ]) | (refine wpAnyH_take (i := 10) (v := undef) (by simp only [List.getElem?_toArray, List.getElem?_cons_zero, List.getElem?_cons_succ]; rfl) (by kernel_rfl) (by kernel_rfl) (by kernel_rfl) (fun _ _ _ h => h) (Or.inr ⟨by rfl, rfl⟩) (by assumption) ?_; try simp only [Act.put, List.setIfInBounds_toArray, List.set_cons_zero, List.set_cons_succ])
    first | (refine wpAnyH_take (i := 11) (v := ?_) (by simp only [List.getElem?_toArray, List.getElem?_cons_zero, List.getElem?_cons_succ]; rfl) (by kernel_rfl) (by kernel_rfl) (by kernel_rfl) (fun _ _ _ h => h) (Or.inl ⟨by rfl, ?_⟩) (by assumption) ?_; rotate_left; (· (intro w hSw; (try dsimp only at hSw); go_simp <;> with_reducible rfl)); try simp only [Act.put, List.setIfInBounds_toArray, List.set_cons_zero, List.set_cons_succ]) | (refine wpAnyH_take (i := 11) (v := undef) (by simp only [List.getElem?_toArray, List.getElem?_cons_zero, List.getElem?_cons_succ]; rfl) (by kernel_rfl) (by kernel_rfl) (by kernel_rfl) (fun _ _ _ h => h) (Or.inr ⟨by rfl, rfl⟩) (by assumption) ?_; try simp only [Act.put, List.setIfInBounds_toArray, List.set_cons_zero, List.set_cons_succ])
    first | (refine wpAnyH_take (i := 12) (v := ?_) (by simp only [List.getElem?_toArray, List.getElem?_cons_zero, List.getElem?_cons_succ]; rfl) (by kernel_rfl) (by kernel_rfl) (by kernel_rfl) (fun _ _ _ h => h) (Or.inl ⟨by rfl, ?_⟩) (by assumption) ?_; rotate_left; (· (intro w hSw; (try dsimp only at hSw); go_simp <;> with_reducible rfl)); try simp only [Act.put, List.setIfInBounds_toArray, List.set_cons_zero, List.set_cons_succ]) | (refine wpAnyH_take (i := 12) (v := undef) (by simp only [List.getElem?_toArray, List.getElem?_cons_zero, List.getElem?_cons_succ]; rfl) (by kernel_rfl) (by kernel_rfl) (by kernel_rfl) (fun _ _ _ h => h) (Or.inr ⟨by rfl, rfl⟩) (by assumption) ?_; try simp only [Act.put, List.setIfInBounds_toArray, List.set_cons_zero, List.set_cons_succ])
    first | (refine wpAnyH_take (i := 13) (v := ?_) (by simp only [List.getElem?_toArray, List.getElem?_cons_zero, List.getElem?_cons_succ]; rfl) (by kernel_rfl) (by kernel_rfl) (by kernel_rfl) (fun _ _ _ h => h) (Or.inl ⟨by rfl, ?_⟩) (by assumption) ?_; rotate_left; (· (intro w hSw; (try dsimp only at hSw); go_simp <;> with_reducible rfl)); try simp only [Act.put, List.setIfInBounds_toArray, List.set_cons_zero, List.set_cons_succ]) | (refine wpAnyH_take (i := 13) (v := undef) (by simp only [List.getElem?_toArray, List.getElem?_cons_zero, List.getElem?_cons_succ]; rfl) (by kernel_rfl) (by kernel_rfl) (by kernel_rfl) (fun _ _ _ h => h) (Or.inr ⟨by rfl, rfl⟩) (by assumption) ?_; try simp only [Act.put, List.setIfInBounds_toArray, List.set_cons_zero, List.set_cons_succ])
    first | (refine wpAnyH_take (i := 14) (v := ?_) (by simp only [List.getElem?_toArray, List.getElem?_cons_zero, List.getElem?_cons_succ]; rfl) (by kernel_rfl) (by kernel_rfl) (by kernel_rfl) (fun _ _ _ h => h) (Or.inl ⟨by rfl, ?_⟩) (by assumption) ?_; rotate_left; (· (intro w hSw; (try dsimp only at hSw); go_simp <;> with_reducible rfl)); try simp only [Act.put, List.setIfInBounds_toArray, List.set_cons_zero, List.set_cons_succ]) | (refine wpAnyH_take (i := 14) (v := undef) (by simp only [List.getElem?_toArray, List.getElem?_cons_zero, List.getElem?_cons_succ]; rfl) (by kernel_rfl) (by kernel_rfl) (by kernel_rfl) (fun _ _ _ h => h) (Or.inr ⟨by rfl, rfl⟩) (by assumption) ?_; try simp only [Act.put, List.setIfInBounds_toArray, List.set_cons_zero, List.set_cons_succ])
    first | (refine wpAnyH_take (i := 15) (v := ?_) (by simp only [List.getElem?_toArray, List.getElem?_cons_zero, List.getElem?_cons_succ]; rfl) (by kernel_rfl) (by kernel_rfl) (by kernel_rfl) (fun _ _ _ h => h) (Or.inl ⟨by rfl, ?_⟩) (by assumption) ?_; rotate_left; (· (intro w hSw; (try dsimp only at hSw); go_simp <;> with_reducible rfl)); try simp only [Act.put, List.setIfInBounds_toArray, List.set_cons_zero, List.set_cons_succ]) | (refine wpAnyH_take (i := 15) (v := undef) (by simp only [List.getElem?_toArray, List.getElem?_cons_zero, List.getElem?_cons_succ]; rfl) (by kernel_rfl) (by kernel_rfl) (by kernel_rfl) (fun _ _ _ h => h) (Or.inr ⟨by rfl, rfl⟩) (by assumption) ?_; try simp only [Act.put, List.setIfInBounds_toArray, List.set_cons_zero, List.set_cons_succ])
    first | (refine wpAnyH_take (i := 16) (v := ?_) (by simp only [List.getElem?_toArray, List.getElem?_cons_zero, List.getElem?_cons_succ]; rfl) (by kernel_rfl) (by kernel_rfl) (by kernel_rfl) (fun _ _ _ h => h) (Or.inl ⟨by rfl, ?_⟩) (by assumption) ?_; rotate_left; (· (intro w hSw; (try dsimp only at hSw); go_simp <;> with_reducible rfl)); try simp only [Act.put, List.setIfInBounds_toArray, List.set_cons_zero, List.set_cons_succ]) | (refine wpAnyH_take (i := 16) (v := undef) (by simp only [List.getElem?_toArray, List.getElem?_cons_zero, List.getElem?_cons_succ]; rfl) (by kernel_rfl) (by kernel_rfl) (by kernel_rfl) (fun _ _ _ h => h) (Or.inr ⟨by rfl, rfl⟩) (by assumption) ?_; try simp only [Act.put, List.setIfInBounds_toArray, List.set_cons_zero, List.set_cons_succ])
    refine wpAnyH_done (by kernel_rfl) ?_ _
    refine NoPanic.normal ?_
    have HD : Hid (Tri w V3.drew p r q x y z) := (tets_get (by assumption : TetS w V3.drew p r q ub x y z u)).out.1
    clear hHeld HTS HQ
    go_wp2_with fail
    refine wp_region_noPanic ?_
    refine wp_region_held_drew (S := fun w' => TriS w w' p r q x y z) (by kernel_rfl) (tris_drew HD) (fun hHeld => ?_)
    first | (refine wpAnyH_take (i := 0) (v := ?_) (by simp only [List.getElem?_toArray, List.getElem?_cons_zero]; rfl) (by kernel_rfl) (by kernel_rfl) (by kernel_rfl) (fun _ _ _ h => h) (Or.inl ⟨by rfl, ?_⟩) (by assumption) ?_; rotate_left; (· (intro w hSw; (try dsimp only at hSw); go_simp <;> with_reducible rfl)); try simp only [Act.put, List.setIfInBounds_toArray, List.set_cons_zero, List.set_cons_succ]) | (refine wpAnyH_take (i := 0) (v := undef) (by simp only [List.getElem?_toArray, List.getElem?_cons_zero]; rfl) (by kernel_rfl) (by kernel_rfl) (by kernel_rfl) (fun _ _ _ h => h) (Or.inr ⟨by rfl, rfl⟩) (by assumption) ?_; try simp only [Act.put, List.setIfInBounds_toArray, List.set_cons_zero, List.set_cons_succ])
    first | (refine wpAnyH_take (i := 1) (v := ?_) (by simp only [List.getElem?_toArray, List.getElem?_cons_zero, List.getElem?_cons_succ]; rfl) (by kernel_rfl) (by kernel_rfl) (by kernel_rfl) (fun _ _ _ h => h) (Or.inl ⟨by rfl, ?_⟩) (by assumption) ?_; rotate_left; (· (intro w hSw; (try dsimp only at hSw); go_simp <;> with_reducible rfl)); try simp only [Act.put, List.setIfInBounds_toArray, List.set_cons_zero, List.set_cons_succ]) | (refine wpAnyH_take (i := 1) (v := undef) (by simp only [List.getElem?_toArray, List.getElem?_cons_zero, List.getElem?_cons_succ]; rfl) (by kernel_rfl) (by kernel_rfl) (by kernel_rfl) (fun _ _ _ h => h) (Or.inr ⟨by rfl, rfl⟩) (by assumption) ?_; try simp only [Act.put, List.setIfInBounds_toArray, List.set_cons_zero, List.set_cons_succ])
    first | (refine wpAnyH_take (i := 3) (v := ?_) (by simp only [List.getElem?_toArray, List.getElem?_cons_zero, List.getElem?_cons_succ]; rfl) (by kernel_rfl) (by kernel_rfl) (by kernel_rfl) (fun _ _ _ h => h) (Or.inl ⟨by rfl, ?_⟩) (by assumption) ?_; rotate_left; (· (intro w hSw; (try dsimp only at hSw); go_simp <;> with_reducible rfl)); try simp only [Act.put, List.setIfInBounds_toArray, List.set_cons_zero, List.set_cons_succ]) | (refine wpAnyH_take (i := 3) (v := undef) (by simp only [List.getElem?_toArray, List.getElem?_cons_zero, List.getElem?_cons_succ]; rfl) (by kernel_rfl) (by kernel_rfl) (by kernel_rfl) (fun _ _ _ h => h) (Or.inr ⟨by rfl, rfl⟩) (by assumption) ?_; try simp only [Act.put, List.setIfInBounds_toArray, List.set_cons_zero, List.set_cons_succ])
    first | (refine wpAnyH_take (i := 4) (v := ?_) (by simp only [List.getElem?_toArray, List.getElem?_cons_zero, List.getElem?_cons_succ]; rfl) (by kernel_rfl) (by kernel_rfl) (by kernel_rfl) (fun _ _ _ h => h) (Or.inl ⟨by rfl, ?_⟩) (by assumption) ?_; rotate_left; (· (intro w hSw; (try dsimp only at hSw); go_simp <;> with_reducible rfl)); try simp only [Act.put, List.setIfInBounds_toArray, List.set_cons_zero, List.set_cons_succ]) | (refine wpAnyH_take (i := 4) (v := undef) (by simp only [List.getElem?_toArray, List.getElem?_cons_zero, List.getElem?_cons_succ]; rfl) (by kernel_rfl) (by kernel_rfl) (by kernel_rfl) (fun _ _ _ h => h) (Or.inr ⟨by rfl, rfl⟩) (by assumption) ?_; try simp only [Act.put, List.setIfInBounds_toArray, List.set_cons_zero, List.set_cons_succ])
    first | (refine wpAnyH_take (i := 6) (v := ?_) (by simp only [List.getElem?_toArray, List.getElem?_cons_zero, List.getElem?_cons_succ]; rfl) (by kernel_rfl) (by kernel_rfl) (by kernel_rfl) (fun _ _ _ h => h) (Or.inl ⟨by rfl, ?_⟩) (by assumption) ?_; rotate_left; (· (intro w hSw; (try dsimp only at hSw); go_simp <;> with_reducible rfl)); try simp only [Act.put, List.setIfInBounds_toArray, List.set_cons_zero, List.set_cons_succ]) | (refine wpAnyH_take (i := 6) (v := undef) (by simp only [List.getElem?_toArray, List.getElem?_cons_zero, List.getElem?_cons_succ]; rfl) (by kernel_rfl) (by kernel_rfl) (by kernel_rfl) (fun _ _ _ h => h) (Or.inr ⟨by rfl, rfl⟩) (by assumption) ?_; try simp only [Act.put, List.setIfInBounds_toArray, List.set_cons_zero, List.set_cons_succ])
    first | (refine wpAnyH_take (i := 7) (v := ?_) (by simp only [List.getElem?_toArray, List.getElem?_cons_zero, List.getElem?_cons_succ]; rfl) (by kernel_rfl) (by kernel_rfl) (by kernel_rfl) (fun _ _ _ h => h) (Or.inl ⟨by rfl, ?_⟩) (by assumption) ?_; rotate_left; (· (intro w hSw; (try dsimp only at hSw); go_simp <;> with_reducible rfl)); try simp only [Act.put, List.setIfInBounds_toArray, List.set_cons_zero, List.set_cons_succ]) | (refine wpAnyH_take (i := 7) (v := undef) (by simp only [List.getElem?_toArray, List.getElem?_cons_zero, List.getElem?_cons_succ]; rfl) (by kernel_rfl) (by kernel_rfl) (by kernel_rfl) (fun _ _ _ h => h) (Or.inr ⟨by rfl, rfl⟩) (by assumption) ?_; try simp only [Act.put, List.setIfInBounds_toArray, List.set_cons_zero, List.set_cons_succ])
    refine wpAnyH_ready (rs := [2]) (by kernel_rfl) (by simp) ?_
    refine AllReadyH.cons (by simp only [List.getElem?_toArray, List.getElem?_cons_zero, List.getElem?_cons_succ]; rfl) (fun K hK => ?_) AllReadyH.nil
    go_simp
    go_at_call 12
    refine (D12.out _ (tris_get (by assumption))).mono ?_
    rintro e wd ⟨rfl, Hd⟩
    refine hK.out _ _ ?_ (fun hHeld => ?_)
    · exact tris Hd
    clear hK K
    try simp only [Act.put, List.setIfInBounds_toArray, List.set_cons_zero, List.set_cons_succ]
    refine wpAnyH_ready (rs := [5]) (by kernel_rfl) (by simp) ?_
    refine AllReadyH.cons (by simp only [List.getElem?_toArray, List.getElem?_cons_zero, List.getElem?_cons_succ]; rfl) (fun K hK => ?_) AllReadyH.nil
    go_simp
    go_at_call 12
    refine (E12.out _ (tris_get (by assumption))).mono ?_
    rintro e we ⟨rfl, He⟩
    refine hK.out _ _ ?_ (fun hHeld => ?_)
    · exact tris He
    clear hK K
    try simp only [Act.put, List.setIfInBounds_toArray, List.set_cons_zero, List.set_cons_succ]
    refine wpAnyH_ready (rs := [8]) (by kernel_rfl) (by simp) ?_
    refine AllReadyH.cons (by simp only [List.getElem?_toArray, List.getElem?_cons_zero, List.getElem?_cons_succ]; rfl) (fun K hK => ?_) AllReadyH.nil
    go_simp
    go_at_call 12
    refine (F12.out _ (tris_get (by assumption))).mono ?_
    rintro e wf ⟨rfl, Hf⟩
    refine hK.out _ _ ?_ (fun hHeld => ?_)
    · exact tris Hf
    clear hK K
    try simp only [Act.put, List.setIfInBounds_toArray, List.set_cons_zero, List.set_cons_succ]
    first | (refine wpAnyH_take (i := 9) (v := ?_) (by simp only [List.getElem?_toArray, List.getElem?_cons_zero, List.getElem?_cons_succ]; rfl) (by kernel_rfl) (by kernel_rfl) (by kernel_rfl) (fun _ _ _ h => h) (Or.inl ⟨by rfl, ?_⟩) (by assumption) ?_; rotate_left; (· (intro w hSw; (try dsimp only at hSw); go_simp <;> with_reducible rfl)); try simp only [Act.put, List.setIfInBounds_toArray, List.set_cons_zero, List.set_cons_succ]) | (refine wpAnyH_take (i := 9) (v := undef) (by simp only [List.getElem?_toArray, List.getElem?_cons_zero, List.getElem?_cons_succ]; rfl) (by kernel_rfl) (by kernel_rfl) (by kernel_rfl) (fun _ _ _ h => h) (Or.inr ⟨by rfl, rfl⟩) (by assumption) ?_; try simp only [Act.put, List.setIfInBounds_toArray, List.set_cons_zero, List.set_cons_succ])
    first | (refine wpAnyH_take (i := 10) (v := ?_) (by simp only [List.getElem?_toArray, List.getElem?_cons_zero, List.getElem?_cons_succ]; rfl) (by kernel_rfl) (by kernel_rfl) (by kernel_rfl) (fun _ _ _ h => h) (Or.inl ⟨by rfl, ?_⟩) (by assumption) ?_; rotate_left; (· (intro w hSw; (try dsimp only at hSw); go_simp <;> with_reducible rfl)); try simp only [Act.put, List.setIfInBounds_toArray, List.set_cons_zero, List.set_cons_succ]) | (refine wpAnyH_take (i := 10) (v := undef) (by simp only [List.getElem?_toArray, List.getElem?_cons_zero, List.getElem?_cons_succ]; rfl) (by kernel_rfl) (by kernel_rfl) (by kernel_rfl) (fun _ _ _ h => h) (Or.inr ⟨by rfl, rfl⟩) (by assumption) ?_; try simp only [Act.put, List.setIfInBounds_toArray, List.set_cons_zero, List.set_cons_succ])
    first | (refine wpAnyH_take (i := 11) (v := ?_) (by simp only [List.getElem?_toArray, List.getElem?_cons_zero, List.getElem?_cons_succ]; rfl) (by kernel_rfl) (by kernel_rfl) (by kernel_rfl) (fun _ _ _ h => h) (Or.inl ⟨by rfl, ?_⟩) (by assumption) ?_; rotate_left; (· (intro w hSw; (try dsimp only at hSw); go_simp <;> with_reducible rfl)); try simp only [Act.put, List.setIfInBounds_toArray, List.set_cons_zero, List.set_cons_succ]) | (refine wpAnyH_take (i := 11) (v := undef) (by simp only [List.getElem?_toArray, List.getElem?_cons_zero, List.getElem?_cons_succ]; rfl) (by kernel_rfl) (by kernel_rfl) (by kernel_rfl) (fun _ _ _ h => h) (Or.inr ⟨by rfl, rfl⟩) (by assumption) ?_; try simp only [Act.put, List.setIfInBounds_toArray, List.set_cons_zero, List.set_cons_succ])
    refine wpAnyH_done (by kernel_rfl) ?_ _
    refine NoPanic.normal ?_
    clear hHeld Hd He HD
    have HF : Hid (Tri w wf p r q x y z) := Hf
    clear Hf D12 E12 F12
    rcases HC.out with ⟨rfl, rfl, rfl⟩ | ⟨rfl, rfl, rfl⟩ | ⟨rfl, rfl, rfl⟩
    all_goals (
      clear HC
      go_wp2_with fail
      refine (C7.out _ HF.out).mono ?_
      rintro e wg ⟨rfl, Hg⟩
      clear HF
      obtain ⟨m0, m1⟩ := box2 Hg.out.1.1
      obtain ⟨m2, m3⟩ := box2 Hg.out.2.1.1
      go_wp2_with fail
      refine (G12.out _ Hg.out).mono ?_
      rintro e wh ⟨rfl, Hh⟩
      clear m0 m1 m2 m3 Hg
      obtain ⟨m0, m1⟩ := box2 Hh.out.1.1
      obtain ⟨m2, m3⟩ := box2 Hh.out.2.1.1
      go_wp2_with fail
      refine (C11.out _ Hh.out).mono ?_
      rintro e wi ⟨rfl, Hi⟩
      clear m0 m1 m2 m3 Hh
      first
      | (go_wp2_with fail; go_ret; exact ⟨rfl, Hi.out.2.2.2⟩)
      | (by_cases hQ : Q ≤ 0
         · have hR : R ≤ 0 := HE.out (by decide) hQ
           go_wp2_with fail
           go_ret
           refine ⟨?_, Hi.out.2.2.2⟩
           show Ending.returned (Value.bool (!decide (0 < R))) = _
           rw [decide_eq_false (by omega)]
           rfl
         · go_wp2_with fail
           go_ret
           exact ⟨rfl, Hi.out.2.2.2⟩))
  · have KQ : Hid (∀ V, Hid (Tet w V p r q ub x y z u) → Calls Tryd.prog 12 #[.agg #[.int .i64 u.W, .slice u.a u.n u.c], .agg #[.int .i64 x.W, .slice x.a x.n x.c]] V fun e w' => e = .returned (.int .i64 cv) ∧ Hid (Tet w w' p r q ub x y z u)) := K12.out hu
    have hcz : (cv = 0 ∧ zv = true) ∨ (cv = 1 ∧ zv = false) := by rw [HV.out.1, HV.out.2]; exact hc
    clear HJ2 HV K12 hu hc
    rcases hcz with ⟨rfl, rfl⟩ | ⟨rfl, rfl⟩
    all_goals (
      go_wp2_with fail
      refine wp_region_noPanic ?_
      refine wp_region_held_drew (S := fun w' => TetS w w' p r q ub x y z u) (by kernel_rfl) (tets_drew HQ) (fun hHeld => ?_)
      first | (refine wpAnyH_take (i := 0) (v := ?_) (by simp only [List.getElem?_toArray, List.getElem?_cons_zero]; rfl) (by kernel_rfl) (by kernel_rfl) (by kernel_rfl) (fun _ _ _ h => h) (Or.inl ⟨by rfl, ?_⟩) (by assumption) ?_; rotate_left; (· (intro w hSw; (try dsimp only at hSw); go_simp <;> with_reducible rfl)); try simp only [Act.put, List.setIfInBounds_toArray, List.set_cons_zero, List.set_cons_succ]) | (refine wpAnyH_take (i := 0) (v := undef) (by simp only [List.getElem?_toArray, List.getElem?_cons_zero]; rfl) (by kernel_rfl) (by kernel_rfl) (by kernel_rfl) (fun _ _ _ h => h) (Or.inr ⟨by rfl, rfl⟩) (by assumption) ?_; try simp only [Act.put, List.setIfInBounds_toArray, List.set_cons_zero, List.set_cons_succ])
      first | (refine wpAnyH_take (i := 1) (v := ?_) (by simp only [List.getElem?_toArray, List.getElem?_cons_zero, List.getElem?_cons_succ]; rfl) (by kernel_rfl) (by kernel_rfl) (by kernel_rfl) (fun _ _ _ h => h) (Or.inl ⟨by rfl, ?_⟩) (by assumption) ?_; rotate_left; (· (intro w hSw; (try dsimp only at hSw); go_simp <;> with_reducible rfl)); try simp only [Act.put, List.setIfInBounds_toArray, List.set_cons_zero, List.set_cons_succ]) | (refine wpAnyH_take (i := 1) (v := undef) (by simp only [List.getElem?_toArray, List.getElem?_cons_zero, List.getElem?_cons_succ]; rfl) (by kernel_rfl) (by kernel_rfl) (by kernel_rfl) (fun _ _ _ h => h) (Or.inr ⟨by rfl, rfl⟩) (by assumption) ?_; try simp only [Act.put, List.setIfInBounds_toArray, List.set_cons_zero, List.set_cons_succ])
      first | (refine wpAnyH_take (i := 2) (v := ?_) (by simp only [List.getElem?_toArray, List.getElem?_cons_zero, List.getElem?_cons_succ]; rfl) (by kernel_rfl) (by kernel_rfl) (by kernel_rfl) (fun _ _ _ h => h) (Or.inl ⟨by rfl, ?_⟩) (by assumption) ?_; rotate_left; (· (intro w hSw; (try dsimp only at hSw); go_simp <;> with_reducible rfl)); try simp only [Act.put, List.setIfInBounds_toArray, List.set_cons_zero, List.set_cons_succ]) | (refine wpAnyH_take (i := 2) (v := undef) (by simp only [List.getElem?_toArray, List.getElem?_cons_zero, List.getElem?_cons_succ]; rfl) (by kernel_rfl) (by kernel_rfl) (by kernel_rfl) (fun _ _ _ h => h) (Or.inr ⟨by rfl, rfl⟩) (by assumption) ?_; try simp only [Act.put, List.setIfInBounds_toArray, List.set_cons_zero, List.set_cons_succ])
      first | (refine wpAnyH_take (i := 3) (v := ?_) (by simp only [List.getElem?_toArray, List.getElem?_cons_zero, List.getElem?_cons_succ]; rfl) (by kernel_rfl) (by kernel_rfl) (by kernel_rfl) (fun _ _ _ h => h) (Or.inl ⟨by rfl, ?_⟩) (by assumption) ?_; rotate_left; (· (intro w hSw; (try dsimp only at hSw); go_simp <;> with_reducible rfl)); try simp only [Act.put, List.setIfInBounds_toArray, List.set_cons_zero, List.set_cons_succ]) | (refine wpAnyH_take (i := 3) (v := undef) (by simp only [List.getElem?_toArray, List.getElem?_cons_zero, List.getElem?_cons_succ]; rfl) (by kernel_rfl) (by kernel_rfl) (by kernel_rfl) (fun _ _ _ h => h) (Or.inr ⟨by rfl, rfl⟩) (by assumption) ?_; try simp only [Act.put, List.setIfInBounds_toArray, List.set_cons_zero, List.set_cons_succ])
      first | (refine wpAnyH_take (i := 4) (v := ?_) (by simp only [List.getElem?_toArray, List.getElem?_cons_zero, List.getElem?_cons_succ]; rfl) (by kernel_rfl) (by kernel_rfl) (by kernel_rfl) (fun _ _ _ h => h) (Or.inl ⟨by rfl, ?_⟩) (by assumption) ?_; rotate_left; (· (intro w hSw; (try dsimp only at hSw); go_simp <;> with_reducible rfl)); try simp only [Act.put, List.setIfInBounds_toArray, List.set_cons_zero, List.set_cons_succ]) | (refine wpAnyH_take (i := 4) (v := undef) (by simp only [List.getElem?_toArray, List.getElem?_cons_zero, List.getElem?_cons_succ]; rfl) (by kernel_rfl) (by kernel_rfl) (by kernel_rfl) (fun _ _ _ h => h) (Or.inr ⟨by rfl, rfl⟩) (by assumption) ?_; try simp only [Act.put, List.setIfInBounds_toArray, List.set_cons_zero, List.set_cons_succ])
      refine wpAnyH_ready (rs := [5]) (by kernel_rfl) (by simp) ?_
      refine AllReadyH.cons (by simp only [List.getElem?_toArray, List.getElem?_cons_zero, List.getElem?_cons_succ]; rfl) (fun K hK => ?_) AllReadyH.nil
      go_simp
      go_at_call 12
      refine (KQ.out _ (tets_get (by assumption))).mono ?_
      rintro e wa ⟨rfl, Ha⟩
      refine hK.out _ _ ?_ (fun hHeld => ?_)
      · exact tets Ha
      clear hK K
      try simp only [Act.put, List.setIfInBounds_toArray, List.set_cons_zero, List.set_cons_succ]
      first | (refine wpAnyH_take (i := 6) (v := ?_) (by simp only [List.getElem?_toArray, List.getElem?_cons_zero, List.getElem?_cons_succ]; rfl) (by kernel_rfl) (by kernel_rfl) (by kernel_rfl) (fun _ _ _ h => h) (Or.inl ⟨by rfl, ?_⟩) (by assumption) ?_; rotate_left; (· (intro w hSw; (try dsimp only at hSw); go_simp <;> with_reducible rfl)); try simp only [Act.put, List.setIfInBounds_toArray, List.set_cons_zero, List.set_cons_succ]) | (refine wpAnyH_take (i := 6) (v := undef) (by simp only [List.getElem?_toArray, List.getElem?_cons_zero, List.getElem?_cons_succ]; rfl) (by kernel_rfl) (by kernel_rfl) (by kernel_rfl) (fun _ _ _ h => h) (Or.inr ⟨by rfl, rfl⟩) (by assumption) ?_; try simp only [Act.put, List.setIfInBounds_toArray, List.set_cons_zero, List.set_cons_succ])
      first | (refine wpAnyH_take (i := 7) (v := ?_) (by simp only [List.getElem?_toArray, List.getElem?_cons_zero, List.getElem?_cons_succ]; rfl) (by kernel_rfl) (by kernel_rfl) (by kernel_rfl) (fun _ _ _ h => h) (Or.inl ⟨by rfl, ?_⟩) (by assumption) ?_; rotate_left; (· (intro w hSw; (try dsimp only at hSw); go_simp <;> with_reducible rfl)); try simp only [Act.put, List.setIfInBounds_toArray, List.set_cons_zero, List.set_cons_succ]) | (refine wpAnyH_take (i := 7) (v := undef) (by simp only [List.getElem?_toArray, List.getElem?_cons_zero, List.getElem?_cons_succ]; rfl) (by kernel_rfl) (by kernel_rfl) (by kernel_rfl) (fun _ _ _ h => h) (Or.inr ⟨by rfl, rfl⟩) (by assumption) ?_; try simp only [Act.put, List.setIfInBounds_toArray, List.set_cons_zero, List.set_cons_succ])
      first | (refine wpAnyH_take (i := 8) (v := ?_) (by simp only [List.getElem?_toArray, List.getElem?_cons_zero, List.getElem?_cons_succ]; rfl) (by kernel_rfl) (by kernel_rfl) (by kernel_rfl) (fun _ _ _ h => h) (Or.inl ⟨by rfl, ?_⟩) (by assumption) ?_; rotate_left; (· (intro w hSw; (try dsimp only at hSw); go_simp <;> with_reducible rfl)); try simp only [Act.put, List.setIfInBounds_toArray, List.set_cons_zero, List.set_cons_succ]) | (refine wpAnyH_take (i := 8) (v := undef) (by simp only [List.getElem?_toArray, List.getElem?_cons_zero, List.getElem?_cons_succ]; rfl) (by kernel_rfl) (by kernel_rfl) (by kernel_rfl) (fun _ _ _ h => h) (Or.inr ⟨by rfl, rfl⟩) (by assumption) ?_; try simp only [Act.put, List.setIfInBounds_toArray, List.set_cons_zero, List.set_cons_succ])
      first | (refine wpAnyH_take (i := 9) (v := ?_) (by simp only [List.getElem?_toArray, List.getElem?_cons_zero, List.getElem?_cons_succ]; rfl) (by kernel_rfl) (by kernel_rfl) (by kernel_rfl) (fun _ _ _ h => h) (Or.inl ⟨by rfl, ?_⟩) (by assumption) ?_; rotate_left; (· (intro w hSw; (try dsimp only at hSw); go_simp <;> with_reducible rfl)); try simp only [Act.put, List.setIfInBounds_toArray, List.set_cons_zero, List.set_cons_succ]) | (refine wpAnyH_take (i := 9) (v := undef) (by simp only [List.getElem?_toArray, List.getElem?_cons_zero, List.getElem?_cons_succ]; rfl) (by kernel_rfl) (by kernel_rfl) (by kernel_rfl) (fun _ _ _ h => h) (Or.inr ⟨by rfl, rfl⟩) (by assumption) ?_; try simp only [Act.put, List.setIfInBounds_toArray, List.set_cons_zero, List.set_cons_succ])
      first | (refine wpAnyH_take (i := 12) (v := ?_) (by simp only [List.getElem?_toArray, List.getElem?_cons_zero, List.getElem?_cons_succ]; rfl) (by kernel_rfl) (by kernel_rfl) (by kernel_rfl) (fun _ _ _ h => h) (Or.inl ⟨by rfl, ?_⟩) (by assumption) ?_; rotate_left; (· (intro w hSw; (try dsimp only at hSw); go_simp <;> with_reducible rfl)); try simp only [Act.put, List.setIfInBounds_toArray, List.set_cons_zero, List.set_cons_succ]) | (refine wpAnyH_take (i := 12) (v := undef) (by simp only [List.getElem?_toArray, List.getElem?_cons_zero, List.getElem?_cons_succ]; rfl) (by kernel_rfl) (by kernel_rfl) (by kernel_rfl) (fun _ _ _ h => h) (Or.inr ⟨by rfl, rfl⟩) (by assumption) ?_; try simp only [Act.put, List.setIfInBounds_toArray, List.set_cons_zero, List.set_cons_succ])
      refine wpAnyH_ready (rs := [10]) (by kernel_rfl) (by simp) ?_
      refine AllReadyH.cons (by simp only [List.getElem?_toArray, List.getElem?_cons_zero, List.getElem?_cons_succ]; rfl) (fun K hK => ?_) AllReadyH.nil
      go_simp
      go_at_call 12
      refine (KQ.out _ (tets_get (by assumption))).mono ?_
      rintro e wb ⟨rfl, Hb⟩
      refine hK.out _ _ ?_ (fun hHeld => ?_)
      · exact tets Hb
      clear hK K
      try simp only [Act.put, List.setIfInBounds_toArray, List.set_cons_zero, List.set_cons_succ]
      first | (refine wpAnyH_take (i := 11) (v := ?_) (by simp only [List.getElem?_toArray, List.getElem?_cons_zero, List.getElem?_cons_succ]; rfl) (by kernel_rfl) (by kernel_rfl) (by kernel_rfl) (fun _ _ _ h => h) (Or.inl ⟨by rfl, ?_⟩) (by assumption) ?_; rotate_left; (· (intro w hSw; (try dsimp only at hSw); go_simp <;> with_reducible rfl)); try simp only [Act.put, List.setIfInBounds_toArray, List.set_cons_zero, List.set_cons_succ]) | (refine wpAnyH_take (i := 11) (v := undef) (by simp only [List.getElem?_toArray, List.getElem?_cons_zero, List.getElem?_cons_succ]; rfl) (by kernel_rfl) (by kernel_rfl) (by kernel_rfl) (fun _ _ _ h => h) (Or.inr ⟨by rfl, rfl⟩) (by assumption) ?_; try simp only [Act.put, List.setIfInBounds_toArray, List.set_cons_zero, List.set_cons_succ])
      refine wpAnyH_ready (rs := [13]) (by kernel_rfl) (by simp) ?_
      refine AllReadyH.cons (by simp only [List.getElem?_toArray, List.getElem?_cons_zero, List.getElem?_cons_succ]; rfl) (fun K hK => ?_) AllReadyH.nil
      go_simp
      go_at_call 8
      refine (K8.out _ (tets_get (by assumption))).mono ?_
      rintro e wc ⟨rfl, Hc⟩
      refine hK.out _ _ ?_ (fun hHeld => ?_)
      · exact tets Hc
      clear hK K
      try simp only [Act.put, List.setIfInBounds_toArray, List.set_cons_zero, List.set_cons_succ]
      first | (refine wpAnyH_take (i := 14) (v := ?_) (by simp only [List.getElem?_toArray, List.getElem?_cons_zero, List.getElem?_cons_succ]; rfl) (by kernel_rfl) (by kernel_rfl) (by kernel_rfl) (fun _ _ _ h => h) (Or.inl ⟨by rfl, ?_⟩) (by assumption) ?_; rotate_left; (· (intro w hSw; (try dsimp only at hSw); go_simp <;> with_reducible rfl)); try simp only [Act.put, List.setIfInBounds_toArray, List.set_cons_zero, List.set_cons_succ]) | (refine wpAnyH_take (i := 14) (v := undef) (by simp only [List.getElem?_toArray, List.getElem?_cons_zero, List.getElem?_cons_succ]; rfl) (by kernel_rfl) (by kernel_rfl) (by kernel_rfl) (fun _ _ _ h => h) (Or.inr ⟨by rfl, rfl⟩) (by assumption) ?_; try simp only [Act.put, List.setIfInBounds_toArray, List.set_cons_zero, List.set_cons_succ])
      first | (refine wpAnyH_take (i := 15) (v := ?_) (by simp only [List.getElem?_toArray, List.getElem?_cons_zero, List.getElem?_cons_succ]; rfl) (by kernel_rfl) (by kernel_rfl) (by kernel_rfl) (fun _ _ _ h => h) (Or.inl ⟨by rfl, ?_⟩) (by assumption) ?_; rotate_left; (· (intro w hSw; (try dsimp only at hSw); go_simp <;> with_reducible rfl)); try simp only [Act.put, List.setIfInBounds_toArray, List.set_cons_zero, List.set_cons_succ]) | (refine wpAnyH_take (i := 15) (v := undef) (by simp only [List.getElem?_toArray, List.getElem?_cons_zero, List.getElem?_cons_succ]; rfl) (by kernel_rfl) (by kernel_rfl) (by kernel_rfl) (fun _ _ _ h => h) (Or.inr ⟨by rfl, rfl⟩) (by assumption) ?_; try simp only [Act.put, List.setIfInBounds_toArray, List.set_cons_zero, List.set_cons_succ])
      first | (refine wpAnyH_take (i := 16) (v := ?_) (by simp only [List.getElem?_toArray, List.getElem?_cons_zero, List.getElem?_cons_succ]; rfl) (by kernel_rfl) (by kernel_rfl) (by kernel_rfl) (fun _ _ _ h => h) (Or.inl ⟨by rfl, ?_⟩) (by assumption) ?_; rotate_left; (· (intro w hSw; (try dsimp only at hSw); go_simp <;> with_reducible rfl)); try simp only [Act.put, List.setIfInBounds_toArray, List.set_cons_zero, List.set_cons_succ]) | (refine wpAnyH_take (i := 16) (v := undef) (by simp only [List.getElem?_toArray, List.getElem?_cons_zero, List.getElem?_cons_succ]; rfl) (by kernel_rfl) (by kernel_rfl) (by kernel_rfl) (fun _ _ _ h => h) (Or.inr ⟨by rfl, rfl⟩) (by assumption) ?_; try simp only [Act.put, List.setIfInBounds_toArray, List.set_cons_zero, List.set_cons_succ])
      refine wpAnyH_done (by kernel_rfl) ?_ _
      refine NoPanic.normal ?_
      have HD : Hid (Tri w wc p r q x y z) := Hc.out.1
      clear hHeld HTS HQ Ha Hb Hc
      go_wp2_with fail
      refine wp_region_noPanic ?_
      refine wp_region_held_drew (S := fun w' => TriS w w' p r q x y z) (by kernel_rfl) (tris_drew HD) (fun hHeld => ?_)
      first | (refine wpAnyH_take (i := 0) (v := ?_) (by simp only [List.getElem?_toArray, List.getElem?_cons_zero]; rfl) (by kernel_rfl) (by kernel_rfl) (by kernel_rfl) (fun _ _ _ h => h) (Or.inl ⟨by rfl, ?_⟩) (by assumption) ?_; rotate_left; (· (intro w hSw; (try dsimp only at hSw); go_simp <;> with_reducible rfl)); try simp only [Act.put, List.setIfInBounds_toArray, List.set_cons_zero, List.set_cons_succ]) | (refine wpAnyH_take (i := 0) (v := undef) (by simp only [List.getElem?_toArray, List.getElem?_cons_zero]; rfl) (by kernel_rfl) (by kernel_rfl) (by kernel_rfl) (fun _ _ _ h => h) (Or.inr ⟨by rfl, rfl⟩) (by assumption) ?_; try simp only [Act.put, List.setIfInBounds_toArray, List.set_cons_zero, List.set_cons_succ])
      first | (refine wpAnyH_take (i := 1) (v := ?_) (by simp only [List.getElem?_toArray, List.getElem?_cons_zero, List.getElem?_cons_succ]; rfl) (by kernel_rfl) (by kernel_rfl) (by kernel_rfl) (fun _ _ _ h => h) (Or.inl ⟨by rfl, ?_⟩) (by assumption) ?_; rotate_left; (· (intro w hSw; (try dsimp only at hSw); go_simp <;> with_reducible rfl)); try simp only [Act.put, List.setIfInBounds_toArray, List.set_cons_zero, List.set_cons_succ]) | (refine wpAnyH_take (i := 1) (v := undef) (by simp only [List.getElem?_toArray, List.getElem?_cons_zero, List.getElem?_cons_succ]; rfl) (by kernel_rfl) (by kernel_rfl) (by kernel_rfl) (fun _ _ _ h => h) (Or.inr ⟨by rfl, rfl⟩) (by assumption) ?_; try simp only [Act.put, List.setIfInBounds_toArray, List.set_cons_zero, List.set_cons_succ])
      first | (refine wpAnyH_take (i := 3) (v := ?_) (by simp only [List.getElem?_toArray, List.getElem?_cons_zero, List.getElem?_cons_succ]; rfl) (by kernel_rfl) (by kernel_rfl) (by kernel_rfl) (fun _ _ _ h => h) (Or.inl ⟨by rfl, ?_⟩) (by assumption) ?_; rotate_left; (· (intro w hSw; (try dsimp only at hSw); go_simp <;> with_reducible rfl)); try simp only [Act.put, List.setIfInBounds_toArray, List.set_cons_zero, List.set_cons_succ]) | (refine wpAnyH_take (i := 3) (v := undef) (by simp only [List.getElem?_toArray, List.getElem?_cons_zero, List.getElem?_cons_succ]; rfl) (by kernel_rfl) (by kernel_rfl) (by kernel_rfl) (fun _ _ _ h => h) (Or.inr ⟨by rfl, rfl⟩) (by assumption) ?_; try simp only [Act.put, List.setIfInBounds_toArray, List.set_cons_zero, List.set_cons_succ])
      first | (refine wpAnyH_take (i := 4) (v := ?_) (by simp only [List.getElem?_toArray, List.getElem?_cons_zero, List.getElem?_cons_succ]; rfl) (by kernel_rfl) (by kernel_rfl) (by kernel_rfl) (fun _ _ _ h => h) (Or.inl ⟨by rfl, ?_⟩) (by assumption) ?_; rotate_left; (· (intro w hSw; (try dsimp only at hSw); go_simp <;> with_reducible rfl)); try simp only [Act.put, List.setIfInBounds_toArray, List.set_cons_zero, List.set_cons_succ]) | (refine wpAnyH_take (i := 4) (v := undef) (by simp only [List.getElem?_toArray, List.getElem?_cons_zero, List.getElem?_cons_succ]; rfl) (by kernel_rfl) (by kernel_rfl) (by kernel_rfl) (fun _ _ _ h => h) (Or.inr ⟨by rfl, rfl⟩) (by assumption) ?_; try simp only [Act.put, List.setIfInBounds_toArray, List.set_cons_zero, List.set_cons_succ])
      first | (refine wpAnyH_take (i := 6) (v := ?_) (by simp only [List.getElem?_toArray, List.getElem?_cons_zero, List.getElem?_cons_succ]; rfl) (by kernel_rfl) (by kernel_rfl) (by kernel_rfl) (fun _ _ _ h => h) (Or.inl ⟨by rfl, ?_⟩) (by assumption) ?_; rotate_left; (· (intro w hSw; (try dsimp only at hSw); go_simp <;> with_reducible rfl)); try simp only [Act.put, List.setIfInBounds_toArray, List.set_cons_zero, List.set_cons_succ]) | (refine wpAnyH_take (i := 6) (v := undef) (by simp only [List.getElem?_toArray, List.getElem?_cons_zero, List.getElem?_cons_succ]; rfl) (by kernel_rfl) (by kernel_rfl) (by kernel_rfl) (fun _ _ _ h => h) (Or.inr ⟨by rfl, rfl⟩) (by assumption) ?_; try simp only [Act.put, List.setIfInBounds_toArray, List.set_cons_zero, List.set_cons_succ])
      first | (refine wpAnyH_take (i := 7) (v := ?_) (by simp only [List.getElem?_toArray, List.getElem?_cons_zero, List.getElem?_cons_succ]; rfl) (by kernel_rfl) (by kernel_rfl) (by kernel_rfl) (fun _ _ _ h => h) (Or.inl ⟨by rfl, ?_⟩) (by assumption) ?_; rotate_left; (· (intro w hSw; (try dsimp only at hSw); go_simp <;> with_reducible rfl)); try simp only [Act.put, List.setIfInBounds_toArray, List.set_cons_zero, List.set_cons_succ]) | (refine wpAnyH_take (i := 7) (v := undef) (by simp only [List.getElem?_toArray, List.getElem?_cons_zero, List.getElem?_cons_succ]; rfl) (by kernel_rfl) (by kernel_rfl) (by kernel_rfl) (fun _ _ _ h => h) (Or.inr ⟨by rfl, rfl⟩) (by assumption) ?_; try simp only [Act.put, List.setIfInBounds_toArray, List.set_cons_zero, List.set_cons_succ])
      refine wpAnyH_ready (rs := [2]) (by kernel_rfl) (by simp) ?_
      refine AllReadyH.cons (by simp only [List.getElem?_toArray, List.getElem?_cons_zero, List.getElem?_cons_succ]; rfl) (fun K hK => ?_) AllReadyH.nil
      go_simp
      go_at_call 12
      refine (D12.out _ (tris_get (by assumption))).mono ?_
      rintro e wd ⟨rfl, Hd⟩
      refine hK.out _ _ ?_ (fun hHeld => ?_)
      · exact tris Hd
      clear hK K
      try simp only [Act.put, List.setIfInBounds_toArray, List.set_cons_zero, List.set_cons_succ]
      refine wpAnyH_ready (rs := [5]) (by kernel_rfl) (by simp) ?_
      refine AllReadyH.cons (by simp only [List.getElem?_toArray, List.getElem?_cons_zero, List.getElem?_cons_succ]; rfl) (fun K hK => ?_) AllReadyH.nil
      go_simp
      go_at_call 12
      refine (E12.out _ (tris_get (by assumption))).mono ?_
      rintro e we ⟨rfl, He⟩
      refine hK.out _ _ ?_ (fun hHeld => ?_)
      · exact tris He
      clear hK K
      try simp only [Act.put, List.setIfInBounds_toArray, List.set_cons_zero, List.set_cons_succ]
      refine wpAnyH_ready (rs := [8]) (by kernel_rfl) (by simp) ?_
      refine AllReadyH.cons (by simp only [List.getElem?_toArray, List.getElem?_cons_zero, List.getElem?_cons_succ]; rfl) (fun K hK => ?_) AllReadyH.nil
      go_simp
      go_at_call 12
      refine (F12.out _ (tris_get (by assumption))).mono ?_
      rintro e wf ⟨rfl, Hf⟩
      refine hK.out _ _ ?_ (fun hHeld => ?_)
      · exact tris Hf
      clear hK K
      try simp only [Act.put, List.setIfInBounds_toArray, List.set_cons_zero, List.set_cons_succ]
      first | (refine wpAnyH_take (i := 9) (v := ?_) (by simp only [List.getElem?_toArray, List.getElem?_cons_zero, List.getElem?_cons_succ]; rfl) (by kernel_rfl) (by kernel_rfl) (by kernel_rfl) (fun _ _ _ h => h) (Or.inl ⟨by rfl, ?_⟩) (by assumption) ?_; rotate_left; (· (intro w hSw; (try dsimp only at hSw); go_simp <;> with_reducible rfl)); try simp only [Act.put, List.setIfInBounds_toArray, List.set_cons_zero, List.set_cons_succ]) | (refine wpAnyH_take (i := 9) (v := undef) (by simp only [List.getElem?_toArray, List.getElem?_cons_zero, List.getElem?_cons_succ]; rfl) (by kernel_rfl) (by kernel_rfl) (by kernel_rfl) (fun _ _ _ h => h) (Or.inr ⟨by rfl, rfl⟩) (by assumption) ?_; try simp only [Act.put, List.setIfInBounds_toArray, List.set_cons_zero, List.set_cons_succ])
      first | (refine wpAnyH_take (i := 10) (v := ?_) (by simp only [List.getElem?_toArray, List.getElem?_cons_zero, List.getElem?_cons_succ]; rfl) (by kernel_rfl) (by kernel_rfl) (by kernel_rfl) (fun _ _ _ h => h) (Or.inl ⟨by rfl, ?_⟩) (by assumption) ?_; rotate_left; (· (intro w hSw; (try dsimp only at hSw); go_simp <;> with_reducible rfl)); try simp only [Act.put, List.setIfInBounds_toArray, List.set_cons_zero, List.set_cons_succ]) | (refine wpAnyH_take (i := 10) (v := undef) (by simp only [List.getElem?_toArray, List.getElem?_cons_zero, List.getElem?_cons_succ]; rfl) (by kernel_rfl) (by kernel_rfl) (by kernel_rfl) (fun _ _ _ h => h) (Or.inr ⟨by rfl, rfl⟩) (by assumption) ?_; try simp only [Act.put, List.setIfInBounds_toArray, List.set_cons_zero, List.set_cons_succ])
      first | (refine wpAnyH_take (i := 11) (v := ?_) (by simp only [List.getElem?_toArray, List.getElem?_cons_zero, List.getElem?_cons_succ]; rfl) (by kernel_rfl) (by kernel_rfl) (by kernel_rfl) (fun _ _ _ h => h) (Or.inl ⟨by rfl, ?_⟩) (by assumption) ?_; rotate_left; (· (intro w hSw; (try dsimp only at hSw); go_simp <;> with_reducible rfl)); try simp only [Act.put, List.setIfInBounds_toArray, List.set_cons_zero, List.set_cons_succ]) | (refine wpAnyH_take (i := 11) (v := undef) (by simp only [List.getElem?_toArray, List.getElem?_cons_zero, List.getElem?_cons_succ]; rfl) (by kernel_rfl) (by kernel_rfl) (by kernel_rfl) (fun _ _ _ h => h) (Or.inr ⟨by rfl, rfl⟩) (by assumption) ?_; try simp only [Act.put, List.setIfInBounds_toArray, List.set_cons_zero, List.set_cons_succ])
      refine wpAnyH_done (by kernel_rfl) ?_ _
      refine NoPanic.normal ?_
      clear hHeld Hd He HD
      have HF : Hid (Tri w wf p r q x y z) := Hf
      clear Hf D12 E12 F12
      rcases HC.out with ⟨rfl, rfl, rfl⟩ | ⟨rfl, rfl, rfl⟩ | ⟨rfl, rfl, rfl⟩
      all_goals (
        clear HC
        go_wp2_with fail
        refine (C7.out _ HF.out).mono ?_
        rintro e wg ⟨rfl, Hg⟩
        clear HF
        obtain ⟨m0, m1⟩ := box2 Hg.out.1.1
        obtain ⟨m2, m3⟩ := box2 Hg.out.2.1.1
        go_wp2_with fail
        refine (G12.out _ Hg.out).mono ?_
        rintro e wh ⟨rfl, Hh⟩
        clear m0 m1 m2 m3 Hg
        obtain ⟨m0, m1⟩ := box2 Hh.out.1.1
        obtain ⟨m2, m3⟩ := box2 Hh.out.2.1.1
        go_wp2_with fail
        refine (C11.out _ Hh.out).mono ?_
        rintro e wi ⟨rfl, Hi⟩
        clear m0 m1 m2 m3 Hh
        first
        | (go_wp2_with fail; go_ret; exact ⟨rfl, Hi.out.2.2.2⟩)
        | (by_cases hQ : Q ≤ 0
           · have hR : R ≤ 0 := HE.out (by decide) hQ
             go_wp2_with fail
             go_ret
             refine ⟨?_, Hi.out.2.2.2⟩
             show Ending.returned (Value.bool (!decide (0 < R))) = _
             rw [decide_eq_false (by omega)]
             rfl
           · go_wp2_with fail
             go_ret
             exact ⟨rfl, Hi.out.2.2.2⟩)))
end Go.Proofs.YtopapmnoepnpcaaDoor
