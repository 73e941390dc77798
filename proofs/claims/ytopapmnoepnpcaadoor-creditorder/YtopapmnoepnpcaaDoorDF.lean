/- Contract of what must be whatever is asked. -/
import Derived.Test.YtopapmnoepnpcaaDoorDE
import Derived.Test.YtopapmnoepnpcaaDoorDC
namespace Go.Proofs.YtopapmnoepnpcaaDoor
open Go.RowKit
attribute [local go_sem ↓] Go.wp_at_zero Go.wp_at_succ
theorem print_half : printL 0 [1] = [48, 43, 49] := by
  have h0 : Lib.itoa 0 = [48] := by unfold Lib.itoa; simp [Lib.decDigits_one]
  have h1 : Lib.itoa 1 = [49] := by unfold Lib.itoa; simp [Lib.decDigits_one]
  simp [printL, bitsL, h0, h1]
theorem print_unit : printL 1 [] = [49] := by
  have h1 : Lib.itoa 1 = [49] := by unfold Lib.itoa; simp [Lib.decDigits_one]
  simp [printL, bitsL, h1]
/-- A row of two amounts that was just laid. -/
theorem amr_two (w : World) (W1 W2 : Int) (a1 a2 : Option Addr) (n1 c1 n2 c2 : Nat) (B1 B2 : List Int) (s1 : Sl w a1 n1 c1 B1) (s2 : Sl w a2 n2 c2 B2) :
    AmR (w.alloc (.cells #[.int .i64 W1, .slice a1 n1 c1, .int .i64 W2, .slice a2 n2 c2] 24)) (some ⟨w.heap.size, 0, none⟩) 2 [(W1, B1), (W2, B2)] := by
  have hb : Below w.heap.size w (w.alloc (.cells #[.int .i64 W1, .slice a1 n1 c1, .int .i64 W2, .slice a2 n2 c2] 24)) := (Below.refl _ w).alloc (Nat.le_refl _) _
  have hc := heap_alloc_new w (.cells #[.int .i64 W1, .slice a1 n1 c1, .int .i64 W2, .slice a2 n2 c2] 24)
  refine ⟨rfl, fun i hi => ?_⟩
  have hl : w.heap.size < (w.alloc (.cells #[.int .i64 W1, .slice a1 n1 c1, .int .i64 W2, .slice a2 n2 c2] 24)).heap.size := by simp
  match i, hi with
  | 0, _ => exact ⟨_, _, a1, n1, c1, rfl, hl, by rw [cell_of_row _ w.heap.size _ _ 24 (0, 0) hc]; rfl, by rw [cell_of_row _ w.heap.size _ _ 24 (0, 0) hc]; rfl, s1.below hb⟩
  | 1, _ => exact ⟨_, _, a2, n2, c2, rfl, hl, by rw [cell_of_row _ w.heap.size _ _ 24 (0, 0) hc]; rfl, by rw [cell_of_row _ w.heap.size _ _ 24 (0, 0) hc]; rfl, s2.below hb⟩
/-- Two amounts in blocks. -/
def Lv (w0 w : World) (p q : Nat) (W : Int) (B : List Int) (a1 : Option Addr) (n1 c1 : Nat) (a2 : Option Addr) (n2 c2 : Nat) : Prop :=
  w.heap[p]? = some (.cells #[.int .i64 W, .slice a1 n1 c1] 24 (0, 0)) ∧ w.heap[q]? = some (.cells #[.int .i64 W, .slice a2 n2 c2] 24 (0, 0)) ∧ Sl w a1 n1 c1 B ∧ Sl w a2 n2 c2 B ∧ Below w0.heap.size w0 w
theorem Lv.below {w0 w w' : World} {p q n1 c1 n2 c2 : Nat} {W : Int} {B : List Int} {a1 a2 : Option Addr} (h : Lv w0 w p q W B a1 n1 c1 a2 n2 c2) (hb : Below w.heap.size w w') : Lv w0 w' p q W B a1 n1 c1 a2 n2 c2 :=
  ⟨(hb.block p (Array.getElem?_eq_some_iff.1 h.1).1).trans h.1, (hb.block q (Array.getElem?_eq_some_iff.1 h.2.1).1).trans h.2.1, h.2.2.1.below hb, h.2.2.2.1.below hb, h.2.2.2.2.trans (hb.mono h.2.2.2.2.size)⟩
set_option maxRecDepth 100000 in
set_option maxHeartbeats 8000000 in
theorem d7 (w : World) (hT : Tb w) : Calls Tryd.prog 7 #[] w fun e w' => e = .returned (.bool true) ∧ Below w.heap.size w w' := by
  have HT : Hid (Tb w) := hT
  clear hT
  have H14 : Calls Tryd.prog 14 #[.int .i64 1] w fun e w' => e = .returned (.agg #[.int .i64 1, .slice none 0 0]) ∧ Hid (Below w.heap.size w w') := d14 1 w (by omega) (by omega)
  go_enter Tryd.func7, Tryd.ntmps7
  go_wp2_with fail
  refine H14.mono ?_
  rintro e w1 ⟨rfl, H1⟩
  clear H14
  have H6 : Calls Tryd.prog 6 #[.agg #[.int .i64 1, .slice none 0 0]] w1 fun e w' => ∃ a1 n1 c1 a2 n2 c2, e = .returned (.tuple #[.agg #[.int .i64 0, .slice a1 n1 c1], .agg #[.int .i64 0, .slice a2 n2 c2], .int .i64 0]) ∧ Hid (Sl w' a1 n1 c1 [1] ∧ Sl w' a2 n2 c2 [1] ∧ Below w.heap.size w w') := by
    refine (d6s _ (1, []) 0 w1 (am_unit _ _ _) (by omega) (.inl rfl)).mono ?_
    rintro e w' ⟨a1, n1, c1, a2, n2, c2, rfl, s1, s2, b1, _⟩
    exact ⟨a1, n1, c1, a2, n2, c2, rfl, s1, s2, H1.out.trans (b1.mono H1.out.size)⟩
  go_wp2_with fail
  refine H6.mono ?_
  rintro e w2 ⟨a1, n1, c1, a2, n2, c2, rfl, H2⟩
  clear H6 H1
  obtain ⟨U, hU⟩ : ∃ U, (w2.alloc (.cells #[.int .i64 0, .slice none 0 0] 24)).alloc (.cells #[.int .i64 0, .slice none 0 0] 24) = U := ⟨_, rfl⟩
  obtain ⟨p, hp⟩ : ∃ p, w2.heap.size = p := ⟨_, rfl⟩
  obtain ⟨q, hq⟩ : ∃ q, p + 1 = q := ⟨_, rfl⟩
  obtain ⟨⟨c00, c01, c10, c11⟩, ⟨f00, f01, f10, f11⟩, hVV⟩ := stored2 (x := .int .i64 0) (y := .slice a1 n1 c1) (x' := .int .i64 0) (y' := .slice a2 n2 c2) hU hp hq
  obtain ⟨V, hV⟩ : ∃ V, (((U.setCell ⟨p, 0, none⟩ (.int .i64 0)).setCell ⟨p, 1, none⟩ (.slice a1 n1 c1)).setCell ⟨q, 0, none⟩ (.int .i64 0)).setCell ⟨q, 1, none⟩ (.slice a2 n2 c2) = V := ⟨_, rfl⟩
  have HV : Hid (Lv w V p q 0 [1] a1 n1 c1 a2 n2 c2) := by
    obtain ⟨v1, v2, v3⟩ := hVV V hV
    obtain ⟨s1, s2, s3⟩ := H2.out
    exact ⟨v1, v2, s1.below v3, s2.below v3, s3.trans (v3.mono s3.size)⟩
  clear hVV H2
  obtain ⟨m0, m1⟩ := box2 HV.out.1
  obtain ⟨m2, m3⟩ := box2 HV.out.2.1
  have H10 : Calls Tryd.prog 10 #[.slice (some ⟨V.heap.size, 0, none⟩) 2 2] (V.alloc (.cells #[.int .i64 0, .slice a1 n1 c1, .int .i64 0, .slice a2 n2 c2] 24)) fun e w' => ∃ a3 c3, e = .returned (.tuple #[.agg #[.int .i64 1, .slice a3 0 c3], .int .i64 0]) ∧ Hid (Lv w w' p q 0 [1] a1 n1 c1 a2 n2 c2) := by
    have hA := amr_two V 0 0 a1 a2 n1 c1 n2 c2 [1] [1] HV.out.2.2.1 HV.out.2.2.2.1
    refine (d10 _ 2 2 _ _ hA (by omega) (fun x hx => by simp at hx; subst hx; decide)).mono ?_
    rintro e w' ⟨code, W, a3, n3, c3, B, rfl, s1, s2, s3⟩
    obtain ⟨rfl, rfl, rfl⟩ := sum_one s3 (fun N hN => by
      have := pw_double N 1 (by omega) (by omega)
      simp only [Int.sub_self] at this
      simp only [valS, val, vl]
      omega)
    have h0 : n3 = 0 := by have := s1.i.len; simpa using this.symm
    subst h0
    exact ⟨a3, c3, rfl, (HV.out.below ((Below.refl _ V).alloc (Nat.le_refl _) _)).below s2⟩
  go_wp2_with fail
  refine H10.mono ?_
  rintro e w3 ⟨a3, c3, rfl, H3⟩
  clear H10 hU hp hq c00 c01 c10 c11 f00 f01 f10 f11 hV m0 m1 m2 m3 HV
  obtain ⟨U2, hU⟩ : ∃ U, w3.alloc (.cells #[.int .i64 0, .slice none 0 0] 24) = U := ⟨_, rfl⟩
  obtain ⟨sb, hsb⟩ : ∃ sb, w3.heap.size = sb := ⟨_, rfl⟩
  obtain ⟨⟨k0, k1, f0, f1⟩, hbV, hcV⟩ := stored24 (x := .int .i64 1) (y := .slice a3 0 c3) hU hsb
  obtain ⟨V2, hV⟩ : ∃ V, (U2.setCell ⟨sb, 0, none⟩ (.int .i64 1)).setCell ⟨sb, 1, none⟩ (.slice a3 0 c3) = V := ⟨_, rfl⟩
  rw [hV] at hbV hcV
  have HL : Hid (Lv w V2 p q 0 [1] a1 n1 c1 a2 n2 c2 ∧ V2.heap[sb]? = some (.cells #[.int .i64 1, .slice a3 0 c3] 24 (0, 0))) := ⟨H3.out.below hbV, hcV⟩
  clear hbV hcV H3
  have H17 : Hid (∀ V v W B, (Lv w V p q 0 [1] a1 n1 c1 a2 n2 c2 ∧ V.heap[sb]? = some (.cells #[.int .i64 1, .slice a3 0 c3] 24 (0, 0))) → Am V v W B → rightB W B = true → Calls Tryd.prog 17 #[v] V fun e w' => e = .returned (.string ⟨(printL W B).toArray⟩) ∧ Hid (Lv w w' p q 0 [1] a1 n1 c1 a2 n2 c2 ∧ w'.heap[sb]? = some (.cells #[.int .i64 1, .slice a3 0 c3] 24 (0, 0)))) := fun V v W B hV hA hR => (d17 v W B V hA hR (HT.out.below hV.1.2.2.2.2)).mono fun e w' ⟨h1, h2⟩ => ⟨h1, hV.1.below h2, (h2.block sb (Array.getElem?_eq_some_iff.1 hV.2).1).trans hV.2⟩
  obtain ⟨m0, m1⟩ := box2 HL.out.1.1
  go_wp2_with fail
  refine (H17.out V2 _ 0 [1] HL.out ⟨a1, n1, c1, rfl, HL.out.1.2.2.1⟩ (by decide)).mono ?_
  rw [print_half]
  rintro e w4 ⟨rfl, H4⟩
  clear hU hsb k0 k1 f0 f1 hV m0 m1 HL
  obtain ⟨m0, m1⟩ := box2 H4.out.1.2.1
  go_wp2_with fail
  refine (H17.out w4 _ 0 [1] H4.out ⟨a2, n2, c2, rfl, H4.out.1.2.2.2.1⟩ (by decide)).mono ?_
  rw [print_half]
  rintro e w5 ⟨rfl, H5⟩
  clear m0 m1 H4
  obtain ⟨m0, m1⟩ := box2 H5.out.2
  go_wp2_with fail
  refine (H17.out w5 _ 1 [] H5.out (am_unit _ _ _) (by decide)).mono ?_
  rw [print_unit]
  rintro e w6 ⟨rfl, H6⟩
  go_wp2_with fail
  go_ret
  exact ⟨rfl, H6.out.1.2.2.2.2⟩
end Go.Proofs.YtopapmnoepnpcaaDoor
