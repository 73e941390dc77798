/- CreditWhole where nothing can be split. -/
import Derived.Test.YtopapmnoepnpcaaDoorDH
import Derived.Test.YtopapmnoepnpcaaDoorDF
namespace Go.Proofs.YtopapmnoepnpcaaDoor
open Go.RowKit
attribute [local go_sem ↓] Go.wp_at_zero Go.wp_at_succ
set_option maxRecDepth 100000 in
set_option maxHeartbeats 8000000 in
theorem d3_form (v : Value) (W : Int) (B : List Int) (w : World) (h : Am w v W B) (hT : Tb w) (hz : zeroB W B.length = false) (hr : rightB W B = false) (hs : ∀ V, Below w.heap.size w V → Calls Tryd.prog 6 #[v] V fun e w' => SplB e V w' 6) : Calls Tryd.prog 3 #[v] w fun e w' => e = .returned (.bool true) ∧ Below w.heap.size w w' := by
  have HV : Hid (Am w v W B ∧ Tb w) := ⟨h, hT⟩
  obtain ⟨a, n, c, rfl, hS⟩ := h.val
  have hn := hS.i.len
  obtain ⟨U, hU⟩ : ∃ U, w.alloc (.cells #[.int .i64 W, .slice a n c] 24) = U := ⟨_, rfl⟩
  obtain ⟨p, hp⟩ : ∃ p, w.heap.size = p := ⟨_, rfl⟩
  have H0 : Hid (Bk w U p (.int .i64 W) (.slice a n c) 24) := by rw [← hU, ← hp]; exact bk_new w _ _ _
  obtain ⟨s0, s1⟩ := box2 H0.out.box
  have H6 : Calls Tryd.prog 6 #[.agg #[.int .i64 W, .slice a n c]] U fun e w' => e = .returned (.tuple #[.agg #[.int .i64 0, .slice none 0 0], .agg #[.int .i64 0, .slice none 0 0], .int .i64 6]) ∧ Hid (Bk w w' p (.int .i64 W) (.slice a n c) 24) := (hs U H0.out.bel).mono fun e w' ⟨h1, h2⟩ => ⟨h1, H0.out.below h2⟩
  have H7 : Hid (∀ V, Bk w V p (.int .i64 W) (.slice a n c) 24 → Calls Tryd.prog 7 #[] V fun e w' => e = .returned (.bool true) ∧ Hid (Bk w w' p (.int .i64 W) (.slice a n c) 24)) := fun V hV => (d7 V (HV.out.2.below hV.bel)).mono fun e w' ⟨h1, h2⟩ => ⟨h1, hV.below h2⟩
  have H8 : Hid (∀ V, Bk w V p (.int .i64 W) (.slice a n c) 24 → Calls Tryd.prog 8 #[.agg #[.int .i64 W, .slice a n c]] V fun e w' => e = .returned (.bool false) ∧ Hid (Bk w w' p (.int .i64 W) (.slice a n c) 24)) := fun V hV => (d8 W a n c V).mono fun e w' ⟨h1, h2⟩ => ⟨by rw [h1, ← hn, hz], hV.below h2⟩
  have H9 : Hid (∀ V, Bk w V p (.int .i64 W) (.slice a n c) 24 → Calls Tryd.prog 9 #[.agg #[.int .i64 W, .slice a n c]] V fun e w' => e = .returned (.bool false) ∧ Hid (Bk w w' p (.int .i64 W) (.slice a n c) 24)) := fun V hV => (d9 _ W B V (HV.out.1.below hV.bel)).mono fun e w' ⟨h1, h2⟩ => ⟨by rw [h1, hr], hV.below h2⟩
  clear h hT hS hz hr hs hn
  go_enter Tryd.func3, Tryd.ntmps3
  go_wp2_with fail
  refine H6.mono ?_
  rintro e w2 ⟨rfl, H2⟩
  clear H6 hU hp s0 s1 H0
  obtain ⟨U2, hU⟩ : ∃ U, (w2.alloc (.cells #[.int .i64 0, .slice none 0 0] 24)).alloc (.cells #[.int .i64 0, .slice none 0 0] 24) = U := ⟨_, rfl⟩
  obtain ⟨r, hr⟩ : ∃ r, w2.heap.size = r := ⟨_, rfl⟩
  obtain ⟨q, hq⟩ : ∃ q, r + 1 = q := ⟨_, rfl⟩
  obtain ⟨⟨c00, c01, c10, c11⟩, ⟨f00, f01, f10, f11⟩, hVV⟩ := stored2 (x := .int .i64 0) (y := .slice none 0 0) (x' := .int .i64 0) (y' := .slice none 0 0) hU hr hq
  obtain ⟨V, hV⟩ : ∃ V, (((U2.setCell ⟨r, 0, none⟩ (.int .i64 0)).setCell ⟨r, 1, none⟩ (.slice none 0 0)).setCell ⟨q, 0, none⟩ (.int .i64 0)).setCell ⟨q, 1, none⟩ (.slice none 0 0) = V := ⟨_, rfl⟩
  have H3 : Hid (Bk w V p (.int .i64 W) (.slice a n c) 24) := H2.out.below (hVV V hV).2.2
  clear hVV H2
  go_wp2_with fail
  refine (H7.out V H3.out).mono ?_
  rintro e w3 ⟨rfl, H4⟩
  clear hU hr hq c00 c01 c10 c11 f00 f01 f10 f11 hV H3 H7
  obtain ⟨s0, s1⟩ := box2 H4.out.box
  go_wp2_with fail
  refine (H8.out w3 H4.out).mono ?_
  rintro e w4 ⟨rfl, H5⟩
  clear s0 s1 H4
  obtain ⟨s0, s1⟩ := box2 H5.out.box
  go_wp2_with fail
  refine (H9.out w4 H5.out).mono ?_
  rintro e w5 ⟨rfl, H6⟩
  go_wp2_with fail
  go_ret
  exact ⟨rfl, H6.out.bel⟩
set_option maxRecDepth 100000 in
set_option maxHeartbeats 8000000 in
theorem d3_none (v : Value) (W : Int) (B : List Int) (w : World) (h : Am w v W B) (hT : Tb w) (hz : zeroB W B.length = true) (hs : ∀ V, Below w.heap.size w V → Calls Tryd.prog 6 #[v] V fun e w' => SplB e V w' 4) : Calls Tryd.prog 3 #[v] w fun e w' => e = .returned (.bool true) ∧ Below w.heap.size w w' := by
  have HV : Hid (Am w v W B ∧ Tb w) := ⟨h, hT⟩
  obtain ⟨a, n, c, rfl, hS⟩ := h.val
  have hn := hS.i.len
  obtain ⟨U, hU⟩ : ∃ U, w.alloc (.cells #[.int .i64 W, .slice a n c] 24) = U := ⟨_, rfl⟩
  obtain ⟨p, hp⟩ : ∃ p, w.heap.size = p := ⟨_, rfl⟩
  have H0 : Hid (Bk w U p (.int .i64 W) (.slice a n c) 24) := by rw [← hU, ← hp]; exact bk_new w _ _ _
  obtain ⟨s0, s1⟩ := box2 H0.out.box
  have H6 : Calls Tryd.prog 6 #[.agg #[.int .i64 W, .slice a n c]] U fun e w' => e = .returned (.tuple #[.agg #[.int .i64 0, .slice none 0 0], .agg #[.int .i64 0, .slice none 0 0], .int .i64 4]) ∧ Hid (Bk w w' p (.int .i64 W) (.slice a n c) 24) := (hs U H0.out.bel).mono fun e w' ⟨h1, h2⟩ => ⟨h1, H0.out.below h2⟩
  have H7 : Hid (∀ V, Bk w V p (.int .i64 W) (.slice a n c) 24 → Calls Tryd.prog 7 #[] V fun e w' => e = .returned (.bool true) ∧ Hid (Bk w w' p (.int .i64 W) (.slice a n c) 24)) := fun V hV => (d7 V (HV.out.2.below hV.bel)).mono fun e w' ⟨h1, h2⟩ => ⟨h1, hV.below h2⟩
  have H8 : Hid (∀ V, Bk w V p (.int .i64 W) (.slice a n c) 24 → Calls Tryd.prog 8 #[.agg #[.int .i64 W, .slice a n c]] V fun e w' => e = .returned (.bool true) ∧ Hid (Bk w w' p (.int .i64 W) (.slice a n c) 24)) := fun V hV => (d8 W a n c V).mono fun e w' ⟨h1, h2⟩ => ⟨by rw [h1, ← hn, hz], hV.below h2⟩
  clear h hT hS hz hs hn
  go_enter Tryd.func3, Tryd.ntmps3
  go_wp2_with fail
  refine H6.mono ?_
  rintro e w2 ⟨rfl, H2⟩
  clear H6 hU hp s0 s1 H0
  obtain ⟨U2, hU⟩ : ∃ U, (w2.alloc (.cells #[.int .i64 0, .slice none 0 0] 24)).alloc (.cells #[.int .i64 0, .slice none 0 0] 24) = U := ⟨_, rfl⟩
  obtain ⟨r, hr⟩ : ∃ r, w2.heap.size = r := ⟨_, rfl⟩
  obtain ⟨q, hq⟩ : ∃ q, r + 1 = q := ⟨_, rfl⟩
  obtain ⟨⟨c00, c01, c10, c11⟩, ⟨f00, f01, f10, f11⟩, hVV⟩ := stored2 (x := .int .i64 0) (y := .slice none 0 0) (x' := .int .i64 0) (y' := .slice none 0 0) hU hr hq
  obtain ⟨V, hV⟩ : ∃ V, (((U2.setCell ⟨r, 0, none⟩ (.int .i64 0)).setCell ⟨r, 1, none⟩ (.slice none 0 0)).setCell ⟨q, 0, none⟩ (.int .i64 0)).setCell ⟨q, 1, none⟩ (.slice none 0 0) = V := ⟨_, rfl⟩
  have H3 : Hid (Bk w V p (.int .i64 W) (.slice a n c) 24) := H2.out.below (hVV V hV).2.2
  clear hVV H2
  go_wp2_with fail
  refine (H7.out V H3.out).mono ?_
  rintro e w3 ⟨rfl, H4⟩
  clear hU hr hq c00 c01 c10 c11 f00 f01 f10 f11 hV H3 H7
  obtain ⟨s0, s1⟩ := box2 H4.out.box
  go_wp2_with fail
  refine (H8.out w3 H4.out).mono ?_
  rintro e w4 ⟨rfl, H5⟩
  clear s0 s1 H4
  obtain ⟨s0, s1⟩ := box2 H5.out.box
  go_wp2_with fail
  go_ret
  exact ⟨rfl, H5.out.bel⟩
set_option maxRecDepth 100000 in
set_option maxHeartbeats 8000000 in
theorem d3_full (v : Value) (W : Int) (B : List Int) (w : World) (h : Am w v W B) (hT : Tb w) (hz : zeroB W B.length = false) (hr : rightB W B = true) (hs : ∀ V, Below w.heap.size w V → Calls Tryd.prog 6 #[v] V fun e w' => SplB e V w' 3) : Calls Tryd.prog 3 #[v] w fun e w' => e = .returned (.bool true) ∧ Below w.heap.size w w' := by
  have HV : Hid (Am w v W B ∧ Tb w) := ⟨h, hT⟩
  obtain ⟨a, n, c, rfl, hS⟩ := h.val
  have hn := hS.i.len
  obtain ⟨U, hU⟩ : ∃ U, w.alloc (.cells #[.int .i64 W, .slice a n c] 24) = U := ⟨_, rfl⟩
  obtain ⟨p, hp⟩ : ∃ p, w.heap.size = p := ⟨_, rfl⟩
  have H0 : Hid (Bk w U p (.int .i64 W) (.slice a n c) 24) := by rw [← hU, ← hp]; exact bk_new w _ _ _
  obtain ⟨s0, s1⟩ := box2 H0.out.box
  have H6 : Calls Tryd.prog 6 #[.agg #[.int .i64 W, .slice a n c]] U fun e w' => e = .returned (.tuple #[.agg #[.int .i64 0, .slice none 0 0], .agg #[.int .i64 0, .slice none 0 0], .int .i64 3]) ∧ Hid (Bk w w' p (.int .i64 W) (.slice a n c) 24) := (hs U H0.out.bel).mono fun e w' ⟨h1, h2⟩ => ⟨h1, H0.out.below h2⟩
  have H7 : Hid (∀ V, Bk w V p (.int .i64 W) (.slice a n c) 24 → Calls Tryd.prog 7 #[] V fun e w' => e = .returned (.bool true) ∧ Hid (Bk w w' p (.int .i64 W) (.slice a n c) 24)) := fun V hV => (d7 V (HV.out.2.below hV.bel)).mono fun e w' ⟨h1, h2⟩ => ⟨h1, hV.below h2⟩
  have H8 : Hid (∀ V, Bk w V p (.int .i64 W) (.slice a n c) 24 → Calls Tryd.prog 8 #[.agg #[.int .i64 W, .slice a n c]] V fun e w' => e = .returned (.bool false) ∧ Hid (Bk w w' p (.int .i64 W) (.slice a n c) 24)) := fun V hV => (d8 W a n c V).mono fun e w' ⟨h1, h2⟩ => ⟨by rw [h1, ← hn, hz], hV.below h2⟩
  have H9 : Hid (∀ V, Bk w V p (.int .i64 W) (.slice a n c) 24 → Calls Tryd.prog 9 #[.agg #[.int .i64 W, .slice a n c]] V fun e w' => e = .returned (.bool true) ∧ Hid (Bk w w' p (.int .i64 W) (.slice a n c) 24)) := fun V hV => (d9 _ W B V (HV.out.1.below hV.bel)).mono fun e w' ⟨h1, h2⟩ => ⟨by rw [h1, hr], hV.below h2⟩
  clear h hT hS hz hr hs hn
  go_enter Tryd.func3, Tryd.ntmps3
  go_wp2_with fail
  refine H6.mono ?_
  rintro e w2 ⟨rfl, H2⟩
  clear H6 hU hp s0 s1 H0
  obtain ⟨U2, hU⟩ : ∃ U, (w2.alloc (.cells #[.int .i64 0, .slice none 0 0] 24)).alloc (.cells #[.int .i64 0, .slice none 0 0] 24) = U := ⟨_, rfl⟩
  obtain ⟨r, hr⟩ : ∃ r, w2.heap.size = r := ⟨_, rfl⟩
  obtain ⟨q, hq⟩ : ∃ q, r + 1 = q := ⟨_, rfl⟩
  obtain ⟨⟨c00, c01, c10, c11⟩, ⟨f00, f01, f10, f11⟩, hVV⟩ := stored2 (x := .int .i64 0) (y := .slice none 0 0) (x' := .int .i64 0) (y' := .slice none 0 0) hU hr hq
  obtain ⟨V, hV⟩ : ∃ V, (((U2.setCell ⟨r, 0, none⟩ (.int .i64 0)).setCell ⟨r, 1, none⟩ (.slice none 0 0)).setCell ⟨q, 0, none⟩ (.int .i64 0)).setCell ⟨q, 1, none⟩ (.slice none 0 0) = V := ⟨_, rfl⟩
  have H3 : Hid (Bk w V p (.int .i64 W) (.slice a n c) 24) := H2.out.below (hVV V hV).2.2
  clear hVV H2
  go_wp2_with fail
  refine (H7.out V H3.out).mono ?_
  rintro e w3 ⟨rfl, H4⟩
  clear hU hr hq c00 c01 c10 c11 f00 f01 f10 f11 hV H3 H7
  obtain ⟨s0, s1⟩ := box2 H4.out.box
  go_wp2_with fail
  refine (H8.out w3 H4.out).mono ?_
  rintro e w4 ⟨rfl, H5⟩
  clear s0 s1 H4
  obtain ⟨s0, s1⟩ := box2 H5.out.box
  go_wp2_with fail
  refine (H9.out w4 H5.out).mono ?_
  rintro e w5 ⟨rfl, H6⟩
  go_wp2_with fail
  go_ret
  exact ⟨rfl, H6.out.bel⟩
end Go.Proofs.YtopapmnoepnpcaaDoor
