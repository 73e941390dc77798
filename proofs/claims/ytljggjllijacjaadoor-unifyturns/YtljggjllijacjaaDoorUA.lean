/- The statement on both sides of an equation: it returns true. -/
import Derived.Test.YtljggjllijacjaaDoorU9
import Derived.Test.YtljggjllijacjaaDoorUBc
import Derived.Test.YtljggjllijacjaaDoorQP
namespace Go.Proofs.YtljggjllijacjaaDoor
open Go.RowKit
attribute [local go_sem ↓] Go.wp_at_zero Go.wp_at_succ
def sd1 (l : List C) : List C := if eqB l then (argsL l).headD [] else []
def sd2 (l : List C) : List C := if eqB l then (argsL l).tail.headD [] else []
theorem sd_no {l : List C} (h : eqB l = false) : sd1 l = [] ∧ sd2 l = [] := by unfold sd1 sd2; rw [h]; exact ⟨rfl, rfl⟩
theorem sd_yes {l x y : List C} (h : eqB l = true) (ha : argsL l = [x, y]) : sd1 l = x ∧ sd2 l = y := by unfold sd1 sd2; rw [h, ha]; exact ⟨rfl, rfl⟩
theorem ap_nil2 : Ap [.slice none 0 0, .slice none 0 0] := by
  intro j j' v v' g _ hv _ hg
  match j with
  | 0 => simp at hv; subst hv; cases hg
  | 1 => simp at hv; subst hv; cases hg
  | _ + 2 => simp at hv
theorem sd_len (l : List C) : (sd1 l).length ≤ 256 ∧ (sd2 l).length ≤ 256 := by
  cases h : eqB l
  · rw [(sd_no h).1, (sd_no h).2]; simp
  · obtain ⟨x, y, ha⟩ := eq_two h
    rw [(sd_yes h ha).1, (sd_yes h ha).2]
    exact ⟨(argsL_mem l x (by rw [ha]; simp)).1, (argsL_mem l y (by rw [ha]; simp)).1⟩
theorem sd_txt (l : List C) (ht : ∀ c ∈ l, c.t.size ≤ maxLen) : (∀ c ∈ sd1 l, c.t.size ≤ maxLen) ∧ ∀ c ∈ sd2 l, c.t.size ≤ maxLen := by
  cases h : eqB l
  · rw [(sd_no h).1, (sd_no h).2]; simp
  · obtain ⟨x, y, ha⟩ := eq_two h
    rw [(sd_yes h ha).1, (sd_yes h ha).2]
    exact ⟨fun c hc => ht c ((argsL_mem l x (by rw [ha]; simp)).2 c hc), fun c hc => ht c ((argsL_mem l y (by rw [ha]; simp)).2 c hc)⟩
theorem u6s (l : List C) (v : Value) (w : World) (hT : TermAt w v l) (hS : Signs w) : Calls Tryd.prog 6 #[v] w fun e w' => ∃ a b, e = .returned (.tuple #[a, b, .bool (eqB l)]) ∧ OwnT w' w.heap.size a (sd1 l) ∧ OwnT w' w.heap.size b (sd2 l) ∧ Ap [a, b] ∧ Below w.heap.size w w' :=
  (u6 l v w hT hS).mono fun e w' h => by
    rcases h with ⟨h1, h2, h3⟩ | ⟨h1, a, b, x, y, h2, h3, h4, h5, h6, h7⟩
    · rw [(sd_no h1).1, (sd_no h1).2, h1]
      exact ⟨_, _, h2, World.ownsRow_nil _ _ _ _, World.ownsRow_nil _ _ _ _, ap_nil2, h3⟩
    · rw [(sd_yes h1 h2).1, (sd_yes h1 h2).2, h1]
      exact ⟨a, b, h3, h4, h5, h6, h7⟩
theorem u7s (l : List C) (v : Value) (w : World) (hT : TermAt w v l) : Calls Tryd.prog 7 #[v] w fun e w' => ∃ a b, e = .returned (.tuple #[a, b, .bool (eqB l)]) ∧ TermAt w' a (sd1 l) ∧ TermAt w' b (sd2 l) ∧ Below w.heap.size w w' :=
  (u7 l v w hT).mono fun e w' h => by
    rcases h with ⟨h1, h2, h3⟩ | ⟨h1, a, b, x, y, h2, h3, h4, h5, h7⟩
    · rw [(sd_no h1).1, (sd_no h1).2, h1]
      exact ⟨_, _, h2, termAt_nil _, termAt_nil _, h3⟩
    · rw [(sd_yes h1 h2).1, (sd_yes h1 h2).2, h1]
      exact ⟨a, b, h3, h4, h5, h7⟩
set_option maxRecDepth 100000 in
set_option maxHeartbeats 4000000 in
theorem u3 (l : List C) (v : Value) (w : World) (hT : TermAt w v l) (hS : Signs w) (hB : 48 * l.length ≤ 140737488355328) : Calls Tryd.prog 3 #[v] w fun e w' => e = .returned (.bool true) ∧ Below w.heap.size w w' := by
  have HT : Hid (TermAt w v l ∧ Signs w) := ⟨hT, hS⟩
  have H5 := k6 l v w hT hB
  have HL := sd_len l
  have HTX := sd_txt l hT.1.2
  have hml : l.length + 9 ≤ maxLen := by unfold maxLen; omega
  obtain ⟨va, vc, hvf⟩ := hT.form
  subst hvf
  clear hT hS
  go_enter Tryd.func3, Tryd.ntmps3
  go_wp2_with fail
  refine H5.mono ?_
  rintro e w1 ⟨g, rfl, hr1, hg1, hb1⟩
  have HG : Hid (w1.rangeAt g 0 (flat (handL l)) ∧ g < w1.heap.size ∧ Below w.heap.size w w1) := ⟨hr1, hg1, hb1⟩
  have hT1 : TermAt w1 (.slice (some ⟨g, 0, none⟩) l.length (l.length + 9)) l := hand_term hr1 hg1 HT.out.1.1.2 hB
  have H6 : Hid (Calls Tryd.prog 6 #[.slice (some ⟨g, 0, none⟩) l.length (l.length + 9)] w1 fun e w' => ∃ a b, e = .returned (.tuple #[a, b, .bool (eqB l)]) ∧ OwnT w' w1.heap.size a (sd1 l) ∧ OwnT w' w1.heap.size b (sd2 l) ∧ Ap [a, b] ∧ Below w1.heap.size w1 w') := u6s l _ w1 hT1 (HT.out.2.below hb1)
  clear hT1 hr1 hg1 hb1 H5
  go_wp2_with fail
  refine H6.out.mono ?_
  rintro e w2 ⟨a, b, rfl, hOa, hOb, hAp, hb2⟩
  obtain ⟨a1, ac, haf⟩ := ownT_form hOa
  obtain ⟨b1, bc, hbf⟩ := ownT_form hOb
  obtain ⟨la, hla⟩ : ∃ n, (sd1 l).length = n := ⟨_, rfl⟩
  obtain ⟨lb, hlb⟩ : ∃ n, (sd2 l).length = n := ⟨_, rfl⟩
  rw [hla] at haf HL
  rw [hlb] at hbf HL
  subst haf hbf
  have HO : Hid (OwnT w2 w1.heap.size (.slice a1 la ac) (sd1 l) ∧ OwnT w2 w1.heap.size (.slice b1 lb bc) (sd2 l) ∧ Ap [.slice a1 la ac, .slice b1 lb bc] ∧ (sd1 l).length = la ∧ (sd2 l).length = lb) := ⟨hOa, hOb, hAp, hla, hlb⟩
  have HB2 : Hid (Below w1.heap.size w1 w2) := hb2
  have HBw : Hid (∀ W, Below w1.heap.size w1 W → Below w.heap.size w W) := fun W hW => HG.out.2.2.trans (hW.mono HG.out.2.2.size)
  have HTo : Hid (∀ W, Below w2.heap.size w2 W → TermAt W (.slice a1 la ac) (sd1 l) ∧ TermAt W (.slice b1 lb bc) (sd2 l)) := fun W hW => ⟨(ownT_term HO.out.1 (by have := HO.out.2.2.2.1; have := HL.1; unfold maxLen; omega) HTX.1).below hW, (ownT_term HO.out.2.1 (by have := HO.out.2.2.2.2; have := HL.2; unfold maxLen; omega) HTX.2).below hW⟩
  have H7 := u7s l _ w2 (HT.out.1.below (HBw.out _ HB2.out))
  clear hOa hOb hAp hla hlb hb2 H6
  generalize hfl : eqB l = f at *
  clear hfl
  go_wp2_with fail
  refine H7.mono ?_
  rintro e w3 ⟨c, d, rfl, hTc, hTd, hb3⟩
  obtain ⟨c1, cc, hcf⟩ := hTc.form
  obtain ⟨d1, dc, hdf⟩ := hTd.form
  rw [HO.out.2.2.2.1] at hcf
  rw [HO.out.2.2.2.2] at hdf
  subst hcf hdf
  have HB3 : Hid (Below w2.heap.size w2 w3) := hb3
  have HTc : Hid (TermAt w3 (.slice c1 la cc) (sd1 l) ∧ TermAt w3 (.slice d1 lb dc) (sd2 l)) := ⟨hTc, hTd⟩
  have H8 := u8 w3 (HT.out.2.below (HBw.out _ (HB2.out.trans (HB3.out.mono HB2.out.size))))
  clear hTc hTd hb3 H7
  go_wp2_with fail
  refine H8.mono ?_
  rintro e w4 ⟨rfl, hb4⟩
  have HB4 : Hid (Below w3.heap.size w3 w4 ∧ Below w2.heap.size w2 w4) := ⟨hb4, HB3.out.trans (hb4.mono HB3.out.size)⟩
  have H9a : Hid (Calls Tryd.prog 9 #[.slice a1 la ac, .slice c1 la cc] w4 fun e w' => e = .returned (.bool true) ∧ Below w4.heap.size w4 w') := by
    have h := c13 (sd1 l) (sd1 l) _ _ w4 (HTo.out _ HB4.out.2).1 (HTc.out.1.below HB4.out.1)
    rw [eqT_refl] at h
    exact h
  clear hb4 H8
  go_wp2_with fail
  refine H9a.out.mono ?_
  rintro e w5 ⟨rfl, hb5⟩
  have HB5 : Hid (Below w3.heap.size w3 w5 ∧ Below w2.heap.size w2 w5) := ⟨HB4.out.1.trans (hb5.mono HB4.out.1.size), HB4.out.2.trans (hb5.mono HB4.out.2.size)⟩
  have H9b : Hid (Calls Tryd.prog 9 #[.slice b1 lb bc, .slice d1 lb dc] w5 fun e w' => e = .returned (.bool true) ∧ Below w5.heap.size w5 w') := by
    have h := c13 (sd2 l) (sd2 l) _ _ w5 (HTo.out _ HB5.out.2).2 (HTc.out.2.below HB5.out.1)
    rw [eqT_refl] at h
    exact h
  clear hb5 H9a
  go_wp2_with fail
  refine H9b.out.mono ?_
  rintro e w6 ⟨rfl, hb6⟩
  have HB6 : Hid (Below w2.heap.size w2 w6 ∧ Below w1.heap.size w1 w6) := ⟨HB5.out.2.trans (hb6.mono HB5.out.2.size), HB2.out.trans ((HB5.out.2.trans (hb6.mono HB5.out.2.size)).mono HB2.out.size)⟩
  clear hb6 H9b
  have hff : (f != f) = false := by simp
  have HB7 : Hid (Below w1.heap.size w1 (w6.alloc (.cells #[.slice none 0 0, .slice none 0 0, .slice none 0 0, .slice none 0 0, .slice none 0 0] 36)) ∧ Below w2.heap.size w2 (w6.alloc (.cells #[.slice none 0 0, .slice none 0 0, .slice none 0 0, .slice none 0 0, .slice none 0 0] 36))) := ⟨HB6.out.2.alloc HB6.out.2.size _, HB6.out.1.alloc HB6.out.1.size _⟩
  have hbk := heap_alloc_new w6 (.cells #[.slice none 0 0, .slice none 0 0, .slice none 0 0, .slice none 0 0, .slice none 0 0] 36)
  have hz7 : w1.heap.size ≤ w6.heap.size := HB6.out.2.size
  cases f
  all_goals (
    go_wp2_with fail
    generalize (w6.alloc (.cells #[.slice none 0 0, .slice none 0 0, .slice none 0 0, .slice none 0 0, .slice none 0 0] 36)) = W7 at *
    obtain ⟨bk, hbke⟩ : ∃ bk, w6.heap.size = bk := ⟨_, rfl⟩
    rw [hbke] at hbk hz7 ⊢
    have hN : Bk.BkN W7 w1.heap.size bk (.slice none 0 0) [] [] := ⟨hbk, hz7, World.ownsRow_nil _ _ _ _, fun j v n hv => by simp at hv, fun j j' v v' g _ hv => by simp at hv⟩
    have HOa7 : Hid (OwnT W7 w1.heap.size (.slice a1 la ac) (sd1 l) ∧ OwnT W7 w1.heap.size (.slice b1 lb bc) (sd2 l)) := ⟨ownT_below HO.out.1 HB7.out.2, ownT_below HO.out.2.1 HB7.out.2⟩
    have H10a := Bk.b10 w1.heap.size bk _ [] [] a1 la ac (sd1 l) W7 hN HO.out.2.2.2.1 ⟨HOa7.out.1, fun _ _ => rfl⟩ (fun j v g hv => by simp at hv) (by simp)
    clear hN
    refine H10a.mono ?_
    rintro e W8 ⟨rfl, nv8, hN8, hb8, hk8⟩
    have HB8 : Hid (Below w1.heap.size w1 W8) := HB7.out.1.trans hb8
    have HOb8 : Hid (OwnT W8 w1.heap.size (.slice b1 lb bc) (sd2 l)) := by
      have h := HOa7.out.2
      refine ⟨h.1, ?_⟩
      rcases h.2 with hh | ⟨g', cap, cu, e1, e2, e3, e4⟩
      · exact .inl hh
      · refine .inr ⟨g', cap, cu, e1, e2, (hk8 g' (Array.getElem?_eq_some_iff.1 e3).1 (fun e => ?_) (fun cu' fr h => ?_)).trans e3, e4⟩
        · rw [e, hbk] at e3
          simp at e3
        · rw [h] at e3
          simp at e3
    have H10b := Bk.b10 w1.heap.size bk nv8 _ _ b1 lb bc (sd2 l) W8 hN8 HO.out.2.2.2.2 ⟨HOb8.out, fun _ _ => rfl⟩ (fun j v g hv hg => by
      match j with
      | 0 =>
        simp at hv
        subst hv
        exact HO.out.2.2.1 1 0 (.slice b1 lb bc) (.slice a1 la ac) g (by decide) rfl rfl hg
      | _ + 1 => simp at hv) (by simp)
    clear hN8 hb8 hk8 hbk H10a
    go_wp2_with fail
    refine H10b.mono ?_
    rintro e W9 ⟨rfl, nv9, hN9, hb9, _⟩
    have HB9 : Hid (Below w1.heap.size w1 W9) := HB8.out.trans hb9
    have H11 := Bk.b11 w1.heap.size bk nv9 _ _ W9 hN9 (by simp) (by intro n hn; simp at hn; rcases hn with rfl | rfl <;> omega)
    clear hN9 hb9 H10b
    go_wp2_with fail
    refine H11.mono ?_
    rintro e W10 ⟨rfl, hb10⟩
    have HB10 : Hid (Below w1.heap.size w1 W10) := HB9.out.trans hb10
    have H12 := k14 l (.slice va l.length vc) g W10 (HT.out.1.below (HBw.out _ HB10.out)) (range_below HG.out.1 HG.out.2.1 HB10.out) (Nat.lt_of_lt_of_le HG.out.2.1 HB10.out.size) hB
    clear hb10 H11
    go_wp2_with fail
    refine H12.mono ?_
    rintro e W11 ⟨rfl, hb11⟩
    have HB11 : Hid (Below w.heap.size w W11) := HBw.out _ (HB10.out.trans (hb11.mono HB10.out.size))
    clear hb11 H12
    go_wp2_with fail
    go_ret
    exact ⟨rfl, HB11.out⟩)
end Go.Proofs.YtljggjllijacjaaDoor
