/- Contract of NetOwn. -/
import Derived.Test.YthpbfaddojcohaaBI
namespace Go.Proofs.Ythpbfaddojcohaa
open Go.RowKit
attribute [local go_sem ↓] Go.wp_at_zero Go.wp_at_succ
set_option maxRecDepth 100000 in
set_option maxHeartbeats 4000000 in
theorem n6 (a : Option Addr) (n c : Nat) (ds : List Dg) (cs : List Dc) (w : World) (hA : ArgRow w (fun q => q < w.heap.size) a n ds cs) (hn1 : (n + 1) * 56 ≤ 140737488355328) :
    Calls Try.prog 6 #[.slice a n c] w fun e w' => e = .returned (.bool true) ∧ Below w.heap.size w w' := by
  have HA : Hid (ArgRow w (fun q => q < w.heap.size) a n ds cs) := hA
  have hdl : ds.length = n := hA.len
  have hn : n * 56 ≤ 140737488355328 := by omega
  clear hA
  go_enter Try.func6, Try.ntmps6
  go_wp2_with fail
  refine (n10 w).mono ?_
  rintro e w1 ⟨rfl, hb1⟩
  have HB1 : Hid (Below w.heap.size w w1) := hb1
  clear hb1
  go_wp2_with fail
  refine (n8 4 (by decide) (by decide) w1).mono ?_
  rintro e w2 ⟨rfl, hw2⟩
  have hN2 : NtC w2 w1.heap.size w1.heap.size (.slice none 0 0) ⟨[], 0, 0, 0, 0, 4⟩ [] := ⟨⟨by rw [hw2]; exact heap_alloc_new w1 _, World.ownsRow_nil _ _ _ _⟩, rfl, fun i d x h => by simp at h⟩
  have hb2 : Below w1.heap.size w1 w2 := by rw [hw2]; exact (Below.refl _ w1).alloc (Nat.le_refl _) _
  have hs2 : w2.heap.size = w1.heap.size + 1 := by rw [hw2]; simp
  have hb02 : Below w.heap.size w w2 := HB1.out.trans (hb2.mono HB1.out.size)
  clear hw2
  have hs1 := HB1.out.size
  have H16 := n16 w1.heap.size w1.heap.size (.slice none 0 0) ⟨[], 0, 0, 0, 0, 4⟩ [] (fun q => q < w.heap.size) a n c ds cs w2 hN2 (by omega) (HA.out.kept fun q hq => hb02.block q hq) (fun q hq => ⟨by omega, by omega, by simp [Value.ownBlock]⟩) (by simpa using hn) (show (0 : Int) ≤ 0 by decide) (show (0 : Int) ≤ 1000000000000 by decide)
  have HN2 : Hid (NtC w2 w1.heap.size w1.heap.size (.slice none 0 0) ⟨[], 0, 0, 0, 0, 4⟩ [] ∧ Below w.heap.size w w2 ∧ w2.heap.size = w1.heap.size + 1) := ⟨hN2, hb02, hs2⟩
  generalize hnb : w1.heap.size = nb at *
  clear hN2 hb02 hb2 hs2
  simp only at H16
  obtain ⟨q, hq⟩ : ∃ q, allE 4 ds = q := ⟨_, rfl⟩
  rw [hq] at H16
  by_cases hq0 : q = 0
  · subst hq0
    have HE : Hid (allE 4 ds = 0) := hq
    clear hq
    go_wp2_with fail
    refine H16.mono ?_
    rintro e w3 ⟨rfl, hp3⟩
    clear H16
    obtain ⟨v3, l3, hN3, hb3⟩ : ∃ v3 l3, NtC w3 nb nb v3 ⟨l3, 0 + ds.length, 0, 0, 0, 4⟩ cs ∧ Below nb w2 w3 := by
      rcases hp3 with ⟨_, v', l', h1, h2⟩ | ⟨h1, _⟩
      · exact ⟨v', l', h1, h2.under HN2.out.1.at_ (Nat.le_refl _) (by have := HN2.out.2.2; omega)⟩
      · exact absurd HE.out h1
    clear hp3
    have hb03 : Below w.heap.size w w3 := HN2.out.2.1.trans (hb3.mono hs1)
    have hl3 : l3.length = n := by have := hN3.own.1; rw [HA.out.lenc] at this; exact this
    have HX : Hid (∀ x ∈ cs, x.xs.length ≤ 65536) := send_bytes HA.out HE.out
    have hs3 : nb ≤ w3.heap.size := by have := HN2.out.2.2; have := hb3.size; omega
    have HN3 : Hid (NtC w3 nb nb v3 ⟨l3, 0 + ds.length, 0, 0, 0, 4⟩ cs ∧ Below w.heap.size w w3 ∧ nb ≤ w3.heap.size ∧ l3.length = n) := ⟨hN3, hb03, hs3, hl3⟩
    clear hN3 hb03 hl3 hb3 hs3 HN2
    by_cases hz : n = 0
    · subst hz
      have hz1 : ¬ ((0 : Int) > 0) := by decide
      obtain ⟨v4, N4, cs4, HN4, HL, HX4⟩ : ∃ v4 N4 cs4, Hid (NtC w3 nb nb v4 N4 cs4 ∧ Below w.heap.size w w3) ∧ Hid (N4.l.length * 56 ≤ 140737488355328 ∧ (N4.l.length + N4.l.length + 1) * 24 ≤ 140737488355328) ∧ Hid (∀ x ∈ cs4, x.xs.length ≤ 65536) := by
        refine ⟨v3, _, cs, ⟨HN3.out.1, HN3.out.2.1⟩, ?_, HX⟩
        have e : l3.length = 0 := HN3.out.2.2.2
        show l3.length * 56 ≤ _ ∧ (l3.length + l3.length + 1) * 24 ≤ _
        rw [e]; decide
      clear HX HN3
      have HX := HX4
      clear HX4
      have H15 := n15 nb nb v4 N4 cs4 w3 HN4.out.1 HL.out.1 (fun x hx => Nat.le_trans (HX.out x hx) (by decide))
      go_wp2_with fail
      refine H15.mono ?_
      rintro e w5 ⟨u5, rfl, l5, ho5, hl5, hb5⟩
      clear H15
      obtain ⟨a5, c5, hu5⟩ := owns_slice ho5
      subst hu5
      have HW : Hid (w5.ownsRow w3.heap.size 46 5 (.slice a5 l5.length c5) l5.length (flatD l5) ∧ OwnL w5 w3.heap.size l5 cs4) := ⟨ho5, hl5⟩
      have HN5 : Hid (NtC w5 nb nb v4 N4 cs4 ∧ Below w.heap.size w w5 ∧ w.heap.size ≤ w5.heap.size) := ⟨HN4.out.1.below hb5, HN4.out.2.trans (hb5.mono HN4.out.2.size), Nat.le_trans HN4.out.2.size hb5.size⟩
      clear ho5 hl5 hb5 HN4
      have hbA : Below w5.heap.size w5 (w5.alloc (.cells #[.slice none 0 0, .slice none 0 0, .slice none 0 0, .slice none 0 0, .slice none 0 0] 64)) := (Below.refl _ w5).alloc (Nat.le_refl _) _
      have hS6 : BkS (w5.alloc (.cells #[.slice none 0 0, .slice none 0 0, .slice none 0 0, .slice none 0 0, .slice none 0 0] 64)) w5.heap.size w5.heap.size nilV nilV 0 0 [] [] := ⟨heap_alloc_new w5 _, Nat.le_refl _, World.ownsRow_nil _ _ _ _, World.ownsRow_nil _ _ _ _⟩
      have hz6 : w5.heap.size ≤ (w5.alloc (.cells #[.slice none 0 0, .slice none 0 0, .slice none 0 0, .slice none 0 0, .slice none 0 0] 64)).heap.size := by simp
      have H15b := n15a nb nb v4 N4 cs4 (w5.alloc (.cells #[.slice none 0 0, .slice none 0 0, .slice none 0 0, .slice none 0 0, .slice none 0 0] 64)) (HN5.out.1.below hbA) HL.out.1 (fun x hx => Nat.le_trans (HX.out x hx) (by decide))
      have HS6 : Hid (BkS (w5.alloc (.cells #[.slice none 0 0, .slice none 0 0, .slice none 0 0, .slice none 0 0, .slice none 0 0] 64)) w5.heap.size w5.heap.size nilV nilV 0 0 [] [] ∧ Below w5.heap.size w5 (w5.alloc (.cells #[.slice none 0 0, .slice none 0 0, .slice none 0 0, .slice none 0 0, .slice none 0 0] 64)) ∧ w5.heap.size ≤ (w5.alloc (.cells #[.slice none 0 0, .slice none 0 0, .slice none 0 0, .slice none 0 0, .slice none 0 0] 64)).heap.size) := ⟨hS6, hbA, hz6⟩
      clear hbA hS6 hz6
      go_wp2_with fail
      refine H15b.mono ?_
      rintro e w7 ⟨u7, rfl, l7, ho7, hl7, ha7, hb7⟩
      clear H15b
      have hS7 := HS6.out.1.below hb7
      have hR7 : Below w5.heap.size w5 w7 := HS6.out.2.1.trans (hb7.mono HS6.out.2.2)
      have hB7 : w5.heap.size ≤ (w5.alloc (.cells #[.slice none 0 0, .slice none 0 0, .slice none 0 0, .slice none 0 0, .slice none 0 0] 64)).heap.size := HS6.out.2.2
      have hc7 : l7.length = N4.l.length := by rw [hl7.1, ← HN5.out.1.own.1]
      have H24 := n24 w5.heap.size w5.heap.size nilV nilV 0 0 [] [] u7 _ l7 w7 hS7 ho7 (bound1 HL.out.2 hc7)
      obtain ⟨A7, hA7, hl7'⟩ : ∃ A7, w5.heap.size ≤ A7 ∧ OwnL w7 A7 l7 cs4 := ⟨_, hB7, hl7⟩
      have H7 : Hid (w5.heap.size ≤ A7 ∧ OwnL w7 A7 l7 cs4 ∧ ApL l7 ∧ l7.length = N4.l.length ∧ Below w5.heap.size w5 w7) := ⟨hA7, hl7', ha7, hc7, hR7⟩
      clear hS7 hR7 hB7 hc7 hl7 ha7 hA7 hl7' ho7 hb7 HS6
      go_wp2_with fail
      refine H24.mono ?_
      rintro e w8 ⟨rfl, bv8, hS8, hk8, hb8⟩
      clear H24
      have hR8 : Below w5.heap.size w5 w8 := H7.out.2.2.2.2.trans hb8
      have H15c := n15a nb nb v4 N4 cs4 w8 (HN5.out.1.below hR8) HL.out.1 (fun x hx => Nat.le_trans (HX.out x hx) (by decide))
      have H8 : Hid (BkS w8 w5.heap.size w5.heap.size bv8 nilV (0 + l7.length) 0 ([] ++ l7.map slV) [] ∧ OwnL w8 A7 l7 cs4 ∧ Below w5.heap.size w5 w8 ∧ w5.heap.size ≤ w8.heap.size) := ⟨hS8, ownL_kt H7.out.2.1 hk8, hR8, hR8.size⟩
      clear hS8 hk8 hb8 hR8
      go_wp2_with fail
      refine H15c.mono ?_
      rintro e w9 ⟨u9, rfl, l9, ho9, hl9, ha9, hb9⟩
      clear H15c
      have hc9 : l9.length = N4.l.length := by rw [hl9.1, ← HN5.out.1.own.1]
      have hR9 : Below w5.heap.size w5 w9 := H8.out.2.2.1.trans (hb9.mono H8.out.2.2.2)
      have H24b := n24 w5.heap.size w5.heap.size bv8 nilV (0 + l7.length) 0 ([] ++ l7.map slV) [] u9 _ l9 w9 (H8.out.1.below hb9) ho9 (bound2 HL.out.2 H7.out.2.2.2.1 hc9)
      have H9 : Hid (OwnL w9 w8.heap.size l9 cs4 ∧ ApL l9 ∧ l9.length = N4.l.length ∧ Below w5.heap.size w5 w9 ∧ OwnL w9 A7 l7 cs4 ∧ w5.heap.size ≤ w8.heap.size ∧ (∀ (i : Nat) (d : Dg) (g : Nat), l7[i]? = some d → (slD d).ownBlock = some g → g < w8.heap.size)) := ⟨hl9, ha9, hc9, hR9, H8.out.2.1.below hb9, H8.out.2.2.2, fun i d g h1 h2 => (own_low H8.out.2.1 i d g h1 h2).2⟩
      clear hl9 ha9 hc9 hR9 ho9 hb9 H8
      go_wp2_with fail
      refine H24b.mono ?_
      rintro e w10 ⟨rfl, bv10, hS10, hk10, hb10⟩
      clear H24b
      have hR10 : Below w5.heap.size w5 w10 := H9.out.2.2.2.1.trans hb10
      have H26 := n26 nb nb v4 N4 1 w10 (HN5.out.1.below hR10).at_ HL.out.1
      have H10 : Hid (BkS w10 w5.heap.size w5.heap.size bv10 nilV (0 + l7.length + l9.length) 0 ([] ++ l7.map slV ++ l9.map slV) [] ∧ OwnL w10 A7 l7 cs4 ∧ OwnL w10 w8.heap.size l9 cs4 ∧ Below w5.heap.size w5 w10) := ⟨hS10, ownL_kt H9.out.2.2.2.2.1 hk10, ownL_kt H9.out.1 hk10, hR10⟩
      clear hS10 hk10 hb10 hR10
      go_wp2_with fail
      refine H26.mono ?_
      rintro e w11 ⟨u11, rfl, ho11, hb11⟩
      clear H26
      obtain ⟨a11, c11, hu11⟩ := rowv_form ho11
      have hR11 : Below w5.heap.size w5 w11 := H10.out.2.2.2.trans (hb11.mono H10.out.2.2.2.size)
      have H25 := n25 w5.heap.size w5.heap.size bv10 nilV (0 + l7.length + l9.length) 0 ([] ++ l7.map slV ++ l9.map slV) [] a11 (toP 1 (enum N4.l)).length c11 w11 (H10.out.1.below hb11) (by decide)
      have H11 : Hid (w11.ownsRow w10.heap.size 3 1 u11 (toP 1 (enum N4.l)).length (toP 1 (enum N4.l)) ∧ OwnL w11 A7 l7 cs4 ∧ OwnL w11 w8.heap.size l9 cs4 ∧ Below w5.heap.size w5 w11 ∧ w5.heap.size ≤ w10.heap.size) := ⟨ho11, H10.out.2.1.below hb11, H10.out.2.2.1.below hb11, hR11, H10.out.2.2.2.size⟩
      clear ho11 hb11 hR11 H10
      subst hu11
      go_wp2_with fail
      refine H25.mono ?_
      rintro e w12 ⟨rfl, iv12, hS12, hk12, hb12⟩
      clear H25
      have hR12 : Below w5.heap.size w5 w12 := H11.out.2.2.2.1.trans hb12
      have H26b := n26 nb nb v4 N4 1 w12 (HN5.out.1.below hR12).at_ HL.out.1
      have H12 : Hid (w12.ownsRow w10.heap.size 3 1 (.slice a11 (toP 1 (enum N4.l)).length c11) (toP 1 (enum N4.l)).length (toP 1 (enum N4.l)) ∧ OwnL w12 A7 l7 cs4 ∧ OwnL w12 w8.heap.size l9 cs4 ∧ Below w5.heap.size w5 w12 ∧ w5.heap.size ≤ w10.heap.size ∧ BkS w12 w5.heap.size w5.heap.size bv10 iv12 (0 + l7.length + l9.length) (0 + 1) ([] ++ l7.map slV ++ l9.map slV) ([] ++ [.slice a11 (toP 1 (enum N4.l)).length c11])) := ⟨hk12.owns (by decide) H11.out.1, ownL_kt H11.out.2.1 hk12, ownL_kt H11.out.2.2.1 hk12, hR12, H11.out.2.2.2.2, hS12⟩
      clear hS12 hk12 hb12 hR12 H11
      go_wp2_with fail
      refine H26b.mono ?_
      rintro e w13 ⟨u13, rfl, ho13, hb13⟩
      clear H26b
      obtain ⟨a13, c13, hu13⟩ := rowv_form ho13
      have hR13 : Below w5.heap.size w5 w13 := H12.out.2.2.2.1.trans (hb13.mono H12.out.2.2.2.1.size)
      have H25b := n25 w5.heap.size w5.heap.size bv10 iv12 (0 + l7.length + l9.length) (0 + 1) ([] ++ l7.map slV ++ l9.map slV) ([] ++ [.slice a11 (toP 1 (enum N4.l)).length c11]) a13 (toP 1 (enum N4.l)).length c13 w13 (H12.out.2.2.2.2.2.below hb13) (by decide)
      have H13 : Hid (w13.ownsRow w12.heap.size 3 1 u13 (toP 1 (enum N4.l)).length (toP 1 (enum N4.l)) ∧ w13.ownsRow w10.heap.size 3 1 (.slice a11 (toP 1 (enum N4.l)).length c11) (toP 1 (enum N4.l)).length (toP 1 (enum N4.l)) ∧ OwnL w13 A7 l7 cs4 ∧ OwnL w13 w8.heap.size l9 cs4 ∧ Below w5.heap.size w5 w13 ∧ w5.heap.size ≤ w10.heap.size ∧ w5.heap.size ≤ w12.heap.size ∧ (∀ g, (Value.slice a11 (toP 1 (enum N4.l)).length c11).ownBlock = some g → g < w12.heap.size)) := ⟨ho13, owns_below H12.out.1 hb13, H12.out.2.1.below hb13, H12.out.2.2.1.below hb13, hR13, H12.out.2.2.2.2.1, H12.out.2.2.2.1.size, fun g hg => (owns_lt H12.out.1 hg).2⟩
      clear ho13 hb13 hR13 H12
      subst hu13
      go_wp2_with fail
      refine H25b.mono ?_
      rintro e w14 ⟨rfl, iv14, hS14, hk14, hb14⟩
      clear H25b
      have hR14 : Below w5.heap.size w5 w14 := H13.out.2.2.2.2.1.trans hb14
      have hS14' : BkS w14 w5.heap.size w5.heap.size bv10 iv14 (l7 ++ l9).length 2 ((l7 ++ l9).map slV) [.slice a11 (toP 1 (enum N4.l)).length c11, .slice a13 (toP 1 (enum N4.l)).length c13] := by
        rw [List.length_append, List.map_append]
        have := hS14
        simp only [List.nil_append, Nat.zero_add, List.cons_append] at this
        exact this
      have h7 := ownL_kt H13.out.2.2.1 hk14
      have h9 := ownL_kt H13.out.2.2.2.1 hk14
      have hPB := bytesP1 hS14' rfl (fun d hd => by
        rcases List.mem_append.1 hd with hd | hd
        · exact dok_of h7 H7.out.1 d hd
        · exact dok_of h9 H9.out.2.2.2.2.2.1 d hd) (H7.out.2.2.1.append H9.out.2.1 w8.heap.size H9.out.2.2.2.2.2.2 (fun i d g h1 h2 => (own_low h9 i d g h1 h2).1))
      have hPI := intsP1 w12.heap.size hS14' (ownZ_to (hk14.owns (by decide) H13.out.2.1) H13.out.2.2.2.2.2.1) (ownZ_to (hk14.owns (by decide) H13.out.1) H13.out.2.2.2.2.2.2.1) H13.out.2.2.2.2.2.2.2 (fun g hg => (owns_lt (hk14.owns (by decide) H13.out.1) hg).1)
      have hbn : ∀ n ∈ (l7 ++ l9).map (·.bn), n ≤ 10000000000000 := fun n hn => by
        obtain ⟨d, hd, rfl⟩ := List.mem_map.1 hn
        have key : ∀ {A : Nat} {l : List Dg}, OwnL w14 A l cs4 → d ∈ l → d.bn ≤ 65536 := fun {A l} h hd => by
          obtain ⟨i, hi, e⟩ := List.getElem_of_mem hd
          have hic : i < cs4.length := by rw [← h.1]; exact hi
          have h2 := (h.2 i d cs4[i] (by rw [List.getElem?_eq_getElem hi, e]) (List.getElem?_eq_getElem hic)).1.2.2.2.2
          rw [h2]
          exact HX.out _ (List.getElem_mem hic)
        rcases List.mem_append.1 hd with hd | hd
        · exact Nat.le_trans (key h7 hd) (by decide)
        · exact Nat.le_trans (key h9 hd) (by decide)
      have hln : ((l7 ++ l9).map (·.bn)).length * 24 ≤ 140737488355328 := by
        rw [List.length_map, List.length_append]
        exact bound3 HL.out.2 H7.out.2.2.2.1 H9.out.2.2.1
      have hzl : (toZ 1 (enum N4.l)).length ≤ 10000000000000 := by
        have h1 := toZ_length 1 (enum N4.l)
        rw [enum_length] at h1
        exact bound4 HL.out.1 h1
      have H27 := n27 w5.heap.size w5.heap.size bv10 iv14 _ _ _ _ w14 hPB hPI hln (show 2 * 24 ≤ 140737488355328 by decide) hbn (fun n hn => by simp at hn; rw [hn]; exact hzl)
      have HR14 : Hid (Below w5.heap.size w5 w14) := hR14
      clear hS14 hS14' hk14 hb14 hR14 h7 h9 hPB hPI hbn hln hzl H7 H9 H13
      go_wp2_with fail
      refine H27.mono ?_
      rintro e w15 ⟨rfl, hb15⟩
      clear H27
      have hR15 : Below w5.heap.size w5 w15 := HR14.out.trans hb15
      have H15d := n15 nb nb v4 N4 cs4 w15 (HN5.out.1.below hR15) HL.out.1 (fun x hx => Nat.le_trans (HX.out x hx) (by decide))
      have HR15 : Hid (Below w5.heap.size w5 w15) := hR15
      clear hR15 hb15 HR14
      go_wp2_with fail
      refine H15d.mono ?_
      rintro e w16 ⟨u16, rfl, l16, ho16, hl16, hb16⟩
      clear H15d
      obtain ⟨a16, c16, hu16⟩ := owns_slice ho16
      subst hu16
      have hR16 : Below w5.heap.size w5 w16 := HR15.out.trans (hb16.mono HR15.out.size)
      have hA16 := (arg_of_own ho16 hl16).2
      have hA5 := ((arg_of_own HW.out.1 HW.out.2).2).below hR16
      have e16 : l16.length = N4.l.length := by rw [hl16.1, ← HN5.out.1.own.1]
      have e5 : l5.length = N4.l.length := by rw [HW.out.2.1, ← HN5.out.1.own.1]
      rw [e16] at hA16 ⊢
      rw [e5] at hA5 ⊢
      have H22 := n22 _ _ a16 N4.l.length c16 l16 a5 c5 l5 cs4 w16 hA16 hA5 (fun _ h => h) (fun _ h => h) (fun x hx => Nat.le_trans (HX.out x hx) (by decide)) (bound5 HL.out.1)
      have HR16 : Hid (Below w.heap.size w w16) := HN5.out.2.1.trans (hR16.mono HN5.out.2.2)
      clear hR16 hA16 hA5 e16 e5 ho16 hl16 hb16 HW HR15
      go_wp2_with fail
      refine H22.mono ?_
      rintro e w17 ⟨rfl, hb17⟩
      clear H22
      go_wp2_with fail
      go_ret
      exact ⟨rfl, HR16.out.trans (hb17.mono HR16.out.size)⟩
    · have hz1 : (n : Int) > 0 := by omega
      obtain ⟨m, hm⟩ : ∃ m, n = m + 1 := ⟨n - 1, by omega⟩
      have hc0 : 0 < cs.length := by rw [HA.out.lenc]; omega
      have H20 := n20 nb nb v3 ⟨l3, 0 + ds.length, 0, 0, 0, 4⟩ cs 0 cs[0] w3 HN3.out.1 HN3.out.2.2.1 (by show 0 < l3.length; rw [HN3.out.2.2.2]; omega) (List.getElem?_eq_getElem hc0) (show (0 : Int) ≤ 0 by decide) (show (0 : Int) ≤ 1000000000000 by decide) (by show (l3.length + 1) * 56 ≤ _; rw [HN3.out.2.2.2]; exact hn1)
      have HX0 : Hid (∀ x ∈ cs ++ [cs[0]], x.xs.length ≤ 65536) := fun x hx => by
        rcases List.mem_append.1 hx with hx | hx
        · exact HX.out x hx
        · simp at hx; subst hx; exact HX.out _ (List.getElem_mem hc0)
      clear hm
      go_wp2_with fail
      refine H20.mono ?_
      rintro e w4 ⟨rfl, v4, l4, hN4, hF4⟩
      clear H20
      obtain ⟨N4, cs4, HN4, HL, HX4⟩ : ∃ N4 cs4, Hid (NtC w4 nb nb v4 N4 cs4 ∧ Below w.heap.size w w4) ∧ Hid (N4.l.length * 56 ≤ 140737488355328 ∧ (N4.l.length + N4.l.length + 1) * 24 ≤ 140737488355328) ∧ Hid (∀ x ∈ cs4, x.xs.length ≤ 65536) := by
        refine ⟨_, _, ⟨hN4, HN3.out.2.1.trans ((hF4.under HN3.out.1.at_ (Nat.le_refl _) HN3.out.2.2.1).mono hs1)⟩, ?_, HX0⟩
        have e : l4.length = n + 1 := by have := hN4.own.1; rw [List.length_append, HA.out.lenc] at this; exact this
        show l4.length * 56 ≤ _ ∧ (l4.length + l4.length + 1) * 24 ≤ _
        rw [e]; omega
      clear hN4 hF4 HN3 HX0 HX
      have HX := HX4
      clear HX4
      have H15 := n15 nb nb v4 N4 cs4 w4 HN4.out.1 HL.out.1 (fun x hx => Nat.le_trans (HX.out x hx) (by decide))
      go_wp2_with fail
      refine H15.mono ?_
      rintro e w5 ⟨u5, rfl, l5, ho5, hl5, hb5⟩
      clear H15
      obtain ⟨a5, c5, hu5⟩ := owns_slice ho5
      subst hu5
      have HW : Hid (w5.ownsRow w4.heap.size 46 5 (.slice a5 l5.length c5) l5.length (flatD l5) ∧ OwnL w5 w4.heap.size l5 cs4) := ⟨ho5, hl5⟩
      have HN5 : Hid (NtC w5 nb nb v4 N4 cs4 ∧ Below w.heap.size w w5 ∧ w.heap.size ≤ w5.heap.size) := ⟨HN4.out.1.below hb5, HN4.out.2.trans (hb5.mono HN4.out.2.size), Nat.le_trans HN4.out.2.size hb5.size⟩
      clear ho5 hl5 hb5 HN4
      have hbA : Below w5.heap.size w5 (w5.alloc (.cells #[.slice none 0 0, .slice none 0 0, .slice none 0 0, .slice none 0 0, .slice none 0 0] 64)) := (Below.refl _ w5).alloc (Nat.le_refl _) _
      have hS6 : BkS (w5.alloc (.cells #[.slice none 0 0, .slice none 0 0, .slice none 0 0, .slice none 0 0, .slice none 0 0] 64)) w5.heap.size w5.heap.size nilV nilV 0 0 [] [] := ⟨heap_alloc_new w5 _, Nat.le_refl _, World.ownsRow_nil _ _ _ _, World.ownsRow_nil _ _ _ _⟩
      have hz6 : w5.heap.size ≤ (w5.alloc (.cells #[.slice none 0 0, .slice none 0 0, .slice none 0 0, .slice none 0 0, .slice none 0 0] 64)).heap.size := by simp
      have H15b := n15a nb nb v4 N4 cs4 (w5.alloc (.cells #[.slice none 0 0, .slice none 0 0, .slice none 0 0, .slice none 0 0, .slice none 0 0] 64)) (HN5.out.1.below hbA) HL.out.1 (fun x hx => Nat.le_trans (HX.out x hx) (by decide))
      have HS6 : Hid (BkS (w5.alloc (.cells #[.slice none 0 0, .slice none 0 0, .slice none 0 0, .slice none 0 0, .slice none 0 0] 64)) w5.heap.size w5.heap.size nilV nilV 0 0 [] [] ∧ Below w5.heap.size w5 (w5.alloc (.cells #[.slice none 0 0, .slice none 0 0, .slice none 0 0, .slice none 0 0, .slice none 0 0] 64)) ∧ w5.heap.size ≤ (w5.alloc (.cells #[.slice none 0 0, .slice none 0 0, .slice none 0 0, .slice none 0 0, .slice none 0 0] 64)).heap.size) := ⟨hS6, hbA, hz6⟩
      clear hbA hS6 hz6
      go_wp2_with fail
      refine H15b.mono ?_
      rintro e w7 ⟨u7, rfl, l7, ho7, hl7, ha7, hb7⟩
      clear H15b
      have hS7 := HS6.out.1.below hb7
      have hR7 : Below w5.heap.size w5 w7 := HS6.out.2.1.trans (hb7.mono HS6.out.2.2)
      have hB7 : w5.heap.size ≤ (w5.alloc (.cells #[.slice none 0 0, .slice none 0 0, .slice none 0 0, .slice none 0 0, .slice none 0 0] 64)).heap.size := HS6.out.2.2
      have hc7 : l7.length = N4.l.length := by rw [hl7.1, ← HN5.out.1.own.1]
      have H24 := n24 w5.heap.size w5.heap.size nilV nilV 0 0 [] [] u7 _ l7 w7 hS7 ho7 (bound1 HL.out.2 hc7)
      obtain ⟨A7, hA7, hl7'⟩ : ∃ A7, w5.heap.size ≤ A7 ∧ OwnL w7 A7 l7 cs4 := ⟨_, hB7, hl7⟩
      have H7 : Hid (w5.heap.size ≤ A7 ∧ OwnL w7 A7 l7 cs4 ∧ ApL l7 ∧ l7.length = N4.l.length ∧ Below w5.heap.size w5 w7) := ⟨hA7, hl7', ha7, hc7, hR7⟩
      clear hS7 hR7 hB7 hc7 hl7 ha7 hA7 hl7' ho7 hb7 HS6
      go_wp2_with fail
      refine H24.mono ?_
      rintro e w8 ⟨rfl, bv8, hS8, hk8, hb8⟩
      clear H24
      have hR8 : Below w5.heap.size w5 w8 := H7.out.2.2.2.2.trans hb8
      have H15c := n15a nb nb v4 N4 cs4 w8 (HN5.out.1.below hR8) HL.out.1 (fun x hx => Nat.le_trans (HX.out x hx) (by decide))
      have H8 : Hid (BkS w8 w5.heap.size w5.heap.size bv8 nilV (0 + l7.length) 0 ([] ++ l7.map slV) [] ∧ OwnL w8 A7 l7 cs4 ∧ Below w5.heap.size w5 w8 ∧ w5.heap.size ≤ w8.heap.size) := ⟨hS8, ownL_kt H7.out.2.1 hk8, hR8, hR8.size⟩
      clear hS8 hk8 hb8 hR8
      go_wp2_with fail
      refine H15c.mono ?_
      rintro e w9 ⟨u9, rfl, l9, ho9, hl9, ha9, hb9⟩
      clear H15c
      have hc9 : l9.length = N4.l.length := by rw [hl9.1, ← HN5.out.1.own.1]
      have hR9 : Below w5.heap.size w5 w9 := H8.out.2.2.1.trans (hb9.mono H8.out.2.2.2)
      have H24b := n24 w5.heap.size w5.heap.size bv8 nilV (0 + l7.length) 0 ([] ++ l7.map slV) [] u9 _ l9 w9 (H8.out.1.below hb9) ho9 (bound2 HL.out.2 H7.out.2.2.2.1 hc9)
      have H9 : Hid (OwnL w9 w8.heap.size l9 cs4 ∧ ApL l9 ∧ l9.length = N4.l.length ∧ Below w5.heap.size w5 w9 ∧ OwnL w9 A7 l7 cs4 ∧ w5.heap.size ≤ w8.heap.size ∧ (∀ (i : Nat) (d : Dg) (g : Nat), l7[i]? = some d → (slD d).ownBlock = some g → g < w8.heap.size)) := ⟨hl9, ha9, hc9, hR9, H8.out.2.1.below hb9, H8.out.2.2.2, fun i d g h1 h2 => (own_low H8.out.2.1 i d g h1 h2).2⟩
      clear hl9 ha9 hc9 hR9 ho9 hb9 H8
      go_wp2_with fail
      refine H24b.mono ?_
      rintro e w10 ⟨rfl, bv10, hS10, hk10, hb10⟩
      clear H24b
      have hR10 : Below w5.heap.size w5 w10 := H9.out.2.2.2.1.trans hb10
      have H26 := n26 nb nb v4 N4 1 w10 (HN5.out.1.below hR10).at_ HL.out.1
      have H10 : Hid (BkS w10 w5.heap.size w5.heap.size bv10 nilV (0 + l7.length + l9.length) 0 ([] ++ l7.map slV ++ l9.map slV) [] ∧ OwnL w10 A7 l7 cs4 ∧ OwnL w10 w8.heap.size l9 cs4 ∧ Below w5.heap.size w5 w10) := ⟨hS10, ownL_kt H9.out.2.2.2.2.1 hk10, ownL_kt H9.out.1 hk10, hR10⟩
      clear hS10 hk10 hb10 hR10
      go_wp2_with fail
      refine H26.mono ?_
      rintro e w11 ⟨u11, rfl, ho11, hb11⟩
      clear H26
      obtain ⟨a11, c11, hu11⟩ := rowv_form ho11
      have hR11 : Below w5.heap.size w5 w11 := H10.out.2.2.2.trans (hb11.mono H10.out.2.2.2.size)
      have H25 := n25 w5.heap.size w5.heap.size bv10 nilV (0 + l7.length + l9.length) 0 ([] ++ l7.map slV ++ l9.map slV) [] a11 (toP 1 (enum N4.l)).length c11 w11 (H10.out.1.below hb11) (by decide)
      have H11 : Hid (w11.ownsRow w10.heap.size 3 1 u11 (toP 1 (enum N4.l)).length (toP 1 (enum N4.l)) ∧ OwnL w11 A7 l7 cs4 ∧ OwnL w11 w8.heap.size l9 cs4 ∧ Below w5.heap.size w5 w11 ∧ w5.heap.size ≤ w10.heap.size) := ⟨ho11, H10.out.2.1.below hb11, H10.out.2.2.1.below hb11, hR11, H10.out.2.2.2.size⟩
      clear ho11 hb11 hR11 H10
      subst hu11
      go_wp2_with fail
      refine H25.mono ?_
      rintro e w12 ⟨rfl, iv12, hS12, hk12, hb12⟩
      clear H25
      have hR12 : Below w5.heap.size w5 w12 := H11.out.2.2.2.1.trans hb12
      have H26b := n26 nb nb v4 N4 1 w12 (HN5.out.1.below hR12).at_ HL.out.1
      have H12 : Hid (w12.ownsRow w10.heap.size 3 1 (.slice a11 (toP 1 (enum N4.l)).length c11) (toP 1 (enum N4.l)).length (toP 1 (enum N4.l)) ∧ OwnL w12 A7 l7 cs4 ∧ OwnL w12 w8.heap.size l9 cs4 ∧ Below w5.heap.size w5 w12 ∧ w5.heap.size ≤ w10.heap.size ∧ BkS w12 w5.heap.size w5.heap.size bv10 iv12 (0 + l7.length + l9.length) (0 + 1) ([] ++ l7.map slV ++ l9.map slV) ([] ++ [.slice a11 (toP 1 (enum N4.l)).length c11])) := ⟨hk12.owns (by decide) H11.out.1, ownL_kt H11.out.2.1 hk12, ownL_kt H11.out.2.2.1 hk12, hR12, H11.out.2.2.2.2, hS12⟩
      clear hS12 hk12 hb12 hR12 H11
      go_wp2_with fail
      refine H26b.mono ?_
      rintro e w13 ⟨u13, rfl, ho13, hb13⟩
      clear H26b
      obtain ⟨a13, c13, hu13⟩ := rowv_form ho13
      have hR13 : Below w5.heap.size w5 w13 := H12.out.2.2.2.1.trans (hb13.mono H12.out.2.2.2.1.size)
      have H25b := n25 w5.heap.size w5.heap.size bv10 iv12 (0 + l7.length + l9.length) (0 + 1) ([] ++ l7.map slV ++ l9.map slV) ([] ++ [.slice a11 (toP 1 (enum N4.l)).length c11]) a13 (toP 1 (enum N4.l)).length c13 w13 (H12.out.2.2.2.2.2.below hb13) (by decide)
      have H13 : Hid (w13.ownsRow w12.heap.size 3 1 u13 (toP 1 (enum N4.l)).length (toP 1 (enum N4.l)) ∧ w13.ownsRow w10.heap.size 3 1 (.slice a11 (toP 1 (enum N4.l)).length c11) (toP 1 (enum N4.l)).length (toP 1 (enum N4.l)) ∧ OwnL w13 A7 l7 cs4 ∧ OwnL w13 w8.heap.size l9 cs4 ∧ Below w5.heap.size w5 w13 ∧ w5.heap.size ≤ w10.heap.size ∧ w5.heap.size ≤ w12.heap.size ∧ (∀ g, (Value.slice a11 (toP 1 (enum N4.l)).length c11).ownBlock = some g → g < w12.heap.size)) := ⟨ho13, owns_below H12.out.1 hb13, H12.out.2.1.below hb13, H12.out.2.2.1.below hb13, hR13, H12.out.2.2.2.2.1, H12.out.2.2.2.1.size, fun g hg => (owns_lt H12.out.1 hg).2⟩
      clear ho13 hb13 hR13 H12
      subst hu13
      go_wp2_with fail
      refine H25b.mono ?_
      rintro e w14 ⟨rfl, iv14, hS14, hk14, hb14⟩
      clear H25b
      have hR14 : Below w5.heap.size w5 w14 := H13.out.2.2.2.2.1.trans hb14
      have hS14' : BkS w14 w5.heap.size w5.heap.size bv10 iv14 (l7 ++ l9).length 2 ((l7 ++ l9).map slV) [.slice a11 (toP 1 (enum N4.l)).length c11, .slice a13 (toP 1 (enum N4.l)).length c13] := by
        rw [List.length_append, List.map_append]
        have := hS14
        simp only [List.nil_append, Nat.zero_add, List.cons_append] at this
        exact this
      have h7 := ownL_kt H13.out.2.2.1 hk14
      have h9 := ownL_kt H13.out.2.2.2.1 hk14
      have hPB := bytesP1 hS14' rfl (fun d hd => by
        rcases List.mem_append.1 hd with hd | hd
        · exact dok_of h7 H7.out.1 d hd
        · exact dok_of h9 H9.out.2.2.2.2.2.1 d hd) (H7.out.2.2.1.append H9.out.2.1 w8.heap.size H9.out.2.2.2.2.2.2 (fun i d g h1 h2 => (own_low h9 i d g h1 h2).1))
      have hPI := intsP1 w12.heap.size hS14' (ownZ_to (hk14.owns (by decide) H13.out.2.1) H13.out.2.2.2.2.2.1) (ownZ_to (hk14.owns (by decide) H13.out.1) H13.out.2.2.2.2.2.2.1) H13.out.2.2.2.2.2.2.2 (fun g hg => (owns_lt (hk14.owns (by decide) H13.out.1) hg).1)
      have hbn : ∀ n ∈ (l7 ++ l9).map (·.bn), n ≤ 10000000000000 := fun n hn => by
        obtain ⟨d, hd, rfl⟩ := List.mem_map.1 hn
        have key : ∀ {A : Nat} {l : List Dg}, OwnL w14 A l cs4 → d ∈ l → d.bn ≤ 65536 := fun {A l} h hd => by
          obtain ⟨i, hi, e⟩ := List.getElem_of_mem hd
          have hic : i < cs4.length := by rw [← h.1]; exact hi
          have h2 := (h.2 i d cs4[i] (by rw [List.getElem?_eq_getElem hi, e]) (List.getElem?_eq_getElem hic)).1.2.2.2.2
          rw [h2]
          exact HX.out _ (List.getElem_mem hic)
        rcases List.mem_append.1 hd with hd | hd
        · exact Nat.le_trans (key h7 hd) (by decide)
        · exact Nat.le_trans (key h9 hd) (by decide)
      have hln : ((l7 ++ l9).map (·.bn)).length * 24 ≤ 140737488355328 := by
        rw [List.length_map, List.length_append]
        exact bound3 HL.out.2 H7.out.2.2.2.1 H9.out.2.2.1
      have hzl : (toZ 1 (enum N4.l)).length ≤ 10000000000000 := by
        have h1 := toZ_length 1 (enum N4.l)
        rw [enum_length] at h1
        exact bound4 HL.out.1 h1
      have H27 := n27 w5.heap.size w5.heap.size bv10 iv14 _ _ _ _ w14 hPB hPI hln (show 2 * 24 ≤ 140737488355328 by decide) hbn (fun n hn => by simp at hn; rw [hn]; exact hzl)
      have HR14 : Hid (Below w5.heap.size w5 w14) := hR14
      clear hS14 hS14' hk14 hb14 hR14 h7 h9 hPB hPI hbn hln hzl H7 H9 H13
      go_wp2_with fail
      refine H27.mono ?_
      rintro e w15 ⟨rfl, hb15⟩
      clear H27
      have hR15 : Below w5.heap.size w5 w15 := HR14.out.trans hb15
      have H15d := n15 nb nb v4 N4 cs4 w15 (HN5.out.1.below hR15) HL.out.1 (fun x hx => Nat.le_trans (HX.out x hx) (by decide))
      have HR15 : Hid (Below w5.heap.size w5 w15) := hR15
      clear hR15 hb15 HR14
      go_wp2_with fail
      refine H15d.mono ?_
      rintro e w16 ⟨u16, rfl, l16, ho16, hl16, hb16⟩
      clear H15d
      obtain ⟨a16, c16, hu16⟩ := owns_slice ho16
      subst hu16
      have hR16 : Below w5.heap.size w5 w16 := HR15.out.trans (hb16.mono HR15.out.size)
      have hA16 := (arg_of_own ho16 hl16).2
      have hA5 := ((arg_of_own HW.out.1 HW.out.2).2).below hR16
      have e16 : l16.length = N4.l.length := by rw [hl16.1, ← HN5.out.1.own.1]
      have e5 : l5.length = N4.l.length := by rw [HW.out.2.1, ← HN5.out.1.own.1]
      rw [e16] at hA16 ⊢
      rw [e5] at hA5 ⊢
      have H22 := n22 _ _ a16 N4.l.length c16 l16 a5 c5 l5 cs4 w16 hA16 hA5 (fun _ h => h) (fun _ h => h) (fun x hx => Nat.le_trans (HX.out x hx) (by decide)) (bound5 HL.out.1)
      have HR16 : Hid (Below w.heap.size w w16) := HN5.out.2.1.trans (hR16.mono HN5.out.2.2)
      clear hR16 hA16 hA5 e16 e5 ho16 hl16 hb16 HW HR15
      go_wp2_with fail
      refine H22.mono ?_
      rintro e w17 ⟨rfl, hb17⟩
      clear H22
      go_wp2_with fail
      go_ret
      exact ⟨rfl, HR16.out.trans (hb17.mono HR16.out.size)⟩
  · have hq1 : (q == 0) = false := by simpa using hq0
    have hq2 : (q != 0) = true := by simpa using hq0
    have HE : Hid (allE 4 ds ≠ 0) := by show allE 4 ds ≠ 0; rw [hq]; exact hq0
    clear hq
    go_wp2_with fail
    refine H16.mono ?_
    rintro e w3 ⟨rfl, hp3⟩
    clear H16
    have hb3 : Below w2.heap.size w2 w3 := by
      rcases hp3 with ⟨h1, _⟩ | ⟨_, h2⟩
      · exact absurd h1 HE.out
      · exact h2
    have HB3 : Hid (Below w.heap.size w w3) := HN2.out.2.1.trans (hb3.mono HN2.out.2.1.size)
    clear hp3 hb3
    go_wp2_with fail
    go_ret
    exact ⟨rfl, HB3.out⟩
end Go.Proofs.Ythpbfaddojcohaa
