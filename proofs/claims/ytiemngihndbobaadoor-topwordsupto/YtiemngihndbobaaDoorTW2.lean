/- The contract of TopWords. -/
import Derived.Test.YtiemngihndbobaaDoorTW1
namespace Go.Proofs.YtiemngihndbobaaDoor
open Go.RowKit
theorem term_form {w : World} {v : Value} {l : List Tm.C} (h : Tm.TermAt w v l) : ∃ ad cp, v = .slice ad l.length cp := by
  rcases h.2 with ⟨rfl, ad, rfl⟩ | ⟨b, o, cap, rfl, _⟩
  · exact ⟨ad, 0, rfl⟩
  · exact ⟨_, _, rfl⟩
set_option maxRecDepth 100000 in
set_option maxHeartbeats 4000000 in
theorem c4 (s : ByteArray) (w : World) (hS : Lx.Signs w) (hTS : Tm.Signs w) (hs : s.size ≤ 100000000) :
    Calls Tryd.prog 4 #[.string s] w fun e w' => e = .returned (.bool true) ∧ Below w.heap.size w w' := by
  have H13 := Lx.c13 s w hS (by omega)
  have H8a : ∀ w, Calls Tryd.prog 8 #[.string ⟨#[97]⟩] w fun e w' => e = .returned (.bool true) ∧ w' = w := fun w => Tm.c39 ⟨#[97]⟩ w (by unfold maxLen; decide)
  have H8 : ∀ w, Calls Tryd.prog 8 #[.string s] w fun e w' => e = .returned (.bool (Tm.isNameB s.data.toList)) ∧ w' = w := fun w => Tm.c39 s w (by unfold maxLen; omega)
  have HS : Hid (Tm.Signs w) := hTS
  have HN := name_all s
  have HA := all_name s
  have hal := Lx.all_len s
  obtain ⟨L, hL⟩ : ∃ L, Lx.allL s = L := ⟨_, rfl⟩
  rw [hL] at H13 HN HA hal
  obtain ⟨⟨ae, ap⟩, hE⟩ : ∃ x, Lx.allE s = x := ⟨_, rfl⟩
  rw [hE] at H13 HN HA
  clear hL hE hS hTS
  cases hn : Tm.isNameB s.data.toList
  · rw [hn] at H8 HN
    have HR : Hid (Tm.oneT ⟨2, s, 0, 0, 0⟩ = []) := by
      show Tm.oneT ⟨2, s, 0, 0, 0⟩ = []
      unfold Tm.oneT; rw [right_atom, hn]; rfl
    have HX : Hid (ae = 0 → ∀ x, L[0]? = some x → x.k = 1 → x.t = s → False) := fun h x hx hk ht => by
      have := HA h x hx hk ht
      rw [hn] at this; cases this
    clear HN HA hn
    go_enter Tryd.func4, Tryd.ntmps4
    go_wp2_with fail
    refine (H8a _).mono ?_
    rintro e w' ⟨rfl, hw'⟩
    obtain rfl := hw'.symm
    go_wp2_with fail
    refine H13.mono ?_
    clear H13
    rintro e w1 ⟨v, rfl, hO1, hb1⟩
    have HB1 : Hid (Below w.heap.size w w1) := hb1
    by_cases he : ae = 0
    · subst he
      by_cases hl2 : L.length = 2
      · obtain ⟨g, cp, hv, hr⟩ := Lx.owns_range hO1 (by omega)
        subst hv
        obtain ⟨x, y, hxy⟩ : ∃ x y, L = [x, y] := by
          match L, hl2 with
          | [x, y], _ => exact ⟨x, y, rfl⟩
        have c0 : w1.cell? ⟨g, 0, none⟩ = some (.int .u8 x.k) := by
          have := hr 0 (.int .u8 x.k) (by rw [hxy]; rfl)
          exact this
        have c1 : w1.cell? ⟨g, 1, none⟩ = some (.string x.t) := by
          have := hr 1 (.string x.t) (by rw [hxy]; rfl)
          exact this
        have HXX := HX.out rfl x (by rw [hxy]; rfl)
        rw [hl2]
        clear hr hO1 hb1 hxy HX
        by_cases hk : x.k = 1
        · have hne : (x.t.toList == s.toList) = false := by
            rw [ByteArray.toList_eq, ByteArray.toList_eq]
            cases hq : (x.t.data.toList == s.data.toList) with
            | false => rfl
            | true => exact (HXX hk (Lx.byte_ext (by simpa using hq))).elim
          rw [hk] at c0
          clear HXX hk
          go_wp2_with fail
          refine (Tm.c16 s w1 (HS.out.below HB1.out) (by unfold maxLen; omega)).mono ?_
          rintro e w2 ⟨v2, rfl, hT2, hb2⟩
          rw [HR.out] at hT2
          obtain ⟨ad2, cp2, hv2⟩ := term_form hT2
          subst hv2
          have HB2 : Hid (Below w1.heap.size w1 w2) := hb2
          clear hT2 hb2
          go_wp2_with fail
          refine (H8 _).mono ?_
          rintro e w' ⟨rfl, hw'⟩
          obtain rfl := hw'.symm
          go_wp2_with fail
          go_ret
          exact ⟨rfl, HB1.out.trans (HB2.out.mono HB1.out.size)⟩
        · have hne : (x.k == 1) = false := by simp [hk]
          clear HXX hk
          go_wp2_with fail
          refine (Tm.c16 s w1 (HS.out.below HB1.out) (by unfold maxLen; omega)).mono ?_
          rintro e w2 ⟨v2, rfl, hT2, hb2⟩
          rw [HR.out] at hT2
          obtain ⟨ad2, cp2, hv2⟩ := term_form hT2
          subst hv2
          have HB2 : Hid (Below w1.heap.size w1 w2) := hb2
          clear hT2 hb2
          go_wp2_with fail
          refine (H8 _).mono ?_
          rintro e w' ⟨rfl, hw'⟩
          obtain rfl := hw'.symm
          go_wp2_with fail
          go_ret
          exact ⟨rfl, HB1.out.trans (HB2.out.mono HB1.out.size)⟩
      · obtain ⟨ad1, cp1, hv⟩ : ∃ ad cp, v = .slice ad L.length cp := by
          rcases hO1.2 with h | ⟨g2, cp2, _, h1, _⟩
          · exact ⟨none, 0, by rw [h.1, h.2]⟩
          · exact ⟨_, cp2, h1⟩
        subst hv
        have hne : ((L.length : Int) == 2) = false := by simp; omega
        clear hO1 hb1 HX hl2
        go_wp2_with fail
        refine (Tm.c16 s w1 (HS.out.below HB1.out) (by unfold maxLen; omega)).mono ?_
        rintro e w2 ⟨v2, rfl, hT2, hb2⟩
        rw [HR.out] at hT2
        obtain ⟨ad2, cp2, hv2⟩ := term_form hT2
        subst hv2
        have HB2 : Hid (Below w1.heap.size w1 w2) := hb2
        clear hT2 hb2
        go_wp2_with fail
        refine (H8 _).mono ?_
        rintro e w' ⟨rfl, hw'⟩
        obtain rfl := hw'.symm
        go_wp2_with fail
        go_ret
        exact ⟨rfl, HB1.out.trans (HB2.out.mono HB1.out.size)⟩
    · obtain ⟨ad1, cp1, hv⟩ : ∃ ad cp, v = .slice ad L.length cp := by
        rcases hO1.2 with h | ⟨g2, cp2, _, h1, _⟩
        · exact ⟨none, 0, by rw [h.1, h.2]⟩
        · exact ⟨_, cp2, h1⟩
      subst hv
      have hne : (ae == 0) = false := by simp [he]
      clear hO1 hb1 HX he
      go_wp2_with fail
      refine (Tm.c16 s w1 (HS.out.below HB1.out) (by unfold maxLen; omega)).mono ?_
      rintro e w2 ⟨v2, rfl, hT2, hb2⟩
      rw [HR.out] at hT2
      obtain ⟨ad2, cp2, hv2⟩ := term_form hT2
      subst hv2
      have HB2 : Hid (Below w1.heap.size w1 w2) := hb2
      clear hT2 hb2
      go_wp2_with fail
      refine (H8 _).mono ?_
      rintro e w' ⟨rfl, hw'⟩
      obtain rfl := hw'.symm
      go_wp2_with fail
      go_ret
      exact ⟨rfl, HB1.out.trans (HB2.out.mono HB1.out.size)⟩
  · have HN := HN hn
    rw [hn] at H8
    have HR : Hid (Tm.oneT ⟨2, s, 0, 0, 0⟩ = [⟨2, s, 0, 0, 0⟩]) := by
      show Tm.oneT ⟨2, s, 0, 0, 0⟩ = _
      unfold Tm.oneT; rw [right_atom, hn]; rfl
    have HRR : Hid (Tm.rightB [⟨2, s, 0, 0, 0⟩] = true) := by
      show Tm.rightB _ = true
      rw [right_atom, hn]
    clear HA hn
    obtain ⟨he, hLe⟩ := HN
    have he1 : ae = 0 := congrArg Prod.fst he
    subst he1
    have HLe : Hid (L = [⟨1, s, 0, 0, 0⟩, ⟨0, ⟨#[]⟩, 0, 0, (s.size : Int)⟩]) := hLe
    have hl2 : L.length = 2 := by rw [hLe]; rfl
    clear hLe he
    go_enter Tryd.func4, Tryd.ntmps4
    go_wp2_with fail
    refine (H8a _).mono ?_
    rintro e w' ⟨rfl, hw'⟩
    obtain rfl := hw'.symm
    go_wp2_with fail
    refine H13.mono ?_
    clear H13
    rintro e w1 ⟨v, rfl, hO1, hb1⟩
    have HB1 : Hid (Below w.heap.size w w1) := hb1
    obtain ⟨g, cp, hv, hr⟩ := Lx.owns_range hO1 (by omega)
    subst hv
    have c0 : w1.cell? ⟨g, 0, none⟩ = some (.int .u8 1) := by
      have := hr 0 (.int .u8 1) (by rw [HLe.out]; rfl)
      exact this
    have c1 : w1.cell? ⟨g, 1, none⟩ = some (.string s) := by
      have := hr 1 (.string s) (by rw [HLe.out]; rfl)
      exact this
    have q1 : (s.toList == s.toList) = true := by simp
    rw [hl2] at *
    clear hr hO1 hb1
    go_wp2_with fail
    refine (Tm.c16 s w1 (HS.out.below HB1.out) (by unfold maxLen; omega)).mono ?_
    rintro e w2 ⟨v2, rfl, hT2, hb2⟩
    rw [HR.out] at hT2
    have HB2 : Hid (Below w.heap.size w w2) := HB1.out.trans (hb2.mono HB1.out.size)
    have H11 := Tm.c22 _ v2 w2 hT2 (HS.out.below HB2.out)
    rw [HRR.out] at H11
    obtain ⟨ad2, cp2, hv2⟩ := term_form hT2
    subst hv2
    clear hT2 hb2
    go_wp2_with fail
    refine (H8 _).mono ?_
    rintro e w' ⟨rfl, hw'⟩
    obtain rfl := hw'.symm
    go_wp2_with fail
    refine H11.mono ?_
    rintro e w3 ⟨rfl, hb3⟩
    go_wp2_with fail
    go_ret
    exact ⟨rfl, HB2.out.trans (hb3.mono HB2.out.size)⟩
end Go.Proofs.YtiemngihndbobaaDoor
