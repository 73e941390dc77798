/- Contracts of HandTerms and KeptTerms. -/
import Derived.Test.YtojobiefambkoaaGreatDoorQP
import Derived.Test.YtojobiefambkoaaGreatDoorGQ

import Derived.Maps.AppendAt
namespace Go.Proofs.YtojobiefambkoaaGreatDoor
open Go.RowKit
attribute [local go_sem ↓] Go.wp_at_zero Go.wp_at_succ
theorem row_at {w : World} {u : Value} {ls : List (List C)} (h : RowAt w u ls) (i : Nat) (hi : i < ls.length) : ∃ b o cap x, u = .slice (some ⟨b, o, none⟩) ls.length cap ∧ w.cell? ⟨b, o + i, none⟩ = some x ∧ TermAt w x ls[i] ∧ b < w.heap.size := by
  obtain ⟨_, h⟩ := h
  rcases h with ⟨rfl, _⟩ | ⟨b, o, cap, vs, h1, h2, h3, h4, h5, h6, h7⟩
  · simp at hi
  · have hv : i < vs.length := by omega
    exact ⟨b, o, cap, vs[i], h1, row_cell h6 i hv, h7 i _ _ (List.getElem?_eq_getElem hv) (List.getElem?_eq_getElem hi), h4⟩
/-- A term as HandCells hands it. -/
def HandT (w : World) (u : Value) (l : List C) (g : Nat) : Prop := u = .slice (some ⟨g, 0, none⟩) l.length (l.length + 9) ∧ w.rangeAt g 0 (flat (handL l)) ∧ g < w.heap.size
theorem HandT.below {w w' : World} {u : Value} {l : List C} {g : Nat} (h : HandT w u l g) (hb : Below w.heap.size w w') : HandT w' u l g :=
  ⟨h.1, range_below h.2.1 h.2.2 hb, Nat.lt_of_lt_of_le h.2.2 hb.size⟩
theorem HandT.grown {w w' : World} {u : Value} {l : List C} {g : Nat} {o : Option Nat} (h : HandT w u l g) (hg : w.grownBy w' o) (ho : o ≠ some g) : HandT w' u l g :=
  ⟨h.1, fun j v hv => (hg.cell_far ⟨g, 0 + j, none⟩ h.2.2 (fun e => ho e.symm)).trans (h.2.1 j v hv), Nat.lt_of_lt_of_le h.2.2 hg.size⟩
/-- A row of terms as HandTerms hands it. -/
def HandR (w : World) (base : Nat) (u : Value) (ls : List (List C)) : Prop :=
  ∃ vs, w.ownsRow base 64 1 u ls.length vs ∧ vs.length = ls.length ∧ ∀ (i : Nat) (v : Value) (l : List C), vs[i]? = some v → ls[i]? = some l → ∃ g, HandT w v l g ∧ u.ownBlock ≠ some g
theorem HandR.below {w w' : World} {base : Nat} {u : Value} {ls : List (List C)} (h : HandR w base u ls) (hb : Below w.heap.size w w') : HandR w' base u ls := by
  obtain ⟨vs, h1, h2, h3⟩ := h
  refine ⟨vs, owns_below h1 hb, h2, fun i v l hv hl => ?_⟩
  obtain ⟨g, h4, h5⟩ := h3 i v l hv hl
  exact ⟨g, h4.below hb, h5⟩
/-- The block of a row of terms is none in which a term's cells lie. -/
theorem hand_apart {w : World} {base : Nat} {u : Value} {ls : List (List C)} {l : List C} {g : Nat} {v : Value} (h : HandR w base u ls) (h0 : 0 < ls.length) (ht : HandT w v l g) : u.ownBlock ≠ some g := by
  obtain ⟨vs, h1, h2, h3⟩ := h
  intro e
  rcases h1.2 with ⟨h4, h5⟩ | ⟨b, cap, cur, h4, h5, h6, h7, h8, h9, h10⟩
  · omega
  · rw [h4] at e
    simp [Value.ownBlock] at e
    subst e
    have hv : 0 < vs.length := by omega
    have r := range_of_owns h6 h10
    have c1 := r 0 vs[0] (List.getElem?_eq_getElem hv)
    obtain ⟨g', hT, _⟩ := h3 0 vs[0] ls[0] (List.getElem?_eq_getElem hv) (List.getElem?_eq_getElem h0)
    have hne : 0 < (handL l).length := by rw [handL_len]; omega
    obtain ⟨p0, _⟩ := term_cells ht.2.1 0 hne
    simp only [Nat.zero_mul, Nat.add_zero] at p0 c1
    rw [c1, hT.1] at p0
    simp at p0
theorem hand_row {w : World} {base : Nat} {u : Value} {ls : List (List C)} (h : HandR w base u ls) (hm : ls.length ≤ maxLen) (htx : ∀ l ∈ ls, ∀ c ∈ l, c.t.size ≤ maxLen) (hB : ∀ l ∈ ls, 48 * l.length ≤ 140737488355328) : RowAt w u ls := by
  obtain ⟨vs, h1, h2, h3⟩ := h
  cases hl : ls with
  | nil =>
    rw [hl] at h1
    rcases h1.2 with ⟨h4, _⟩ | ⟨b, cap, cur, h4, h5, h6, h7, h8, h9, h10⟩
    · exact ⟨by simp, .inl ⟨rfl, none, h4⟩⟩
    · exact ⟨by simp, .inr ⟨b, 0, cap, [], h4, by simp, h8, (Array.getElem?_eq_some_iff.1 h6).1, rfl, fun j v hv => by simp at hv, fun i u l hu => by simp at hu⟩⟩
  | cons a r =>
    rw [← hl]
    refine rowAt_of_owns h1 (by rw [hl]; simp) hm fun i v l hv hl' => ?_
    obtain ⟨g, h4, _⟩ := h3 i v l hv hl'
    rw [h4.1]
    exact hand_term h4.2.1 h4.2.2 (htx l (List.mem_of_getElem? hl')) (hB l (List.mem_of_getElem? hl'))
set_option maxRecDepth 100000 in
set_option maxHeartbeats 2000000 in
theorem k14h (ls : List (List C)) (v : Value) (w : World) (hR : RowAt w v ls) (hl : ls.length ≤ 5864062014805) (hB : ∀ l ∈ ls, 48 * l.length ≤ 140737488355328) :
    Calls Tryz.prog 7 #[v] w fun e w' => ∃ u, e = .returned u ∧ HandR w' w.heap.size u ls ∧ Below w.heap.size w w' := by
  have HR : Hid (RowAt w v ls) := hR
  have HB : Hid (∀ l ∈ ls, 48 * l.length ≤ 140737488355328) := hB
  obtain ⟨i0, hi, hz, hs, hby⟩ := info29
  obtain ⟨ad, cap, hv⟩ := hR.form
  subst hv
  clear hR hB
  go_enter Tryz.func7, Tryz.ntmps7
  go_wp2_with fail
  go_loopw [3, 4] (fun out i wr => ∃ k : Nat, k ≤ ls.length ∧ i = .int .i64 k ∧ Hid (HandR wr w.heap.size out (ls.take k)) ∧ (k = 0 → out.ownBlock = none) ∧ Below w.heap.size w wr) (fun _ i _ => ls.length - (intOf i).toNat)
  case atStart => exact ⟨0, by omega, rfl, ⟨[], World.ownsRow_nil _ _ _ _, rfl, fun i v l hv => by simp at hv⟩, fun _ => rfl, Below.refl _ _⟩
  case round =>
    obtain ⟨k, hk, rfl, HI, hk00, hbr⟩ := hrel
    have hsz := hbr.size
    by_cases hlt : k < ls.length
    · have hlt' : (k : Int) < (ls.length : Int) := by omega
      have hk0 : (0 : Int) ≤ (k : Int) := by omega
      obtain ⟨rb, ro, rc, y, hu, cy, hTy, hrb⟩ := row_at (HR.out.below hbr) k hlt
      simp only [Value.slice.injEq] at hu
      obtain ⟨rfl, _, rfl⟩ := hu
      have H28 := k21 ls[k] y wr hTy (HB.out _ (List.getElem_mem hlt))
      obtain ⟨ay, cpy, hy⟩ := hTy.form
      subst hy
      clear hTy
      have HTk : Hid (ls.take (k + 1) = ls.take k ++ [ls[k]]) := List.take_succ_eq_append_getElem hlt
      have hbl : 48 * ls[k].length ≤ 140737488355328 := HB.out _ (List.getElem_mem hlt)
      generalize hlk : ls[k] = l at *
      go_wp2_with fail
      refine H28.mono ?_
      rintro e w1 ⟨g, rfl, hr1, hg1, hb1⟩
      have hsz1 := hb1.size
      have HH1 : Hid (HandT w1 (.slice (some ⟨g, 0, none⟩) l.length (l.length + 9)) l g) := ⟨rfl, hr1, hg1⟩
      have HI1 : Hid (HandR w1 w.heap.size u3 (ls.take k)) := HI.out.below hb1
      have HAp : Hid (u3.ownBlock ≠ some g) := by
        by_cases h0 : k = 0
        · show u3.ownBlock ≠ some g
          rw [hk00 h0]; simp
        · exact hand_apart HI1.out (by rw [List.length_take]; omega) HH1.out
      have hbw1 : Below w.heap.size w w1 := hbr.trans (hb1.mono hsz)
      obtain ⟨vs, hO, hvl, hvs⟩ := HI1.out
      have HVs : Hid (vs.length = (ls.take k).length ∧ ∀ (i : Nat) (v : Value) (l : List C), vs[i]? = some v → (ls.take k)[i]? = some l → ∃ g, HandT w1 v l g ∧ u3.ownBlock ≠ some g) := ⟨hvl, hvs⟩
      have hkl : (ls.take k).length = k := by rw [List.length_take]; omega
      rw [hkl] at hO
      have HOa : Hid ((w1.alloc (.cells #[.slice (some ⟨g, 0, none⟩) l.length (l.length + 9)] 64)).ownsRow w.heap.size 64 1 u3 k vs) := hO.alloc _
      have HNews : Hid (∀ j u, [(.slice (some ⟨g, 0, none⟩) l.length (l.length + 9) : Value)][j]? = some u → (w1.alloc (.cells #[.slice (some ⟨g, 0, none⟩) l.length (l.length + 9)] 64)).cell? ((⟨w1.heap.size, 0, none⟩ : Addr).add j) = some u) := fun j u hu => by
        rw [Addr.add_mid]
        exact range_new w1 [.slice (some ⟨g, 0, none⟩) l.length (l.length + 9)] 64 j u hu
      have hbwa : Below w.heap.size w (w1.alloc (.cells #[.slice (some ⟨g, 0, none⟩) l.length (l.length + 9)] 64)) := hbw1.alloc hbw1.size _
      clear hO hvl hvs hr1 H28 cy
      go_wp2_with (at_builtin; refine wpList_append_own_at _ rfl _ _ 24 rfl w.heap.size 64 i0 (.slice none 0 0) 1 24 Tryz.underlying24 hi hz hs hby rfl (by decide) _ _ _ rfl HOa.out ⟨w1.heap.size, 0, none⟩ 1 1 [.slice (some ⟨g, 0, none⟩) l.length (l.length + 9)] rfl rfl HNews.out (fun x hx => by simp at hx; subst hx; rfl) (by unfold maxLen; omega) (by omega) (by simp; omega) ?_)
      intro v' w' hown hgr _ hloc
      have HF : Hid (HandR w' w.heap.size v' (ls.take (k + 1))) := by
        have hal : ∀ (u : Value) (m : List C) (q : Nat), HandT w1 u m q → u3.ownBlock ≠ some q → HandT w' u m q ∧ v'.ownBlock ≠ some q := fun u m q hT hne => by
          refine ⟨(hT.below (below_alloc _ _)).grown hgr hne, fun e => ?_⟩
          rcases hloc with h | h
          · rw [h] at e; exact hne e
          · rw [h] at e
            have := hT.2.2
            simp at e
            omega
        refine ⟨vs ++ [.slice (some ⟨g, 0, none⟩) l.length (l.length + 9)], ?_, ?_, ?_⟩
        · have e : (ls.take (k + 1)).length = k + 1 := by rw [List.length_take]; omega
          rw [e]; exact hown
        · rw [HTk.out, List.length_append, List.length_append, HVs.out.1]; rfl
        · intro i u m hu hm
          rw [HTk.out] at hm
          by_cases hi' : i < vs.length
          · rw [List.getElem?_append_left hi'] at hu
            rw [List.getElem?_append_left (by rw [← HVs.out.1]; exact hi')] at hm
            obtain ⟨q, h1, h2⟩ := HVs.out.2 i u m hu hm
            exact ⟨q, hal u m q h1 h2⟩
          · rw [List.getElem?_append_right (by omega)] at hu
            rw [List.getElem?_append_right (by rw [← HVs.out.1]; omega), ← HVs.out.1] at hm
            have h0 : i - vs.length = 0 := by
              have := (List.getElem?_eq_some_iff.1 hu).1
              simp at this; omega
            rw [h0] at hu hm
            simp at hu hm
            subst hu hm
            exact ⟨g, hal _ _ g HH1.out HAp.out⟩
      have HBf : Hid (Below w.heap.size w w') := hbwa.grown hgr (by simp; omega) (fun q hq => (HOa.out.lt q hq).1)
      clear hown hgr hloc
      go_wp2_with fail
      go_roundw
      case rel => exact ⟨k + 1, by omega, by go_num, HF, fun h => by omega, HBf.out⟩
      case measure => simp [intOf]; omega
    · have hlt' : ¬ ((k : Int) < (ls.length : Int)) := by omega
      rw [List.take_of_length_le (by omega)] at HI
      go_wp2_with fail
      go_ret
      exact ⟨_, rfl, HI.out, hbr⟩
set_option maxRecDepth 100000 in
set_option maxHeartbeats 2000000 in
theorem k21h (ls : List (List C)) (u v : Value) (base : Nat) (w : World) (hH : HandR w base u ls) (hR : RowAt w v ls) (hl : ls.length ≤ 5864062014805) (hB : ∀ l ∈ ls, 48 * l.length ≤ 140737488355328) :
    Calls Tryz.prog 19 #[u, v] w fun e w' => e = .returned (.bool true) ∧ Below w.heap.size w w' := by
  have HH : Hid (HandR w base u ls) := hH
  have HR : Hid (RowAt w v ls) := hR
  have HB : Hid (∀ l ∈ ls, 48 * l.length ≤ 140737488355328) := hB
  obtain ⟨ad, cap, hv⟩ := hR.form
  obtain ⟨vs, hO, hvl, hvs⟩ := hH
  obtain ⟨au, cu, hu⟩ := owns_form hO
  subst hv hu
  clear hR hB hO hvl hvs
  have hq : ((ls.length : Int) != (ls.length : Int)) = false := by simp
  go_enter Tryz.func19, Tryz.ntmps19
  go_wp2_with fail
  go_loopw [5] (fun i wr => ∃ k : Nat, k ≤ ls.length ∧ i = .int .i64 k ∧ Below w.heap.size w wr) (fun i _ => ls.length - (intOf i).toNat)
  case atStart => exact ⟨0, by omega, rfl, Below.refl _ _⟩
  case round =>
    obtain ⟨k, hk, rfl, hbr⟩ := hrel
    by_cases hlt : k < ls.length
    · have hlt' : (k : Int) < (ls.length : Int) := by omega
      have hk0 : (0 : Int) ≤ (k : Int) := by omega
      obtain ⟨rb, ro, rc, y, hu, cy, hTy, hrb⟩ := row_at (HR.out.below hbr) k hlt
      simp only [Value.slice.injEq] at hu
      obtain ⟨rfl, _, rfl⟩ := hu
      obtain ⟨vs, hO, hvl, hvs⟩ := HH.out.below hbr
      rcases hO.2 with ⟨h4, h5⟩ | ⟨b, cp, cur, h4, h5, h6, h7, h8, h9, h10⟩
      · omega
      simp only [Value.slice.injEq] at h4
      obtain ⟨rfl, _, rfl⟩ := h4
      have hkv : k < vs.length := by omega
      have cv := range_of_owns h6 h10 k vs[k] (List.getElem?_eq_getElem hkv)
      rw [Nat.zero_add] at cv
      obtain ⟨g, hT, _⟩ := hvs k vs[k] ls[k] (List.getElem?_eq_getElem hkv) (List.getElem?_eq_getElem hlt)
      rw [hT.1] at cv
      have H36 : Hid (∀ W, Below wr.heap.size wr W → Calls Tryz.prog 46 #[.slice (some ⟨g, 0, none⟩) ls[k].length (ls[k].length + 9), y] W fun e w' => e = .returned (.bool true) ∧ Below W.heap.size W w') := fun W hW => k36 ls[k] y g W (hTy.below hW) (hT.below hW).2.1 (hT.below hW).2.2 (HB.out _ (List.getElem_mem hlt))
      obtain ⟨ay, cpy, hy⟩ := hTy.form
      subst hy
      clear hTy hT hvs hvl hO h6 h7 h8 h9 h10 h5
      generalize ls[k].length = tl at *
      go_wp2_with fail
      first
        | go_region_with (go_at_call 46; refine (H36.out _ (Below.drew (Below.refl _ _))).mono ?_; rintro e w7 ⟨rfl, hb7⟩)
        | fail
      all_goals (
        have hb7' : Below wr.heap.size wr w7 := (Below.drew (Below.refl _ _)).trans hb7
        go_wp2_with fail
        go_roundw
        case rel => exact ⟨k + 1, by omega, by go_num, hbr.trans (hb7'.mono hbr.size)⟩
        case measure => simp [intOf]; omega)
    · have hlt' : ¬ ((k : Int) < (ls.length : Int)) := by omega
      go_wp2_with fail
      go_ret
      exact ⟨rfl, hbr⟩
end Go.Proofs.YtojobiefambkoaaGreatDoor
