/- The contract of LexJoins. -/
import Derived.Test.YtiemngihndbobaaDoorLxJ3
namespace Go.Proofs.YtiemngihndbobaaDoor.Lx
open Go.RowKit
theorem owns_apart {w : World} {base : Nat} {e e' : TypeId} {v v' : Value} {n n' sz sz' : Nat} {xs xs' : List Value} (h : w.ownsRow base e sz v n xs) (h' : w.ownsRow base e' sz' v' n' xs') (he : e ≠ e') (g : Nat) (h1 : v.ownBlock = some g) : v'.ownBlock ≠ some g := by
  intro h2
  rcases h.2 with ⟨a1, _⟩ | ⟨g1, _, _, a1, _, a3, _⟩
  · rw [a1] at h1; cases h1
  · rcases h'.2 with ⟨b1, _⟩ | ⟨g2, _, _, b1, _, b3, _⟩
    · rw [b1] at h2; cases h2
    · rw [a1] at h1; rw [b1] at h2
      cases h1; cases h2
      rw [a3] at b3
      cases b3
      exact he rfl
theorem owns_grown {w w' : World} {base : Nat} {e : TypeId} {v : Value} {n sz : Nat} {xs : List Value} {row : Option Nat} (h : w.ownsRow base e sz v n xs) (hg : w.grownBy w' row) (hne : ∀ g, v.ownBlock = some g → row ≠ some g) : w'.ownsRow base e sz v n xs := by
  refine ⟨h.1, ?_⟩
  rcases h.2 with hn | ⟨g, cap, cur, h1, h2, h3, h4⟩
  · exact Or.inl hn
  · exact Or.inr ⟨g, cap, cur, h1, h2, (hg.block g (Array.getElem?_eq_some_iff.1 h3).1 (fun e => hne g (by rw [h1]; rfl) e.symm)).trans h3, h4⟩
set_option maxRecDepth 100000 in
theorem c19n (w : World) : Calls Tryd.prog 6 #[.slice none 0 0] w fun e w' => e = .returned (.string ⟨#[]⟩) ∧ Below w.heap.size w w' := by
  go_enter Tryd.func6, Tryd.ntmps6
  go_wp2_with fail
  go_loopw [3, 8] (fun tv kv wr => tv = .slice none 0 0 ∧ kv = .int .i64 0 ∧ wr = w) (fun _ _ _ => 0)
  case atStart => exact ⟨rfl, rfl, rfl⟩
  case round =>
    obtain ⟨rfl, rfl, rfl⟩ := hrel
    go_wp2_with fail
    refine (Tryd.strings_Join_none none 0 ⟨#[32]⟩ _).mono ?_
    rintro e w' ⟨rfl, rfl⟩
    go_wp2_with fail
    go_ret
    exact ⟨rfl, Below.refl _ _⟩
theorem c19v (L : List T) (v : Value) (base : Nat) (w : World) (hO : w.ownsRow base 27 5 v L.length (flatT L)) (hlen : L.length ≤ 1000000000) (hsum : (L.map (·.t.size)).sum ≤ 1000000000) :
    Calls Tryd.prog 6 #[v] w fun e w' => e = .returned (.string ⟨(joinL ((textsOf L).map (·.data.toList))).toArray⟩) ∧ Below w.heap.size w w' := by
  by_cases hn : 0 < L.length
  · obtain ⟨g, c, e, hr⟩ := owns_range hO hn
    have hg : g < w.heap.size := (hO.lt g (by rw [e]; rfl)).2
    rw [e]
    exact c19 L g c w hr hg hlen hsum
  · have h0 : L = [] := List.eq_nil_of_length_eq_zero (by omega)
    subst h0
    rcases hO.2 with h | ⟨g, c, cur, h1, _, h3, _⟩
    · rw [h.1]
      exact c19n w
    · have := c19 [] g c w (fun j u hu => by simp at hu) (Array.getElem?_eq_some_iff.1 h3).1 (by simp) (by simp)
      rw [h1]; exact this
theorem texts_cells {w : World} {base : Nat} {v : Value} {L : List T} (hO : w.ownsRow base 29 5 v L.length (flat29 L)) :
    ∃ ad cap, v = .slice ad L.length cap ∧ ∀ i x, L[i]? = some x → ∃ g, ad = some ⟨g, 0, none⟩ ∧ g < w.heap.size ∧ w.cell? ⟨g, i * 5 + 1, none⟩ = some (.string x.t) := by
  by_cases hn : 0 < L.length
  · obtain ⟨g, c, e, hr⟩ := owns_range hO hn
    refine ⟨_, c, e, fun i x hx => ⟨g, rfl, (hO.lt g (by rw [e]; rfl)).2, ?_⟩⟩
    obtain ⟨hi, hxe⟩ := List.getElem?_eq_some_iff.1 hx
    exact tok_cells T.vals29 (fun _ => rfl) hr i hi 1 (.string x.t) (by omega) (by rw [hxe]; rfl)
  · have h0 : L = [] := List.eq_nil_of_length_eq_zero (by omega)
    subst h0
    rcases hO.2 with h | ⟨g, c, cur, h1, _⟩
    · exact ⟨none, 0, h.1, fun i x hx => by simp at hx⟩
    · exact ⟨_, c, h1, fun i x hx => by simp at hx⟩
/-- The tokens of texts. -/
def signT5 (t : ByteArray) : T := ⟨5, t, 0, 0, 0⟩
theorem sign_sum (l : List ByteArray) : ((l.map signT5).map (·.t.size)).sum = (l.map (·.size)).sum := by rw [List.map_map]; rfl
set_option maxRecDepth 100000 in
set_option maxHeartbeats 4000000 in
theorem c3 (ad : Option Addr) (cap : Nat) (ts : List ByteArray) (w : World) (hS : Signs w) (hlen : ts.length ≤ 10000000) (hsum : (ts.map (·.size)).sum ≤ 10000000)
    (hK : ∀ j x, ts[j]? = some x → ∃ b o, ad = some ⟨b, o, none⟩ ∧ b < w.heap.size ∧ w.cell? ⟨b, o + j, none⟩ = some (.string x)) :
    Calls Tryd.prog 3 #[.slice ad ts.length cap] w fun e w' => e = .returned (.bool true) ∧ Below w.heap.size w w' := by
  obtain ⟨i24, hi24, hz24, hs24, hb24⟩ := info24
  obtain ⟨i29, hi29, hz29, hs29, hb29⟩ := info29
  have HS : Hid (Signs w) := hS
  have HK : Hid (∀ j x, ts[j]? = some x → ∃ b o, ad = some ⟨b, o, none⟩ ∧ b < w.heap.size ∧ w.cell? ⟨b, o + j, none⟩ = some (.string x)) := hK
  clear hS hK
  go_enter Tryd.func3, Tryd.ntmps3
  go_wp2_with fail
  go_loopw [3, 4, 5] (fun lv mv kv wr => ∃ (k : Nat) (l0 m0 : Value), l0 = lv ∧ m0 = mv ∧ k ≤ ts.length ∧ kv = .int .i64 k ∧ Hid (wr.ownsRow w.heap.size 27 5 l0 ((ts.take k).map signT5).length (flatT ((ts.take k).map signT5))) ∧ Hid (wr.ownsRow w.heap.size 29 5 m0 ((ts.take k).map signT5).length (flat29 ((ts.take k).map signT5))) ∧ Below w.heap.size w wr) (fun _ _ kv _ => ts.length - (intOf kv).toNat)
  case atStart => exact ⟨0, _, _, rfl, rfl, Nat.zero_le _, rfl, World.ownsRow_nil _ _ _ _, World.ownsRow_nil _ _ _ _, Below.refl _ _⟩
  case round =>
    obtain ⟨k, l0, m0, hl0, hm0, hk, rfl, HO1, HO2, hbr⟩ := hrel
    subst hl0 hm0
    have hsz := hbr.size
    by_cases hlt : k < ts.length
    · have hlt' : (k : Int) < (ts.length : Int) := by omega
      have hk0 : (0 : Int) ≤ (k : Int) := by omega
      obtain ⟨b, o, had, hb, hc⟩ := HK.out k ts[k] (List.getElem?_eq_getElem hlt)
      have htk : (ts.take (k + 1)).map signT5 = (ts.take k).map signT5 ++ [signT5 ts[k]] := by rw [List.take_succ_eq_append_getElem hlt, List.map_append]; rfl
      have hcr := (hbr.cell (p := ⟨b, o + k, none⟩) hb).trans hc
      have htl : ((ts.take k).map signT5).length = k := by rw [List.length_map, List.length_take]; omega
      generalize ts[k] = x at *
      subst had
      have HTK : Hid ((ts.take (k + 1)).map signT5 = (ts.take k).map signT5 ++ [signT5 x]) := htk
      have HAP : Hid (∀ g, m0.ownBlock = some g → l0.ownBlock ≠ some g) := owns_apart HO2.out HO1.out (by decide)
      have hbw : b < wr.heap.size := Nat.lt_of_lt_of_le hb hsz
      have HL0 : Hid (∀ g, l0.ownBlock = some g → w.heap.size ≤ g) := fun g hg => (HO1.out.lt g hg).1
      clear htk hc
      have HCR : Hid (wr.cell? ⟨b, o + k, none⟩ = some (.string x)) := hcr
      have HB1 : ∀ o1 : Obj, Hid (Below w.heap.size w (wr.alloc o1)) := fun o1 => hbr.alloc hsz o1
      go_wp2_with (at_builtin; refine wpList_append_own _ rfl _ _ 23 rfl w.heap.size 27 i24 zero24 5 48 Tryd.underlying23 hi24 hz24 hs24 hb24 rfl (by decide) _ _ _ rfl (HO1.out.alloc _) ⟨wr.heap.size, 0, none⟩ 1 1 (flatT [signT5 x]) rfl rfl (newsT wr (signT5 x)) (flatT_one _) (by unfold maxLen; omega) (by omega) (by simp; omega) ?_)
      intro v' w3 hown' hgrow hnil
      have HO1' : Hid (w3.ownsRow w.heap.size 27 5 v' ((ts.take (k + 1)).map signT5).length (flatT ((ts.take (k + 1)).map signT5))) := by
        show w3.ownsRow _ _ _ _ _ _
        rw [HTK.out, List.length_append, htl, flatT_append, List.map_take]
        exact hown'
      have HO2' : Hid (w3.ownsRow w.heap.size 29 5 m0 ((ts.take k).map signT5).length (flat29 ((ts.take k).map signT5))) := owns_grown (HO2.out.alloc _) hgrow HAP.out
      have HB3 : Hid (Below w.heap.size w w3) := (HB1 _).out.grown hgrow (by simp; omega) HL0.out
      have hcr3 : w3.cell? ⟨b, o + k, none⟩ = some (.string x) := (HB3.out.cell (p := ⟨b, o + k, none⟩) hb).trans (by rw [← HCR.out]; exact (hbr.cell (p := ⟨b, o + k, none⟩) hb).symm)
      have hsz3 := HB3.out.size
      have HAP3 : Hid (∀ g, v'.ownBlock = some g → m0.ownBlock ≠ some g) := owns_apart HO1'.out HO2'.out (by decide)
      have HM0 : Hid (∀ g, m0.ownBlock = some g → w.heap.size ≤ g) := fun g hg => (HO2'.out.lt g hg).1
      clear hown' hgrow hnil hcr HCR HO1 HO2 hbr
      go_wp2_with (at_builtin; refine wpList_append_own _ rfl _ _ 24 rfl w.heap.size 29 i29 zero29 5 48 Tryd.underlying24 hi29 hz29 hs29 hb29 rfl (by decide) _ _ _ rfl (HO2'.out.alloc _) ⟨w3.heap.size, 0, none⟩ 1 1 (flat29 [signT5 x]) rfl rfl (news29 w3 (signT5 x)) (flat29_one _) (by unfold maxLen; omega) (by omega) (by simp; omega) ?_)
      intro v4 w4 hown4 hgrow4 hnil4
      have HO2'' : Hid (w4.ownsRow w.heap.size 29 5 v4 ((ts.take (k + 1)).map signT5).length (flat29 ((ts.take (k + 1)).map signT5))) := by
        show w4.ownsRow _ _ _ _ _ _
        rw [HTK.out, List.length_append, htl, flat29_append, List.map_take]
        exact hown4
      have HO1'' : Hid (w4.ownsRow w.heap.size 27 5 v' ((ts.take (k + 1)).map signT5).length (flatT ((ts.take (k + 1)).map signT5))) := owns_grown (HO1'.out.alloc _) hgrow4 HAP3.out
      have HB4 : Hid (Below w.heap.size w w4) := (HB3.out.alloc hsz3 _).grown hgrow4 (by simp; omega) HM0.out
      clear hown4 hgrow4 hnil4 hcr3
      go_wp2_with fail
      go_roundw
      case rel => exact ⟨k + 1, _, _, rfl, rfl, by omega, by go_num, HO1'', HO2'', HB4.out⟩
      case measure => simp [intOf]; omega
    · obtain rfl : k = ts.length := by omega
      have hlt' : ¬ ((ts.length : Int) < (ts.length : Int)) := by omega
      obtain ⟨L, hL⟩ : ∃ L, ts.map signT5 = L := ⟨_, rfl⟩
      have hLl : L.length = ts.length := by rw [← hL, List.length_map]
      have hLs : (L.map (·.t.size)).sum ≤ 10000000 := by rw [← hL, sign_sum]; exact hsum
      have HOl : Hid (wr.ownsRow w.heap.size 27 5 l0 L.length (flatT L)) := by
        have := HO1.out
        rw [List.take_length, hL] at this; exact this
      have HOm : Hid (wr.ownsRow w.heap.size 29 5 m0 L.length (flat29 L)) := by
        have := HO2.out
        rw [List.take_length, hL] at this; exact this
      have HBR : Hid (Below w.heap.size w wr) := hbr
      clear HO1 HO2 hL
      go_wp2_with fail
      refine (c11 wr (HS.out.below hbr)).mono ?_
      rintro e w2 ⟨rfl, hb2⟩
      have HB2 : Hid (Below w.heap.size w w2) := hbr.trans (hb2.mono hsz)
      have H6 := c19v L l0 w.heap.size w2 (owns_below5 HOl.out hb2) (by omega) (by omega)
      obtain ⟨am, cm, ham, hcm⟩ := texts_cells (owns_below5 HOm.out hb2)
      subst ham
      have H7 := fun (W : World) (hb : Below w2.heap.size w2 W) => c7 L am cm W (fun i x hx => by
        obtain ⟨g, h1, h2, h3⟩ := hcm i x hx
        exact ⟨g, h1, (hb.cell (p := ⟨g, i * 5 + 1, none⟩) h2).trans h3⟩) (by omega) (by omega)
      have HLl : Hid (L.length = ts.length) := hLl
      clear hcm hb2 HOl HOm hLs hLl
      generalize (⟨(joinL ((textsOf L).map (·.data.toList))).toArray⟩ : ByteArray) = js at *
      have q3 : (js.toList == js.toList) = true := by simp
      go_wp2_with fail
      refine H6.mono ?_
      rintro e w3 ⟨rfl, hb3⟩
      have HB3 : Hid (Below w2.heap.size w2 w3) := hb3
      go_wp2_with fail
      refine (H7 _ hb3).mono ?_
      rintro e w4 ⟨rfl, rfl⟩
      go_wp2_with fail
      refine (c19n _).mono ?_
      rintro e w5 ⟨rfl, hb5⟩
      go_wp2_with fail
      go_ret
      exact ⟨rfl, HB2.out.trans ((HB3.out.trans (hb5.mono HB3.out.size)).mono HB2.out.size)⟩
end Go.Proofs.YtiemngihndbobaaDoor.Lx
