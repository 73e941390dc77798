/- Contract of TermPuts: it returns true. -/
import Derived.Test.YtpepogmkbcbmpaaDoorV5
import Derived.Test.YtpepogmkbcbmpaaDoorN3
namespace Go.Proofs.YtpepogmkbcbmpaaDoor
open Go.RowKit
theorem row_texts {w : World} {u : Value} {ls : List (List C)} (h : RowAt w u ls) : ∀ x ∈ ls, ∀ c ∈ x, c.t.size ≤ maxLen := by
  intro x hx c hc
  obtain ⟨_, h⟩ := h
  rcases h with ⟨rfl, _⟩ | ⟨b, o, cap, vs, _, _, _, _, h5, _, h7⟩
  · simp at hx
  · obtain ⟨j, hj, rfl⟩ := List.getElem_of_mem hx
    exact (h7 j _ _ (List.getElem?_eq_getElem (by omega)) (List.getElem?_eq_getElem hj)).1.2 c hc
theorem putL_mem {l : List C} {ls : List (List C)} {c : C} (h : c ∈ putL ls l) : c ∈ l ∨ ∃ x ∈ ls, c ∈ x := by
  unfold putL at h
  obtain ⟨d, hd, hc⟩ := List.mem_flatMap.1 h
  unfold putC at hc
  split at hc
  · cases hq : ls[d.vk.toNat]? with
    | none => rw [hq] at hc; simp at hc
    | some x => rw [hq] at hc; exact .inr ⟨x, List.mem_of_getElem? hq, hc⟩
  · simp at hc; subst hc; exact .inl hd
theorem putT_mem {l : List C} {ls : List (List C)} {c : C} (h : c ∈ putT l ls) : c ∈ l ∨ ∃ x ∈ ls, c ∈ x := by
  unfold putT at h
  split at h
  · exact putL_mem h
  · simp at h
theorem putT_le {l : List C} {ls : List (List C)} : (putT l ls).length ≤ 256 := by
  unfold putT
  split
  · rename_i h
    unfold putE at h
    split at h
    · split at h
      · simp at h
      · split at h
        · simp at h
        · omega
    · simp at h
  · simp
theorem put_term {w w' : World} {v u t : Value} {l : List C} {ls : List (List C)} {base : Nat} (hT : TermAt w v l) (hR : RowAt w u ls) (h : OwnT w' base t (putT l ls)) : TermAt w' t (putT l ls) := by
  refine ownT_term h (Nat.le_trans putT_le (by simp [maxLen])) ?_
  intro c hc
  rcases putT_mem hc with h | ⟨x, hx, hc⟩
  · exact hT.1.2 c h
  · exact row_texts hR x hx c hc
theorem global_same (l : List C) : globalB l = refGlobalB l := by
  unfold globalB refGlobalB
  cases hr : rightB l
  · simp
  · rw [Bool.and_true, Bool.true_and]
    have h := right_vars hr
    rw [Bool.eq_iff_iff, List.all_eq_true, List.all_eq_true]
    constructor
    · intro h1 x hx
      have := h1 x hx
      have := h x hx
      simp at *; omega
    · intro h1 x hx
      have := h1 x hx
      have := h x hx
      simp at *; omega
set_option maxRecDepth 100000 in
set_option maxHeartbeats 8000000 in
theorem c5 (l : List C) (v : Value) (ls : List (List C)) (u : Value) (w : World) (hT : TermAt w v l) (hR : RowAt w u ls) (hS : Signs w)
    (h48 : l.length * 48 ≤ 140737488355328) (h24 : ls.length * 24 ≤ 140737488355328) (hr48 : ∀ x ∈ ls, x.length * 48 ≤ 140737488355328) (hV : (varsAll ls).length ≤ 1000000000000) (hW : ∀ x ∈ varsAll ls, wfN x) :
    Calls Tryd.prog 5 #[v, u] w fun e w' => e = .returned (.bool true) ∧ Below w.heap.size w w' := by
  have HT : Hid (TermAt w v l) := hT
  have HR : Hid (RowAt w u ls) := hR
  have HS : Hid (Signs w) := hS
  have HX : Hid (∀ c ∈ l, c.t.size ≤ maxLen) := hT.1.2
  have H48 : Hid (∀ x ∈ ls, x.length * 48 ≤ 140737488355328) := hr48
  have HW : Hid (∀ x ∈ varsAll ls, wfN x) := hW
  have hlm : l.length ≤ maxLen := hT.1.1
  clear hT hR hS hr48 hW
  go_enter Tryd.func5, Tryd.ntmps5
  go_wp2_with fail
  refine (c21 l v w HT.out h48).mono ?_
  rintro e w1 ⟨own, rfl, hO1, hb1⟩
  have HT1 : Hid (TermAt w1 own l) := ownT_term hO1 hlm HX.out
  clear hO1
  go_wp2_with fail
  refine (c9 ls u w1 (HR.out.below hb1) h24 H48.out).mono ?_
  rintro e w2 ⟨inn, rfl, hR2, hb2⟩
  have HR2 : Hid (RowAt w2 inn ls) := hR2
  have HT2 : Hid (TermAt w2 own l) := HT1.out.below hb2
  have hw2 : Hid (Below w.heap.size w w2) := hb1.trans (hb2.mono hb1.size)
  clear hR2 HT1 hb1 hb2
  go_wp2_with fail
  refine (c31 l own ls inn w2 HT2.out HR2.out (HS.out.below hw2.out)).mono ?_
  rintro e w3 ⟨a, rfl, hO3, hb3⟩
  have HA : Hid (TermAt w3 a (putT l ls)) := put_term HT2.out HR2.out hO3
  have HR3 : Hid (RowAt w3 inn ls) := HR2.out.below hb3
  have HT3 : Hid (TermAt w3 own l) := HT2.out.below hb3
  have hw3 : Hid (Below w.heap.size w w3) := hw2.out.trans (hb3.mono hw2.out.size)
  clear hO3 HR2 HT2 hw2 hb3
  go_wp2_with fail
  refine (c32 l v ls u w3 (HT.out.below hw3.out) (HR.out.below hw3.out)).mono ?_
  rintro e w4 ⟨b, rfl, hO4, hb4⟩
  have HB : Hid (TermAt w4 b (putT l ls)) := put_term HT.out HR.out hO4
  have HA : Hid (TermAt w4 a (putT l ls)) := HA.out.below hb4
  have HR4 : Hid (RowAt w4 inn ls) := HR3.out.below hb4
  have HT4 : Hid (TermAt w4 own l) := HT3.out.below hb4
  have hw4 : Hid (Below w.heap.size w w4) := hw3.out.trans (hb4.mono hw3.out.size)
  clear hO4 HR3 HT3 hw3 hb4
  generalize putE l ls = pe
  go_wp2_with fail
  refine (c12 w4 (HS.out.below hw4.out)).mono ?_
  rintro e w5 ⟨rfl, hb5⟩
  have hw5 : Hid (Below w.heap.size w w5) := hw4.out.trans (hb5.mono hw4.out.size)
  go_wp2_with fail
  refine (c13 (putT l ls) (putT l ls) a b w5 (HA.out.below hb5) (HB.out.below hb5)).mono ?_
  rw [eqT_refl]
  rintro e w6 ⟨rfl, hb6⟩
  have hb46 : Hid (Below w4.heap.size w4 w6) := hb5.trans (hb6.mono hb5.size)
  have hw6 : Hid (Below w.heap.size w w6) := hw4.out.trans (hb46.out.mono hw4.out.size)
  clear hb5 hb6 hw5
  have hpe : (pe == pe) = true := by simp
  go_wp2_with fail
  refine (c34 ls inn w6 (HR4.out.below hb46.out) hV HW.out).mono ?_
  rintro e w7 ⟨n1, rfl, hN1, hb7⟩
  have hb47 : Hid (Below w4.heap.size w4 w7) := hb46.out.trans (hb7.mono hb46.out.size)
  have hw7 : Hid (Below w.heap.size w w7) := hw4.out.trans (hb47.out.mono hw4.out.size)
  have hnl : (nubN (varsAll ls)).length ≤ maxLen := Nat.le_trans (nubN_len _) (Nat.le_trans hV (by simp [maxLen]))
  have HN1 : Hid (NamesAt w7 n1 (nubN (varsAll ls))) := namesAt_of_owns hN1 hnl
  clear hN1 hb7 hb46 hw6
  go_wp2_with fail
  refine (c35 ls u w7 (HR.out.below hw7.out) hV).mono ?_
  rintro e w8 ⟨n2, rfl, hN2, hb8⟩
  have hb48 : Hid (Below w4.heap.size w4 w8) := hb47.out.trans (hb8.mono hb47.out.size)
  have hw8 : Hid (Below w.heap.size w w8) := hw4.out.trans (hb48.out.mono hw4.out.size)
  have HN2 : Hid (NamesAt w8 n2 (nubN (varsAll ls))) := namesAt_of_owns hN2 hnl
  have HN1 : Hid (NamesAt w8 n1 (nubN (varsAll ls))) := HN1.out.below hb8
  clear hN2 hb8 hb47 hw7
  go_wp2_with fail
  refine (c33 _ _ n1 n2 w8 HN1.out HN2.out).mono ?_
  rw [show eqNs (nubN (varsAll ls)) (nubN (varsAll ls)) = true by simp [eqNs]]
  rintro e w9 ⟨rfl, hb9⟩
  have hb49 : Hid (Below w4.heap.size w4 w9) := hb48.out.trans (hb9.mono hb48.out.size)
  have hw9 : Hid (Below w.heap.size w w9) := hw4.out.trans (hb49.out.mono hw4.out.size)
  clear hb9 hb48 hw8
  go_wp2_with fail
  refine (c36 l own w9 (HT4.out.below hb49.out) (HS.out.below hw9.out)).mono ?_
  rw [global_same]
  rintro e w10 ⟨rfl, hb10⟩
  have hb4a : Hid (Below w4.heap.size w4 w10) := hb49.out.trans (hb10.mono hb49.out.size)
  have hwa : Hid (Below w.heap.size w w10) := hw4.out.trans (hb4a.out.mono hw4.out.size)
  clear hb10 hb49 hw9
  go_wp2_with fail
  refine (c37 l v w10 (HT.out.below hwa.out)).mono ?_
  generalize refGlobalB l = gb
  rintro e w11 ⟨rfl, hb11⟩
  have hb4b : Hid (Below w4.heap.size w4 w11) := hb4a.out.trans (hb11.mono hb4a.out.size)
  have hwb : Hid (Below w.heap.size w w11) := hw4.out.trans (hb4b.out.mono hw4.out.size)
  clear hb11 hb4a hwa
  have hgb : (gb == gb) = true := by simp
  go_wp2_with fail
  refine (c13 l l own v w11 (HT4.out.below hb4b.out) (HT.out.below hwb.out)).mono ?_
  rw [eqT_refl]
  rintro e w12 ⟨rfl, hb12⟩
  have hb4c : Hid (Below w4.heap.size w4 w12) := hb4b.out.trans (hb12.mono hb4b.out.size)
  have hwc : Hid (Below w.heap.size w w12) := hw4.out.trans (hb4c.out.mono hw4.out.size)
  clear hb12 hb4b hwb
  go_wp2_with fail
  refine (c20 ls ls inn u w12 (HR4.out.below hb4c.out) (HR.out.below hwc.out)).mono ?_
  rw [sameR_refl]
  rintro e w13 ⟨rfl, hb13⟩
  go_wp2_with fail
  go_ret
  exact ⟨rfl, hwc.out.trans (hb13.mono hwc.out.size)⟩
end Go.Proofs.YtpepogmkbcbmpaaDoor
