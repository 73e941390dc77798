/- The contract of LexBack. -/
import Derived.Test.YtampjlafhglceaaDoorY2
namespace Go.Proofs.YtampjlafhglceaaDoor
open Go.RowKit
set_option maxRecDepth 100000 in
set_option maxHeartbeats 4000000 in
theorem c6 (s : ByteArray) (w : World) (hS : Signs w) (hs : s.size ≤ 100000000) :
    Calls Tryd.prog 6 #[.string s] w fun e w' => e = .returned (.bool true) ∧ Below w.heap.size w w' := by
  have H13 := c13 s w hS (by omega)
  have HS : Hid (Signs w) := hS
  have hlen := all_len s
  have hsum := all_lens s
  obtain ⟨L, hL⟩ : ∃ L, allL s = L := ⟨_, rfl⟩
  rw [hL] at H13 hlen hsum
  obtain ⟨⟨ae, ap⟩, hA⟩ : ∃ x, allE s = x := ⟨_, rfl⟩
  rw [hA] at H13
  have HLs : Hid (allL s = L) := hL
  have HE : Hid (allE s = (ae, ap)) := hA
  clear hS hL hA
  go_enter Tryd.func6, Tryd.ntmps6
  go_wp2_with fail
  refine H13.mono ?_
  clear H13
  rintro e w1 ⟨v, rfl, hO1, hb1⟩
  have HO1 : Hid (w1.ownsRow w.heap.size 24 5 v L.length (flatT L)) := hO1
  have hw1 : Hid (Below w.heap.size w w1) := hb1
  clear hO1
  by_cases he : ae = 0
  · subst he
    have HOK : Hid ((∀ y ∈ walkL s, okB y = true) ∧ L = toks (walkL s)) := by
      have h := all_ok s (by rw [HE.out])
      rw [HLs.out] at h
      exact h
    obtain ⟨m, hm⟩ : ∃ m, L.length = m + 1 := by
      obtain ⟨pre, x, h1, h2⟩ := walk_end s (s.size + 1) 0 (Nat.zero_le _) (by omega) HOK.out.1
      have h3 : L = toks pre ++ [x.1] := by rw [HOK.out.2]; show toks (walkF s (s.size + 1) 0) = _; rw [h1]; simp [toks]
      exact ⟨(toks pre).length, by rw [h3]; simp⟩
    obtain ⟨g1, cp1, hv, hr1⟩ := owns_range HO1.out (by omega)
    have hg1 : g1 < w1.heap.size := (HO1.out.lt g1 (by rw [hv]; rfl)).2
    subst hv
    have HR1 : Hid (w1.rangeAt g1 0 (L.flatMap T.vals)) := hr1
    clear hr1 HO1
    obtain ⟨s2, hs2⟩ : ∃ s2 : ByteArray, (⟨(joinL ((textsOf L).map (·.data.toList))).toArray⟩ : ByteArray) = s2 := ⟨_, rfl⟩
    have hsz2 : s2.size ≤ 1000000000 := by
      have h1 := texts_join L
      rw [← len_list, ← hs2]
      simp only
      omega
    have HBA : Hid (allE s2 = (0, 0) ∧ (allL s2).map bare = (allL s).map bare) := back_all s s2 (by rw [HE.out]) (by rw [← hs2, HLs.out])
    have H13 := fun (W : World) (hW : Below w1.heap.size w1 W) => c13 s2 W ((HS.out.below hw1.out).below hW) hsz2
    obtain ⟨L2, hL2⟩ : ∃ L2, allL s2 = L2 := ⟨_, rfl⟩
    rw [HLs.out, hL2] at HBA
    have H13 := fun (W : World) (hW : Below w1.heap.size w1 W) => by
      have h := H13 W hW
      rw [hL2, HBA.out.1, ← hs2] at h
      exact h
    have H19 := fun (W : World) (hW : Below w1.heap.size w1 W) => by
      have h := c19 L g1 cp1 W (fun j u hu => (hW.cell (p := ⟨g1, 0 + j, none⟩) hg1).trans (HR1.out j u hu)) (Nat.lt_of_lt_of_le hg1 hW.size) (by omega) (by omega)
      rw [hm] at h
      exact h
    clear hL2 hsz2 hs2
    have hl2 : L2.length = m + 1 := by
      have := congrArg List.length HBA.out.2
      rw [List.length_map, List.length_map] at this
      omega
    go_wp2_with fail
    refine (H19 _ (Below.refl _ _)).mono ?_
    rintro e w2 ⟨rfl, hb2⟩
    go_wp2_with fail
    refine (H13 _ hb2).mono ?_
    rintro e w3 ⟨v2, rfl, hO2, hb3⟩
    have HO2 : Hid (w3.ownsRow w2.heap.size 24 5 v2 L2.length (flatT L2)) := hO2
    have hb13 : Hid (Below w1.heap.size w1 w3) := hb2.trans (hb3.mono hb2.size)
    clear hO2 hb2 hb3 H13 H19
    go_wp2_with fail
    refine (c11 w3 (HS.out.below (hw1.out.trans (hb13.out.mono hw1.out.size)))).mono ?_
    rintro e w4 ⟨rfl, hb4⟩
    have HO2 : Hid (w4.ownsRow w2.heap.size 24 5 v2 L2.length (flatT L2)) := owns_below5 HO2.out hb4
    have hb14 : Hid (Below w1.heap.size w1 w4) := hb13.out.trans (hb4.mono hb13.out.size)
    clear hb13 hb4
    obtain ⟨g2, cp2, hv2, hr2⟩ := owns_range HO2.out (by omega)
    have hg2 : g2 < w4.heap.size := (HO2.out.lt g2 (by rw [hv2]; rfl)).2
    subst hv2
    have HR2 : Hid (w4.rangeAt g2 0 (L2.flatMap T.vals)) := hr2
    clear hr2 HO2
    have d1 : ((L2.length : Int) != (L.length : Int)) = false := by simp [hl2, hm]
    have d2 : (((m : Int) + 1) != ((m : Int) + 1)) = false := by simp
    go_wp2_with fail
    go_loopw [9] (fun kv wr => ∃ k : Nat, k ≤ m + 1 ∧ kv = .int .i64 k ∧ Below w4.heap.size w4 wr) (fun kv _ => m + 1 - (intOf kv).toNat)
    case atStart => exact ⟨0, Nat.zero_le _, rfl, Below.refl _ _⟩
    case round =>
      obtain ⟨k, hk, rfl, hbr⟩ := hrel
      have HBR : Hid (Below w4.heap.size w4 wr) := hbr
      by_cases hlt : k < m + 1
      · have hlt' : (k : Int) < (m : Int) + 1 := by omega
        have hk0 : (0 : Int) ≤ (k : Int) := by omega
        obtain ⟨⟨xk, xt, xn, xd, xa⟩, hx⟩ : ∃ x, L[k]'(by omega) = x := ⟨_, rfl⟩
        obtain ⟨⟨yk, yt, yn, yd, ya⟩, hy⟩ : ∃ y, L2[k]'(by omega) = y := ⟨_, rfl⟩
        have hxy : bare ⟨yk, yt, yn, yd, ya⟩ = bare ⟨xk, xt, xn, xd, xa⟩ := by
          have h1 : (L2.map bare)[k]? = (L.map bare)[k]? := by rw [HBA.out.2]
          rw [List.getElem?_map, List.getElem?_map, List.getElem?_eq_getElem (by omega), List.getElem?_eq_getElem (by omega), hx, hy] at h1
          exact Option.some.inj h1
        simp only [bare, Prod.mk.injEq] at hxy
        obtain ⟨rfl, rfl, rfl, rfl⟩ := hxy
        have hcl : ∀ j v, j < 5 → (T.vals ⟨yk, yt, yn, yd, xa⟩)[j]? = some v → wr.cell? ⟨g1, k * 5 + j, none⟩ = some v := fun j v hj hv => (hbr.cell (p := ⟨g1, k * 5 + j, none⟩) (Nat.lt_of_lt_of_le hg1 hb14.out.size)).trans <| (hb14.out.cell (p := ⟨g1, k * 5 + j, none⟩) hg1).trans (tok_cells T.vals (fun _ => rfl) HR1.out k (by omega) j v hj (by rw [hx]; exact hv))
        have hcm : ∀ j v, j < 5 → (T.vals ⟨yk, yt, yn, yd, ya⟩)[j]? = some v → wr.cell? ⟨g2, k * 5 + j, none⟩ = some v := fun j v hj hv => (hbr.cell (p := ⟨g2, k * 5 + j, none⟩) hg2).trans <| tok_cells T.vals (fun _ => rfl) HR2.out k (by omega) j v hj (by rw [hy]; exact hv)
        have b0 := hcl 0 _ (by omega) rfl
        have b1 := hcl 1 _ (by omega) rfl
        have b2 := hcl 2 _ (by omega) rfl
        have b3 := hcl 3 _ (by omega) rfl
        have e0 := hcm 0 _ (by omega) rfl
        have e1 := hcm 1 _ (by omega) rfl
        have e2 := hcm 2 _ (by omega) rfl
        have e3 := hcm 3 _ (by omega) rfl
        rw [Nat.add_zero] at b0 e0
        have n1 : (yk != yk) = false := by simp
        have n2 : (yt.toList != yt.toList) = false := by simp
        have n3 : (yn != yn) = false := by simp
        have n4 : (yd != yd) = false := by simp
        clear hcl hcm hx hy hbr
        go_wp2_with fail
        go_quiet (fail)
        have hbq : Hid (Below w4.heap.size w4 (wr.drewN nq)) := below_dN HBR.out nq
        go_wp2_with fail
        go_roundw
        case rel => exact ⟨k + 1, by omega, by go_num, hbq.out⟩
        case measure => simp [intOf]; omega
      · obtain rfl : k = m + 1 := by omega
        go_wp2_with fail
        go_ret
        exact ⟨rfl, hw1.out.trans ((hb14.out.trans (hbr.mono hb14.out.size)).mono hw1.out.size)⟩
  · have he' : (ae != 0) = true := by simp [he]
    have HZ : Hid (L = []) := by
      show L = []
      rw [← HLs.out]
      unfold allL
      rw [if_neg]
      intro h2
      have h3 := (allE_ok (s := s) rfl (List.all_eq_true.1 h2)).1
      rw [HE.out] at h3
      simp at h3
      exact he h3.1
    go_wp2_with fail
    refine (c11 w1 (HS.out.below hw1.out)).mono ?_
    rintro e w3 ⟨rfl, hb3⟩
    obtain rfl := HZ.out
    have hv : ∃ a c, v = .slice a 0 c := by
      rcases HO1.out.2 with h | ⟨g2, cp2, _, h1, _⟩
      · exact ⟨none, 0, h.1⟩
      · exact ⟨_, cp2, h1⟩
    obtain ⟨a, c, rfl⟩ := hv
    go_wp2_with fail
    go_ret
    exact ⟨rfl, hw1.out.trans (hb3.mono hw1.out.size)⟩
end Go.Proofs.YtampjlafhglceaaDoor
