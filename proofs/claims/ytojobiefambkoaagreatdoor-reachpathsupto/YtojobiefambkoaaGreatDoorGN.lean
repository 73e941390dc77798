/- The library's slices.BinarySearchFunc at names, by the order of names. -/
import Derived.Test.YtojobiefambkoaaGreatDoorGM
namespace Go.Proofs.YtojobiefambkoaaGreatDoor
open Go.RowKit
attribute [local go_sem ↓] Go.wp_at_zero Go.wp_at_succ
theorem cf_lt (x y : Nm) : (decide (namesS x.1 x.2 y.1 y.2 < 0) = true) ↔ ltN x y := by
  rw [decide_eq_true_eq]; exact ltN_iff x y
theorem cf_eq (x y : Nm) : namesS x.1 x.2 y.1 y.2 = 0 ↔ x = y := by
  unfold namesS orI cmpI
  constructor
  · intro h
    have h1 : x.1 = y.1 := by
      rcases Int.lt_trichotomy x.1 y.1 with h2 | h2 | h2
      · simp [h2] at h
      · exact h2
      · simp [h2, Int.lt_asymm h2] at h
    have h3 : x.2 = y.2 := by
      rw [h1] at h
      simp at h
      rcases Int.lt_trichotomy x.2 y.2 with h2 | h2 | h2
      · simp [h2] at h
      · exact h2
      · simp [h2, Int.lt_asymm h2] at h
    exact Prod.ext h1 h3
  · rintro rfl
    simp
set_option maxRecDepth 100000 in
set_option maxHeartbeats 4000000 in
theorem f33 (xs : List Nm) (a : Option Addr) (c : Nat) (x1 x2 : Int) (w : World) (h : NamesAt w (.slice a xs.length c) xs) (hup : xs.Pairwise ltN) (hl : xs.length ≤ 1000000000000) :
    Calls Tryz.prog 35 #[.slice a xs.length c, .agg #[.int .i64 x1, .int .i64 x2], .func (.func 33) #[] #[]] w fun e w' => ∃ i : Int, e = .returned (.tuple #[.int .i64 i, .bool (hasN xs (x1, x2))]) ∧ Below w.heap.size w w' := by
  have HN : Hid (NamesAt w (.slice a xs.length c) xs ∧ xs.Pairwise ltN) := ⟨h, hup⟩
  obtain ⟨q, hq⟩ : ∃ q, xs.length = q := ⟨_, rfl⟩
  have HQ : Hid (xs.length = q) := hq
  rw [hq] at hl ⊢
  obtain ⟨fb, hfb⟩ : ∃ b, hasN xs (x1, x2) = b := ⟨_, rfl⟩
  have HFB : Hid (hasN xs (x1, x2) = fb) := hfb
  rw [hfb]
  clear hfb
  obtain ⟨n0, hn0⟩ : ∃ n0, w.heap.size = n0 := ⟨_, rfl⟩
  obtain ⟨W1, hW1⟩ : ∃ W1, w.alloc (.cells #[.int .i64 x1, .int .i64 x2] 49) = W1 := ⟨_, rfl⟩
  have HW1 : Hid (Below w.heap.size w W1 ∧ W1.heap[n0]? = some (.cells #[.int .i64 x1, .int .i64 x2] 49 (0, 0))) := by
    rw [← hW1, ← hn0]
    exact ⟨below_alloc _ _, heap_alloc_new _ _⟩
  have H0 : Hid ((∀ t, t < 0 → ∀ ht : t < xs.length, ltN xs[t] (x1, x2)) ∧ (∀ t, q ≤ t → ∀ ht : t < xs.length, ¬ ltN xs[t] (x1, x2)) ∧ Below W1.heap.size W1 W1) := ⟨fun t h => absurd h (by omega), fun t h1 h2 => absurd h2 (by rw [hq]; omega), Below.refl _ _⟩
  clear h hup hq
  go_enter Tryz.func35, Tryz.ntmps35
  go_wp2_with fail
  clear hW1 hn0
  go_loopw [9, 10] (fun iv jv wr => ∃ i j : Nat, i ≤ j ∧ j ≤ q ∧ iv = .int .i64 i ∧ jv = .int .i64 j ∧ Hid ((∀ t, t < i → ∀ ht : t < xs.length, ltN xs[t] (x1, x2)) ∧ (∀ t, j ≤ t → ∀ ht : t < xs.length, ¬ ltN xs[t] (x1, x2)) ∧ Below W1.heap.size W1 wr)) (fun iv jv _ => (intOf jv).toNat - (intOf iv).toNat)
  case atStart => exact ⟨0, q, Nat.zero_le _, Nat.le_refl _, rfl, rfl, H0⟩
  case round =>
    clear H0
    obtain ⟨i, j, hij, hjq, rfl, rfl, HK⟩ := hrel
    by_cases hlt : i < j
    · have hltI : (i : Int) < (j : Int) := by omega
      obtain ⟨s, hs⟩ : ∃ s : Nat, i + j = s := ⟨_, rfl⟩
      have hsI : (i : Int) + (j : Int) = (s : Int) := by omega
      have hs63 : s ≤ 2000000000000 := by omega
      obtain ⟨h, hh⟩ : ∃ h : Nat, s / 2 = h := ⟨_, rfl⟩
      have hhI : (s : Int) / 2 = (h : Int) := by omega
      have hih : i ≤ h ∧ h < j := by omega
      have hh0 : (0 : Int) ≤ (h : Int) := by omega
      have hhq : (h : Int) < (q : Int) := by omega
      have hhl : h < xs.length := by rw [HQ.out]; omega
      obtain ⟨⟨z1, z2⟩, hz⟩ : ∃ z, xs[h] = z := ⟨_, rfl⟩
      have hbw : Below w.heap.size w wr := HW1.out.1.trans (HK.out.2.2.mono HW1.out.1.size)
      obtain ⟨g, o, rfl, p0, p1⟩ : ∃ g o, a = some ⟨g, o, none⟩ ∧ wr.cell? ⟨g, o + h * 2, none⟩ = some (.int .i64 z1) ∧ wr.cell? ⟨g, o + h * 2 + 1, none⟩ = some (.int .i64 z2) := by
        obtain ⟨_, ⟨e, _⟩ | ⟨g, o, cp, e, hrg, hgl⟩⟩ := HN.out.1
        · rw [e] at hhl; simp at hhl
        · simp only [Value.slice.injEq] at e
          obtain ⟨rfl, _, rfl⟩ := e
          obtain ⟨c0, c1⟩ := name_cells hrg h hhl
          rw [hz] at c0 c1
          exact ⟨g, o, rfl, (hbw.cell (p := ⟨g, o + h * 2, none⟩) hgl).trans c0, (hbw.cell (p := ⟨g, o + h * 2 + 1, none⟩) hgl).trans c1⟩
      have hbx := heap_at wr HW1.out.2 HK.out.2.2
      have t0 : wr.cell? ⟨n0, 0, none⟩ = some (.int .i64 x1) := by rw [cell_of_row wr n0 0 _ 49 (0, 0) hbx]; rfl
      have t1 : wr.cell? ⟨n0, 1, none⟩ = some (.int .i64 x2) := by rw [cell_of_row wr n0 1 _ 49 (0, 0) hbx]; rfl
      have HZ : Hid (xs[h]? = some (z1, z2)) := by
        show xs[h]? = _
        rw [List.getElem?_eq_getElem hhl, hz]
      have HC : Hid (namesS z1 z2 x1 x2 < 0 ↔ ltN (z1, z2) (x1, x2)) := ltN_iff (z1, z2) (x1, x2)
      have H28 : ∀ W, Calls Tryz.prog 33 #[.agg #[.int .i64 z1, .int .i64 z2], .agg #[.int .i64 x1, .int .i64 x2]] W fun e w' => e = .returned (.int .i64 (namesS z1 z2 x1 x2)) ∧ Hid (Below W.heap.size W w') := fun W => (y46 z1 z2 x1 x2 W).mono fun e w' h => ⟨h.1, h.2.bel⟩
      generalize namesS z1 z2 x1 x2 = cv at *
      have HI : Hid (i + j = s ∧ s / 2 = h) := ⟨hs, hh⟩
      clear hbw hz hhl hbx hs hh
      by_cases hcv : cv < 0
      · go_wp2_with fail
        go_region_with (go_at_call 33; refine (H28 _).mono ?_; rintro e w3 ⟨rfl, H3⟩)
        all_goals (
          have HF : Hid ((∀ t, t < h + 1 → ∀ ht : t < xs.length, ltN xs[t] (x1, x2)) ∧ (∀ t, j ≤ t → ∀ ht : t < xs.length, ¬ ltN xs[t] (x1, x2)) ∧ Below W1.heap.size W1 w3) := by
            obtain ⟨k1, k2, k3⟩ := HK.out
            refine ⟨fun t h1 h2 => ?_, k2, k3.trans ((((Below.refl _ wr).drew).trans H3.out).mono k3.size)⟩
            have hzz := HC.out.1 hcv
            by_cases e : t = h
            · subst e
              have e2 := HZ.out
              rw [List.getElem?_eq_getElem h2] at e2
              rw [Option.some.inj e2]
              exact hzz
            · have hlt2 : t < h := by omega
              have hhl : h < xs.length := by rw [HQ.out]; omega
              have e2 := HZ.out
              rw [List.getElem?_eq_getElem hhl] at e2
              have e3 := (List.pairwise_iff_getElem.1 HN.out.2) t h h2 hhl hlt2
              rw [Option.some.inj e2] at e3
              exact ltN_tr _ _ _ e3 hzz
          clear H3 H28 p0 p1 t0 t1
          go_wp2_with fail
          go_roundw
          case rel => exact ⟨h + 1, j, by omega, hjq, by go_num, rfl, HF⟩
          case measure => simp [intOf]; omega)
      · go_wp2_with fail
        go_region_with (go_at_call 33; refine (H28 _).mono ?_; rintro e w3 ⟨rfl, H3⟩)
        all_goals (
          have HF : Hid ((∀ t, t < i → ∀ ht : t < xs.length, ltN xs[t] (x1, x2)) ∧ (∀ t, h ≤ t → ∀ ht : t < xs.length, ¬ ltN xs[t] (x1, x2)) ∧ Below W1.heap.size W1 w3) := by
            obtain ⟨k1, k2, k3⟩ := HK.out
            refine ⟨k1, fun t h1 h2 => ?_, k3.trans ((((Below.refl _ wr).drew).trans H3.out).mono k3.size)⟩
            have hzz : ¬ ltN (z1, z2) (x1, x2) := fun h => by have := HC.out.2 h; omega
            by_cases e : t = h
            · subst e
              have e2 := HZ.out
              rw [List.getElem?_eq_getElem h2] at e2
              rw [Option.some.inj e2]
              exact hzz
            · have hlt2 : h < t := by omega
              have hhl : h < xs.length := by rw [HQ.out]; omega
              have e2 := HZ.out
              rw [List.getElem?_eq_getElem hhl] at e2
              have e3 := (List.pairwise_iff_getElem.1 HN.out.2) h t hhl h2 hlt2
              rw [Option.some.inj e2] at e3
              exact fun h => hzz (ltN_tr _ _ _ e3 h)
          clear H3 H28 p0 p1 t0 t1
          go_wp2_with fail
          go_roundw
          case rel => exact ⟨i, h, by omega, by omega, rfl, by go_num, HF⟩
          case measure => simp [intOf]; omega)
    · have hltI : ¬ (i : Int) < (j : Int) := by omega
      obtain rfl : i = j := by omega
      have hbw : Below w.heap.size w wr := HW1.out.1.trans (HK.out.2.2.mono HW1.out.1.size)
      have hbx := heap_at wr HW1.out.2 HK.out.2.2
      have t0 : wr.cell? ⟨n0, 0, none⟩ = some (.int .i64 x1) := by rw [cell_of_row wr n0 0 _ 49 (0, 0) hbx]; rfl
      have t1 : wr.cell? ⟨n0, 1, none⟩ = some (.int .i64 x2) := by rw [cell_of_row wr n0 1 _ 49 (0, 0) hbx]; rfl
      by_cases hiq : i < q
      · have hiI : (i : Int) < (q : Int) := by omega
        have hi0 : (0 : Int) ≤ (i : Int) := by omega
        have hil : i < xs.length := by rw [HQ.out]; exact hiq
        obtain ⟨⟨z1, z2⟩, hz⟩ : ∃ z, xs[i] = z := ⟨_, rfl⟩
        obtain ⟨g, o, rfl, p0, p1, hgw⟩ : ∃ g o, a = some ⟨g, o, none⟩ ∧ wr.cell? ⟨g, o + i * 2, none⟩ = some (.int .i64 z1) ∧ wr.cell? ⟨g, o + i * 2 + 1, none⟩ = some (.int .i64 z2) ∧ g < wr.heap.size := by
          obtain ⟨_, ⟨e, _⟩ | ⟨g, o, cp, e, hrg, hgl⟩⟩ := HN.out.1
          · rw [e] at hil; simp at hil
          · simp only [Value.slice.injEq] at e
            obtain ⟨rfl, _, rfl⟩ := e
            obtain ⟨c0, c1⟩ := name_cells hrg i hil
            rw [hz] at c0 c1
            exact ⟨g, o, rfl, (hbw.cell (p := ⟨g, o + i * 2, none⟩) hgl).trans c0, (hbw.cell (p := ⟨g, o + i * 2 + 1, none⟩) hgl).trans c1, Nat.lt_of_lt_of_le hgl hbw.size⟩
        have HB : Hid (hasN xs (x1, x2) = (namesS z1 z2 x1 x2 == 0)) := by
          obtain ⟨k1, k2, k3⟩ := HK.out
          show hasN xs (x1, x2) = (namesS z1 z2 x1 x2 == 0)
          rw [Bool.eq_iff_iff, hasN_iff, beq_iff_eq]
          have hce := cf_eq (z1, z2) (x1, x2)
          refine Iff.trans ⟨fun hm => ?_, fun e => ?_⟩ hce.symm
          · obtain ⟨t, ht, e⟩ := List.getElem_of_mem hm
            by_cases h1 : t < i
            · have h2 := k1 t h1 ht
              rw [e] at h2
              exact absurd h2 (ltN_irr _)
            · by_cases h3 : t = i
              · subst h3
                rw [← hz, e]
              · have h4 := (List.pairwise_iff_getElem.1 HN.out.2) i t hil ht (by omega)
                rw [e, hz] at h4
                have h5 := k2 i (Nat.le_refl _) hil
                rw [hz] at h5
                exact absurd h4 h5
          · rw [← e, ← hz]
            exact List.getElem_mem hil
        have H28 : ∀ W, Calls Tryz.prog 33 #[.agg #[.int .i64 z1, .int .i64 z2], .agg #[.int .i64 x1, .int .i64 x2]] W fun e w' => e = .returned (.int .i64 (namesS z1 z2 x1 x2)) ∧ Hid (Below W.heap.size W w') := fun W => (y46 z1 z2 x1 x2 W).mono fun e w' h => ⟨h.1, h.2.bel⟩
        have HB2 : Hid (fb = (namesS z1 z2 x1 x2 == 0)) := HFB.out.symm.trans HB.out
        have HBw : Hid (Below w.heap.size w wr) := hbw
        have hnw : n0 < wr.heap.size := (Array.getElem?_eq_some_iff.1 hbx).1
        have HSx : Hid (∀ w3, Below wr.heap.size wr w3 → (fun u => u.cell? ⟨g, o + i * 2, none⟩ = some (.int .i64 z1) ∧ u.cell? ⟨g, o + i * 2 + 1, none⟩ = some (.int .i64 z2) ∧ u.cell? ⟨n0, 0, none⟩ = some (.int .i64 x1) ∧ u.cell? ⟨n0, 1, none⟩ = some (.int .i64 x2)) w3) := fun w3 hb => ⟨(hb.cell (p := ⟨g, o + i * 2, none⟩) hgw).trans p0, (hb.cell (p := ⟨g, o + i * 2 + 1, none⟩) hgw).trans p1, (hb.cell (p := ⟨n0, 0, none⟩) hnw).trans t0, (hb.cell (p := ⟨n0, 1, none⟩) hnw).trans t1⟩
        generalize namesS z1 z2 x1 x2 = cv at *
        clear HB hz hil hbx hbw HK hgw hnw
        go_wp2_with fail
        have HS3 : Hid (∀ w3, Below wr.drew.heap.size wr.drew w3 → (fun u => u.cell? ⟨g, o + i * 2, none⟩ = some (.int .i64 z1) ∧ u.cell? ⟨g, o + i * 2 + 1, none⟩ = some (.int .i64 z2) ∧ u.cell? ⟨n0, 0, none⟩ = some (.int .i64 x1) ∧ u.cell? ⟨n0, 1, none⟩ = some (.int .i64 x2)) w3) := fun w3 hb => HSx.out w3 (((Below.refl _ wr).drew).trans hb)
        refine wp_region_noPanic ?_
        refine wp_region_held_drew (S := fun u => u.cell? ⟨g, o + i * 2, none⟩ = some (.int .i64 z1) ∧ u.cell? ⟨g, o + i * 2 + 1, none⟩ = some (.int .i64 z2) ∧ u.cell? ⟨n0, 0, none⟩ = some (.int .i64 x1) ∧ u.cell? ⟨n0, 1, none⟩ = some (.int .i64 x2)) (by kernel_rfl) (HS3.out _ (Below.refl _ _)) (fun hHeld => ?_)
        (refine wpAnyH_take (i := 0) (v := ?_) (by simp only [List.getElem?_toArray, List.getElem?_cons_zero]; rfl) (by kernel_rfl) (by kernel_rfl) (by kernel_rfl) (fun _ _ _ h => h) (Or.inl ⟨by rfl, ?_⟩) (by assumption) ?_; rotate_left; (· (intro w hSw; (try dsimp only at hSw); go_simp <;> with_reducible rfl)); try simp only [Act.put, List.setIfInBounds_toArray, List.set_cons_zero, List.set_cons_succ])
        (refine wpAnyH_take (i := 1) (v := ?_) (by simp only [List.getElem?_toArray, List.getElem?_cons_zero, List.getElem?_cons_succ]; rfl) (by kernel_rfl) (by kernel_rfl) (by kernel_rfl) (fun _ _ _ h => h) (Or.inl ⟨by rfl, ?_⟩) (by assumption) ?_; rotate_left; (· (intro w hSw; (try dsimp only at hSw); go_simp <;> with_reducible rfl)); try simp only [Act.put, List.setIfInBounds_toArray, List.set_cons_zero, List.set_cons_succ])
        (refine wpAnyH_take (i := 2) (v := ?_) (by simp only [List.getElem?_toArray, List.getElem?_cons_zero, List.getElem?_cons_succ]; rfl) (by kernel_rfl) (by kernel_rfl) (by kernel_rfl) (fun _ _ _ h => h) (Or.inl ⟨by rfl, ?_⟩) (by assumption) ?_; rotate_left; (· (intro w hSw; (try dsimp only at hSw); go_simp <;> with_reducible rfl)); try simp only [Act.put, List.setIfInBounds_toArray, List.set_cons_zero, List.set_cons_succ])
        (refine wpAnyH_take (i := 3) (v := ?_) (by simp only [List.getElem?_toArray, List.getElem?_cons_zero, List.getElem?_cons_succ]; rfl) (by kernel_rfl) (by kernel_rfl) (by kernel_rfl) (fun _ _ _ h => h) (Or.inl ⟨by rfl, ?_⟩) (by assumption) ?_; rotate_left; (· (intro w hSw; (try dsimp only at hSw); go_simp <;> with_reducible rfl)); try simp only [Act.put, List.setIfInBounds_toArray, List.set_cons_zero, List.set_cons_succ])
        (refine wpAnyH_take (i := 4) (v := ?_) (by simp only [List.getElem?_toArray, List.getElem?_cons_zero, List.getElem?_cons_succ]; rfl) (by kernel_rfl) (by kernel_rfl) (by kernel_rfl) (fun _ _ _ h => h) (Or.inl ⟨by rfl, ?_⟩) (by assumption) ?_; rotate_left; (· (intro w hSw; (try dsimp only at hSw); go_simp <;> with_reducible rfl)); try simp only [Act.put, List.setIfInBounds_toArray, List.set_cons_zero, List.set_cons_succ])
        (refine wpAnyH_take (i := 5) (v := ?_) (by simp only [List.getElem?_toArray, List.getElem?_cons_zero, List.getElem?_cons_succ]; rfl) (by kernel_rfl) (by kernel_rfl) (by kernel_rfl) (fun _ _ _ h => h) (Or.inl ⟨by rfl, ?_⟩) (by assumption) ?_; rotate_left; (· (intro w hSw; (try dsimp only at hSw); go_simp <;> with_reducible rfl)); try simp only [Act.put, List.setIfInBounds_toArray, List.set_cons_zero, List.set_cons_succ])
        (refine wpAnyH_take (i := 6) (v := ?_) (by simp only [List.getElem?_toArray, List.getElem?_cons_zero, List.getElem?_cons_succ]; rfl) (by kernel_rfl) (by kernel_rfl) (by kernel_rfl) (fun _ _ _ h => h) (Or.inl ⟨by rfl, ?_⟩) (by assumption) ?_; rotate_left; (· (intro w hSw; (try dsimp only at hSw); go_simp <;> with_reducible rfl)); try simp only [Act.put, List.setIfInBounds_toArray, List.set_cons_zero, List.set_cons_succ])
        (refine wpAnyH_take (i := 7) (v := ?_) (by simp only [List.getElem?_toArray, List.getElem?_cons_zero, List.getElem?_cons_succ]; rfl) (by kernel_rfl) (by kernel_rfl) (by kernel_rfl) (fun _ _ _ h => h) (Or.inl ⟨by rfl, ?_⟩) (by assumption) ?_; rotate_left; (· (intro w hSw; (try dsimp only at hSw); go_simp <;> with_reducible rfl)); try simp only [Act.put, List.setIfInBounds_toArray, List.set_cons_zero, List.set_cons_succ])
        (refine wpAnyH_take (i := 8) (v := ?_) (by simp only [List.getElem?_toArray, List.getElem?_cons_zero, List.getElem?_cons_succ]; rfl) (by kernel_rfl) (by kernel_rfl) (by kernel_rfl) (fun _ _ _ h => h) (Or.inl ⟨by rfl, ?_⟩) (by assumption) ?_; rotate_left; (· (intro w hSw; (try dsimp only at hSw); go_simp <;> with_reducible rfl)); try simp only [Act.put, List.setIfInBounds_toArray, List.set_cons_zero, List.set_cons_succ])
        (refine wpAnyH_take (i := 9) (v := ?_) (by simp only [List.getElem?_toArray, List.getElem?_cons_zero, List.getElem?_cons_succ]; rfl) (by kernel_rfl) (by kernel_rfl) (by kernel_rfl) (fun _ _ _ h => h) (Or.inl ⟨by rfl, ?_⟩) (by assumption) ?_; rotate_left; (· (intro w hSw; (try dsimp only at hSw); go_simp <;> with_reducible rfl)); try simp only [Act.put, List.setIfInBounds_toArray, List.set_cons_zero, List.set_cons_succ])
        (refine wpAnyH_take (i := 10) (v := ?_) (by simp only [List.getElem?_toArray, List.getElem?_cons_zero, List.getElem?_cons_succ]; rfl) (by kernel_rfl) (by kernel_rfl) (by kernel_rfl) (fun _ _ _ h => h) (Or.inl ⟨by rfl, ?_⟩) (by assumption) ?_; rotate_left; (· (intro w hSw; (try dsimp only at hSw); go_simp <;> with_reducible rfl)); try simp only [Act.put, List.setIfInBounds_toArray, List.set_cons_zero, List.set_cons_succ])
        refine wpAnyH_ready (rs := [11]) (by kernel_rfl) (by simp) ?_
        refine AllReadyH.cons (by simp only [List.getElem?_toArray, List.getElem?_cons_zero, List.getElem?_cons_succ]; rfl) (fun K hK => ?_) AllReadyH.nil
        go_simp
        go_at_call 33
        refine (H28 _).mono ?_
        rintro e w3 ⟨rfl, H3⟩
        refine hK.out _ _ ?_ (fun hHeld => ?_)
        · exact HS3.out w3 H3.out
        clear hK K
        try simp only [Act.put, List.setIfInBounds_toArray, List.set_cons_zero, List.set_cons_succ]
        (refine wpAnyH_take (i := 12) (v := ?_) (by simp only [List.getElem?_toArray, List.getElem?_cons_zero, List.getElem?_cons_succ]; rfl) (by kernel_rfl) (by kernel_rfl) (by kernel_rfl) (fun _ _ _ h => h) (Or.inl ⟨by rfl, ?_⟩) (by assumption) ?_; rotate_left; (· (intro w hSw; (try dsimp only at hSw); go_simp <;> with_reducible rfl)); try simp only [Act.put, List.setIfInBounds_toArray, List.set_cons_zero, List.set_cons_succ])
        (refine wpAnyH_take (i := 13) (v := ?_) (by simp only [List.getElem?_toArray, List.getElem?_cons_zero, List.getElem?_cons_succ]; rfl) (by kernel_rfl) (by kernel_rfl) (by kernel_rfl) (fun _ _ _ h => h) (Or.inl ⟨by rfl, ?_⟩) (by assumption) ?_; rotate_left; (· (intro w hSw; (try dsimp only at hSw); go_simp <;> with_reducible rfl)); try simp only [Act.put, List.setIfInBounds_toArray, List.set_cons_zero, List.set_cons_succ])
        (refine wpAnyH_take (i := 14) (v := ?_) (by simp only [List.getElem?_toArray, List.getElem?_cons_zero, List.getElem?_cons_succ]; rfl) (by kernel_rfl) (by kernel_rfl) (by kernel_rfl) (fun _ _ _ h => h) (Or.inl ⟨by rfl, ?_⟩) (by assumption) ?_; rotate_left; (· (intro w hSw; (try dsimp only at hSw); go_simp <;> with_reducible rfl)); try simp only [Act.put, List.setIfInBounds_toArray, List.set_cons_zero, List.set_cons_succ])
        (refine wpAnyH_take (i := 15) (v := ?_) (by simp only [List.getElem?_toArray, List.getElem?_cons_zero, List.getElem?_cons_succ]; rfl) (by kernel_rfl) (by kernel_rfl) (by kernel_rfl) (fun _ _ _ h => h) (Or.inl ⟨by rfl, ?_⟩) (by assumption) ?_; rotate_left; (· (intro w hSw; (try dsimp only at hSw); go_simp <;> with_reducible rfl)); try simp only [Act.put, List.setIfInBounds_toArray, List.set_cons_zero, List.set_cons_succ])
        refine wpAnyH_done (by kernel_rfl) ?_ _
        refine NoPanic.normal ?_
        have HF : Hid (Below w.heap.size w w3) := HBw.out.trans ((((Below.refl _ wr).drew).trans H3.out).mono HBw.out.size)
        clear H3 H28 p0 p1 t0 t1 HS3 HSx hHeld
        go_wp2_with fail
        refine bodyPost_ret (v := .tuple #[.int .i64 (i : Int), .bool (cv == 0)]) (by simp [results, Tryz.results35, go_sem]) rfl ⟨_, by rw [HB2.out], HF.out⟩
      · have hiI : ¬ (i : Int) < (q : Int) := by omega
        have HB : Hid (hasN xs (x1, x2) = false ∧ Below w.heap.size w wr) := by
          refine ⟨?_, hbw⟩
          obtain ⟨k1, k2, k3⟩ := HK.out
          rw [Bool.eq_false_iff, Ne, hasN_iff]
          intro hm
          obtain ⟨t, ht, e⟩ := List.getElem_of_mem hm
          have h2 := k1 t (by rw [HQ.out] at ht; omega) ht
          rw [e] at h2
          exact ltN_irr _ h2
        have HB2 : Hid (fb = false) := HFB.out.symm.trans HB.out.1
        clear hbx hbw HK
        go_wp2_with fail
        refine wp_region_noPanic ?_
        refine wp_region_held_drew (S := fun u => u.cell? ⟨n0, 0, none⟩ = some (.int .i64 x1)) (by kernel_rfl) t0 (fun hHeld => ?_)
        (refine wpAnyH_take (i := 0) (v := ?_) (by simp only [List.getElem?_toArray, List.getElem?_cons_zero]; rfl) (by kernel_rfl) (by kernel_rfl) (by kernel_rfl) (fun _ _ _ h => h) (Or.inl ⟨by rfl, ?_⟩) (by assumption) ?_; rotate_left; (· (intro w hSw; (try dsimp only at hSw); go_simp <;> with_reducible rfl)); try simp only [Act.put, List.setIfInBounds_toArray, List.set_cons_zero, List.set_cons_succ])
        (refine wpAnyH_take (i := 1) (v := ?_) (by simp only [List.getElem?_toArray, List.getElem?_cons_zero, List.getElem?_cons_succ]; rfl) (by kernel_rfl) (by kernel_rfl) (by kernel_rfl) (fun _ _ _ h => h) (Or.inl ⟨by rfl, ?_⟩) (by assumption) ?_; rotate_left; (· (intro w hSw; (try dsimp only at hSw); go_simp <;> with_reducible rfl)); try simp only [Act.put, List.setIfInBounds_toArray, List.set_cons_zero, List.set_cons_succ])
        (refine wpAnyH_take (i := 2) (v := ?_) (by simp only [List.getElem?_toArray, List.getElem?_cons_zero, List.getElem?_cons_succ]; rfl) (by kernel_rfl) (by kernel_rfl) (by kernel_rfl) (fun _ _ _ h => h) (Or.inl ⟨by rfl, ?_⟩) (by assumption) ?_; rotate_left; (· (intro w hSw; (try dsimp only at hSw); go_simp <;> with_reducible rfl)); try simp only [Act.put, List.setIfInBounds_toArray, List.set_cons_zero, List.set_cons_succ])
        (refine wpAnyH_take (i := 3) (v := ?_) (by simp only [List.getElem?_toArray, List.getElem?_cons_zero, List.getElem?_cons_succ]; rfl) (by kernel_rfl) (by kernel_rfl) (by kernel_rfl) (fun _ _ _ h => h) (Or.inl ⟨by rfl, ?_⟩) (by assumption) ?_; rotate_left; (· (intro w hSw; (try dsimp only at hSw); go_simp <;> with_reducible rfl)); try simp only [Act.put, List.setIfInBounds_toArray, List.set_cons_zero, List.set_cons_succ])
        (refine wpAnyH_take (i := 4) (v := ?_) (by simp only [List.getElem?_toArray, List.getElem?_cons_zero, List.getElem?_cons_succ]; rfl) (by kernel_rfl) (by kernel_rfl) (by kernel_rfl) (fun _ _ _ h => h) (Or.inl ⟨by rfl, ?_⟩) (by assumption) ?_; rotate_left; (· (intro w hSw; (try dsimp only at hSw); go_simp <;> with_reducible rfl)); try simp only [Act.put, List.setIfInBounds_toArray, List.set_cons_zero, List.set_cons_succ])
        (refine wpAnyH_take (i := 5) (v := undef) (by simp only [List.getElem?_toArray, List.getElem?_cons_zero, List.getElem?_cons_succ]; rfl) (by kernel_rfl) (by kernel_rfl) (by kernel_rfl) (fun _ _ _ h => h) (Or.inr ⟨by rfl, rfl⟩) (by assumption) ?_; try simp only [Act.put, List.setIfInBounds_toArray, List.set_cons_zero, List.set_cons_succ])
        (refine wpAnyH_take (i := 6) (v := undef) (by simp only [List.getElem?_toArray, List.getElem?_cons_zero, List.getElem?_cons_succ]; rfl) (by kernel_rfl) (by kernel_rfl) (by kernel_rfl) (fun _ _ _ h => h) (Or.inr ⟨by rfl, rfl⟩) (by assumption) ?_; try simp only [Act.put, List.setIfInBounds_toArray, List.set_cons_zero, List.set_cons_succ])
        (refine wpAnyH_take (i := 7) (v := undef) (by simp only [List.getElem?_toArray, List.getElem?_cons_zero, List.getElem?_cons_succ]; rfl) (by kernel_rfl) (by kernel_rfl) (by kernel_rfl) (fun _ _ _ h => h) (Or.inr ⟨by rfl, rfl⟩) (by assumption) ?_; try simp only [Act.put, List.setIfInBounds_toArray, List.set_cons_zero, List.set_cons_succ])
        (refine wpAnyH_take (i := 8) (v := undef) (by simp only [List.getElem?_toArray, List.getElem?_cons_zero, List.getElem?_cons_succ]; rfl) (by kernel_rfl) (by kernel_rfl) (by kernel_rfl) (fun _ _ _ h => h) (Or.inr ⟨by rfl, rfl⟩) (by assumption) ?_; try simp only [Act.put, List.setIfInBounds_toArray, List.set_cons_zero, List.set_cons_succ])
        (refine wpAnyH_take (i := 9) (v := undef) (by simp only [List.getElem?_toArray, List.getElem?_cons_zero, List.getElem?_cons_succ]; rfl) (by kernel_rfl) (by kernel_rfl) (by kernel_rfl) (fun _ _ _ h => h) (Or.inr ⟨by rfl, rfl⟩) (by assumption) ?_; try simp only [Act.put, List.setIfInBounds_toArray, List.set_cons_zero, List.set_cons_succ])
        (refine wpAnyH_take (i := 10) (v := undef) (by simp only [List.getElem?_toArray, List.getElem?_cons_zero, List.getElem?_cons_succ]; rfl) (by kernel_rfl) (by kernel_rfl) (by kernel_rfl) (fun _ _ _ h => h) (Or.inr ⟨by rfl, rfl⟩) (by assumption) ?_; try simp only [Act.put, List.setIfInBounds_toArray, List.set_cons_zero, List.set_cons_succ])
        (refine wpAnyH_take (i := 11) (v := undef) (by simp only [List.getElem?_toArray, List.getElem?_cons_zero, List.getElem?_cons_succ]; rfl) (by kernel_rfl) (by kernel_rfl) (by kernel_rfl) (fun _ _ _ h => h) (Or.inr ⟨by rfl, rfl⟩) (by assumption) ?_; try simp only [Act.put, List.setIfInBounds_toArray, List.set_cons_zero, List.set_cons_succ])
        (refine wpAnyH_take (i := 12) (v := undef) (by simp only [List.getElem?_toArray, List.getElem?_cons_zero, List.getElem?_cons_succ]; rfl) (by kernel_rfl) (by kernel_rfl) (by kernel_rfl) (fun _ _ _ h => h) (Or.inr ⟨by rfl, rfl⟩) (by assumption) ?_; try simp only [Act.put, List.setIfInBounds_toArray, List.set_cons_zero, List.set_cons_succ])
        (refine wpAnyH_take (i := 13) (v := ?_) (by simp only [List.getElem?_toArray, List.getElem?_cons_zero, List.getElem?_cons_succ]; rfl) (by kernel_rfl) (by kernel_rfl) (by kernel_rfl) (fun _ _ _ h => h) (Or.inl ⟨by rfl, ?_⟩) (by assumption) ?_; rotate_left; (· (intro w hSw; (try dsimp only at hSw); go_simp <;> with_reducible rfl)); try simp only [Act.put, List.setIfInBounds_toArray, List.set_cons_zero, List.set_cons_succ])
        (refine wpAnyH_take (i := 14) (v := ?_) (by simp only [List.getElem?_toArray, List.getElem?_cons_zero, List.getElem?_cons_succ]; rfl) (by kernel_rfl) (by kernel_rfl) (by kernel_rfl) (fun _ _ _ h => h) (Or.inl ⟨by rfl, ?_⟩) (by assumption) ?_; rotate_left; (· (intro w hSw; (try dsimp only at hSw); go_simp <;> with_reducible rfl)); try simp only [Act.put, List.setIfInBounds_toArray, List.set_cons_zero, List.set_cons_succ])
        (refine wpAnyH_take (i := 15) (v := ?_) (by simp only [List.getElem?_toArray, List.getElem?_cons_zero, List.getElem?_cons_succ]; rfl) (by kernel_rfl) (by kernel_rfl) (by kernel_rfl) (fun _ _ _ h => h) (Or.inl ⟨by rfl, ?_⟩) (by assumption) ?_; rotate_left; (· (intro w hSw; (try dsimp only at hSw); go_simp <;> with_reducible rfl)); try simp only [Act.put, List.setIfInBounds_toArray, List.set_cons_zero, List.set_cons_succ])
        refine wpAnyH_done (by kernel_rfl) ?_ _
        refine NoPanic.normal ?_
        clear t0 t1 hHeld
        go_wp2_with fail
        refine bodyPost_ret (v := .tuple #[.int .i64 (i : Int), .bool false]) (by simp [results, Tryz.results35, go_sem]) rfl ⟨_, by rw [HB2.out], HB.out.2.drew⟩
end Go.Proofs.YtojobiefambkoaaGreatDoor
