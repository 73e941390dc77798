/- Contract of the reference's Reckon: all operators. -/
import Derived.Test.YteikdgjlhdgapaaDoorAR19P
import Derived.Test.YteikdgjlhdgapaaDoorQ17
namespace Go.Proofs.YteikdgjlhdgapaaDoor
open Go.RowKit
attribute [local go_sem ↓] Go.wp_at_zero Go.wp_at_succ
set_option maxRecDepth 100000 in
set_option maxHeartbeats 4000000 in
theorem h18_3 (ns : List Int) (v : Value) (w : World) (hI : IntsR w v ns) (hok : ns.any greatB = false) : Calls Tryd.prog 18 #[.string ⟨#[100, 105, 118]⟩, v] w fun e w' => e = .returned (.tuple #[.int .i64 (reckS ⟨#[100, 105, 118]⟩ ns).1, .bool (reckS ⟨#[100, 105, 118]⟩ ns).2]) ∧ w' = w := by
  have HI : Hid (IntsR w v ns) := hI
  have HG : Hid (∀ x ∈ ns, greatB x = false) := fun x hx => by simpa using List.any_eq_false.1 hok x hx
  have hm := hI.1
  unfold maxLen at hm
  have HR : Hid (∀ x y, ns = [x, y] → reckS ⟨#[100, 105, 118]⟩ ns = resR 3 ns) := fun x y e => by
    refine reck_nk hok ?_
    rw [e]
    have h : (List.range 8).find? (matchB ⟨#[100, 105, 118]⟩ 2) = some 3 := by kernel_rfl
    exact h
  have HN : Hid (ns.length ≠ 2 → reckS ⟨#[100, 105, 118]⟩ ns = (0, false)) := fun h => reck_two (by kernel_rfl) h
  obtain ⟨ad, cap, hv⟩ := hI.form
  subst hv
  clear hI hok
  go_enter Tryd.func18, Tryd.ntmps18
  go_wp2_with fail
  go_loopw [6] (fun i wr => ∃ k : Nat, k ≤ ns.length ∧ i = .int .i64 k ∧ wr = w) (fun i _ => ns.length - (intOf i).toNat)
  case atStart => exact ⟨0, by omega, rfl, rfl⟩
  case round =>
    obtain ⟨k, hk, rfl, rfl⟩ := hrel
    by_cases hlt : k < ns.length
    · have hlt' : (k : Int) < (ns.length : Int) := by omega
      have hk0 : (0 : Int) ≤ (k : Int) := by omega
      obtain ⟨b, o, cp, hu, c0, _⟩ := HI.out.at k hlt
      simp only [Value.slice.injEq] at hu
      obtain ⟨rfl, _, rfl⟩ := hu
      have H38 := h38 ns[k] wr
      rw [HG.out _ (List.getElem_mem hlt)] at H38
      generalize ns[k] = x at *
      go_wp2_with fail
      refine H38.mono ?_
      rintro e w1 ⟨rfl, hw⟩
      obtain rfl := hw
      go_wp2_with fail
      go_roundw
      case rel => exact ⟨k + 1, by omega, by go_num, trivial⟩
      case measure => simp [intOf]; omega
    · have hlt' : ¬ ((k : Int) < (ns.length : Int)) := by omega
      rcases two_cases ns with ⟨x, y, rfl⟩ | hn2
      · obtain ⟨b, o, cp, hu, hc⟩ := pair_cells HI.out
        obtain ⟨c0, c1⟩ := hc _ (Below.refl _ _)
        simp only [Value.slice.injEq] at hu
        obtain ⟨rfl, _, rfl⟩ := hu
        have HE : Hid (reckS ⟨#[100, 105, 118]⟩ [x, y] = resR 3 [x, y]) := HR.out x y rfl
        have hx := ok_great (HG.out x (by simp))
        have hy := ok_great (HG.out y (by simp))
        have hlt2 : ¬ ((k : Int) < 2) := by simp at hlt; omega
        clear hlt hlt' hk
        by_cases hy0 : y = 0
        · subst hy0
          have HV : Hid (reckS ⟨#[100, 105, 118]⟩ [x, 0] = (0, false)) := by show reckS _ _ = _; rw [HE.out]; simp [resR, rawR, finN, finB]
          clear HE hx hy
          go_wp2_with fail
          exact bodyPost_ret (v := .tuple #[.int .i64 0, .bool false]) (by simp [results, Tryd.results18, go_sem]) rfl ⟨by rw [HV.out], rfl⟩
        · have hyz : (y == 0) = false := by simpa using hy0
          have HE : Hid (reckS ⟨#[100, 105, 118]⟩ [x, y] = (finN (divF x y) true, finB (divF x y) true)) := by show reckS _ _ = _; rw [HE.out]; simp [resR, rawR, hy0]
          obtain ⟨t1, t2⟩ := tdiv_bd (b := y) hx
          obtain ⟨s1, s2, s3⟩ := tmod_facts x y hy0
          obtain ⟨x1, x2⟩ := hx
          obtain ⟨y1, y2⟩ := hy
          have m1 : -2147483648 ≤ x.tmod y ∧ x.tmod y ≤ 2147483648 := by omega
          have HDe : divF x y = if x.tmod y ≠ 0 ∧ ((decide (x < 0)) != (decide (y < 0))) = true then x.tdiv y - 1 else x.tdiv y := rfl
          have HSg : Hid (x.tmod y ≠ 0 → decide (x.tmod y < 0) = decide (x < 0)) := fun hr => by
            by_cases hx0 : x < 0
            · have := s2 hx0; simp [hx0]; omega
            · have := s1 (by omega); simp [hx0]; omega
          clear s1 s2 s3
          obtain ⟨q, hq⟩ : ∃ q, x.tdiv y = q := ⟨_, rfl⟩
          obtain ⟨r, hr⟩ : ∃ r, x.tmod y = r := ⟨_, rfl⟩
          rw [hr] at HSg m1
          rw [hq] at t1 t2
          rw [hr] at HDe
          rw [hq] at HDe
          obtain ⟨m1, m2⟩ := m1
          by_cases hr0 : r = 0
          · rw [if_neg (fun h => h.1 hr0)] at HDe
            rw [HDe] at HE
            have hr' : (r != 0) = false := by simp [hr0]
            clear HDe HSg hr0
            have H38 := h38 q wr
            cases hg : greatB q
            · have HV : Hid (reckS ⟨#[100, 105, 118]⟩ [x, y] = (q, true)) := by show reckS _ _ = _; rw [HE.out]; simp [finN, finB, hg]
              rw [hg] at H38
              clear HE hg
              go_wp2_with fail
              refine H38.mono ?_
              rintro e w1 ⟨rfl, hw⟩
              obtain rfl := hw
              go_wp2_with fail
              exact bodyPost_ret (v := .tuple #[.int .i64 q, .bool true]) (by simp [results, Tryd.results18, go_sem]) rfl ⟨by rw [HV.out], rfl⟩
            · have HV : Hid (reckS ⟨#[100, 105, 118]⟩ [x, y] = (0, false)) := by show reckS _ _ = _; rw [HE.out]; simp [finN, finB, hg]
              rw [hg] at H38
              clear HE hg
              go_wp2_with fail
              refine H38.mono ?_
              rintro e w1 ⟨rfl, hw⟩
              obtain rfl := hw
              go_wp2_with fail
              exact bodyPost_ret (v := .tuple #[.int .i64 0, .bool false]) (by simp [results, Tryd.results18, go_sem]) rfl ⟨by rw [HV.out], rfl⟩
          · have hr' : (r != 0) = true := by simpa using hr0
            rw [← HSg.out hr0] at HDe
            cases hs : ((decide (r < 0)) != (decide (y < 0)))
            · rw [if_neg (fun h => by rw [hs] at h; cases h.2)] at HDe
              rw [HDe] at HE
              have hs' : (!decide (r < 0) == decide (y < 0)) = false := hs
              clear HDe HSg hr0
              have H38 := h38 q wr
              cases hg : greatB q
              · have HV : Hid (reckS ⟨#[100, 105, 118]⟩ [x, y] = (q, true)) := by show reckS _ _ = _; rw [HE.out]; simp [finN, finB, hg]
                rw [hg] at H38
                clear HE hg
                go_wp2_with fail
                refine H38.mono ?_
                rintro e w1 ⟨rfl, hw⟩
                obtain rfl := hw
                go_wp2_with fail
                exact bodyPost_ret (v := .tuple #[.int .i64 q, .bool true]) (by simp [results, Tryd.results18, go_sem]) rfl ⟨by rw [HV.out], rfl⟩
              · have HV : Hid (reckS ⟨#[100, 105, 118]⟩ [x, y] = (0, false)) := by show reckS _ _ = _; rw [HE.out]; simp [finN, finB, hg]
                rw [hg] at H38
                clear HE hg
                go_wp2_with fail
                refine H38.mono ?_
                rintro e w1 ⟨rfl, hw⟩
                obtain rfl := hw
                go_wp2_with fail
                exact bodyPost_ret (v := .tuple #[.int .i64 0, .bool false]) (by simp [results, Tryd.results18, go_sem]) rfl ⟨by rw [HV.out], rfl⟩
            · rw [if_pos ⟨hr0, hs⟩] at HDe
              rw [HDe] at HE
              have hs' : (!decide (r < 0) == decide (y < 0)) = true := hs
              clear HDe HSg hr0
              obtain ⟨z, hz⟩ : ∃ z, q - 1 = z := ⟨_, rfl⟩
              rw [hz] at HE
              have z1 : -9000000000000000000 ≤ z ∧ z ≤ 9000000000000000000 := by omega
              have H38 := h38 z wr
              cases hg : greatB z
              · have HV : Hid (reckS ⟨#[100, 105, 118]⟩ [x, y] = (z, true)) := by show reckS _ _ = _; rw [HE.out]; simp [finN, finB, hg]
                rw [hg] at H38
                clear HE hg
                go_wp2_with fail
                refine H38.mono ?_
                rintro e w1 ⟨rfl, hw⟩
                obtain rfl := hw
                go_wp2_with fail
                exact bodyPost_ret (v := .tuple #[.int .i64 z, .bool true]) (by simp [results, Tryd.results18, go_sem]) rfl ⟨by rw [HV.out], rfl⟩
              · have HV : Hid (reckS ⟨#[100, 105, 118]⟩ [x, y] = (0, false)) := by show reckS _ _ = _; rw [HE.out]; simp [finN, finB, hg]
                rw [hg] at H38
                clear HE hg
                go_wp2_with fail
                refine H38.mono ?_
                rintro e w1 ⟨rfl, hw⟩
                obtain rfl := hw
                go_wp2_with fail
                exact bodyPost_ret (v := .tuple #[.int .i64 0, .bool false]) (by simp [results, Tryd.results18, go_sem]) rfl ⟨by rw [HV.out], rfl⟩
      · have hne : (((ns.length : Int)) != 2) = true := by simp; omega
        have HE : Hid (reckS ⟨#[100, 105, 118]⟩ ns = (0, false)) := HN.out hn2
        go_wp2_with fail
        exact bodyPost_ret (v := .tuple #[.int .i64 0, .bool false]) (by simp [results, Tryd.results18, go_sem]) rfl ⟨by rw [HE.out], rfl⟩
set_option maxRecDepth 100000 in
set_option maxHeartbeats 4000000 in
theorem h18_4 (ns : List Int) (v : Value) (w : World) (hI : IntsR w v ns) (hok : ns.any greatB = false) : Calls Tryd.prog 18 #[.string ⟨#[109, 111, 100]⟩, v] w fun e w' => e = .returned (.tuple #[.int .i64 (reckS ⟨#[109, 111, 100]⟩ ns).1, .bool (reckS ⟨#[109, 111, 100]⟩ ns).2]) ∧ w' = w := by
  have HI : Hid (IntsR w v ns) := hI
  have HG : Hid (∀ x ∈ ns, greatB x = false) := fun x hx => by simpa using List.any_eq_false.1 hok x hx
  have hm := hI.1
  unfold maxLen at hm
  have HR : Hid (∀ x y, ns = [x, y] → reckS ⟨#[109, 111, 100]⟩ ns = resR 4 ns) := fun x y e => by
    refine reck_nk hok ?_
    rw [e]
    have h : (List.range 8).find? (matchB ⟨#[109, 111, 100]⟩ 2) = some 4 := by kernel_rfl
    exact h
  have HN : Hid (ns.length ≠ 2 → reckS ⟨#[109, 111, 100]⟩ ns = (0, false)) := fun h => reck_two (by kernel_rfl) h
  obtain ⟨ad, cap, hv⟩ := hI.form
  subst hv
  clear hI hok
  go_enter Tryd.func18, Tryd.ntmps18
  go_wp2_with fail
  go_loopw [6] (fun i wr => ∃ k : Nat, k ≤ ns.length ∧ i = .int .i64 k ∧ wr = w) (fun i _ => ns.length - (intOf i).toNat)
  case atStart => exact ⟨0, by omega, rfl, rfl⟩
  case round =>
    obtain ⟨k, hk, rfl, rfl⟩ := hrel
    by_cases hlt : k < ns.length
    · have hlt' : (k : Int) < (ns.length : Int) := by omega
      have hk0 : (0 : Int) ≤ (k : Int) := by omega
      obtain ⟨b, o, cp, hu, c0, _⟩ := HI.out.at k hlt
      simp only [Value.slice.injEq] at hu
      obtain ⟨rfl, _, rfl⟩ := hu
      have H38 := h38 ns[k] wr
      rw [HG.out _ (List.getElem_mem hlt)] at H38
      generalize ns[k] = x at *
      go_wp2_with fail
      refine H38.mono ?_
      rintro e w1 ⟨rfl, hw⟩
      obtain rfl := hw
      go_wp2_with fail
      go_roundw
      case rel => exact ⟨k + 1, by omega, by go_num, trivial⟩
      case measure => simp [intOf]; omega
    · have hlt' : ¬ ((k : Int) < (ns.length : Int)) := by omega
      rcases two_cases ns with ⟨x, y, rfl⟩ | hn2
      · obtain ⟨b, o, cp, hu, hc⟩ := pair_cells HI.out
        obtain ⟨c0, c1⟩ := hc _ (Below.refl _ _)
        simp only [Value.slice.injEq] at hu
        obtain ⟨rfl, _, rfl⟩ := hu
        have HE : Hid (reckS ⟨#[109, 111, 100]⟩ [x, y] = resR 4 [x, y]) := HR.out x y rfl
        have hx := ok_great (HG.out x (by simp))
        have hy := ok_great (HG.out y (by simp))
        have hlt2 : ¬ ((k : Int) < 2) := by simp at hlt; omega
        clear hlt hlt' hk
        by_cases hy0 : y = 0
        · subst hy0
          have HV : Hid (reckS ⟨#[109, 111, 100]⟩ [x, 0] = (0, false)) := by show reckS _ _ = _; rw [HE.out]; simp [resR, rawR, finN, finB]
          clear HE hx hy
          go_wp2_with fail
          exact bodyPost_ret (v := .tuple #[.int .i64 0, .bool false]) (by simp [results, Tryd.results18, go_sem]) rfl ⟨by rw [HV.out], rfl⟩
        · have hyz : (y == 0) = false := by simpa using hy0
          have HE : Hid (reckS ⟨#[109, 111, 100]⟩ [x, y] = (finN (modF x y) true, finB (modF x y) true)) := by show reckS _ _ = _; rw [HE.out]; simp [resR, rawR, hy0]
          obtain ⟨t1, t2⟩ := tdiv_bd (b := y) hx
          obtain ⟨s1, s2, s3⟩ := tmod_facts x y hy0
          obtain ⟨x1, x2⟩ := hx
          obtain ⟨y1, y2⟩ := hy
          have m1 : -2147483648 ≤ x.tmod y ∧ x.tmod y ≤ 2147483648 := by omega
          have HDe : modF x y = if x.tmod y ≠ 0 ∧ ((decide (x < 0)) != (decide (y < 0))) = true then x.tmod y + y else x.tmod y := modF_eq x y
          have HSg : Hid (x.tmod y ≠ 0 → decide (x.tmod y < 0) = decide (x < 0)) := fun hr => by
            by_cases hx0 : x < 0
            · have := s2 hx0; simp [hx0]; omega
            · have := s1 (by omega); simp [hx0]; omega
          clear s1 s2 s3
          obtain ⟨q, hq⟩ : ∃ q, x.tdiv y = q := ⟨_, rfl⟩
          obtain ⟨r, hr⟩ : ∃ r, x.tmod y = r := ⟨_, rfl⟩
          rw [hr] at HSg m1
          rw [hq] at t1 t2
          rw [hr] at HDe
          obtain ⟨m1, m2⟩ := m1
          by_cases hr0 : r = 0
          · rw [if_neg (fun h => h.1 hr0)] at HDe
            rw [HDe] at HE
            have hr' : (r != 0) = false := by simp [hr0]
            clear HDe HSg hr0
            have H38 := h38 r wr
            cases hg : greatB r
            · have HV : Hid (reckS ⟨#[109, 111, 100]⟩ [x, y] = (r, true)) := by show reckS _ _ = _; rw [HE.out]; simp [finN, finB, hg]
              rw [hg] at H38
              clear HE hg
              go_wp2_with fail
              refine H38.mono ?_
              rintro e w1 ⟨rfl, hw⟩
              obtain rfl := hw
              go_wp2_with fail
              exact bodyPost_ret (v := .tuple #[.int .i64 r, .bool true]) (by simp [results, Tryd.results18, go_sem]) rfl ⟨by rw [HV.out], rfl⟩
            · have HV : Hid (reckS ⟨#[109, 111, 100]⟩ [x, y] = (0, false)) := by show reckS _ _ = _; rw [HE.out]; simp [finN, finB, hg]
              rw [hg] at H38
              clear HE hg
              go_wp2_with fail
              refine H38.mono ?_
              rintro e w1 ⟨rfl, hw⟩
              obtain rfl := hw
              go_wp2_with fail
              exact bodyPost_ret (v := .tuple #[.int .i64 0, .bool false]) (by simp [results, Tryd.results18, go_sem]) rfl ⟨by rw [HV.out], rfl⟩
          · have hr' : (r != 0) = true := by simpa using hr0
            rw [← HSg.out hr0] at HDe
            cases hs : ((decide (r < 0)) != (decide (y < 0)))
            · rw [if_neg (fun h => by rw [hs] at h; cases h.2)] at HDe
              rw [HDe] at HE
              have hs' : (!decide (r < 0) == decide (y < 0)) = false := hs
              clear HDe HSg hr0
              have H38 := h38 r wr
              cases hg : greatB r
              · have HV : Hid (reckS ⟨#[109, 111, 100]⟩ [x, y] = (r, true)) := by show reckS _ _ = _; rw [HE.out]; simp [finN, finB, hg]
                rw [hg] at H38
                clear HE hg
                go_wp2_with fail
                refine H38.mono ?_
                rintro e w1 ⟨rfl, hw⟩
                obtain rfl := hw
                go_wp2_with fail
                exact bodyPost_ret (v := .tuple #[.int .i64 r, .bool true]) (by simp [results, Tryd.results18, go_sem]) rfl ⟨by rw [HV.out], rfl⟩
              · have HV : Hid (reckS ⟨#[109, 111, 100]⟩ [x, y] = (0, false)) := by show reckS _ _ = _; rw [HE.out]; simp [finN, finB, hg]
                rw [hg] at H38
                clear HE hg
                go_wp2_with fail
                refine H38.mono ?_
                rintro e w1 ⟨rfl, hw⟩
                obtain rfl := hw
                go_wp2_with fail
                exact bodyPost_ret (v := .tuple #[.int .i64 0, .bool false]) (by simp [results, Tryd.results18, go_sem]) rfl ⟨by rw [HV.out], rfl⟩
            · rw [if_pos ⟨hr0, hs⟩] at HDe
              rw [HDe] at HE
              have hs' : (!decide (r < 0) == decide (y < 0)) = true := hs
              clear HDe HSg hr0
              obtain ⟨z, hz⟩ : ∃ z, r + y = z := ⟨_, rfl⟩
              rw [hz] at HE
              have z1 : -9000000000000000000 ≤ z ∧ z ≤ 9000000000000000000 := by omega
              have H38 := h38 z wr
              cases hg : greatB z
              · have HV : Hid (reckS ⟨#[109, 111, 100]⟩ [x, y] = (z, true)) := by show reckS _ _ = _; rw [HE.out]; simp [finN, finB, hg]
                rw [hg] at H38
                clear HE hg
                go_wp2_with fail
                refine H38.mono ?_
                rintro e w1 ⟨rfl, hw⟩
                obtain rfl := hw
                go_wp2_with fail
                exact bodyPost_ret (v := .tuple #[.int .i64 z, .bool true]) (by simp [results, Tryd.results18, go_sem]) rfl ⟨by rw [HV.out], rfl⟩
              · have HV : Hid (reckS ⟨#[109, 111, 100]⟩ [x, y] = (0, false)) := by show reckS _ _ = _; rw [HE.out]; simp [finN, finB, hg]
                rw [hg] at H38
                clear HE hg
                go_wp2_with fail
                refine H38.mono ?_
                rintro e w1 ⟨rfl, hw⟩
                obtain rfl := hw
                go_wp2_with fail
                exact bodyPost_ret (v := .tuple #[.int .i64 0, .bool false]) (by simp [results, Tryd.results18, go_sem]) rfl ⟨by rw [HV.out], rfl⟩
      · have hne : (((ns.length : Int)) != 2) = true := by simp; omega
        have HE : Hid (reckS ⟨#[109, 111, 100]⟩ ns = (0, false)) := HN.out hn2
        go_wp2_with fail
        exact bodyPost_ret (v := .tuple #[.int .i64 0, .bool false]) (by simp [results, Tryd.results18, go_sem]) rfl ⟨by rw [HE.out], rfl⟩
end Go.Proofs.YteikdgjlhdgapaaDoor
