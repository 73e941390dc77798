/- Contract of the reference's Reckon: all operators. -/
import Derived.Test.YtaehhophaaipdaaGreatDoorQL
namespace Go.Proofs.YtaehhophaaipdaaGreatDoor
open Go.RowKit
attribute [local go_sem ↓] Go.wp_at_zero Go.wp_at_succ
set_option maxRecDepth 100000 in
set_option maxHeartbeats 4000000 in
theorem h18_1 (ns : List Int) (v : Value) (w : World) (hI : IntsR w v ns) (hok : ns.any greatB = false) : Calls Tryz.prog 71 #[.string ⟨#[45]⟩, v] w fun e w' => e = .returned (.tuple #[.int .i64 (reckS ⟨#[45]⟩ ns).1, .bool (reckS ⟨#[45]⟩ ns).2]) ∧ w' = w := by
  have HI : Hid (IntsR w v ns) := hI
  have HG : Hid (∀ x ∈ ns, greatB x = false) := fun x hx => by simpa using List.any_eq_false.1 hok x hx
  have hm := hI.1
  unfold maxLen at hm
  have HR : Hid (∀ x y, ns = [x, y] → reckS ⟨#[45]⟩ ns = resR 1 ns) := fun x y e => by
    refine reck_nk hok ?_
    rw [e]
    have h : (List.range 8).find? (matchB ⟨#[45]⟩ 2) = some 1 := by kernel_rfl
    exact h
  have HN : Hid (ns.length ≠ 2 → reckS ⟨#[45]⟩ ns = (0, false)) := fun h => reck_two (by kernel_rfl) h
  obtain ⟨ad, cap, hv⟩ := hI.form
  subst hv
  clear hI hok
  go_enter Tryz.func71, Tryz.ntmps71
  go_wp2_with fail
  go_loopw [6] (fun i wr => ∃ k : Nat, k ≤ ns.length ∧ i = .int .i64 k ∧ wr = w) (fun i _ => ns.length - (intOf i).toNat)
  case atStart => exact ⟨0, by omega, rfl, rfl⟩
  case round =>
    obtain ⟨k, hk, rfl, rfl⟩ := hrel
    by_cases hlt : k < ns.length
    · have hlt' : (k : Int) < (ns.length : Int) := by omega
      have hk0 : (0 : Int) ≤ (k : Int) := by omega
      obtain ⟨b, o, cp, hu, c0, _⟩ := HI.out.at k hlt
      simp only [Value.slice.injEq] at hu
      obtain ⟨rfl, _, rfl⟩ := hu
      have H38 := h38 ns[k] wr
      rw [HG.out _ (List.getElem_mem hlt)] at H38
      generalize ns[k] = x at *
      go_wp2_with fail
      refine H38.mono ?_
      rintro e w1 ⟨rfl, hw⟩
      obtain rfl := hw
      go_wp2_with fail
      go_roundw
      case rel => exact ⟨k + 1, by omega, by go_num, trivial⟩
      case measure => simp [intOf]; omega
    · have hlt' : ¬ ((k : Int) < (ns.length : Int)) := by omega
      rcases two_cases ns with ⟨x, y, rfl⟩ | hn2
      · obtain ⟨b, o, cp, hu, hc⟩ := pair_cells HI.out
        obtain ⟨c0, c1⟩ := hc _ (Below.refl _ _)
        simp only [Value.slice.injEq] at hu
        obtain ⟨rfl, _, rfl⟩ := hu
        have HE : Hid (reckS ⟨#[45]⟩ [x, y] = (finN (x - y) true, finB (x - y) true)) := HR.out x y rfl
        have hx := ok_great (HG.out x (by simp))
        have hy := ok_great (HG.out y (by simp))
        have hlt2 : ¬ ((k : Int) < 2) := by simp at hlt; omega
        clear hlt hlt' hk
        have z0 := And.intro (show -9000000000000000000 ≤ x - y by unfold okI at hx hy; omega) (show x - y ≤ 9000000000000000000 by unfold okI at hx hy; omega)
        obtain ⟨x1, x2⟩ := hx
        obtain ⟨y1, y2⟩ := hy
        obtain ⟨z, hz⟩ : ∃ z, x - y = z := ⟨_, rfl⟩
        rw [hz] at HE z0
        have H38 := h38 z wr
        cases hg : greatB z
        · have HV : Hid (reckS ⟨#[45]⟩ [x, y] = (z, true)) := by show reckS _ _ = _; rw [HE.out]; simp [finN, finB, hg]
          rw [hg] at H38
          clear HE hg
          go_wp2_with fail
          refine H38.mono ?_
          rintro e w1 ⟨rfl, hw⟩
          obtain rfl := hw
          go_wp2_with fail
          exact bodyPost_ret (v := .tuple #[.int .i64 z, .bool true]) (by simp [results, Tryz.results71, go_sem]) rfl ⟨by rw [HV.out], rfl⟩
        · have HV : Hid (reckS ⟨#[45]⟩ [x, y] = (0, false)) := by show reckS _ _ = _; rw [HE.out]; simp [finN, finB, hg]
          rw [hg] at H38
          clear HE hg
          go_wp2_with fail
          refine H38.mono ?_
          rintro e w1 ⟨rfl, hw⟩
          obtain rfl := hw
          go_wp2_with fail
          exact bodyPost_ret (v := .tuple #[.int .i64 0, .bool false]) (by simp [results, Tryz.results71, go_sem]) rfl ⟨by rw [HV.out], rfl⟩
      · have hne : (((ns.length : Int)) != 2) = true := by simp; omega
        have HE : Hid (reckS ⟨#[45]⟩ ns = (0, false)) := HN.out hn2
        go_wp2_with fail
        exact bodyPost_ret (v := .tuple #[.int .i64 0, .bool false]) (by simp [results, Tryz.results71, go_sem]) rfl ⟨by rw [HE.out], rfl⟩
set_option maxRecDepth 100000 in
set_option maxHeartbeats 4000000 in
theorem h18_2 (ns : List Int) (v : Value) (w : World) (hI : IntsR w v ns) (hok : ns.any greatB = false) : Calls Tryz.prog 71 #[.string ⟨#[42]⟩, v] w fun e w' => e = .returned (.tuple #[.int .i64 (reckS ⟨#[42]⟩ ns).1, .bool (reckS ⟨#[42]⟩ ns).2]) ∧ w' = w := by
  have HI : Hid (IntsR w v ns) := hI
  have HG : Hid (∀ x ∈ ns, greatB x = false) := fun x hx => by simpa using List.any_eq_false.1 hok x hx
  have hm := hI.1
  unfold maxLen at hm
  have HR : Hid (∀ x y, ns = [x, y] → reckS ⟨#[42]⟩ ns = resR 2 ns) := fun x y e => by
    refine reck_nk hok ?_
    rw [e]
    have h : (List.range 8).find? (matchB ⟨#[42]⟩ 2) = some 2 := by kernel_rfl
    exact h
  have HN : Hid (ns.length ≠ 2 → reckS ⟨#[42]⟩ ns = (0, false)) := fun h => reck_two (by kernel_rfl) h
  obtain ⟨ad, cap, hv⟩ := hI.form
  subst hv
  clear hI hok
  go_enter Tryz.func71, Tryz.ntmps71
  go_wp2_with fail
  go_loopw [6] (fun i wr => ∃ k : Nat, k ≤ ns.length ∧ i = .int .i64 k ∧ wr = w) (fun i _ => ns.length - (intOf i).toNat)
  case atStart => exact ⟨0, by omega, rfl, rfl⟩
  case round =>
    obtain ⟨k, hk, rfl, rfl⟩ := hrel
    by_cases hlt : k < ns.length
    · have hlt' : (k : Int) < (ns.length : Int) := by omega
      have hk0 : (0 : Int) ≤ (k : Int) := by omega
      obtain ⟨b, o, cp, hu, c0, _⟩ := HI.out.at k hlt
      simp only [Value.slice.injEq] at hu
      obtain ⟨rfl, _, rfl⟩ := hu
      have H38 := h38 ns[k] wr
      rw [HG.out _ (List.getElem_mem hlt)] at H38
      generalize ns[k] = x at *
      go_wp2_with fail
      refine H38.mono ?_
      rintro e w1 ⟨rfl, hw⟩
      obtain rfl := hw
      go_wp2_with fail
      go_roundw
      case rel => exact ⟨k + 1, by omega, by go_num, trivial⟩
      case measure => simp [intOf]; omega
    · have hlt' : ¬ ((k : Int) < (ns.length : Int)) := by omega
      rcases two_cases ns with ⟨x, y, rfl⟩ | hn2
      · obtain ⟨b, o, cp, hu, hc⟩ := pair_cells HI.out
        obtain ⟨c0, c1⟩ := hc _ (Below.refl _ _)
        simp only [Value.slice.injEq] at hu
        obtain ⟨rfl, _, rfl⟩ := hu
        have HE : Hid (reckS ⟨#[42]⟩ [x, y] = (finN (x * y) true, finB (x * y) true)) := HR.out x y rfl
        have hx := ok_great (HG.out x (by simp))
        have hy := ok_great (HG.out y (by simp))
        have hlt2 : ¬ ((k : Int) < 2) := by simp at hlt; omega
        clear hlt hlt' hk
        have z0 := mul_bd hx hy
        obtain ⟨x1, x2⟩ := hx
        obtain ⟨y1, y2⟩ := hy
        obtain ⟨z, hz⟩ : ∃ z, x * y = z := ⟨_, rfl⟩
        rw [hz] at HE z0
        have H38 := h38 z wr
        cases hg : greatB z
        · have HV : Hid (reckS ⟨#[42]⟩ [x, y] = (z, true)) := by show reckS _ _ = _; rw [HE.out]; simp [finN, finB, hg]
          rw [hg] at H38
          clear HE hg
          go_wp2_with fail
          refine H38.mono ?_
          rintro e w1 ⟨rfl, hw⟩
          obtain rfl := hw
          go_wp2_with fail
          exact bodyPost_ret (v := .tuple #[.int .i64 z, .bool true]) (by simp [results, Tryz.results71, go_sem]) rfl ⟨by rw [HV.out], rfl⟩
        · have HV : Hid (reckS ⟨#[42]⟩ [x, y] = (0, false)) := by show reckS _ _ = _; rw [HE.out]; simp [finN, finB, hg]
          rw [hg] at H38
          clear HE hg
          go_wp2_with fail
          refine H38.mono ?_
          rintro e w1 ⟨rfl, hw⟩
          obtain rfl := hw
          go_wp2_with fail
          exact bodyPost_ret (v := .tuple #[.int .i64 0, .bool false]) (by simp [results, Tryz.results71, go_sem]) rfl ⟨by rw [HV.out], rfl⟩
      · have hne : (((ns.length : Int)) != 2) = true := by simp; omega
        have HE : Hid (reckS ⟨#[42]⟩ ns = (0, false)) := HN.out hn2
        go_wp2_with fail
        exact bodyPost_ret (v := .tuple #[.int .i64 0, .bool false]) (by simp [results, Tryz.results71, go_sem]) rfl ⟨by rw [HE.out], rfl⟩
set_option maxRecDepth 100000 in
set_option maxHeartbeats 4000000 in
theorem h18_5 (ns : List Int) (v : Value) (w : World) (hI : IntsR w v ns) (hok : ns.any greatB = false) : Calls Tryz.prog 71 #[.string ⟨#[109, 105, 110]⟩, v] w fun e w' => e = .returned (.tuple #[.int .i64 (reckS ⟨#[109, 105, 110]⟩ ns).1, .bool (reckS ⟨#[109, 105, 110]⟩ ns).2]) ∧ w' = w := by
  have HI : Hid (IntsR w v ns) := hI
  have HG : Hid (∀ x ∈ ns, greatB x = false) := fun x hx => by simpa using List.any_eq_false.1 hok x hx
  have hm := hI.1
  unfold maxLen at hm
  have HR : Hid (∀ x y, ns = [x, y] → reckS ⟨#[109, 105, 110]⟩ ns = resR 5 ns) := fun x y e => by
    refine reck_nk hok ?_
    rw [e]
    have h : (List.range 8).find? (matchB ⟨#[109, 105, 110]⟩ 2) = some 5 := by kernel_rfl
    exact h
  have HN : Hid (ns.length ≠ 2 → reckS ⟨#[109, 105, 110]⟩ ns = (0, false)) := fun h => reck_two (by kernel_rfl) h
  obtain ⟨ad, cap, hv⟩ := hI.form
  subst hv
  clear hI hok
  go_enter Tryz.func71, Tryz.ntmps71
  go_wp2_with fail
  go_loopw [6] (fun i wr => ∃ k : Nat, k ≤ ns.length ∧ i = .int .i64 k ∧ wr = w) (fun i _ => ns.length - (intOf i).toNat)
  case atStart => exact ⟨0, by omega, rfl, rfl⟩
  case round =>
    obtain ⟨k, hk, rfl, rfl⟩ := hrel
    by_cases hlt : k < ns.length
    · have hlt' : (k : Int) < (ns.length : Int) := by omega
      have hk0 : (0 : Int) ≤ (k : Int) := by omega
      obtain ⟨b, o, cp, hu, c0, _⟩ := HI.out.at k hlt
      simp only [Value.slice.injEq] at hu
      obtain ⟨rfl, _, rfl⟩ := hu
      have H38 := h38 ns[k] wr
      rw [HG.out _ (List.getElem_mem hlt)] at H38
      generalize ns[k] = x at *
      go_wp2_with fail
      refine H38.mono ?_
      rintro e w1 ⟨rfl, hw⟩
      obtain rfl := hw
      go_wp2_with fail
      go_roundw
      case rel => exact ⟨k + 1, by omega, by go_num, trivial⟩
      case measure => simp [intOf]; omega
    · have hlt' : ¬ ((k : Int) < (ns.length : Int)) := by omega
      rcases two_cases ns with ⟨x, y, rfl⟩ | hn2
      · obtain ⟨b, o, cp, hu, hc⟩ := pair_cells HI.out
        obtain ⟨c0, c1⟩ := hc _ (Below.refl _ _)
        simp only [Value.slice.injEq] at hu
        obtain ⟨rfl, _, rfl⟩ := hu
        have HE : Hid (reckS ⟨#[109, 105, 110]⟩ [x, y] = (finN (if y < x then y else x) true, finB (if y < x then y else x) true)) := HR.out x y rfl
        have hx := ok_great (HG.out x (by simp))
        have hy := ok_great (HG.out y (by simp))
        have hlt2 : ¬ ((k : Int) < 2) := by simp at hlt; omega
        clear hlt hlt' hk
        clear hx hy
        by_cases hc : y < x
        · rw [if_pos hc] at HE
          have H38 := h38 y wr
          cases hg : greatB y
          · have HV : Hid (reckS ⟨#[109, 105, 110]⟩ [x, y] = (y, true)) := by show reckS _ _ = _; rw [HE.out]; simp [finN, finB, hg]
            rw [hg] at H38
            clear HE hg
            go_wp2_with fail
            refine H38.mono ?_
            rintro e w1 ⟨rfl, hw⟩
            obtain rfl := hw
            go_wp2_with fail
            exact bodyPost_ret (v := .tuple #[.int .i64 y, .bool true]) (by simp [results, Tryz.results71, go_sem]) rfl ⟨by rw [HV.out], rfl⟩
          · have HV : Hid (reckS ⟨#[109, 105, 110]⟩ [x, y] = (0, false)) := by show reckS _ _ = _; rw [HE.out]; simp [finN, finB, hg]
            rw [hg] at H38
            clear HE hg
            go_wp2_with fail
            refine H38.mono ?_
            rintro e w1 ⟨rfl, hw⟩
            obtain rfl := hw
            go_wp2_with fail
            exact bodyPost_ret (v := .tuple #[.int .i64 0, .bool false]) (by simp [results, Tryz.results71, go_sem]) rfl ⟨by rw [HV.out], rfl⟩
        · rw [if_neg hc] at HE
          have H38 := h38 x wr
          cases hg : greatB x
          · have HV : Hid (reckS ⟨#[109, 105, 110]⟩ [x, y] = (x, true)) := by show reckS _ _ = _; rw [HE.out]; simp [finN, finB, hg]
            rw [hg] at H38
            clear HE hg
            go_wp2_with fail
            refine H38.mono ?_
            rintro e w1 ⟨rfl, hw⟩
            obtain rfl := hw
            go_wp2_with fail
            exact bodyPost_ret (v := .tuple #[.int .i64 x, .bool true]) (by simp [results, Tryz.results71, go_sem]) rfl ⟨by rw [HV.out], rfl⟩
          · have HV : Hid (reckS ⟨#[109, 105, 110]⟩ [x, y] = (0, false)) := by show reckS _ _ = _; rw [HE.out]; simp [finN, finB, hg]
            rw [hg] at H38
            clear HE hg
            go_wp2_with fail
            refine H38.mono ?_
            rintro e w1 ⟨rfl, hw⟩
            obtain rfl := hw
            go_wp2_with fail
            exact bodyPost_ret (v := .tuple #[.int .i64 0, .bool false]) (by simp [results, Tryz.results71, go_sem]) rfl ⟨by rw [HV.out], rfl⟩
      · have hne : (((ns.length : Int)) != 2) = true := by simp; omega
        have HE : Hid (reckS ⟨#[109, 105, 110]⟩ ns = (0, false)) := HN.out hn2
        go_wp2_with fail
        exact bodyPost_ret (v := .tuple #[.int .i64 0, .bool false]) (by simp [results, Tryz.results71, go_sem]) rfl ⟨by rw [HE.out], rfl⟩
set_option maxRecDepth 100000 in
set_option maxHeartbeats 4000000 in
theorem h18_6 (ns : List Int) (v : Value) (w : World) (hI : IntsR w v ns) (hok : ns.any greatB = false) : Calls Tryz.prog 71 #[.string ⟨#[109, 97, 120]⟩, v] w fun e w' => e = .returned (.tuple #[.int .i64 (reckS ⟨#[109, 97, 120]⟩ ns).1, .bool (reckS ⟨#[109, 97, 120]⟩ ns).2]) ∧ w' = w := by
  have HI : Hid (IntsR w v ns) := hI
  have HG : Hid (∀ x ∈ ns, greatB x = false) := fun x hx => by simpa using List.any_eq_false.1 hok x hx
  have hm := hI.1
  unfold maxLen at hm
  have HR : Hid (∀ x y, ns = [x, y] → reckS ⟨#[109, 97, 120]⟩ ns = resR 6 ns) := fun x y e => by
    refine reck_nk hok ?_
    rw [e]
    have h : (List.range 8).find? (matchB ⟨#[109, 97, 120]⟩ 2) = some 6 := by kernel_rfl
    exact h
  have HN : Hid (ns.length ≠ 2 → reckS ⟨#[109, 97, 120]⟩ ns = (0, false)) := fun h => reck_two (by kernel_rfl) h
  obtain ⟨ad, cap, hv⟩ := hI.form
  subst hv
  clear hI hok
  go_enter Tryz.func71, Tryz.ntmps71
  go_wp2_with fail
  go_loopw [6] (fun i wr => ∃ k : Nat, k ≤ ns.length ∧ i = .int .i64 k ∧ wr = w) (fun i _ => ns.length - (intOf i).toNat)
  case atStart => exact ⟨0, by omega, rfl, rfl⟩
  case round =>
    obtain ⟨k, hk, rfl, rfl⟩ := hrel
    by_cases hlt : k < ns.length
    · have hlt' : (k : Int) < (ns.length : Int) := by omega
      have hk0 : (0 : Int) ≤ (k : Int) := by omega
      obtain ⟨b, o, cp, hu, c0, _⟩ := HI.out.at k hlt
      simp only [Value.slice.injEq] at hu
      obtain ⟨rfl, _, rfl⟩ := hu
      have H38 := h38 ns[k] wr
      rw [HG.out _ (List.getElem_mem hlt)] at H38
      generalize ns[k] = x at *
      go_wp2_with fail
      refine H38.mono ?_
      rintro e w1 ⟨rfl, hw⟩
      obtain rfl := hw
      go_wp2_with fail
      go_roundw
      case rel => exact ⟨k + 1, by omega, by go_num, trivial⟩
      case measure => simp [intOf]; omega
    · have hlt' : ¬ ((k : Int) < (ns.length : Int)) := by omega
      rcases two_cases ns with ⟨x, y, rfl⟩ | hn2
      · obtain ⟨b, o, cp, hu, hc⟩ := pair_cells HI.out
        obtain ⟨c0, c1⟩ := hc _ (Below.refl _ _)
        simp only [Value.slice.injEq] at hu
        obtain ⟨rfl, _, rfl⟩ := hu
        have HE : Hid (reckS ⟨#[109, 97, 120]⟩ [x, y] = (finN (if x < y then y else x) true, finB (if x < y then y else x) true)) := HR.out x y rfl
        have hx := ok_great (HG.out x (by simp))
        have hy := ok_great (HG.out y (by simp))
        have hlt2 : ¬ ((k : Int) < 2) := by simp at hlt; omega
        clear hlt hlt' hk
        clear hx hy
        by_cases hc : x < y
        · rw [if_pos hc] at HE
          have H38 := h38 y wr
          cases hg : greatB y
          · have HV : Hid (reckS ⟨#[109, 97, 120]⟩ [x, y] = (y, true)) := by show reckS _ _ = _; rw [HE.out]; simp [finN, finB, hg]
            rw [hg] at H38
            clear HE hg
            go_wp2_with fail
            refine H38.mono ?_
            rintro e w1 ⟨rfl, hw⟩
            obtain rfl := hw
            go_wp2_with fail
            exact bodyPost_ret (v := .tuple #[.int .i64 y, .bool true]) (by simp [results, Tryz.results71, go_sem]) rfl ⟨by rw [HV.out], rfl⟩
          · have HV : Hid (reckS ⟨#[109, 97, 120]⟩ [x, y] = (0, false)) := by show reckS _ _ = _; rw [HE.out]; simp [finN, finB, hg]
            rw [hg] at H38
            clear HE hg
            go_wp2_with fail
            refine H38.mono ?_
            rintro e w1 ⟨rfl, hw⟩
            obtain rfl := hw
            go_wp2_with fail
            exact bodyPost_ret (v := .tuple #[.int .i64 0, .bool false]) (by simp [results, Tryz.results71, go_sem]) rfl ⟨by rw [HV.out], rfl⟩
        · rw [if_neg hc] at HE
          have H38 := h38 x wr
          cases hg : greatB x
          · have HV : Hid (reckS ⟨#[109, 97, 120]⟩ [x, y] = (x, true)) := by show reckS _ _ = _; rw [HE.out]; simp [finN, finB, hg]
            rw [hg] at H38
            clear HE hg
            go_wp2_with fail
            refine H38.mono ?_
            rintro e w1 ⟨rfl, hw⟩
            obtain rfl := hw
            go_wp2_with fail
            exact bodyPost_ret (v := .tuple #[.int .i64 x, .bool true]) (by simp [results, Tryz.results71, go_sem]) rfl ⟨by rw [HV.out], rfl⟩
          · have HV : Hid (reckS ⟨#[109, 97, 120]⟩ [x, y] = (0, false)) := by show reckS _ _ = _; rw [HE.out]; simp [finN, finB, hg]
            rw [hg] at H38
            clear HE hg
            go_wp2_with fail
            refine H38.mono ?_
            rintro e w1 ⟨rfl, hw⟩
            obtain rfl := hw
            go_wp2_with fail
            exact bodyPost_ret (v := .tuple #[.int .i64 0, .bool false]) (by simp [results, Tryz.results71, go_sem]) rfl ⟨by rw [HV.out], rfl⟩
      · have hne : (((ns.length : Int)) != 2) = true := by simp; omega
        have HE : Hid (reckS ⟨#[109, 97, 120]⟩ ns = (0, false)) := HN.out hn2
        go_wp2_with fail
        exact bodyPost_ret (v := .tuple #[.int .i64 0, .bool false]) (by simp [results, Tryz.results71, go_sem]) rfl ⟨by rw [HE.out], rfl⟩
end Go.Proofs.YtaehhophaaipdaaGreatDoor
