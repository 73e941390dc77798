/- Contract of the reference's Reckon: all operators. Contract of the statement on reckoning: for every text and every numbers it returns true. Contract of the document's sum: operators, and all. Contract of the document's sum: an operator's parts, one by one. The document's Deref by a map, and by none; its Value. -/
import Derived.Test.YtaehhophaaipdaaGreatDoorQUg
import Derived.Test.YtaehhophaaipdaaGreatDoorQKg
import Derived.Test.YtaehhophaaipdaaGreatDoorQHg
namespace Go.Proofs.YtaehhophaaipdaaGreatDoor
open Go.RowKit
attribute [local go_sem ↓] Go.wp_at_zero Go.wp_at_succ
theorem tmod_facts (a b : Int) (hb : b ≠ 0) : (0 ≤ a → 0 ≤ a.tmod b) ∧ (a < 0 → a.tmod b ≤ 0) ∧ (a.tmod b).natAbs < b.natAbs := by
 refine ⟨fun h => Int.tmod_nonneg b h, fun h => ?_, ?_⟩
 ·have h1 := Int.tmod_nonneg b (show 0 ≤ -a by omega)
  rw [Int.neg_tmod] at h1
  omega
 ·rw [Int.natAbs_tmod]
  exact Nat.mod_lt _ (by omega)
set_option maxRecDepth 100000 in
set_option maxHeartbeats 4000000 in
theorem h18_3 (ns : List Int) (v : Value) (w : World) (hI : IntsR w v ns) (hok : ns.any greatB = false) : Calls Tryz.prog 71 #[.string ⟨#[100, 105, 118]⟩, v] w fun e w' => e = .returned (.tuple #[.int .i64 (reckS ⟨#[100, 105, 118]⟩ ns).1, .bool (reckS ⟨#[100, 105, 118]⟩ ns).2]) ∧ w' = w := by
 have HI : Hid (IntsR w v ns) := hI
 have HG : Hid (∀ x ∈ ns, greatB x = false) := fun x hx => by simpa using List.any_eq_false.1 hok x hx
 have hm := hI.1
 unfold maxLen at hm
 have HR : Hid (∀ x y, ns = [x, y] → reckS ⟨#[100, 105, 118]⟩ ns = resR 3 ns) := fun x y e => by
  refine reck_nk hok ?_
  rw [e]
  have h : (List.range 8).find? (matchB ⟨#[100, 105, 118]⟩ 2) = some 3 := by kernel_rfl
  exact h
 have HN : Hid (ns.length ≠ 2 → reckS ⟨#[100, 105, 118]⟩ ns = (0, false)) := fun h => reck_two (by kernel_rfl) h
 obtain ⟨ad, cap, hv⟩ := hI.form
 subst hv
 clear hI hok
 go_enter Tryz.func71, Tryz.ntmps71
 go_wp2_with fail
 go_loopw [6] (fun i wr => ∃ k : Nat, k ≤ ns.length ∧ i = .int .i64 k ∧ wr = w) (fun i _ => ns.length - (intOf i).toNat)
 case atStart => exact ⟨0, by omega, rfl, rfl⟩
 case round =>
  obtain ⟨k, hk, rfl, rfl⟩ := hrel
  by_cases hlt : k < ns.length
  ·have hlt' : (k : Int) < (ns.length : Int) := by omega
   have hk0 : (0 : Int) ≤ (k : Int) := by omega
   obtain ⟨b, o, cp, hu, c0, _⟩ := HI.out.at k hlt
   simp only [Value.slice.injEq] at hu
   obtain ⟨rfl, _, rfl⟩ := hu
   have H38 := h38 ns[k] wr
   rw [HG.out _ (List.getElem_mem hlt)] at H38
   generalize ns[k] = x at *
   go_wp2_with fail
   refine H38.mono ?_
   rintro e w1 ⟨rfl, hw⟩
   obtain rfl := hw
   go_wp2_with fail
   go_roundw
   case rel => exact ⟨k + 1, by omega, by go_num, trivial⟩
   case measure => simp [intOf]; omega
  ·have hlt' : ¬ ((k : Int) < (ns.length : Int)) := by omega
   rcases two_cases ns with ⟨x, y, rfl⟩ | hn2
   ·obtain ⟨b, o, cp, hu, hc⟩ := pair_cells HI.out
    obtain ⟨c0, c1⟩ := hc _ (Below.refl _ _)
    simp only [Value.slice.injEq] at hu
    obtain ⟨rfl, _, rfl⟩ := hu
    have HE : Hid (reckS ⟨#[100, 105, 118]⟩ [x, y] = resR 3 [x, y]) := HR.out x y rfl
    have hx := ok_great (HG.out x (by simp))
    have hy := ok_great (HG.out y (by simp))
    have hlt2 : ¬ ((k : Int) < 2) := by simp at hlt; omega
    clear hlt hlt' hk
    by_cases hy0 : y = 0
    ·subst hy0
     have HV : Hid (reckS ⟨#[100, 105, 118]⟩ [x, 0] = (0, false)) := by show reckS _ _ = _; rw [HE.out]; simp [resR, rawR, finN, finB]
     clear HE hx hy
     go_wp2_with fail
     exact bodyPost_ret (v := .tuple #[.int .i64 0, .bool false]) (by simp [results, Tryz.results71, go_sem]) rfl ⟨by rw [HV.out], rfl⟩
    ·have hyz : (y == 0) = false := by simpa using hy0
     have HE : Hid (reckS ⟨#[100, 105, 118]⟩ [x, y] = (finN (divF x y) true, finB (divF x y) true)) := by show reckS _ _ = _; rw [HE.out]; simp [resR, rawR, hy0]
     obtain ⟨t1, t2⟩ := tdiv_bd (b := y) hx
     obtain ⟨s1, s2, s3⟩ := tmod_facts x y hy0
     obtain ⟨x1, x2⟩ := hx
     obtain ⟨y1, y2⟩ := hy
     have m1 : -2147483648 ≤ x.tmod y ∧ x.tmod y ≤ 2147483648 := by omega
     have HDe : divF x y = if x.tmod y ≠ 0 ∧ ((decide (x < 0)) != (decide (y < 0))) = true then x.tdiv y - 1 else x.tdiv y := rfl
     have HSg : Hid (x.tmod y ≠ 0 → decide (x.tmod y < 0) = decide (x < 0)) := fun hr => by
      by_cases hx0 : x < 0
      ·have := s2 hx0; simp [hx0]; omega
      ·have := s1 (by omega); simp [hx0]; omega
     clear s1 s2 s3
     obtain ⟨q, hq⟩ : ∃ q, x.tdiv y = q := ⟨_, rfl⟩
     obtain ⟨r, hr⟩ : ∃ r, x.tmod y = r := ⟨_, rfl⟩
     rw [hr] at HSg m1
     rw [hq] at t1 t2
     rw [hr] at HDe
     rw [hq] at HDe
     obtain ⟨m1, m2⟩ := m1
     by_cases hr0 : r = 0
     ·rw [if_neg (fun h => h.1 hr0)] at HDe
      rw [HDe] at HE
      have hr' : (r != 0) = false := by simp [hr0]
      clear HDe HSg hr0
      have H38 := h38 q wr
      cases hg : greatB q
      ·have HV : Hid (reckS ⟨#[100, 105, 118]⟩ [x, y] = (q, true)) := by show reckS _ _ = _; rw [HE.out]; simp [finN, finB, hg]
       rw [hg] at H38
       clear HE hg
       go_wp2_with fail
       refine H38.mono ?_
       rintro e w1 ⟨rfl, hw⟩
       obtain rfl := hw
       go_wp2_with fail
       exact bodyPost_ret (v := .tuple #[.int .i64 q, .bool true]) (by simp [results, Tryz.results71, go_sem]) rfl ⟨by rw [HV.out], rfl⟩
      ·have HV : Hid (reckS ⟨#[100, 105, 118]⟩ [x, y] = (0, false)) := by show reckS _ _ = _; rw [HE.out]; simp [finN, finB, hg]
       rw [hg] at H38
       clear HE hg
       go_wp2_with fail
       refine H38.mono ?_
       rintro e w1 ⟨rfl, hw⟩
       obtain rfl := hw
       go_wp2_with fail
       exact bodyPost_ret (v := .tuple #[.int .i64 0, .bool false]) (by simp [results, Tryz.results71, go_sem]) rfl ⟨by rw [HV.out], rfl⟩
     ·have hr' : (r != 0) = true := by simpa using hr0
      rw [← HSg.out hr0] at HDe
      cases hs : ((decide (r < 0)) != (decide (y < 0)))
      ·rw [if_neg (fun h => by rw [hs] at h; cases h.2)] at HDe
       rw [HDe] at HE
       have hs' : (!decide (r < 0) == decide (y < 0)) = false := hs
       clear HDe HSg hr0
       have H38 := h38 q wr
       cases hg : greatB q
       ·have HV : Hid (reckS ⟨#[100, 105, 118]⟩ [x, y] = (q, true)) := by show reckS _ _ = _; rw [HE.out]; simp [finN, finB, hg]
        rw [hg] at H38
        clear HE hg
        go_wp2_with fail
        refine H38.mono ?_
        rintro e w1 ⟨rfl, hw⟩
        obtain rfl := hw
        go_wp2_with fail
        exact bodyPost_ret (v := .tuple #[.int .i64 q, .bool true]) (by simp [results, Tryz.results71, go_sem]) rfl ⟨by rw [HV.out], rfl⟩
       ·have HV : Hid (reckS ⟨#[100, 105, 118]⟩ [x, y] = (0, false)) := by show reckS _ _ = _; rw [HE.out]; simp [finN, finB, hg]
        rw [hg] at H38
        clear HE hg
        go_wp2_with fail
        refine H38.mono ?_
        rintro e w1 ⟨rfl, hw⟩
        obtain rfl := hw
        go_wp2_with fail
        exact bodyPost_ret (v := .tuple #[.int .i64 0, .bool false]) (by simp [results, Tryz.results71, go_sem]) rfl ⟨by rw [HV.out], rfl⟩
      ·rw [if_pos ⟨hr0, hs⟩] at HDe
       rw [HDe] at HE
       have hs' : (!decide (r < 0) == decide (y < 0)) = true := hs
       clear HDe HSg hr0
       obtain ⟨z, hz⟩ : ∃ z, q - 1 = z := ⟨_, rfl⟩
       rw [hz] at HE
       have z1 : -9000000000000000000 ≤ z ∧ z ≤ 9000000000000000000 := by omega
       have H38 := h38 z wr
       cases hg : greatB z
       ·have HV : Hid (reckS ⟨#[100, 105, 118]⟩ [x, y] = (z, true)) := by show reckS _ _ = _; rw [HE.out]; simp [finN, finB, hg]
        rw [hg] at H38
        clear HE hg
        go_wp2_with fail
        refine H38.mono ?_
        rintro e w1 ⟨rfl, hw⟩
        obtain rfl := hw
        go_wp2_with fail
        exact bodyPost_ret (v := .tuple #[.int .i64 z, .bool true]) (by simp [results, Tryz.results71, go_sem]) rfl ⟨by rw [HV.out], rfl⟩
       ·have HV : Hid (reckS ⟨#[100, 105, 118]⟩ [x, y] = (0, false)) := by show reckS _ _ = _; rw [HE.out]; simp [finN, finB, hg]
        rw [hg] at H38
        clear HE hg
        go_wp2_with fail
        refine H38.mono ?_
        rintro e w1 ⟨rfl, hw⟩
        obtain rfl := hw
        go_wp2_with fail
        exact bodyPost_ret (v := .tuple #[.int .i64 0, .bool false]) (by simp [results, Tryz.results71, go_sem]) rfl ⟨by rw [HV.out], rfl⟩
   ·have hne : (((ns.length : Int)) != 2) = true := by simp; omega
    have HE : Hid (reckS ⟨#[100, 105, 118]⟩ ns = (0, false)) := HN.out hn2
    go_wp2_with fail
    exact bodyPost_ret (v := .tuple #[.int .i64 0, .bool false]) (by simp [results, Tryz.results71, go_sem]) rfl ⟨by rw [HE.out], rfl⟩
set_option maxRecDepth 100000 in
set_option maxHeartbeats 4000000 in
theorem h18_4 (ns : List Int) (v : Value) (w : World) (hI : IntsR w v ns) (hok : ns.any greatB = false) : Calls Tryz.prog 71 #[.string ⟨#[109, 111, 100]⟩, v] w fun e w' => e = .returned (.tuple #[.int .i64 (reckS ⟨#[109, 111, 100]⟩ ns).1, .bool (reckS ⟨#[109, 111, 100]⟩ ns).2]) ∧ w' = w := by
 have HI : Hid (IntsR w v ns) := hI
 have HG : Hid (∀ x ∈ ns, greatB x = false) := fun x hx => by simpa using List.any_eq_false.1 hok x hx
 have hm := hI.1
 unfold maxLen at hm
 have HR : Hid (∀ x y, ns = [x, y] → reckS ⟨#[109, 111, 100]⟩ ns = resR 4 ns) := fun x y e => by
  refine reck_nk hok ?_
  rw [e]
  have h : (List.range 8).find? (matchB ⟨#[109, 111, 100]⟩ 2) = some 4 := by kernel_rfl
  exact h
 have HN : Hid (ns.length ≠ 2 → reckS ⟨#[109, 111, 100]⟩ ns = (0, false)) := fun h => reck_two (by kernel_rfl) h
 obtain ⟨ad, cap, hv⟩ := hI.form
 subst hv
 clear hI hok
 go_enter Tryz.func71, Tryz.ntmps71
 go_wp2_with fail
 go_loopw [6] (fun i wr => ∃ k : Nat, k ≤ ns.length ∧ i = .int .i64 k ∧ wr = w) (fun i _ => ns.length - (intOf i).toNat)
 case atStart => exact ⟨0, by omega, rfl, rfl⟩
 case round =>
  obtain ⟨k, hk, rfl, rfl⟩ := hrel
  by_cases hlt : k < ns.length
  ·have hlt' : (k : Int) < (ns.length : Int) := by omega
   have hk0 : (0 : Int) ≤ (k : Int) := by omega
   obtain ⟨b, o, cp, hu, c0, _⟩ := HI.out.at k hlt
   simp only [Value.slice.injEq] at hu
   obtain ⟨rfl, _, rfl⟩ := hu
   have H38 := h38 ns[k] wr
   rw [HG.out _ (List.getElem_mem hlt)] at H38
   generalize ns[k] = x at *
   go_wp2_with fail
   refine H38.mono ?_
   rintro e w1 ⟨rfl, hw⟩
   obtain rfl := hw
   go_wp2_with fail
   go_roundw
   case rel => exact ⟨k + 1, by omega, by go_num, trivial⟩
   case measure => simp [intOf]; omega
  ·have hlt' : ¬ ((k : Int) < (ns.length : Int)) := by omega
   rcases two_cases ns with ⟨x, y, rfl⟩ | hn2
   ·obtain ⟨b, o, cp, hu, hc⟩ := pair_cells HI.out
    obtain ⟨c0, c1⟩ := hc _ (Below.refl _ _)
    simp only [Value.slice.injEq] at hu
    obtain ⟨rfl, _, rfl⟩ := hu
    have HE : Hid (reckS ⟨#[109, 111, 100]⟩ [x, y] = resR 4 [x, y]) := HR.out x y rfl
    have hx := ok_great (HG.out x (by simp))
    have hy := ok_great (HG.out y (by simp))
    have hlt2 : ¬ ((k : Int) < 2) := by simp at hlt; omega
    clear hlt hlt' hk
    by_cases hy0 : y = 0
    ·subst hy0
     have HV : Hid (reckS ⟨#[109, 111, 100]⟩ [x, 0] = (0, false)) := by show reckS _ _ = _; rw [HE.out]; simp [resR, rawR, finN, finB]
     clear HE hx hy
     go_wp2_with fail
     exact bodyPost_ret (v := .tuple #[.int .i64 0, .bool false]) (by simp [results, Tryz.results71, go_sem]) rfl ⟨by rw [HV.out], rfl⟩
    ·have hyz : (y == 0) = false := by simpa using hy0
     have HE : Hid (reckS ⟨#[109, 111, 100]⟩ [x, y] = (finN (modF x y) true, finB (modF x y) true)) := by show reckS _ _ = _; rw [HE.out]; simp [resR, rawR, hy0]
     obtain ⟨t1, t2⟩ := tdiv_bd (b := y) hx
     obtain ⟨s1, s2, s3⟩ := tmod_facts x y hy0
     obtain ⟨x1, x2⟩ := hx
     obtain ⟨y1, y2⟩ := hy
     have m1 : -2147483648 ≤ x.tmod y ∧ x.tmod y ≤ 2147483648 := by omega
     have HDe : modF x y = if x.tmod y ≠ 0 ∧ ((decide (x < 0)) != (decide (y < 0))) = true then x.tmod y + y else x.tmod y := modF_eq x y
     have HSg : Hid (x.tmod y ≠ 0 → decide (x.tmod y < 0) = decide (x < 0)) := fun hr => by
      by_cases hx0 : x < 0
      ·have := s2 hx0; simp [hx0]; omega
      ·have := s1 (by omega); simp [hx0]; omega
     clear s1 s2 s3
     obtain ⟨q, hq⟩ : ∃ q, x.tdiv y = q := ⟨_, rfl⟩
     obtain ⟨r, hr⟩ : ∃ r, x.tmod y = r := ⟨_, rfl⟩
     rw [hr] at HSg m1
     rw [hq] at t1 t2
     rw [hr] at HDe
     obtain ⟨m1, m2⟩ := m1
     by_cases hr0 : r = 0
     ·rw [if_neg (fun h => h.1 hr0)] at HDe
      rw [HDe] at HE
      have hr' : (r != 0) = false := by simp [hr0]
      clear HDe HSg hr0
      have H38 := h38 r wr
      cases hg : greatB r
      ·have HV : Hid (reckS ⟨#[109, 111, 100]⟩ [x, y] = (r, true)) := by show reckS _ _ = _; rw [HE.out]; simp [finN, finB, hg]
       rw [hg] at H38
       clear HE hg
       go_wp2_with fail
       refine H38.mono ?_
       rintro e w1 ⟨rfl, hw⟩
       obtain rfl := hw
       go_wp2_with fail
       exact bodyPost_ret (v := .tuple #[.int .i64 r, .bool true]) (by simp [results, Tryz.results71, go_sem]) rfl ⟨by rw [HV.out], rfl⟩
      ·have HV : Hid (reckS ⟨#[109, 111, 100]⟩ [x, y] = (0, false)) := by show reckS _ _ = _; rw [HE.out]; simp [finN, finB, hg]
       rw [hg] at H38
       clear HE hg
       go_wp2_with fail
       refine H38.mono ?_
       rintro e w1 ⟨rfl, hw⟩
       obtain rfl := hw
       go_wp2_with fail
       exact bodyPost_ret (v := .tuple #[.int .i64 0, .bool false]) (by simp [results, Tryz.results71, go_sem]) rfl ⟨by rw [HV.out], rfl⟩
     ·have hr' : (r != 0) = true := by simpa using hr0
      rw [← HSg.out hr0] at HDe
      cases hs : ((decide (r < 0)) != (decide (y < 0)))
      ·rw [if_neg (fun h => by rw [hs] at h; cases h.2)] at HDe
       rw [HDe] at HE
       have hs' : (!decide (r < 0) == decide (y < 0)) = false := hs
       clear HDe HSg hr0
       have H38 := h38 r wr
       cases hg : greatB r
       ·have HV : Hid (reckS ⟨#[109, 111, 100]⟩ [x, y] = (r, true)) := by show reckS _ _ = _; rw [HE.out]; simp [finN, finB, hg]
        rw [hg] at H38
        clear HE hg
        go_wp2_with fail
        refine H38.mono ?_
        rintro e w1 ⟨rfl, hw⟩
        obtain rfl := hw
        go_wp2_with fail
        exact bodyPost_ret (v := .tuple #[.int .i64 r, .bool true]) (by simp [results, Tryz.results71, go_sem]) rfl ⟨by rw [HV.out], rfl⟩
       ·have HV : Hid (reckS ⟨#[109, 111, 100]⟩ [x, y] = (0, false)) := by show reckS _ _ = _; rw [HE.out]; simp [finN, finB, hg]
        rw [hg] at H38
        clear HE hg
        go_wp2_with fail
        refine H38.mono ?_
        rintro e w1 ⟨rfl, hw⟩
        obtain rfl := hw
        go_wp2_with fail
        exact bodyPost_ret (v := .tuple #[.int .i64 0, .bool false]) (by simp [results, Tryz.results71, go_sem]) rfl ⟨by rw [HV.out], rfl⟩
      ·rw [if_pos ⟨hr0, hs⟩] at HDe
       rw [HDe] at HE
       have hs' : (!decide (r < 0) == decide (y < 0)) = true := hs
       clear HDe HSg hr0
       obtain ⟨z, hz⟩ : ∃ z, r + y = z := ⟨_, rfl⟩
       rw [hz] at HE
       have z1 : -9000000000000000000 ≤ z ∧ z ≤ 9000000000000000000 := by omega
       have H38 := h38 z wr
       cases hg : greatB z
       ·have HV : Hid (reckS ⟨#[109, 111, 100]⟩ [x, y] = (z, true)) := by show reckS _ _ = _; rw [HE.out]; simp [finN, finB, hg]
        rw [hg] at H38
        clear HE hg
        go_wp2_with fail
        refine H38.mono ?_
        rintro e w1 ⟨rfl, hw⟩
        obtain rfl := hw
        go_wp2_with fail
        exact bodyPost_ret (v := .tuple #[.int .i64 z, .bool true]) (by simp [results, Tryz.results71, go_sem]) rfl ⟨by rw [HV.out], rfl⟩
       ·have HV : Hid (reckS ⟨#[109, 111, 100]⟩ [x, y] = (0, false)) := by show reckS _ _ = _; rw [HE.out]; simp [finN, finB, hg]
        rw [hg] at H38
        clear HE hg
        go_wp2_with fail
        refine H38.mono ?_
        rintro e w1 ⟨rfl, hw⟩
        obtain rfl := hw
        go_wp2_with fail
        exact bodyPost_ret (v := .tuple #[.int .i64 0, .bool false]) (by simp [results, Tryz.results71, go_sem]) rfl ⟨by rw [HV.out], rfl⟩
   ·have hne : (((ns.length : Int)) != 2) = true := by simp; omega
    have HE : Hid (reckS ⟨#[109, 111, 100]⟩ ns = (0, false)) := HN.out hn2
    go_wp2_with fail
    exact bodyPost_ret (v := .tuple #[.int .i64 0, .bool false]) (by simp [results, Tryz.results71, go_sem]) rfl ⟨by rw [HE.out], rfl⟩
end Go.Proofs.YtaehhophaaipdaaGreatDoor

namespace Go.Proofs.YtaehhophaaipdaaGreatDoor
open Go.RowKit
attribute [local go_sem ↓] Go.wp_at_zero Go.wp_at_succ
theorem op_eq {a b : ByteArray} (h : (a.toList == b.toList) = true) : a = b := by
 have e : a.toList = b.toList := by simpa using h
 rw [ByteArray.toList_eq, ByteArray.toList_eq] at e
 exact ByteArray.ext (Array.toList_inj.1 e)
theorem h18 (op : ByteArray) (ns : List Int) (v : Value) (w : World) (hI : IntsR w v ns) : Calls Tryz.prog 71 #[.string op, v] w fun e w' => e = .returned (.tuple #[.int .i64 (reckS op ns).1, .bool (reckS op ns).2]) ∧ w' = w := by
 cases hok : ns.any greatB
 ·by_cases h : ∃ i, i < 8 ∧ ((opT i).toList == op.toList) = true
  ·obtain ⟨i, hi, h⟩ := h
   obtain rfl := op_eq h
   match i, hi with
   | 0, _ => exact h18_0 ns v w hI hok
   | 1, _ => exact h18_1 ns v w hI hok
   | 2, _ => exact h18_2 ns v w hI hok
   | 3, _ => exact h18_3 ns v w hI hok
   | 4, _ => exact h18_4 ns v w hI hok
   | 5, _ => exact h18_5 ns v w hI hok
   | 6, _ => exact h18_6 ns v w hI hok
   | 7, _ => exact h18_7 ns v w hI hok
  ·refine h18_o op ns v w hI hok (fun i hi => ?_)
   cases hq : ((opT i).toList == op.toList)
   ·rfl
   ·exact absurd ⟨i, hi, hq⟩ h
 ·exact h18_bad op ns v w hI hok
end Go.Proofs.YtaehhophaaipdaaGreatDoor

namespace Go.Proofs.YtaehhophaaipdaaGreatDoor
open Go.RowKit
attribute [local go_sem ↓] Go.wp_at_zero Go.wp_at_succ
/-- A row of one's own stays while another one of another type grows. -/
theorem own_apart {w w' : World} {B B' : Nat} {e e' : TypeId} {s s' n n' : Nat} {v v' : Value} {xs xs' : List Value} (h : w.ownsRow B e s v n xs) (h' : w.ownsRow B' e' s' v' n' xs') (hne : e ≠ e') (hg : w.grownBy w' v'.ownBlock) : w'.ownsRow B e s v n xs := by
 refine ⟨h.1, ?_⟩
 rcases h.2 with h1 | ⟨g, cap, cur, h1, h2, h3, h4⟩
 ·exact .inl h1
 ·refine .inr ⟨g, cap, cur, h1, h2, (hg.block g (Array.getElem?_eq_some_iff.1 h3).1 fun e2 => ?_).trans h3, h4⟩
  rcases h'.2 with ⟨e3, _⟩ | ⟨g3, cap3, cur3, e3, _, h5, _⟩
  ·rw [e3] at e2; cases e2
  ·rw [e3] at e2
   simp only [Value.ownBlock, Option.some.injEq] at e2
   subst e2
   rw [h3] at h5
   cases h5
   exact hne rfl
theorem own_low {w : World} {B B' : Nat} {e : TypeId} {s n : Nat} {v : Value} {xs : List Value} (h : w.ownsRow B e s v n xs) (hb : B' ≤ B) : w.ownsRow B' e s v n xs := by
 refine ⟨h.1, ?_⟩
 rcases h.2 with h1 | ⟨g, cap, cur, h1, h2, h3, h4⟩
 ·exact .inl h1
 ·exact .inr ⟨g, cap, cur, h1, by omega, h3, h4⟩
theorem opT_ne : ∀ i, i < 8 → ∀ j, j < i → ((opT j).toList == (opT i).toList) = false := by
 have key : ∀ i, i < 8 → ∀ j, j < i → decide ((opT j).data.toList = (opT i).data.toList) = false := by decide
 intro i hi j hj
 rw [ByteArray.toList_eq, ByteArray.toList_eq]
 have := key i hi j hj
 simpa using this
/-- What Reckon tells of an operator's numbers. -/
theorem reck_op {i : Nat} (hi : i < 8) {ns : List Int} (hl : (ns.length : Int) = opA i) (hok : ∀ x ∈ ns, okI x) : reckS (opT i) ns = resR i ns := by
 refine reck_nk ?_ (find_range hi ?_ ?_)
 ·rw [List.any_eq_false]
  intro x hx
  have := hok x hx
  unfold okI at this
  simp only [greatB, Bool.or_eq_true, decide_eq_true_eq]
  omega
 ·unfold matchB
  rw [hl]
  simp
 ·intro j hj
  unfold matchB
  rw [opT_ne i hi j hj, Bool.false_and]
/-- The arguments of a structure are as many as it says. -/
theorem args_n {c : C} {r : List C} (hr : rightB (c :: r) = true) (hk : c.k = 3) : ((argsL (c :: r)).length : Int) = c.n ∧ (∀ s ∈ argsL (c :: r), rightB s = true ∧ ∀ x ∈ s, x ∈ c :: r) ∧ (argsL (c :: r)).length ≤ 8 := by
 obtain ⟨h1, h2, h3⟩ := argsL_spec (c :: r) hr (by simp) hk
 have hn := head_n hr (by simp) hk
 simp only [List.getElem_cons_zero] at h2 hn
 refine ⟨?_, fun s hs => ?_, argsL_len _⟩
 ·rw [h2, hk]
  simp [argsOf]
  omega
 ·obtain ⟨g1, g2, g3, g4⟩ := h3 s hs
  have h256 := ((right_iff _).1 hr).2.1
  refine ⟨(right_iff s).2 ⟨g2, by omega, ?_, eat_comp s 1 g1⟩, g4⟩
  have ha := ((right_iff _).1 hr).2.2.1
  rw [List.all_eq_true] at ha ⊢
  exact fun x hx => ha x (g4 x hx)
/-- Of terms up to a depth. -/
def SumR (m : Hp) (w0 : World) (p : Option Addr) (d : Nat) : Prop := ∀ (cells : List C) (v : V3), Rs m d cells v → ∀ (val : Value) (w : World), Below w0.heap.size w0 w → TermAt w val cells → rightB cells = true → (∀ c ∈ cells, wfN (c.vn, c.vk)) → Calls Tryz.prog 36 #[.pointer p, val] w (RvPost v w)
theorem z70_b {c : C} {r : List C} (hr : rightB (c :: r) = true) (hk : c.k = 3) (b : Bool) (h : (b = true ∧ ∃ i, i < 8 ∧ isB (c :: r) (opT i) (opA i) = true) ∨ (b = false ∧ ∀ i, i < 8 → isB (c :: r) (opT i) (opA i) = false)) (W : World) :
  Calls Tryz.prog 70 #[.string c.t, .int .i64 ((argsL (c :: r)).length : Int)] W fun e w' => e = .returned (.bool b) ∧ w' = W := by
 rw [(args_n hr hk).1]
 have hB : ∀ i, isB (c :: r) (opT i) (opA i) = ((c.t.toList == (opT i).toList) && (((c.k == 3) && (c.n == opA i)) || ((opA i == 0) && (c.k == 2)))) := fun i => rfl
 have hk2 : (c.k == 2) = false := by rw [hk]; rfl
 have hk3 : (c.k == 3) = true := by rw [hk]; rfl
 by_cases ht : ∃ i, i < 8 ∧ (c.t.toList == (opT i).toList) = true
 ·obtain ⟨i, hi, ht⟩ := ht
  have e : b = (c.n == opA i) := by
   rcases h with ⟨rfl, j, hj, h⟩ | ⟨rfl, h⟩
   ·rw [hB, hk2, hk3] at h
    simp only [Bool.and_false, Bool.or_false, Bool.true_and, Bool.and_eq_true] at h
    have e1 : (opT i).toList = (opT j).toList := by
     have a := h.1
     simp at a ht
     exact ht.symm.trans a
    have e2 : i = j := by
     rcases Nat.lt_trichotomy i j with h3 | h3 | h3
     ·have := opT_ne j hj i h3
      simp [e1] at this
     ·exact h3
     ·have := opT_ne i hi j h3
      simp [e1] at this
    rw [e2]
    exact h.2.symm
   ·have := h i hi
    rw [hB, hk2, hk3, ht] at this
    simpa using this.symm
  rw [e]
  exact z70 i hi c.t c.n W (by simpa using ht)
 ·have e : b = false := by
   rcases h with ⟨_, j, hj, h⟩ | ⟨rfl, _⟩
   ·rw [hB] at h
    simp only [Bool.and_eq_true] at h
    exact absurd ⟨j, hj, h.1⟩ ht
   ·rfl
  rw [e]
  refine z70_o c.t c.n W fun i hi => ?_
  cases e2 : ((opT i).toList == c.t.toList)
  ·rfl
  ·exact absurd ⟨i, hi, by rw [BEq.comm]; exact e2⟩ ht
set_option maxRecDepth 100000 in
set_option maxHeartbeats 4000000 in
theorem z36_none (p : Option Addr) (c : C) (r : List C) (hk : c.k = 3) (hn : ∀ i, i < 8 → isB (c :: r) (opT i) (opA i) = false) (v : Value) (w : World) (hT : TermAt w v (c :: r)) (hr : rightB (c :: r) = true) :
  Calls Tryz.prog 36 #[.pointer p, v] w (RvPost (0, 2, []) w) := by
 have H42 := c27 (c :: r) v w hT
 have K70 := z70_b hr hk false (.inr ⟨rfl, hn⟩)
 obtain ⟨b, o, cap, rfl, hcap, HC⟩ := head_cells hT
 obtain ⟨p0, p1, p2, p3, p4⟩ := HC.out w (Below.refl _ _)
 rw [hk] at p0
 clear hn hr hT
 generalize argsL (c :: r) = ps at *
 go_enter Tryz.func36, Tryz.ntmps36
 go_wp2_with fail
 refine H42.mono ?_
 rintro e w2 ⟨u2, rfl, hR2, hb2⟩
 obtain ⟨a2, c2, e2⟩ := hR2.form
 subst e2
 have HB : Hid (Below w.heap.size w w2) := hb2
 obtain ⟨t0, t1, t2, t3, t4⟩ := HC.out w2 hb2
 have H70 := K70 w2
 clear H42 hR2 hb2 K70
 go_wp2_with fail
 refine H70.mono ?_
 rintro e w3 ⟨rfl, hw3⟩
 obtain rfl := hw3.symm
 go_wp2_with fail
 refine bodyPost_ret (v := .tuple #[.int .i64 0, .int .u8 2, .slice none 0 0]) (by simp [results, Tryz.results36, go_sem]) rfl ?_
 exact post_nil HB.out
end Go.Proofs.YtaehhophaaipdaaGreatDoor

namespace Go.Proofs.YtaehhophaaipdaaGreatDoor
open Go.RowKit
attribute [local go_sem ↓] Go.wp_at_zero Go.wp_at_succ
theorem fails_take (rs : List V3) (j : Nat) (h : j < rs.length) : failsR (rs.take (j + 1)) = (failsR (rs.take j) || (rs[j].2.1 == 2)) := by
 unfold failsR
 rw [List.take_succ_eq_append_getElem h, List.any_append]
 simp
theorem waits_take (rs : List V3) (j : Nat) (h : j < rs.length) : waitsF [] (rs.take (j + 1)) = bothN (waitsF [] (rs.take j)) rs[j].2.2 := by
 unfold waitsF
 rw [List.take_succ_eq_append_getElem h, List.foldl_append]
 rfl
theorem nums_take (rs : List V3) (j : Nat) (h : j < rs.length) : (rs.take (j + 1)).map (·.1) = (rs.take j).map (·.1) ++ [rs[j].1] := by
 rw [List.take_succ_eq_append_getElem h, List.map_append]
 rfl
/-- Behind so many parts. -/
structure Pt (wA wr : World) (rs : List V3) (j : Nat) (wv nv : Value) : Prop where
 ws : OwnN wr wA.heap.size wv (waitsF [] (rs.take j))
 ns : wr.ownsInts wA.heap.size 3 .i64 nv ((rs.take j).map (·.1))
 bel : Below wA.heap.size wA wr
set_option maxRecDepth 100000 in
set_option maxHeartbeats 8000000 in
theorem z36_op (m : Hp) (w0 : World) (p : Option Addr) (d : Nat) (hS : SumR m w0 p d) (c : C) (r : List C) (i : Nat) (rs : List V3) (hk : c.k = 3) (hi : i < 8) (hm : isB (c :: r) (opT i) (opA i) = true) (hl : rs.length = (argsL (c :: r)).length)
  (hw : ∀ v ∈ rs, (Lit.int .i64 v.1).wf = true) (hok : failsR rs = false → waitsF [] rs = [] → ∀ v ∈ rs, okI v.1) (hs : ∀ (j : Nat) (p : List C) (v : V3), (argsL (c :: r))[j]? = some p → rs[j]? = some v → Rs m d p v)
  (v : Value) (w : World) (hb : Below w0.heap.size w0 w) (hT : TermAt w v (c :: r)) (hr : rightB (c :: r) = true) (hW : ∀ x ∈ c :: r, wfN (x.vn, x.vk)) :
  Calls Tryz.prog 36 #[.pointer p, v] w (RvPost (finR i rs) w) := by
 obtain ⟨i0, hi0, hz0, hs0, hby0⟩ := jnfo3
 have H42 := c27 (c :: r) v w hT
 have K70 := z70_b hr hk true (.inl ⟨rfl, i, hi, hm⟩)
 obtain ⟨hnA, hsA, h8⟩ := args_n hr hk
 have hct : c.t = opT i ∧ ((argsL (c :: r)).length : Int) = opA i := by
  have h1 : ((c.t.toList == (opT i).toList) && (((c.k == 3) && (c.n == opA i)) || ((opA i == 0) && (c.k == 2)))) = true := hm
  have hk2 : (c.k == 2) = false := by rw [hk]; rfl
  rw [hk2] at h1
  simp only [Bool.and_false, Bool.or_false, Bool.and_eq_true] at h1
  refine ⟨op_eq h1.1, ?_⟩
  rw [hnA]
  simpa using h1.2.2
 have HQ : Hid (∀ (j : Nat) (q : List C) (v : V3) (val : Value) (W : World), (argsL (c :: r))[j]? = some q → rs[j]? = some v → Below w.heap.size w W → TermAt W val q → Calls Tryz.prog 36 #[.pointer p, val] W (RvPost v W) ∧ v.2.2.length ≤ 256) := fun j q v val W h1 h2 h3 h4 => by
  have h5 := hsA q (List.mem_of_getElem? h1)
  refine ⟨hS q v (hs j q v h1 h2) val W (hb.trans (h3.mono hb.size)) h4 h5.1 (fun x hx => hW x (h5.2 x hx)), ?_⟩
  have h6 := rs_len (hs j q v h1 h2)
  have h7 := ((right_iff q).1 h5.1).2.1
  omega
 have HWf : Hid (∀ v ∈ rs, (Lit.int .i64 v.1).wf = true) := hw
 have HOk : Hid (failsR rs = false → waitsF [] rs = [] → reckS c.t (rs.map (·.1)) = resR i (rs.map (·.1))) := fun h1 h2 => by
  rw [hct.1]
  refine reck_op hi ?_ (fun x hx => ?_)
  ·rw [List.length_map, hl]
   exact hct.2
  ·obtain ⟨v, hv, rfl⟩ := List.mem_map.1 hx
   exact hok h1 h2 v hv
 have HV : Hid (∀ v ∈ rs, v.2.2.length ≤ 256) := fun v hv => by
  obtain ⟨j, hj, rfl⟩ := List.getElem_of_mem hv
  have hj' : j < (argsL (c :: r)).length := by omega
  have h6 := rs_len (hs j _ _ (List.getElem?_eq_getElem hj') (List.getElem?_eq_getElem hj))
  have h7 := ((right_iff _).1 (hsA _ (List.getElem_mem hj')).1).2.1
  omega
 obtain ⟨b, o, cap, rfl, hcap, HC⟩ := head_cells hT
 obtain ⟨p0, p1, p2, p3, p4⟩ := HC.out w (Below.refl _ _)
 rw [hk] at p0
 clear hS hk hm hw hok hs hb hT hr hW hnA hsA hct
 generalize argsL (c :: r) = ps at *
 go_enter Tryz.func36, Tryz.ntmps36
 go_wp2_with fail
 refine H42.mono ?_
 rintro e wA ⟨u2, rfl, hR2, hb2⟩
 obtain ⟨a2, c2, e2⟩ := hR2.form
 subst e2
 have HB : Hid (RowAt wA (.slice a2 ps.length c2) ps ∧ Below w.heap.size w wA) := ⟨hR2, hb2⟩
 obtain ⟨t0, t1, t2, t3, t4⟩ := HC.out wA hb2
 have H70 := K70 wA
 clear H42 hR2 hb2 K70
 go_wp2_with fail
 refine H70.mono ?_
 rintro e w3 ⟨rfl, hw3⟩
 obtain rfl := hw3.symm
 clear H70
 go_wp2_with fail
 go_loopw [9, 10, 11, 12] (fun wv nv fv iv wr => ∃ (j : Nat) (wa na : Option Addr) (wc nc : Nat), j ≤ ps.length ∧ iv = .int .i64 j ∧ wv = .slice wa (waitsF [] (rs.take j)).length wc ∧ nv = .slice na j nc ∧ fv = .bool (failsR (rs.take j)) ∧ Hid (Pt wA wr rs j (.slice wa (waitsF [] (rs.take j)).length wc) (.slice na j nc))) (fun _ _ _ iv _ => ps.length - (intOf iv).toNat)
 case atStart => exact ⟨0, none, none, 0, 0, Nat.zero_le _, rfl, rfl, rfl, rfl, ⟨World.ownsRow_nil _ _ _ _, World.ownsInts_nil _ _ _ _, Below.refl _ _⟩⟩
 case round =>
  obtain ⟨j, wa, na, wc, nc, hj, rfl, rfl, rfl, rfl, HK⟩ := hrel
  by_cases hlt : j < ps.length
  ·have hjr : j < rs.length := by omega
   have g1 : (j : Int) < (ps.length : Int) := by omega
   have g0 : (0 : Int) ≤ (j : Int) := by omega
   obtain ⟨b1, ob1, sa, sc, ha2, HP⟩ : ∃ b1 ob1 sa sc, a2 = some ⟨b1, ob1, none⟩ ∧ Hid (wr.cell? ⟨b1, ob1 + j, none⟩ = some (.slice sa ps[j].length sc) ∧ TermAt wr (.slice sa ps[j].length sc) ps[j]) := by
    rcases (HB.out.1.below HK.out.bel).2 with ⟨e, _⟩ | ⟨b1, o1, cp, vs, e, h1, h2, h3, h4, h5, h6⟩
    ·rw [e] at hlt; simp at hlt
    ·simp only [Value.slice.injEq] at e
     have hv : j < vs.length := by omega
     have ht := h6 j _ _ (List.getElem?_eq_getElem hv) (List.getElem?_eq_getElem hlt)
     obtain ⟨sa, sc, ef⟩ := ht.form
     refine ⟨b1, o1, sa, sc, e.1, ?_, ef ▸ ht⟩
     rw [← ef]
     exact row_cell h5 j hv
   subst ha2
   have q0 := HP.out.1
   have H36 := (HQ.out j ps[j] rs[j] _ wr (List.getElem?_eq_getElem hlt) (List.getElem?_eq_getElem hjr) (HB.out.2.trans (HK.out.bel.mono HB.out.2.size)) HP.out.2).1
   have hv256 := HV.out rs[j] (List.getElem_mem hjr)
   have HWj : Hid ((Lit.int .i64 rs[j].1).wf = true) := HWf.out _ (List.getElem_mem hjr)
   have HFl : Hid (failsR (rs.take (j + 1)) = (failsR (rs.take j) || (rs[j].2.1 == 2))) := fails_take rs j hjr
   have HWt : Hid (waitsF [] (rs.take (j + 1)) = bothN (waitsF [] (rs.take j)) rs[j].2.2) := waits_take rs j hjr
   have HNm : Hid ((rs.take (j + 1)).map (·.1) = (rs.take j).map (·.1) ++ [rs[j].1]) := nums_take rs j hjr
   have hwl : (waitsF [] (rs.take j)).length ≤ 2048 := by
    have h1 := waits_len (K := 256) (rs.take j) [] (fun v hv => HV.out v (List.mem_of_mem_take hv))
    rw [List.length_take] at h1
    simp only [List.length_nil, Nat.zero_add] at h1
    have h2 : min j rs.length * 256 ≤ 8 * 256 := Nat.mul_le_mul_right _ (by omega)
    omega
   have hN0 : ((rs.take j).map (·.1)).length = j := by rw [List.length_map, List.length_take]; omega
   have HK1 : Hid (OwnN wr wA.heap.size (.slice wa (waitsF [] (rs.take j)).length wc) (waitsF [] (rs.take j)) ∧ wr.ownsInts wA.heap.size 3 .i64 (.slice na j nc) ((rs.take j).map (·.1)) ∧ Below wA.heap.size wA wr) := ⟨HK.out.ws, HK.out.ns, HK.out.bel⟩
   clear HK HP
   generalize rs[j] = vj at *
   obtain ⟨n1, o1, ws1⟩ := vj
   dsimp only at hv256 HWj HFl HWt HNm H36
   generalize waitsF [] (rs.take j) = A at *
   generalize failsR (rs.take j) = f0 at *
   generalize (rs.take j).map (·.1) = N0 at *
   subst hN0
   go_wp2_with fail
   refine H36.mono ?_
   rintro e w4 ⟨qa, qc, rfl, hN4, hb4⟩
   clear H36
   dsimp only at hN4
   have H40 := z40 A ws1 _ _ w4 ((namesAt_of_owns HK1.out.1 (by unfold maxLen; omega)).below hb4) hN4 (by omega)
   have HB4 : Hid (wr.heap.size ≤ w4.heap.size ∧ w4.ownsInts wA.heap.size 3 .i64 (.slice na N0.length nc) N0 ∧ Below wA.heap.size wA w4) := ⟨hb4.size, ⟨owns_below HK1.out.2.1.1 hb4, HK1.out.2.1.2⟩, HK1.out.2.2.trans (hb4.mono HK1.out.2.2.size)⟩
   clear hN4 hb4 HK1
   cases f0 <;> (
    go_wp2_with fail
    refine H40.mono ?_
    rintro e w5 ⟨ba, bc, rfl, H5⟩
    have HB5 : Hid (OwnN (w5.alloc (.cells #[.int .i64 n1] 3)) wA.heap.size (.slice ba (bothN A ws1).length bc) (bothN A ws1) ∧ (w5.alloc (.cells #[.int .i64 n1] 3)).ownsInts wA.heap.size 3 .i64 (.slice na N0.length nc) N0 ∧ Below wA.heap.size wA (w5.alloc (.cells #[.int .i64 n1] 3))) := by
     obtain ⟨h1, h2, h3⟩ := HB4.out
     obtain ⟨h4, h5⟩ := H5.out
     have hb5 := h3.trans (h5.mono h3.size)
     exact ⟨World.ownsRow.alloc (own_low h4 h3.size) _, ⟨(owns_below h2.1 h5).alloc _, h2.2⟩, hb5.trans ((below_alloc _ _).mono hb5.size)⟩
    clear H5 HB4
    have hown := HB5.out.2.1.1
    have hbase := HB5.out.2.2.size
    go_wp2_with (at_builtin; refine wpList_append_own _ rfl _ _ 116 rfl wA.heap.size 3 i0 (.int .i64 0) 1 8 Tryz.underlying116 hi0 hz0 hs0 hby0 rfl (by decide) _ _ _ rfl hown ⟨w5.heap.size, 0, none⟩ 1 1 [.int .i64 n1] rfl rfl (cell_one_new _ _ _) (fun u hu => by simp at hu; subst hu; rfl) (by unfold maxLen; omega) (by omega) hbase ?_)
    intro v' w6 hown' hgr _
    obtain ⟨na', nc', rfl, HF⟩ : ∃ na' nc', v' = .slice na' (N0.length + 1) nc' ∧ Hid (Pt wA w6 rs (N0.length + 1) (.slice ba (bothN A ws1).length bc) (.slice na' (N0.length + 1) nc')) := by
     obtain ⟨na', nc', e⟩ := owns_form hown'
     subst e
     refine ⟨na', nc', rfl, ?_, ?_, HB5.out.2.2.grown hgr hbase (fun g hg => (hown.lt g hg).1)⟩
     ·rw [HWt.out]
      exact own_apart HB5.out.1 hown (by decide) hgr
     ·rw [HNm.out]
      exact World.ownsInts.appended HB5.out.2.1 hown' HWj.out
    clear hown' hgr HB5 hown hbase
    go_wp2_with fail
    go_roundw
    case rel =>
     refine ⟨N0.length + 1, ba, na', bc, nc', by omega, by go_num, ?_, rfl, ?_, ?_⟩
     ·rw [HWt.out]
     ·rw [HFl.out]; simp
     ·rw [HWt.out]; exact HF
    case measure => simp [intOf]; omega)
  ·obtain rfl : j = ps.length := by omega
   have g1 : ¬ (ps.length : Int) < (ps.length : Int) := by omega
   have htk : rs.take ps.length = rs := by rw [← hl, List.take_length]
   have HK1 : Hid (OwnN wr wA.heap.size (.slice wa (waitsF [] rs).length wc) (waitsF [] rs) ∧ wr.ownsInts wA.heap.size 3 .i64 (.slice na ps.length nc) (rs.map (·.1)) ∧ Below wA.heap.size wA wr) := by
    obtain ⟨h1, h2, h3⟩ := HK.out
    rw [htk] at h1 h2
    exact ⟨h1, h2, h3⟩
   rw [htk]
   have hwl : (waitsF [] rs).length ≤ 2048 := by
    have h1 := waits_len (K := 256) rs [] HV.out
    simp only [List.length_nil, Nat.zero_add] at h1
    have h2 : rs.length * 256 ≤ 8 * 256 := Nat.mul_le_mul_right _ (by omega)
    omega
   have HBw : Hid (Below w.heap.size w wr) := HB.out.2.trans (HK1.out.2.2.mono HB.out.2.size)
   have H71 := h18 c.t (rs.map (·.1)) (.slice na ps.length nc) wr (intsR_of HK1.out.2.1 (by rw [List.length_map]; unfold maxLen; omega))
   have HNW : Hid (NamesAt wr (.slice wa (waitsF [] rs).length wc) (waitsF [] rs)) := namesAt_of_owns HK1.out.1 (by unfold maxLen; omega)
   have HFin : Hid (finR i rs = if failsR rs then (0, 2, []) else if waitsF [] rs = [] then (if (resR i (rs.map (·.1))).2 then ((resR i (rs.map (·.1))).1, 1, []) else (0, 2, [])) else (0, 3, waitsF [] rs)) := rfl
   obtain ⟨x0, x1, x2, x3, x4⟩ := HC.out wr HBw.out
   clear HK HK1 htk
   generalize finR i rs = FF at *
   generalize waitsF [] rs = A at *
   generalize rs.map (·.1) = NN at *
   generalize failsR rs = f0 at *
   generalize reckS c.t NN = RR at *
   generalize resR i NN = R2 at *
   cases f0
   ·by_cases hA : A = []
    ·have hR := HOk.out rfl hA
     subst hR hA
     obtain ⟨rn, rb⟩ := RR
     dsimp only at H71 HFin
     cases rb
     ·have HE : Hid (FF = (0, 2, [])) := by show FF = _; rw [HFin.out]; rfl
      clear HFin HOk
      go_wp2_with fail
      refine H71.mono ?_
      rintro e w4 ⟨rfl, hw4⟩
      obtain rfl := hw4.symm
      go_wp2_with fail
      refine bodyPost_ret (v := .tuple #[.int .i64 0, .int .u8 2, .slice none 0 0]) (by simp [results, Tryz.results36, go_sem]) rfl ?_
      rw [HE.out]
      exact post_nil HBw.out
     ·have HE : Hid (FF = (rn, 1, [])) := by show FF = _; rw [HFin.out]; rfl
      clear HFin HOk
      go_wp2_with fail
      refine H71.mono ?_
      rintro e w4 ⟨rfl, hw4⟩
      obtain rfl := hw4.symm
      go_wp2_with fail
      refine bodyPost_ret (v := .tuple #[.int .i64 rn, .int .u8 1, .slice none 0 0]) (by simp [results, Tryz.results36, go_sem]) rfl ?_
      rw [HE.out]
      exact post_nil HBw.out
    ·have HE : Hid (FF = (0, 3, A)) := by show FF = _; rw [HFin.out, if_neg hA]; rfl
     have hpos : (A.length : Int) > 0 := by
      have : A.length ≠ 0 := fun e => hA (List.eq_nil_of_length_eq_zero e)
      omega
     clear HFin HOk hA
     go_wp2_with fail
     refine bodyPost_ret (v := .tuple #[.int .i64 0, .int .u8 3, .slice wa A.length wc]) (by simp [results, Tryz.results36, go_sem]) rfl ?_
     rw [HE.out]
     exact ⟨wa, wc, rfl, HNW.out, HBw.out⟩
   ·have HE : Hid (FF = (0, 2, [])) := by show FF = _; rw [HFin.out]; rfl
    clear HFin HOk
    go_wp2_with fail
    refine bodyPost_ret (v := .tuple #[.int .i64 0, .int .u8 2, .slice none 0 0]) (by simp [results, Tryz.results36, go_sem]) rfl ?_
    rw [HE.out]
    exact post_nil HBw.out
theorem z36 (m : Hp) (w0 : World) (p : Option Addr) (hD : DerR w0 p m) : ∀ d, SumR m w0 p d
 | 0 => fun cells v h => by cases h
 | d + 1 => fun cells v h val w hb hT hr hW => by
  cases h with
  | leaf hk hf => exact z36_leaf m w0 p hD _ _ _ hk hf val w hb hT hr (hW _ (by simp))
  | none hk hn => exact z36_none p _ _ hk hn val w hT hr
  | op hk hi hm hl hw hok hs => exact z36_op m w0 p d (z36 m w0 p hD d) _ _ _ _ hk hi hm hl hw hok hs val w hb hT hr hW
end Go.Proofs.YtaehhophaaipdaaGreatDoor

namespace Go.Proofs.YtaehhophaaipdaaGreatDoor
open Go.RowKit
attribute [local go_sem ↓] Go.wp_at_zero Go.wp_at_succ
end Go.Proofs.YtaehhophaaipdaaGreatDoor
