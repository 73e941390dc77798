/- Contracts of may, SameInts of like rows, HandInts. Contract of the reference's Reckon. Contract of the reference's Reckon: all operators. Contract of the reference's Reckon: all operators. Contract of the reference's Reckon: all operators. -/
import Derived.Test.YtaehhophaaipdaaGreatDoorQIg
import Derived.BigQuiet
namespace Go.Proofs.YtaehhophaaipdaaGreatDoor
open Go.RowKit
attribute [local go_sem ↓] Go.wp_at_zero Go.wp_at_succ
set_option maxRecDepth 100000 in
theorem h38 (x : Int) (w : World) : Calls Tryz.prog 105 #[.int .i64 x] w fun e w' => e = .returned (.bool (!greatB x)) ∧ w' = w := by
 by_cases h1 : x < -2147483648
 ·have he : greatB x = true := by simp [greatB, h1]
  have h1' : ¬ (-2147483648 ≤ x) := by omega
  rw [he]
  go_enter Tryz.func105, Tryz.ntmps105
  go_wp2_with fail
  go_ret
  exact ⟨rfl, rfl⟩
 ·have h1' : -2147483648 ≤ x := by omega
  by_cases h2 : 2147483648 < x
  ·have he : greatB x = true := by simp [greatB, h2]
   have h2' : ¬ (x ≤ 2147483648) := by omega
   rw [he]
   go_enter Tryz.func105, Tryz.ntmps105
   go_wp2_with fail
   go_ret
   exact ⟨rfl, rfl⟩
  ·have he : greatB x = false := by simp [greatB, h1, h2]
   have h2' : x ≤ 2147483648 := by omega
   rw [he]
   go_enter Tryz.func105, Tryz.ntmps105
   go_wp2_with fail
   go_ret
   exact ⟨rfl, rfl⟩
end Go.Proofs.YtaehhophaaipdaaGreatDoor

namespace Go.Proofs.YtaehhophaaipdaaGreatDoor
open Go.RowKit
attribute [local go_sem ↓] Go.wp_at_zero Go.wp_at_succ
theorem two_cases (ns : List Int) : (∃ x y, ns = [x, y]) ∨ ns.length ≠ 2 := by
 match ns with
 | [x, y] => exact .inl ⟨x, y, rfl⟩
 | [] => exact .inr (by simp)
 | [_] => exact .inr (by simp)
 | _ :: _ :: _ :: _ => exact .inr (by simp)
theorem reck_nk {op : ByteArray} {ns : List Int} (hok : ns.any greatB = false) {k : Nat} (hk : (List.range 8).find? (matchB op ns.length) = some k) : reckS op ns = resR k ns := by
 unfold reckS
 rw [hok, hk]
 rfl
theorem reck_none {op : ByteArray} {ns : List Int} (hk : (List.range 8).find? (matchB op ns.length) = none) : reckS op ns = (0, false) := by
 unfold reckS
 rw [hk]
 split <;> rfl
theorem reck_two {op : ByteArray} {ns : List Int} (h7 : ((opT 7).toList == op.toList) = false) (h : ns.length ≠ 2) : reckS op ns = (0, false) := by
 refine reck_none (find_none fun j hj => ?_)
 unfold matchB
 by_cases e : j = 7
 ·subst e; rw [h7]; rfl
 ·have e2 : opA j = 2 := by
   unfold opA
   split
   ·omega
   ·rfl
  have : ((opA j == (ns.length : Int))) = false := by rw [e2]; simp; omega
  rw [this, Bool.and_false]
theorem ok_great {x : Int} (h : greatB x = false) : okI x := by
 unfold greatB at h
 unfold okI
 simp at h
 omega
set_option maxRecDepth 100000 in
set_option maxHeartbeats 4000000 in
theorem h18_0 (ns : List Int) (v : Value) (w : World) (hI : IntsR w v ns) (hok : ns.any greatB = false) : Calls Tryz.prog 71 #[.string ⟨#[43]⟩, v] w fun e w' => e = .returned (.tuple #[.int .i64 (reckS ⟨#[43]⟩ ns).1, .bool (reckS ⟨#[43]⟩ ns).2]) ∧ w' = w := by
 have HI : Hid (IntsR w v ns) := hI
 have HG : Hid (∀ x ∈ ns, greatB x = false) := fun x hx => by simpa using List.any_eq_false.1 hok x hx
 have hm := hI.1
 unfold maxLen at hm
 have HR : Hid (∀ x y, ns = [x, y] → reckS ⟨#[43]⟩ ns = resR 0 ns) := fun x y e => by
  refine reck_nk hok ?_
  rw [e]
  have h : (List.range 8).find? (matchB ⟨#[43]⟩ 2) = some 0 := by kernel_rfl
  exact h
 have HN : Hid (ns.length ≠ 2 → reckS ⟨#[43]⟩ ns = (0, false)) := fun h => reck_two (by kernel_rfl) h
 obtain ⟨ad, cap, hv⟩ := hI.form
 subst hv
 clear hI hok
 go_enter Tryz.func71, Tryz.ntmps71
 go_wp2_with fail
 go_loopw [6] (fun i wr => ∃ k : Nat, k ≤ ns.length ∧ i = .int .i64 k ∧ wr = w) (fun i _ => ns.length - (intOf i).toNat)
 case atStart => exact ⟨0, by omega, rfl, rfl⟩
 case round =>
  obtain ⟨k, hk, rfl, rfl⟩ := hrel
  by_cases hlt : k < ns.length
  ·have hlt' : (k : Int) < (ns.length : Int) := by omega
   have hk0 : (0 : Int) ≤ (k : Int) := by omega
   obtain ⟨b, o, cp, hu, c0, _⟩ := HI.out.at k hlt
   simp only [Value.slice.injEq] at hu
   obtain ⟨rfl, _, rfl⟩ := hu
   have H38 := h38 ns[k] wr
   rw [HG.out _ (List.getElem_mem hlt)] at H38
   generalize ns[k] = x at *
   go_wp2_with fail
   refine H38.mono ?_
   rintro e w1 ⟨rfl, hw⟩
   obtain rfl := hw
   go_wp2_with fail
   go_roundw
   case rel => exact ⟨k + 1, by omega, by go_num, trivial⟩
   case measure => simp [intOf]; omega
  ·have hlt' : ¬ ((k : Int) < (ns.length : Int)) := by omega
   rcases two_cases ns with ⟨x, y, rfl⟩ | hn2
   ·obtain ⟨b, o, cp, hu, hc⟩ := pair_cells HI.out
    obtain ⟨c0, c1⟩ := hc _ (Below.refl _ _)
    simp only [Value.slice.injEq] at hu
    obtain ⟨rfl, _, rfl⟩ := hu
    have HE : Hid (reckS ⟨#[43]⟩ [x, y] = (finN (x + y) true, finB (x + y) true)) := HR.out x y rfl
    have hx := ok_great (HG.out x (by simp))
    have hy := ok_great (HG.out y (by simp))
    obtain ⟨x1, x2⟩ := hx
    obtain ⟨y1, y2⟩ := hy
    obtain ⟨z, hz⟩ : ∃ z, x + y = z := ⟨_, rfl⟩
    rw [hz] at HE
    have z1 : -9000000000000000000 ≤ z ∧ z ≤ 9000000000000000000 := by omega
    have H38 := h38 z wr
    have hlt2 : ¬ ((k : Int) < 2) := by simp at hlt; omega
    clear hlt hlt' hk
    cases hg : greatB z
    ·have HV : Hid (reckS ⟨#[43]⟩ [x, y] = (z, true)) := by show reckS _ _ = _; rw [HE.out]; simp [finN, finB, hg]
     rw [hg] at H38
     clear HE hg
     go_wp2_with fail
     refine H38.mono ?_
     rintro e w1 ⟨rfl, hw⟩
     obtain rfl := hw
     go_wp2_with fail
     exact bodyPost_ret (v := .tuple #[.int .i64 z, .bool true]) (by simp [results, Tryz.results71, go_sem]) rfl ⟨by rw [HV.out], rfl⟩
    ·have HV : Hid (reckS ⟨#[43]⟩ [x, y] = (0, false)) := by show reckS _ _ = _; rw [HE.out]; simp [finN, finB, hg]
     rw [hg] at H38
     clear HE hg
     go_wp2_with fail
     refine H38.mono ?_
     rintro e w1 ⟨rfl, hw⟩
     obtain rfl := hw
     go_wp2_with fail
     exact bodyPost_ret (v := .tuple #[.int .i64 0, .bool false]) (by simp [results, Tryz.results71, go_sem]) rfl ⟨by rw [HV.out], rfl⟩
   ·have hne : (((ns.length : Int)) != 2) = true := by simp; omega
    have HE : Hid (reckS ⟨#[43]⟩ ns = (0, false)) := HN.out hn2
    go_wp2_with fail
    exact bodyPost_ret (v := .tuple #[.int .i64 0, .bool false]) (by simp [results, Tryz.results71, go_sem]) rfl ⟨by rw [HE.out], rfl⟩
end Go.Proofs.YtaehhophaaipdaaGreatDoor

namespace Go.Proofs.YtaehhophaaipdaaGreatDoor
open Go.RowKit
attribute [local go_sem ↓] Go.wp_at_zero Go.wp_at_succ
set_option maxRecDepth 100000 in
set_option maxHeartbeats 4000000 in
theorem h18_1 (ns : List Int) (v : Value) (w : World) (hI : IntsR w v ns) (hok : ns.any greatB = false) : Calls Tryz.prog 71 #[.string ⟨#[45]⟩, v] w fun e w' => e = .returned (.tuple #[.int .i64 (reckS ⟨#[45]⟩ ns).1, .bool (reckS ⟨#[45]⟩ ns).2]) ∧ w' = w := by
 have HI : Hid (IntsR w v ns) := hI
 have HG : Hid (∀ x ∈ ns, greatB x = false) := fun x hx => by simpa using List.any_eq_false.1 hok x hx
 have hm := hI.1
 unfold maxLen at hm
 have HR : Hid (∀ x y, ns = [x, y] → reckS ⟨#[45]⟩ ns = resR 1 ns) := fun x y e => by
  refine reck_nk hok ?_
  rw [e]
  have h : (List.range 8).find? (matchB ⟨#[45]⟩ 2) = some 1 := by kernel_rfl
  exact h
 have HN : Hid (ns.length ≠ 2 → reckS ⟨#[45]⟩ ns = (0, false)) := fun h => reck_two (by kernel_rfl) h
 obtain ⟨ad, cap, hv⟩ := hI.form
 subst hv
 clear hI hok
 go_enter Tryz.func71, Tryz.ntmps71
 go_wp2_with fail
 go_loopw [6] (fun i wr => ∃ k : Nat, k ≤ ns.length ∧ i = .int .i64 k ∧ wr = w) (fun i _ => ns.length - (intOf i).toNat)
 case atStart => exact ⟨0, by omega, rfl, rfl⟩
 case round =>
  obtain ⟨k, hk, rfl, rfl⟩ := hrel
  by_cases hlt : k < ns.length
  ·have hlt' : (k : Int) < (ns.length : Int) := by omega
   have hk0 : (0 : Int) ≤ (k : Int) := by omega
   obtain ⟨b, o, cp, hu, c0, _⟩ := HI.out.at k hlt
   simp only [Value.slice.injEq] at hu
   obtain ⟨rfl, _, rfl⟩ := hu
   have H38 := h38 ns[k] wr
   rw [HG.out _ (List.getElem_mem hlt)] at H38
   generalize ns[k] = x at *
   go_wp2_with fail
   refine H38.mono ?_
   rintro e w1 ⟨rfl, hw⟩
   obtain rfl := hw
   go_wp2_with fail
   go_roundw
   case rel => exact ⟨k + 1, by omega, by go_num, trivial⟩
   case measure => simp [intOf]; omega
  ·have hlt' : ¬ ((k : Int) < (ns.length : Int)) := by omega
   rcases two_cases ns with ⟨x, y, rfl⟩ | hn2
   ·obtain ⟨b, o, cp, hu, hc⟩ := pair_cells HI.out
    obtain ⟨c0, c1⟩ := hc _ (Below.refl _ _)
    simp only [Value.slice.injEq] at hu
    obtain ⟨rfl, _, rfl⟩ := hu
    have HE : Hid (reckS ⟨#[45]⟩ [x, y] = (finN (x - y) true, finB (x - y) true)) := HR.out x y rfl
    have hx := ok_great (HG.out x (by simp))
    have hy := ok_great (HG.out y (by simp))
    have hlt2 : ¬ ((k : Int) < 2) := by simp at hlt; omega
    clear hlt hlt' hk
    have z0 := And.intro (show -9000000000000000000 ≤ x - y by unfold okI at hx hy; omega) (show x - y ≤ 9000000000000000000 by unfold okI at hx hy; omega)
    obtain ⟨x1, x2⟩ := hx
    obtain ⟨y1, y2⟩ := hy
    obtain ⟨z, hz⟩ : ∃ z, x - y = z := ⟨_, rfl⟩
    rw [hz] at HE z0
    have H38 := h38 z wr
    cases hg : greatB z
    ·have HV : Hid (reckS ⟨#[45]⟩ [x, y] = (z, true)) := by show reckS _ _ = _; rw [HE.out]; simp [finN, finB, hg]
     rw [hg] at H38
     clear HE hg
     go_wp2_with fail
     refine H38.mono ?_
     rintro e w1 ⟨rfl, hw⟩
     obtain rfl := hw
     go_wp2_with fail
     exact bodyPost_ret (v := .tuple #[.int .i64 z, .bool true]) (by simp [results, Tryz.results71, go_sem]) rfl ⟨by rw [HV.out], rfl⟩
    ·have HV : Hid (reckS ⟨#[45]⟩ [x, y] = (0, false)) := by show reckS _ _ = _; rw [HE.out]; simp [finN, finB, hg]
     rw [hg] at H38
     clear HE hg
     go_wp2_with fail
     refine H38.mono ?_
     rintro e w1 ⟨rfl, hw⟩
     obtain rfl := hw
     go_wp2_with fail
     exact bodyPost_ret (v := .tuple #[.int .i64 0, .bool false]) (by simp [results, Tryz.results71, go_sem]) rfl ⟨by rw [HV.out], rfl⟩
   ·have hne : (((ns.length : Int)) != 2) = true := by simp; omega
    have HE : Hid (reckS ⟨#[45]⟩ ns = (0, false)) := HN.out hn2
    go_wp2_with fail
    exact bodyPost_ret (v := .tuple #[.int .i64 0, .bool false]) (by simp [results, Tryz.results71, go_sem]) rfl ⟨by rw [HE.out], rfl⟩
set_option maxRecDepth 100000 in
set_option maxHeartbeats 4000000 in
theorem h18_2 (ns : List Int) (v : Value) (w : World) (hI : IntsR w v ns) (hok : ns.any greatB = false) : Calls Tryz.prog 71 #[.string ⟨#[42]⟩, v] w fun e w' => e = .returned (.tuple #[.int .i64 (reckS ⟨#[42]⟩ ns).1, .bool (reckS ⟨#[42]⟩ ns).2]) ∧ w' = w := by
 have HI : Hid (IntsR w v ns) := hI
 have HG : Hid (∀ x ∈ ns, greatB x = false) := fun x hx => by simpa using List.any_eq_false.1 hok x hx
 have hm := hI.1
 unfold maxLen at hm
 have HR : Hid (∀ x y, ns = [x, y] → reckS ⟨#[42]⟩ ns = resR 2 ns) := fun x y e => by
  refine reck_nk hok ?_
  rw [e]
  have h : (List.range 8).find? (matchB ⟨#[42]⟩ 2) = some 2 := by kernel_rfl
  exact h
 have HN : Hid (ns.length ≠ 2 → reckS ⟨#[42]⟩ ns = (0, false)) := fun h => reck_two (by kernel_rfl) h
 obtain ⟨ad, cap, hv⟩ := hI.form
 subst hv
 clear hI hok
 go_enter Tryz.func71, Tryz.ntmps71
 go_wp2_with fail
 go_loopw [6] (fun i wr => ∃ k : Nat, k ≤ ns.length ∧ i = .int .i64 k ∧ wr = w) (fun i _ => ns.length - (intOf i).toNat)
 case atStart => exact ⟨0, by omega, rfl, rfl⟩
 case round =>
  obtain ⟨k, hk, rfl, rfl⟩ := hrel
  by_cases hlt : k < ns.length
  ·have hlt' : (k : Int) < (ns.length : Int) := by omega
   have hk0 : (0 : Int) ≤ (k : Int) := by omega
   obtain ⟨b, o, cp, hu, c0, _⟩ := HI.out.at k hlt
   simp only [Value.slice.injEq] at hu
   obtain ⟨rfl, _, rfl⟩ := hu
   have H38 := h38 ns[k] wr
   rw [HG.out _ (List.getElem_mem hlt)] at H38
   generalize ns[k] = x at *
   go_wp2_with fail
   refine H38.mono ?_
   rintro e w1 ⟨rfl, hw⟩
   obtain rfl := hw
   go_wp2_with fail
   go_roundw
   case rel => exact ⟨k + 1, by omega, by go_num, trivial⟩
   case measure => simp [intOf]; omega
  ·have hlt' : ¬ ((k : Int) < (ns.length : Int)) := by omega
   rcases two_cases ns with ⟨x, y, rfl⟩ | hn2
   ·obtain ⟨b, o, cp, hu, hc⟩ := pair_cells HI.out
    obtain ⟨c0, c1⟩ := hc _ (Below.refl _ _)
    simp only [Value.slice.injEq] at hu
    obtain ⟨rfl, _, rfl⟩ := hu
    have HE : Hid (reckS ⟨#[42]⟩ [x, y] = (finN (x * y) true, finB (x * y) true)) := HR.out x y rfl
    have hx := ok_great (HG.out x (by simp))
    have hy := ok_great (HG.out y (by simp))
    have hlt2 : ¬ ((k : Int) < 2) := by simp at hlt; omega
    clear hlt hlt' hk
    have z0 := mul_bd hx hy
    obtain ⟨x1, x2⟩ := hx
    obtain ⟨y1, y2⟩ := hy
    obtain ⟨z, hz⟩ : ∃ z, x * y = z := ⟨_, rfl⟩
    rw [hz] at HE z0
    have H38 := h38 z wr
    cases hg : greatB z
    ·have HV : Hid (reckS ⟨#[42]⟩ [x, y] = (z, true)) := by show reckS _ _ = _; rw [HE.out]; simp [finN, finB, hg]
     rw [hg] at H38
     clear HE hg
     go_wp2_with fail
     refine H38.mono ?_
     rintro e w1 ⟨rfl, hw⟩
     obtain rfl := hw
     go_wp2_with fail
     exact bodyPost_ret (v := .tuple #[.int .i64 z, .bool true]) (by simp [results, Tryz.results71, go_sem]) rfl ⟨by rw [HV.out], rfl⟩
    ·have HV : Hid (reckS ⟨#[42]⟩ [x, y] = (0, false)) := by show reckS _ _ = _; rw [HE.out]; simp [finN, finB, hg]
     rw [hg] at H38
     clear HE hg
     go_wp2_with fail
     refine H38.mono ?_
     rintro e w1 ⟨rfl, hw⟩
     obtain rfl := hw
     go_wp2_with fail
     exact bodyPost_ret (v := .tuple #[.int .i64 0, .bool false]) (by simp [results, Tryz.results71, go_sem]) rfl ⟨by rw [HV.out], rfl⟩
   ·have hne : (((ns.length : Int)) != 2) = true := by simp; omega
    have HE : Hid (reckS ⟨#[42]⟩ ns = (0, false)) := HN.out hn2
    go_wp2_with fail
    exact bodyPost_ret (v := .tuple #[.int .i64 0, .bool false]) (by simp [results, Tryz.results71, go_sem]) rfl ⟨by rw [HE.out], rfl⟩
set_option maxRecDepth 100000 in
set_option maxHeartbeats 4000000 in
theorem h18_5 (ns : List Int) (v : Value) (w : World) (hI : IntsR w v ns) (hok : ns.any greatB = false) : Calls Tryz.prog 71 #[.string ⟨#[109, 105, 110]⟩, v] w fun e w' => e = .returned (.tuple #[.int .i64 (reckS ⟨#[109, 105, 110]⟩ ns).1, .bool (reckS ⟨#[109, 105, 110]⟩ ns).2]) ∧ w' = w := by
 have HI : Hid (IntsR w v ns) := hI
 have HG : Hid (∀ x ∈ ns, greatB x = false) := fun x hx => by simpa using List.any_eq_false.1 hok x hx
 have hm := hI.1
 unfold maxLen at hm
 have HR : Hid (∀ x y, ns = [x, y] → reckS ⟨#[109, 105, 110]⟩ ns = resR 5 ns) := fun x y e => by
  refine reck_nk hok ?_
  rw [e]
  have h : (List.range 8).find? (matchB ⟨#[109, 105, 110]⟩ 2) = some 5 := by kernel_rfl
  exact h
 have HN : Hid (ns.length ≠ 2 → reckS ⟨#[109, 105, 110]⟩ ns = (0, false)) := fun h => reck_two (by kernel_rfl) h
 obtain ⟨ad, cap, hv⟩ := hI.form
 subst hv
 clear hI hok
 go_enter Tryz.func71, Tryz.ntmps71
 go_wp2_with fail
 go_loopw [6] (fun i wr => ∃ k : Nat, k ≤ ns.length ∧ i = .int .i64 k ∧ wr = w) (fun i _ => ns.length - (intOf i).toNat)
 case atStart => exact ⟨0, by omega, rfl, rfl⟩
 case round =>
  obtain ⟨k, hk, rfl, rfl⟩ := hrel
  by_cases hlt : k < ns.length
  ·have hlt' : (k : Int) < (ns.length : Int) := by omega
   have hk0 : (0 : Int) ≤ (k : Int) := by omega
   obtain ⟨b, o, cp, hu, c0, _⟩ := HI.out.at k hlt
   simp only [Value.slice.injEq] at hu
   obtain ⟨rfl, _, rfl⟩ := hu
   have H38 := h38 ns[k] wr
   rw [HG.out _ (List.getElem_mem hlt)] at H38
   generalize ns[k] = x at *
   go_wp2_with fail
   refine H38.mono ?_
   rintro e w1 ⟨rfl, hw⟩
   obtain rfl := hw
   go_wp2_with fail
   go_roundw
   case rel => exact ⟨k + 1, by omega, by go_num, trivial⟩
   case measure => simp [intOf]; omega
  ·have hlt' : ¬ ((k : Int) < (ns.length : Int)) := by omega
   rcases two_cases ns with ⟨x, y, rfl⟩ | hn2
   ·obtain ⟨b, o, cp, hu, hc⟩ := pair_cells HI.out
    obtain ⟨c0, c1⟩ := hc _ (Below.refl _ _)
    simp only [Value.slice.injEq] at hu
    obtain ⟨rfl, _, rfl⟩ := hu
    have HE : Hid (reckS ⟨#[109, 105, 110]⟩ [x, y] = (finN (if y < x then y else x) true, finB (if y < x then y else x) true)) := HR.out x y rfl
    have hx := ok_great (HG.out x (by simp))
    have hy := ok_great (HG.out y (by simp))
    have hlt2 : ¬ ((k : Int) < 2) := by simp at hlt; omega
    clear hlt hlt' hk
    clear hx hy
    by_cases hc : y < x
    ·rw [if_pos hc] at HE
     have H38 := h38 y wr
     cases hg : greatB y
     ·have HV : Hid (reckS ⟨#[109, 105, 110]⟩ [x, y] = (y, true)) := by show reckS _ _ = _; rw [HE.out]; simp [finN, finB, hg]
      rw [hg] at H38
      clear HE hg
      go_wp2_with fail
      refine H38.mono ?_
      rintro e w1 ⟨rfl, hw⟩
      obtain rfl := hw
      go_wp2_with fail
      exact bodyPost_ret (v := .tuple #[.int .i64 y, .bool true]) (by simp [results, Tryz.results71, go_sem]) rfl ⟨by rw [HV.out], rfl⟩
     ·have HV : Hid (reckS ⟨#[109, 105, 110]⟩ [x, y] = (0, false)) := by show reckS _ _ = _; rw [HE.out]; simp [finN, finB, hg]
      rw [hg] at H38
      clear HE hg
      go_wp2_with fail
      refine H38.mono ?_
      rintro e w1 ⟨rfl, hw⟩
      obtain rfl := hw
      go_wp2_with fail
      exact bodyPost_ret (v := .tuple #[.int .i64 0, .bool false]) (by simp [results, Tryz.results71, go_sem]) rfl ⟨by rw [HV.out], rfl⟩
    ·rw [if_neg hc] at HE
     have H38 := h38 x wr
     cases hg : greatB x
     ·have HV : Hid (reckS ⟨#[109, 105, 110]⟩ [x, y] = (x, true)) := by show reckS _ _ = _; rw [HE.out]; simp [finN, finB, hg]
      rw [hg] at H38
      clear HE hg
      go_wp2_with fail
      refine H38.mono ?_
      rintro e w1 ⟨rfl, hw⟩
      obtain rfl := hw
      go_wp2_with fail
      exact bodyPost_ret (v := .tuple #[.int .i64 x, .bool true]) (by simp [results, Tryz.results71, go_sem]) rfl ⟨by rw [HV.out], rfl⟩
     ·have HV : Hid (reckS ⟨#[109, 105, 110]⟩ [x, y] = (0, false)) := by show reckS _ _ = _; rw [HE.out]; simp [finN, finB, hg]
      rw [hg] at H38
      clear HE hg
      go_wp2_with fail
      refine H38.mono ?_
      rintro e w1 ⟨rfl, hw⟩
      obtain rfl := hw
      go_wp2_with fail
      exact bodyPost_ret (v := .tuple #[.int .i64 0, .bool false]) (by simp [results, Tryz.results71, go_sem]) rfl ⟨by rw [HV.out], rfl⟩
   ·have hne : (((ns.length : Int)) != 2) = true := by simp; omega
    have HE : Hid (reckS ⟨#[109, 105, 110]⟩ ns = (0, false)) := HN.out hn2
    go_wp2_with fail
    exact bodyPost_ret (v := .tuple #[.int .i64 0, .bool false]) (by simp [results, Tryz.results71, go_sem]) rfl ⟨by rw [HE.out], rfl⟩
set_option maxRecDepth 100000 in
set_option maxHeartbeats 4000000 in
theorem h18_6 (ns : List Int) (v : Value) (w : World) (hI : IntsR w v ns) (hok : ns.any greatB = false) : Calls Tryz.prog 71 #[.string ⟨#[109, 97, 120]⟩, v] w fun e w' => e = .returned (.tuple #[.int .i64 (reckS ⟨#[109, 97, 120]⟩ ns).1, .bool (reckS ⟨#[109, 97, 120]⟩ ns).2]) ∧ w' = w := by
 have HI : Hid (IntsR w v ns) := hI
 have HG : Hid (∀ x ∈ ns, greatB x = false) := fun x hx => by simpa using List.any_eq_false.1 hok x hx
 have hm := hI.1
 unfold maxLen at hm
 have HR : Hid (∀ x y, ns = [x, y] → reckS ⟨#[109, 97, 120]⟩ ns = resR 6 ns) := fun x y e => by
  refine reck_nk hok ?_
  rw [e]
  have h : (List.range 8).find? (matchB ⟨#[109, 97, 120]⟩ 2) = some 6 := by kernel_rfl
  exact h
 have HN : Hid (ns.length ≠ 2 → reckS ⟨#[109, 97, 120]⟩ ns = (0, false)) := fun h => reck_two (by kernel_rfl) h
 obtain ⟨ad, cap, hv⟩ := hI.form
 subst hv
 clear hI hok
 go_enter Tryz.func71, Tryz.ntmps71
 go_wp2_with fail
 go_loopw [6] (fun i wr => ∃ k : Nat, k ≤ ns.length ∧ i = .int .i64 k ∧ wr = w) (fun i _ => ns.length - (intOf i).toNat)
 case atStart => exact ⟨0, by omega, rfl, rfl⟩
 case round =>
  obtain ⟨k, hk, rfl, rfl⟩ := hrel
  by_cases hlt : k < ns.length
  ·have hlt' : (k : Int) < (ns.length : Int) := by omega
   have hk0 : (0 : Int) ≤ (k : Int) := by omega
   obtain ⟨b, o, cp, hu, c0, _⟩ := HI.out.at k hlt
   simp only [Value.slice.injEq] at hu
   obtain ⟨rfl, _, rfl⟩ := hu
   have H38 := h38 ns[k] wr
   rw [HG.out _ (List.getElem_mem hlt)] at H38
   generalize ns[k] = x at *
   go_wp2_with fail
   refine H38.mono ?_
   rintro e w1 ⟨rfl, hw⟩
   obtain rfl := hw
   go_wp2_with fail
   go_roundw
   case rel => exact ⟨k + 1, by omega, by go_num, trivial⟩
   case measure => simp [intOf]; omega
  ·have hlt' : ¬ ((k : Int) < (ns.length : Int)) := by omega
   rcases two_cases ns with ⟨x, y, rfl⟩ | hn2
   ·obtain ⟨b, o, cp, hu, hc⟩ := pair_cells HI.out
    obtain ⟨c0, c1⟩ := hc _ (Below.refl _ _)
    simp only [Value.slice.injEq] at hu
    obtain ⟨rfl, _, rfl⟩ := hu
    have HE : Hid (reckS ⟨#[109, 97, 120]⟩ [x, y] = (finN (if x < y then y else x) true, finB (if x < y then y else x) true)) := HR.out x y rfl
    have hx := ok_great (HG.out x (by simp))
    have hy := ok_great (HG.out y (by simp))
    have hlt2 : ¬ ((k : Int) < 2) := by simp at hlt; omega
    clear hlt hlt' hk
    clear hx hy
    by_cases hc : x < y
    ·rw [if_pos hc] at HE
     have H38 := h38 y wr
     cases hg : greatB y
     ·have HV : Hid (reckS ⟨#[109, 97, 120]⟩ [x, y] = (y, true)) := by show reckS _ _ = _; rw [HE.out]; simp [finN, finB, hg]
      rw [hg] at H38
      clear HE hg
      go_wp2_with fail
      refine H38.mono ?_
      rintro e w1 ⟨rfl, hw⟩
      obtain rfl := hw
      go_wp2_with fail
      exact bodyPost_ret (v := .tuple #[.int .i64 y, .bool true]) (by simp [results, Tryz.results71, go_sem]) rfl ⟨by rw [HV.out], rfl⟩
     ·have HV : Hid (reckS ⟨#[109, 97, 120]⟩ [x, y] = (0, false)) := by show reckS _ _ = _; rw [HE.out]; simp [finN, finB, hg]
      rw [hg] at H38
      clear HE hg
      go_wp2_with fail
      refine H38.mono ?_
      rintro e w1 ⟨rfl, hw⟩
      obtain rfl := hw
      go_wp2_with fail
      exact bodyPost_ret (v := .tuple #[.int .i64 0, .bool false]) (by simp [results, Tryz.results71, go_sem]) rfl ⟨by rw [HV.out], rfl⟩
    ·rw [if_neg hc] at HE
     have H38 := h38 x wr
     cases hg : greatB x
     ·have HV : Hid (reckS ⟨#[109, 97, 120]⟩ [x, y] = (x, true)) := by show reckS _ _ = _; rw [HE.out]; simp [finN, finB, hg]
      rw [hg] at H38
      clear HE hg
      go_wp2_with fail
      refine H38.mono ?_
      rintro e w1 ⟨rfl, hw⟩
      obtain rfl := hw
      go_wp2_with fail
      exact bodyPost_ret (v := .tuple #[.int .i64 x, .bool true]) (by simp [results, Tryz.results71, go_sem]) rfl ⟨by rw [HV.out], rfl⟩
     ·have HV : Hid (reckS ⟨#[109, 97, 120]⟩ [x, y] = (0, false)) := by show reckS _ _ = _; rw [HE.out]; simp [finN, finB, hg]
      rw [hg] at H38
      clear HE hg
      go_wp2_with fail
      refine H38.mono ?_
      rintro e w1 ⟨rfl, hw⟩
      obtain rfl := hw
      go_wp2_with fail
      exact bodyPost_ret (v := .tuple #[.int .i64 0, .bool false]) (by simp [results, Tryz.results71, go_sem]) rfl ⟨by rw [HV.out], rfl⟩
   ·have hne : (((ns.length : Int)) != 2) = true := by simp; omega
    have HE : Hid (reckS ⟨#[109, 97, 120]⟩ ns = (0, false)) := HN.out hn2
    go_wp2_with fail
    exact bodyPost_ret (v := .tuple #[.int .i64 0, .bool false]) (by simp [results, Tryz.results71, go_sem]) rfl ⟨by rw [HE.out], rfl⟩
end Go.Proofs.YtaehhophaaipdaaGreatDoor

namespace Go.Proofs.YtaehhophaaipdaaGreatDoor
open Go.RowKit
attribute [local go_sem ↓] Go.wp_at_zero Go.wp_at_succ
theorem one_cases (ns : List Int) : (∃ x, ns = [x]) ∨ (∃ x y, ns = [x, y]) ∨ (ns.length ≠ 1 ∧ ns.length ≠ 2) := by
 match ns with
 | [x] => exact .inl ⟨x, rfl⟩
 | [x, y] => exact .inr (.inl ⟨x, y, rfl⟩)
 | [] => exact .inr (.inr (by simp))
 | _ :: _ :: _ :: _ => exact .inr (.inr (by simp))
theorem find_abs : (List.range 8).find? (matchB ⟨#[97, 98, 115]⟩ 1) = some 7 := by kernel_rfl
theorem reck_abs {ns : List Int} (h : ns.length ≠ 1) : reckS ⟨#[97, 98, 115]⟩ ns = (0, false) := by
 refine reck_none (find_none fun j hj => ?_)
 unfold matchB
 by_cases e : j = 7
 ·subst e
  have : (opA 7 == (ns.length : Int)) = false := by
   have : opA 7 = 1 := rfl
   rw [this]; simp; omega
  rw [this, Bool.and_false]
 ·have hall : (List.range 7).all (fun i => !((opT i).toList == (⟨#[97, 98, 115]⟩ : ByteArray).toList)) = true := by kernel_rfl
  have h7 : ((opT j).toList == (⟨#[97, 98, 115]⟩ : ByteArray).toList) = false := by
   have := List.all_eq_true.1 hall j (List.mem_range.2 (by omega))
   simpa using this
  rw [h7, Bool.false_and]
set_option maxRecDepth 100000 in
set_option maxHeartbeats 4000000 in
theorem h18_7 (ns : List Int) (v : Value) (w : World) (hI : IntsR w v ns) (hok : ns.any greatB = false) : Calls Tryz.prog 71 #[.string ⟨#[97, 98, 115]⟩, v] w fun e w' => e = .returned (.tuple #[.int .i64 (reckS ⟨#[97, 98, 115]⟩ ns).1, .bool (reckS ⟨#[97, 98, 115]⟩ ns).2]) ∧ w' = w := by
 have HI : Hid (IntsR w v ns) := hI
 have HG : Hid (∀ x ∈ ns, greatB x = false) := fun x hx => by simpa using List.any_eq_false.1 hok x hx
 have hm := hI.1
 unfold maxLen at hm
 have HR : Hid (∀ x, ns = [x] → reckS ⟨#[97, 98, 115]⟩ ns = (absF x, true)) := fun x e => by
  have h1 : reckS ⟨#[97, 98, 115]⟩ ns = resR 7 ns := reck_nk hok (by rw [e]; exact find_abs)
  have h2 := ok_great (HG.out x (by simp [e]))
  have h3 : greatB (absF x) = false := by
   unfold okI at h2
   unfold absF greatB
   split <;> simp <;> omega
  rw [h1, e]
  simp [resR, rawR, finN, finB, h3]
 have HN : Hid (ns.length ≠ 1 → reckS ⟨#[97, 98, 115]⟩ ns = (0, false)) := fun h => reck_abs h
 obtain ⟨ad, cap, hv⟩ := hI.form
 subst hv
 clear hI hok
 go_enter Tryz.func71, Tryz.ntmps71
 go_wp2_with fail
 go_loopw [6] (fun i wr => ∃ k : Nat, k ≤ ns.length ∧ i = .int .i64 k ∧ wr = w) (fun i _ => ns.length - (intOf i).toNat)
 case atStart => exact ⟨0, by omega, rfl, rfl⟩
 case round =>
  obtain ⟨k, hk, rfl, rfl⟩ := hrel
  by_cases hlt : k < ns.length
  ·have hlt' : (k : Int) < (ns.length : Int) := by omega
   have hk0 : (0 : Int) ≤ (k : Int) := by omega
   obtain ⟨b, o, cp, hu, c0, _⟩ := HI.out.at k hlt
   simp only [Value.slice.injEq] at hu
   obtain ⟨rfl, _, rfl⟩ := hu
   have H38 := h38 ns[k] wr
   rw [HG.out _ (List.getElem_mem hlt)] at H38
   generalize ns[k] = x at *
   go_wp2_with fail
   refine H38.mono ?_
   rintro e w1 ⟨rfl, hw⟩
   obtain rfl := hw
   go_wp2_with fail
   go_roundw
   case rel => exact ⟨k + 1, by omega, by go_num, trivial⟩
   case measure => simp [intOf]; omega
  ·have hlt' : ¬ ((k : Int) < (ns.length : Int)) := by omega
   rcases one_cases ns with ⟨x, rfl⟩ | ⟨x, y, rfl⟩ | ⟨hn1, hn2⟩
   ·obtain ⟨b, o, cp, hu, c0, _⟩ := HI.out.at 0 (by simp)
    simp only [Value.slice.injEq] at hu
    obtain ⟨rfl, _, rfl⟩ := hu
    simp only [List.getElem_cons_zero, Nat.add_zero] at c0
    have HV : Hid (reckS ⟨#[97, 98, 115]⟩ [x] = (absF x, true)) := HR.out x rfl
    obtain ⟨x1, x2⟩ := ok_great (HG.out x (by simp))
    have hlt2 : ¬ ((k : Int) < 1) := by simp at hlt; omega
    clear hlt hlt' hk
    by_cases hx0 : x < 0
    ·have HA : Hid (absF x = -x) := by show absF x = -x; unfold absF; rw [if_pos (by omega)]
     go_wp2_with fail
     exact bodyPost_ret (v := .tuple #[.int .i64 (-x), .bool true]) (by simp [results, Tryz.results71, go_sem]) rfl ⟨by rw [HV.out, HA.out], rfl⟩
    ·have HA : Hid (absF x = x) := by show absF x = x; unfold absF; rw [if_neg (by omega)]
     go_wp2_with fail
     exact bodyPost_ret (v := .tuple #[.int .i64 x, .bool true]) (by simp [results, Tryz.results71, go_sem]) rfl ⟨by rw [HV.out, HA.out], rfl⟩
   ·obtain ⟨b, o, cp, hu, hc⟩ := pair_cells HI.out
    obtain ⟨c0, c1⟩ := hc _ (Below.refl _ _)
    simp only [Value.slice.injEq] at hu
    obtain ⟨rfl, _, rfl⟩ := hu
    have HV : Hid (reckS ⟨#[97, 98, 115]⟩ [x, y] = (0, false)) := HN.out (by simp)
    have hlt2 : ¬ ((k : Int) < 2) := by simp at hlt; omega
    clear hlt hlt' hk
    go_wp2_with fail
    exact bodyPost_ret (v := .tuple #[.int .i64 0, .bool false]) (by simp [results, Tryz.results71, go_sem]) rfl ⟨by rw [HV.out], rfl⟩
   ·have hne : (((ns.length : Int)) != 2) = true := by simp; omega
    have hne1 : (((ns.length : Int)) == 1) = false := by simp; omega
    have HV : Hid (reckS ⟨#[97, 98, 115]⟩ ns = (0, false)) := HN.out hn1
    go_wp2_with fail
    exact bodyPost_ret (v := .tuple #[.int .i64 0, .bool false]) (by simp [results, Tryz.results71, go_sem]) rfl ⟨by rw [HV.out], rfl⟩
set_option maxRecDepth 100000 in
set_option maxHeartbeats 4000000 in
theorem h18_bad (op : ByteArray) (ns : List Int) (v : Value) (w : World) (hI : IntsR w v ns) (hbad : ns.any greatB = true) : Calls Tryz.prog 71 #[.string op, v] w fun e w' => e = .returned (.tuple #[.int .i64 (reckS op ns).1, .bool (reckS op ns).2]) ∧ w' = w := by
 have HI : Hid (IntsR w v ns) := hI
 have hm := hI.1
 unfold maxLen at hm
 have HV : Hid (reckS op ns = (0, false)) := by show reckS op ns = _; unfold reckS; rw [hbad]; rfl
 have HBd : Hid (ns.any greatB = true) := hbad
 obtain ⟨ad, cap, hv⟩ := hI.form
 subst hv
 clear hI hbad
 go_enter Tryz.func71, Tryz.ntmps71
 go_wp2_with fail
 go_loopw [6] (fun i wr => ∃ k : Nat, k ≤ ns.length ∧ i = .int .i64 k ∧ Hid (∀ j (hj : j < ns.length), j < k → greatB ns[j] = false) ∧ wr = w) (fun i _ => ns.length - (intOf i).toNat)
 case atStart => exact ⟨0, by omega, rfl, fun j _ h => by omega, rfl⟩
 case round =>
  obtain ⟨k, hk, rfl, HK, rfl⟩ := hrel
  by_cases hlt : k < ns.length
  ·have hlt' : (k : Int) < (ns.length : Int) := by omega
   have hk0 : (0 : Int) ≤ (k : Int) := by omega
   obtain ⟨b, o, cp, hu, c0, _⟩ := HI.out.at k hlt
   simp only [Value.slice.injEq] at hu
   obtain ⟨rfl, _, rfl⟩ := hu
   have H38 := h38 ns[k] wr
   cases hg : greatB ns[k]
   ·have HN : Hid (∀ j (hj : j < ns.length), j < k + 1 → greatB ns[j] = false) := fun j hj h => if e : j = k then by subst e; exact hg else HK.out j hj (by omega)
    rw [hg] at H38
    clear hg
    generalize ns[k] = x at *
    go_wp2_with fail
    refine H38.mono ?_
    rintro e w1 ⟨rfl, hw⟩
    obtain rfl := hw
    go_wp2_with fail
    go_roundw
    case rel => exact ⟨k + 1, by omega, by go_num, HN, trivial⟩
    case measure => simp [intOf]; omega
   ·rw [hg] at H38
    clear hg
    generalize ns[k] = x at *
    go_wp2_with fail
    refine H38.mono ?_
    rintro e w1 ⟨rfl, hw⟩
    obtain rfl := hw
    go_wp2_with fail
    exact bodyPost_ret (v := .tuple #[.int .i64 0, .bool false]) (by simp [results, Tryz.results71, go_sem]) rfl ⟨by rw [HV.out], rfl⟩
  ·exact absurd HBd.out (by rw [any_false_take _ _ fun j hj => HK.out j hj (by omega)]; simp)
end Go.Proofs.YtaehhophaaipdaaGreatDoor

namespace Go.Proofs.YtaehhophaaipdaaGreatDoor
open Go.RowKit
attribute [local go_sem ↓] Go.wp_at_zero Go.wp_at_succ
set_option maxRecDepth 100000 in
set_option maxHeartbeats 4000000 in
theorem h18_o (op : ByteArray) (ns : List Int) (v : Value) (w : World) (hI : IntsR w v ns) (hok : ns.any greatB = false) (hop : ∀ i, i < 8 → ((opT i).toList == op.toList) = false) : Calls Tryz.prog 71 #[.string op, v] w fun e w' => e = .returned (.tuple #[.int .i64 (reckS op ns).1, .bool (reckS op ns).2]) ∧ w' = w := by
 have HI : Hid (IntsR w v ns) := hI
 have HG : Hid (∀ x ∈ ns, greatB x = false) := fun x hx => by simpa using List.any_eq_false.1 hok x hx
 have hm := hI.1
 unfold maxLen at hm
 have HV : Hid (reckS op ns = (0, false)) := reck_none (find_none fun j hj => by unfold matchB; rw [hop j hj, Bool.false_and])
 have f0 : (op.toList == [43]) = false := by rw [BEq.comm, ← show (⟨#[43]⟩ : ByteArray).toList = [43] by kernel_rfl]; exact hop 0 (by omega)
 have f1 : (op.toList == [45]) = false := by rw [BEq.comm, ← show (⟨#[45]⟩ : ByteArray).toList = [45] by kernel_rfl]; exact hop 1 (by omega)
 have f2 : (op.toList == [42]) = false := by rw [BEq.comm, ← show (⟨#[42]⟩ : ByteArray).toList = [42] by kernel_rfl]; exact hop 2 (by omega)
 have f3 : (op.toList == [100, 105, 118]) = false := by rw [BEq.comm, ← show (⟨#[100, 105, 118]⟩ : ByteArray).toList = [100, 105, 118] by kernel_rfl]; exact hop 3 (by omega)
 have f4 : (op.toList == [109, 111, 100]) = false := by rw [BEq.comm, ← show (⟨#[109, 111, 100]⟩ : ByteArray).toList = [109, 111, 100] by kernel_rfl]; exact hop 4 (by omega)
 have f5 : (op.toList == [109, 105, 110]) = false := by rw [BEq.comm, ← show (⟨#[109, 105, 110]⟩ : ByteArray).toList = [109, 105, 110] by kernel_rfl]; exact hop 5 (by omega)
 have f6 : (op.toList == [109, 97, 120]) = false := by rw [BEq.comm, ← show (⟨#[109, 97, 120]⟩ : ByteArray).toList = [109, 97, 120] by kernel_rfl]; exact hop 6 (by omega)
 have f7 : (op.toList == [97, 98, 115]) = false := by rw [BEq.comm, ← show (⟨#[97, 98, 115]⟩ : ByteArray).toList = [97, 98, 115] by kernel_rfl]; exact hop 7 (by omega)
 clear hop
 obtain ⟨ad, cap, hv⟩ := hI.form
 subst hv
 clear hI hok
 go_enter Tryz.func71, Tryz.ntmps71
 go_wp2_with fail
 go_loopw [6] (fun i wr => ∃ k : Nat, k ≤ ns.length ∧ i = .int .i64 k ∧ wr = w) (fun i _ => ns.length - (intOf i).toNat)
 case atStart => exact ⟨0, by omega, rfl, rfl⟩
 case round =>
  obtain ⟨k, hk, rfl, rfl⟩ := hrel
  by_cases hlt : k < ns.length
  ·have hlt' : (k : Int) < (ns.length : Int) := by omega
   have hk0 : (0 : Int) ≤ (k : Int) := by omega
   obtain ⟨b, o, cp, hu, c0, _⟩ := HI.out.at k hlt
   simp only [Value.slice.injEq] at hu
   obtain ⟨rfl, _, rfl⟩ := hu
   have H38 := h38 ns[k] wr
   rw [HG.out _ (List.getElem_mem hlt)] at H38
   generalize ns[k] = x at *
   go_wp2_with fail
   refine H38.mono ?_
   rintro e w1 ⟨rfl, hw⟩
   obtain rfl := hw
   go_wp2_with fail
   go_roundw
   case rel => exact ⟨k + 1, by omega, by go_num, trivial⟩
   case measure => simp [intOf]; omega
  ·have hlt' : ¬ ((k : Int) < (ns.length : Int)) := by omega
   rcases two_cases ns with ⟨x, y, rfl⟩ | hn2
   ·obtain ⟨b, o, cp, hu, hc⟩ := pair_cells HI.out
    obtain ⟨c0, c1⟩ := hc _ (Below.refl _ _)
    simp only [Value.slice.injEq] at hu
    obtain ⟨rfl, _, rfl⟩ := hu
    have hlt2 : ¬ ((k : Int) < 2) := by simp at hlt; omega
    clear hlt hlt' hk
    go_wp2_with fail
    exact bodyPost_ret (v := .tuple #[.int .i64 0, .bool false]) (by simp [results, Tryz.results71, go_sem]) rfl ⟨by rw [HV.out], rfl⟩
   ·have hne : (((ns.length : Int)) != 2) = true := by simp; omega
    go_wp2_with fail
    exact bodyPost_ret (v := .tuple #[.int .i64 0, .bool false]) (by simp [results, Tryz.results71, go_sem]) rfl ⟨by rw [HV.out], rfl⟩
end Go.Proofs.YtaehhophaaipdaaGreatDoor
