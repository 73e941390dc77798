/- Contract of the reference's Reckon. -/
import Derived.Test.YteikdgjlhdgapaaDoorAR16P
namespace Go.Proofs.YteikdgjlhdgapaaDoor
open Go.RowKit
attribute [local go_sem ↓] Go.wp_at_zero Go.wp_at_succ
theorem two_cases (ns : List Int) : (∃ x y, ns = [x, y]) ∨ ns.length ≠ 2 := by
  match ns with
  | [x, y] => exact .inl ⟨x, y, rfl⟩
  | [] => exact .inr (by simp)
  | [_] => exact .inr (by simp)
  | _ :: _ :: _ :: _ => exact .inr (by simp)
theorem reck_nk {op : ByteArray} {ns : List Int} (hok : ns.any greatB = false) {k : Nat} (hk : (List.range 8).find? (matchB op ns.length) = some k) : reckS op ns = resR k ns := by
  unfold reckS
  rw [hok, hk]
  rfl
theorem reck_none {op : ByteArray} {ns : List Int} (hk : (List.range 8).find? (matchB op ns.length) = none) : reckS op ns = (0, false) := by
  unfold reckS
  rw [hk]
  split <;> rfl
theorem reck_two {op : ByteArray} {ns : List Int} (h7 : ((opT 7).toList == op.toList) = false) (h : ns.length ≠ 2) : reckS op ns = (0, false) := by
  refine reck_none (find_none fun j hj => ?_)
  unfold matchB
  by_cases e : j = 7
  · subst e; rw [h7]; rfl
  · have e2 : opA j = 2 := by
      unfold opA
      split
      · omega
      · rfl
    have : ((opA j == (ns.length : Int))) = false := by rw [e2]; simp; omega
    rw [this, Bool.and_false]
theorem ok_great {x : Int} (h : greatB x = false) : okI x := by
  unfold greatB at h
  unfold okI
  simp at h
  omega
set_option maxRecDepth 100000 in
set_option maxHeartbeats 4000000 in
theorem h18_0 (ns : List Int) (v : Value) (w : World) (hI : IntsR w v ns) (hok : ns.any greatB = false) : Calls Tryd.prog 18 #[.string ⟨#[43]⟩, v] w fun e w' => e = .returned (.tuple #[.int .i64 (reckS ⟨#[43]⟩ ns).1, .bool (reckS ⟨#[43]⟩ ns).2]) ∧ w' = w := by
  have HI : Hid (IntsR w v ns) := hI
  have HG : Hid (∀ x ∈ ns, greatB x = false) := fun x hx => by simpa using List.any_eq_false.1 hok x hx
  have hm := hI.1
  unfold maxLen at hm
  have HR : Hid (∀ x y, ns = [x, y] → reckS ⟨#[43]⟩ ns = resR 0 ns) := fun x y e => by
    refine reck_nk hok ?_
    rw [e]
    have h : (List.range 8).find? (matchB ⟨#[43]⟩ 2) = some 0 := by kernel_rfl
    exact h
  have HN : Hid (ns.length ≠ 2 → reckS ⟨#[43]⟩ ns = (0, false)) := fun h => reck_two (by kernel_rfl) h
  obtain ⟨ad, cap, hv⟩ := hI.form
  subst hv
  clear hI hok
  go_enter Tryd.func18, Tryd.ntmps18
  go_wp2_with fail
  go_loopw [6] (fun i wr => ∃ k : Nat, k ≤ ns.length ∧ i = .int .i64 k ∧ wr = w) (fun i _ => ns.length - (intOf i).toNat)
  case atStart => exact ⟨0, by omega, rfl, rfl⟩
  case round =>
    obtain ⟨k, hk, rfl, rfl⟩ := hrel
    by_cases hlt : k < ns.length
    · have hlt' : (k : Int) < (ns.length : Int) := by omega
      have hk0 : (0 : Int) ≤ (k : Int) := by omega
      obtain ⟨b, o, cp, hu, c0, _⟩ := HI.out.at k hlt
      simp only [Value.slice.injEq] at hu
      obtain ⟨rfl, _, rfl⟩ := hu
      have H38 := h38 ns[k] wr
      rw [HG.out _ (List.getElem_mem hlt)] at H38
      generalize ns[k] = x at *
      go_wp2_with fail
      refine H38.mono ?_
      rintro e w1 ⟨rfl, hw⟩
      obtain rfl := hw
      go_wp2_with fail
      go_roundw
      case rel => exact ⟨k + 1, by omega, by go_num, trivial⟩
      case measure => simp [intOf]; omega
    · have hlt' : ¬ ((k : Int) < (ns.length : Int)) := by omega
      rcases two_cases ns with ⟨x, y, rfl⟩ | hn2
      · obtain ⟨b, o, cp, hu, hc⟩ := pair_cells HI.out
        obtain ⟨c0, c1⟩ := hc _ (Below.refl _ _)
        simp only [Value.slice.injEq] at hu
        obtain ⟨rfl, _, rfl⟩ := hu
        have HE : Hid (reckS ⟨#[43]⟩ [x, y] = (finN (x + y) true, finB (x + y) true)) := HR.out x y rfl
        have hx := ok_great (HG.out x (by simp))
        have hy := ok_great (HG.out y (by simp))
        obtain ⟨x1, x2⟩ := hx
        obtain ⟨y1, y2⟩ := hy
        obtain ⟨z, hz⟩ : ∃ z, x + y = z := ⟨_, rfl⟩
        rw [hz] at HE
        have z1 : -9000000000000000000 ≤ z ∧ z ≤ 9000000000000000000 := by omega
        have H38 := h38 z wr
        have hlt2 : ¬ ((k : Int) < 2) := by simp at hlt; omega
        clear hlt hlt' hk
        cases hg : greatB z
        · have HV : Hid (reckS ⟨#[43]⟩ [x, y] = (z, true)) := by show reckS _ _ = _; rw [HE.out]; simp [finN, finB, hg]
          rw [hg] at H38
          clear HE hg
          go_wp2_with fail
          refine H38.mono ?_
          rintro e w1 ⟨rfl, hw⟩
          obtain rfl := hw
          go_wp2_with fail
          exact bodyPost_ret (v := .tuple #[.int .i64 z, .bool true]) (by simp [results, Tryd.results18, go_sem]) rfl ⟨by rw [HV.out], rfl⟩
        · have HV : Hid (reckS ⟨#[43]⟩ [x, y] = (0, false)) := by show reckS _ _ = _; rw [HE.out]; simp [finN, finB, hg]
          rw [hg] at H38
          clear HE hg
          go_wp2_with fail
          refine H38.mono ?_
          rintro e w1 ⟨rfl, hw⟩
          obtain rfl := hw
          go_wp2_with fail
          exact bodyPost_ret (v := .tuple #[.int .i64 0, .bool false]) (by simp [results, Tryd.results18, go_sem]) rfl ⟨by rw [HV.out], rfl⟩
      · have hne : (((ns.length : Int)) != 2) = true := by simp; omega
        have HE : Hid (reckS ⟨#[43]⟩ ns = (0, false)) := HN.out hn2
        go_wp2_with fail
        exact bodyPost_ret (v := .tuple #[.int .i64 0, .bool false]) (by simp [results, Tryd.results18, go_sem]) rfl ⟨by rw [HE.out], rfl⟩
end Go.Proofs.YteikdgjlhdgapaaDoor
