/- Contracts of may, SameInts of like rows, HandInts. Contract of the reference's Reckon. -/
import Derived.Test.YtaehhophaaipdaaGreatDoorQI
import Derived.BigQuiet
namespace Go.Proofs.YtaehhophaaipdaaGreatDoor
open Go.RowKit
attribute [local go_sem ↓] Go.wp_at_zero Go.wp_at_succ
set_option maxRecDepth 100000 in
theorem h38 (x : Int) (w : World) : Calls Tryz.prog 105 #[.int .i64 x] w fun e w' => e = .returned (.bool (!greatB x)) ∧ w' = w := by
  by_cases h1 : x < -2147483648
  · have he : greatB x = true := by simp [greatB, h1]
    have h1' : ¬ (-2147483648 ≤ x) := by omega
    rw [he]
    go_enter Tryz.func105, Tryz.ntmps105
    go_wp2_with fail
    go_ret
    exact ⟨rfl, rfl⟩
  · have h1' : -2147483648 ≤ x := by omega
    by_cases h2 : 2147483648 < x
    · have he : greatB x = true := by simp [greatB, h2]
      have h2' : ¬ (x ≤ 2147483648) := by omega
      rw [he]
      go_enter Tryz.func105, Tryz.ntmps105
      go_wp2_with fail
      go_ret
      exact ⟨rfl, rfl⟩
    · have he : greatB x = false := by simp [greatB, h1, h2]
      have h2' : x ≤ 2147483648 := by omega
      rw [he]
      go_enter Tryz.func105, Tryz.ntmps105
      go_wp2_with fail
      go_ret
      exact ⟨rfl, rfl⟩
def markI (j : Nat) : Int := -700 - (j : Int)
def handI (l : List Int) : List Int := l ++ (List.range 9).map markI
theorem handI_len (l : List Int) : (handI l).length = l.length + 9 := by simp [handI]
theorem handI_lo (l : List Int) (k : Nat) (h : k < l.length) (h' : k < (handI l).length) : (handI l)[k] = l[k] := by
  simp [handI, h]
theorem handI_hi (l : List Int) (k : Nat) (h : l.length ≤ k) (h' : k < (handI l).length) : (handI l)[k] = markI (k - l.length) := by
  simp [handI, List.getElem_append, Nat.not_lt.2 h]
def HandIAt (l : List Int) (g q k : Nat) (w : World) : Prop := ∃ xs : List Value, w.ownsRow g 3 1 (.slice (some ⟨g, 0, none⟩) q q) q xs ∧ xs.take k = ((handI l).take k).map (Value.int .i64)
theorem HandIAt.dst {l : List Int} {g q k : Nat} {w : World} (h : HandIAt l g q k w) (i : Nat) (hi : i < q) : ∃ y, w.cell? ⟨g, i, none⟩ = some y := by
  obtain ⟨xs, h, _⟩ := h
  rw [h.cellAt i (by omega), List.getElem?_eq_getElem (by rw [h.1]; omega)]
  exact ⟨_, rfl⟩
theorem HandIAt.fz {l : List Int} {g q k : Nat} {w : World} (h : HandIAt l g q k w) (j : Nat) : w.frozen? ⟨g, j, none⟩ = false := by
  obtain ⟨xs, h, _⟩ := h
  exact h.frozenAt j
theorem HandIAt.put {l : List Int} {g q k : Nat} {w : World} (h : HandIAt l g q k w) (hq : l.length + 9 = q) (hk : k < q) (c : Int) (hc : ∀ h', (handI l)[k]'h' = c) (w0 : World) (B : Nat) (hb : Below B w0 w) (hBg : B ≤ g) (hBw : B ≤ w.heap.size) :
    HandIAt l g q (k + 1) (w.setCell ⟨g, k, none⟩ (.int .i64 c)) ∧ Below B w0 (w.setCell ⟨g, k, none⟩ (.int .i64 c)) := by
  obtain ⟨xs, h, ht⟩ := h
  obtain ⟨h1, g1⟩ := h.stored k (.int .i64 c)
  have hr : ∀ x, some g = some x → B ≤ x := fun x hx => by cases hx; exact hBg
  refine ⟨⟨_, h1, ?_⟩, hb.grown g1 hBw hr⟩
  have hl := h.1
  have hkl : k < (handI l).length := by rw [handI_len]; omega
  rw [List.take_succ_eq_append_getElem hkl, List.map_append, ← ht, hc hkl]
  have hkx : k < xs.length := by omega
  rw [List.take_succ_eq_append_getElem (by simpa using hkx)]
  simp [List.take_set_of_le]
theorem HandIAt.range {l : List Int} {g q : Nat} {w : World} (h : HandIAt l g q q w) (hq : l.length + 9 = q) : w.rangeAt g 0 ((handI l).map (Value.int .i64)) ∧ g < w.heap.size := by
  obtain ⟨xs, h, ht⟩ := h
  have hl := h.1
  rw [List.take_of_length_le (by omega), List.take_of_length_le (by rw [handI_len]; omega)] at ht
  subst ht
  refine ⟨fun j v hv => ?_, (h.lt g rfl).2⟩
  have hj := (List.getElem?_eq_some_iff.1 hv).1
  rw [Nat.zero_add, h.cellAt j (by omega)]
  exact hv
end Go.Proofs.YtaehhophaaipdaaGreatDoor

namespace Go.Proofs.YtaehhophaaipdaaGreatDoor
open Go.RowKit
attribute [local go_sem ↓] Go.wp_at_zero Go.wp_at_succ
theorem two_cases (ns : List Int) : (∃ x y, ns = [x, y]) ∨ ns.length ≠ 2 := by
  match ns with
  | [x, y] => exact .inl ⟨x, y, rfl⟩
  | [] => exact .inr (by simp)
  | [_] => exact .inr (by simp)
  | _ :: _ :: _ :: _ => exact .inr (by simp)
theorem reck_nk {op : ByteArray} {ns : List Int} (hok : ns.any greatB = false) {k : Nat} (hk : (List.range 8).find? (matchB op ns.length) = some k) : reckS op ns = resR k ns := by
  unfold reckS
  rw [hok, hk]
  rfl
theorem reck_none {op : ByteArray} {ns : List Int} (hk : (List.range 8).find? (matchB op ns.length) = none) : reckS op ns = (0, false) := by
  unfold reckS
  rw [hk]
  split <;> rfl
theorem reck_two {op : ByteArray} {ns : List Int} (h7 : ((opT 7).toList == op.toList) = false) (h : ns.length ≠ 2) : reckS op ns = (0, false) := by
  refine reck_none (find_none fun j hj => ?_)
  unfold matchB
  by_cases e : j = 7
  · subst e; rw [h7]; rfl
  · have e2 : opA j = 2 := by
      unfold opA
      split
      · omega
      · rfl
    have : ((opA j == (ns.length : Int))) = false := by rw [e2]; simp; omega
    rw [this, Bool.and_false]
theorem ok_great {x : Int} (h : greatB x = false) : okI x := by
  unfold greatB at h
  unfold okI
  simp at h
  omega
set_option maxRecDepth 100000 in
set_option maxHeartbeats 4000000 in
theorem h18_0 (ns : List Int) (v : Value) (w : World) (hI : IntsR w v ns) (hok : ns.any greatB = false) : Calls Tryz.prog 71 #[.string ⟨#[43]⟩, v] w fun e w' => e = .returned (.tuple #[.int .i64 (reckS ⟨#[43]⟩ ns).1, .bool (reckS ⟨#[43]⟩ ns).2]) ∧ w' = w := by
  have HI : Hid (IntsR w v ns) := hI
  have HG : Hid (∀ x ∈ ns, greatB x = false) := fun x hx => by simpa using List.any_eq_false.1 hok x hx
  have hm := hI.1
  unfold maxLen at hm
  have HR : Hid (∀ x y, ns = [x, y] → reckS ⟨#[43]⟩ ns = resR 0 ns) := fun x y e => by
    refine reck_nk hok ?_
    rw [e]
    have h : (List.range 8).find? (matchB ⟨#[43]⟩ 2) = some 0 := by kernel_rfl
    exact h
  have HN : Hid (ns.length ≠ 2 → reckS ⟨#[43]⟩ ns = (0, false)) := fun h => reck_two (by kernel_rfl) h
  obtain ⟨ad, cap, hv⟩ := hI.form
  subst hv
  clear hI hok
  go_enter Tryz.func71, Tryz.ntmps71
  go_wp2_with fail
  go_loopw [6] (fun i wr => ∃ k : Nat, k ≤ ns.length ∧ i = .int .i64 k ∧ wr = w) (fun i _ => ns.length - (intOf i).toNat)
  case atStart => exact ⟨0, by omega, rfl, rfl⟩
  case round =>
    obtain ⟨k, hk, rfl, rfl⟩ := hrel
    by_cases hlt : k < ns.length
    · have hlt' : (k : Int) < (ns.length : Int) := by omega
      have hk0 : (0 : Int) ≤ (k : Int) := by omega
      obtain ⟨b, o, cp, hu, c0, _⟩ := HI.out.at k hlt
      simp only [Value.slice.injEq] at hu
      obtain ⟨rfl, _, rfl⟩ := hu
      have H38 := h38 ns[k] wr
      rw [HG.out _ (List.getElem_mem hlt)] at H38
      generalize ns[k] = x at *
      go_wp2_with fail
      refine H38.mono ?_
      rintro e w1 ⟨rfl, hw⟩
      obtain rfl := hw
      go_wp2_with fail
      go_roundw
      case rel => exact ⟨k + 1, by omega, by go_num, trivial⟩
      case measure => simp [intOf]; omega
    · have hlt' : ¬ ((k : Int) < (ns.length : Int)) := by omega
      rcases two_cases ns with ⟨x, y, rfl⟩ | hn2
      · obtain ⟨b, o, cp, hu, hc⟩ := pair_cells HI.out
        obtain ⟨c0, c1⟩ := hc _ (Below.refl _ _)
        simp only [Value.slice.injEq] at hu
        obtain ⟨rfl, _, rfl⟩ := hu
        have HE : Hid (reckS ⟨#[43]⟩ [x, y] = (finN (x + y) true, finB (x + y) true)) := HR.out x y rfl
        have hx := ok_great (HG.out x (by simp))
        have hy := ok_great (HG.out y (by simp))
        obtain ⟨x1, x2⟩ := hx
        obtain ⟨y1, y2⟩ := hy
        obtain ⟨z, hz⟩ : ∃ z, x + y = z := ⟨_, rfl⟩
        rw [hz] at HE
        have z1 : -9000000000000000000 ≤ z ∧ z ≤ 9000000000000000000 := by omega
        have H38 := h38 z wr
        have hlt2 : ¬ ((k : Int) < 2) := by simp at hlt; omega
        clear hlt hlt' hk
        cases hg : greatB z
        · have HV : Hid (reckS ⟨#[43]⟩ [x, y] = (z, true)) := by show reckS _ _ = _; rw [HE.out]; simp [finN, finB, hg]
          rw [hg] at H38
          clear HE hg
          go_wp2_with fail
          refine H38.mono ?_
          rintro e w1 ⟨rfl, hw⟩
          obtain rfl := hw
          go_wp2_with fail
          exact bodyPost_ret (v := .tuple #[.int .i64 z, .bool true]) (by simp [results, Tryz.results71, go_sem]) rfl ⟨by rw [HV.out], rfl⟩
        · have HV : Hid (reckS ⟨#[43]⟩ [x, y] = (0, false)) := by show reckS _ _ = _; rw [HE.out]; simp [finN, finB, hg]
          rw [hg] at H38
          clear HE hg
          go_wp2_with fail
          refine H38.mono ?_
          rintro e w1 ⟨rfl, hw⟩
          obtain rfl := hw
          go_wp2_with fail
          exact bodyPost_ret (v := .tuple #[.int .i64 0, .bool false]) (by simp [results, Tryz.results71, go_sem]) rfl ⟨by rw [HV.out], rfl⟩
      · have hne : (((ns.length : Int)) != 2) = true := by simp; omega
        have HE : Hid (reckS ⟨#[43]⟩ ns = (0, false)) := HN.out hn2
        go_wp2_with fail
        exact bodyPost_ret (v := .tuple #[.int .i64 0, .bool false]) (by simp [results, Tryz.results71, go_sem]) rfl ⟨by rw [HE.out], rfl⟩
end Go.Proofs.YtaehhophaaipdaaGreatDoor
