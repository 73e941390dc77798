/- Contract of SameCells. Contract of HandCells. Contracts of HandTerm, KeptCells, KeptTerm. -/
import Derived.Test.YtljggjllijacjaaGreatDoorRAg
import Derived.Test.YtljggjllijacjaaGreatDoorAAg
namespace Go.Proofs.YtljggjllijacjaaGreatDoor
open Go.RowKit
attribute [local go_sem ↓] Go.wp_at_zero Go.wp_at_succ
set_option maxHeartbeats 1000000 in
theorem k52_len (n m c1 c2 : Nat) (a1 a2 : Option Addr) (w : World) (h : ((n : Int) != (m : Int)) = true) :
    Calls Tryz.prog 54 #[.slice a1 n c1, .slice a2 m c2] w fun e w' => e = .returned (.bool false) ∧ Below w.heap.size w w' := by
  go_enter Tryz.func54, Tryz.ntmps54
  go_wp2_with fail
  go_ret
  exact ⟨rfl, Below.refl _ _⟩
set_option maxHeartbeats 1000000 in
theorem k52_nil (c1 c2 : Nat) (a1 a2 : Option Addr) (w : World) :
    Calls Tryz.prog 54 #[.slice a1 0 c1, .slice a2 0 c2] w fun e w' => e = .returned (.bool true) ∧ Below w.heap.size w w' := by
  go_enter Tryz.func54, Tryz.ntmps54
  go_wp2_with fail
  refine wp_loop_rounds 1 ?_
  rw [rounds_succ]
  go_wp2_with fail
  go_ret
  exact ⟨rfl, Below.refl _ _⟩
set_option maxHeartbeats 2000000 in
theorem k52_in (l m : List C) (b1 o1 c1 b2 o2 c2 : Nat) (w : World) (hr1 : w.rangeAt b1 o1 (flat l)) (hr2 : w.rangeAt b2 o2 (flat m)) (hl : l.length = m.length) (hc : l.length ≤ maxLen) (hb1 : b1 < w.heap.size) (hb2 : b2 < w.heap.size) :
    Calls Tryz.prog 54 #[.slice (some ⟨b1, o1, none⟩) l.length c1, .slice (some ⟨b2, o2, none⟩) l.length c2] w fun e w' => e = .returned (.bool (eqT l m)) ∧ Below w.heap.size w w' := by
  unfold maxLen at hc
  have HR1 : Hid (w.rangeAt b1 o1 (flat l)) := hr1
  have HR2 : Hid (w.rangeAt b2 o2 (flat m)) := hr2
  have HL : Hid (l.length = m.length) := hl
  have hne : (((l.length : Nat) : Int) != (l.length : Int)) = false := by simp
  clear hr1 hr2 hl
  go_enter Tryz.func54, Tryz.ntmps54
  go_wp2_with fail
  go_loopw [5] (fun i wr => ∃ k : Nat, k ≤ l.length ∧ i = .int .i64 k ∧ Hid (eqUpto l m k) ∧ Below w.heap.size w wr) (fun i _ => l.length - (intOf i).toNat)
  case atStart => exact ⟨0, by omega, rfl, fun j hj => by omega, Below.refl _ _⟩
  case round =>
    obtain ⟨k, hk, rfl, HU, hbr⟩ := hrel
    by_cases hlt : k < l.length
    · have hlt' : (k : Int) < (l.length : Int) := by omega
      have hk0 : (0 : Int) ≤ (k : Int) := by omega
      have hlm : k < m.length := by rw [← HL.out]; exact hlt
      obtain ⟨p0, p1, p2, p3, p4⟩ := term_cells (range_below HR1.out hb1 hbr) k hlt
      obtain ⟨q0, q1, q2, q3, q4⟩ := term_cells (range_below HR2.out hb2 hbr) k hlm
      have hN := neq60 l[k].k l[k].t l[k].n l[k].vn l[k].vk m[k].k m[k].t m[k].n m[k].vn m[k].vk
      have e1 : eqCells l[k].k l[k].t l[k].n l[k].vn l[k].vk m[k].k m[k].t m[k].n m[k].vn m[k].vk = eqC l[k] m[k] := rfl
      rw [e1] at hN
      clear e1
      cases hq : eqC l[k] m[k]
      · have hF : Hid (eqT l m = false) := eqT_false k hlt hlm hq
        rw [hq] at hN
        clear hq
        go_wp2_with fail
        go_quiet (fail)
        go_wp2_with fail
        go_ret
        exact ⟨by rw [hF.out]; rfl, below_drewN hbr _⟩
      · have hU : Hid (eqUpto l m (k + 1)) := fun j hj h1 h2 => if e : j = k then by subst e; exact hq else HU.out j (by omega) h1 h2
        rw [hq] at hN
        clear hq
        go_wp2_with fail
        go_quiet (fail)
        go_wp2_with fail
        go_roundw
        case rel => exact ⟨k + 1, by omega, by go_num, hU, below_drewN hbr _⟩
        case measure => simp [intOf]; omega
    · have hF : Hid (eqT l m = true) := eqT_true HL.out (by rw [show l.length = k by omega]; exact HU.out)
      have hlt' : ¬ ((k : Int) < (l.length : Int)) := by omega
      go_wp2_with fail
      go_ret
      exact ⟨by rw [hF.out]; rfl, hbr⟩
theorem k52 (l m : List C) (v u : Value) (w : World) (hv : TermAt w v l) (hu : TermAt w u m) :
    Calls Tryz.prog 54 #[v, u] w fun e w' => e = .returned (.bool (eqT l m)) ∧ Below w.heap.size w w' := by
  by_cases hl : l.length = m.length
  · by_cases h0 : l.length = 0
    · obtain ⟨a1, c1, rfl⟩ := hv.form
      obtain ⟨a2, c2, rfl⟩ := hu.form
      have e1 : l = [] := List.eq_nil_of_length_eq_zero h0
      have e2 : m = [] := List.eq_nil_of_length_eq_zero (by omega)
      subst e1 e2
      exact k52_nil c1 c2 a1 a2 w
    · obtain ⟨⟨hc, _⟩, hv⟩ := hv
      obtain ⟨_, hu⟩ := hu
      rcases hv with ⟨e, _⟩ | ⟨b1, o1, c1, rfl, _, _, hr1, hb1⟩
      · rw [e] at h0; simp at h0
      rcases hu with ⟨e, _⟩ | ⟨b2, o2, c2, rfl, _, _, hr2, hb2⟩
      · rw [hl, e] at h0; simp at h0
      rw [← hl]
      exact k52_in l m b1 o1 c1 b2 o2 c2 w hr1 hr2 hl hc hb1 hb2
  · obtain ⟨a1, c1, rfl⟩ := hv.form
    obtain ⟨a2, c2, rfl⟩ := hu.form
    rw [eqT_len hl]
    exact k52_len _ _ c1 c2 a1 a2 w (by simp; omega)
end Go.Proofs.YtljggjllijacjaaGreatDoor

namespace Go.Proofs.YtljggjllijacjaaGreatDoor
open Go.RowKit
def markC (j : Nat) : C := ⟨0, ⟨#[]⟩, -700 - (j : Int), 0, 0⟩
def marks : List C := (List.range 9).map markC
def handL (l : List C) : List C := l ++ marks
theorem handL_len (l : List C) : (handL l).length = l.length + 9 := by simp [handL, marks]
theorem handL_lo (l : List C) (k : Nat) (h : k < l.length) (h' : k < (handL l).length) : (handL l)[k] = l[k] := by
  simp [handL, h]
theorem handL_hi (l : List C) (k : Nat) (h : l.length ≤ k) (h' : k < (handL l).length) : (handL l)[k] = markC (k - l.length) := by
  simp [handL, List.getElem_append, marks, Nat.not_lt.2 h]
def HandAt (l : List C) (g q k : Nat) (w : World) : Prop := ∃ xs : List Value, w.ownsRow g 78 5 (.slice (some ⟨g, 0, none⟩) q q) q xs ∧ xs.take (5 * k) = flat ((handL l).take k)
theorem HandAt.dst {l : List C} {g q k : Nat} {w : World} (h : HandAt l g q k w) (i : Nat) (hi : i < q) : (∃ y, w.cell? ⟨g, i * 5, none⟩ = some y) ∧ (∃ y, w.cell? ⟨g, i * 5 + 1, none⟩ = some y) ∧ (∃ y, w.cell? ⟨g, i * 5 + 2, none⟩ = some y) ∧ (∃ y, w.cell? ⟨g, i * 5 + 3, none⟩ = some y) ∧ (∃ y, w.cell? ⟨g, i * 5 + 4, none⟩ = some y) := by
  obtain ⟨xs, h, _⟩ := h
  have hx : ∀ j, j < q * 5 → ∃ y, w.cell? ⟨g, j, none⟩ = some y := fun j hj => by
    rw [h.cellAt j hj, List.getElem?_eq_getElem (by rw [h.1]; exact hj)]
    exact ⟨_, rfl⟩
  exact ⟨hx _ (by omega), hx _ (by omega), hx _ (by omega), hx _ (by omega), hx _ (by omega)⟩
theorem HandAt.fz {l : List C} {g q k : Nat} {w : World} (h : HandAt l g q k w) (j : Nat) : w.frozen? ⟨g, j, none⟩ = false := by
  obtain ⟨xs, h, _⟩ := h
  exact h.frozenAt j
theorem set5 (xs : List Value) (n : Nat) (a b c d e : Value) (h : n + 5 ≤ xs.length) : (((((xs.set n a).set (n + 1) b).set (n + 2) c).set (n + 3) d).set (n + 4) e).take (n + 5) = xs.take n ++ [a, b, c, d, e] := by
  have hp : (xs.take n).length = n := by rw [List.length_take]; omega
  have hd : (xs.drop n).length = xs.length - n := List.length_drop
  have hx := (List.take_append_drop n xs).symm
  generalize xs.take n = p at *
  generalize xs.drop n = r at *
  subst hx
  match r, hd with
  | [], hd => simp at hd; simp at h; omega
  | [_], hd => simp at h; omega
  | [_, _], hd => simp at h; omega
  | [_, _, _], hd => simp at h; omega
  | [_, _, _, _], hd => simp at h; omega
  | x0 :: x1 :: x2 :: x3 :: x4 :: r, _ =>
    subst hp
    simp [List.take_append]
    exact List.take_of_length_le (by omega)
theorem HandAt.put {l : List C} {g q k : Nat} {w : World} (h : HandAt l g q k w) (hq : l.length + 9 = q) (hk : k < q) (c : C) (hc : ∀ h', (handL l)[k]'h' = c) (w0 : World) (B : Nat) (hb : Below B w0 w) (hBg : B ≤ g) (hBw : B ≤ w.heap.size) :
    HandAt l g q (k + 1) (((((w.setCell ⟨g, k * 5, none⟩ (.int .u8 c.k)).setCell ⟨g, k * 5 + 1, none⟩ (.string c.t)).setCell ⟨g, k * 5 + 2, none⟩ (.int .i64 c.n)).setCell ⟨g, k * 5 + 3, none⟩ (.int .i64 c.vn)).setCell ⟨g, k * 5 + 4, none⟩ (.int .i64 c.vk)) ∧
    Below B w0 (((((w.setCell ⟨g, k * 5, none⟩ (.int .u8 c.k)).setCell ⟨g, k * 5 + 1, none⟩ (.string c.t)).setCell ⟨g, k * 5 + 2, none⟩ (.int .i64 c.n)).setCell ⟨g, k * 5 + 3, none⟩ (.int .i64 c.vn)).setCell ⟨g, k * 5 + 4, none⟩ (.int .i64 c.vk)) := by
  obtain ⟨xs, h, ht⟩ := h
  obtain ⟨h1, g1⟩ := h.stored (k * 5) (.int .u8 c.k)
  obtain ⟨h2, g2⟩ := h1.stored (k * 5 + 1) (.string c.t)
  obtain ⟨h3, g3⟩ := h2.stored (k * 5 + 2) (.int .i64 c.n)
  obtain ⟨h4, g4⟩ := h3.stored (k * 5 + 3) (.int .i64 c.vn)
  obtain ⟨h5, g5⟩ := h4.stored (k * 5 + 4) (.int .i64 c.vk)
  have hr : ∀ x, some g = some x → B ≤ x := fun x hx => by cases hx; exact hBg
  have b1 := hb.grown g1 hBw hr
  have z1 := g1.size
  have b2 := b1.grown g2 (by omega) hr
  have z2 := g2.size
  have b3 := b2.grown g3 (by omega) hr
  have z3 := g3.size
  have b4 := b3.grown g4 (by omega) hr
  have z4 := g4.size
  have b5 := b4.grown g5 (by omega) hr
  refine ⟨⟨_, h5, ?_⟩, b5⟩
  have hl := h.1
  have e5 : 5 * (k + 1) = k * 5 + 5 := by omega
  rw [e5, set5 _ _ _ _ _ _ _ (by omega), show k * 5 = 5 * k by omega, ht]
  have hkl : k < (handL l).length := by rw [handL_len]; omega
  rw [List.take_succ_eq_append_getElem hkl, flat_append, hc hkl]
  simp [flat, C.vals]
theorem HandAt.range {l : List C} {g q : Nat} {w : World} (h : HandAt l g q q w) (hq : l.length + 9 = q) : w.rangeAt g 0 (flat (handL l)) ∧ g < w.heap.size := by
  obtain ⟨xs, h, ht⟩ := h
  have hl := h.1
  rw [List.take_of_length_le (by omega), List.take_of_length_le (by rw [handL_len]; omega)] at ht
  subst ht
  refine ⟨fun j v hv => ?_, (h.lt g rfl).2⟩
  have hj := (List.getElem?_eq_some_iff.1 hv).1
  rw [Nat.zero_add, h.cellAt j (by omega)]
  exact hv
set_option maxRecDepth 100000 in
set_option maxHeartbeats 2000000 in
theorem k21 (l : List C) (v : Value) (w : World) (h : TermAt w v l) (hB : 48 * l.length ≤ 140737488355328) :
    Calls Tryz.prog 36 #[v] w fun e w' => ∃ g, e = .returned (.slice (some ⟨g, 0, none⟩) l.length (l.length + 9)) ∧ w'.rangeAt g 0 (flat (handL l)) ∧ g < w'.heap.size ∧ Below w.heap.size w w' := by
  obtain ⟨i0, hi, hz0, hs0, hby⟩ := info60
  have HT : Hid (TermAt w v l) := h
  obtain ⟨adv, cpv, hv⟩ := h.form
  subst hv
  have HF : Hid (0 < l.length → ∃ b o, adv = some ⟨b, o, none⟩ ∧ w.rangeAt b o (flat l) ∧ b < w.heap.size) := fun h0 => by
    rcases HT.out.2 with ⟨rfl, _⟩ | ⟨b, o, cap, hv, _, _, h3, h4⟩
    · simp at h0
    · simp only [Value.slice.injEq] at hv
      exact ⟨b, o, hv.1, h3, h4⟩
  clear h
  generalize hq : l.length + 9 = q at *
  go_enter Tryz.func36, Tryz.ntmps36
  go_wp2_with (at_make; go_loud (refine wpList_make_full _ rfl _ _ 23 rfl w.heap.size 78 i0 (.agg #[.int .u8 0, .string ⟨#[]⟩, .int .i64 0, .int .i64 0, .int .i64 0]) 5 Tryz.underlying23 hi hz0 hs0 .i64 .i64 _ _ q rfl rfl (by go_num) (by go_num) (by rw [hby]; omega) (by unfold maxLen; omega) (Nat.le_refl _) ?_))
  intro w1 hown1 hgrow1
  have hbw1 : Hid (Below w.heap.size w w1) := (Below.refl _ _).grown hgrow1 (Nat.le_refl _) (fun g hg => by cases hg)
  have HO1 : Hid (HandAt l w.heap.size q 0 w1) := ⟨_, hown1, by simp [flat]⟩
  clear hown1 hgrow1
  have hq' : (l.length : Int) ≤ (q : Int) := by omega
  have hqm : q ≤ 9223372036854775807 := by omega
  go_wp2_with fail
  go_loopw [4] (fun i wr => ∃ k : Nat, k ≤ l.length ∧ i = .int .i64 k ∧ Hid (HandAt l w.heap.size q k wr) ∧ Below w.heap.size w wr) (fun i _ => l.length - (intOf i).toNat)
  case atStart => exact ⟨0, by omega, rfl, HO1, hbw1.out⟩
  case round =>
    obtain ⟨k, hk, rfl, HO, hbr⟩ := hrel
    by_cases hlt : k < l.length
    · have hlt' : (k : Int) < (l.length : Int) := by omega
      have hltq : (k : Int) < (q : Int) := by omega
      have hk0 : (0 : Int) ≤ (k : Int) := by omega
      obtain ⟨b, o, rfl, h3, h4⟩ := HF.out (by omega)
      obtain ⟨p0, p1, p2, p3, p4⟩ := term_cells (range_below h3 h4 hbr) k hlt
      obtain ⟨⟨y0, d0⟩, ⟨y1, d1⟩, ⟨y2, d2⟩, ⟨y3, d3⟩, ⟨y4, d4⟩⟩ := HO.out.dst k (by omega)
      have fz := HO.out.fz
      clear h3 h4
      have HP0 := HO.out.put hq (by omega) l[k] (fun h' => handL_lo l k hlt h') w w.heap.size hbr (Nat.le_refl _) hbr.size
      have HP : Hid (_ ∧ _) := HP0
      clear HP0
      go_wp2_with fail
      go_roundw
      case rel => exact ⟨k + 1, by omega, by go_num, HP.out.1, HP.out.2⟩
      case measure => simp [intOf]; omega
    · have hlt' : ¬ ((k : Int) < (l.length : Int)) := by omega
      have hkl : k = l.length := by omega
      clear hlt hlt' hk
      subst hkl
      go_wp2_with fail
      go_loopw [5] (fun i wr => ∃ k : Nat, l.length ≤ k ∧ k ≤ q ∧ i = .int .i64 k ∧ Hid (HandAt l w.heap.size q k wr) ∧ Below w.heap.size w wr) (fun i _ => q - (intOf i).toNat)
      case atStart => exact ⟨l.length, by omega, by omega, rfl, HO, hbr⟩
      case round =>
        obtain ⟨k, hkl, hk, rfl, HO, hbr⟩ := hrel
        by_cases hlt : k < q
        · have hlt' : (k : Int) < (q : Int) := by omega
          have hk0 : (0 : Int) ≤ (k : Int) := by omega
          obtain ⟨⟨y0, d0⟩, ⟨y1, d1⟩, ⟨y2, d2⟩, ⟨y3, d3⟩, ⟨y4, d4⟩⟩ := HO.out.dst k hlt
          have fz := HO.out.fz
          have hmk : markC (k - l.length) = ⟨0, ⟨#[]⟩, -700 - (k : Int) + (l.length : Int), 0, 0⟩ := by
            unfold markC; congr 1; omega
          have HP0 := HO.out.put hq hlt _ (fun h' => (handL_hi l k hkl h').trans hmk) w w.heap.size hbr (Nat.le_refl _) hbr.size
          have HP : Hid (_ ∧ _) := HP0
          clear HP0 hmk
          go_wp2_with fail
          go_roundw
          case rel => exact ⟨k + 1, by omega, by omega, by go_num, HP.out.1, HP.out.2⟩
          case measure => simp [intOf]; omega
        · have hlt' : ¬ ((k : Int) < (q : Int)) := by omega
          have hl0 : (0 : Int) ≤ (l.length : Int) := by omega
          have hkq : k = q := by omega
          clear hlt hlt' hk
          obtain ⟨hR, hG⟩ := (hkq ▸ HO.out : HandAt l w.heap.size q q wr).range hq
          go_wp2_with fail
          go_ret
          exact ⟨w.heap.size, rfl, hR, hG, hbr⟩
end Go.Proofs.YtljggjllijacjaaGreatDoor

namespace Go.Proofs.YtljggjllijacjaaGreatDoor
open Go.RowKit
attribute [local go_sem ↓] Go.wp_at_zero Go.wp_at_succ
theorem hand_term {l : List C} {w : World} {g : Nat} (hr : w.rangeAt g 0 (flat (handL l))) (hg : g < w.heap.size) (htx : ∀ c ∈ l, c.t.size ≤ maxLen) (hB : 48 * l.length ≤ 140737488355328) :
    TermAt w (.slice (some ⟨g, 0, none⟩) l.length (l.length + 9)) l := by
  refine ⟨⟨by unfold maxLen; omega, htx⟩, .inr ⟨g, 0, l.length + 9, rfl, by omega, by unfold maxLen; omega, fun j v hv => hr j v ?_, hg⟩⟩
  unfold handL
  rw [flat_append, List.getElem?_append_left (List.getElem?_eq_some_iff.1 hv).1]
  exact hv
set_option maxRecDepth 100000 in
set_option maxHeartbeats 2000000 in
theorem k36 (l : List C) (v : Value) (g : Nat) (w : World) (h : TermAt w v l) (hr : w.rangeAt g 0 (flat (handL l))) (hg : g < w.heap.size) (hB : 48 * l.length ≤ 140737488355328) :
    Calls Tryz.prog 53 #[.slice (some ⟨g, 0, none⟩) l.length (l.length + 9), v] w fun e w' => e = .returned (.bool true) ∧ Below w.heap.size w w' := by
  have H52 := k52 l l _ v w (hand_term hr hg h.1.2 hB) h
  rw [eqT_refl] at H52
  have HR : Hid (w.rangeAt g 0 (flat (handL l))) := hr
  obtain ⟨adv, cpv, hv⟩ := h.form
  subst hv
  clear h hr
  generalize hq : l.length + 9 = q at *
  have hq' : (l.length : Int) + 9 = (q : Int) := by omega
  have hqm : (q : Int) ≤ 9223372036854775807 := by omega
  go_enter Tryz.func53, Tryz.ntmps53
  go_wp2_with fail
  refine H52.mono ?_
  rintro e w1 ⟨rfl, hb1⟩
  have hgw : g < w1.heap.size := Nat.lt_of_lt_of_le hg hb1.size
  have HR1 : Hid (w1.rangeAt g 0 (flat (handL l))) := range_below HR.out hg hb1
  go_wp2_with fail
  go_loopw [6] (fun i wr => ∃ k : Nat, l.length ≤ k ∧ k ≤ q ∧ i = .int .i64 k ∧ Below w.heap.size w wr) (fun i _ => q - (intOf i).toNat)
  case atStart => exact ⟨l.length, by omega, by omega, rfl, hb1⟩
  case round =>
    obtain ⟨k, hkl, hk, rfl, hbr⟩ := hrel
    by_cases hlt : k < q
    · have hlt' : (k : Int) < (q : Int) := by omega
      have hk0 : (0 : Int) ≤ (k : Int) := by omega
      have hkh : k < (handL l).length := by rw [handL_len]; omega
      obtain ⟨p0, p1, p2, p3, p4⟩ := term_cells (range_below HR.out hg hbr) k hkh
      have hmk : (handL l)[k] = ⟨0, ⟨#[]⟩, -700 - (k : Int) + (l.length : Int), 0, 0⟩ := by
        rw [handL_hi l k hkl hkh]
        unfold markC; congr 1; omega
      rw [hmk] at p0 p1 p2 p3 p4
      simp only [Nat.zero_add] at p0 p1 p2 p3 p4
      have hN := neq60 0 ⟨#[]⟩ (-700 - (k : Int) + (l.length : Int)) 0 0 0 ⟨#[]⟩ (-700 - (k : Int) + (l.length : Int)) 0 0
      have e1 : eqCells 0 ⟨#[]⟩ (-700 - (k : Int) + (l.length : Int)) 0 0 0 ⟨#[]⟩ (-700 - (k : Int) + (l.length : Int)) 0 0 = true := by simp [eqCells]
      rw [e1] at hN
      clear e1 hmk
      go_wp2_with fail
      go_roundw
      case rel => exact ⟨k + 1, by omega, by omega, by go_num, hbr⟩
      case measure => simp [intOf]; omega
    · have hlt' : ¬ ((k : Int) < (q : Int)) := by omega
      go_wp2_with fail
      go_ret
      exact ⟨rfl, hbr⟩
end Go.Proofs.YtljggjllijacjaaGreatDoor
