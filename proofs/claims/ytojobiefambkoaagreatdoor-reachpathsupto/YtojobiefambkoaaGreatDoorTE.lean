/- Contracts of HandNames and KeptNames: names with marked room behind. -/
import Derived.Test.YtojobiefambkoaaGreatDoorXL
import Derived.Test.YtojobiefambkoaaGreatDoorFF
namespace Go.Proofs.YtojobiefambkoaaGreatDoor
open Go.RowKit
attribute [local go_sem ↓] Go.wp_at_zero Go.wp_at_succ
def markN (j : Nat) : Nm := (-700 - (j : Int), 0)
def handN (l : List Nm) : List Nm := l ++ (List.range 9).map markN
theorem handN_len (l : List Nm) : (handN l).length = l.length + 9 := by simp [handN]
theorem handN_lo (l : List Nm) (k : Nat) (h : k < l.length) (h' : k < (handN l).length) : (handN l)[k] = l[k] := by
  simp [handN, h]
theorem handN_hi (l : List Nm) (k : Nat) (h : l.length ≤ k) (h' : k < (handN l).length) : (handN l)[k] = markN (k - l.length) := by
  simp [handN, List.getElem_append, Nat.not_lt.2 h]
def HandAtN (l : List Nm) (g q k : Nat) (w : World) : Prop := ∃ xs : List Value, w.ownsRow g 49 2 (.slice (some ⟨g, 0, none⟩) q q) q xs ∧ xs.take (2 * k) = flatN ((handN l).take k)
theorem HandAtN.dst {l : List Nm} {g q k : Nat} {w : World} (h : HandAtN l g q k w) (i : Nat) (hi : i < q) : (∃ y, w.cell? ⟨g, i * 2, none⟩ = some y) ∧ (∃ y, w.cell? ⟨g, i * 2 + 1, none⟩ = some y) := by
  obtain ⟨xs, h, _⟩ := h
  have hx : ∀ j, j < q * 2 → ∃ y, w.cell? ⟨g, j, none⟩ = some y := fun j hj => by
    rw [h.cellAt j hj, List.getElem?_eq_getElem (by rw [h.1]; exact hj)]
    exact ⟨_, rfl⟩
  exact ⟨hx _ (by omega), hx _ (by omega)⟩
theorem HandAtN.fz {l : List Nm} {g q k : Nat} {w : World} (h : HandAtN l g q k w) (j : Nat) : w.frozen? ⟨g, j, none⟩ = false := by
  obtain ⟨xs, h, _⟩ := h
  exact h.frozenAt j
theorem set2 (xs : List Value) (n : Nat) (a b : Value) (h : n + 2 ≤ xs.length) : ((xs.set n a).set (n + 1) b).take (n + 2) = xs.take n ++ [a, b] := by
  have hp : (xs.take n).length = n := by rw [List.length_take]; omega
  have hd : (xs.drop n).length = xs.length - n := List.length_drop
  have hx := (List.take_append_drop n xs).symm
  generalize xs.take n = p at *
  generalize xs.drop n = r at *
  subst hx
  match r, hd with
  | [], hd => simp at hd; simp at h; omega
  | [_], hd => simp at h; omega
  | x0 :: x1 :: r, _ =>
    subst hp
    simp [List.take_append]
    exact List.take_of_length_le (by omega)
theorem HandAtN.put {l : List Nm} {g q k : Nat} {w : World} (h : HandAtN l g q k w) (hq : l.length + 9 = q) (hk : k < q) (c : Nm) (hc : ∀ h', (handN l)[k]'h' = c) (w0 : World) (B : Nat) (hb : Below B w0 w) (hBg : B ≤ g) (hBw : B ≤ w.heap.size) :
    HandAtN l g q (k + 1) ((w.setCell ⟨g, k * 2, none⟩ (.int .i64 c.1)).setCell ⟨g, k * 2 + 1, none⟩ (.int .i64 c.2)) ∧ Below B w0 ((w.setCell ⟨g, k * 2, none⟩ (.int .i64 c.1)).setCell ⟨g, k * 2 + 1, none⟩ (.int .i64 c.2)) := by
  obtain ⟨xs, h, ht⟩ := h
  obtain ⟨h1, g1⟩ := h.stored (k * 2) (.int .i64 c.1)
  obtain ⟨h2, g2⟩ := h1.stored (k * 2 + 1) (.int .i64 c.2)
  have hr : ∀ x, some g = some x → B ≤ x := fun x hx => by cases hx; exact hBg
  have b1 := hb.grown g1 hBw hr
  have z1 := g1.size
  have b2 := b1.grown g2 (by omega) hr
  refine ⟨⟨_, h2, ?_⟩, b2⟩
  have hl := h.1
  have e5 : 2 * (k + 1) = k * 2 + 2 := by omega
  rw [e5, set2 _ _ _ _ (by omega), show k * 2 = 2 * k by omega, ht]
  have hkl : k < (handN l).length := by rw [handN_len]; omega
  rw [List.take_succ_eq_append_getElem hkl, flatN_append, hc hkl]
  simp [flatN, nmV]
theorem HandAtN.range {l : List Nm} {g q : Nat} {w : World} (h : HandAtN l g q q w) (hq : l.length + 9 = q) : w.rangeAt g 0 (flatN (handN l)) ∧ g < w.heap.size := by
  obtain ⟨xs, h, ht⟩ := h
  have hl := h.1
  rw [List.take_of_length_le (by omega), List.take_of_length_le (by rw [handN_len]; omega)] at ht
  subst ht
  refine ⟨fun j v hv => ?_, (h.lt g rfl).2⟩
  have hj := (List.getElem?_eq_some_iff.1 hv).1
  rw [Nat.zero_add, h.cellAt j (by omega)]
  exact hv
set_option maxRecDepth 100000 in
set_option maxHeartbeats 2000000 in
theorem z6h (l : List Nm) (a : Option Addr) (c : Nat) (w : World) (h : NamesAt w (.slice a l.length c) l) (hB : l.length ≤ 1000000000) :
    Calls Tryz.prog 6 #[.slice a l.length c] w fun e w' => ∃ g, e = .returned (.slice (some ⟨g, 0, none⟩) l.length (l.length + 9)) ∧ w'.rangeAt g 0 (flatN (handN l)) ∧ g < w'.heap.size ∧ Below w.heap.size w w' := by
  obtain ⟨i0, hi, hz0, hs0, hby⟩ := info23
  have HT : Hid (NamesAt w (.slice a l.length c) l) := h
  clear h
  generalize hq : l.length + 9 = q at *
  go_enter Tryz.func6, Tryz.ntmps6
  go_wp2_with (at_make; go_loud (refine wpList_make_full _ rfl _ _ 23 rfl w.heap.size 49 i0 (.agg #[.int .i64 0, .int .i64 0]) 2 Tryz.underlying23 hi hz0 hs0 .i64 .i64 _ _ q rfl rfl (by go_num) (by go_num) (by rw [hby]; omega) (by unfold maxLen; omega) (Nat.le_refl _) ?_))
  intro w1 hown1 hgrow1
  have hbw1 : Hid (Below w.heap.size w w1) := (Below.refl _ _).grown hgrow1 (Nat.le_refl _) (fun g hg => by cases hg)
  have HO1 : Hid (HandAtN l w.heap.size q 0 w1) := ⟨_, hown1, by simp [flatN]⟩
  clear hown1 hgrow1
  have hq' : (l.length : Int) ≤ (q : Int) := by omega
  have hqm : q ≤ 9223372036854775807 := by omega
  go_wp2_with fail
  go_loopw [4] (fun i wr => ∃ k : Nat, k ≤ l.length ∧ i = .int .i64 k ∧ Hid (HandAtN l w.heap.size q k wr) ∧ Below w.heap.size w wr) (fun i _ => l.length - (intOf i).toNat)
  case atStart => exact ⟨0, by omega, rfl, HO1, hbw1.out⟩
  case round =>
    obtain ⟨k, hk, rfl, HO, hbr⟩ := hrel
    by_cases hlt : k < l.length
    · have hlt' : (k : Int) < (l.length : Int) := by omega
      have hltq : (k : Int) < (q : Int) := by omega
      have hk0 : (0 : Int) ≤ (k : Int) := by omega
      obtain ⟨b, o, hx, rfl, hbl, p0, p1⟩ := names_at (HT.out.below hbr) hlt
      obtain ⟨⟨y0, d0⟩, ⟨y1, d1⟩⟩ := HO.out.dst k (by omega)
      have fz := HO.out.fz
      have HP0 := HO.out.put hq (by omega) l[k] (fun h' => handN_lo l k hlt h') w w.heap.size hbr (Nat.le_refl _) hbr.size
      have HP : Hid (_ ∧ _) := HP0
      clear HP0
      go_wp2_with fail
      go_roundw
      case rel => exact ⟨k + 1, by omega, by go_num, HP.out.1, HP.out.2⟩
      case measure => simp [intOf]; omega
    · have hlt' : ¬ ((k : Int) < (l.length : Int)) := by omega
      have hkl : k = l.length := by omega
      clear hlt hlt' hk
      subst hkl
      go_wp2_with fail
      go_loopw [5] (fun i wr => ∃ k : Nat, l.length ≤ k ∧ k ≤ q ∧ i = .int .i64 k ∧ Hid (HandAtN l w.heap.size q k wr) ∧ Below w.heap.size w wr) (fun i _ => q - (intOf i).toNat)
      case atStart => exact ⟨l.length, by omega, by omega, rfl, HO, hbr⟩
      case round =>
        obtain ⟨k, hkl, hk, rfl, HO, hbr⟩ := hrel
        by_cases hlt : k < q
        · have hlt' : (k : Int) < (q : Int) := by omega
          have hk0 : (0 : Int) ≤ (k : Int) := by omega
          obtain ⟨⟨y0, d0⟩, ⟨y1, d1⟩⟩ := HO.out.dst k hlt
          have fz := HO.out.fz
          have hmk : markN (k - l.length) = (-700 - (k : Int) + (l.length : Int), 0) := by
            unfold markN; congr 1; omega
          have HP0 := HO.out.put hq hlt _ (fun h' => (handN_hi l k hkl h').trans hmk) w w.heap.size hbr (Nat.le_refl _) hbr.size
          have HP : Hid (_ ∧ _) := HP0
          clear HP0 hmk
          go_wp2_with fail
          go_roundw
          case rel => exact ⟨k + 1, by omega, by omega, by go_num, HP.out.1, HP.out.2⟩
          case measure => simp [intOf]; omega
        · have hlt' : ¬ ((k : Int) < (q : Int)) := by omega
          have hl0 : (0 : Int) ≤ (l.length : Int) := by omega
          have hkq : k = q := by omega
          clear hlt hlt' hk
          obtain ⟨hR, hG⟩ := (hkq ▸ HO.out : HandAtN l w.heap.size q q wr).range hq
          go_wp2_with fail
          go_ret
          exact ⟨w.heap.size, rfl, hR, hG, hbr⟩
theorem handN_at {l : List Nm} {w : World} {g : Nat} (hr : w.rangeAt g 0 (flatN (handN l))) (hg : g < w.heap.size) (hB : l.length ≤ 1000000000) :
    NamesAt w (.slice (some ⟨g, 0, none⟩) l.length (l.length + 9)) l := by
  refine ⟨by unfold maxLen; omega, .inr ⟨g, 0, l.length + 9, rfl, fun j v hv => hr j v ?_, hg⟩⟩
  unfold handN
  rw [flatN_append, List.getElem?_append_left (List.getElem?_eq_some_iff.1 hv).1]
  exact hv
set_option maxRecDepth 100000 in
set_option maxHeartbeats 2000000 in
theorem z18h (l : List Nm) (a : Option Addr) (c : Nat) (g : Nat) (w : World) (h : NamesAt w (.slice a l.length c) l) (hr : w.rangeAt g 0 (flatN (handN l))) (hg : g < w.heap.size) (hB : l.length ≤ 1000000000) :
    Calls Tryz.prog 18 #[.slice (some ⟨g, 0, none⟩) l.length (l.length + 9), .slice a l.length c] w fun e w' => e = .returned (.bool true) ∧ Below w.heap.size w w' := by
  have H52 := f10 l l _ _ w (handN_at hr hg hB) h
  rw [show eqNs l l = true by simp [eqNs]] at H52
  have HR : Hid (w.rangeAt g 0 (flatN (handN l))) := hr
  clear h hr
  generalize hq : l.length + 9 = q at *
  have hq' : (l.length : Int) + 9 = (q : Int) := by omega
  have hqm : (q : Int) ≤ 9223372036854775807 := by omega
  go_enter Tryz.func18, Tryz.ntmps18
  go_wp2_with fail
  refine H52.mono ?_
  rintro e w1 ⟨rfl, hb1⟩
  have hgw : g < w1.heap.size := Nat.lt_of_lt_of_le hg hb1.size
  go_wp2_with fail
  go_loopw [6] (fun i wr => ∃ k : Nat, l.length ≤ k ∧ k ≤ q ∧ i = .int .i64 k ∧ Below w.heap.size w wr) (fun i _ => q - (intOf i).toNat)
  case atStart => exact ⟨l.length, by omega, by omega, rfl, hb1⟩
  case round =>
    obtain ⟨k, hkl, hk, rfl, hbr⟩ := hrel
    by_cases hlt : k < q
    · have hlt' : (k : Int) < (q : Int) := by omega
      have hk0 : (0 : Int) ≤ (k : Int) := by omega
      have hkh : k < (handN l).length := by rw [handN_len]; omega
      obtain ⟨p0, p1⟩ := name_cells (range_below HR.out hg hbr) k hkh
      have hmk : (handN l)[k] = (-700 - (k : Int) + (l.length : Int), 0) := by
        rw [handN_hi l k hkl hkh]
        unfold markN; congr 1; omega
      rw [hmk] at p0 p1
      simp only [Nat.zero_add] at p0 p1
      have hN := neq23 (-700 - (k : Int) + (l.length : Int)) 0 (-700 - (k : Int) + (l.length : Int)) 0
      rw [show ((-700 - (k : Int) + (l.length : Int)) == (-700 - (k : Int) + (l.length : Int)) && (0 : Int) == 0) = true by simp] at hN
      clear hmk
      go_wp2_with fail
      go_roundw
      case rel => exact ⟨k + 1, by omega, by omega, by go_num, hbr⟩
      case measure => simp [intOf]; omega
    · have hlt' : ¬ ((k : Int) < (q : Int)) := by omega
      go_wp2_with fail
      go_ret
      exact ⟨rfl, hbr⟩
end Go.Proofs.YtojobiefambkoaaGreatDoor
