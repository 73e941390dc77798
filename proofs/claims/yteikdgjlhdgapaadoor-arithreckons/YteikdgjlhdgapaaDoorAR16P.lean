/- Contracts of may, SameInts of like rows, HandInts. -/
import Derived.Test.YteikdgjlhdgapaaDoorQ16
import Derived.BigQuiet
namespace Go.Proofs.YteikdgjlhdgapaaDoor
open Go.RowKit
attribute [local go_sem ↓] Go.wp_at_zero Go.wp_at_succ
set_option maxRecDepth 100000 in
theorem h38 (x : Int) (w : World) : Calls Tryd.prog 38 #[.int .i64 x] w fun e w' => e = .returned (.bool (!greatB x)) ∧ w' = w := by
  by_cases h1 : x < -2147483648
  · have he : greatB x = true := by simp [greatB, h1]
    have h1' : ¬ (-2147483648 ≤ x) := by omega
    rw [he]
    go_enter Tryd.func38, Tryd.ntmps38
    go_wp2_with fail
    go_ret
    exact ⟨rfl, rfl⟩
  · have h1' : -2147483648 ≤ x := by omega
    by_cases h2 : 2147483648 < x
    · have he : greatB x = true := by simp [greatB, h2]
      have h2' : ¬ (x ≤ 2147483648) := by omega
      rw [he]
      go_enter Tryd.func38, Tryd.ntmps38
      go_wp2_with fail
      go_ret
      exact ⟨rfl, rfl⟩
    · have he : greatB x = false := by simp [greatB, h1, h2]
      have h2' : x ≤ 2147483648 := by omega
      rw [he]
      go_enter Tryd.func38, Tryd.ntmps38
      go_wp2_with fail
      go_ret
      exact ⟨rfl, rfl⟩
set_option maxRecDepth 100000 in
set_option maxHeartbeats 1000000 in
theorem h40 (ns : List Int) (v u : Value) (w : World) (h : IntsR w v ns) (hu : IntsR w u ns) : Calls Tryd.prog 40 #[v, u] w fun e w' => e = .returned (.bool true) ∧ Below w.heap.size w w' := by
  have HR : Hid (IntsR w v ns) := h
  have HU : Hid (IntsR w u ns) := hu
  have hm := h.1
  unfold maxLen at hm
  obtain ⟨ad, cap, hv⟩ := h.form
  obtain ⟨ad2, cap2, hv2⟩ := hu.form
  subst hv hv2
  clear h hu
  have hll : (((ns.length : Int)) != (ns.length : Int)) = false := by simp
  go_enter Tryd.func40, Tryd.ntmps40
  go_wp2_with fail
  go_loopw [5] (fun i wr => ∃ k : Nat, k ≤ ns.length ∧ i = .int .i64 k ∧ Below w.heap.size w wr) (fun i _ => ns.length - (intOf i).toNat)
  case atStart => exact ⟨0, by omega, rfl, Below.refl _ _⟩
  case round =>
    obtain ⟨k, hk, rfl, hbr⟩ := hrel
    by_cases hlt : k < ns.length
    · have hlt' : (k : Int) < (ns.length : Int) := by omega
      have hk0 : (0 : Int) ≤ (k : Int) := by omega
      obtain ⟨b, o, cp, hu, c0, _⟩ := (HR.out.below hbr).at k hlt
      obtain ⟨b2, o2, cp2, hu2, c2, _⟩ := (HU.out.below hbr).at k hlt
      simp only [Value.slice.injEq] at hu hu2
      obtain ⟨rfl, _, rfl⟩ := hu
      obtain ⟨rfl, _, rfl⟩ := hu2
      generalize ns[k] = x at *
      have hxx : (x != x) = false := by simp
      go_wp2_with fail
      go_quiet (fail)
      go_wp2_with fail
      go_roundw
      case rel => exact ⟨k + 1, by omega, by go_num, below_drewN hbr nq⟩
      case measure => simp [intOf]; omega
    · have hlt' : ¬ ((k : Int) < (ns.length : Int)) := by omega
      go_wp2_with fail
      go_ret
      exact ⟨rfl, hbr⟩
def markI (j : Nat) : Int := -700 - (j : Int)
def handI (l : List Int) : List Int := l ++ (List.range 9).map markI
theorem handI_len (l : List Int) : (handI l).length = l.length + 9 := by simp [handI]
theorem handI_lo (l : List Int) (k : Nat) (h : k < l.length) (h' : k < (handI l).length) : (handI l)[k] = l[k] := by
  simp [handI, h]
theorem handI_hi (l : List Int) (k : Nat) (h : l.length ≤ k) (h' : k < (handI l).length) : (handI l)[k] = markI (k - l.length) := by
  simp [handI, List.getElem_append, Nat.not_lt.2 h]
def HandIAt (l : List Int) (g q k : Nat) (w : World) : Prop := ∃ xs : List Value, w.ownsRow g 3 1 (.slice (some ⟨g, 0, none⟩) q q) q xs ∧ xs.take k = ((handI l).take k).map (Value.int .i64)
theorem HandIAt.dst {l : List Int} {g q k : Nat} {w : World} (h : HandIAt l g q k w) (i : Nat) (hi : i < q) : ∃ y, w.cell? ⟨g, i, none⟩ = some y := by
  obtain ⟨xs, h, _⟩ := h
  rw [h.cellAt i (by omega), List.getElem?_eq_getElem (by rw [h.1]; omega)]
  exact ⟨_, rfl⟩
theorem HandIAt.fz {l : List Int} {g q k : Nat} {w : World} (h : HandIAt l g q k w) (j : Nat) : w.frozen? ⟨g, j, none⟩ = false := by
  obtain ⟨xs, h, _⟩ := h
  exact h.frozenAt j
theorem HandIAt.put {l : List Int} {g q k : Nat} {w : World} (h : HandIAt l g q k w) (hq : l.length + 9 = q) (hk : k < q) (c : Int) (hc : ∀ h', (handI l)[k]'h' = c) (w0 : World) (B : Nat) (hb : Below B w0 w) (hBg : B ≤ g) (hBw : B ≤ w.heap.size) :
    HandIAt l g q (k + 1) (w.setCell ⟨g, k, none⟩ (.int .i64 c)) ∧ Below B w0 (w.setCell ⟨g, k, none⟩ (.int .i64 c)) := by
  obtain ⟨xs, h, ht⟩ := h
  obtain ⟨h1, g1⟩ := h.stored k (.int .i64 c)
  have hr : ∀ x, some g = some x → B ≤ x := fun x hx => by cases hx; exact hBg
  refine ⟨⟨_, h1, ?_⟩, hb.grown g1 hBw hr⟩
  have hl := h.1
  have hkl : k < (handI l).length := by rw [handI_len]; omega
  rw [List.take_succ_eq_append_getElem hkl, List.map_append, ← ht, hc hkl]
  have hkx : k < xs.length := by omega
  rw [List.take_succ_eq_append_getElem (by simpa using hkx)]
  simp [List.take_set_of_le]
theorem HandIAt.range {l : List Int} {g q : Nat} {w : World} (h : HandIAt l g q q w) (hq : l.length + 9 = q) : w.rangeAt g 0 ((handI l).map (Value.int .i64)) ∧ g < w.heap.size := by
  obtain ⟨xs, h, ht⟩ := h
  have hl := h.1
  rw [List.take_of_length_le (by omega), List.take_of_length_le (by rw [handI_len]; omega)] at ht
  subst ht
  refine ⟨fun j v hv => ?_, (h.lt g rfl).2⟩
  have hj := (List.getElem?_eq_some_iff.1 hv).1
  rw [Nat.zero_add, h.cellAt j (by omega)]
  exact hv
set_option maxRecDepth 100000 in
set_option maxHeartbeats 2000000 in
theorem h16 (l : List Int) (v : Value) (w : World) (h : IntsR w v l) (hB : 8 * l.length ≤ 140737488355328) :
    Calls Tryd.prog 16 #[v] w fun e w' => ∃ g, e = .returned (.slice (some ⟨g, 0, none⟩) l.length (l.length + 9)) ∧ w'.rangeAt g 0 ((handI l).map (Value.int .i64)) ∧ g < w'.heap.size ∧ Below w.heap.size w w' := by
  obtain ⟨i0, hi, hz0, hs0, hby⟩ := jnfo3
  have HT : Hid (IntsR w v l) := h
  obtain ⟨adv, cpv, hv⟩ := h.form
  subst hv
  clear h
  generalize hq : l.length + 9 = q at *
  go_enter Tryd.func16, Tryd.ntmps16
  go_wp2_with (at_make; go_loud (refine wpList_make_full _ rfl _ _ 43 rfl w.heap.size 3 i0 (.int .i64 0) 1 Tryd.underlying43 hi hz0 hs0 .i64 .i64 _ _ q rfl rfl (by go_num) (by go_num) (by rw [hby]; omega) (by unfold maxLen; omega) (Nat.le_refl _) ?_))
  intro w1 hown1 hgrow1
  have hbw1 : Hid (Below w.heap.size w w1) := (Below.refl _ _).grown hgrow1 (Nat.le_refl _) (fun g hg => by cases hg)
  have HO1 : Hid (HandIAt l w.heap.size q 0 w1) := ⟨_, hown1, by simp⟩
  clear hown1 hgrow1
  have hq' : (l.length : Int) ≤ (q : Int) := by omega
  have hqm : q ≤ 9223372036854775807 := by omega
  go_wp2_with fail
  go_loopw [4] (fun i wr => ∃ k : Nat, k ≤ l.length ∧ i = .int .i64 k ∧ Hid (HandIAt l w.heap.size q k wr) ∧ Below w.heap.size w wr) (fun i _ => l.length - (intOf i).toNat)
  case atStart => exact ⟨0, by omega, rfl, HO1, hbw1.out⟩
  case round =>
    obtain ⟨k, hk, rfl, HO, hbr⟩ := hrel
    by_cases hlt : k < l.length
    · have hlt' : (k : Int) < (l.length : Int) := by omega
      have hltq : (k : Int) < (q : Int) := by omega
      have hk0 : (0 : Int) ≤ (k : Int) := by omega
      obtain ⟨b, o, cp, hu, c0, _⟩ := (HT.out.below hbr).at k hlt
      simp only [Value.slice.injEq] at hu
      obtain ⟨rfl, _, rfl⟩ := hu
      obtain ⟨y0, d0⟩ := HO.out.dst k (by omega)
      have fz := HO.out.fz
      have HP : Hid (_ ∧ _) := HO.out.put hq (by omega) l[k] (fun h' => handI_lo l k hlt h') w w.heap.size hbr (Nat.le_refl _) hbr.size
      go_wp2_with fail
      go_roundw
      case rel => exact ⟨k + 1, by omega, by go_num, HP.out.1, HP.out.2⟩
      case measure => simp [intOf]; omega
    · have hlt' : ¬ ((k : Int) < (l.length : Int)) := by omega
      have hkl : k = l.length := by omega
      clear hlt hlt' hk
      subst hkl
      go_wp2_with fail
      go_loopw [5] (fun i wr => ∃ k : Nat, l.length ≤ k ∧ k ≤ q ∧ i = .int .i64 k ∧ Hid (HandIAt l w.heap.size q k wr) ∧ Below w.heap.size w wr) (fun i _ => q - (intOf i).toNat)
      case atStart => exact ⟨l.length, by omega, by omega, rfl, HO, hbr⟩
      case round =>
        obtain ⟨k, hkl, hk, rfl, HO, hbr⟩ := hrel
        by_cases hlt : k < q
        · have hlt' : (k : Int) < (q : Int) := by omega
          have hk0 : (0 : Int) ≤ (k : Int) := by omega
          obtain ⟨y0, d0⟩ := HO.out.dst k hlt
          have fz := HO.out.fz
          have hmk : markI (k - l.length) = -700 - (k : Int) + (l.length : Int) := by
            unfold markI; omega
          have HP : Hid (_ ∧ _) := HO.out.put hq hlt _ (fun h' => (handI_hi l k hkl h').trans hmk) w w.heap.size hbr (Nat.le_refl _) hbr.size
          clear hmk
          go_wp2_with fail
          go_roundw
          case rel => exact ⟨k + 1, by omega, by omega, by go_num, HP.out.1, HP.out.2⟩
          case measure => simp [intOf]; omega
        · have hlt' : ¬ ((k : Int) < (q : Int)) := by omega
          have hl0 : (0 : Int) ≤ (l.length : Int) := by omega
          have hkq : k = q := by omega
          clear hlt hlt' hk
          obtain ⟨hR, hG⟩ := (hkq ▸ HO.out : HandIAt l w.heap.size q q wr).range hq
          go_wp2_with fail
          go_ret
          exact ⟨w.heap.size, rfl, hR, hG, hbr⟩
end Go.Proofs.YteikdgjlhdgapaaDoor
