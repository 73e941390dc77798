/- Contracts of Hand and Kept. -/
import Derived.Test.YthomdgafaffphaaJQ
namespace Go.Proofs.Ythomdgafaffphaa
open Go.RowKit
attribute [local go_sem ↓] Go.wp_at_zero Go.wp_at_succ
/-- Bytes with marked room behind their end. -/
def handB (xs : List Int) : List Int := xs ++ (List.range 9).map fun (i : Nat) => (160 : Int) + (i : Int)
theorem handB_len (xs : List Int) : (handB xs).length = xs.length + 9 := by simp [handB]
theorem handB_lo (xs : List Int) (k : Nat) (h : k < xs.length) : (handB xs)[k]? = some xs[k] := by
  rw [handB, List.getElem?_append_left h, List.getElem?_eq_getElem h]
theorem handB_hi (xs : List Int) (k : Nat) (h : xs.length ≤ k) (h' : k < xs.length + 9) : (handB xs)[k]? = some ((160 : Int) + ((k - xs.length : Nat) : Int)) := by
  rw [handB, List.getElem?_append_right h, List.getElem?_map, List.getElem?_range (by omega)]; rfl
theorem made_row (w : World) (q : Nat) (hq : q ≤ maxLen) : Row (w.alloc (.cells (madeCells (Value.int .u8 0).cells (q * 1)) 5)) w.heap.size 5 (some ⟨w.heap.size, 0, none⟩) q q (u8s (List.replicate q 0)) := by
  refine ⟨by simp [u8s], Nat.le_refl _, hq, .inr ⟨w.heap.size, _, rfl, Nat.le_refl _, heap_alloc_new w _, by rw [size_madeCells]; omega, ?_⟩⟩
  rw [List.take_of_length_le (by rw [Array.length_toList, size_madeCells]; omega)]
  apply List.ext_getElem
  · simp [size_madeCells, u8s]
  · intro i h1 h2
    simp [madeCells, u8s, Value.cells, Nat.mod_one]
/-- How far Hand has come. -/
def HandTo (w : World) (B g q k : Nat) (xs : List Int) : Prop := ∃ ys : List Int, Row w B 5 (some ⟨g, 0, none⟩) q q (u8s ys) ∧ ys.length = q ∧ ys.take k = (handB xs).take k
theorem HandTo.put {w : World} {B g q k : Nat} {xs : List Int} (h : HandTo w B g q k xs) (hk : k < q) {y : Int} (hy : (handB xs)[k]? = some y) : HandTo (w.setCell ⟨g, k, none⟩ (.int .u8 y)) B g q (k + 1) xs := by
  obtain ⟨ys, h1, h2, h3⟩ := h
  refine ⟨ys.set k y, h1.set y, by simp [h2], ?_⟩
  have hkl : k < (ys.set k y).length := by simp; omega
  have hkh : k < (handB xs).length := (List.getElem?_eq_some_iff.1 hy).1
  rw [take_snoc _ k hkl, take_snoc _ k hkh, List.take_set, h3]
  have e1 : (handB xs)[k] = y := by rw [List.getElem?_eq_getElem hkh] at hy; simpa using hy
  rw [e1, List.set_eq_of_length_le (by rw [List.length_take]; omega)]
  simp
theorem HandTo.cell {w : World} {B g q k : Nat} {xs : List Int} (h : HandTo w B g q k xs) {j : Nat} (hj : j < q) : (∃ y, w.cell? ⟨g, j, none⟩ = some (.int .u8 y)) ∧ w.frozen? ⟨g, j, none⟩ = false := by
  obtain ⟨ys, h1, h2, _⟩ := h
  constructor
  · rcases h1.reads.2 with e | ⟨ad, e1, e2⟩
    · omega
    · cases e1
      have := e2 j (.int .u8 (ys[j]'(by omega))) (by rw [u8s, List.getElem?_map, List.getElem?_eq_getElem (by omega)]; rfl)
      rw [Addr.add_mid, Nat.zero_add] at this
      exact ⟨_, this⟩
  · obtain ⟨cu, h6⟩ := h1.type rfl
    exact frozen_of_row w g _ cu 5 h6
/-- What Hand gives: a block with the bytes and the marks. -/
def HandOf (w : World) (B g : Nat) (xs : List Int) : Prop := Row w B 5 (some ⟨g, 0, none⟩) (xs.length + 9) (xs.length + 9) (u8s (handB xs))
theorem HandOf.by {w : World} {B g : Nat} {xs : List Int} (h : HandOf w B g xs) (hx : ∀ x ∈ xs, Byte x) {n : Nat} (hn : xs.length = n) : By w (some ⟨g, 0, none⟩) n (n + 9) xs := by
  subst hn
  have hb := (Row.by h (fun x hx2 => by
    simp only [handB, List.mem_append, List.mem_map, List.mem_range] at hx2
    rcases hx2 with hx2 | ⟨i, hi, rfl⟩
    · exact hx x hx2
    · exact ⟨by omega, by omega⟩)).upto (k := xs.length) (by omega)
  rw [handB, List.take_append_of_le_length (Nat.le_refl _), List.take_of_length_le (Nat.le_refl _)] at hb
  exact hb
set_option maxRecDepth 100000 in
set_option maxHeartbeats 2000000 in
theorem j9 (a : Option Addr) (n c : Nat) (xs : List Int) (w : World) (h : By w a n c xs) (hn : n ≤ 100000000) :
    Calls Try.prog 9 #[.slice a n c] w fun e w' => ∃ g, e = .returned (.slice (some ⟨g, 0, none⟩) n (n + 9)) ∧ HandOf w' w.heap.size g xs ∧ Below w.heap.size w w' := by
  obtain ⟨i0, hi, hz, hs, hb⟩ := infoU8
  have HH : Hid (By w a n c xs) := h
  have HL : Hid (xs.length = n) := h.len
  obtain ⟨q, hq⟩ : ∃ q, n + 9 = q := ⟨_, rfl⟩
  have hmk : ∃ w1, (Instr.makeSlice 22 (.int .i64 ((n : Int) + 9)) (.int .i64 ((n : Int) + 9))).run Try.prog w = .ok (.slice (some ⟨w.heap.size, 0, none⟩) q q) w1 ∧ HandTo w1 w.heap.size w.heap.size q 0 xs ∧ Below w.heap.size w w1 := by
    have hr := run_make (P := Try.prog) w 22 5 i0 (.int .u8 0) Try.underlying22 hi hz .i64 .i64 ((n : Int) + 9) ((n : Int) + 9) (by omega) (Int.le_refl _) (by rw [hb]; omega) (by omega)
    rw [show ((n : Int) + 9).toNat = q by omega, hs] at hr
    exact ⟨_, hr, ⟨_, made_row w q (by unfold maxLen; omega), by simp, by simp⟩, (Below.refl _ w).alloc (Nat.le_refl _) _⟩
  obtain ⟨w1, hmr, hto, hbl⟩ := hmk
  have HTO : Hid (HandTo w1 w.heap.size w.heap.size q 0 xs ∧ Below w.heap.size w w1) := ⟨hto, hbl⟩
  obtain ⟨g, hg⟩ : ∃ g, w.heap.size = g := ⟨_, rfl⟩
  rw [hg] at hmr HTO ⊢
  have HG : Hid (w.heap.size = g) := hg
  clear h hto hbl hg
  go_enter Try.func9, Try.ntmps9
  go_wp2_with fail
  clear hmr
  go_loopw [4] (fun i wr => ∃ k : Nat, k ≤ n ∧ i = .int .i64 k ∧ Hid (HandTo wr g g q k xs ∧ Below g w wr)) (fun i _ => n - (intOf i).toNat)
  case atStart => exact ⟨0, Nat.zero_le _, rfl, HTO.out⟩
  case round =>
    obtain ⟨k, hk, rfl, hI⟩ := hrel
    have hbr : Hid (Below w.heap.size w wr) := by rw [HG.out]; exact hI.out.2
    by_cases hlt : k < n
    · have hlt1 : (k : Int) < (n : Int) := by omega
      have hlq : (k : Int) < (q : Int) := by omega
      have hk0 : (0 : Int) ≤ (k : Int) := by omega
      obtain ⟨b1, o1, rfl, hc1, hx1⟩ := (HH.out.below hbr.out).at hlt
      obtain ⟨⟨y, hcy⟩, hfy⟩ := hI.out.1.cell (j := k) (by omega)
      have HP : Hid (HandTo (wr.setCell ⟨g, k, none⟩ (.int .u8 (xs[k]'(by rw [HL.out]; exact hlt)))) g g q (k + 1) xs ∧ Below g w (wr.setCell ⟨g, k, none⟩ (.int .u8 (xs[k]'(by rw [HL.out]; exact hlt))))) := ⟨hI.out.1.put (by omega) (handB_lo xs k (by rw [HL.out]; exact hlt)), hI.out.2.setCell (Nat.le_refl _) _⟩
      clear hx1
      generalize xs[k]'(by rw [HL.out]; exact hlt) = x at *
      go_wp2_with fail
      go_roundw
      case rel => exact ⟨k + 1, by omega, by go_num, HP⟩
      case measure => simp [intOf]; omega
    · obtain rfl : k = n := by omega
      go_wp2_with fail
      go_loopw [5] (fun i wr => ∃ j : Nat, k ≤ j ∧ j ≤ q ∧ i = .int .i64 j ∧ Hid (HandTo wr g g q j xs ∧ Below g w wr)) (fun i _ => q - (intOf i).toNat)
      case atStart => exact ⟨k, Nat.le_refl _, by omega, rfl, hI.out⟩
      case round =>
        obtain ⟨j, hj, hjq, rfl, hJ⟩ := hrel
        by_cases hlt2 : j < q
        · have hlq : (j : Int) < (q : Int) := by omega
          have hj0 : (0 : Int) ≤ (j : Int) := by omega
          have hkj : (k : Int) ≤ (j : Int) := by omega
          have hjk : (j : Int) < (k : Int) + 9 := by omega
          obtain ⟨⟨y, hcy⟩, hfy⟩ := hJ.out.1.cell (j := j) hlt2
          have HP : Hid (∀ z : Int, z = 160 + ((j : Int) - (k : Int)) → HandTo (wr.setCell ⟨g, j, none⟩ (.int .u8 z)) g g q (j + 1) xs ∧ Below g w (wr.setCell ⟨g, j, none⟩ (.int .u8 z))) := fun z hz => by
            have h5 := handB_hi xs j (by rw [HL.out]; omega) (by rw [HL.out]; omega)
            rw [show (160 : Int) + ((j - xs.length : Nat) : Int) = z by rw [HL.out]; omega] at h5
            exact ⟨hJ.out.1.put hlt2 h5, hJ.out.2.setCell (Nat.le_refl _) _⟩
          go_wp2_with fail
          go_roundw
          case rel => exact ⟨j + 1, by omega, by omega, by go_num, by
            show HandTo _ _ _ _ _ _ ∧ _
            exact HP.out _ (by omega)⟩
          case measure => simp [intOf]; omega
        · obtain rfl : j = q := by omega
          have hsl := run_head (some ⟨g, 0, none⟩) j j k (by omega) wr
          go_wp2_with fail
          go_ret
          obtain ⟨ys, h1, h2, h3⟩ := hJ.out.1
          rw [hq]
          refine ⟨g, rfl, ?_, hJ.out.2⟩
          have e1 : xs.length + 9 = j := by rw [HL.out]; exact hq
          rw [List.take_of_length_le (by omega), List.take_of_length_le (by rw [handB_len]; omega)] at h3
          unfold HandOf
          rw [e1, ← h3]
          exact h1
theorem HandOf.below {w w' : World} {B g : Nat} {xs : List Int} (h : HandOf w B g xs) (hb : Below w.heap.size w w') : HandOf w' B g xs := Row.below h hb
set_option maxRecDepth 100000 in
set_option maxHeartbeats 2000000 in
theorem j22 (a : Option Addr) (n c g B : Nat) (xs : List Int) (w : World) (h : By w a n c xs) (hh : HandOf w B g xs) (hn : n ≤ 100000000) :
    Calls Try.prog 22 #[.slice (some ⟨g, 0, none⟩) n (n + 9), .slice a n c] w fun e w' => e = .returned (.bool true) ∧ ∃ d, w' = w.drewN d := by
  have HL : Hid (xs.length = n) := h.len
  have HH : Hid (HandOf w B g xs) := hh
  have H15 := j15 (some ⟨g, 0, none⟩) a n (n + 9) n c xs xs w (hh.by h.rng h.len) h (by omega) (by omega)
  have hsb : sameB xs xs = true := by simp [sameB]
  rw [hsb] at H15
  clear h hh hsb
  go_enter Try.func22, Try.ntmps22
  go_wp2_with fail
  refine H15.mono ?_
  rintro e w1 ⟨rfl, d, hw1⟩
  have HW1 : Hid (w1 = w.drewN d) := hw1
  have HC : Hid (∀ j, n ≤ j → j < n + 9 → w1.cell? ⟨g, j, none⟩ = some (.int .u8 (160 + ((j - n : Nat) : Int)))) := fun j h1 h2 => by
    have h5 := handB_hi xs j (by rw [HL.out]; omega) (by rw [HL.out]; omega)
    rw [HL.out] at h5
    obtain ⟨g', e1, e2⟩ : ∃ g', some (⟨g, 0, none⟩ : Addr) = some ⟨g', 0, none⟩ ∧ w.cell? ⟨g', j, none⟩ = some (.int .u8 (160 + ((j - n : Nat) : Int))) := by
      rcases HH.out.reads.2 with e | ⟨ad, e1, e2⟩
      · omega
      · cases e1
        have := e2 j _ (by rw [u8s, List.getElem?_map, h5]; rfl)
        rw [Addr.add_mid, Nat.zero_add] at this
        exact ⟨g, rfl, this⟩
    cases e1
    rw [hw1]
    exact e2
  obtain ⟨q, hq⟩ : ∃ q, n + 9 = q := ⟨_, rfl⟩
  have hsl : (Instr.slice 22 (.slice (some ⟨g, 0, none⟩) n (n + 9)) none (some (.int .i64 ((n : Int) + 9))) none).run Try.prog w1 = .ok (.slice (some ⟨g, 0, none⟩) q q) w1 := by
    have := run_head (some ⟨g, 0, none⟩) n (n + 9) (n + 9) (Nat.le_refl _) w1
    rw [show (((n + 9 : Nat)) : Int) = (n : Int) + 9 by omega] at this
    rw [this, hq]
  rw [hq] at HC
  clear hw1 H15
  go_wp2_with fail
  clear hsl
  go_loop [6] (fun v => ∃ j : Nat, n ≤ j ∧ j ≤ q ∧ v = .int .i64 j) (fun v => q - (intOf v).toNat)
  case atStart => exact ⟨n, Nat.le_refl _, by omega, rfl⟩
  case round =>
    obtain ⟨j, hj, hjq, rfl⟩ := hrel
    by_cases hlt2 : j < q
    · have hlq : (j : Int) < (q : Int) := by omega
      have hj0 : (0 : Int) ≤ (j : Int) := by omega
      have hcj := HC.out j hj hlt2
      have hcj2 : w1.cell? ⟨g, j, none⟩ = some (.int .u8 (160 + (j : Int) - (n : Int))) := by rw [hcj]; congr 2; omega
      have hb1 : (0 : Int) ≤ 160 + (j : Int) - (n : Int) := by omega
      have hb2 : 160 + (j : Int) - (n : Int) < 256 := by omega
      clear hcj
      go_wp2_with fail
      go_round
      case rel => exact ⟨j + 1, by omega, by omega, by go_num⟩
      case measure => simp [intOf]; omega
    · obtain rfl : j = q := by omega
      go_wp2_with fail
      go_ret
      exact ⟨rfl, d, HW1.out⟩
end Go.Proofs.Ythomdgafaffphaa
