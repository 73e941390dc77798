/- Contracts of write, Cut and Append. -/
import Derived.Test.YtopljcabcknaeaaJG
namespace Go.Proofs.Ytopljcabcknaeaa
open Go.RowKit
attribute [local go_sem ↓] Go.wp_at_zero Go.wp_at_succ
/-- A log after something was written. -/
def Wrote (lb B : Nat) (s : Sl) (w : World) (xs : List Int) (w' : World) : Prop :=
  ∃ s', LogAt w' lb B s' xs ∧ KeepL lb s.a w w' ∧ (s'.a = s.a ∨ ∃ g, s'.a = some ⟨g, 0, none⟩ ∧ w.heap.size ≤ g)
theorem wrote_mid {w w3 w4 : World} {lb B m q : Nat} {s : Sl} {xs ys : List Int} {a' : Option Addr} {c' : Nat} (h : LogAt w lb B s xs) (hb : Below w.heap.size w w3)
    (hr : Row w4 B 5 a' (s.n + m) c' (u8s xs ++ u8s ys)) (hg : w3.grownBy w4 (blk s.a)) (hor : a' = s.a ∨ ∃ g, a' = some ⟨g, 0, none⟩ ∧ q ≤ g ∧ w3.grownBy w4 none) (hq : w.heap.size ≤ q) :
    w4.heap[lb]? = some (.cells #[.slice s.a s.n s.c, .int .i64 (recs 0 xs).length, .int .i64 (lastE (recs 0 xs))] 46 (0, 0)) ∧ blk a' ≠ some lb ∧
      (∀ k, k < w.heap.size → blk s.a ≠ some k → w4.heap[k]? = w.heap[k]?) ∧ (a' = s.a ∨ ∃ g, a' = some ⟨g, 0, none⟩ ∧ w.heap.size ≤ g) := by
  have h3 := h.below hb
  have e1 : w4.heap[lb]? = some (.cells #[.slice s.a s.n s.c, .int .i64 (recs 0 xs).length, .int .i64 (lastE (recs 0 xs))] 46 (0, 0)) := (hg.block lb h3.lt (Ne.symm h.ne)).trans h3.blk
  refine ⟨e1, fun e => ?_, fun k hk hne => ?_, ?_⟩
  · obtain ⟨cu, h5⟩ := hr.type e
    rw [e1] at h5; cases h5
  · exact (hg.block k (Nat.lt_of_lt_of_le hk hb.size) (Ne.symm hne)).trans (hb.block k hk)
  · rcases hor with e | ⟨g, e, hl, _⟩
    · exact .inl e
    · exact .inr ⟨g, e, by omega⟩
set_option maxRecDepth 100000 in
set_option maxHeartbeats 4000000 in
theorem j57_part (lb B rb rc q : Nat) (s : Sl) (xs p : List Int) (w : World) (h : LogAt w lb B s xs) (hB : B ≤ w.heap.size) (hf : lastE (recs 0 xs) = xs.length) (hp : p.length ≤ 131072)
    (hr : By w (some ⟨rb, 0, none⟩) (8 + p.length) rc (recI p)) (hq : q < 8 + p.length) (hn : s.n + (8 + p.length) ≤ 140737488355328) :
    Calls Try.prog 25 #[.pointer (some ⟨lb, 0, none⟩), .slice (some ⟨rb, 0, none⟩) (8 + p.length) rc, .int .i64 q] w fun e w' => e = .returned (.bool false) ∧ Wrote lb B s w (xs ++ (recI p).take q) w' := by
  obtain ⟨i0, hi, hz, hs, hb0⟩ := infoU8
  have HH : Hid (LogAt w lb B s xs) := h
  obtain ⟨c0, c1, c2, f0, f1, f2⟩ := h.cells
  have hlt := h.lt
  have hcap := hr.cap
  have HP : Hid (By w (some ⟨rb, 0, none⟩) q q ((recI p).take q)) := by
    have := hr.part rfl (lo := 0) (m := q) (c' := q) (by omega) (Nat.le_refl _)
    rw [List.drop_zero] at this
    exact this
  have HRC : Hid (recs 0 (xs ++ (recI p).take q) = recs 0 xs) := recs_cut h.rng hf hq
  have HRG : Hid (∀ x ∈ xs ++ (recI p).take q, Byte x) := fun x hx => by
    rcases List.mem_append.1 hx with hx | hx
    · exact h.rng x hx
    · exact recI_byte hp (fun y hy => hr.rng y (by simp [recI, hy])) x (List.mem_of_mem_take hx)
  have HNE : Hid (blk s.a ≠ some lb) := h.ne
  clear h hr
  obtain ⟨sa, sn, sc⟩ := s
  simp only at *
  obtain ⟨rl, hrl⟩ : ∃ rl, 8 + p.length = rl := ⟨_, rfl⟩
  rw [hrl] at hq hcap hn ⊢
  have hq1 : (q : Int) < (rl : Int) := by omega
  have hq0 : (0 : Int) ≤ (q : Int) := by omega
  have hq2 : (q : Int) ≤ (rc : Int) := by omega
  have hmn : min (q : Int) (rl : Int) = (q : Int) := by omega
  clear hf hrl hp
  go_enter Try.func25, Try.ntmps25
  have HW : Hid (∀ (a' : Option Addr) (c' : Nat) (w4 : World), Row w4 B 5 a' (sn + q) c' (u8s xs ++ u8s ((recI p).take q)) → w.drew.grownBy w4 (blk sa) → (a' = sa ∨ ∃ g, a' = some ⟨g, 0, none⟩ ∧ w.drew.heap.size ≤ g ∧ w.drew.grownBy w4 none) →
      (w4.cell? ⟨lb, 0, none⟩ = some (.slice sa sn sc) ∧ w4.frozen? ⟨lb, 0, none⟩ = false) ∧ Wrote lb B ⟨sa, sn, sc⟩ w (xs ++ (recI p).take q) (w4.setCell ⟨lb, 0, none⟩ (.slice a' (sn + q) c'))) := fun a' c' w4 h1 h2 h3 => by
    obtain ⟨e1, e2, e3, e4⟩ := wrote_mid (q := w.drew.heap.size) HH.out (Below.drew (Below.refl _ _)) h1 h2 h3 (Nat.le_refl _)
    refine ⟨⟨by rw [cell_of_row w4 lb 0 _ 46 (0, 0) e1]; rfl, frozen_of_row w4 lb 0 _ 46 e1⟩, ⟨a', sn + q, c'⟩, ⟨?_, ?_, HRG.out⟩, ⟨h2.os, h2.tape, h2.output, by have := h2.size; simpa using this, fun k hk h5 h6 => (set_far h5).trans (e3 k hk h6)⟩, e4⟩
    · rw [HRC.out, heap_setCell_same w4 lb 0 _ 46 _ e1]; rfl
    · rw [u8s_append]; exact h1.other _ e2
  go_wp2_with fail
  go_region_law
    ((refine step_append_row _ (by rfl) _ _ _ (by rfl) B 5 i0 _ 1 Try.underlying29 hi hz hs hb0 rfl sa sn sc (u8s xs) (by rfl) (HH.out.row.keeps fun _ _ => rfl) (some ⟨rb, 0, none⟩) q q (u8s ((recI p).take q)) (by rfl) (HP.out.below (Below.drew (Below.refl _ _))).reads (u8s_one _) (fun e => by cases e) (by unfold maxLen; omega) (by omega) hB ?_; intro a' c' w4 hrow4 hgrow4 hor4; intros; obtain ⟨⟨d0, d1⟩, HWR⟩ := HW.out a' c' w4 hrow4 hgrow4 hor4; have HWR2 : Hid (Wrote lb B ⟨sa, sn, sc⟩ w (xs ++ (recI p).take q) (w4.setCell ⟨lb, 0, none⟩ (.slice a' (sn + q) c'))) := HWR; clear HWR hrow4 hgrow4 hor4))
  go_wp2_with fail
  go_ret
  exact ⟨rfl, HWR2.out⟩
theorem log_three {w : World} {lb : Nat} {a b c : Value} (h : w.heap[lb]? = some (.cells #[a, b, c] 46 (0, 0))) (x y : Value) : ((w.setCell ⟨lb, 1, none⟩ x).setCell ⟨lb, 2, none⟩ y).heap[lb]? = some (.cells #[a, x, y] 46 (0, 0)) := by
  have h1 := heap_setCell_same w lb 1 _ 46 x h
  rw [heap_setCell_same _ lb 2 _ 46 y h1]
  rfl
set_option maxRecDepth 100000 in
set_option maxHeartbeats 4000000 in
theorem j57_all (lb B rb rc : Nat) (nn : Int) (s : Sl) (xs p : List Int) (w : World) (h : LogAt w lb B s xs) (hB : B ≤ w.heap.size) (hf : lastE (recs 0 xs) = xs.length) (hp : p.length ≤ 131072)
    (hr : By w (some ⟨rb, 0, none⟩) (8 + p.length) rc (recI p)) (hq : ((8 + p.length : Nat) : Int) ≤ nn) (hn : s.n + (8 + p.length) ≤ 140737488355328) :
    Calls Try.prog 25 #[.pointer (some ⟨lb, 0, none⟩), .slice (some ⟨rb, 0, none⟩) (8 + p.length) rc, .int .i64 nn] w fun e w' => e = .returned (.bool true) ∧ Wrote lb B s w (xs ++ recI p) w' := by
  obtain ⟨i0, hi, hz, hs, hb0⟩ := infoU8
  have HH : Hid (LogAt w lb B s xs) := h
  obtain ⟨c0, c1, c2, f0, f1, f2⟩ := h.cells
  have hlt := h.lt
  have hcap := hr.cap
  have hrl9 := recI_length p
  have HP : Hid (By w (some ⟨rb, 0, none⟩) (8 + p.length) (8 + p.length) (recI p)) := by
    have := hr.part rfl (lo := 0) (m := 8 + p.length) (c' := 8 + p.length) (by omega) (Nat.le_refl _)
    rw [List.drop_zero, List.take_of_length_le (by omega)] at this
    exact this
  have hrc := recs_append h.rng hf hp
  have hlen := h.len
  have HRC : Hid ((recs 0 (xs ++ recI p)).length = (recs 0 xs).length + 1 ∧ lastE (recs 0 (xs ++ recI p)) = s.n + (8 + p.length)) := by
    rw [hrc, List.length_append, lastE_snoc]
    exact ⟨rfl, by simp only; omega⟩
  have HRG : Hid (∀ x ∈ xs ++ recI p, Byte x) := fun x hx => by
    rcases List.mem_append.1 hx with hx | hx
    · exact h.rng x hx
    · exact recI_byte hp (fun y hy => hr.rng y (by simp [recI, hy])) x hx
  have hct : (recs 0 xs).length ≤ 140737488355328 := by
    have := recs_len _ 0 xs (Nat.le_refl _)
    omega
  clear h hr hrc hrl9 hlen
  obtain ⟨sa, sn, sc⟩ := s
  simp only at *
  obtain ⟨rl, hrl⟩ : ∃ rl, 8 + p.length = rl := ⟨_, rfl⟩
  rw [hrl] at hq hcap hn HP HRC ⊢
  obtain ⟨ct, hct0⟩ : ∃ ct, (recs 0 xs).length = ct := ⟨_, rfl⟩
  have HCT : Hid ((recs 0 xs).length = ct) := hct0
  rw [hct0] at c1 HRC hct
  have hq1 : ¬ nn < (rl : Int) := by omega
  have hq0 : (0 : Int) ≤ (rl : Int) := by omega
  have hq2 : (rl : Int) ≤ (rc : Int) := by omega
  have hmn : min nn (rl : Int) = (rl : Int) := by omega
  clear hf hrl hp hct0
  have HW : Hid (∀ (a' : Option Addr) (c' : Nat) (w4 : World), Row w4 B 5 a' (sn + rl) c' (u8s xs ++ u8s (recI p)) → w.drew.grownBy w4 (blk sa) → (a' = sa ∨ ∃ g, a' = some ⟨g, 0, none⟩ ∧ w.drew.heap.size ≤ g ∧ w.drew.grownBy w4 none) →
      (w4.cell? ⟨lb, 0, none⟩ = some (.slice sa sn sc) ∧ w4.frozen? ⟨lb, 0, none⟩ = false) ∧ ∃ W5, w4.setCell ⟨lb, 0, none⟩ (.slice a' (sn + rl) c') = W5 ∧ (W5.cell? ⟨lb, 0, none⟩ = some (.slice a' (sn + rl) c') ∧ W5.cell? ⟨lb, 1, none⟩ = some (.int .i64 ct) ∧ W5.frozen? ⟨lb, 1, none⟩ = false ∧ W5.cell? ⟨lb, 2, none⟩ = some (.int .i64 (lastE (recs 0 xs))) ∧ W5.frozen? ⟨lb, 2, none⟩ = false) ∧
      Wrote lb B ⟨sa, sn, sc⟩ w (xs ++ recI p) ((W5.setCell ⟨lb, 1, none⟩ (.int .i64 ((ct : Int) + 1))).setCell ⟨lb, 2, none⟩ (.int .i64 ((sn + rl : Nat) : Int)))) := fun a' c' w4 h1 h2 h3 => by
    obtain ⟨e1, e2, e3, e4⟩ := wrote_mid (q := w.drew.heap.size) HH.out (Below.drew (Below.refl _ _)) h1 h2 h3 (Nat.le_refl _)
    have e5 : (w4.setCell ⟨lb, 0, none⟩ (.slice a' (sn + rl) c')).heap[lb]? = some (.cells #[.slice a' (sn + rl) c', .int .i64 ct, .int .i64 (lastE (recs 0 xs))] 46 (0, 0)) := by
      rw [heap_setCell_same w4 lb 0 _ 46 _ e1, HCT.out]; rfl
    refine ⟨⟨by rw [cell_of_row w4 lb 0 _ 46 (0, 0) e1]; rfl, frozen_of_row w4 lb 0 _ 46 e1⟩, _, rfl, ⟨by rw [cell_of_row _ lb 0 _ 46 (0, 0) e5]; rfl, by rw [cell_of_row _ lb 1 _ 46 (0, 0) e5]; rfl, frozen_of_row _ lb 1 _ 46 e5, by rw [cell_of_row _ lb 2 _ 46 (0, 0) e5]; rfl, frozen_of_row _ lb 2 _ 46 e5⟩, ⟨a', sn + rl, c'⟩, ⟨?_, ?_, HRG.out⟩, ⟨h2.os, h2.tape, h2.output, by have := h2.size; simpa using this, fun k hk h5 h6 => (set_far h5).trans ((set_far h5).trans ((set_far h5).trans (e3 k hk h6)))⟩, e4⟩
    · rw [HRC.out.1, HRC.out.2, log_three e5]
      simp
    · rw [u8s_append]
      exact ((h1.other _ e2).other _ e2).other _ e2
  have hsp : nn = (rl : Int) ∨ ¬ nn ≤ (rl : Int) := by omega
  clear hmn hq hq1
  rcases hsp with rfl | hgt
  · have hq1 : ¬ (rl : Int) < (rl : Int) := by omega
    go_enter Try.func25, Try.ntmps25
    go_wp2_with fail
    go_region_law
      ((refine step_append_row _ (by rfl) _ _ _ (by rfl) B 5 i0 _ 1 Try.underlying29 hi hz hs hb0 rfl sa sn sc (u8s xs) (by rfl) (HH.out.row.keeps fun _ _ => rfl) (some ⟨rb, 0, none⟩) rl rl (u8s (recI p)) (by rfl) (HP.out.below (Below.drew (Below.refl _ _))).reads (u8s_one _) (fun e => by cases e) (by unfold maxLen; omega) (by omega) hB ?_; intro a' c' w4 hrow4 hgrow4 hor4; intros; obtain ⟨⟨d0, d1⟩, W5, hW5, ⟨g0, g1, g2, g3, g4⟩, HWR⟩ := HW.out a' c' w4 hrow4 hgrow4 hor4; have HWR2 : Hid (Wrote lb B ⟨sa, sn, sc⟩ w (xs ++ recI p) ((W5.setCell ⟨lb, 1, none⟩ (.int .i64 ((ct : Int) + 1))).setCell ⟨lb, 2, none⟩ (.int .i64 ((sn + rl : Nat) : Int)))) := HWR; have HW5 : Hid (w4.setCell ⟨lb, 0, none⟩ (.slice a' (sn + rl) c') = W5) := hW5; clear HWR hrow4 hgrow4 hor4 hW5))
    rw [HW5.out]
    clear HW5 d0 d1
    go_wp2_with fail
    go_ret
    exact ⟨rfl, HWR2.out⟩
  · have hq1 : ¬ nn < (rl : Int) := by omega
    go_enter Try.func25, Try.ntmps25
    go_wp2_with fail
    go_region_law
      ((refine step_append_row _ (by rfl) _ _ _ (by rfl) B 5 i0 _ 1 Try.underlying29 hi hz hs hb0 rfl sa sn sc (u8s xs) (by rfl) (HH.out.row.keeps fun _ _ => rfl) (some ⟨rb, 0, none⟩) rl rl (u8s (recI p)) (by rfl) (HP.out.below (Below.drew (Below.refl _ _))).reads (u8s_one _) (fun e => by cases e) (by unfold maxLen; omega) (by omega) hB ?_; intro a' c' w4 hrow4 hgrow4 hor4; intros; obtain ⟨⟨d0, d1⟩, W5, hW5, ⟨g0, g1, g2, g3, g4⟩, HWR⟩ := HW.out a' c' w4 hrow4 hgrow4 hor4; have HWR2 : Hid (Wrote lb B ⟨sa, sn, sc⟩ w (xs ++ recI p) ((W5.setCell ⟨lb, 1, none⟩ (.int .i64 ((ct : Int) + 1))).setCell ⟨lb, 2, none⟩ (.int .i64 ((sn + rl : Nat) : Int)))) := HWR; have HW5 : Hid (w4.setCell ⟨lb, 0, none⟩ (.slice a' (sn + rl) c') = W5) := hW5; clear HWR hrow4 hgrow4 hor4 hW5))
    rw [HW5.out]
    clear HW5 d0 d1
    go_wp2_with fail
    go_ret
    exact ⟨rfl, HWR2.out⟩
end Go.Proofs.Ytopljcabcknaeaa
