/- Contracts of letGo and Acked of a link whose messages lie anywhere; of New, peer, Look, Take, Next of the other node's link. -/
import Derived.Test.YtnhomejenjinaaaLI
namespace Go.Proofs.Ytnhomejenjinaaa
open Go.RowKit
attribute [local go_sem ↓] Go.wp_at_zero Go.wp_at_succ
theorem run_cutN (b : Addr) (n m c : Nat) (_ : m ≤ c) (W : World) : (Instr.slice 49 (.slice (some b) n c) none (some (.int .i64 (m : Int))) none).run Try.prog W = .ok (.slice (some b) m c) W := by
  obtain ⟨i0, hi, hz, hs, hb⟩ := infoSl
  have h1 : (m : Int) ≤ (c : Int) := by omega
  simp [Instr.slice, run_underlying Try.underlying49, Instr.sliceBounds, run_sliceBound, sizeOf, typeInfo, hi, h1, Addr.add]
theorem run_fromN (g o n m c : Nat) (_ : m ≤ n) (_ : n ≤ c) (W : World) : (Instr.slice 49 (.slice (some ⟨g, o, none⟩) n c) (some (.int .i64 (m : Int))) none none).run Try.prog W = .ok (.slice (some ⟨g, if c = m then o else o + m, none⟩) (n - m) (c - m)) W := by
  obtain ⟨i0, hi, hz, hs, hb⟩ := infoSl
  have h1 : (m : Int) ≤ (n : Int) := by omega
  by_cases h2 : c = m
  · simp [Instr.slice, run_underlying Try.underlying49, Instr.sliceBounds, run_sliceBound, sizeOf, typeInfo, hi, hs, h1, h2, Addr.add]
  · simp [Instr.slice, run_underlying Try.underlying49, Instr.sliceBounds, run_sliceBound, sizeOf, typeInfo, hi, hs, h1, h2, Addr.add]
theorem run_clearN (w : World) (ty : TypeId) (g o n c : Nat) (hc : ∀ j, j < n → (w.cell? ⟨g, o + j, none⟩).isSome = true) (hf : ∀ j, j < n → w.frozen? ⟨g, o + j, none⟩ = false) :
    (Builtin.clear_ #[49] ty #[.slice (some ⟨g, o, none⟩) n c]).run Try.prog w = .ok (.tuple #[]) (w.setCells g o (List.replicate n (.slice none 0 0))) := by
  rcases n with _ | n
  · simp [Builtin.clear_, run_underlying Try.underlying49, World.setCells]
  · exact Lib.run_clear_slice w 49 34 ty _ Try.underlying49 (fun w => by go_simp) rfl rfl g o (n + 1) c (by omega) hc hf
/-- What letGo writes. -/
def lgW (w : World) (lb g o n c m : Nat) (fi : Nat) : World := ((w.setCells g o (List.replicate n (.slice none 0 0))).setCell ⟨lb, 7, none⟩ (.slice (some ⟨g, if c = n then o else o + n, none⟩) (m - n) (c - n))).setCell ⟨lb, 6, none⟩ (.int .i64 ((fi + n : Nat) : Int))
theorem letgo_endsG {B lb g o c n fi : Nat} {l : List Sl} {w : World} (h : LkG w B lb (fi : Int) ⟨some ⟨g, o, none⟩, l.length, c⟩ l) (hn : n ≤ l.length) :
    (LkG (lgW w lb g o n c l.length fi) B lb ((fi + n : Nat) : Int) ⟨some ⟨g, if c = n then o else o + n, none⟩, l.length - n, c - n⟩ (l.drop n) ∧ Below B w (lgW w lb g o n c l.length fi) ∧ ∀ k, k < w.heap.size → k ≠ lb → k ≠ g → (lgW w lb g o n c l.length fi).heap[k]? = w.heap[k]?) ∧
      l.length ≤ c ∧ (∀ j, j < n → (w.cell? ⟨g, o + j, none⟩).isSome = true) ∧ (∀ j, j < n → w.frozen? ⟨g, o + j, none⟩ = false) ∧ LkB (w.setCells g o (List.replicate n (.slice none 0 0))) lb (fi : Int) ⟨some ⟨g, o, none⟩, l.length, c⟩ := by
  have hlt : g < w.heap.size := (h.row.lt (g := g) rfl).2
  have hBg : B ≤ g := (h.row.lt (g := g) rfl).1
  obtain ⟨cu, hcu, hsz, hra⟩ : ∃ cu : Array Value, w.heap[g]? = some (.cells cu 34 (0, 0)) ∧ o + c ≤ cu.size ∧ w.rangeAt g o (l.map Sl.v) := by
    rcases h.row.mem with ⟨e, _⟩ | ⟨g', o', e, _, ⟨cu, k1, k2⟩, k3⟩
    · cases e
    · cases e
      exact ⟨cu, k1, k2, k3⟩
  have hcap : l.length ≤ c := h.row.cap
  have hmaxc : c ≤ maxLen := h.row.max
  have hne : lb ≠ g := fun e => by
    subst e
    have h2 := h.blk; unfold LkB at h2; rw [h2] at hcu; cases hcu
  have hlbl : lb < w.heap.size := (Array.getElem?_eq_some_iff.1 h.blk).1
  obtain ⟨w1, hw1⟩ : ∃ w1, w.setCells g o (List.replicate n (.slice none 0 0)) = w1 := ⟨_, rfl⟩
  have hg1 := grown_setCells g (List.replicate n (.slice none 0 0)) o w
  obtain ⟨cu1, q1, q2⟩ := kind_setCells g 34 (List.replicate n (.slice none 0 0)) o w cu hcu
  have hout : ∀ j, n ≤ j → w1.cell? ⟨g, o + j, none⟩ = w.cell? ⟨g, o + j, none⟩ := fun j hj => by
    rw [← hw1]
    exact World.cell?_setCells_out g _ o w ⟨g, o + j, none⟩ fun _ _ => .inr (by show o + _ ≤ o + j; simp; omega)
  rw [hw1] at hg1 q1
  have e1 : w1.heap[lb]? = some (.cells (lkV (fi : Int) ⟨some ⟨g, o, none⟩, l.length, c⟩) 61 (0, 0)) := (hg1.block lb hlbl (fun e => hne (by cases e; rfl))).trans h.blk
  obtain ⟨w3, hw3⟩ : ∃ w3, lgW w lb g o n c l.length fi = w3 := ⟨_, rfl⟩
  have hw3' : w3 = (w1.setCell ⟨lb, 7, none⟩ (.slice (some ⟨g, if c = n then o else o + n, none⟩) (l.length - n) (c - n))).setCell ⟨lb, 6, none⟩ (.int .i64 ((fi + n : Nat) : Int)) := by rw [← hw3, ← hw1]; rfl
  have hoth : ∀ k, k ≠ lb → w3.heap[k]? = w1.heap[k]? := fun k hk => by
    rw [hw3', heap_setCell_other _ _ _ _ hk, heap_setCell_other _ _ _ _ hk]
  have hbel : Below B w w3 := by
    have b1 : Below B w w1 := (Below.refl B w).grown hg1 (by omega) (fun r hr => by cases hr; exact hBg)
    rw [hw3']
    exact (b1.setCell (p := ⟨lb, 7, none⟩) h.hb _).setCell (p := ⟨lb, 6, none⟩) h.hb _
  rw [hw3]
  refine ⟨⟨⟨?_, h.hb, ⟨by simp, (by show l.length - n ≤ c - n; omega), (by show c - n ≤ maxLen; omega), .inr ⟨g, _, rfl, hBg, ⟨cu1, (hoth g (Ne.symm hne)).trans q1, ?_⟩, fun j u hu => ?_⟩⟩, fun t ht => ?_⟩, hbel, fun k hk h1 h2 => ?_⟩, hcap, fun j hj => ?_, fun j hj => frozen_of_row w g _ cu 34 hcu, by rw [hw1]; exact e1⟩
  · have e2 := heap_setCell_same _ lb 7 _ 61 (.slice (some ⟨g, if c = n then o else o + n, none⟩) (l.length - n) (c - n)) e1
    have e3 := heap_setCell_same _ lb 6 _ 61 (.int .i64 ((fi + n : Nat) : Int)) e2
    show _ = _
    rw [hw3', e3]; rfl
  · show (if c = n then o else o + n) + (c - n) ≤ cu1.size
    rw [q2]
    split <;> omega
  · have hj : j < l.length - n := by
      have := (List.getElem?_eq_some_iff.1 hu).1
      simpa using this
    have hcn : ¬ c = n := by omega
    rw [if_neg hcn, World.cell?_of_block (a := ⟨g, o + n + j, none⟩) (hoth g (Ne.symm hne)), show o + n + j = o + (n + j) by omega, hout (n + j) (by omega)]
    refine hra (n + j) u ?_
    rw [List.getElem?_map, List.getElem?_drop] at hu
    rw [List.getElem?_map]
    exact hu
  · obtain ⟨xs, k1, k2⟩ := h.bys t (List.mem_of_mem_drop ht)
    refine ⟨xs, k1.keeps fun r hr => ?_, k2⟩
    obtain ⟨cu2, h7⟩ := k1.kind hr
    have n1 : r ≠ g := fun e => by subst e; rw [hcu] at h7; cases h7
    have n2 : r ≠ lb := fun e => by
      subst e
      have h2 := h.blk; unfold LkB at h2; rw [h2] at h7; cases h7
    exact (hoth r n2).trans (hg1.block r (k1.lt hr).2 (fun e => n1 (by cases e; rfl)))
  · exact (hoth k h1).trans (hg1.block k hk (fun e => h2 (by cases e; rfl)))
  · rw [cell_of_row w g _ cu 34 (0, 0) hcu, Array.getElem?_eq_getElem (by omega)]
    rfl
set_option maxRecDepth 100000 in
set_option maxHeartbeats 2000000 in
theorem l39g (B lb g o c n fi sq : Nat) (l : List Sl) (w : World) (h : LkG w B lb (fi : Int) ⟨some ⟨g, o, none⟩, l.length, c⟩ l) (hn : n = sq + 1 - fi) (hl : n ≤ l.length) (hq : sq ≤ 1000000) (hf : fi ≤ 1000000) (hm : n ≤ 1000000) :
    Calls Try.prog 39 #[.pointer (some ⟨lb, 5, none⟩), .int .i64 (sq : Int)] w fun e w' => e = .returned (.tuple #[]) ∧ LkG w' B lb ((fi + n : Nat) : Int) ⟨some ⟨g, if c = n then o else o + n, none⟩, l.length - n, c - n⟩ (l.drop n) ∧ Below B w w' ∧ ∀ k, k < w.heap.size → k ≠ lb → k ≠ g → w'.heap[k]? = w.heap[k]? := by
  obtain ⟨k1, k4, k5, k6, k7⟩ := letgo_endsG h hl
  have HK : Hid (LkG (lgW w lb g o n c l.length fi) B lb ((fi + n : Nat) : Int) ⟨some ⟨g, if c = n then o else o + n, none⟩, l.length - n, c - n⟩ (l.drop n) ∧ Below B w (lgW w lb g o n c l.length fi) ∧ ∀ k, k < w.heap.size → k ≠ lb → k ≠ g → (lgW w lb g o n c l.length fi).heap[k]? = w.heap[k]?) := k1
  obtain ⟨c0, c1, c6, c7, f6, f7⟩ := h.blk.cells
  obtain ⟨d0, d1, d6, d7, x6, x7⟩ := k7.cells
  obtain ⟨m, hm'⟩ : ∃ m, l.length = m := ⟨_, rfl⟩
  have r1 := fun W => run_cutN ⟨g, o, none⟩ m n c (by omega) W
  have r2 := fun W => run_fromN g o m n c (by omega) (by omega) W
  have hcl := fun ty => run_clearN w ty g o n c k5 k6
  unfold lgW at HK
  obtain ⟨W1, hW1⟩ : ∃ W1, w.setCells g o (List.replicate n (.slice none 0 0)) = W1 := ⟨_, rfl⟩
  obtain ⟨o2, ho2⟩ : ∃ o2, (if c = n then o else o + n) = o2 := ⟨_, rfl⟩
  rw [hW1] at hcl HK d0 d1 d6 d7 x6 x7
  rw [hm'] at HK c7 d7
  rw [ho2] at HK r2
  rw [hm', ho2]
  simp only at c7 d7
  have hw1 : (0 : Int) ≤ (sq : Int) + 1 := by omega
  by_cases hlt : sq + 1 < fi
  · obtain rfl : n = 0 := by omega
    have hneg : (sq : Int) + 1 - (fi : Int) < 0 := by omega
    have ho3 : o2 = o := by rw [← ho2]; split <;> rfl
    simp only [Nat.add_zero, Nat.sub_zero] at HK r2 ⊢
    clear h k1 k4 k5 k6 k7 ho2 hW1 hm' hn hl hm
    subst ho3
    go_enter Try.func39, Try.ntmps39
    go_wp2_with fail
    go_end0
    exact ⟨rfl, HK.out⟩
  · have hx : (sq : Int) + 1 - (fi : Int) = (n : Int) := by omega
    have hsum : ((fi : Int) + (n : Int)) = ((fi + n : Nat) : Int) := by omega
    have hsr : ((fi + n : Nat) : Int) ≤ 3000000 := by omega
    have hs0 : (0 : Int) ≤ ((fi + n : Nat) : Int) := by omega
    have hnb : (n : Int) ≤ 1000000 := by omega
    generalize ((fi + n : Nat) : Int) = fn at *
    clear h k1 k4 k5 k6 k7 ho2 hW1 hm' hn
    go_enter Try.func39, Try.ntmps39
    go_wp2_with fail
    go_end0
    exact ⟨rfl, HK.out⟩
set_option maxRecDepth 100000 in
set_option maxHeartbeats 2000000 in
theorem l22g (B lb g o c n fi sq : Nat) (l : List Sl) (w : World) (h : LkG w B lb (fi : Int) ⟨some ⟨g, o, none⟩, l.length, c⟩ l) (hn : n = sq + 1 - fi) (hl : sq < fi + l.length) (hf : fi + l.length ≤ 1000000) :
    Calls Try.prog 22 #[.pointer (some ⟨lb, 0, none⟩), .int .i64 1, .int .i64 (sq : Int)] w fun e w' => e = .returned (.int .i64 0) ∧ LkG w' B lb ((fi + n : Nat) : Int) ⟨some ⟨g, if c = n then o else o + n, none⟩, l.length - n, c - n⟩ (l.drop n) ∧ Below B w w' ∧ ∀ k, k < w.heap.size → k ≠ lb → k ≠ g → w'.heap[k]? = w.heap[k]? := by
  have H33 := l33 lb (fi : Int) _ w h.blk
  have H38 : Calls Try.prog 38 #[.pointer (some ⟨lb, 5, none⟩)] w fun e w' => e = .returned (.int .i64 ((fi + l.length : Nat) : Int)) ∧ ∃ d, w' = w.drewN d := by
    have := l38 lb fi _ w h.blk (by show fi + l.length ≤ _; omega)
    simpa using this
  have hB : B ≤ w.heap.size := by have := (h.row.lt (g := g) rfl); omega
  have H39 : Hid (∀ d, Calls Try.prog 39 #[.pointer (some ⟨lb, 5, none⟩), .int .i64 (sq : Int)] (w.drewN d) fun e w' => e = .returned (.tuple #[]) ∧ Hid (LkG w' B lb ((fi + n : Nat) : Int) ⟨some ⟨g, if c = n then o else o + n, none⟩, l.length - n, c - n⟩ (l.drop n) ∧ Below B w w' ∧ ∀ k, k < w.heap.size → k ≠ lb → k ≠ g → w'.heap[k]? = w.heap[k]?)) := fun d => by
    have hd := below_dN (Below.refl w.heap.size w) d
    refine (l39g B lb g o c n fi sq l (w.drewN d) (h.below hd) hn (by omega) (by omega) (by omega) (by omega)).mono ?_
    rintro e w' ⟨rfl, k1, k2, k3⟩
    exact ⟨rfl, k1, (hd.mono hB).trans k2, fun k hk h1 h2 => (k3 k (Nat.lt_of_lt_of_le hk hd.size) h1 h2).trans (hd.block k hk)⟩
  obtain ⟨tot, htot⟩ : ∃ tot, fi + l.length = tot := ⟨_, rfl⟩
  rw [htot] at H38 hl
  have hge : ¬ ((tot : Nat) : Int) ≤ (sq : Int) := by omega
  have hs0 : (0 : Int) ≤ (sq : Int) := by omega
  generalize ((fi + n : Nat) : Int) = fn at *
  generalize (if c = n then o else o + n) = o2 at *
  generalize l.length - n = m2 at *
  generalize c - n = c2 at *
  clear h hn hl hf htot hB
  go_enter Try.func22, Try.ntmps22
  go_wp2_with fail
  refine H33.mono ?_
  rintro e w' ⟨rfl, hw⟩
  obtain rfl := hw.symm
  clear H33
  go_wp2_with fail
  refine H38.mono ?_
  rintro e w1 ⟨rfl, d, hw1⟩
  have H39b : Calls Try.prog 39 #[.pointer (some ⟨lb, 5, none⟩), .int .i64 (sq : Int)] w1 fun e w' => e = .returned (.tuple #[]) ∧ Hid (LkG w' B lb fn ⟨some ⟨g, o2, none⟩, m2, c2⟩ (l.drop n) ∧ Below B w w' ∧ ∀ k, k < w.heap.size → k ≠ lb → k ≠ g → w'.heap[k]? = w.heap[k]?) := by
    rw [hw1]; exact H39.out d
  clear hw1 H38 H39
  go_wp2_with fail
  refine H39b.mono ?_
  rintro e w2 ⟨rfl, hp⟩
  clear H39b
  go_wp2_with fail
  go_ret
  exact ⟨rfl, hp.out⟩
end Go.Proofs.Ytnhomejenjinaaa
