/- Contracts of message, put and Send. -/
import Derived.Test.YtopljcabcknaeaaLkLB
namespace Go.Proofs.Ytopljcabcknaeaa.Lk
open Go.RowKit
attribute [local go_sem ↓] Go.wp_at_zero Go.wp_at_succ
set_option maxRecDepth 100000 in
set_option maxHeartbeats 1000000 in
theorem l35 (lb : Nat) (fi : Int) (s : Sl) (to sq : Int) (a : Option Addr) (n c : Nat) (xs : List Int) (w : World) (h : LkB w lb fi s) (hb : By w a n c xs) (hn : n ≤ 1000000000) :
    Calls Try.prog 17 #[.pointer (some ⟨lb, 0, none⟩), .int .i64 to, .int .i64 sq, .slice a n c] w fun e w' => ∃ a' c', e = .returned (.agg #[.int .i64 0, .int .i64 to, .bool false, .int .i64 sq, .slice a' n c']) ∧ Below w.heap.size w w' := by
  obtain ⟨W, hW⟩ : ∃ W, w.alloc (.cells dz 32) = W := ⟨_, rfl⟩
  have hbl : Below w.heap.size w W := by rw [← hW]; exact (Below.refl _ w).alloc (Nat.le_refl _) _
  have hc : W.heap[w.heap.size]? = some (.cells dz 32 (0, 0)) := by rw [← hW]; exact heap_alloc_new w _
  have hsz : w.heap.size < W.heap.size := by rw [← hW]; simp
  have k0 := (h.below hbl).cells.c0
  have H41 : Hid (∀ d, Calls Try.prog 18 #[.slice a n c] (W.drewN d) fun e w' => ∃ a' c', e = .returned (.slice a' n c') ∧ Hid (Below W.heap.size W w')) := fun d => by
    refine (l41 a n c xs (W.drewN d) ((hb.below hbl).below (below_dN (Below.refl _ _) d)) (by omega)).mono ?_
    rintro e w' ⟨a', c', rfl, hf⟩
    exact ⟨a', c', rfl, (below_dN (Below.refl _ _) d).trans (hf.2)⟩
  have HC : Hid (∀ w', Below W.heap.size W w' → w'.cell? ⟨lb, 0, none⟩ = some (.int .i64 0) ∧ DgC w' w.heap.size 0 0 0 false (.slice none 0 0)) := fun w' hw => ⟨((h.below hbl).below hw).cells.c0, dg_cells ((hw.block _ hsz).trans hc)⟩
  have HB : Hid (Below w.heap.size w W) := hbl
  clear h hb hbl hc hsz
  go_enter Try.func17, Try.ntmps17
  go_wp2_with fail
  go_region_with (go_at_call 18; refine (H41.out _).mono ?_; rintro e w1 ⟨a', c', rfl, HF⟩; obtain ⟨k1, e0, e1, e2, e3, e4, g0, g1, g2, g3, g4⟩ := HC.out _ HF.out)
  all_goals (
    go_wp2_with fail
    refine bodyPost_ret (v := .agg #[.int .i64 0, .int .i64 to, .bool false, .int .i64 sq, .slice a' n c']) (by simp [results, Try.results17, go_sem, e0, e1, e2, e3, e4]) rfl ⟨a', c', rfl, ?_⟩
    have h0 := Nat.le_refl w.heap.size
    have hb := HB.out.trans (HF.out.mono HB.out.size)
    exact ((((hb.setCell h0 _).setCell h0 _).setCell h0 _).setCell h0 _).setCell h0 _)
/-- The row of a link's messages: in memory of its own, each of them bytes. -/
structure LkR (w : World) (B lb : Nat) (fi : Int) (s : Sl) (l : List Sl) : Prop where
  blk : LkB w lb fi s
  hb : B ≤ lb
  row : Row w B 29 s.a s.n s.c (l.map Sl.v)
  bys : ∀ t ∈ l, ∃ xs, Row w B 5 t.a t.n t.c (u8s xs) ∧ (∀ x ∈ xs, Byte x) ∧ t.n ≤ 65536
theorem infoSl : ∃ i, Try.prog.info? 29 = some i ∧ i.zero = some (.slice none 0 0) ∧ i.size = 1 ∧ i.bytes = 24 := by
  have h : (Try.prog.info? 29).map (fun i => (i.zero, i.size, i.bytes)) = some (some (.slice none 0 0), 1, 24) := by kernel_rfl
  cases hq : Try.prog.info? 29 with
  | none => rw [hq] at h; cases h
  | some i =>
    rw [hq] at h
    simp only [Option.map_some, Option.some.injEq, Prod.mk.injEq] at h
    exact ⟨i, rfl, h.1, h.2.1, h.2.2⟩
theorem LkR.below {w w' : World} {B lb : Nat} {fi : Int} {s : Sl} {l : List Sl} (h : LkR w B lb fi s l) (hb : Below w.heap.size w w') : LkR w' B lb fi s l :=
  ⟨h.blk.below hb, h.hb, h.row.below hb, fun t ht => by
    obtain ⟨xs, h1, h2⟩ := h.bys t ht
    exact ⟨xs, h1.below hb, h2⟩⟩
theorem _root_.Go.Proofs.Ytopljcabcknaeaa.Row.kind {w : World} {B : Nat} {e : TypeId} {a : Option Addr} {n c : Nat} {xs : List Value} (h : Row w B e a n c xs) {g : Nat} (hg : blk a = some g) : ∃ cu : Array Value, w.heap[g]? = some (.cells cu e (0, 0)) := by
  rcases h.mem with ⟨rfl, _⟩ | ⟨g', cu, rfl, _, h2, _⟩
  · cases hg
  · cases hg; exact ⟨cu, h2⟩
/-- What put leaves. -/
def PutTo (w : World) (B lb : Nat) (fi : Int) (l : List Sl) (n : Nat) (sa : Option Addr) (w' : World) : Prop := ∃ s' t, LkR w' B lb fi s' (l ++ [t]) ∧ t.n = n ∧ s'.n = l.length + 1 ∧ Below B w w' ∧ w.heap.size ≤ w'.heap.size ∧ ∀ k, k < w.heap.size → k ≠ lb → blk sa ≠ some k → w'.heap[k]? = w.heap[k]?
theorem put_mid {w w1 w4 : World} {B lb n sn sc : Nat} {fi : Int} {sa : Option Addr} {l : List Sl} {a' ra : Option Addr} {c' rc : Nat} {xs : List Int} {ob : Obj} (h : LkR w B lb fi ⟨sa, sn, sc⟩ l) (hB : B ≤ w.heap.size) (hb : Below w.heap.size w w1) (hy : Row w1 B 5 a' n c' (u8s xs)) (hx : ∀ x ∈ xs, Byte x) (hn : n ≤ 65536)
    (hr : Row w4 B 29 ra (sn + 1) rc (l.map Sl.v ++ [.slice a' n c'])) (hg : (w1.alloc ob).grownBy w4 (blk sa)) :
    (w4.cell? ⟨lb, 7, none⟩ = some (.slice sa sn sc) ∧ w4.frozen? ⟨lb, 7, none⟩ = false) ∧ PutTo w B lb fi l n sa (w4.setCell ⟨lb, 7, none⟩ (.slice ra (sn + 1) rc)) := by
  have h1 := h.below hb
  have hba : Below w1.heap.size w1 (w1.alloc ob) := (Below.refl _ _).alloc (Nat.le_refl _) ob
  have h5 := h1.below hba
  have hlt5 : lb < (w1.alloc ob).heap.size := (Array.getElem?_eq_some_iff.1 h5.blk).1
  have hne : blk sa ≠ some lb := fun e => by
    obtain ⟨cu, h6⟩ := h5.row.kind e
    rw [h5.blk] at h6; cases h6
  have e1 : w4.heap[lb]? = some (.cells (lkV fi ⟨sa, sn, sc⟩) 51 (0, 0)) := (hg.block lb hlt5 (Ne.symm hne)).trans h5.blk
  have e2 : blk ra ≠ some lb := fun e => by
    obtain ⟨cu, h6⟩ := hr.kind e
    rw [e1] at h6; cases h6
  have keep : ∀ {t : Sl} {ys : List Int}, Row (w1.alloc ob) B 5 t.a t.n t.c (u8s ys) → Row (w4.setCell ⟨lb, 7, none⟩ (.slice ra (sn + 1) rc)) B 5 t.a t.n t.c (u8s ys) := fun {t ys} ht => by
    refine (ht.keeps fun g hgt => hg.block g (ht.lt hgt).2 (fun e => ?_)).other _ (fun e => ?_)
    · obtain ⟨cu, h6⟩ := h5.row.kind e.symm
      obtain ⟨cu2, h7⟩ := ht.kind hgt
      rw [h6] at h7; cases h7
    · obtain ⟨cu2, h7⟩ := ht.kind e
      rw [h5.blk] at h7; cases h7
  have hlen : l.length = sn := by have := h.row.len; rw [List.length_map] at this; exact this
  refine ⟨⟨by rw [cell_of_row w4 lb 7 _ 51 (0, 0) e1]; rfl, frozen_of_row w4 lb 7 _ 51 e1⟩, ⟨ra, sn + 1, rc⟩, ⟨a', n, c'⟩, ⟨?_, h.hb, ?_, fun t ht => ?_⟩, rfl, by simp [hlen], ?_⟩
  · show _ = _
    rw [heap_setCell_same w4 lb 7 _ 51 _ e1]; rfl
  · rw [List.map_append]; exact hr.other _ e2
  · rcases List.mem_append.1 ht with ht | ht
    · obtain ⟨ys, k1, k2⟩ := h5.bys t ht
      exact ⟨ys, keep k1, k2⟩
    · simp only [List.mem_cons, List.not_mem_nil, or_false] at ht
      subst ht
      exact ⟨xs, keep (t := ⟨a', n, c'⟩) (hy.below hba), hx, hn⟩
  · have b5 : Below B w (w1.alloc ob) := (hb.mono hB).trans (hba.mono (Nat.le_trans hB hb.size))
    have b6 := (b5.grown hg (Nat.le_trans hB b5.size) (fun g hgs => (h5.row.lt hgs).1)).setCell (p := ⟨lb, 7, none⟩) h.hb (.slice ra (sn + 1) rc)
    exact ⟨b6, b6.size, fun k hk h7 h8 => by rw [heap_setCell_other _ _ _ _ h7, hg.block k (Nat.lt_of_lt_of_le (Nat.lt_of_lt_of_le hk hb.size) hba.size) (Ne.symm h8), hba.block k (Nat.lt_of_lt_of_le hk hb.size), hb.block k hk]⟩
set_option maxRecDepth 100000 in
set_option maxHeartbeats 2000000 in
theorem l34 (B lb : Nat) (fi q : Nat) (s : Sl) (l : List Sl) (a : Option Addr) (n c : Nat) (xs : List Int) (w : World) (h : LkR w B lb fi s l) (hB : B ≤ w.heap.size) (hb : By w a n c xs) (hn : n ≤ 65536) (hq : q = fi + l.length) (hl : q ≤ 1000000) :
    Calls Try.prog 16 #[.pointer (some ⟨lb, 5, none⟩), .slice a n c] w fun e w' => e = .returned (.int .i64 (q : Int)) ∧ PutTo w B lb fi l n s.a w' := by
  obtain ⟨i0, hi, hz, hsz, hby⟩ := infoSl
  obtain ⟨c0, c1, c6, c7, f6, f7⟩ := h.blk.cells
  have HL : Hid (l.length = s.n) := by have := h.row.len; rw [List.length_map] at this; exact this
  have HQ : Hid (q = fi + l.length) := hq
  have H41 : Hid (∀ d, Calls Try.prog 18 #[.slice a n c] (w.drewN d) fun e w' => ∃ a' c', e = .returned (.slice a' n c') ∧ Hid (Below w.heap.size w w' ∧ Row w' B 5 a' n c' (u8s xs) ∧ ∀ x ∈ xs, Byte x)) := fun d => by
    refine (l41 a n c xs (w.drewN d) (hb.below (below_dN (Below.refl _ _) d)) (by omega)).mono ?_
    rintro e w' ⟨a', c', rfl, hf⟩
    exact ⟨a', c', rfl, (below_dN (Below.refl _ _) d).trans (hf.2), hf.1.base (Nat.le_trans hB (below_dN (Below.refl w.heap.size w) d).size), hb.rng⟩
  have HH : Hid (LkR w B lb fi s l) := h
  clear h hb hq
  go_enter Try.func16, Try.ntmps16
  go_wp2_with fail
  obtain ⟨sa, sn, sc⟩ := s
  simp only at *
  go_region_law (first
    | (refine step_append_row _ (by rfl) _ _ _ (by rfl) B 29 i0 _ 24 Try.underlying22 hi hz hsz hby rfl sa sn sc (l.map Sl.v) (by rfl) ((HH.out.row.below HF.out.1).alloc _) (some ⟨w1.heap.size, 0, none⟩) 1 1 [.slice a' n c'] (by rfl) (reads_block (cs := #[.slice a' n c']) (heap_alloc_new w1 _)) (by simp [Value.oneCell']) (fun e => by cases e) (by have := HL.out; have := HQ.out; unfold maxLen; omega) (by have := HL.out; have := HQ.out; omega) (by have := HF.out.1.size; simp; omega) ?_; intro ra rc w4 hrow4 hgrow4 hor4 _ _; obtain ⟨⟨m7, n7⟩, hP⟩ := put_mid HH.out hB HF.out.1 HF.out.2.1 HF.out.2.2 hn hrow4 hgrow4; have HP : Hid (PutTo w B lb fi l n sa (w4.setCell ⟨lb, 7, none⟩ (.slice ra (sn + 1) rc))) := hP; clear hP hrow4 hgrow4 hor4)
    | (go_simp; refine (H41.out _).mono ?_; rintro e w1 ⟨a', c', rfl, HF⟩; have d7 : w1.cell? ⟨lb, 7, none⟩ = some (.slice sa sn sc) := (HH.out.blk.below HF.out.1).cells.c7; have e7 : ∀ ob : Obj, (w1.alloc ob).cell? ⟨lb, 7, none⟩ = some (.slice sa sn sc) := fun ob => ((HH.out.blk.below HF.out.1).below ((Below.refl _ _).alloc (Nat.le_refl _) ob)).cells.c7))
  all_goals (
    clear d7 e7 m7 n7 c0 c1 c6 c7 f6 f7
    generalize w4.setCell ⟨lb, 7, none⟩ (.slice ra (sn + 1) rc) = W5 at *
    obtain ⟨s', t, k1, k2, k3, k4, k5, k6⟩ := HP.out
    have H38 : Calls Try.prog 26 #[.pointer (some ⟨lb, 5, none⟩)] W5 fun e w' => e = .returned (.int .i64 ((q : Int) + 1)) ∧ ∃ d, w' = W5.drewN d := by
      have := l38 lb fi s' W5 k1.blk (by have := HQ.out; omega)
      rw [show ((fi : Int) + (s'.n : Int)) = (q : Int) + 1 by have := HQ.out; omega] at this
      exact this
    clear k1 k2 k3 k4 k5 k6
    go_wp2_with fail
    refine H38.mono ?_
    rintro e w6 ⟨rfl, d, hw6⟩
    have HP6 : Hid (PutTo w B lb fi l n sa w6) := by
      obtain ⟨s', t, k1, k2, k3, k4, k5, k6⟩ := HP.out
      have bd := below_dN (Below.refl W5.heap.size W5) d
      rw [hw6]
      exact ⟨s', t, k1.below bd, k2, k3, below_dN k4 d, Nat.le_trans k5 bd.size, fun k h1 h2 h3 => (bd.block k (Nat.lt_of_lt_of_le h1 k5)).trans (k6 k h1 h2 h3)⟩
    clear hw6 H38
    go_wp2_with fail
    go_ret
    exact ⟨by simp, HP6.out⟩)
end Go.Proofs.Ytopljcabcknaeaa.Lk
