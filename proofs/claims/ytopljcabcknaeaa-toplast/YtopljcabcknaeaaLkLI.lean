/- Contracts of message, put and Send of a link whose messages lie anywhere in memory of its own. -/
import Derived.Test.YtopljcabcknaeaaLkLH
namespace Go.Proofs.Ytopljcabcknaeaa.Lk
open Go.RowKit
attribute [local go_sem ↓] Go.wp_at_zero Go.wp_at_succ
set_option maxRecDepth 100000 in
set_option maxHeartbeats 1000000 in
theorem l35c (lb : Nat) (fi : Int) (s : Sl) (to sq : Int) (a : Option Addr) (n c : Nat) (xs : List Int) (w : World) (h : LkB w lb fi s) (hb : By w a n c xs) (hn : n ≤ 1000000000) :
    Calls Try.prog 17 #[.pointer (some ⟨lb, 0, none⟩), .int .i64 to, .int .i64 sq, .slice a n c] w fun e w' => ∃ a' c', e = .returned (.agg #[.int .i64 0, .int .i64 to, .bool false, .int .i64 sq, .slice a' n c']) ∧ Row w' w.heap.size 5 a' n c' (u8s xs) ∧ Below w.heap.size w w' := by
  obtain ⟨W, hW⟩ : ∃ W, w.alloc (.cells dz 32) = W := ⟨_, rfl⟩
  have hbl : Below w.heap.size w W := by rw [← hW]; exact (Below.refl _ w).alloc (Nat.le_refl _) _
  have hc : W.heap[w.heap.size]? = some (.cells dz 32 (0, 0)) := by rw [← hW]; exact heap_alloc_new w _
  have hsz : w.heap.size < W.heap.size := by rw [← hW]; simp
  have k0 := (h.below hbl).cells.c0
  have H41 : Hid (∀ d, Calls Try.prog 18 #[.slice a n c] (W.drewN d) fun e w' => ∃ a' c', e = .returned (.slice a' n c') ∧ Hid (Below W.heap.size W w' ∧ Row w' W.heap.size 5 a' n c' (u8s xs))) := fun d => by
    refine (l41 a n c xs (W.drewN d) ((hb.below hbl).below (below_dN (Below.refl _ _) d)) (by omega)).mono ?_
    rintro e w' ⟨a', c', rfl, hf⟩
    exact ⟨a', c', rfl, (below_dN (Below.refl _ _) d).trans (hf.2), hf.1.base (below_dN (Below.refl W.heap.size W) d).size⟩
  have HC : Hid (∀ w', Below W.heap.size W w' → w'.cell? ⟨lb, 0, none⟩ = some (.int .i64 0) ∧ DgC w' w.heap.size 0 0 0 false (.slice none 0 0)) := fun w' hw => ⟨((h.below hbl).below hw).cells.c0, dg_cells ((hw.block _ hsz).trans hc)⟩
  have HB : Hid (Below w.heap.size w W ∧ w.heap.size < W.heap.size) := ⟨hbl, hsz⟩
  clear h hb hbl hc hsz
  go_enter Try.func17, Try.ntmps17
  go_wp2_with fail
  go_region_with (go_at_call 18; refine (H41.out _).mono ?_; rintro e w1 ⟨a', c', rfl, HF⟩; obtain ⟨k1, e0, e1, e2, e3, e4, g0, g1, g2, g3, g4⟩ := HC.out _ HF.out.1)
  all_goals (
    go_wp2_with fail
    refine bodyPost_ret (v := .agg #[.int .i64 0, .int .i64 to, .bool false, .int .i64 sq, .slice a' n c']) (by simp [results, Try.results17, go_sem, e0, e1, e2, e3, e4]) rfl ⟨a', c', rfl, ?_, ?_⟩
    · have hne : blk a' ≠ some w.heap.size := fun e => by
        have h1 := (HF.out.2.lt e).1
        have h2 := HB.out.2
        omega
      exact (((((HF.out.2.base (Nat.le_of_lt HB.out.2)).other (p := ⟨w.heap.size, _, none⟩) _ hne).other (p := ⟨w.heap.size, _, none⟩) _ hne).other (p := ⟨w.heap.size, _, none⟩) _ hne).other (p := ⟨w.heap.size, _, none⟩) _ hne).other (p := ⟨w.heap.size, _, none⟩) _ hne
    · have h0 := Nat.le_refl w.heap.size
      have hb := HB.out.1.trans (HF.out.1.mono HB.out.1.size)
      exact ((((hb.setCell h0 _).setCell h0 _).setCell h0 _).setCell h0 _).setCell h0 _)
/-- The row of a link's messages: somewhere in memory of its own, each of them bytes. -/
structure LkG (w : World) (B lb : Nat) (fi : Int) (s : Sl) (l : List Sl) : Prop where
  blk : LkB w lb fi s
  hb : B ≤ lb
  row : RowO w B 29 s.a s.n s.c (l.map Sl.v)
  bys : ∀ t ∈ l, ∃ xs, Row w B 5 t.a t.n t.c (u8s xs) ∧ (∀ x ∈ xs, Byte x) ∧ t.n ≤ 65536
theorem LkG.below {w w' : World} {B lb : Nat} {fi : Int} {s : Sl} {l : List Sl} (h : LkG w B lb fi s l) (hb : Below w.heap.size w w') : LkG w' B lb fi s l :=
  ⟨h.blk.below hb, h.hb, h.row.below hb, fun t ht => by
    obtain ⟨xs, h1, h2⟩ := h.bys t ht
    exact ⟨xs, h1.below hb, h2⟩⟩
/-- What put leaves; where the row lies then. -/
def PutG (w : World) (B lb : Nat) (fi : Int) (l : List Sl) (n : Nat) (xs : List Int) (sa : Option Addr) (w' : World) : Prop := ∃ s' t, LkG w' B lb fi s' (l ++ [t]) ∧ t.n = n ∧ s'.n = l.length + 1 ∧ Below B w w' ∧ w.heap.size ≤ w'.heap.size ∧ (∀ k, k < w.heap.size → k ≠ lb → blk sa ≠ some k → w'.heap[k]? = w.heap[k]?) ∧ (blk s'.a = blk sa ∨ ∃ g, blk s'.a = some g ∧ w.heap.size ≤ g) ∧ Row w' w.heap.size 5 t.a t.n t.c (u8s xs)
theorem put_midG {w w1 w4 : World} {B lb n sn sc : Nat} {fi : Int} {sa : Option Addr} {l : List Sl} {a' ra : Option Addr} {c' rc : Nat} {xs : List Int} {ob : Obj} (h : LkG w B lb fi ⟨sa, sn, sc⟩ l) (hB : B ≤ w.heap.size) (hb : Below w.heap.size w w1) (hy : Row w1 w.heap.size 5 a' n c' (u8s xs)) (hx : ∀ x ∈ xs, Byte x) (hn : n ≤ 65536)
    (hr : RowO w4 B 29 ra (sn + 1) rc (l.map Sl.v ++ [.slice a' n c'])) (hg : (w1.alloc ob).grownBy w4 (blk sa)) (ho : blk ra = blk sa ∨ ∃ g, blk ra = some g ∧ (w1.alloc ob).heap.size ≤ g) :
    (w4.cell? ⟨lb, 7, none⟩ = some (.slice sa sn sc) ∧ w4.frozen? ⟨lb, 7, none⟩ = false) ∧ PutG w B lb fi l n xs sa (w4.setCell ⟨lb, 7, none⟩ (.slice ra (sn + 1) rc)) := by
  have h1 := h.below hb
  have hba : Below w1.heap.size w1 (w1.alloc ob) := (Below.refl _ _).alloc (Nat.le_refl _) ob
  have h5 := h1.below hba
  have hlt5 : lb < (w1.alloc ob).heap.size := (Array.getElem?_eq_some_iff.1 h5.blk).1
  have hne : blk sa ≠ some lb := fun e => by
    obtain ⟨cu, h6⟩ := h5.row.kind e
    rw [h5.blk] at h6; cases h6
  have e1 : w4.heap[lb]? = some (.cells (lkV fi ⟨sa, sn, sc⟩) 51 (0, 0)) := (hg.block lb hlt5 (Ne.symm hne)).trans h5.blk
  have e2 : blk ra ≠ some lb := fun e => by
    obtain ⟨cu, h6⟩ := hr.kind e
    rw [e1] at h6; cases h6
  have keep : ∀ {C : Nat} {t : Sl} {ys : List Int}, Row (w1.alloc ob) C 5 t.a t.n t.c (u8s ys) → Row (w4.setCell ⟨lb, 7, none⟩ (.slice ra (sn + 1) rc)) C 5 t.a t.n t.c (u8s ys) := fun {C t ys} ht => by
    refine (ht.keeps fun g hgt => hg.block g (ht.lt hgt).2 (fun e => ?_)).other _ (fun e => ?_)
    · obtain ⟨cu, h6⟩ := h5.row.kind e.symm
      obtain ⟨cu2, h7⟩ := ht.kind hgt
      rw [h6] at h7; cases h7
    · obtain ⟨cu2, h7⟩ := ht.kind e
      rw [h5.blk] at h7; cases h7
  have hlen : l.length = sn := by have := h.row.len; rw [List.length_map] at this; exact this
  refine ⟨⟨by rw [cell_of_row w4 lb 7 _ 51 (0, 0) e1]; rfl, frozen_of_row w4 lb 7 _ 51 e1⟩, ⟨ra, sn + 1, rc⟩, ⟨a', n, c'⟩, ⟨?_, h.hb, ?_, fun t ht => ?_⟩, rfl, by simp [hlen], ?_⟩
  · show _ = _
    rw [heap_setCell_same w4 lb 7 _ 51 _ e1]; rfl
  · rw [List.map_append]; exact hr.other _ e2
  · rcases List.mem_append.1 ht with ht | ht
    · obtain ⟨ys, k1, k2⟩ := h5.bys t ht
      exact ⟨ys, keep k1, k2⟩
    · simp only [List.mem_cons, List.not_mem_nil, or_false] at ht
      subst ht
      exact ⟨xs, keep (t := ⟨a', n, c'⟩) ((hy.base hB).below hba), hx, hn⟩
  · have b5 : Below B w (w1.alloc ob) := (hb.mono hB).trans (hba.mono (Nat.le_trans hB hb.size))
    have b6 := (b5.grown hg (Nat.le_trans hB b5.size) (fun g hgs => (h5.row.lt hgs).1)).setCell (p := ⟨lb, 7, none⟩) h.hb (.slice ra (sn + 1) rc)
    refine ⟨b6, b6.size, fun k hk h7 h8 => by rw [heap_setCell_other _ _ _ _ h7, hg.block k (Nat.lt_of_lt_of_le (Nat.lt_of_lt_of_le hk hb.size) hba.size) (Ne.symm h8), hba.block k (Nat.lt_of_lt_of_le hk hb.size), hb.block k hk], ?_, keep (t := ⟨a', n, c'⟩) (hy.below hba)⟩
    rcases ho with e | ⟨g, e, h9⟩
    · exact .inl e
    · exact .inr ⟨g, e, Nat.le_trans (Nat.le_trans hb.size hba.size) h9⟩
set_option maxRecDepth 100000 in
set_option maxHeartbeats 2000000 in
theorem l34g (B lb : Nat) (fi q : Nat) (s : Sl) (l : List Sl) (a : Option Addr) (n c : Nat) (xs : List Int) (w : World) (h : LkG w B lb fi s l) (hB : B ≤ w.heap.size) (hb : By w a n c xs) (hn : n ≤ 65536) (hq : q = fi + l.length) (hl : q ≤ 1000000) :
    Calls Try.prog 16 #[.pointer (some ⟨lb, 5, none⟩), .slice a n c] w fun e w' => e = .returned (.int .i64 (q : Int)) ∧ PutG w B lb fi l n xs s.a w' := by
  obtain ⟨i0, hi, hz, hsz, hby⟩ := infoSl
  obtain ⟨c0, c1, c6, c7, f6, f7⟩ := h.blk.cells
  have HL : Hid (l.length = s.n) := by have := h.row.len; rw [List.length_map] at this; exact this
  have HQ : Hid (q = fi + l.length) := hq
  have H41 : Hid (∀ d, Calls Try.prog 18 #[.slice a n c] (w.drewN d) fun e w' => ∃ a' c', e = .returned (.slice a' n c') ∧ Hid (Below w.heap.size w w' ∧ Row w' w.heap.size 5 a' n c' (u8s xs) ∧ ∀ x ∈ xs, Byte x)) := fun d => by
    refine (l41 a n c xs (w.drewN d) (hb.below (below_dN (Below.refl _ _) d)) (by omega)).mono ?_
    rintro e w' ⟨a', c', rfl, hf⟩
    exact ⟨a', c', rfl, (below_dN (Below.refl _ _) d).trans (hf.2), hf.1.base (below_dN (Below.refl w.heap.size w) d).size, hb.rng⟩
  have HH : Hid (LkG w B lb fi s l) := h
  clear h hb hq
  go_enter Try.func16, Try.ntmps16
  go_wp2_with fail
  obtain ⟨sa, sn, sc⟩ := s
  simp only at *
  go_region_law (first
    | (refine step_append_rowO _ (by rfl) _ _ _ (by rfl) B 29 i0 _ 24 Try.underlying22 hi hz hsz hby rfl sa sn sc (l.map Sl.v) (by rfl) ((HH.out.row.below HF.out.1).alloc _) ⟨w1.heap.size, 0, none⟩ 1 1 [.slice a' n c'] (by rfl) rfl (World.news_of_block (cs := #[.slice a' n c']) (heap_alloc_new w1 _)) (by simp [Value.oneCell']) (by decide) (by have := HL.out; have := HQ.out; unfold maxLen; omega) (by have := HL.out; have := HQ.out; omega) (by have := HF.out.1.size; simp; omega) ?_; intro ra rc w4 hrow4 hgrow4 hor4; obtain ⟨⟨m7, n7⟩, hP⟩ := put_midG HH.out hB HF.out.1 HF.out.2.1 HF.out.2.2 hn hrow4 hgrow4 hor4; have HP : Hid (PutG w B lb fi l n xs sa (w4.setCell ⟨lb, 7, none⟩ (.slice ra (sn + 1) rc))) := hP; clear hP hrow4 hgrow4 hor4)
    | (go_simp; refine (H41.out _).mono ?_; rintro e w1 ⟨a', c', rfl, HF⟩; have d7 : w1.cell? ⟨lb, 7, none⟩ = some (.slice sa sn sc) := (HH.out.blk.below HF.out.1).cells.c7; have e7 : ∀ ob : Obj, (w1.alloc ob).cell? ⟨lb, 7, none⟩ = some (.slice sa sn sc) := fun ob => ((HH.out.blk.below HF.out.1).below ((Below.refl _ _).alloc (Nat.le_refl _) ob)).cells.c7))
  all_goals (
    clear d7 e7 m7 n7 c0 c1 c6 c7 f6 f7
    generalize w4.setCell ⟨lb, 7, none⟩ (.slice ra (sn + 1) rc) = W5 at *
    obtain ⟨s', t, k1, k2, k3, k4, k5, k6, k7, k8⟩ := HP.out
    have H38 : Calls Try.prog 26 #[.pointer (some ⟨lb, 5, none⟩)] W5 fun e w' => e = .returned (.int .i64 ((q : Int) + 1)) ∧ ∃ d, w' = W5.drewN d := by
      have := l38 lb fi s' W5 k1.blk (by have := HQ.out; omega)
      rw [show ((fi : Int) + (s'.n : Int)) = (q : Int) + 1 by have := HQ.out; omega] at this
      exact this
    clear k1 k2 k3 k4 k5 k6 k7 k8
    go_wp2_with fail
    refine H38.mono ?_
    rintro e w6 ⟨rfl, d, hw6⟩
    have HP6 : Hid (PutG w B lb fi l n xs sa w6) := by
      obtain ⟨s', t, k1, k2, k3, k4, k5, k6, k7, k8⟩ := HP.out
      have bd := below_dN (Below.refl W5.heap.size W5) d
      rw [hw6]
      exact ⟨s', t, k1.below bd, k2, k3, below_dN k4 d, Nat.le_trans k5 bd.size, fun k h1 h2 h3 => (bd.block k (Nat.lt_of_lt_of_le h1 k5)).trans (k6 k h1 h2 h3), k7, k8.below bd⟩
    clear hw6 H38
    go_wp2_with fail
    go_ret
    exact ⟨by simp, HP6.out⟩)
theorem LkG.far {w w' : World} {B lb R : Nat} {fi : Int} {s : Sl} {l : List Sl} {cu : Array Value} (h : LkG w B lb fi s l) (hR : w.heap[R]? = some (.cells cu 32 (0, 0))) (hf : Far R w w') : LkG w' B lb fi s l := by
  refine ⟨(hf.block lb (Array.getElem?_eq_some_iff.1 h.blk).1 (fun e => ?_)).trans h.blk, h.hb, h.row.keeps fun g hg => hf.block g (h.row.lt hg).2 (fun e => ?_), fun t ht => ?_⟩
  · subst e; have h2 := h.blk; unfold LkB at h2; rw [hR] at h2; cases h2
  · subst e; obtain ⟨cu2, h2⟩ := h.row.kind hg; rw [hR] at h2; cases h2
  · obtain ⟨xs, h1, h2⟩ := h.bys t ht
    refine ⟨xs, h1.keeps fun g hg => hf.block g (h1.lt hg).2 (fun e => ?_), h2⟩
    subst e; obtain ⟨cu2, h2⟩ := h1.kind hg; rw [hR] at h2; cases h2
theorem PutG.ends {w W w1 w2 : World} {B lb n R : Nat} {xs : List Int} {fi : Int} {l : List Sl} {sa : Option Addr} {cu : Array Value} (hW : Below w.heap.size w W) (hBw : B ≤ w.heap.size) (h : PutG W B lb fi l n xs sa w1) (hR : w1.heap[R]? = some (.cells cu 32 (0, 0))) (hf : Far R w1 w2) (hRw : w.heap.size ≤ R) : PutG w B lb fi l n xs sa w2 := by
  obtain ⟨s', t, k1, k2, k3, k4, k5, k6, k7, k8⟩ := h
  refine ⟨s', t, k1.far hR hf, k2, k3, (hW.mono hBw).trans (k4.trans ⟨hf.os, hf.tape, hf.output, hf.size, fun k hk => hf.block k (by have := hW.size; omega) (by omega)⟩), Nat.le_trans hW.size (Nat.le_trans k5 hf.size), fun k h1 h2 h3 => ?_, ?_, ?_⟩
  · rw [hf.block k (by have := hW.size; omega) (by omega), k6 k (by have := hW.size; omega) h2 h3, hW.block k h1]
  · rcases k7 with e | ⟨g, e, h9⟩
    · exact .inl e
    · exact .inr ⟨g, e, Nat.le_trans hW.size h9⟩
  · refine (k8.base hW.size).keeps fun g hg => hf.block g (k8.lt hg).2 fun e => ?_
    subst e
    obtain ⟨cu2, h2⟩ := k8.kind hg
    rw [hR] at h2
    cases h2
set_option maxRecDepth 100000 in
set_option maxHeartbeats 2000000 in
theorem l14g (B lb : Nat) (fi q : Nat) (s : Sl) (l : List Sl) (a : Option Addr) (n c : Nat) (xs : List Int) (w : World) (h : LkG w B lb fi s l) (hB : B ≤ w.heap.size) (hb : By w a n c xs) (hba : n = 0 ∨ ∀ g, blk a = some g → g < w.heap.size ∧ g ≠ lb ∧ blk s.a ≠ some g) (hn : n ≤ 65536) (hq : q = fi + l.length) (hl : q ≤ 1000000) :
    Calls Try.prog 7 #[.pointer (some ⟨lb, 0, none⟩), .int .i64 1, .slice a n c] w fun e w' => ∃ a' c', e = .returned (.tuple #[.agg #[.int .i64 0, .int .i64 1, .bool false, .int .i64 (q : Int), .slice a' n c'], .int .i64 0]) ∧ PutG w B lb fi l n xs s.a w' ∧ Row w' w.heap.size 5 a' n c' (u8s xs) := by
  obtain ⟨W, hW⟩ : ∃ W, w.alloc (.cells dz 32) = W := ⟨_, rfl⟩
  have hbl : Below w.heap.size w W := by rw [← hW]; exact (Below.refl _ w).alloc (Nat.le_refl _) _
  have hc : W.heap[w.heap.size]? = some (.cells dz 32 (0, 0)) := by rw [← hW]; exact heap_alloc_new w _
  have hsz : w.heap.size < W.heap.size := by rw [← hW]; simp
  have hlb : lb < w.heap.size := (Array.getElem?_eq_some_iff.1 h.blk).1
  have H33 := l33 lb fi s W (h.blk.below hbl)
  have H34 := l34g B lb fi q s l a n c xs W (h.below hbl) (Nat.le_trans hB hbl.size) (hb.below hbl) hn hq hl
  have HK : Hid (∀ w1, PutG W B lb fi l n xs s.a w1 → w1.heap[w.heap.size]? = some (.cells dz 32 (0, 0)) ∧ By w1 a n c xs ∧ ∃ s', LkB w1 lb fi s') := fun w1 hp => by
    obtain ⟨s', t, k1, k2, k3, k4, k5, k6, _, _⟩ := hp
    refine ⟨(k6 _ hsz (by omega) (fun e => ?_)).trans hc, ?_, s', k1.blk⟩
    · have := (h.row.lt e).2; omega
    · have hb2 := hb.below hbl
      refine ⟨hb2.len, hb2.cap, hb2.nil, hb2.rng, ?_⟩
      rcases hb2.mem with e | ⟨b, o, e, hl2, hr⟩
      · exact .inl e
      rcases hba with h0 | hba
      · exact .inl h0
      · refine .inr ⟨b, o, e, Nat.lt_of_lt_of_le hl2 k5, fun j u hu => ?_⟩
        obtain ⟨p1, p2, p3⟩ := hba b (by rw [e]; rfl)
        exact (World.cell?_of_block (a := ⟨b, o + j, none⟩) (k6 b hl2 p2 p3)).trans (hr j u hu)
  have HX : Hid (Below w.heap.size w W ∧ B ≤ w.heap.size) := ⟨hbl, hB⟩
  have hln : ¬ (65536 : Int) < (n : Int) := by omega
  clear h hb hbl hc hsz hlb hq hba
  go_enter Try.func7, Try.ntmps7
  go_wp2_with fail
  refine H33.mono ?_
  rintro e w' ⟨rfl, hw⟩
  obtain rfl := hw.symm
  clear H33 hW
  go_wp2_with fail
  refine H34.mono ?_
  rintro e w1 ⟨rfl, hp⟩
  obtain ⟨hR, hby, s', hlk⟩ := HK.out w1 hp
  have HP : Hid (PutG W B lb fi l n xs s.a w1 ∧ w1.heap[w.heap.size]? = some (.cells dz 32 (0, 0))) := ⟨hp, hR⟩
  have H35 := l35c lb fi s' 1 q a n c xs w1 hlk hby (by omega)
  have hRl : w.heap.size < w1.heap.size := (Array.getElem?_eq_some_iff.1 hR).1
  clear hp hR hby hlk H34
  go_wp2_with fail
  refine H35.mono ?_
  rintro e w2 ⟨a', c', rfl, hy2, hb2⟩
  obtain ⟨e0, e1, e2, e3, e4, g0, g1, g2, g3, g4⟩ := dg_cells ((hb2.block _ hRl).trans HP.out.2)
  have HF : Hid (Far w.heap.size w1 w2 ∧ Row w2 w1.heap.size 5 a' n c' (u8s xs) ∧ w.heap.size < w1.heap.size) := ⟨Far.of hb2, hy2, hRl⟩
  clear hb2 hy2 H35 hRl
  go_wp2_with fail
  refine bodyPost_ret (v := .tuple #[.agg #[.int .i64 0, .int .i64 1, .bool false, .int .i64 (q : Int), .slice a' n c'], .int .i64 0]) (by simp [results, Try.results7, go_sem, e0, e1, e2, e3, e4]) rfl ⟨a', c', rfl, ?_, ?_⟩
  · exact HP.out.1.ends HX.out.1 HX.out.2 HP.out.2 (((((HF.out.1.set _ _).set _ _).set _ _).set _ _).set _ _) (Nat.le_refl _)
  · have hne : blk a' ≠ some w.heap.size := fun e => by
      have h1 := (HF.out.2.1.lt e).1
      have h2 := HF.out.2.2
      omega
    exact (((((HF.out.2.1.base (Nat.le_of_lt HF.out.2.2)).other (p := ⟨w.heap.size, _, none⟩) _ hne).other (p := ⟨w.heap.size, _, none⟩) _ hne).other (p := ⟨w.heap.size, _, none⟩) _ hne).other (p := ⟨w.heap.size, _, none⟩) _ hne).other (p := ⟨w.heap.size, _, none⟩) _ hne
end Go.Proofs.Ytopljcabcknaeaa.Lk
