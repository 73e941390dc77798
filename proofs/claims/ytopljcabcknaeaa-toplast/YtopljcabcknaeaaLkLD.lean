/- Contract of Send. -/
import Derived.Test.YtopljcabcknaeaaLkLC
namespace Go.Proofs.Ytopljcabcknaeaa.Lk
open Go.RowKit
attribute [local go_sem ↓] Go.wp_at_zero Go.wp_at_succ
/-- All but one block stays. -/
structure Far (R : Nat) (w w' : World) : Prop where
  os : w'.os = w.os
  tape : w'.tape = w.tape
  output : w'.output = w.output
  size : w.heap.size ≤ w'.heap.size
  block : ∀ k, k < w.heap.size → k ≠ R → w'.heap[k]? = w.heap[k]?
theorem Far.of {R : Nat} {w w' : World} (h : Below w.heap.size w w') : Far R w w' := ⟨h.os, h.tape, h.output, h.size, fun k hk _ => h.block k hk⟩
theorem Far.set {R : Nat} {w w' : World} (h : Far R w w') (o : Nat) (u : Value) : Far R w (w'.setCell ⟨R, o, none⟩ u) := by
  have b := (Below.refl R w').setCell (p := ⟨R, o, none⟩) (Nat.le_refl _) u
  exact ⟨b.os.trans h.os, b.tape.trans h.tape, b.output.trans h.output, Nat.le_trans h.size b.size, fun k hk hne => by rw [heap_setCell_other _ _ _ _ hne, h.block k hk hne]⟩
theorem LkR.far {w w' : World} {B lb R : Nat} {fi : Int} {s : Sl} {l : List Sl} {cu : Array Value} (h : LkR w B lb fi s l) (hR : w.heap[R]? = some (.cells cu 32 (0, 0))) (hf : Far R w w') : LkR w' B lb fi s l := by
  refine ⟨(hf.block lb (Array.getElem?_eq_some_iff.1 h.blk).1 (fun e => ?_)).trans h.blk, h.hb, h.row.keeps fun g hg => hf.block g (h.row.lt hg).2 (fun e => ?_), fun t ht => ?_⟩
  · subst e; have h2 := h.blk; unfold LkB at h2; rw [hR] at h2; cases h2
  · subst e; obtain ⟨cu2, h2⟩ := h.row.kind hg; rw [hR] at h2; cases h2
  · obtain ⟨xs, h1, h2⟩ := h.bys t ht
    refine ⟨xs, h1.keeps fun g hg => hf.block g (h1.lt hg).2 (fun e => ?_), h2⟩
    subst e; obtain ⟨cu2, h2⟩ := h1.kind hg; rw [hR] at h2; cases h2
theorem PutTo.ends {w W w1 w2 : World} {B lb n R : Nat} {fi : Int} {l : List Sl} {sa : Option Addr} {cu : Array Value} (hW : Below w.heap.size w W) (hBw : B ≤ w.heap.size) (h : PutTo W B lb fi l n sa w1) (hR : w1.heap[R]? = some (.cells cu 32 (0, 0))) (hf : Far R w1 w2) (hRw : w.heap.size ≤ R) : PutTo w B lb fi l n sa w2 := by
  obtain ⟨s', t, k1, k2, k3, k4, k5, k6⟩ := h
  refine ⟨s', t, k1.far hR hf, k2, k3, (hW.mono hBw).trans (k4.trans ⟨hf.os, hf.tape, hf.output, hf.size, fun k hk => hf.block k (by have := hW.size; omega) (by omega)⟩), Nat.le_trans hW.size (Nat.le_trans k5 hf.size), fun k h1 h2 h3 => ?_⟩
  rw [hf.block k (by have := hW.size; omega) (by omega), k6 k (by have := hW.size; omega) h2 h3, hW.block k h1]
set_option maxRecDepth 100000 in
set_option maxHeartbeats 2000000 in
theorem l14 (B lb : Nat) (fi q : Nat) (s : Sl) (l : List Sl) (a : Option Addr) (n c : Nat) (xs : List Int) (w : World) (h : LkR w B lb fi s l) (hB : B ≤ w.heap.size) (hb : By w a n c xs) (hba : ∀ g, blk a = some g → g < w.heap.size ∧ g ≠ lb ∧ blk s.a ≠ some g) (hn : n ≤ 65536) (hq : q = fi + l.length) (hl : q ≤ 1000000) :
    Calls Try.prog 7 #[.pointer (some ⟨lb, 0, none⟩), .int .i64 1, .slice a n c] w fun e w' => ∃ a' c', e = .returned (.tuple #[.agg #[.int .i64 0, .int .i64 1, .bool false, .int .i64 (q : Int), .slice a' n c'], .int .i64 0]) ∧ PutTo w B lb fi l n s.a w' := by
  obtain ⟨W, hW⟩ : ∃ W, w.alloc (.cells dz 32) = W := ⟨_, rfl⟩
  have hbl : Below w.heap.size w W := by rw [← hW]; exact (Below.refl _ w).alloc (Nat.le_refl _) _
  have hc : W.heap[w.heap.size]? = some (.cells dz 32 (0, 0)) := by rw [← hW]; exact heap_alloc_new w _
  have hsz : w.heap.size < W.heap.size := by rw [← hW]; simp
  have hlb : lb < w.heap.size := (Array.getElem?_eq_some_iff.1 h.blk).1
  have H33 := l33 lb fi s W (h.blk.below hbl)
  have H34 := l34 B lb fi q s l a n c xs W (h.below hbl) (Nat.le_trans hB hbl.size) (hb.below hbl) hn hq hl
  have HK : Hid (∀ w1, PutTo W B lb fi l n s.a w1 → w1.heap[w.heap.size]? = some (.cells dz 32 (0, 0)) ∧ By w1 a n c xs ∧ ∃ s', LkB w1 lb fi s') := fun w1 hp => by
    obtain ⟨s', t, k1, k2, k3, k4, k5, k6⟩ := hp
    refine ⟨(k6 _ hsz (by omega) (fun e => ?_)).trans hc, ?_, s', k1.blk⟩
    · have := (h.row.lt e).2; omega
    · have hb2 := hb.below hbl
      refine ⟨hb2.len, hb2.cap, hb2.nil, hb2.rng, ?_⟩
      rcases hb2.mem with e | ⟨b, o, e, hl2, hr⟩
      · exact .inl e
      · refine .inr ⟨b, o, e, Nat.lt_of_lt_of_le hl2 k5, fun j u hu => ?_⟩
        obtain ⟨p1, p2, p3⟩ := hba b (by rw [e]; rfl)
        exact (World.cell?_of_block (a := ⟨b, o + j, none⟩) (k6 b hl2 p2 p3)).trans (hr j u hu)
  have HX : Hid (Below w.heap.size w W ∧ B ≤ w.heap.size) := ⟨hbl, hB⟩
  have hln : ¬ (65536 : Int) < (n : Int) := by omega
  clear h hb hbl hc hsz hlb hq hba
  go_enter Try.func7, Try.ntmps7
  go_wp2_with fail
  refine H33.mono ?_
  rintro e w' ⟨rfl, hw⟩
  obtain rfl := hw.symm
  clear H33 hW
  go_wp2_with fail
  refine H34.mono ?_
  rintro e w1 ⟨rfl, hp⟩
  obtain ⟨hR, hby, s', hlk⟩ := HK.out w1 hp
  have HP : Hid (PutTo W B lb fi l n s.a w1 ∧ w1.heap[w.heap.size]? = some (.cells dz 32 (0, 0))) := ⟨hp, hR⟩
  have H35 := l35 lb fi s' 1 q a n c xs w1 hlk hby (by omega)
  have hRl : w.heap.size < w1.heap.size := (Array.getElem?_eq_some_iff.1 hR).1
  clear hp hR hby hlk H34
  go_wp2_with fail
  refine H35.mono ?_
  rintro e w2 ⟨a', c', rfl, hb2⟩
  obtain ⟨e0, e1, e2, e3, e4, g0, g1, g2, g3, g4⟩ := dg_cells ((hb2.block _ hRl).trans HP.out.2)
  have HF : Hid (Far w.heap.size w1 w2) := Far.of hb2
  clear hb2 H35 hRl
  go_wp2_with fail
  refine bodyPost_ret (v := .tuple #[.agg #[.int .i64 0, .int .i64 1, .bool false, .int .i64 (q : Int), .slice a' n c'], .int .i64 0]) (by simp [results, Try.results7, go_sem, e0, e1, e2, e3, e4]) rfl ⟨a', c', rfl, ?_⟩
  exact HP.out.1.ends HX.out.1 HX.out.2 HP.out.2 (((((HF.out.set _ _).set _ _).set _ _).set _ _).set _ _) (Nat.le_refl _)
end Go.Proofs.Ytopljcabcknaeaa.Lk
