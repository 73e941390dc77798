/- Contract of do: a deed on both logs. -/
import Derived.Test.YthomdgafaffphaaKC
import Derived.Test.YthomdgafaffphaaJQ
namespace Go.Proofs.Ythomdgafaffphaa
open Go.RowKit
attribute [local go_sem ↓] Go.wp_at_zero Go.wp_at_succ
abbrev DoS (w0 : World) (sa0 : Option Addr) (B pb db g lb rb : Nat) (kd kn : Int) (pa : Option Addr) (pn pc : Nat) (p : List Int) (w : World) : Prop :=
  w.cell? ⟨pb, 0, none⟩ = some (.pointer (some ⟨lb, 0, none⟩)) ∧ w.cell? ⟨pb, 1, none⟩ = some (.pointer (some ⟨rb, 0, none⟩)) ∧ w.cell? ⟨db, 0, none⟩ = some (.int .i64 kd) ∧ w.cell? ⟨db, 1, none⟩ = some (.int .i64 kn) ∧ w.cell? ⟨db, 2, none⟩ = some (.slice pa pn pc) ∧ Hid (∃ ys xs, Logged w0 sa0 B pb db g lb rb kd kn pa pn pc p ys xs w)
section
variable {w0 w w' : World} {sa0 : Option Addr} {B pb db g lb rb : Nat} {kd kn : Int} {pa : Option Addr} {pn pc : Nat} {p ys xs : List Int}
theorem doS_of (h : Logged w0 sa0 B pb db g lb rb kd kn pa pn pc p ys xs w) : DoS w0 sa0 B pb db g lb rb kd kn pa pn pc p w := by
  have h' := h
  obtain ⟨s, t, h⟩ := h
  obtain ⟨c0, c1, c2, c3, c4⟩ := h.cells
  exact ⟨c0, c1, c2, c3, c4, ys, xs, h'⟩
theorem logged_below (h : Logged w0 sa0 B pb db g lb rb kd kn pa pn pc p ys xs w) (hb : Below w.heap.size w w') : Logged w0 sa0 B pb db g lb rb kd kn pa pn pc p ys xs w' := by
  obtain ⟨s, t, h⟩ := h
  exact ⟨s, t, h.below hb⟩
theorem doS_drew (h : DoS w0 sa0 B pb db g lb rb kd kn pa pn pc p w) : DoS w0 sa0 B pb db g lb rb kd kn pa pn pc p w.drew := by
  obtain ⟨_, _, _, _, _, h⟩ := h
  obtain ⟨ys, xs, h⟩ := h.out
  exact doS_of (logged_below h ((Below.refl _ w).drew))
end
/-- What do leaves. -/
def DoPost (w : World) (sa0 : Option Addr) (B lb rb pn : Nat) (xs : List Int) (w' : World) : Prop := ∃ s t zs, Pr w' B lb rb s t zs ∧ zs.length ≤ xs.length + (8 + pn) ∧ Below B w w' ∧ w.heap.size ≤ w'.heap.size ∧ ∀ k, k < w.heap.size → k ≠ lb → k ≠ rb → blk sa0 ≠ some k → w'.heap[k]? = w.heap[k]?
/-- While what was handed in is changed. -/
structure ChI (w wr : World) (g q : Nat) : Prop where
  row : ∃ ys B, Row wr B 5 (some ⟨g, 0, none⟩) q q (u8s ys)
  os : wr.os = w.os
  tape : wr.tape = w.tape
  output : wr.output = w.output
  size : w.heap.size ≤ wr.heap.size
  block : ∀ k, k ≠ g → wr.heap[k]? = w.heap[k]?
theorem ChI.step {w wr : World} {g q : Nat} (h : ChI w wr g q) {j : Nat} (hj : j < q) : (∃ y, wr.cell? ⟨g, j, none⟩ = some (.int .u8 y)) ∧ wr.frozen? ⟨g, j, none⟩ = false ∧ ∀ z, ChI w (wr.setCell ⟨g, j, none⟩ (.int .u8 z)) g q := by
  obtain ⟨ys, B, hr⟩ := h.row
  have hlen : ys.length = q := by have := hr.len; simpa [u8s] using this
  refine ⟨?_, ?_, fun z => ⟨⟨_, B, hr.set (k := j) z⟩, h.os, h.tape, h.output, by have := h.size; simpa using this, fun k hk => ?_⟩⟩
  · rcases hr.reads.2 with e | ⟨ad, e, e2⟩
    · omega
    · cases e
      refine ⟨ys[j]'(by omega), ?_⟩
      have := e2 j (.int .u8 (ys[j]'(by omega))) (by rw [u8s, List.getElem?_map, List.getElem?_eq_getElem (by omega)]; rfl)
      rwa [Addr.add_mid, Nat.zero_add] at this
  · obtain ⟨cu, h6⟩ := hr.type rfl
    exact frozen_of_row wr g _ cu 5 h6
  · rw [heap_setCell_other _ _ _ _ hk]
    exact h.block k hk
set_option maxRecDepth 100000 in
set_option maxHeartbeats 8000000 in
theorem j29_0 (B lb rb : Nat) (s t : Sl) (xs : List Int) (kn : Int) (pa : Option Addr) (pn pc : Nat) (p : List Int) (w : World) (h : Pr w B lb rb s t xs) (hp : By w pa pn pc p) (hpB : pn = 0 ∨ ∀ k, blk pa = some k → k < B) (hn : xs.length + (8 + pn) ≤ 100000000)  :
    Calls Try.prog 29 #[.agg #[.pointer (some ⟨lb, 0, none⟩), .pointer (some ⟨rb, 0, none⟩)], .agg #[.int .i64 0, .int .i64 kn, .slice pa pn pc]] w fun e w' => e = .returned (.bool true) ∧ DoPost w s.a B lb rb pn xs w' := by
  obtain ⟨W, hW⟩ : ∃ W, (w.alloc (.cells #[.pointer (some ⟨lb, 0, none⟩), .pointer (some ⟨rb, 0, none⟩)] 50)).alloc (.cells #[.int .i64 0, .int .i64 kn, .slice pa pn pc] 53) = W := ⟨_, rfl⟩
  obtain ⟨pb, hpb⟩ : ∃ pb, w.heap.size = pb := ⟨_, rfl⟩
  obtain ⟨db, hdb⟩ : ∃ db, pb + 1 = db := ⟨_, rfl⟩
  have hb : Below w.heap.size w W := by rw [← hW]; exact ((Below.refl _ w).alloc (Nat.le_refl _) _).alloc (by simp) _
  have hBw : B ≤ w.heap.size := Nat.le_of_lt (Nat.lt_of_le_of_lt h.hl h.log.lt)
  have hc1 : W.heap[pb]? = some (.cells #[.pointer (some ⟨lb, 0, none⟩), .pointer (some ⟨rb, 0, none⟩)] 50 (0, 0)) := by
    rw [← hW, ← hpb, heap_alloc_old _ _ (by simp)]; exact heap_alloc_new w _
  have hc2 : W.heap[db]? = some (.cells #[.int .i64 0, .int .i64 kn, .slice pa pn pc] 53 (0, 0)) := by
    have := heap_alloc_new (w.alloc (.cells #[.pointer (some ⟨lb, 0, none⟩), .pointer (some ⟨rb, 0, none⟩)] 50)) (.cells #[.int .i64 0, .int .i64 kn, .slice pa pn pc] 53)
    rw [← hW, ← hdb, ← hpb]; simpa using this
  have d2 : W.cell? ⟨db, 2, none⟩ = some (.slice pa pn pc) := by rw [cell_of_row W db 2 _ 53 (0, 0) hc2]; rfl
  have H9 : Calls Try.prog 9 #[.slice pa pn pc] W fun e w' => ∃ g, e = .returned (.slice (some ⟨g, 0, none⟩) pn (pn + 9)) ∧ Hid (w.heap.size ≤ g) ∧ Hid (Do2 w s.a w' B pb db g lb rb 0 kn pa pn pc p s t xs xs) := by
    refine (j9 pa pn pc p W (hp.below hb) (by omega)).mono ?_
    rintro e w' ⟨g, rfl, h1, h2⟩
    have hg : W.heap.size ≤ g := (Row.lt h1 rfl).1
    have h3 := (h.below hb).below h2
    have hsz := hb.size
    refine ⟨g, rfl, Nat.le_trans hsz hg, (h2.block pb (Array.getElem?_eq_some_iff.1 hc1).1).trans hc1, (h2.block db (Array.getElem?_eq_some_iff.1 hc2).1).trans hc2, Row.base h1 (by omega), (hp.below hb).below h2, (hb.mono hBw).trans (h2.mono (by omega)), h3.log, h3.rf, h.apart, fun e => ?_, fun e => ?_, h.hl, hpB, fun k hk _ _ _ => (h2.block k (by omega)).trans (hb.block k hk), .inl rfl, Nat.le_trans hsz h2.size⟩
    · have := (h.log.row.lt e).2; omega
    · have := (h.rf.row.lt e).2; omega
  have HPL : Hid (p.length = pn) := hp.len
  clear h hp hpB hb hc1 hc2 hBw
  go_enter Try.func29, Try.ntmps29
  go_wp2_with fail
  refine H9.mono ?_
  rintro e w1 ⟨g, rfl, HGW, H1⟩
  clear H9 d2 hW hpb hdb
  have H33 : Calls Try.prog 33 #[.pointer (some ⟨lb, 0, none⟩), .slice (some ⟨g, 0, none⟩) pn (pn + 9)] w1.drew fun e w' => e = .returned (.int .i64 (appE xs pn)) ∧ Hid (Logged w s.a B pb db g lb rb 0 kn pa pn pc p (appL xs p) xs w') := d33 (H1.out.below ((Below.refl _ w1).drew)) (by omega)
  have H51 : Hid (∀ w', Hid (Logged w s.a B pb db g lb rb 0 kn pa pn pc p (appL xs p) xs w') → Calls Try.prog 51 #[.pointer (some ⟨rb, 0, none⟩), .slice pa pn pc] w' fun e w'' => e = .returned (.int .i64 (appE xs pn)) ∧ Hid (Logged w s.a B pb db g lb rb 0 kn pa pn pc p (appL xs p) (appL xs p) w'')) := fun w' hw => by
    obtain ⟨s', t', h'⟩ := hw.out
    exact d51 h' (by omega)
  have HZ : Hid ((appL xs p).length ≤ xs.length + (8 + pn)) := by have := appL_len xs p; rw [HPL.out] at this; exact this
  have HS0 : Hid (DoS w s.a B pb db g lb rb 0 kn pa pn pc p w1) := doS_of ⟨s, t, H1.out⟩
  obtain ⟨c0, c1, c2, c3, c4, _⟩ := HS0.out
  generalize appE xs pn = er at *
  generalize appL xs p = zs at *
  have her : (er != er) = false := by simp
  have her2 : (er == er) = true := by simp
  go_wp2_with fail
  go_region_held3 (fun w' => DoS w s.a B pb db g lb rb 0 kn pa pn pc p w')
    (first | exact doS_drew HS0.out | (refine doS_drew ?_; assumption) | assumption | exact doS_of (Hid.out (by assumption)))
    (first
      | (go_at_call 33; refine H33.mono ?_; rintro e w3 ⟨rfl, H3⟩)
      | (go_at_call 51; refine (H51.out _ H3).mono ?_; rintro e w4 ⟨rfl, H4⟩))
  clear H33 H51
  obtain ⟨s4, t4, hD⟩ := H4.out
  obtain ⟨c0, c1, c2, c3, c4⟩ := hD.cells
  have H22 : Calls Try.prog 22 #[.slice (some ⟨g, 0, none⟩) pn (pn + 9), .slice pa pn pc] w4 fun e w' => e = .returned (.bool true) ∧ Hid (ChI w4 w' g (pn + 9) ∧ Do2 w s.a w' B pb db g lb rb 0 kn pa pn pc p s4 t4 zs zs) := by
    refine (j22 pa pn pc g B p w4 hD.pay hD.hand (by omega)).mono ?_
    rintro e w' ⟨rfl, d, rfl⟩
    have hb := below_dN (Below.refl w4.heap.size w4) d
    refine ⟨rfl, ⟨⟨_, B, by have := Row.below hD.hand hb; rw [HPL.out] at this; exact this⟩, rfl, rfl, rfl, Nat.le_refl _, fun k _ => rfl⟩, hD.below hb⟩
  clear hD H4 H1
  go_wp2_with fail
  refine H22.mono ?_
  rintro e w5 ⟨rfl, H5⟩
  clear H22 c0 c1 c2 c3 c4
  have HC0 : Hid (ChI w5 w5 g (pn + 9)) := ⟨H5.out.1.row, rfl, rfl, rfl, Nat.le_refl _, fun k _ => rfl⟩
  go_wp2_with fail
  go_loopw [10] (fun i wr => ∃ k : Nat, k ≤ pn ∧ i = .int .i64 k ∧ Hid (ChI w5 wr g (pn + 9))) (fun i _ => pn - (intOf i).toNat)
  case atStart => exact ⟨0, by omega, rfl, HC0⟩
  case round =>
    obtain ⟨k, hk, rfl, HK⟩ := hrel
    by_cases hlt : k < pn
    · have hltI : (k : Int) < (pn : Int) := by omega
      have hk0' : (0 : Int) ≤ (k : Int) := by omega
      obtain ⟨⟨y, hy⟩, hf, hst⟩ := HK.out.step (show k < pn + 9 by omega)
      have HST : Hid (∀ z, ChI w5 (wr.setCell ⟨g, k, none⟩ (.int .u8 z)) g (pn + 9)) := hst
      clear hst
      go_wp2_with fail
      go_roundw
      case rel => exact ⟨k + 1, by omega, by go_num, HST.out _⟩
      case measure => simp [intOf]; omega
    · have hP : Pr wr B lb rb s4 t4 zs := by
        have hd := H5.out.2
        obtain ⟨cg, hg⟩ := hd.gt
        refine (show Pr w5 B lb rb s4 t4 zs from ⟨hd.log, hd.hl, hd.rf, hd.apart⟩).keeps fun j hj => HK.out.block j ?_
        rcases hj with rfl | rfl | e | e
        · intro e; rw [e] at hd; have := hd.log.blk; rw [hg] at this; cases this
        · intro e; rw [e] at hd; have := hd.rf.blk; rw [hg] at this; cases this
        · intro e2; rw [e2] at e; exact hd.offS e
        · intro e2; rw [e2] at e; exact hd.offT e
      have hBe : Hid (Below B w wr) := by
        have hd := H5.out.2
        refine hd.bel.trans ⟨HK.out.os, HK.out.tape, HK.out.output, HK.out.size, fun j hj => HK.out.block j ?_⟩
        have h9 : B ≤ g := (Row.lt hd.hand rfl).1
        omega
      have hpx : wr.heap[pb]? = some (.cells #[.pointer (some ⟨lb, 0, none⟩), .pointer (some ⟨rb, 0, none⟩)] 50 (0, 0)) := by
        have hd := H5.out.2
        obtain ⟨cg, hg⟩ := hd.gt
        refine (HK.out.block pb ?_).trans hd.pbx
        intro e; have := hd.pbx; rw [e, hg] at this; cases this
      have c0 : wr.cell? ⟨pb, 0, none⟩ = some (.pointer (some ⟨lb, 0, none⟩)) := by rw [cell_of_row wr pb 0 _ 50 (0, 0) hpx]; rfl
      have c1 : wr.cell? ⟨pb, 1, none⟩ = some (.pointer (some ⟨rb, 0, none⟩)) := by rw [cell_of_row wr pb 1 _ 50 (0, 0) hpx]; rfl
      have H25 : Calls Try.prog 25 #[.agg #[.pointer (some ⟨lb, 0, none⟩), .pointer (some ⟨rb, 0, none⟩)]] wr fun e w' => e = .returned (.bool true) ∧ Hid (DoPost w s.a B lb rb pn xs w') := by
        refine (j25 B lb rb s4 t4 zs wr hP (by have := HZ.out; omega)).mono ?_
        rintro e w' ⟨rfl, hb⟩
        have hsz : B ≤ wr.heap.size := Nat.le_of_lt (Nat.lt_of_le_of_lt hP.hl hP.log.lt)
        have hd := H5.out.2
        have hgw : w.heap.size ≤ g := HGW.out
        have hs6 : w.heap.size ≤ wr.heap.size := Nat.le_trans hd.sz HK.out.size
        exact ⟨rfl, s4, t4, zs, hP.below hb, HZ.out, hBe.out.trans (hb.mono hsz), Nat.le_trans hs6 hb.size, fun j hj h1 h2 h3 => (hb.block j (by omega)).trans ((HK.out.block j (by omega)).trans (hd.fr j hj h1 h2 h3))⟩
      clear hP hpx
      go_wp2_with fail
      refine H25.mono ?_
      rintro e w6 ⟨rfl, H6⟩
      go_wp2_with fail
      go_ret
      exact ⟨rfl, H6.out⟩
set_option maxRecDepth 100000 in
set_option maxHeartbeats 8000000 in
theorem j29_1 (B lb rb : Nat) (s t : Sl) (xs : List Int) (kn : Int) (pa : Option Addr) (pn pc : Nat) (p : List Int) (w : World) (h : Pr w B lb rb s t xs) (hp : By w pa pn pc p) (hpB : pn = 0 ∨ ∀ k, blk pa = some k → k < B) (hn : xs.length + (8 + pn) ≤ 100000000)  :
    Calls Try.prog 29 #[.agg #[.pointer (some ⟨lb, 0, none⟩), .pointer (some ⟨rb, 0, none⟩)], .agg #[.int .i64 1, .int .i64 kn, .slice pa pn pc]] w fun e w' => e = .returned (.bool true) ∧ DoPost w s.a B lb rb pn xs w' := by
  obtain ⟨W, hW⟩ : ∃ W, (w.alloc (.cells #[.pointer (some ⟨lb, 0, none⟩), .pointer (some ⟨rb, 0, none⟩)] 50)).alloc (.cells #[.int .i64 1, .int .i64 kn, .slice pa pn pc] 53) = W := ⟨_, rfl⟩
  obtain ⟨pb, hpb⟩ : ∃ pb, w.heap.size = pb := ⟨_, rfl⟩
  obtain ⟨db, hdb⟩ : ∃ db, pb + 1 = db := ⟨_, rfl⟩
  have hb : Below w.heap.size w W := by rw [← hW]; exact ((Below.refl _ w).alloc (Nat.le_refl _) _).alloc (by simp) _
  have hBw : B ≤ w.heap.size := Nat.le_of_lt (Nat.lt_of_le_of_lt h.hl h.log.lt)
  have hc1 : W.heap[pb]? = some (.cells #[.pointer (some ⟨lb, 0, none⟩), .pointer (some ⟨rb, 0, none⟩)] 50 (0, 0)) := by
    rw [← hW, ← hpb, heap_alloc_old _ _ (by simp)]; exact heap_alloc_new w _
  have hc2 : W.heap[db]? = some (.cells #[.int .i64 1, .int .i64 kn, .slice pa pn pc] 53 (0, 0)) := by
    have := heap_alloc_new (w.alloc (.cells #[.pointer (some ⟨lb, 0, none⟩), .pointer (some ⟨rb, 0, none⟩)] 50)) (.cells #[.int .i64 1, .int .i64 kn, .slice pa pn pc] 53)
    rw [← hW, ← hdb, ← hpb]; simpa using this
  have d2 : W.cell? ⟨db, 2, none⟩ = some (.slice pa pn pc) := by rw [cell_of_row W db 2 _ 53 (0, 0) hc2]; rfl
  have H9 : Calls Try.prog 9 #[.slice pa pn pc] W fun e w' => ∃ g, e = .returned (.slice (some ⟨g, 0, none⟩) pn (pn + 9)) ∧ Hid (w.heap.size ≤ g) ∧ Hid (Do2 w s.a w' B pb db g lb rb 1 kn pa pn pc p s t xs xs) := by
    refine (j9 pa pn pc p W (hp.below hb) (by omega)).mono ?_
    rintro e w' ⟨g, rfl, h1, h2⟩
    have hg : W.heap.size ≤ g := (Row.lt h1 rfl).1
    have h3 := (h.below hb).below h2
    have hsz := hb.size
    refine ⟨g, rfl, Nat.le_trans hsz hg, (h2.block pb (Array.getElem?_eq_some_iff.1 hc1).1).trans hc1, (h2.block db (Array.getElem?_eq_some_iff.1 hc2).1).trans hc2, Row.base h1 (by omega), (hp.below hb).below h2, (hb.mono hBw).trans (h2.mono (by omega)), h3.log, h3.rf, h.apart, fun e => ?_, fun e => ?_, h.hl, hpB, fun k hk _ _ _ => (h2.block k (by omega)).trans (hb.block k hk), .inl rfl, Nat.le_trans hsz h2.size⟩
    · have := (h.log.row.lt e).2; omega
    · have := (h.rf.row.lt e).2; omega
  have HPL : Hid (p.length = pn) := hp.len
  clear h hp hpB hb hc1 hc2 hBw
  go_enter Try.func29, Try.ntmps29
  go_wp2_with fail
  refine H9.mono ?_
  rintro e w1 ⟨g, rfl, HGW, H1⟩
  clear H9 d2 hW hpb hdb
  have H36 : Calls Try.prog 36 #[.pointer (some ⟨lb, 0, none⟩), .slice (some ⟨g, 0, none⟩) pn (pn + 9), .int .i64 kn] w1 fun e w' => e = .returned (.tuple #[.bool (cutA xs pn kn), .int .i64 (cutE xs pn kn)]) ∧ Hid (Logged w s.a B pb db g lb rb 1 kn pa pn pc p (cutL xs p kn) xs w') := d36 H1.out (by omega) kn
  have H52 : Hid (∀ w', Hid (Logged w s.a B pb db g lb rb 1 kn pa pn pc p (cutL xs p kn) xs w') → Calls Try.prog 52 #[.pointer (some ⟨rb, 0, none⟩), .slice pa pn pc, .int .i64 kn] w' fun e w'' => e = .returned (.tuple #[.bool (cutA xs pn kn), .int .i64 (cutE xs pn kn)]) ∧ Hid (Logged w s.a B pb db g lb rb 1 kn pa pn pc p (cutL xs p kn) (cutL xs p kn) w'')) := fun w' hw => by
    obtain ⟨s', t', h'⟩ := hw.out
    exact d52 h' (by omega) kn
  have HZ : Hid ((cutL xs p kn).length ≤ xs.length + (8 + pn)) := by have := cutL_len xs p kn; rw [HPL.out] at this; exact this
  obtain ⟨c0, c1, c2, c3, c4⟩ := H1.out.cells
  generalize cutE xs pn kn = er at *
  generalize cutA xs pn kn = ar at *
  generalize cutL xs p kn = zs at *
  have her2 : (er == er) = true := by simp
  have har2 : (ar == ar) = true := by simp
  go_wp2_with fail
  refine H36.mono ?_
  rintro e w3 ⟨rfl, H3⟩
  clear H36 c0 c1 c2 c3 c4
  obtain ⟨c0, c1, c2, c3, c4, _⟩ := doS_of H3.out
  go_wp2_with fail
  refine (H52.out _ H3).mono ?_
  rintro e w4 ⟨rfl, H4⟩
  clear H52 c0 c1 c2 c3 c4
  obtain ⟨s4, t4, hD⟩ := H4.out
  obtain ⟨c0, c1, c2, c3, c4⟩ := hD.cells
  have H22 : Calls Try.prog 22 #[.slice (some ⟨g, 0, none⟩) pn (pn + 9), .slice pa pn pc] w4 fun e w' => e = .returned (.bool true) ∧ Hid (ChI w4 w' g (pn + 9) ∧ Do2 w s.a w' B pb db g lb rb 1 kn pa pn pc p s4 t4 zs zs) := by
    refine (j22 pa pn pc g B p w4 hD.pay hD.hand (by omega)).mono ?_
    rintro e w' ⟨rfl, d, rfl⟩
    have hb := below_dN (Below.refl w4.heap.size w4) d
    refine ⟨rfl, ⟨⟨_, B, by have := Row.below hD.hand hb; rw [HPL.out] at this; exact this⟩, rfl, rfl, rfl, Nat.le_refl _, fun k _ => rfl⟩, hD.below hb⟩
  clear hD H4 H1
  go_wp2_with fail
  refine H22.mono ?_
  rintro e w5 ⟨rfl, H5⟩
  clear H22 c0 c1 c2 c3 c4
  have HC0 : Hid (ChI w5 w5 g (pn + 9)) := ⟨H5.out.1.row, rfl, rfl, rfl, Nat.le_refl _, fun k _ => rfl⟩
  go_wp2_with fail
  go_loopw [10] (fun i wr => ∃ k : Nat, k ≤ pn ∧ i = .int .i64 k ∧ Hid (ChI w5 wr g (pn + 9))) (fun i _ => pn - (intOf i).toNat)
  case atStart => exact ⟨0, by omega, rfl, HC0⟩
  case round =>
    obtain ⟨k, hk, rfl, HK⟩ := hrel
    by_cases hlt : k < pn
    · have hltI : (k : Int) < (pn : Int) := by omega
      have hk0' : (0 : Int) ≤ (k : Int) := by omega
      obtain ⟨⟨y, hy⟩, hf, hst⟩ := HK.out.step (show k < pn + 9 by omega)
      have HST : Hid (∀ z, ChI w5 (wr.setCell ⟨g, k, none⟩ (.int .u8 z)) g (pn + 9)) := hst
      clear hst
      go_wp2_with fail
      go_roundw
      case rel => exact ⟨k + 1, by omega, by go_num, HST.out _⟩
      case measure => simp [intOf]; omega
    · have hP : Pr wr B lb rb s4 t4 zs := by
        have hd := H5.out.2
        obtain ⟨cg, hg⟩ := hd.gt
        refine (show Pr w5 B lb rb s4 t4 zs from ⟨hd.log, hd.hl, hd.rf, hd.apart⟩).keeps fun j hj => HK.out.block j ?_
        rcases hj with rfl | rfl | e | e
        · intro e; rw [e] at hd; have := hd.log.blk; rw [hg] at this; cases this
        · intro e; rw [e] at hd; have := hd.rf.blk; rw [hg] at this; cases this
        · intro e2; rw [e2] at e; exact hd.offS e
        · intro e2; rw [e2] at e; exact hd.offT e
      have hBe : Hid (Below B w wr) := by
        have hd := H5.out.2
        refine hd.bel.trans ⟨HK.out.os, HK.out.tape, HK.out.output, HK.out.size, fun j hj => HK.out.block j ?_⟩
        have h9 : B ≤ g := (Row.lt hd.hand rfl).1
        omega
      have hpx : wr.heap[pb]? = some (.cells #[.pointer (some ⟨lb, 0, none⟩), .pointer (some ⟨rb, 0, none⟩)] 50 (0, 0)) := by
        have hd := H5.out.2
        obtain ⟨cg, hg⟩ := hd.gt
        refine (HK.out.block pb ?_).trans hd.pbx
        intro e; have := hd.pbx; rw [e, hg] at this; cases this
      have c0 : wr.cell? ⟨pb, 0, none⟩ = some (.pointer (some ⟨lb, 0, none⟩)) := by rw [cell_of_row wr pb 0 _ 50 (0, 0) hpx]; rfl
      have c1 : wr.cell? ⟨pb, 1, none⟩ = some (.pointer (some ⟨rb, 0, none⟩)) := by rw [cell_of_row wr pb 1 _ 50 (0, 0) hpx]; rfl
      have H25 : Calls Try.prog 25 #[.agg #[.pointer (some ⟨lb, 0, none⟩), .pointer (some ⟨rb, 0, none⟩)]] wr fun e w' => e = .returned (.bool true) ∧ Hid (DoPost w s.a B lb rb pn xs w') := by
        refine (j25 B lb rb s4 t4 zs wr hP (by have := HZ.out; omega)).mono ?_
        rintro e w' ⟨rfl, hb⟩
        have hsz : B ≤ wr.heap.size := Nat.le_of_lt (Nat.lt_of_le_of_lt hP.hl hP.log.lt)
        have hd := H5.out.2
        have hgw : w.heap.size ≤ g := HGW.out
        have hs6 : w.heap.size ≤ wr.heap.size := Nat.le_trans hd.sz HK.out.size
        exact ⟨rfl, s4, t4, zs, hP.below hb, HZ.out, hBe.out.trans (hb.mono hsz), Nat.le_trans hs6 hb.size, fun j hj h1 h2 h3 => (hb.block j (by omega)).trans ((HK.out.block j (by omega)).trans (hd.fr j hj h1 h2 h3))⟩
      clear hP hpx
      go_wp2_with fail
      refine H25.mono ?_
      rintro e w6 ⟨rfl, H6⟩
      go_wp2_with fail
      go_ret
      exact ⟨rfl, H6.out⟩
set_option maxRecDepth 100000 in
set_option maxHeartbeats 8000000 in
theorem j29_2 (B lb rb : Nat) (s t : Sl) (xs : List Int) (kn : Int) (pa : Option Addr) (pn pc : Nat) (p : List Int) (w : World) (h : Pr w B lb rb s t xs) (hp : By w pa pn pc p) (hpB : pn = 0 ∨ ∀ k, blk pa = some k → k < B) (hn : xs.length + (8 + pn) ≤ 100000000)  :
    Calls Try.prog 29 #[.agg #[.pointer (some ⟨lb, 0, none⟩), .pointer (some ⟨rb, 0, none⟩)], .agg #[.int .i64 2, .int .i64 kn, .slice pa pn pc]] w fun e w' => e = .returned (.bool true) ∧ DoPost w s.a B lb rb pn xs w' := by
  obtain ⟨W, hW⟩ : ∃ W, (w.alloc (.cells #[.pointer (some ⟨lb, 0, none⟩), .pointer (some ⟨rb, 0, none⟩)] 50)).alloc (.cells #[.int .i64 2, .int .i64 kn, .slice pa pn pc] 53) = W := ⟨_, rfl⟩
  obtain ⟨pb, hpb⟩ : ∃ pb, w.heap.size = pb := ⟨_, rfl⟩
  obtain ⟨db, hdb⟩ : ∃ db, pb + 1 = db := ⟨_, rfl⟩
  have hb : Below w.heap.size w W := by rw [← hW]; exact ((Below.refl _ w).alloc (Nat.le_refl _) _).alloc (by simp) _
  have hBw : B ≤ w.heap.size := Nat.le_of_lt (Nat.lt_of_le_of_lt h.hl h.log.lt)
  have hc1 : W.heap[pb]? = some (.cells #[.pointer (some ⟨lb, 0, none⟩), .pointer (some ⟨rb, 0, none⟩)] 50 (0, 0)) := by
    rw [← hW, ← hpb, heap_alloc_old _ _ (by simp)]; exact heap_alloc_new w _
  have hc2 : W.heap[db]? = some (.cells #[.int .i64 2, .int .i64 kn, .slice pa pn pc] 53 (0, 0)) := by
    have := heap_alloc_new (w.alloc (.cells #[.pointer (some ⟨lb, 0, none⟩), .pointer (some ⟨rb, 0, none⟩)] 50)) (.cells #[.int .i64 2, .int .i64 kn, .slice pa pn pc] 53)
    rw [← hW, ← hdb, ← hpb]; simpa using this
  have d2 : W.cell? ⟨db, 2, none⟩ = some (.slice pa pn pc) := by rw [cell_of_row W db 2 _ 53 (0, 0) hc2]; rfl
  have H9 : Calls Try.prog 9 #[.slice pa pn pc] W fun e w' => ∃ g, e = .returned (.slice (some ⟨g, 0, none⟩) pn (pn + 9)) ∧ Hid (w.heap.size ≤ g) ∧ Hid (Do2 w s.a w' B pb db g lb rb 2 kn pa pn pc p s t xs xs) := by
    refine (j9 pa pn pc p W (hp.below hb) (by omega)).mono ?_
    rintro e w' ⟨g, rfl, h1, h2⟩
    have hg : W.heap.size ≤ g := (Row.lt h1 rfl).1
    have h3 := (h.below hb).below h2
    have hsz := hb.size
    refine ⟨g, rfl, Nat.le_trans hsz hg, (h2.block pb (Array.getElem?_eq_some_iff.1 hc1).1).trans hc1, (h2.block db (Array.getElem?_eq_some_iff.1 hc2).1).trans hc2, Row.base h1 (by omega), (hp.below hb).below h2, (hb.mono hBw).trans (h2.mono (by omega)), h3.log, h3.rf, h.apart, fun e => ?_, fun e => ?_, h.hl, hpB, fun k hk _ _ _ => (h2.block k (by omega)).trans (hb.block k hk), .inl rfl, Nat.le_trans hsz h2.size⟩
    · have := (h.log.row.lt e).2; omega
    · have := (h.rf.row.lt e).2; omega
  have HPL : Hid (p.length = pn) := hp.len
  clear h hp hpB hb hc1 hc2 hBw
  go_enter Try.func29, Try.ntmps29
  go_wp2_with fail
  refine H9.mono ?_
  rintro e w1 ⟨g, rfl, HGW, H1⟩
  clear H9 d2 hW hpb hdb
  have H31 : Calls Try.prog 31 #[.pointer (some ⟨lb, 0, none⟩)] w1.drew fun e w' => e = .returned (.int .i64 (menN xs)) ∧ Hid (Logged w s.a B pb db g lb rb 2 kn pa pn pc p (xs.take (lastE (recs 0 xs))) xs w') := d31 (H1.out.below ((Below.refl _ w1).drew)) (by omega)
  have H53 : Hid (∀ w', Hid (Logged w s.a B pb db g lb rb 2 kn pa pn pc p (xs.take (lastE (recs 0 xs))) xs w') → Calls Try.prog 53 #[.pointer (some ⟨rb, 0, none⟩)] w' fun e w'' => e = .returned (.int .i64 (menN xs)) ∧ Hid (Logged w s.a B pb db g lb rb 2 kn pa pn pc p (xs.take (lastE (recs 0 xs))) (xs.take (lastE (recs 0 xs))) w'')) := fun w' hw => by
    obtain ⟨s', t', h'⟩ := hw.out
    exact d53 h' (by omega)
  have HZ : Hid ((xs.take (lastE (recs 0 xs))).length ≤ xs.length + (8 + pn)) := by
    show (xs.take (lastE (recs 0 xs))).length ≤ xs.length + (8 + pn)
    rw [List.length_take]; omega
  have HS0 : Hid (DoS w s.a B pb db g lb rb 2 kn pa pn pc p w1) := doS_of ⟨s, t, H1.out⟩
  obtain ⟨c0, c1, c2, c3, c4, _⟩ := HS0.out
  generalize menN xs = er at *
  generalize xs.take (lastE (recs 0 xs)) = zs at *
  have her : (er != er) = false := by simp
  have her2 : (er == er) = true := by simp
  go_wp2_with fail
  go_region_held3 (fun w' => DoS w s.a B pb db g lb rb 2 kn pa pn pc p w')
    (first | exact doS_drew HS0.out | (refine doS_drew ?_; assumption) | assumption | exact doS_of (Hid.out (by assumption)))
    (first
      | (go_at_call 31; refine H31.mono ?_; rintro e w3 ⟨rfl, H3⟩)
      | (go_at_call 53; refine (H53.out _ H3).mono ?_; rintro e w4 ⟨rfl, H4⟩))
  clear H31 H53
  obtain ⟨s4, t4, hD⟩ := H4.out
  obtain ⟨c0, c1, c2, c3, c4⟩ := hD.cells
  have H22 : Calls Try.prog 22 #[.slice (some ⟨g, 0, none⟩) pn (pn + 9), .slice pa pn pc] w4 fun e w' => e = .returned (.bool true) ∧ Hid (ChI w4 w' g (pn + 9) ∧ Do2 w s.a w' B pb db g lb rb 2 kn pa pn pc p s4 t4 zs zs) := by
    refine (j22 pa pn pc g B p w4 hD.pay hD.hand (by omega)).mono ?_
    rintro e w' ⟨rfl, d, rfl⟩
    have hb := below_dN (Below.refl w4.heap.size w4) d
    refine ⟨rfl, ⟨⟨_, B, by have := Row.below hD.hand hb; rw [HPL.out] at this; exact this⟩, rfl, rfl, rfl, Nat.le_refl _, fun k _ => rfl⟩, hD.below hb⟩
  clear hD H4 H1
  go_wp2_with fail
  refine H22.mono ?_
  rintro e w5 ⟨rfl, H5⟩
  clear H22 c0 c1 c2 c3 c4
  have HC0 : Hid (ChI w5 w5 g (pn + 9)) := ⟨H5.out.1.row, rfl, rfl, rfl, Nat.le_refl _, fun k _ => rfl⟩
  go_wp2_with fail
  go_loopw [10] (fun i wr => ∃ k : Nat, k ≤ pn ∧ i = .int .i64 k ∧ Hid (ChI w5 wr g (pn + 9))) (fun i _ => pn - (intOf i).toNat)
  case atStart => exact ⟨0, by omega, rfl, HC0⟩
  case round =>
    obtain ⟨k, hk, rfl, HK⟩ := hrel
    by_cases hlt : k < pn
    · have hltI : (k : Int) < (pn : Int) := by omega
      have hk0' : (0 : Int) ≤ (k : Int) := by omega
      obtain ⟨⟨y, hy⟩, hf, hst⟩ := HK.out.step (show k < pn + 9 by omega)
      have HST : Hid (∀ z, ChI w5 (wr.setCell ⟨g, k, none⟩ (.int .u8 z)) g (pn + 9)) := hst
      clear hst
      go_wp2_with fail
      go_roundw
      case rel => exact ⟨k + 1, by omega, by go_num, HST.out _⟩
      case measure => simp [intOf]; omega
    · have hP : Pr wr B lb rb s4 t4 zs := by
        have hd := H5.out.2
        obtain ⟨cg, hg⟩ := hd.gt
        refine (show Pr w5 B lb rb s4 t4 zs from ⟨hd.log, hd.hl, hd.rf, hd.apart⟩).keeps fun j hj => HK.out.block j ?_
        rcases hj with rfl | rfl | e | e
        · intro e; rw [e] at hd; have := hd.log.blk; rw [hg] at this; cases this
        · intro e; rw [e] at hd; have := hd.rf.blk; rw [hg] at this; cases this
        · intro e2; rw [e2] at e; exact hd.offS e
        · intro e2; rw [e2] at e; exact hd.offT e
      have hBe : Hid (Below B w wr) := by
        have hd := H5.out.2
        refine hd.bel.trans ⟨HK.out.os, HK.out.tape, HK.out.output, HK.out.size, fun j hj => HK.out.block j ?_⟩
        have h9 : B ≤ g := (Row.lt hd.hand rfl).1
        omega
      have hpx : wr.heap[pb]? = some (.cells #[.pointer (some ⟨lb, 0, none⟩), .pointer (some ⟨rb, 0, none⟩)] 50 (0, 0)) := by
        have hd := H5.out.2
        obtain ⟨cg, hg⟩ := hd.gt
        refine (HK.out.block pb ?_).trans hd.pbx
        intro e; have := hd.pbx; rw [e, hg] at this; cases this
      have c0 : wr.cell? ⟨pb, 0, none⟩ = some (.pointer (some ⟨lb, 0, none⟩)) := by rw [cell_of_row wr pb 0 _ 50 (0, 0) hpx]; rfl
      have c1 : wr.cell? ⟨pb, 1, none⟩ = some (.pointer (some ⟨rb, 0, none⟩)) := by rw [cell_of_row wr pb 1 _ 50 (0, 0) hpx]; rfl
      have H25 : Calls Try.prog 25 #[.agg #[.pointer (some ⟨lb, 0, none⟩), .pointer (some ⟨rb, 0, none⟩)]] wr fun e w' => e = .returned (.bool true) ∧ Hid (DoPost w s.a B lb rb pn xs w') := by
        refine (j25 B lb rb s4 t4 zs wr hP (by have := HZ.out; omega)).mono ?_
        rintro e w' ⟨rfl, hb⟩
        have hsz : B ≤ wr.heap.size := Nat.le_of_lt (Nat.lt_of_le_of_lt hP.hl hP.log.lt)
        have hd := H5.out.2
        have hgw : w.heap.size ≤ g := HGW.out
        have hs6 : w.heap.size ≤ wr.heap.size := Nat.le_trans hd.sz HK.out.size
        exact ⟨rfl, s4, t4, zs, hP.below hb, HZ.out, hBe.out.trans (hb.mono hsz), Nat.le_trans hs6 hb.size, fun j hj h1 h2 h3 => (hb.block j (by omega)).trans ((HK.out.block j (by omega)).trans (hd.fr j hj h1 h2 h3))⟩
      clear hP hpx
      go_wp2_with fail
      refine H25.mono ?_
      rintro e w6 ⟨rfl, H6⟩
      go_wp2_with fail
      go_ret
      exact ⟨rfl, H6.out⟩
set_option maxRecDepth 100000 in
set_option maxHeartbeats 8000000 in
theorem j29_3 (B lb rb : Nat) (s t : Sl) (xs : List Int) (kd kn : Int) (pa : Option Addr) (pn pc : Nat) (p : List Int) (w : World) (h : Pr w B lb rb s t xs) (hp : By w pa pn pc p) (hpB : pn = 0 ∨ ∀ k, blk pa = some k → k < B) (hn : xs.length + (8 + pn) ≤ 100000000) (hk0 : ¬ kd = 0) (hk1 : ¬ kd = 1) (hk2 : ¬ kd = 2) :
    Calls Try.prog 29 #[.agg #[.pointer (some ⟨lb, 0, none⟩), .pointer (some ⟨rb, 0, none⟩)], .agg #[.int .i64 kd, .int .i64 kn, .slice pa pn pc]] w fun e w' => e = .returned (.bool true) ∧ DoPost w s.a B lb rb pn xs w' := by
  obtain ⟨W, hW⟩ : ∃ W, (w.alloc (.cells #[.pointer (some ⟨lb, 0, none⟩), .pointer (some ⟨rb, 0, none⟩)] 50)).alloc (.cells #[.int .i64 kd, .int .i64 kn, .slice pa pn pc] 53) = W := ⟨_, rfl⟩
  obtain ⟨pb, hpb⟩ : ∃ pb, w.heap.size = pb := ⟨_, rfl⟩
  obtain ⟨db, hdb⟩ : ∃ db, pb + 1 = db := ⟨_, rfl⟩
  have hb : Below w.heap.size w W := by rw [← hW]; exact ((Below.refl _ w).alloc (Nat.le_refl _) _).alloc (by simp) _
  have hBw : B ≤ w.heap.size := Nat.le_of_lt (Nat.lt_of_le_of_lt h.hl h.log.lt)
  have hc1 : W.heap[pb]? = some (.cells #[.pointer (some ⟨lb, 0, none⟩), .pointer (some ⟨rb, 0, none⟩)] 50 (0, 0)) := by
    rw [← hW, ← hpb, heap_alloc_old _ _ (by simp)]; exact heap_alloc_new w _
  have hc2 : W.heap[db]? = some (.cells #[.int .i64 kd, .int .i64 kn, .slice pa pn pc] 53 (0, 0)) := by
    have := heap_alloc_new (w.alloc (.cells #[.pointer (some ⟨lb, 0, none⟩), .pointer (some ⟨rb, 0, none⟩)] 50)) (.cells #[.int .i64 kd, .int .i64 kn, .slice pa pn pc] 53)
    rw [← hW, ← hdb, ← hpb]; simpa using this
  have d2 : W.cell? ⟨db, 2, none⟩ = some (.slice pa pn pc) := by rw [cell_of_row W db 2 _ 53 (0, 0) hc2]; rfl
  have H9 : Calls Try.prog 9 #[.slice pa pn pc] W fun e w' => ∃ g, e = .returned (.slice (some ⟨g, 0, none⟩) pn (pn + 9)) ∧ Hid (w.heap.size ≤ g) ∧ Hid (Do2 w s.a w' B pb db g lb rb kd kn pa pn pc p s t xs xs) := by
    refine (j9 pa pn pc p W (hp.below hb) (by omega)).mono ?_
    rintro e w' ⟨g, rfl, h1, h2⟩
    have hg : W.heap.size ≤ g := (Row.lt h1 rfl).1
    have h3 := (h.below hb).below h2
    have hsz := hb.size
    refine ⟨g, rfl, Nat.le_trans hsz hg, (h2.block pb (Array.getElem?_eq_some_iff.1 hc1).1).trans hc1, (h2.block db (Array.getElem?_eq_some_iff.1 hc2).1).trans hc2, Row.base h1 (by omega), (hp.below hb).below h2, (hb.mono hBw).trans (h2.mono (by omega)), h3.log, h3.rf, h.apart, fun e => ?_, fun e => ?_, h.hl, hpB, fun k hk _ _ _ => (h2.block k (by omega)).trans (hb.block k hk), .inl rfl, Nat.le_trans hsz h2.size⟩
    · have := (h.log.row.lt e).2; omega
    · have := (h.rf.row.lt e).2; omega
  have HPL : Hid (p.length = pn) := hp.len
  clear h hp hpB hb hc1 hc2 hBw
  go_enter Try.func29, Try.ntmps29
  go_wp2_with fail
  refine H9.mono ?_
  rintro e w1 ⟨g, rfl, HGW, H1⟩
  clear H9 d2 hW hpb hdb
  have H4 : Hid (Logged w s.a B pb db g lb rb kd kn pa pn pc p xs xs w1) := ⟨s, t, H1.out⟩
  have HZ : Hid (xs.length ≤ xs.length + (8 + pn)) := Nat.le_add_right _ _
  have hq0 : (kd == 0) = false := by simp [hk0]
  have hq1 : (kd == 1) = false := by simp [hk1]
  have hq2 : (kd == 2) = false := by simp [hk2]
  obtain ⟨zs, hzs⟩ : ∃ zs, xs = zs := ⟨_, rfl⟩
  have HXZ : Hid (xs = zs) := hzs
  have H4z : Hid (Logged w s.a B pb db g lb rb kd kn pa pn pc p zs zs w1) := by rw [← hzs]; exact H4.out
  have HZz : Hid (zs.length ≤ xs.length + (8 + pn)) := by rw [← hzs]; exact HZ.out
  clear H4 HZ hzs
  have HZ := HZz
  have H4 := H4z
  clear HZz H4z
  obtain ⟨c0, c1, c2, c3, c4, _⟩ := doS_of H4.out
  obtain ⟨s4, t4, hD⟩ := H4.out
  obtain ⟨c0, c1, c2, c3, c4⟩ := hD.cells
  have H22 : Calls Try.prog 22 #[.slice (some ⟨g, 0, none⟩) pn (pn + 9), .slice pa pn pc] w1 fun e w' => e = .returned (.bool true) ∧ Hid (ChI w1 w' g (pn + 9) ∧ Do2 w s.a w' B pb db g lb rb kd kn pa pn pc p s4 t4 zs zs) := by
    refine (j22 pa pn pc g B p w1 hD.pay hD.hand (by omega)).mono ?_
    rintro e w' ⟨rfl, d, rfl⟩
    have hb := below_dN (Below.refl w1.heap.size w1) d
    refine ⟨rfl, ⟨⟨_, B, by have := Row.below hD.hand hb; rw [HPL.out] at this; exact this⟩, rfl, rfl, rfl, Nat.le_refl _, fun k _ => rfl⟩, hD.below hb⟩
  clear hD H4 H1
  go_wp2_with fail
  refine H22.mono ?_
  rintro e w5 ⟨rfl, H5⟩
  clear H22 c0 c1 c2 c3 c4
  have HC0 : Hid (ChI w5 w5 g (pn + 9)) := ⟨H5.out.1.row, rfl, rfl, rfl, Nat.le_refl _, fun k _ => rfl⟩
  go_wp2_with fail
  go_loopw [10] (fun i wr => ∃ k : Nat, k ≤ pn ∧ i = .int .i64 k ∧ Hid (ChI w5 wr g (pn + 9))) (fun i _ => pn - (intOf i).toNat)
  case atStart => exact ⟨0, by omega, rfl, HC0⟩
  case round =>
    obtain ⟨k, hk, rfl, HK⟩ := hrel
    by_cases hlt : k < pn
    · have hltI : (k : Int) < (pn : Int) := by omega
      have hk0' : (0 : Int) ≤ (k : Int) := by omega
      obtain ⟨⟨y, hy⟩, hf, hst⟩ := HK.out.step (show k < pn + 9 by omega)
      have HST : Hid (∀ z, ChI w5 (wr.setCell ⟨g, k, none⟩ (.int .u8 z)) g (pn + 9)) := hst
      clear hst
      go_wp2_with fail
      go_roundw
      case rel => exact ⟨k + 1, by omega, by go_num, HST.out _⟩
      case measure => simp [intOf]; omega
    · have hP : Pr wr B lb rb s4 t4 zs := by
        have hd := H5.out.2
        obtain ⟨cg, hg⟩ := hd.gt
        refine (show Pr w5 B lb rb s4 t4 zs from ⟨hd.log, hd.hl, hd.rf, hd.apart⟩).keeps fun j hj => HK.out.block j ?_
        rcases hj with rfl | rfl | e | e
        · intro e; rw [e] at hd; have := hd.log.blk; rw [hg] at this; cases this
        · intro e; rw [e] at hd; have := hd.rf.blk; rw [hg] at this; cases this
        · intro e2; rw [e2] at e; exact hd.offS e
        · intro e2; rw [e2] at e; exact hd.offT e
      have hBe : Hid (Below B w wr) := by
        have hd := H5.out.2
        refine hd.bel.trans ⟨HK.out.os, HK.out.tape, HK.out.output, HK.out.size, fun j hj => HK.out.block j ?_⟩
        have h9 : B ≤ g := (Row.lt hd.hand rfl).1
        omega
      have hpx : wr.heap[pb]? = some (.cells #[.pointer (some ⟨lb, 0, none⟩), .pointer (some ⟨rb, 0, none⟩)] 50 (0, 0)) := by
        have hd := H5.out.2
        obtain ⟨cg, hg⟩ := hd.gt
        refine (HK.out.block pb ?_).trans hd.pbx
        intro e; have := hd.pbx; rw [e, hg] at this; cases this
      have c0 : wr.cell? ⟨pb, 0, none⟩ = some (.pointer (some ⟨lb, 0, none⟩)) := by rw [cell_of_row wr pb 0 _ 50 (0, 0) hpx]; rfl
      have c1 : wr.cell? ⟨pb, 1, none⟩ = some (.pointer (some ⟨rb, 0, none⟩)) := by rw [cell_of_row wr pb 1 _ 50 (0, 0) hpx]; rfl
      have H25 : Calls Try.prog 25 #[.agg #[.pointer (some ⟨lb, 0, none⟩), .pointer (some ⟨rb, 0, none⟩)]] wr fun e w' => e = .returned (.bool true) ∧ Hid (DoPost w s.a B lb rb pn xs w') := by
        refine (j25 B lb rb s4 t4 zs wr hP (by have := HZ.out; omega)).mono ?_
        rintro e w' ⟨rfl, hb⟩
        have hsz : B ≤ wr.heap.size := Nat.le_of_lt (Nat.lt_of_le_of_lt hP.hl hP.log.lt)
        have hd := H5.out.2
        have hgw : w.heap.size ≤ g := HGW.out
        have hs6 : w.heap.size ≤ wr.heap.size := Nat.le_trans hd.sz HK.out.size
        exact ⟨rfl, s4, t4, zs, hP.below hb, HZ.out, hBe.out.trans (hb.mono hsz), Nat.le_trans hs6 hb.size, fun j hj h1 h2 h3 => (hb.block j (by omega)).trans ((HK.out.block j (by omega)).trans (hd.fr j hj h1 h2 h3))⟩
      clear hP hpx
      go_wp2_with fail
      refine H25.mono ?_
      rintro e w6 ⟨rfl, H6⟩
      go_wp2_with fail
      go_ret
      exact ⟨rfl, H6.out⟩
theorem j29 (B lb rb : Nat) (s t : Sl) (xs : List Int) (kd kn : Int) (pa : Option Addr) (pn pc : Nat) (p : List Int) (w : World) (h : Pr w B lb rb s t xs) (hp : By w pa pn pc p) (hpB : pn = 0 ∨ ∀ k, blk pa = some k → k < B) (hn : xs.length + (8 + pn) ≤ 100000000) :
    Calls Try.prog 29 #[.agg #[.pointer (some ⟨lb, 0, none⟩), .pointer (some ⟨rb, 0, none⟩)], .agg #[.int .i64 kd, .int .i64 kn, .slice pa pn pc]] w fun e w' => e = .returned (.bool true) ∧ DoPost w s.a B lb rb pn xs w' := by
  by_cases hk0 : kd = 0
  · subst hk0; exact j29_0 B lb rb s t xs kn pa pn pc p w h hp hpB hn
  · by_cases hk1 : kd = 1
    · subst hk1; exact j29_1 B lb rb s t xs kn pa pn pc p w h hp hpB hn
    · by_cases hk2 : kd = 2
      · subst hk2; exact j29_2 B lb rb s t xs kn pa pn pc p w h hp hpB hn
      · exact j29_3 B lb rb s t xs kd kn pa pn pc p w h hp hpB hn hk0 hk1 hk2
end Go.Proofs.Ythomdgafaffphaa
