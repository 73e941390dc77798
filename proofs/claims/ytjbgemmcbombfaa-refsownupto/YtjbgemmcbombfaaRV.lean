/- Contract of RefsOwn. -/
import Derived.Test.YtjbgemmcbombfaaRT
namespace Go.Proofs.Ytjbgemmcbombfaa
open Go.RowKit
attribute [local go_sem ↓] Go.wp_at_zero Go.wp_at_succ
/-- Exports and Imports of a table whose rows are known. -/
theorem r18l (B tb eb ib n : Nat) (own nodes : Int) (f g : Hk → Int) (L : List Ct) (m : Nat) (w : World) (h : RtAt w B tb eb ib n own nodes f g) (hn : n ≤ 1000000000) (hL : Rises f L) (hm : L.length = m) :
    Calls Try.prog 18 #[.pointer (some ⟨tb, 0, none⟩)] w fun e w' => ∃ a c, e = .returned (.slice a m c) ∧ Hid (Below w.heap.size w w' ∧ CtR w' a m L ∧ ∀ k, blk a = some k → w.heap.size ≤ k ∧ k < w'.heap.size) := by
  refine (r18g B tb eb ib n own nodes f g w h hn).mono ?_
  rintro e w' ⟨a, m', c, rfl, L', hl, hR⟩
  have hE : L' = L := hR.1.like hL fun _ _ => rfl
  have hc := hR.ctr hl
  subst hE
  obtain rfl : m' = m := by rw [← hl, hm]
  refine ⟨a, c, rfl, hR.2.2, hc, fun k hk => ?_⟩
  rcases hR.2.1.2 with ⟨e, _⟩ | ⟨g', cap, cur, e, h1, h2, _⟩
  · simp only [Value.slice.injEq] at e
    rw [e.1] at hk; cases hk
  · simp only [Value.slice.injEq] at e
    rw [e.1] at hk
    obtain rfl : g' = k := by simpa [blk] using hk
    exact ⟨h1, (Array.getElem?_eq_some_iff.1 h2).1⟩
theorem r25l (B tb eb ib n : Nat) (own nodes : Int) (f g : Hk → Int) (L : List Ct) (m : Nat) (w : World) (h : RtAt w B tb eb ib n own nodes f g) (hn : n ≤ 1000000000) (hL : Rises g L) (hm : L.length = m) :
    Calls Try.prog 25 #[.pointer (some ⟨tb, 0, none⟩)] w fun e w' => ∃ a c, e = .returned (.slice a m c) ∧ Hid (Below w.heap.size w w' ∧ CtR w' a m L ∧ ∀ k, blk a = some k → w.heap.size ≤ k ∧ k < w'.heap.size) := by
  refine (r25g B tb eb ib n own nodes f g w h hn).mono ?_
  rintro e w' ⟨a, m', c, rfl, L', hl, hR⟩
  have hE : L' = L := hR.1.like hL fun _ _ => rfl
  have hc := hR.ctr hl
  subst hE
  obtain rfl : m' = m := by rw [← hl, hm]
  refine ⟨a, c, rfl, hR.2.2, hc, fun k hk => ?_⟩
  rcases hR.2.1.2 with ⟨e, _⟩ | ⟨g', cap, cur, e, h1, h2, _⟩
  · simp only [Value.slice.injEq] at e
    rw [e.1] at hk; cases hk
  · simp only [Value.slice.injEq] at e
    rw [e.1] at hk
    obtain rfl : g' = k := by simpa [blk] using hk
    exact ⟨h1, (Array.getElem?_eq_some_iff.1 h2).1⟩
/-- A row of counts that may be written. -/
def Sh (w : World) (a : Option Addr) (n : Nat) : Prop := n = 0 ∨ ∃ g cur, a = some ⟨g, 0, none⟩ ∧ w.heap[g]? = some (.cells cur 74 (0, 0)) ∧ n * 4 ≤ cur.size
theorem CtR.sh {w : World} {a : Option Addr} {n : Nat} {L : List Ct} (h : CtR w a n L) : Sh w a n := by
  rcases h.mem with e | ⟨g, cur, e, h1, h2⟩
  · exact .inl e
  · refine .inr ⟨g, cur, e, h1, ?_⟩
    have h3 := congrArg List.length h2
    rw [flatMap_len encC_len, h.len, List.length_take] at h3
    simp at h3
    omega
theorem Sh.set {w : World} {a : Option Addr} {n : Nat} (h : Sh w a n) (p : Addr) (hp : p.spot = none) (v : Value) : Sh (w.setCell p v) a n := by
  rcases h with e | ⟨g, cur, e, h1, h2⟩
  · exact .inl e
  · obtain ⟨b, j, s⟩ := p
    simp only at hp
    subst hp
    by_cases hb : b = g
    · subst hb
      exact .inr ⟨b, _, e, heap_setCell_same w b j _ 74 v h1, by simpa using h2⟩
    · exact .inr ⟨g, cur, e, by rw [heap_setCell_other w ⟨b, j, none⟩ g v (Ne.symm hb)]; exact h1, h2⟩
theorem Sh.at {w : World} {a : Option Addr} {n : Nat} (h : Sh w a n) {k : Nat} (hk : k < n) : ∃ g v, a = some ⟨g, 0, none⟩ ∧ w.cell? ⟨g, k * 4 + 3, none⟩ = some v ∧ w.frozen? ⟨g, k * 4 + 3, none⟩ = false := by
  rcases h with e | ⟨g, cur, e, h1, h2⟩
  · omega
  · have hj : k * 4 + 3 < cur.size := by omega
    refine ⟨g, cur[k * 4 + 3], e, ?_, frozen_of_row w g _ _ 74 h1⟩
    rw [cell_of_row w g _ _ 74 (0, 0) h1, Array.getElem?_eq_getElem hj]
/-- Nothing but two rows was written. -/
structure Kp (w w' : World) (a b : Option Addr) : Prop where
  os : w'.os = w.os
  tape : w'.tape = w.tape
  output : w'.output = w.output
  size : w'.heap.size = w.heap.size
  block : ∀ j, blk a ≠ some j → blk b ≠ some j → w'.heap[j]? = w.heap[j]?
theorem Kp.refl (w : World) (a b : Option Addr) : Kp w w a b := ⟨rfl, rfl, rfl, rfl, fun _ _ _ => rfl⟩
theorem Kp.set {w w' : World} {a b : Option Addr} (h : Kp w w' a b) {g : Nat} (hg : blk a = some g ∨ blk b = some g) (j : Nat) (v : Value) : Kp w (w'.setCell ⟨g, j, none⟩ v) a b :=
  ⟨h.os, h.tape, h.output, by simpa using h.size, fun i h1 h2 => by
    have hne : i ≠ g := fun e => by subst e; rcases hg with e | e; exact h1 e; exact h2 e
    rw [heap_setCell_other w' ⟨g, j, none⟩ i v hne]
    exact h.block i h1 h2⟩
def Md (w5 wr : World) (a b : Option Addr) (n m : Nat) : Prop := Kp w5 wr a b ∧ Sh wr a n ∧ Sh wr b m
/-- Both tables, and the row that was told. -/
structure Fs (w W : World) (tb eb ib tb' eb' ib' B B' N : Nat) (f g : Hk → Int) (a3 : Option Addr) (m3 : Nat) (L : List Ct) : Prop where
  t1 : RtAt W B tb eb ib N 0 4 f g
  t2 : RtAt W B' tb' eb' ib' N 0 4 f g
  row : CtR W a3 m3 L
  bel : Below w.heap.size w W
theorem Fs.below {w W W' : World} {tb eb ib tb' eb' ib' B B' N : Nat} {f g : Hk → Int} {a3 : Option Addr} {m3 : Nat} {L : List Ct} (h : Fs w W tb eb ib tb' eb' ib' B B' N f g a3 m3 L) (hb : Below W.heap.size W W') : Fs w W' tb eb ib tb' eb' ib' B B' N f g a3 m3 L :=
  ⟨h.t1.below hb, h.t2.below hb, h.row.below hb, h.bel.trans (hb.mono h.bel.size)⟩
set_option maxRecDepth 100000 in
set_option maxHeartbeats 8000000 in
theorem r8 (a : Option Addr) (n c : Nat) (es : List Dd) (w : World) (h : DdRow w a n es) (hn : tot es ≤ 1000000000) : Calls Try.prog 8 #[.slice a n c] w fun e w' => e = .returned (.bool true) ∧ Below w.heap.size w w' := by
  have HH : Hid (DdRow w a n es ∧ tot es ≤ 1000000000) := ⟨h, hn⟩
  have H11 : Calls Try.prog 11 #[] w fun e w' => e = .returned (.bool true) ∧ Hid (Below w.heap.size w w') := r11 w
  clear h hn
  go_enter Try.func8, Try.ntmps8
  go_wp2_with fail
  refine H11.mono ?_
  rintro e w1 ⟨rfl, H1⟩
  clear H11
  have H17 : Calls Try.prog 17 #[.slice a n c] w1 fun e w' => ∃ tb, e = .returned (.pointer (some ⟨tb, 0, none⟩)) ∧ Hid (RunTo w1 w' tb es) := r17 a n c es w1 (HH.out.1.below H1.out) HH.out.2
  go_wp2_with fail
  refine H17.mono ?_
  rintro e w2 ⟨tb, rfl, H2⟩
  clear H17
  obtain ⟨eb, ib, H2'⟩ : ∃ eb ib, Hid (RtAt w2 w1.heap.size tb eb ib (tot es) 0 4 (runE es) (runI es) ∧ Below w.heap.size w w2) := by
    obtain ⟨eb, ib, h1, h2⟩ := H2.out
    exact ⟨eb, ib, h1, H1.out.trans (h2.mono H1.out.size)⟩
  clear H2 H1
  have H18 : Calls Try.prog 18 #[.pointer (some ⟨tb, 0, none⟩)] w2 fun e w' => ∃ a1 m1 c1, e = .returned (.slice a1 m1 c1) ∧ Hid (∃ L, L.length = m1 ∧ RiseTo2 w2 (runE es) L (.slice a1 m1 c1) w') := r18g _ tb eb ib _ 0 4 _ _ w2 H2'.out.1 HH.out.2
  go_wp2_with fail
  refine H18.mono ?_
  rintro e w3 ⟨a1, m1, c1, rfl, H3⟩
  clear H18
  obtain ⟨L1, H3'⟩ : ∃ L1, Hid (Below w2.heap.size w2 w3 ∧ CtR w3 a1 m1 L1 ∧ Rises (runE es) L1 ∧ ∀ k, blk a1 = some k → w2.heap.size ≤ k ∧ k < w3.heap.size) := by
    obtain ⟨L, hl, hR⟩ := H3.out
    refine ⟨L, hR.2.2, hR.ctr hl, hR.1, fun k hk => ?_⟩
    rcases hR.2.1.2 with ⟨e, _⟩ | ⟨g', cap, cur, e, h1, h2, _⟩
    · simp only [Value.slice.injEq] at e
      rw [e.1] at hk; cases hk
    · simp only [Value.slice.injEq] at e
      rw [e.1] at hk
      obtain rfl : g' = k := by simpa [blk] using hk
      exact ⟨h1, (Array.getElem?_eq_some_iff.1 h2).1⟩
  clear H3
  have H25 : Calls Try.prog 25 #[.pointer (some ⟨tb, 0, none⟩)] w3 fun e w' => ∃ a1 m1 c1, e = .returned (.slice a1 m1 c1) ∧ Hid (∃ L, L.length = m1 ∧ RiseTo2 w3 (runI es) L (.slice a1 m1 c1) w') := r25g _ tb eb ib _ 0 4 _ _ w3 (H2'.out.1.below H3'.out.1) HH.out.2
  go_wp2_with fail
  refine H25.mono ?_
  rintro e w4 ⟨a2, m2, c2, rfl, H4⟩
  clear H25
  obtain ⟨L2, H4'⟩ : ∃ L2, Hid (Below w3.heap.size w3 w4 ∧ CtR w4 a2 m2 L2 ∧ Rises (runI es) L2 ∧ ∀ k, blk a2 = some k → w3.heap.size ≤ k ∧ k < w4.heap.size) := by
    obtain ⟨L, hl, hR⟩ := H4.out
    refine ⟨L, hR.2.2, hR.ctr hl, hR.1, fun k hk => ?_⟩
    rcases hR.2.1.2 with ⟨e, _⟩ | ⟨g', cap, cur, e, h1, h2, _⟩
    · simp only [Value.slice.injEq] at e
      rw [e.1] at hk; cases hk
    · simp only [Value.slice.injEq] at e
      rw [e.1] at hk
      obtain rfl : g' = k := by simpa [blk] using hk
      exact ⟨h1, (Array.getElem?_eq_some_iff.1 h2).1⟩
  clear H4
  have H18 : Calls Try.prog 18 #[.pointer (some ⟨tb, 0, none⟩)] w4 fun e w' => ∃ a3 c3, e = .returned (.slice a3 m1 c3) ∧ Hid (Below w4.heap.size w4 w' ∧ CtR w' a3 m1 L1 ∧ ∀ k, blk a3 = some k → w4.heap.size ≤ k ∧ k < w'.heap.size) := r18l _ tb eb ib _ 0 4 _ _ L1 m1 w4 ((H2'.out.1.below H3'.out.1).below H4'.out.1) HH.out.2 H3'.out.2.2.1 H3'.out.2.1.len
  go_wp2_with fail
  refine H18.mono ?_
  rintro e w5 ⟨a3, c3, rfl, H5⟩
  clear H18
  have HM0 : Hid (Md w5 w5 a1 a2 m1 m2) := ⟨Kp.refl _ _ _, ((H3'.out.2.1.below H4'.out.1).below H5.out.1).sh, (H4'.out.2.1.below H5.out.1).sh⟩
  have hm1 : m1 ≤ 9223372036854775807 := by have := H3'.out.2.1.max; unfold maxLen at this; omega
  have hm2 : m2 ≤ 9223372036854775807 := by have := H4'.out.2.1.max; unfold maxLen at this; omega
  go_wp2_with fail
  go_loopw [7] (fun i wr => ∃ k : Nat, k ≤ m1 ∧ i = .int .i64 k ∧ Hid (Md w5 wr a1 a2 m1 m2)) (fun i _ => m1 - (intOf i).toNat)
  case atStart => exact ⟨0, Nat.zero_le _, rfl, HM0⟩
  case round =>
    clear HM0
    obtain ⟨k, hk, rfl, HK⟩ := hrel
    by_cases hlt : k < m1
    · have hltI : (k : Int) < (m1 : Int) := by omega
      have hk0 : (0 : Int) ≤ (k : Int) := by omega
      obtain ⟨g, v, rfl, p0, p1⟩ := HK.out.2.1.at hlt
      have HN : Hid (Md w5 (wr.setCell ⟨g, k * 4 + 3, none⟩ (.int .i64 (-7777))) (some ⟨g, 0, none⟩) a2 m1 m2) := ⟨HK.out.1.set (.inl rfl) _ _, HK.out.2.1.set _ rfl _, HK.out.2.2.set _ rfl _⟩
      go_wp2_with fail
      go_roundw
      case rel => exact ⟨k + 1, by omega, by go_num, HN⟩
      case measure => simp [intOf]; omega
    · have hltI : ¬ (k : Int) < (m1 : Int) := by omega
      go_wp2_with fail
      go_loopw [8] (fun i wr => ∃ k : Nat, k ≤ m2 ∧ i = .int .i64 k ∧ Hid (Md w5 wr a1 a2 m1 m2)) (fun i _ => m2 - (intOf i).toNat)
      case atStart => exact ⟨0, Nat.zero_le _, rfl, HK⟩
      case round =>
        clear HK
        obtain ⟨j, hj, rfl, HJ⟩ := hrel
        by_cases hjl : j < m2
        · have hjI : (j : Int) < (m2 : Int) := by omega
          have hj0 : (0 : Int) ≤ (j : Int) := by omega
          obtain ⟨g, v, rfl, p0, p1⟩ := HJ.out.2.2.at hjl
          have HN : Hid (Md w5 (wr.setCell ⟨g, j * 4 + 3, none⟩ (.int .i64 (-7777))) a1 (some ⟨g, 0, none⟩) m1 m2) := ⟨HJ.out.1.set (.inr rfl) _ _, HJ.out.2.1.set _ rfl _, HJ.out.2.2.set _ rfl _⟩
          go_wp2_with fail
          go_roundw
          case rel => exact ⟨j + 1, by omega, by go_num, HN⟩
          case measure => simp [intOf]; omega
        · have hjI : ¬ (j : Int) < (m2 : Int) := by omega
          have H6 : Hid (RtAt wr w1.heap.size tb eb ib (tot es) 0 4 (runE es) (runI es) ∧ CtR wr a3 m1 L1 ∧ Below w.heap.size w wr) := by
            obtain ⟨x1, x2⟩ := H2'.out
            obtain ⟨y1, _, _, y4⟩ := H3'.out
            obtain ⟨z1, _, _, z4⟩ := H4'.out
            obtain ⟨u1, u2, u3⟩ := H5.out
            have b5 : Below w2.heap.size w2 w5 := (y1.trans (z1.mono y1.size)).trans (u1.mono (Nat.le_trans y1.size z1.size))
            have hK := HJ.out.1
            have low : ∀ i, i < w2.heap.size → wr.heap[i]? = w2.heap[i]? := fun i hi => by
              rw [hK.block i (fun e => by have := (y4 i e).1; omega) (fun e => by have := (z4 i e).1; have := y1.size; omega)]
              exact b5.block i hi
            refine ⟨x1.keeps (low tb x1.lt) (low eb x1.ex.lt) (low ib x1.im.lt), u2.keeps fun i hi _ => hK.block i (fun e => ?_) (fun e => ?_), ⟨hK.os.trans (b5.os.trans x2.os), hK.tape.trans (b5.tape.trans x2.tape), hK.output.trans (b5.output.trans x2.output), by rw [hK.size]; exact Nat.le_trans x2.size b5.size, fun i hi => (low i (Nat.lt_of_lt_of_le hi x2.size)).trans (x2.block i hi)⟩⟩
            · have h1 := (y4 i e).2; have h2 := (u3 i hi).1; have h3 := z1.size; omega
            · have h1 := (z4 i e).2; have h2 := (u3 i hi).1; omega
          have HL : Hid (Rises (runE es) L1 ∧ L1.length = m1 ∧ Rises (runI es) L2 ∧ L2.length = m2) := ⟨H3'.out.2.2.1, H3'.out.2.1.len, H4'.out.2.2.1, H4'.out.2.1.len⟩
          clear H2' H3' H4' H5 HJ
          have H17 : Calls Try.prog 17 #[.slice a n c] wr fun e w' => ∃ tb, e = .returned (.pointer (some ⟨tb, 0, none⟩)) ∧ Hid (RunTo wr w' tb es) := r17 a n c es wr (HH.out.1.below H6.out.2.2) HH.out.2
          go_wp2_with fail
          refine H17.mono ?_
          rintro e w7 ⟨tb', rfl, H7⟩
          clear H17
          obtain ⟨eb', ib', HF⟩ : ∃ eb' ib', Hid (Fs w w7 tb eb ib tb' eb' ib' w1.heap.size wr.heap.size (tot es) (runE es) (runI es) a3 m1 L1) := by
            obtain ⟨eb', ib', h1, h2⟩ := H7.out
            obtain ⟨k1, k2, k3⟩ := H6.out
            exact ⟨eb', ib', k1.below h2, h1, k2.below h2, k3.trans (h2.mono k3.size)⟩
          clear H6 H7
          obtain ⟨G, hG⟩ : ∃ G : World → Prop, G = fun V => Fs w V tb eb ib tb' eb' ib' w1.heap.size wr.heap.size (tot es) (runE es) (runI es) a3 m1 L1 := ⟨_, rfl⟩
          have HB : Hid (∀ V V', G V → Below V.heap.size V V' → G V') := fun V V' h1 h2 => by rw [hG] at h1 ⊢; exact h1.below h2
          have HO : Hid (∀ V, G V → Fs w V tb eb ib tb' eb' ib' w1.heap.size wr.heap.size (tot es) (runE es) (runI es) a3 m1 L1) := fun V h1 => by rw [hG] at h1; exact h1
          have I7 : Hid (G w7) := by show G w7; rw [hG]; exact HF.out
          clear HF hG
          have E1 : Hid (∀ V, Hid (G V) → Calls Try.prog 18 #[.pointer (some ⟨tb, 0, none⟩)] V fun e w' => ∃ a' c', e = .returned (.slice a' m1 c') ∧ Hid (G w' ∧ CtR w' a' m1 L1 ∧ Below V.heap.size V w')) := fun V hV => (r18l _ tb eb ib _ 0 4 _ _ L1 m1 V (HO.out _ hV.out).t1 HH.out.2 HL.out.1 HL.out.2.1).mono fun e w' ⟨a', c', h1, h2⟩ => ⟨a', c', h1, HB.out _ _ hV.out h2.out.1, h2.out.2.1, h2.out.1⟩
          have E2 : Hid (∀ V, Hid (G V) → Calls Try.prog 18 #[.pointer (some ⟨tb', 0, none⟩)] V fun e w' => ∃ a' c', e = .returned (.slice a' m1 c') ∧ Hid (G w' ∧ CtR w' a' m1 L1 ∧ Below V.heap.size V w')) := fun V hV => (r18l _ tb' eb' ib' _ 0 4 _ _ L1 m1 V (HO.out _ hV.out).t2 HH.out.2 HL.out.1 HL.out.2.1).mono fun e w' ⟨a', c', h1, h2⟩ => ⟨a', c', h1, HB.out _ _ hV.out h2.out.1, h2.out.2.1, h2.out.1⟩
          have F1 : Hid (∀ V, Hid (G V) → Calls Try.prog 25 #[.pointer (some ⟨tb, 0, none⟩)] V fun e w' => ∃ a' c', e = .returned (.slice a' m2 c') ∧ Hid (G w' ∧ CtR w' a' m2 L2 ∧ Below V.heap.size V w')) := fun V hV => (r25l _ tb eb ib _ 0 4 _ _ L2 m2 V (HO.out _ hV.out).t1 HH.out.2 HL.out.2.2.1 HL.out.2.2.2).mono fun e w' ⟨a', c', h1, h2⟩ => ⟨a', c', h1, HB.out _ _ hV.out h2.out.1, h2.out.2.1, h2.out.1⟩
          have F2 : Hid (∀ V, Hid (G V) → Calls Try.prog 25 #[.pointer (some ⟨tb', 0, none⟩)] V fun e w' => ∃ a' c', e = .returned (.slice a' m2 c') ∧ Hid (G w' ∧ CtR w' a' m2 L2 ∧ Below V.heap.size V w')) := fun V hV => (r25l _ tb' eb' ib' _ 0 4 _ _ L2 m2 V (HO.out _ hV.out).t2 HH.out.2 HL.out.2.2.1 HL.out.2.2.2).mono fun e w' ⟨a', c', h1, h2⟩ => ⟨a', c', h1, HB.out _ _ hV.out h2.out.1, h2.out.2.1, h2.out.1⟩
          have D1 : Hid (∀ V x y cx cy, G V → CtR V x m1 L1 → CtR V y m1 L1 → Calls Try.prog 16 #[.slice x m1 cx, .slice y m1 cy] V fun e w' => e = .returned (.bool true) ∧ Hid (G w')) := fun V x y cx cy h1 h2 h3 => (r16 x y m1 cx cy L1 V h2 h3).mono fun e w' ⟨k1, k2⟩ => ⟨k1, HB.out _ _ h1 k2⟩
          have D2 : Hid (∀ V x y cx cy, G V → CtR V x m2 L2 → CtR V y m2 L2 → Calls Try.prog 16 #[.slice x m2 cx, .slice y m2 cy] V fun e w' => e = .returned (.bool true) ∧ Hid (G w')) := fun V x y cx cy h1 h2 h3 => (r16 x y m2 cx cy L2 V h2 h3).mono fun e w' ⟨k1, k2⟩ => ⟨k1, HB.out _ _ h1 k2⟩
          go_wp2_with fail
          refine (E1.out _ I7).mono ?_
          rintro e w8 ⟨x8, y8, rfl, I8⟩
          go_wp2_with fail
          refine (D1.out w8 x8 a3 y8 c3 I8.out.1 I8.out.2.1 (HO.out _ I8.out.1).row).mono ?_
          rintro e w9 ⟨rfl, I9⟩
          clear I8 I7
          go_wp2_with fail
          refine (E1.out _ I9).mono ?_
          rintro e w10 ⟨x10, y10, rfl, I10⟩
          have I10' : Hid (G w10) := I10.out.1
          go_wp2_with fail
          refine (E2.out _ I10').mono ?_
          rintro e w11 ⟨x11, y11, rfl, I11⟩
          go_wp2_with fail
          refine (D1.out w11 x10 x11 y10 y11 I11.out.1 (I10.out.2.1.below I11.out.2.2) I11.out.2.1).mono ?_
          rintro e w12 ⟨rfl, I12⟩
          clear I11 I10 I10' I9
          go_wp2_with fail
          refine (F1.out _ I12).mono ?_
          rintro e w13 ⟨x13, y13, rfl, I13⟩
          have I13' : Hid (G w13) := I13.out.1
          go_wp2_with fail
          refine (F2.out _ I13').mono ?_
          rintro e w14 ⟨x14, y14, rfl, I14⟩
          go_wp2_with fail
          refine (D2.out w14 x13 x14 y13 y14 I14.out.1 (I13.out.2.1.below I14.out.2.2) I14.out.2.1).mono ?_
          rintro e w15 ⟨rfl, I15⟩
          go_wp2_with fail
          go_ret
          exact ⟨rfl, (HO.out _ I15.out).bel⟩
end Go.Proofs.Ytjbgemmcbombfaa
