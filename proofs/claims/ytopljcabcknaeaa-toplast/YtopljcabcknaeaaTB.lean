/- The statement on what was written and sent last: it returns true. -/
import Derived.Test.YtopljcabcknaeaaTA
namespace Go.Proofs.Ytopljcabcknaeaa
open Go.RowKit
attribute [local go_sem ↓] Go.wp_at_zero Go.wp_at_succ
theorem row_app {w : World} {B : Nat} {e : TypeId} {a : Option Addr} {n c : Nat} {xs : List Value} (h : Row w B e a n c xs) {k : Nat} {u : Value} (hu : xs[k]? = some u) : ∃ g, a = some ⟨g, 0, none⟩ ∧ w.cell? ⟨g, k, none⟩ = some u := by
  have hk := (List.getElem?_eq_some_iff.1 hu).1
  rcases h.mem with ⟨_, e1⟩ | ⟨g, cu, e1, _⟩
  · have := h.cap
    have := h.len
    omega
  · rcases h.reads.2 with e2 | ⟨ad, e2, e3⟩
    · have := h.len
      omega
    · rw [e1] at e2
      cases e2
      have := e3 k u hu
      rw [Addr.add_mid, Nat.zero_add] at this
      exact ⟨g, e1, this⟩
/-- A row of payloads. -/
def PaIn (w : World) (pa : Option Addr) (q : Nat) : Prop := ∀ k, k < q → ∃ b o ua un uc xs, pa = some ⟨b, o, none⟩ ∧ b < w.heap.size ∧ w.cell? ⟨b, o + k, none⟩ = some (.slice ua un uc) ∧ By w ua un uc xs
set_option maxRecDepth 100000 in
set_option maxHeartbeats 8000000 in
theorem t3 (pa : Option Addr) (q pc : Nat) (cut : Int) (w : World) (hP : PaIn w pa q) :
    Calls Try.prog 3 #[.slice pa q pc, .int .i64 cut] w fun e w' => e = .returned (.bool true) ∧ Below w.heap.size w w' := by
  have HP : Hid (PaIn w pa q) := hP
  clear hP
  go_enter Try.func3, Try.ntmps3
  go_wp2_with fail
  refine (j34 w).mono ?_
  rintro e w1 ⟨rfl, hw1⟩
  obtain ⟨B, hB⟩ : ∃ B, w.heap.size = B := ⟨_, rfl⟩
  have HA : Hid (LogAt w1 B B ⟨none, 0, 0⟩ [] ∧ Below B w w1 ∧ w1.heap.size = B + 1) := by
    refine ⟨?_, ?_, by rw [hw1, ← hB]; simp⟩
    · rw [hw1, ← hB]; exact log_new w w.heap.size
    · rw [hw1, ← hB]; exact (Below.refl _ w).alloc (Nat.le_refl _) _
  rw [hB]
  have HBw : Hid (w.heap.size = B) := hB
  clear hw1
  go_wp2_with fail
  refine (Lk.l7 w1).mono ?_
  rintro e w2 ⟨rfl, hw2⟩
  obtain ⟨la, hla⟩ : ∃ la, w1.heap.size = la := ⟨_, rfl⟩
  have HB : Hid (St w2 B B la ⟨none, 0, 0⟩ ⟨none, 0, 0⟩ [] [] ∧ Below B w w2) := by
    obtain ⟨k1, k2, k3⟩ := HA.out
    have hb : Below w1.heap.size w1 w2 := by rw [hw2]; exact (Below.refl _ w1).alloc (Nat.le_refl _) _
    refine ⟨⟨k1.below hb, ⟨?_, by omega, Lk.rowO_nil _ _ _, fun t ht => by cases ht⟩, rfl, fun k t xs e1 e2 => (by simp at e1), fun t ht => (by cases ht), fun p hp => (by cases hp), Nat.le_refl _, (by have := hb.size; omega)⟩, k2.trans (hb.mono (by omega))⟩
    rw [hw2, ← hla]
    exact heap_alloc_new w1 _
  rw [hla]
  have HPl : Hid (∀ k, k < q → ∃ b o ua un uc xs, pa = some ⟨b, o, none⟩ ∧ Hid (∀ W, Below B w W → W.cell? ⟨b, o + k, none⟩ = some (.slice ua un uc)) ∧ Hid ((∀ W, Below B w W → By W ua un uc xs) ∧ (un = 0 ∨ ∀ g, blk ua = some g → g < B))) := fun k hk => by
    obtain ⟨b, o, ua, un, uc, xs, e1, e2, e3, e4⟩ := HP.out k hk
    have e6 : un = 0 ∨ ∀ g, blk ua = some g → g < B := by
      rcases e4.mem with h | ⟨b', o', h1, h2, _⟩
      · exact .inl h
      · refine .inr fun g hg => ?_
        rw [h1] at hg
        simp only [blk_some, Option.some.injEq] at hg
        omega
    exact ⟨b, o, ua, un, uc, xs, e1, fun W hW => (hW.cell (p := ⟨b, o + k, none⟩) (by show b < B; omega)).trans e3, fun W hW => e4.below (by rw [hB]; exact hW), e6⟩
  clear HA HP hw2 hla hB
  go_wp2_with fail
  go_loopw [8] (fun iv wr => ∃ i : Nat, iv = .int .i64 i ∧ i ≤ 50 ∧ i ≤ q ∧ Hid (∃ s sl l ps, St wr B B la s sl l ps ∧ ps.length ≤ i ∧ Below B w wr)) (fun iv _ => 50 - (intOf iv).toNat)
  case atStart => exact ⟨0, rfl, by omega, Nat.zero_le _, _, _, _, _, HB.out.1, Nat.le_refl _, HB.out.2⟩
  case round =>
    clear HB
    obtain ⟨i, rfl, hi50, hiq, HI'⟩ := hrel
    obtain ⟨s, sl, l, ps, HI⟩ : ∃ s sl l ps, Hid (St wr B B la s sl l ps ∧ ps.length ≤ i ∧ Below B w wr) := HI'.out
    clear HI'
    by_cases hgo : i < q ∧ i < 50
    · obtain ⟨hm1, hm2⟩ := hgo
      have hm1I : (i : Int) < (q : Int) := by omega
      have hm2I : (i : Int) < 50 := by omega
      have hi0 : (0 : Int) ≤ (i : Int) := by omega
      obtain ⟨b, o, ua, un, uc, ys, rfl, hpy, hy⟩ := HPl.out i hm1
      have py := hpy.out wr HI.out.2.2
      by_cases hln : un ≤ 1000
      · have hlnI : ¬ (1000 : Int) < (un : Int) := by omega
        have H6 : Calls Try.prog 6 #[.pointer (some ⟨B, 0, none⟩), .slice ua un uc] wr fun e w' => e = .returned (.int .i64 0) ∧ Hid (Below B w w' ∧ wr.heap.size ≤ w'.heap.size ∧ ∃ s', LogAt w' B B s' (whole (ps ++ [ys])) ∧ Lk.LkG w' B la ((0 : Nat) : Int) sl l ∧ (∀ (k : Nat) (t : Lk.Sl) (xs : List Int), l[k]? = some t → ps[k]? = some xs → Row w' B 5 t.a t.n t.c (u8s xs)) ∧ (∀ t ∈ l, ∀ g, blk t.a = some g → blk s'.a ≠ some g)) := by
          obtain ⟨h1, h2, h3⟩ := HI.out
          have hw := whole_len ps fun p hp => (h1.sm p hp).1
          have hsn := h1.lg.len
          refine (j33 B B un uc ua s (whole ps) ys wr h1.lg h1.hb.2 (by omega) h1.flat (hy.out.1 wr h3) (by omega)).mono ?_
          rintro e w' ⟨rfl, hwr⟩
          obtain ⟨s', k1, k2, k3, k4, k5, k6⟩ := h1.put hwr
          exact ⟨rfl, h3.trans k6, k5, s', k1, k2, k3, k4⟩
        have HX : Hid (ps.length ≤ i ∧ l.length = ps.length ∧ (∀ p ∈ ps, p.length ≤ 1000 ∧ ∀ x ∈ p, Byte x) ∧ B ≤ wr.heap.size) := ⟨HI.out.2.1, HI.out.1.len, HI.out.1.sm, HI.out.1.hb.2⟩
        clear HI
        go_wp2_with fail
        refine H6.mono ?_
        rintro e w3 ⟨rfl, H3⟩
        clear H6 py
        have py := hpy.out w3 H3.out.1
        have H7 : Calls Try.prog 7 #[.pointer (some ⟨la, 0, none⟩), .int .i64 1, .slice ua un uc] w3 fun e w' => ∃ a' c', e = .returned (.tuple #[.agg #[.int .i64 0, .int .i64 1, .bool false, .int .i64 ((0 + l.length : Nat) : Int), .slice a' un c'], .int .i64 0]) ∧ Hid (∃ s sl l ps, St w' B B la s sl l ps ∧ ps.length ≤ i + 1 ∧ Below B w w') := by
          obtain ⟨h1, h2, s', h3, h4, h5, h6⟩ := H3.out
          obtain ⟨x1, x2, x3, x4⟩ := HX.out
          have hby := hy.out.1 w3 h1
          have hyl := hby.len
          refine (Lk.l14g B la 0 (0 + l.length) sl l ua un uc ys w3 h4 (Nat.le_trans x4 h2) hby ?_ (by omega) rfl (by omega)).mono ?_
          · rcases hy.out.2 with h7 | h7
            · exact .inl h7
            · refine .inr fun g hg => ?_
              have h8 := h7 g hg
              have h9 := h4.hb
              refine ⟨by omega, by omega, fun e => ?_⟩
              have := (h4.row.lt e).1
              omega
          · rintro e w' ⟨a', c', rfl, hp, _⟩
            obtain ⟨sl', t, k1, k2⟩ := st_next h3 h4 x2 h5 h6 x3 ⟨by omega, hby.rng⟩ ⟨Nat.le_refl _, Nat.le_trans x4 h2⟩ hp
            exact ⟨a', c', rfl, s', sl', _, _, k1, by simp; omega, h1.trans k2⟩
        clear H3 HX
        go_wp2_with fail
        refine H7.mono ?_
        rintro e w4 ⟨a', c', rfl, H4⟩
        clear H7 py
        go_wp2_with fail
        go_roundw
        case rel =>
          obtain ⟨s, sl, l, ps, k1, k2, k3⟩ := H4.out
          exact ⟨i + 1, by go_num, by omega, by omega, s, sl, l, ps, k1.below ((Below.refl _ w4).alloc (Nat.le_refl _) _), k2, k3.trans (((Below.refl _ w4).alloc (Nat.le_refl _) _).mono k1.hb.2)⟩
        case measure => simp [intOf]; omega
      · have hlnI : (1000 : Int) < (un : Int) := by omega
        go_wp2_with fail
        go_roundw
        case rel =>
          obtain ⟨k1, k2, k3⟩ := HI.out
          exact ⟨i + 1, by go_num, by omega, by omega, s, sl, l, ps, k1, by omega, k3⟩
        case measure => simp [intOf]; omega
    · rename World => We
      obtain ⟨n, hn⟩ : ∃ n, (whole ps).length = n := ⟨_, rfl⟩
      obtain ⟨m, hm⟩ : ∃ m, ps.length = m := ⟨_, rfl⟩
      have HE : Hid (St We B B la s sl l ps ∧ ps.length = m ∧ Below B w We ∧ (whole ps).length = n ∧ B ≤ We.heap.size) := ⟨HI.out.1, hm, HI.out.2.2, hn, HI.out.1.hb.2⟩
      have hnb : n ≤ 50400 ∧ m ≤ 50 := by
        have h1 := whole_len ps fun p hp => (HI.out.1.sm p hp).1
        have h2 := HI.out.2.1
        omega
      have H8 : Calls Try.prog 8 #[.pointer (some ⟨B, 0, none⟩)] We fun e w' => ∃ a' c', e = .returned (.slice a' n c') ∧ Hid (Below We.heap.size We w' ∧ By w' a' n c' (whole ps) ∧ n ≤ c') := by
        have hl := HI.out.1.lg.len
        have hrg := HI.out.1.lg.rng
        rw [hn] at hl
        refine (j28 B B s (whole ps) We HI.out.1.lg (by omega)).mono ?_
        rintro e w' ⟨a', c', rfl, hf⟩
        rw [← hl] at hf ⊢
        exact ⟨a', c', rfl, hf.2, hf.1.by hrg, hf.1.cap⟩
      clear HI hn hm
      rcases Nat.lt_or_ge i q with hiq' | hiq'
      · have hm1I : (i : Int) < (q : Int) := by omega
        have hm2I : ¬ (i : Int) < 50 := by omega
        go_wp2_with fail
        refine H8.mono ?_
        rintro e wA ⟨aa, ac, rfl, HA⟩
        clear H8
        have HS : Hid (aa = aa ∧ n ≤ ac) := ⟨rfl, HA.out.2.2⟩
        go_wp2_with fail
        refine (w9 cut n wA (by omega)).mono ?_
        rintro e w' ⟨⟨k, hk, rfl⟩, hw⟩
        obtain rfl := hw.symm
        obtain ⟨j, hj, hrec, hall⟩ := recs_part ps 0 k fun p hp => by have := (HE.out.1.sm p hp).1; omega
        have HJ : Hid (recs 0 ((whole ps).take k) = ends 0 (ps.take j) ∧ (n ≤ k → j = m) ∧ j ≤ m ∧ ∀ x ∈ (whole ps).take k, Byte x) := ⟨hrec, fun h => by have h1 := HE.out.2.2.2.1; have h2 := HE.out.2.1; rw [← h2]; exact hall (by omega), by have h2 := HE.out.2.1; omega, fun x hx => HE.out.1.lg.rng x (List.mem_of_mem_take hx)⟩
        have hj50 : j ≤ 50 := by have := HE.out.2.1; omega
        clear hj hrec hall
        have hsl := run_head29 aa n ac k (by have := HS.out.2; omega) wA
        obtain ⟨lb1, hlb1⟩ : ∃ lb1, wA.heap.size = lb1 := ⟨_, rfl⟩
        have H10 : Calls Try.prog 10 #[.slice aa k ac] wA fun e w' => e = .returned (.pointer (some ⟨lb1, 0, none⟩)) ∧ Hid (∃ s1, s1.n = k ∧ LogAt w' lb1 lb1 s1 ((whole ps).take k) ∧ Below We.heap.size We w' ∧ We.heap.size ≤ lb1 ∧ lb1 ≤ w'.heap.size) := by
          have h1 := HA.out.1
          have h0 := h1.size
          refine (j23 aa k ac _ wA (HA.out.2.1.upto hk) (by omega)).mono ?_
          rintro e w' ⟨s1, rfl, k1, k2, k3⟩
          rw [hlb1] at k2 k3 ⊢
          exact ⟨rfl, s1, k1, k2, h1.trans (k3.mono (by omega)), by omega, by have := k3.size; omega⟩
        clear hlb1 HA HS
        go_wp2_with fail
        refine H10.mono ?_
        rintro e wB ⟨rfl, HB1⟩
        clear H10 hsl
        obtain ⟨xs1, hxs1⟩ : ∃ xs1, (whole ps).take k = xs1 := ⟨_, rfl⟩
        rw [hxs1] at HB1 HJ
        have H11 : Calls Try.prog 11 #[.pointer (some ⟨lb1, 0, none⟩)] wB fun e w' => ∃ z : Int, e = .returned (.int .i64 z) ∧ Hid (∃ s2, LogAt w' lb1 lb1 s2 (xs1.take (lastE (recs 0 xs1))) ∧ s2.n ≤ k ∧ Below We.heap.size We w' ∧ We.heap.size ≤ lb1) := by
          obtain ⟨s1, k1, k2, k3, k4, k5⟩ := HB1.out
          have hle := last_le xs1
          have hl := k2.len
          refine (j31 lb1 lb1 s1 xs1 wB k2 (by omega)).mono ?_
          rintro e w' ⟨rfl, h1, h2⟩
          exact ⟨_, rfl, _, h1, by dsimp only; omega, k3.trans ((h2.below (Nat.le_refl _) (fun g hg => (k2.row.lt hg).1) k5).mono k4), k4⟩
        clear HB1 hxs1
        go_wp2_with fail
        refine H11.mono ?_
        rintro e wC ⟨z, rfl, HC⟩
        clear H11
        go_wp2_with fail
        refine (Lk.l7 wC).mono ?_
        rintro e wD ⟨rfl, hwD⟩
        obtain ⟨lb2, hlb2⟩ : ∃ lb2, wC.heap.size = lb2 := ⟨_, rfl⟩
        have HD : Hid ((∃ s2, LogAt wD lb1 lb1 s2 (xs1.take (lastE (recs 0 xs1))) ∧ s2.n ≤ k) ∧ Below We.heap.size We wD ∧ We.heap.size ≤ lb2 ∧ lb2 < wD.heap.size ∧ Lk.LkB wD lb2 ((0 : Nat) : Int) ⟨none, 0, 0⟩) := by
          obtain ⟨s2, k1, k2, k3, k4⟩ := HC.out
          have hb : Below wC.heap.size wC wD := by rw [hwD]; exact (Below.refl _ wC).alloc (Nat.le_refl _) _
          have h0 := k3.size
          refine ⟨⟨s2, k1.below hb, k2⟩, k3.trans (hb.mono h0), by omega, by rw [hwD]; simp; omega, ?_⟩
          rw [hwD, ← hlb2]
          exact heap_alloc_new wC _
        rw [hlb2]
        clear hwD hlb2 HC
        have H12 : Calls Try.prog 12 #[.pointer (some ⟨lb1, 0, none⟩)] wD fun e w' => ∃ ra rc, e = .returned (.slice ra j rc) ∧ Hid (∃ ls, ls.length = j ∧ Row w' wD.heap.size 29 ra j rc (ls.map Sl.v) ∧ Pays w' wD.heap.size ls (ps.take j) ∧ Below wD.heap.size wD w') := by
          obtain ⟨⟨s2, k1, k2⟩, k3, k4, k5, k6⟩ := HD.out
          obtain ⟨x1, x2, x3, x4⟩ := HJ.out
          have hjl : (ps.take j).length = j := by rw [List.length_take]; have := HE.out.2.1; omega
          refine (j30 lb1 lb1 s2 _ wD k1 (by omega)).mono ?_
          rintro e w' ⟨ra, rc, rfl, ls, h1, h2, h3, h4⟩
          rw [recs_take x4, x1, ends_len, hjl] at h1 h2 ⊢
          rw [recs_take x4, x1, ends_pay] at h3
          exact ⟨ra, rc, rfl, ls, h1, h2, h3, h4⟩
        go_wp2_with fail
        refine H12.mono ?_
        rintro e Wp ⟨ra, rc, rfl, H12'⟩
        clear H12
        obtain ⟨qs, hqs⟩ : ∃ qs, ps.take j = qs := ⟨_, rfl⟩
        have HQ : Hid (Sb We Wp Wp B lb2 0 ⟨none, 0, 0⟩ [] qs 0 ∧ We.heap.size ≤ lb2 ∧ We.heap.size ≤ Wp.heap.size ∧ qs.length = j ∧ j ≤ m ∧ (∀ p ∈ qs, p.length ≤ 1000 ∧ ∀ x ∈ p, Byte x) ∧ ∃ ls bs, lb2 < bs ∧ ls.length = j ∧ Row Wp bs 29 ra j rc (ls.map Sl.v) ∧ Pays Wp bs ls qs) := by
          obtain ⟨k1, k2, k3, k4, k5⟩ := HD.out
          obtain ⟨ls, h1, h2, h3, h4⟩ := H12'.out
          obtain ⟨y1, y2, y3, y4, y5⟩ := HE.out
          have h0 := k2.size
          have h5 := h4.size
          rw [hqs] at h3
          refine ⟨⟨⟨Nat.le_refl _, fun _ _ _ => rfl⟩, ⟨?_, by omega, Lk.rowO_nil _ _ _, fun t ht => by cases ht⟩, rfl, fun k t xs e1 e2 => (by simp at e1), fun g hg => (by cases hg), k2.trans (h4.mono h0)⟩, k3, by omega, ?_, HJ.out.2.2.1, fun p hp => ?_, ls, wD.heap.size, k4, h1, h2, h3⟩
          · exact (h4.block lb2 k4).trans k5
          · rw [← hqs, List.length_take]
            have := HJ.out.2.2.1
            omega
          · rw [← hqs] at hp
            exact y1.sm p (List.mem_of_mem_take hp)
        have HK : Hid (n ≤ k → j = m) := HJ.out.2.1
        have HT : Hid (∀ (i : Nat) (x y : List Int), ps[i]? = some x → qs[i]? = some y → x = y) := fun i x y e1 e2 => by
          rw [← hqs, List.getElem?_take] at e2
          split at e2
          · rw [e1] at e2; cases e2; rfl
          · cases e2
        clear HJ HD H12' hqs
        go_wp2_with fail
        go_loopw [17] (fun iv wr => ∃ i : Nat, iv = .int .i64 i ∧ i ≤ j ∧ Hid (∃ sl l, Sb We Wp wr B lb2 0 sl l qs i)) (fun iv _ => j - (intOf iv).toNat)
        case atStart => exact ⟨0, rfl, Nat.zero_le _, _, _, HQ.out.1⟩
        case round =>
          obtain ⟨i2, rfl, hi2, HI2⟩ := hrel
          obtain ⟨sl2, l2, HR⟩ : ∃ sl2 l2, Hid (Sb We Wp wr B lb2 0 sl2 l2 qs i2) := HI2.out
          clear HI2
          by_cases hij : i2 < j
          · have hijI : (i2 : Int) < (j : Int) := by omega
            have hi20 : (0 : Int) ≤ (i2 : Int) := by omega
            obtain ⟨g, ⟨ua2, un2, uc2⟩, p2, rfl, z2, HP2⟩ : ∃ (g : Nat) (u : Sl) (p : List Int), ra = some ⟨g, 0, none⟩ ∧ wr.cell? ⟨g, i2, none⟩ = some u.v ∧ Hid (qs[i2]? = some p ∧ By wr u.a u.n u.c p ∧ p.length ≤ 1000 ∧ ∀ g, blk u.a = some g → g < Wp.heap.size ∧ lb2 < g) := by
              obtain ⟨_, q1, q2, q3, q4, q5, ls, bs, q6, q7, q8, q9⟩ := HQ.out
              have hkeep : ∀ g, bs ≤ g → g < Wp.heap.size → wr.heap[g]? = Wp.heap[g]? := fun g h1 h2 => HR.out.ag.2 g h2 (by omega)
              have r8 : Row wr bs 29 ra j rc (ls.map Sl.v) := q8.keeps fun g hg => hkeep g (q8.lt hg).1 (q8.lt hg).2
              obtain ⟨g, e1, e2⟩ := row_app r8 (k := i2) (u := ls[i2].v) (by rw [List.getElem?_map, List.getElem?_eq_getElem (by omega)]; rfl)
              have e3 : qs[i2]? = some qs[i2] := List.getElem?_eq_getElem (by omega)
              have r9 := q9.own i2 ls[i2] qs[i2] (List.getElem?_eq_getElem (by omega)) e3
              have r10 := r9.keeps (w' := wr) fun g hg => hkeep g (r9.lt hg).1 (r9.lt hg).2
              have h5 := q5 qs[i2] (List.getElem_mem _)
              exact ⟨g, ls[i2], qs[i2], e1, e2, e3, r10.by h5.2, h5.1, fun g hg => ⟨(r9.lt hg).2, by have := (r9.lt hg).1; omega⟩⟩
            simp only [Sl.v] at z2
            have H7 : Calls Try.prog 7 #[.pointer (some ⟨lb2, 0, none⟩), .int .i64 1, .slice ua2 un2 uc2] wr fun e w' => ∃ a' c', e = .returned (.tuple #[.agg #[.int .i64 0, .int .i64 1, .bool false, .int .i64 ((0 + l2.length : Nat) : Int), .slice a' un2 c'], .int .i64 0]) ∧ Hid (∃ sl l, Sb We Wp w' B lb2 0 sl l qs (i2 + 1)) := by
              obtain ⟨p1, p2', p3, p4⟩ := HP2.out
              obtain ⟨_, q1, q2, q3, q4, q5, _⟩ := HQ.out
              have hag := HR.out.ag.1
              have hB' := HE.out.2.2.2.2
              have hlen := p2'.len
              dsimp only at p2' hlen p4
              refine (Lk.l14g B lb2 0 (0 + l2.length) sl2 l2 ua2 un2 uc2 _ wr HR.out.lk (by omega) p2' ?_ (by omega) rfl (by have := HR.out.len; omega)).mono ?_
              · refine .inr fun g hg => ?_
                have h8 := p4 g hg
                refine ⟨by omega, by omega, fun e => ?_⟩
                have := HR.out.own g e
                omega
              · rintro e w' ⟨a', c', rfl, hp, _⟩
                obtain ⟨sl', t, k1⟩ := HR.out.next p1 q1 q2 (by omega) hp
                exact ⟨a', c', rfl, _, _, k1⟩
            clear HP2
            go_wp2_with fail
            refine H7.mono ?_
            rintro e w5 ⟨a', c', rfl, H5⟩
            clear H7 z2
            go_wp2_with fail
            go_roundw
            case rel =>
              obtain ⟨sl', l', k1⟩ := H5.out
              exact ⟨i2 + 1, by go_num, by omega, sl', l', k1.below (by have := k1.ag.1; have := HQ.out.2.2.1; omega) ((Below.refl _ w5).alloc (Nat.le_refl _) _)⟩
            case measure => simp [intOf]; omega
          · have hijI : ¬ (i2 : Int) < (j : Int) := by omega
            have e2 : i2 = j := by omega
            rw [e2] at HR hijI
            rw [e2]
            clear e2 hi2
            have H13 : Hid (∀ W, Below We.heap.size We W → Calls Try.prog 13 #[.pointer (some ⟨la, 0, none⟩)] W fun e w' => ∃ a c, e = .returned (.slice a m c) ∧ Hid (Below W.heap.size W w' ∧ ∃ es, es.length = m ∧ (∃ A, w'.ownsRow A 32 5 (.slice a m c) m (Lk.encAll es 0)) ∧ ∀ (i : Nat) (e : Lk.Sl) (xs : List Int), es[i]? = some e → ps[i]? = some xs → ∃ A, Row w' A 5 e.a e.n e.c (u8s xs))) := fun W hW => by
              have h1 := HE.out.1.below hW
              have h2 := HE.out.2.1
              have h3 := h1.len
              refine (Lk.l26c la 0 sl l ps W h1.lk.toO (by omega) h3.symm fun k t xs e1 e2 => (h1.byl k t xs e1 e2).by (h1.sm xs (List.mem_of_getElem? e2)).2).mono ?_
              rintro e w' ⟨a, c, rfl, es, j1, j2, j3, j4⟩
              rw [h3, h2] at j1 j2 ⊢
              exact ⟨a, c, rfl, j4, es, j1, ⟨_, j2⟩, fun i e xs e1 e2 => ⟨_, j3 i e xs e1 e2⟩⟩
            have H14 : Hid (∀ W, Below wr.heap.size wr W → Calls Try.prog 13 #[.pointer (some ⟨lb2, 0, none⟩)] W fun e w' => ∃ a c, e = .returned (.slice a j c) ∧ Hid (Below W.heap.size W w' ∧ ∃ es, es.length = j ∧ (∃ A, w'.ownsRow A 32 5 (.slice a j c) j (Lk.encAll es 0)) ∧ ∀ (i : Nat) (e : Lk.Sl) (xs : List Int), es[i]? = some e → qs[i]? = some xs → ∃ A, Row w' A 5 e.a e.n e.c (u8s xs))) := fun W hW => by
              obtain ⟨_, q1, q2, q3, q4, q5, _⟩ := HQ.out
              have h1 := HR.out.below (by have := HR.out.ag.1; omega) hW
              have h3 := h1.len
              refine (Lk.l26c lb2 0 sl2 l2 qs W h1.lk.toO (by omega) (by omega) fun k t xs e1 e2 => (h1.byl k t xs e1 e2).by (q5 xs (List.mem_of_getElem? e2)).2).mono ?_
              rintro e w' ⟨a, c, rfl, es, j1, j2, j3, j4⟩
              rw [h3] at j1 j2 ⊢
              exact ⟨a, c, rfl, j4, es, j1, ⟨_, j2⟩, fun i e xs e1 e2 => ⟨_, j3 i e xs e1 e2⟩⟩
            go_wp2_with fail
            refine (H13.out wr HR.out.bel).mono ?_
            rintro e wx ⟨xa, xc, rfl, HX⟩
            go_wp2_with fail
            refine (H14.out wx HX.out.1).mono ?_
            rintro e wy ⟨ya, yc, rfl, HY⟩
            have HZ : Hid (∀ W, Below wy.heap.size wy W → ∀ i, i < j → ∃ gx gy ea en ec fa fn fc xs, xa = some ⟨gx, 0, none⟩ ∧ ya = some ⟨gy, 0, none⟩ ∧ W.cell? ⟨gx, i * 5 + 3, none⟩ = some (.int .i64 (i : Int)) ∧ W.cell? ⟨gx, i * 5 + 4, none⟩ = some (.slice ea en ec) ∧ W.cell? ⟨gy, i * 5 + 3, none⟩ = some (.int .i64 (i : Int)) ∧ W.cell? ⟨gy, i * 5 + 4, none⟩ = some (.slice fa fn fc) ∧ (∀ d, (convert 29 9 (.slice ea en ec)).run Try.prog (W.drewN d) = .ok (.string (strOfNums xs)) (W.drewN d)) ∧ (∀ d, (convert 29 9 (.slice fa fn fc)).run Try.prog (W.drewN d) = .ok (.string (strOfNums xs)) (W.drewN d))) := fun W hW i hi => by
              obtain ⟨k1, es, k2, ⟨A, k3⟩, k4⟩ := HX.out
              obtain ⟨l1, fs, l2, ⟨A', l3⟩, l4⟩ := HY.out
              obtain ⟨_, q1, q2, q3, q4, q5, _⟩ := HQ.out
              have hpm := HE.out.2.1
              have e1 : es[i]? = some es[i] := List.getElem?_eq_getElem (by omega)
              have e2 : fs[i]? = some fs[i] := List.getElem?_eq_getElem (by omega)
              have e3 : ps[i]? = some ps[i] := List.getElem?_eq_getElem (by omega)
              have e4 : qs[i]? = some qs[i] := List.getElem?_eq_getElem (by omega)
              have e5 := HT.out i _ _ e3 e4
              obtain ⟨A1, r1⟩ := k4 i _ _ e1 e3
              obtain ⟨A2, r2⟩ := l4 i _ _ e2 e4
              obtain ⟨gx, _, hx, _, _, _, z3, z4⟩ := Lk.dg_rd (Lk.owns_below (Lk.owns_below k3 l1) hW) e1
              obtain ⟨gy, _, hy, _, _, _, y3, y4⟩ := Lk.dg_rd (Lk.owns_below l3 hW) e2
              simp only [Value.slice.injEq, true_and] at hx hy
              exact ⟨gx, gy, es[i].a, es[i].n, es[i].c, fs[i].a, fs[i].n, fs[i].c, ps[i], hx.1, hy.1, z3, z4, y3, y4, fun d => Lk.row_conv ((r1.below l1).below (below_dN hW d)), fun d => by rw [e5]; exact Lk.row_conv (r2.below (below_dN hW d))⟩
            have HW : Hid (Below B w wy ∧ B ≤ wy.heap.size) := by
              obtain ⟨y1, y2, y3, y4, y5⟩ := HE.out
              have h1 := HR.out.bel
              have h2 := h1.size
              have h3 := HX.out.1.size
              have h4 := HY.out.1.size
              exact ⟨y3.trans ((h1.mono y5).trans ((HX.out.1.mono (by omega)).trans (HY.out.1.mono (by omega)))), by omega⟩
            have hjm := HQ.out.2.2.2.2.1
            have hjmI : ¬ (m : Int) < (j : Int) := by omega
            clear HX HY H13 H14
            rcases Nat.lt_or_ge k n with hkn | hkn
            · have hknI : ((k : Int) == (n : Int)) = false := by rw [beq_eq_false_iff_ne]; omega
              go_wp2_with fail
              go_loopw [22] (fun iv wz => ∃ i : Nat, iv = .int .i64 i ∧ i ≤ j ∧ Hid (Below wy.heap.size wy wz)) (fun iv _ => j - (intOf iv).toNat)
              case atStart => exact ⟨0, rfl, Nat.zero_le _, Below.refl _ _⟩
              case round =>
                obtain ⟨i3, rfl, hi3, HI3⟩ := hrel
                by_cases h3 : i3 < j
                · have h3I : (i3 : Int) < (j : Int) := by omega
                  have h30 : (0 : Int) ≤ (i3 : Int) := by omega
                  have h3m := Int.lt_of_lt_of_le h3I (Int.ofNat_le.2 hjm)
                  obtain ⟨gx, gy, ea, en, ec, fa, fn, fc, xs, rfl, rfl, z3, z4, y3, y4, v1, v2⟩ := HZ.out wr HI3.out i3 h3
                  go_wp2_with fail
                  go_quiet (fail)
                  go_wp2_with fail
                  go_roundw
                  case rel => exact ⟨i3 + 1, by go_num, h3, below_dN HI3.out _⟩
                  case measure => simp [intOf]; omega
                · have h3I : ¬ (i3 : Int) < (j : Int) := by omega
                  go_wp2_with fail
                  go_ret
                  exact ⟨rfl, by rw [HBw.out]; exact HW.out.1.trans (HI3.out.mono HW.out.2)⟩
            · have hkn2 : k = n := by omega
              have hjm2 : j = m := HK.out hkn
              subst hkn2
              subst hjm2
              go_wp2_with fail
              go_loopw [22] (fun iv wz => ∃ i : Nat, iv = .int .i64 i ∧ i ≤ j ∧ Hid (Below wy.heap.size wy wz)) (fun iv _ => j - (intOf iv).toNat)
              case atStart => exact ⟨0, rfl, Nat.zero_le _, Below.refl _ _⟩
              case round =>
                obtain ⟨i3, rfl, hi3, HI3⟩ := hrel
                by_cases h3 : i3 < j
                · have h3I : (i3 : Int) < (j : Int) := by omega
                  have h30 : (0 : Int) ≤ (i3 : Int) := by omega
                  have h3m := Int.lt_of_lt_of_le h3I (Int.ofNat_le.2 hjm)
                  obtain ⟨gx, gy, ea, en, ec, fa, fn, fc, xs, rfl, rfl, z3, z4, y3, y4, v1, v2⟩ := HZ.out wr HI3.out i3 h3
                  go_wp2_with fail
                  go_quiet (fail)
                  go_wp2_with fail
                  go_roundw
                  case rel => exact ⟨i3 + 1, by go_num, h3, below_dN HI3.out _⟩
                  case measure => simp [intOf]; omega
                · have h3I : ¬ (i3 : Int) < (j : Int) := by omega
                  go_wp2_with fail
                  go_ret
                  exact ⟨rfl, by rw [HBw.out]; exact HW.out.1.trans (HI3.out.mono HW.out.2)⟩
      · have hm1I : ¬ (i : Int) < (q : Int) := by omega
        go_wp2_with fail
        refine H8.mono ?_
        rintro e wA ⟨aa, ac, rfl, HA⟩
        clear H8
        have HS : Hid (aa = aa ∧ n ≤ ac) := ⟨rfl, HA.out.2.2⟩
        go_wp2_with fail
        refine (w9 cut n wA (by omega)).mono ?_
        rintro e w' ⟨⟨k, hk, rfl⟩, hw⟩
        obtain rfl := hw.symm
        obtain ⟨j, hj, hrec, hall⟩ := recs_part ps 0 k fun p hp => by have := (HE.out.1.sm p hp).1; omega
        have HJ : Hid (recs 0 ((whole ps).take k) = ends 0 (ps.take j) ∧ (n ≤ k → j = m) ∧ j ≤ m ∧ ∀ x ∈ (whole ps).take k, Byte x) := ⟨hrec, fun h => by have h1 := HE.out.2.2.2.1; have h2 := HE.out.2.1; rw [← h2]; exact hall (by omega), by have h2 := HE.out.2.1; omega, fun x hx => HE.out.1.lg.rng x (List.mem_of_mem_take hx)⟩
        have hj50 : j ≤ 50 := by have := HE.out.2.1; omega
        clear hj hrec hall
        have hsl := run_head29 aa n ac k (by have := HS.out.2; omega) wA
        obtain ⟨lb1, hlb1⟩ : ∃ lb1, wA.heap.size = lb1 := ⟨_, rfl⟩
        have H10 : Calls Try.prog 10 #[.slice aa k ac] wA fun e w' => e = .returned (.pointer (some ⟨lb1, 0, none⟩)) ∧ Hid (∃ s1, s1.n = k ∧ LogAt w' lb1 lb1 s1 ((whole ps).take k) ∧ Below We.heap.size We w' ∧ We.heap.size ≤ lb1 ∧ lb1 ≤ w'.heap.size) := by
          have h1 := HA.out.1
          have h0 := h1.size
          refine (j23 aa k ac _ wA (HA.out.2.1.upto hk) (by omega)).mono ?_
          rintro e w' ⟨s1, rfl, k1, k2, k3⟩
          rw [hlb1] at k2 k3 ⊢
          exact ⟨rfl, s1, k1, k2, h1.trans (k3.mono (by omega)), by omega, by have := k3.size; omega⟩
        clear hlb1 HA HS
        go_wp2_with fail
        refine H10.mono ?_
        rintro e wB ⟨rfl, HB1⟩
        clear H10 hsl
        obtain ⟨xs1, hxs1⟩ : ∃ xs1, (whole ps).take k = xs1 := ⟨_, rfl⟩
        rw [hxs1] at HB1 HJ
        have H11 : Calls Try.prog 11 #[.pointer (some ⟨lb1, 0, none⟩)] wB fun e w' => ∃ z : Int, e = .returned (.int .i64 z) ∧ Hid (∃ s2, LogAt w' lb1 lb1 s2 (xs1.take (lastE (recs 0 xs1))) ∧ s2.n ≤ k ∧ Below We.heap.size We w' ∧ We.heap.size ≤ lb1) := by
          obtain ⟨s1, k1, k2, k3, k4, k5⟩ := HB1.out
          have hle := last_le xs1
          have hl := k2.len
          refine (j31 lb1 lb1 s1 xs1 wB k2 (by omega)).mono ?_
          rintro e w' ⟨rfl, h1, h2⟩
          exact ⟨_, rfl, _, h1, by dsimp only; omega, k3.trans ((h2.below (Nat.le_refl _) (fun g hg => (k2.row.lt hg).1) k5).mono k4), k4⟩
        clear HB1 hxs1
        go_wp2_with fail
        refine H11.mono ?_
        rintro e wC ⟨z, rfl, HC⟩
        clear H11
        go_wp2_with fail
        refine (Lk.l7 wC).mono ?_
        rintro e wD ⟨rfl, hwD⟩
        obtain ⟨lb2, hlb2⟩ : ∃ lb2, wC.heap.size = lb2 := ⟨_, rfl⟩
        have HD : Hid ((∃ s2, LogAt wD lb1 lb1 s2 (xs1.take (lastE (recs 0 xs1))) ∧ s2.n ≤ k) ∧ Below We.heap.size We wD ∧ We.heap.size ≤ lb2 ∧ lb2 < wD.heap.size ∧ Lk.LkB wD lb2 ((0 : Nat) : Int) ⟨none, 0, 0⟩) := by
          obtain ⟨s2, k1, k2, k3, k4⟩ := HC.out
          have hb : Below wC.heap.size wC wD := by rw [hwD]; exact (Below.refl _ wC).alloc (Nat.le_refl _) _
          have h0 := k3.size
          refine ⟨⟨s2, k1.below hb, k2⟩, k3.trans (hb.mono h0), by omega, by rw [hwD]; simp; omega, ?_⟩
          rw [hwD, ← hlb2]
          exact heap_alloc_new wC _
        rw [hlb2]
        clear hwD hlb2 HC
        have H12 : Calls Try.prog 12 #[.pointer (some ⟨lb1, 0, none⟩)] wD fun e w' => ∃ ra rc, e = .returned (.slice ra j rc) ∧ Hid (∃ ls, ls.length = j ∧ Row w' wD.heap.size 29 ra j rc (ls.map Sl.v) ∧ Pays w' wD.heap.size ls (ps.take j) ∧ Below wD.heap.size wD w') := by
          obtain ⟨⟨s2, k1, k2⟩, k3, k4, k5, k6⟩ := HD.out
          obtain ⟨x1, x2, x3, x4⟩ := HJ.out
          have hjl : (ps.take j).length = j := by rw [List.length_take]; have := HE.out.2.1; omega
          refine (j30 lb1 lb1 s2 _ wD k1 (by omega)).mono ?_
          rintro e w' ⟨ra, rc, rfl, ls, h1, h2, h3, h4⟩
          rw [recs_take x4, x1, ends_len, hjl] at h1 h2 ⊢
          rw [recs_take x4, x1, ends_pay] at h3
          exact ⟨ra, rc, rfl, ls, h1, h2, h3, h4⟩
        go_wp2_with fail
        refine H12.mono ?_
        rintro e Wp ⟨ra, rc, rfl, H12'⟩
        clear H12
        obtain ⟨qs, hqs⟩ : ∃ qs, ps.take j = qs := ⟨_, rfl⟩
        have HQ : Hid (Sb We Wp Wp B lb2 0 ⟨none, 0, 0⟩ [] qs 0 ∧ We.heap.size ≤ lb2 ∧ We.heap.size ≤ Wp.heap.size ∧ qs.length = j ∧ j ≤ m ∧ (∀ p ∈ qs, p.length ≤ 1000 ∧ ∀ x ∈ p, Byte x) ∧ ∃ ls bs, lb2 < bs ∧ ls.length = j ∧ Row Wp bs 29 ra j rc (ls.map Sl.v) ∧ Pays Wp bs ls qs) := by
          obtain ⟨k1, k2, k3, k4, k5⟩ := HD.out
          obtain ⟨ls, h1, h2, h3, h4⟩ := H12'.out
          obtain ⟨y1, y2, y3, y4, y5⟩ := HE.out
          have h0 := k2.size
          have h5 := h4.size
          rw [hqs] at h3
          refine ⟨⟨⟨Nat.le_refl _, fun _ _ _ => rfl⟩, ⟨?_, by omega, Lk.rowO_nil _ _ _, fun t ht => by cases ht⟩, rfl, fun k t xs e1 e2 => (by simp at e1), fun g hg => (by cases hg), k2.trans (h4.mono h0)⟩, k3, by omega, ?_, HJ.out.2.2.1, fun p hp => ?_, ls, wD.heap.size, k4, h1, h2, h3⟩
          · exact (h4.block lb2 k4).trans k5
          · rw [← hqs, List.length_take]
            have := HJ.out.2.2.1
            omega
          · rw [← hqs] at hp
            exact y1.sm p (List.mem_of_mem_take hp)
        have HK : Hid (n ≤ k → j = m) := HJ.out.2.1
        have HT : Hid (∀ (i : Nat) (x y : List Int), ps[i]? = some x → qs[i]? = some y → x = y) := fun i x y e1 e2 => by
          rw [← hqs, List.getElem?_take] at e2
          split at e2
          · rw [e1] at e2; cases e2; rfl
          · cases e2
        clear HJ HD H12' hqs
        go_wp2_with fail
        go_loopw [17] (fun iv wr => ∃ i : Nat, iv = .int .i64 i ∧ i ≤ j ∧ Hid (∃ sl l, Sb We Wp wr B lb2 0 sl l qs i)) (fun iv _ => j - (intOf iv).toNat)
        case atStart => exact ⟨0, rfl, Nat.zero_le _, _, _, HQ.out.1⟩
        case round =>
          obtain ⟨i2, rfl, hi2, HI2⟩ := hrel
          obtain ⟨sl2, l2, HR⟩ : ∃ sl2 l2, Hid (Sb We Wp wr B lb2 0 sl2 l2 qs i2) := HI2.out
          clear HI2
          by_cases hij : i2 < j
          · have hijI : (i2 : Int) < (j : Int) := by omega
            have hi20 : (0 : Int) ≤ (i2 : Int) := by omega
            obtain ⟨g, ⟨ua2, un2, uc2⟩, p2, rfl, z2, HP2⟩ : ∃ (g : Nat) (u : Sl) (p : List Int), ra = some ⟨g, 0, none⟩ ∧ wr.cell? ⟨g, i2, none⟩ = some u.v ∧ Hid (qs[i2]? = some p ∧ By wr u.a u.n u.c p ∧ p.length ≤ 1000 ∧ ∀ g, blk u.a = some g → g < Wp.heap.size ∧ lb2 < g) := by
              obtain ⟨_, q1, q2, q3, q4, q5, ls, bs, q6, q7, q8, q9⟩ := HQ.out
              have hkeep : ∀ g, bs ≤ g → g < Wp.heap.size → wr.heap[g]? = Wp.heap[g]? := fun g h1 h2 => HR.out.ag.2 g h2 (by omega)
              have r8 : Row wr bs 29 ra j rc (ls.map Sl.v) := q8.keeps fun g hg => hkeep g (q8.lt hg).1 (q8.lt hg).2
              obtain ⟨g, e1, e2⟩ := row_app r8 (k := i2) (u := ls[i2].v) (by rw [List.getElem?_map, List.getElem?_eq_getElem (by omega)]; rfl)
              have e3 : qs[i2]? = some qs[i2] := List.getElem?_eq_getElem (by omega)
              have r9 := q9.own i2 ls[i2] qs[i2] (List.getElem?_eq_getElem (by omega)) e3
              have r10 := r9.keeps (w' := wr) fun g hg => hkeep g (r9.lt hg).1 (r9.lt hg).2
              have h5 := q5 qs[i2] (List.getElem_mem _)
              exact ⟨g, ls[i2], qs[i2], e1, e2, e3, r10.by h5.2, h5.1, fun g hg => ⟨(r9.lt hg).2, by have := (r9.lt hg).1; omega⟩⟩
            simp only [Sl.v] at z2
            have H7 : Calls Try.prog 7 #[.pointer (some ⟨lb2, 0, none⟩), .int .i64 1, .slice ua2 un2 uc2] wr fun e w' => ∃ a' c', e = .returned (.tuple #[.agg #[.int .i64 0, .int .i64 1, .bool false, .int .i64 ((0 + l2.length : Nat) : Int), .slice a' un2 c'], .int .i64 0]) ∧ Hid (∃ sl l, Sb We Wp w' B lb2 0 sl l qs (i2 + 1)) := by
              obtain ⟨p1, p2', p3, p4⟩ := HP2.out
              obtain ⟨_, q1, q2, q3, q4, q5, _⟩ := HQ.out
              have hag := HR.out.ag.1
              have hB' := HE.out.2.2.2.2
              have hlen := p2'.len
              dsimp only at p2' hlen p4
              refine (Lk.l14g B lb2 0 (0 + l2.length) sl2 l2 ua2 un2 uc2 _ wr HR.out.lk (by omega) p2' ?_ (by omega) rfl (by have := HR.out.len; omega)).mono ?_
              · refine .inr fun g hg => ?_
                have h8 := p4 g hg
                refine ⟨by omega, by omega, fun e => ?_⟩
                have := HR.out.own g e
                omega
              · rintro e w' ⟨a', c', rfl, hp, _⟩
                obtain ⟨sl', t, k1⟩ := HR.out.next p1 q1 q2 (by omega) hp
                exact ⟨a', c', rfl, _, _, k1⟩
            clear HP2
            go_wp2_with fail
            refine H7.mono ?_
            rintro e w5 ⟨a', c', rfl, H5⟩
            clear H7 z2
            go_wp2_with fail
            go_roundw
            case rel =>
              obtain ⟨sl', l', k1⟩ := H5.out
              exact ⟨i2 + 1, by go_num, by omega, sl', l', k1.below (by have := k1.ag.1; have := HQ.out.2.2.1; omega) ((Below.refl _ w5).alloc (Nat.le_refl _) _)⟩
            case measure => simp [intOf]; omega
          · have hijI : ¬ (i2 : Int) < (j : Int) := by omega
            have e2 : i2 = j := by omega
            rw [e2] at HR hijI
            rw [e2]
            clear e2 hi2
            have H13 : Hid (∀ W, Below We.heap.size We W → Calls Try.prog 13 #[.pointer (some ⟨la, 0, none⟩)] W fun e w' => ∃ a c, e = .returned (.slice a m c) ∧ Hid (Below W.heap.size W w' ∧ ∃ es, es.length = m ∧ (∃ A, w'.ownsRow A 32 5 (.slice a m c) m (Lk.encAll es 0)) ∧ ∀ (i : Nat) (e : Lk.Sl) (xs : List Int), es[i]? = some e → ps[i]? = some xs → ∃ A, Row w' A 5 e.a e.n e.c (u8s xs))) := fun W hW => by
              have h1 := HE.out.1.below hW
              have h2 := HE.out.2.1
              have h3 := h1.len
              refine (Lk.l26c la 0 sl l ps W h1.lk.toO (by omega) h3.symm fun k t xs e1 e2 => (h1.byl k t xs e1 e2).by (h1.sm xs (List.mem_of_getElem? e2)).2).mono ?_
              rintro e w' ⟨a, c, rfl, es, j1, j2, j3, j4⟩
              rw [h3, h2] at j1 j2 ⊢
              exact ⟨a, c, rfl, j4, es, j1, ⟨_, j2⟩, fun i e xs e1 e2 => ⟨_, j3 i e xs e1 e2⟩⟩
            have H14 : Hid (∀ W, Below wr.heap.size wr W → Calls Try.prog 13 #[.pointer (some ⟨lb2, 0, none⟩)] W fun e w' => ∃ a c, e = .returned (.slice a j c) ∧ Hid (Below W.heap.size W w' ∧ ∃ es, es.length = j ∧ (∃ A, w'.ownsRow A 32 5 (.slice a j c) j (Lk.encAll es 0)) ∧ ∀ (i : Nat) (e : Lk.Sl) (xs : List Int), es[i]? = some e → qs[i]? = some xs → ∃ A, Row w' A 5 e.a e.n e.c (u8s xs))) := fun W hW => by
              obtain ⟨_, q1, q2, q3, q4, q5, _⟩ := HQ.out
              have h1 := HR.out.below (by have := HR.out.ag.1; omega) hW
              have h3 := h1.len
              refine (Lk.l26c lb2 0 sl2 l2 qs W h1.lk.toO (by omega) (by omega) fun k t xs e1 e2 => (h1.byl k t xs e1 e2).by (q5 xs (List.mem_of_getElem? e2)).2).mono ?_
              rintro e w' ⟨a, c, rfl, es, j1, j2, j3, j4⟩
              rw [h3] at j1 j2 ⊢
              exact ⟨a, c, rfl, j4, es, j1, ⟨_, j2⟩, fun i e xs e1 e2 => ⟨_, j3 i e xs e1 e2⟩⟩
            go_wp2_with fail
            refine (H13.out wr HR.out.bel).mono ?_
            rintro e wx ⟨xa, xc, rfl, HX⟩
            go_wp2_with fail
            refine (H14.out wx HX.out.1).mono ?_
            rintro e wy ⟨ya, yc, rfl, HY⟩
            have HZ : Hid (∀ W, Below wy.heap.size wy W → ∀ i, i < j → ∃ gx gy ea en ec fa fn fc xs, xa = some ⟨gx, 0, none⟩ ∧ ya = some ⟨gy, 0, none⟩ ∧ W.cell? ⟨gx, i * 5 + 3, none⟩ = some (.int .i64 (i : Int)) ∧ W.cell? ⟨gx, i * 5 + 4, none⟩ = some (.slice ea en ec) ∧ W.cell? ⟨gy, i * 5 + 3, none⟩ = some (.int .i64 (i : Int)) ∧ W.cell? ⟨gy, i * 5 + 4, none⟩ = some (.slice fa fn fc) ∧ (∀ d, (convert 29 9 (.slice ea en ec)).run Try.prog (W.drewN d) = .ok (.string (strOfNums xs)) (W.drewN d)) ∧ (∀ d, (convert 29 9 (.slice fa fn fc)).run Try.prog (W.drewN d) = .ok (.string (strOfNums xs)) (W.drewN d))) := fun W hW i hi => by
              obtain ⟨k1, es, k2, ⟨A, k3⟩, k4⟩ := HX.out
              obtain ⟨l1, fs, l2, ⟨A', l3⟩, l4⟩ := HY.out
              obtain ⟨_, q1, q2, q3, q4, q5, _⟩ := HQ.out
              have hpm := HE.out.2.1
              have e1 : es[i]? = some es[i] := List.getElem?_eq_getElem (by omega)
              have e2 : fs[i]? = some fs[i] := List.getElem?_eq_getElem (by omega)
              have e3 : ps[i]? = some ps[i] := List.getElem?_eq_getElem (by omega)
              have e4 : qs[i]? = some qs[i] := List.getElem?_eq_getElem (by omega)
              have e5 := HT.out i _ _ e3 e4
              obtain ⟨A1, r1⟩ := k4 i _ _ e1 e3
              obtain ⟨A2, r2⟩ := l4 i _ _ e2 e4
              obtain ⟨gx, _, hx, _, _, _, z3, z4⟩ := Lk.dg_rd (Lk.owns_below (Lk.owns_below k3 l1) hW) e1
              obtain ⟨gy, _, hy, _, _, _, y3, y4⟩ := Lk.dg_rd (Lk.owns_below l3 hW) e2
              simp only [Value.slice.injEq, true_and] at hx hy
              exact ⟨gx, gy, es[i].a, es[i].n, es[i].c, fs[i].a, fs[i].n, fs[i].c, ps[i], hx.1, hy.1, z3, z4, y3, y4, fun d => Lk.row_conv ((r1.below l1).below (below_dN hW d)), fun d => by rw [e5]; exact Lk.row_conv (r2.below (below_dN hW d))⟩
            have HW : Hid (Below B w wy ∧ B ≤ wy.heap.size) := by
              obtain ⟨y1, y2, y3, y4, y5⟩ := HE.out
              have h1 := HR.out.bel
              have h2 := h1.size
              have h3 := HX.out.1.size
              have h4 := HY.out.1.size
              exact ⟨y3.trans ((h1.mono y5).trans ((HX.out.1.mono (by omega)).trans (HY.out.1.mono (by omega)))), by omega⟩
            have hjm := HQ.out.2.2.2.2.1
            have hjmI : ¬ (m : Int) < (j : Int) := by omega
            clear HX HY H13 H14
            rcases Nat.lt_or_ge k n with hkn | hkn
            · have hknI : ((k : Int) == (n : Int)) = false := by rw [beq_eq_false_iff_ne]; omega
              go_wp2_with fail
              go_loopw [22] (fun iv wz => ∃ i : Nat, iv = .int .i64 i ∧ i ≤ j ∧ Hid (Below wy.heap.size wy wz)) (fun iv _ => j - (intOf iv).toNat)
              case atStart => exact ⟨0, rfl, Nat.zero_le _, Below.refl _ _⟩
              case round =>
                obtain ⟨i3, rfl, hi3, HI3⟩ := hrel
                by_cases h3 : i3 < j
                · have h3I : (i3 : Int) < (j : Int) := by omega
                  have h30 : (0 : Int) ≤ (i3 : Int) := by omega
                  have h3m := Int.lt_of_lt_of_le h3I (Int.ofNat_le.2 hjm)
                  obtain ⟨gx, gy, ea, en, ec, fa, fn, fc, xs, rfl, rfl, z3, z4, y3, y4, v1, v2⟩ := HZ.out wr HI3.out i3 h3
                  go_wp2_with fail
                  go_quiet (fail)
                  go_wp2_with fail
                  go_roundw
                  case rel => exact ⟨i3 + 1, by go_num, h3, below_dN HI3.out _⟩
                  case measure => simp [intOf]; omega
                · have h3I : ¬ (i3 : Int) < (j : Int) := by omega
                  go_wp2_with fail
                  go_ret
                  exact ⟨rfl, by rw [HBw.out]; exact HW.out.1.trans (HI3.out.mono HW.out.2)⟩
            · have hkn2 : k = n := by omega
              have hjm2 : j = m := HK.out hkn
              subst hkn2
              subst hjm2
              go_wp2_with fail
              go_loopw [22] (fun iv wz => ∃ i : Nat, iv = .int .i64 i ∧ i ≤ j ∧ Hid (Below wy.heap.size wy wz)) (fun iv _ => j - (intOf iv).toNat)
              case atStart => exact ⟨0, rfl, Nat.zero_le _, Below.refl _ _⟩
              case round =>
                obtain ⟨i3, rfl, hi3, HI3⟩ := hrel
                by_cases h3 : i3 < j
                · have h3I : (i3 : Int) < (j : Int) := by omega
                  have h30 : (0 : Int) ≤ (i3 : Int) := by omega
                  have h3m := Int.lt_of_lt_of_le h3I (Int.ofNat_le.2 hjm)
                  obtain ⟨gx, gy, ea, en, ec, fa, fn, fc, xs, rfl, rfl, z3, z4, y3, y4, v1, v2⟩ := HZ.out wr HI3.out i3 h3
                  go_wp2_with fail
                  go_quiet (fail)
                  go_wp2_with fail
                  go_roundw
                  case rel => exact ⟨i3 + 1, by go_num, h3, below_dN HI3.out _⟩
                  case measure => simp [intOf]; omega
                · have h3I : ¬ (i3 : Int) < (j : Int) := by omega
                  go_wp2_with fail
                  go_ret
                  exact ⟨rfl, by rw [HBw.out]; exact HW.out.1.trans (HI3.out.mono HW.out.2)⟩
end Go.Proofs.Ytopljcabcknaeaa
