/- JournalHurt: its contract. -/
import Derived.Test.YtcmblfgpeaeciaaJQ
namespace Go.Proofs.Ytcmblfgpeaeciaa
open Go.RowKit
attribute [local go_sem ↓] Go.wp_at_zero Go.wp_at_succ
set_option maxRecDepth 100000 in
set_option maxHeartbeats 8000000 in
theorem j7 (a pa : Option Addr) (m c pn pc : Nat) (l : List Sl) (ps : List (List Int)) (p : List Int) (at_ by_ : Int) (w : World) (h : Pl w a m c l ps) (hp : By w pa pn pc p) (hm : m ≤ 10000000) (hsum : (ps.map List.length).sum ≤ 10000000) (hpn : pn ≤ 10000000) (_hat0 : -9223372036854775808 ≤ at_) (_hat1 : at_ ≤ 9223372036854775807) (hby : Byte by_) :
    Calls Try.prog 7 #[.slice a m c, .slice pa pn pc, .agg #[.int .i64 at_, .int .u8 by_]] w fun e w' => e = .returned (.bool true) ∧ Below w.heap.size w w' := by
  have HH : Hid (Pl w a m c l ps ∧ By w pa pn pc p) := ⟨h, hp⟩
  have hwl := whole_len ps
  have HPL : Hid (ps.length = m) := h.plen
  have hwm : (whole ps).length ≤ 90000000 := by have := h.plen; omega
  obtain ⟨hby0, hby1⟩ := hby
  clear h hp hwl
  obtain ⟨W0, hW0⟩ : ∃ W0, w.alloc (.cells #[.int .i64 at_, .int .u8 by_] 68) = W0 := ⟨_, rfl⟩
  have hbl : Below w.heap.size w W0 := by rw [← hW0]; exact (Below.refl _ w).alloc (Nat.le_refl _) _
  have bX : W0.heap[w.heap.size]? = some (.cells #[.int .i64 at_, .int .u8 by_] 68 (0, 0)) := by rw [← hW0]; exact heap_alloc_new w _
  have hltX : w.heap.size < W0.heap.size := by rw [← hW0]; simp
  have HW0 : Hid (Below w.heap.size w W0 ∧ W0.heap[w.heap.size]? = some (.cells #[.int .i64 at_, .int .u8 by_] 68 (0, 0)) ∧ w.heap.size < W0.heap.size) := ⟨hbl, bX, hltX⟩
  have H14 := j14 W0
  clear hbl bX hltX
  go_enter Try.func7, Try.ntmps7
  go_wp2_with fail
  refine H14.mono ?_
  rintro e w1 ⟨rfl, hb1⟩
  have bX1 : w1.heap[w.heap.size]? = some (.cells #[.int .i64 at_, .int .u8 by_] 68 (0, 0)) := (hb1.block _ HW0.out.2.2).trans HW0.out.2.1
  have x0 : w1.cell? ⟨w.heap.size, 0, none⟩ = some (.int .i64 at_) := by rw [cell_of_row w1 _ 0 _ 68 (0, 0) bX1]; rfl
  have x1 : w1.cell? ⟨w.heap.size, 1, none⟩ = some (.int .u8 by_) := by rw [cell_of_row w1 _ 1 _ 68 (0, 0) bX1]; rfl
  have HB1 : Hid (Below w.heap.size w w1) := HW0.out.1.trans (hb1.mono HW0.out.1.size)
  clear hb1 bX1 HW0 H14 hW0
  go_wp2_with fail
  refine (j34 w1).mono ?_
  rintro e w2 ⟨rfl, hw2⟩
  have hp2 : Hid (Inv w1 w2 ⟨none, 0, 0⟩ []) := by
    rw [hw2]
    exact ⟨log_new w1 _, (Below.refl _ w1).alloc (Nat.le_refl _) _⟩
  clear hw2
  obtain ⟨lb, hlb⟩ : ∃ lb, w1.heap.size = lb := ⟨_, rfl⟩
  have HLB : Hid (w1.heap.size = lb) := hlb
  rw [hlb]
  clear hlb x0 x1
  go_wp2_with fail
  go_loopw [10] (fun i wr => ∃ (k : Nat) (s : Sl), k ≤ m ∧ i = .int .i64 k ∧ Hid (Inv w1 wr s (whole (ps.take k)) ∧ (∀ q ∈ ps.take k, q.length ≤ 131072 ∧ ∀ x ∈ q, Byte x))) (fun i _ => m - (intOf i).toNat)
  case atStart => exact ⟨0, ⟨none, 0, 0⟩, Nat.zero_le _, rfl, hp2.out, by simp⟩
  case round =>
    obtain ⟨k, s, hk, rfl, hI⟩ := hrel
    have hbr : Hid (Below w.heap.size w wr) := HB1.out.trans (hI.out.1.2.mono HB1.out.size)
    have hsn : Hid (s.n = (whole (ps.take k)).length ∧ (whole (ps.take k)).length ≤ 90000000) := ⟨hI.out.1.1.len.symm, Nat.le_trans (whole_le ps k) hwm⟩
    have hfl : Hid (lastE (recs 0 (whole (ps.take k))) = (whole (ps.take k)).length) := by
      show lastE (recs 0 (whole (ps.take k))) = (whole (ps.take k)).length
      rw [recs_of_whole hI.out.2, last_ends0]
    by_cases hlt : k < m
    · have hlt1 : (k : Int) < (m : Int) := by omega
      have hk0 : (0 : Int) ≤ (k : Int) := by omega
      obtain ⟨b1, o1, s1, rfl, hc1, hx1, hm1, hl1⟩ := (HH.out.1.below hbr.out).at hlt
      have hkp : k < ps.length := by rw [HPL.out]; exact hlt
      by_cases hlong : 131072 < s1.n
      · have hlong1 : (131072 : Int) < (s1.n : Int) := by omega
        have H33 : Calls Try.prog 33 #[.pointer (some ⟨lb, 0, none⟩), .slice s1.a s1.n s1.c] wr fun e w' => e = .returned (.int .i64 5) ∧ ∃ d, w' = wr.drewN d := by
          rw [← HLB.out]
          exact j33_long _ _ s1.n s1.c s1.a s _ wr hI.out.1.1 (by have := hsn.out; omega) hfl.out hlong hm1
        clear hx1
        go_wp2_with fail
        refine H33.mono ?_
        rintro e w3 ⟨rfl, d, rfl⟩
        have HB3 : Hid (Below w.heap.size w (wr.drewN d)) := below_dN hbr.out _
        go_wp2_with fail
        go_ret
        exact ⟨rfl, HB3.out⟩
      · have hpk : ps[k].length = s1.n := hx1.len
        have H33 : Calls Try.prog 33 #[.pointer (some ⟨lb, 0, none⟩), .slice s1.a s1.n s1.c] wr fun e w' => e = .returned (.int .i64 0) ∧ ∃ s', Hid (Inv w1 w' s' (whole (ps.take (k + 1))) ∧ (∀ q ∈ ps.take (k + 1), q.length ≤ 131072 ∧ ∀ x ∈ q, Byte x)) := by
          rw [← HLB.out]
          refine (j33 _ _ s1.n s1.c s1.a s _ ps[k] wr hI.out.1.1 hI.out.1.2.size (by have := hsn.out; omega) hfl.out hx1 (by omega)).mono ?_
          rintro e w' ⟨rfl, hw⟩
          obtain ⟨s', h5⟩ := hI.out.1.wrote hw
          rw [← whole_take_snoc ps k hkp] at h5
          refine ⟨rfl, s', h5, fun q hq => ?_⟩
          rw [take_snoc ps k hkp] at hq
          rcases List.mem_append.1 hq with hq | hq
          · exact hI.out.2 q hq
          · simp only [List.mem_cons, List.not_mem_nil, or_false] at hq
            subst hq
            exact ⟨by omega, hx1.rng⟩
        clear hx1 hpk
        go_wp2_with fail
        refine H33.mono ?_
        rintro e w3 ⟨rfl, s3, hp3⟩
        go_wp2_with fail
        go_roundw
        case rel => exact ⟨k + 1, s3, by omega, by go_num, hp3⟩
        case measure => simp [intOf]; omega
    · obtain rfl : k = m := by omega
      have hI2 : Hid (Inv w1 wr s (whole ps) ∧ (∀ q ∈ ps, q.length ≤ 131072 ∧ ∀ x ∈ q, Byte x) ∧ s.n = (whole ps).length ∧ lastE (recs 0 (whole ps)) = (whole ps).length) := by
        have h1 := hI.out
        have h2 := hsn.out
        have h3 := hfl.out
        rw [List.take_of_length_le (by rw [HPL.out]; omega)] at h1 h2 h3
        exact ⟨h1.1, h1.2, h2.1, h3⟩
      clear hI hsn hfl
      go_wp2_with fail
      have H35 : Calls Try.prog 35 #[.pointer (some ⟨lb, 0, none⟩)] wr fun e w' => ∃ ct : Nat, e = .returned (.tuple #[.int .i64 ct, .int .i64 (whole ps).length]) ∧ Hid (Below wr.heap.size wr w') := by
        rw [← HLB.out, ← hI2.out.2.2.1]
        refine (j35 _ _ s (whole ps) wr hI2.out.1.1).mono ?_
        rintro e w' ⟨rfl, d, rfl⟩
        exact ⟨_, rfl, below_dN (Below.refl _ _) _⟩
      refine H35.mono ?_
      rintro e w3 ⟨ct, rfl, hp3⟩
      have hI3 : Hid (Inv w1 w3 s (whole ps) ∧ Below w.heap.size w w3) := ⟨hI2.out.1.below hp3.out, hbr.out.trans (hp3.out.mono hbr.out.size)⟩
      clear H35 hp3 hbr
      by_cases hp0 : pn = 0
      · subst hp0
        go_wp2_with fail
        go_ret
        exact ⟨rfl, hI3.out.2⟩
      · have hp1 : ¬ (pn : Int) = 0 := by omega
        by_cases hb0 : by_ = 0
        · subst hb0
          go_wp2_with fail
          go_ret
          exact ⟨rfl, hI3.out.2⟩
        · by_cases hlong : 131072 < pn
          · have hlong1 : (131072 : Int) < (pn : Int) := by omega
            have H33 : Calls Try.prog 33 #[.pointer (some ⟨lb, 0, none⟩), .slice pa pn pc] w3 fun e w' => e = .returned (.int .i64 5) ∧ Hid (Below w.heap.size w w') := by
              rw [← HLB.out]
              refine (j33_long _ _ pn pc pa s _ w3 hI3.out.1.1 (by rw [hI2.out.2.2.1]; omega) hI2.out.2.2.2 hlong (by omega)).mono ?_
              rintro e w' ⟨rfl, d, rfl⟩
              exact ⟨rfl, below_dN hI3.out.2 _⟩
            go_wp2_with fail
            refine H33.mono ?_
            rintro e w4 ⟨rfl, hp4⟩
            go_wp2_with fail
            go_ret
            exact ⟨rfl, hp4.out⟩
          · have hlong1 : ¬ (131072 : Int) < (pn : Int) := by omega
            have hpB : ((pn : Int) == 0) = false := by simp [hp0]
            have hbB : (by_ == 0) = false := by simp [hb0]
            have H33 : Calls Try.prog 33 #[.pointer (some ⟨lb, 0, none⟩), .slice pa pn pc] w3 fun e w' => e = .returned (.int .i64 0) ∧ ∃ s', Hid (Inv w1 w' s' (whole (ps ++ [p])) ∧ s'.n = (whole ps).length + (8 + pn)) := by
              rw [← HLB.out]
              refine (j33 _ _ pn pc pa s _ p w3 hI3.out.1.1 hI3.out.1.2.size (by rw [hI2.out.2.2.1]; omega) hI2.out.2.2.2 (HH.out.2.below hI3.out.2) (by omega)).mono ?_
              rintro e w' ⟨rfl, hw⟩
              obtain ⟨s', h5⟩ := hI3.out.1.wrote hw
              rw [whole_append, whole_one]
              refine ⟨rfl, s', h5, ?_⟩
              have := h5.1.len
              rw [List.length_append, recI_length, HH.out.2.len] at this
              exact this.symm
            go_wp2_with fail
            refine H33.mono ?_
            rintro e w4 ⟨rfl, s4, hp4⟩
            clear H33
            have H28 : Calls Try.prog 28 #[.pointer (some ⟨lb, 0, none⟩)] w4 fun e w' => ∃ g c', e = .returned (.slice (some ⟨g, 0, none⟩) ((whole ps).length + (8 + pn)) c') ∧ Hid (Row w' w4.heap.size 5 (some ⟨g, 0, none⟩) ((whole ps).length + (8 + pn)) c' (u8s (whole (ps ++ [p]))) ∧ Below w.heap.size w w') := by
              rw [← HLB.out]
              have := j28 _ _ s4 (whole (ps ++ [p])) w4 hp4.out.1.1 (by rw [hp4.out.2]; omega)
              rw [hp4.out.2] at this
              refine this.mono ?_
              rintro e w' ⟨a', c', rfl, hf⟩
              have hbw : Below w.heap.size w w4 := HB1.out.trans (hp4.out.1.2.mono HB1.out.size)
              rcases hf.1.mem with ⟨_, e⟩ | ⟨g, cu, e, _⟩
              · have := hf.1.cap; omega
              · subst e
                exact ⟨g, c', rfl, hf.1, hbw.trans (hf.2.mono hbw.size)⟩
            go_wp2_with fail
            refine H28.mono ?_
            rintro e w5 ⟨g, c5, rfl, hp5⟩
            clear H28
            obtain ⟨fl, hfl⟩ : ∃ fl, (whole ps).length = fl := ⟨_, rfl⟩
            have HFL : Hid ((whole ps).length = fl) := hfl
            rw [hfl] at hp5 hwm ⊢
            clear hfl
            obtain ⟨r, hr, hrw⟩ : ∃ r : Nat, r < pn ∧ (IntKind.u64.wrap at_).tmod (pn : Int) = (r : Int) := by
              have hw0 : 0 ≤ IntKind.u64.wrap at_ := wrap_u64_nonneg _
              refine ⟨((IntKind.u64.wrap at_).tmod (pn : Int)).toNat, ?_, ?_⟩
              · have h1 := Int.tmod_lt_of_pos (IntKind.u64.wrap at_) (show (0 : Int) < (pn : Int) by omega)
                have h2 := Int.tmod_nonneg (pn : Int) hw0
                omega
              · have h2 := Int.tmod_nonneg (pn : Int) hw0
                omega
            have hpl := HH.out.2.len
            have hrp : r < p.length := by omega
            have hval : (whole (ps ++ [p]))[fl + 8 + r]? = some p[r] := by
              rw [whole_append, whole_one, List.getElem?_append_right (by have := HFL.out; omega), HFL.out, recI, List.getElem?_append_right (by rw [List.length_append, fourI_len, fourI_len]; omega), List.length_append, fourI_len, fourI_len, show fl + 8 + r - fl - (4 + 4) = r by omega, List.getElem?_eq_getElem hrp]
            have hc5 : w5.cell? ⟨g, fl + 8 + r, none⟩ = some (.int .u8 p[r]) := by
              rcases hp5.out.1.reads.2 with e | ⟨ad, e1, e2⟩
              · omega
              · cases e1
                have := e2 (fl + 8 + r) (.int .u8 p[r]) (by rw [u8s, List.getElem?_map, hval]; rfl)
                rw [Addr.add_mid, Nat.zero_add] at this
                exact this
            have hf5 : w5.frozen? ⟨g, fl + 8 + r, none⟩ = false := by
              obtain ⟨cu, h6⟩ := hp5.out.1.type rfl
              exact frozen_of_row w5 g _ cu 5 h6
            have HXB : Hid (Byte p[r] ∧ Byte (bits .xor .u8 p[r] by_) ∧ p[r] ≠ bits .xor .u8 p[r] by_) := ⟨HH.out.2.rng _ (List.getElem_mem _), xor_byte _ _, xor_change (HH.out.2.rng _ (List.getElem_mem _)) ⟨hby0, hby1⟩ hb0⟩
            have HRC : Hid (recs 0 ((whole (ps ++ [p])).set (fl + 8 + r) (bits .xor .u8 p[r] by_)) = ends 0 ps) := by
              show recs 0 _ = ends 0 ps
              rw [← HFL.out]
              exact hurt_recs (fun q hq => (hI2.out.2.1 q hq).1) hrp HH.out.2.rng HXB.out.2.1 HXB.out.2.2
            have hgw : Hid (w4.heap.size ≤ g) := (hp5.out.1.lt rfl).1
            have HW6 : Hid (∀ y : Int, y = bits .xor .u8 p[r] by_ → ∃ W6, w5.setCell ⟨g, fl + 8 + r, none⟩ (.int .u8 y) = W6 ∧ By W6 (some ⟨g, 0, none⟩) (fl + (8 + pn)) c5 ((whole (ps ++ [p])).set (fl + 8 + r) y) ∧ Below w.heap.size w W6) := fun y hy => by
              subst hy
              refine ⟨_, rfl, (hp5.out.1.set _).by (fun x hx => ?_), hp5.out.2.setCell (by have := hgw.out; have := (HB1.out.trans (hp4.out.1.2.mono HB1.out.size)).size; simp; omega) _⟩
              rcases List.mem_or_eq_of_mem_set hx with hx | rfl
              · rw [whole_append, whole_one] at hx
                rcases List.mem_append.1 hx with hx | hx
                · exact whole_byte hI2.out.2.1 x hx
                · exact recI_byte (by omega) HH.out.2.rng x hx
              · exact HXB.out.2.1
            have hr1 : (r : Int) < (pn : Int) := by omega
            have hge : ¬ ((fl + (8 + pn) : Nat) : Int) ≤ (fl : Int) + 8 + (r : Int) := by omega
            have hlt5 : (fl : Int) + 8 + (r : Int) < ((fl + (8 + pn) : Nat) : Int) := by omega
            generalize p[r] = xr at *
            clear hval hrp hpl
            go_wp2_with fail
            obtain ⟨W6, hW6, hby6, hbl6⟩ := HW6.out _ rfl
            rw [hW6]
            have H12 : Calls Try.prog 12 #[.slice (some ⟨g, 0, none⟩) (fl + (8 + pn)) c5] W6 fun e w' => ∃ ra rc, e = .returned (.tuple #[.slice ra ps.length rc, .int .i64 fl, .int .i64 140]) ∧ Hid (TRow w' W6.heap.size ra ps.length rc ps ∧ Below w.heap.size w w') := by
              have hte : tornE ((whole (ps ++ [p])).set (fl + 8 + r) (bits .xor .u8 xr by_)) = 140 := by
                unfold tornE
                rw [HRC.out, last_ends0, HFL.out, hby6.len, if_pos (by omega)]
              have := j12 (some ⟨g, 0, none⟩) (fl + (8 + pn)) c5 _ W6 hby6 (by omega)
              rw [hte, HRC.out, ends_pay, ends_len, last_ends0, HFL.out] at this
              refine this.mono ?_
              rintro e w' ⟨ra, rc, rfl, ht⟩
              exact ⟨ra, rc, rfl, ht.row, hbl6.trans (ht.bel.mono hbl6.size)⟩
            clear hW6 hby6 hbl6 HW6 hc5 hf5
            refine H12.mono ?_
            rintro e w7 ⟨ra, rc, rfl, hp7⟩
            have H18 : Calls Try.prog 18 #[.slice ra ps.length rc, .slice a k c] w7 fun e w' => e = .returned (.bool true) ∧ Hid (Below w.heap.size w w') := by
              obtain ⟨l1, hl1⟩ := hp7.out.1.pl (fun q hq => ⟨by have := (hI2.out.2.1 q hq).1; omega, (hI2.out.2.1 q hq).2⟩)
              have hpl2 := HPL.out
              refine (j18 ra a ps.length rc k c l1 l ps ps w7 hl1 (HH.out.1.below hp7.out.2) (by omega) (by omega)).mono ?_
              rintro e w' ⟨rfl, d, rfl⟩
              exact ⟨by simp [sameP], below_dN hp7.out.2 _⟩
            clear H12
            go_wp2_with fail
            refine H18.mono ?_
            rintro e w8 ⟨rfl, hp8⟩
            go_wp2_with fail
            go_ret
            exact ⟨rfl, hp8.out⟩
end Go.Proofs.Ytcmblfgpeaeciaa
