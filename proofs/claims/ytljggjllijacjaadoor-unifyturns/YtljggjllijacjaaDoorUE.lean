/- The statement that a step the other way round is like it: it returns true. -/
import Derived.Test.YtljggjllijacjaaDoorUD
namespace Go.Proofs.YtljggjllijacjaaDoor
open Go.RowKit
attribute [local go_sem ↓] Go.wp_at_zero Go.wp_at_succ
theorem bd_below {w W : World} {a : Option Addr} {n : Nat} {bs : List Bn} (h : BdRow w a n bs) (hb : Below w.heap.size w W) : BdRow W a n bs := by
  refine ⟨⟨h.row.len, ?_⟩, fun b hb' => ⟨(h.el b hb').1.below hb, (h.el b hb').2⟩⟩
  rcases h.row.mem with e | ⟨b, o, e, h1, h2⟩
  · exact .inl e
  · exact .inr ⟨b, o, e, Nat.lt_of_lt_of_le h1 hb.size, range_below h2 h1 hb⟩
theorem neq46_self (a b : Int) (w : World) : (binOp .neq 46 (.agg #[.int .i64 a, .int .i64 b]) (.agg #[.int .i64 a, .int .i64 b])).run Tryd.prog w = .ok (.bool false) w := by
  have h1 : (a == a) = true := by simp
  have h2 : (b == b) = true := by simp
  go_simp
theorem ownRow_at {w : World} {n : Nat} {v : Value} {P : List (List C)} (h : OwnRow w n v P) (k : Nat) (hk : k < P.length) : ∃ g cap u, v = .slice (some ⟨g, 0, none⟩) P.length cap ∧ g < w.heap.size ∧ w.cell? ⟨g, k, none⟩ = some u ∧ OwnT w n u P[k] := by
  obtain ⟨us, h1, h2, _⟩ := h
  have hul : us.length = P.length := by have := h1.1; omega
  rcases h1.2 with ⟨_, e⟩ | ⟨g, c, cur, e1, e2, e3, e4, e5, e6, e7⟩
  · omega
  · have hu : us[k]? = some us[k] := List.getElem?_eq_getElem (by omega)
    refine ⟨g, c, us[k], e1, (Array.getElem?_eq_some_iff.1 e3).1, ?_, h2 k _ _ hu (List.getElem?_eq_getElem hk)⟩
    have := range_of_owns' e3 e7 k _ hu
    simpa using this
set_option maxRecDepth 100000 in
set_option maxHeartbeats 4000000 in
theorem u4 (a : Option Addr) (n c : Nat) (bs0 : List Bn) (l1 l2 : List C) (v1 v2 : Value) (w : World) (hA : BdRow w a n bs0) (hn : n ≤ 3518437208780) (hT1 : TermAt w v1 l1) (hW1 : ∀ c ∈ l1, wfN (c.vn, c.vk)) (hT2 : TermAt w v2 l2) (hW2 : ∀ c ∈ l2, wfN (c.vn, c.vk)) (hS : Signs w) :
    Calls Tryd.prog 4 #[.slice a n c, v1, v2] w fun e w' => e = .returned (.bool true) ∧ Below w.heap.size w w' := by
  have HT : Hid (BdRow w a n bs0 ∧ TermAt w v1 l1 ∧ TermAt w v2 l2 ∧ Signs w) := ⟨hA, hT1, hT2, hS⟩
  have HW : Hid ((∀ c ∈ l1, wfN (c.vn, c.vk)) ∧ ∀ c ∈ l2, wfN (c.vn, c.vk)) := ⟨hW1, hW2⟩
  have H8 := u8 w hS
  obtain ⟨a1, c1, hf⟩ := hT1.form
  subst hf
  obtain ⟨a2, c2, hf⟩ := hT2.form
  subst hf
  clear hA hT1 hT2 hS hW1 hW2
  go_enter Tryd.func4, Tryd.ntmps4
  go_wp2_with fail
  refine H8.mono ?_
  rintro e w1 ⟨rfl, hb1⟩
  have HB1 : Hid (Below w.heap.size w w1) := hb1
  have H13 := i7 a n c bs0 w1 (bd_below HT.out.1 hb1) hn (HT.out.2.2.2.below hb1)
  clear hb1 H8
  go_wp2_with fail
  refine H13.mono ?_
  rintro e w2 ⟨hb, M, rt, rfl, HM⟩
  obtain ⟨m, G, bs, hBm, _, _, _⟩ := HM.out
  have HB2 : Hid (Below w.heap.size w w2) := HB1.out.trans (hBm.bel.mono HB1.out.size)
  obtain ⟨nn, D, V, hH, _⟩ := hBm.hp
  have HH : Hid (HpV w2 (.pointer (some ⟨hb, 0, none⟩)) m) := .inr ⟨hb, M, nn, D, rfl, hH⟩
  obtain ⟨k, ⟨V1, V2⟩, T, P, P', hTu, hTx, hst1, hst2⟩ := u14_both m (.pointer (some ⟨hb, 0, none⟩)) l1 l2 (.slice a1 l1.length c1) (.slice a2 l2.length c2) hBm.len HW.out.1 HW.out.2
  have HTu : Hid (Turned P P' ∧ T.length ≤ maxLen ∧ ∀ c ∈ T, c.t.size ≤ maxLen) := ⟨hTu, hTx⟩
  have H14a := hst1 w2 HH.out (HT.out.2.1.below HB2.out) (HT.out.2.2.1.below HB2.out) (HT.out.2.2.2.below HB2.out)
  have HST : Hid (∀ w, HpV w (.pointer (some ⟨hb, 0, none⟩)) m → TermAt w (.slice a1 l1.length c1) l1 → TermAt w (.slice a2 l2.length c2) l2 → Signs w → Calls Tryd.prog 14 #[.pointer (some ⟨hb, 0, none⟩), .slice a2 l2.length c2, .slice a1 l1.length c1] w fun e w' => StU k (V1, V2) T P' e w w') := hst2
  clear hBm hH hTu hTx hst1 hst2 HM H13
  go_wp2_with fail
  refine H14a.mono ?_
  rintro e w3 ⟨ta, tn, tc, pa, pn, pc, rfl, hO3, hP3, hb3⟩
  have HB3 : Hid (Below w2.heap.size w2 w3) := hb3
  have HO3 : Hid (OwnT w3 w2.heap.size (.slice ta tn tc) T ∧ OwnRow w3 w2.heap.size (.slice pa pn pc) P) := ⟨hO3, hP3⟩
  have HB4 : Hid (Below w2.heap.size w2 (w3.alloc (.cells #[.int .u8 k, .int .i64 V1, .int .i64 V2, .slice ta tn tc, .slice pa pn pc] 49)) ∧ Below w3.heap.size w3 (w3.alloc (.cells #[.int .u8 k, .int .i64 V1, .int .i64 V2, .slice ta tn tc, .slice pa pn pc] 49))) := ⟨hb3.alloc hb3.size _, below_alloc _ _⟩
  have HC4 : Hid ((w3.alloc (.cells #[.int .u8 k, .int .i64 V1, .int .i64 V2, .slice ta tn tc, .slice pa pn pc] 49)).heap[w3.heap.size]? = some (.cells #[.int .u8 k, .int .i64 V1, .int .i64 V2, .slice ta tn tc, .slice pa pn pc] 49 (0, 0))) := heap_alloc_new w3 _
  clear hO3 hP3 hb3 H14a
  go_wp2_with fail
  generalize (w3.alloc (.cells #[.int .u8 k, .int .i64 V1, .int .i64 V2, .slice ta tn tc, .slice pa pn pc] 49)) = W4 at *
  obtain ⟨r4, hr4⟩ : ∃ r4, w3.heap.size = r4 := ⟨_, rfl⟩
  rw [hr4] at HC4 ⊢
  clear hr4
  have HBW4 : Hid (Below w.heap.size w W4) := HB2.out.trans (HB4.out.1.mono HB2.out.size)
  have H14b := HST.out W4 (HH.out.below HB4.out.1) (HT.out.2.1.below HBW4.out) (HT.out.2.2.1.below HBW4.out) (HT.out.2.2.2.below HBW4.out)
  refine H14b.mono ?_
  rintro e w5 ⟨sa, sn, sc, qa, qn, qc, rfl, hO5, hP5, hb5⟩
  have HO5 : Hid (OwnT w5 W4.heap.size (.slice sa sn sc) T ∧ OwnRow w5 W4.heap.size (.slice qa qn qc) P') := ⟨hO5, hP5⟩
  have HB6 : Hid (Below W4.heap.size W4 (w5.alloc (.cells #[.int .u8 k, .int .i64 V1, .int .i64 V2, .slice sa sn sc, .slice qa qn qc] 49)) ∧ Below w5.heap.size w5 (w5.alloc (.cells #[.int .u8 k, .int .i64 V1, .int .i64 V2, .slice sa sn sc, .slice qa qn qc] 49))) := ⟨hb5.alloc hb5.size _, below_alloc _ _⟩
  have HC6 : Hid ((w5.alloc (.cells #[.int .u8 k, .int .i64 V1, .int .i64 V2, .slice sa sn sc, .slice qa qn qc] 49)).heap[w5.heap.size]? = some (.cells #[.int .u8 k, .int .i64 V1, .int .i64 V2, .slice sa sn sc, .slice qa qn qc] 49 (0, 0))) := heap_alloc_new w5 _
  obtain ⟨q, hq⟩ : ∃ q, P.length = q := ⟨_, rfl⟩
  have hpn : pn = q := by
    obtain ⟨us, h1, _⟩ := HO3.out.2
    obtain ⟨x, y, e⟩ := rowv_form' h1
    simp only [Value.slice.injEq] at e
    omega
  have hqn : q = qn := by
    obtain ⟨us, h1, _⟩ := HO5.out.2
    obtain ⟨x, y, e⟩ := rowv_form' h1
    simp only [Value.slice.injEq] at e
    have := HTu.out.1.1
    omega
  subst hpn hqn
  have HQ : Hid (P.length = pn ∧ P'.length = pn ∧ pn ≤ 8) := ⟨hq, by have := HTu.out.1.1; omega, by have := HTu.out.1.2.1; omega⟩
  have hp8 : pn ≤ 8 := HQ.out.2.2
  clear hq
  have HB45 : Hid (Below W4.heap.size W4 w5 ∧ Below w3.heap.size w3 w5) := ⟨hb5, HB4.out.2.trans (hb5.mono HB4.out.2.size)⟩
  have hc4 := (hb5.block r4 (Array.getElem?_eq_some_iff.1 HC4.out).1).trans HC4.out
  have HTT : Hid (∀ W, Below w5.heap.size w5 W → TermAt W (.slice ta tn tc) T ∧ TermAt W (.slice sa sn sc) T) := fun W hW => ⟨(ownT_term HO3.out.1 HTu.out.2.1 HTu.out.2.2).below (HB45.out.2.trans (hW.mono HB45.out.2.size)), (ownT_term HO5.out.1 HTu.out.2.1 HTu.out.2.2).below hW⟩
  obtain ⟨x0, x1, x2, x3, x4⟩ : w5.cell? ⟨r4, 0, none⟩ = some (.int .u8 k) ∧ w5.cell? ⟨r4, 1, none⟩ = some (.int .i64 V1) ∧ w5.cell? ⟨r4, 2, none⟩ = some (.int .i64 V2) ∧ w5.cell? ⟨r4, 3, none⟩ = some (.slice ta tn tc) ∧ w5.cell? ⟨r4, 4, none⟩ = some (.slice pa pn pc) := by
    refine ⟨?_, ?_, ?_, ?_, ?_⟩ <;> (rw [cell_of_row w5 r4 _ _ 49 (0, 0) hc4]; rfl)
  have hr4 : r4 < w5.heap.size := (Array.getElem?_eq_some_iff.1 hc4).1
  have hkk : (k != k) = false := by simp
  have hnv := neq46_self V1 V2
  have hpp : (((pn : Nat) : Int) != (pn : Int)) = false := by simp
  clear hO5 hP5 hb5 H14b HST hc4
  go_wp2_with fail
  obtain ⟨r6, hr6⟩ : ∃ r6, w5.heap.size = r6 := ⟨_, rfl⟩
  rw [hr6] at HC6 ⊢
  clear x0 x1 x2 x3 x4
  generalize (w5.alloc (.cells #[.int .u8 k, .int .i64 V1, .int .i64 V2, .slice sa sn sc, .slice qa pn qc] 49)) = W6 at *
  have H9 : Hid (Calls Tryd.prog 9 #[.slice ta tn tc, .slice sa sn sc] W6 fun e w' => e = .returned (.bool true) ∧ Below W6.heap.size W6 w') := by
    have h := c13 T T _ _ W6 (HTT.out _ HB6.out.2).1 (HTT.out _ HB6.out.2).2
    rw [eqT_refl] at h
    exact h
  refine H9.out.mono ?_
  rintro e w7 ⟨rfl, hb7⟩
  have HB7 : Hid (Below W4.heap.size W4 w7 ∧ Below w5.heap.size w5 w7 ∧ Below W6.heap.size W6 w7) := ⟨HB6.out.1.trans (hb7.mono HB6.out.1.size), HB6.out.2.trans (hb7.mono HB6.out.2.size), hb7⟩
  have HCS : Hid (∀ W, Below w7.heap.size w7 W → W.cell? ⟨r4, 4, none⟩ = some (.slice pa pn pc) ∧ W.cell? ⟨r6, 4, none⟩ = some (.slice qa pn qc)) := fun W hW => by
    have z1 := HB7.out.1.size
    have z2 := HB7.out.2.2.size
    have l4 := (Array.getElem?_eq_some_iff.1 HC4.out).1
    have l6 := (Array.getElem?_eq_some_iff.1 HC6.out).1
    have e4 := (hW.block r4 (by omega)).trans ((HB7.out.1.block r4 l4).trans HC4.out)
    have e6 := (hW.block r6 (by omega)).trans ((HB7.out.2.2.block r6 l6).trans HC6.out)
    exact ⟨by rw [cell_of_row W r4 4 _ 49 (0, 0) e4]; rfl, by rw [cell_of_row W r6 4 _ 49 (0, 0) e6]; rfl⟩
  have HRP : Hid (∀ W, Below w7.heap.size w7 W → OwnRow W w2.heap.size (.slice pa pn pc) P ∧ OwnRow W W4.heap.size (.slice qa pn qc) P') := fun W hW => ⟨ownRow_low (ownRow_low (ownRow_low HO3.out.2 HB45.out.2) HB7.out.2.1) hW, ownRow_low (ownRow_low HO5.out.2 HB7.out.2.1) hW⟩
  have HBW7 : Hid (Below w.heap.size w w7) := HBW4.out.trans (HB7.out.1.mono HBW4.out.size)
  obtain ⟨y4, z4⟩ := HCS.out w7 (Below.refl _ _)
  clear hb7 H9 hr6 hr4 hkk hnv
  go_wp2_with fail
  clear y4 z4 hpp
  go_loopw [11] (fun i wr => ∃ j : Nat, j ≤ pn ∧ i = .int .i64 j ∧ Hid (Below w7.heap.size w7 wr)) (fun i _ => pn - (intOf i).toNat)
  case atStart => exact ⟨0, Nat.zero_le _, rfl, Below.refl _ _⟩
  case round =>
    obtain ⟨j, hj, rfl, hbr⟩ := hrel
    obtain ⟨y4, z4⟩ := HCS.out wr hbr.out
    by_cases hlt : j < pn
    · have hltI : (j : Int) < (pn : Int) := by omega
      have hj0 : (0 : Int) ≤ (j : Int) := by omega
      have hjP : j < P.length := by rw [HQ.out.1]; exact hlt
      have hjP' : j < P'.length := by rw [HQ.out.2.1]; exact hlt
      obtain ⟨g1, k1, u, e1, hg1, cu, hOu⟩ := ownRow_at (HRP.out wr hbr.out).1 j hjP
      obtain ⟨g2, k2, v, e2, hg2, cv, hOv⟩ := ownRow_at (HRP.out wr hbr.out).2 j hjP'
      simp only [Value.slice.injEq] at e1 e2
      obtain ⟨rfl, hh1, rfl⟩ := e1
      obtain ⟨rfl, hh2, rfl⟩ := e2
      clear hh1 hh2
      obtain ⟨t1, t2, t3, t4, t5, t6⟩ := HTu.out.1.2.2 j _ _ (List.getElem?_eq_getElem hjP) (List.getElem?_eq_getElem hjP')
      have hTu1 : TermAt wr u P[j] := ownT_term hOu (right_text t1).1 (right_text t1).2
      have hTv1 : TermAt wr v P'[j] := ownT_term hOv (right_text t2).1 (right_text t2).2
      obtain ⟨u1, u2, u3, huf⟩ : ∃ a b c, u = .slice a b c := by obtain ⟨a, c, h⟩ := hTu1.form; exact ⟨_, _, _, h⟩
      obtain ⟨v1, v2, v3, hvf⟩ : ∃ a b c, v = .slice a b c := by obtain ⟨a, c, h⟩ := hTv1.form; exact ⟨_, _, _, h⟩
      subst huf hvf
      have HSr : Hid (∀ W, Below wr.heap.size wr W → Signs W) := fun W hW => HT.out.2.2.2.below (HBW7.out.trans ((hbr.out.trans (hW.mono hbr.out.size)).mono HBW7.out.size))
      have H6a : Hid (Calls Tryd.prog 6 #[.slice u1 u2 u3] wr fun e w' => ∃ a b, e = .returned (.tuple #[a, b, .bool true]) ∧ OwnT w' wr.heap.size a (sd1 P[j]) ∧ OwnT w' wr.heap.size b (sd2 P[j]) ∧ Ap [a, b] ∧ Below wr.heap.size wr w') := by
        have h := u6s P[j] _ wr hTu1 (HSr.out _ (Below.refl _ _))
        rw [t3] at h
        exact h
      have HX1 := sd_txt P[j] (right_text t1).2
      have HX2 := sd_txt P'[j] (right_text t2).2
      have HL1 := sd_len P[j]
      have HL2 := sd_len P'[j]
      rw [← t5, ← t6] at HX2 HL2
      have HTv : Hid (TermAt wr (.slice v1 v2 v3) P'[j]) := hTv1
      have HTX : Hid (((sd1 P[j]).length ≤ maxLen ∧ (sd2 P[j]).length ≤ maxLen) ∧ (∀ c ∈ sd1 P[j], c.t.size ≤ maxLen) ∧ ∀ c ∈ sd2 P[j], c.t.size ≤ maxLen) := ⟨⟨by unfold maxLen; omega, by unfold maxLen; omega⟩, HX1.1, HX1.2⟩
      clear hOu hOv hTu1 hTv1 HX1 HX2 HL1 HL2 t1 t2
      go_wp2_with fail
      refine H6a.out.mono ?_
      rintro e w8 ⟨ea, eb, rfl, hOea, hOeb, _, hb8⟩
      have HB8 : Hid (Below wr.heap.size wr w8) := hb8
      have hT8a := ownT_term hOea HTX.out.1.1 HTX.out.2.1
      have hT8b := ownT_term hOeb HTX.out.1.2 HTX.out.2.2
      have HT8 : Hid (TermAt w8 ea (sd1 P[j]) ∧ TermAt w8 eb (sd2 P[j])) := ⟨hT8a, hT8b⟩
      have H6b : Hid (Calls Tryd.prog 6 #[.slice v1 v2 v3] w8 fun e w' => ∃ a b, e = .returned (.tuple #[a, b, .bool true]) ∧ OwnT w' w8.heap.size a (sd2 P[j]) ∧ OwnT w' w8.heap.size b (sd1 P[j]) ∧ Ap [a, b] ∧ Below w8.heap.size w8 w') := by
        have h := u6s P'[j] _ w8 (HTv.out.below hb8) (HSr.out _ hb8)
        rw [t4, ← t5, ← t6] at h
        exact h
      obtain ⟨ea1, ea2, eaf⟩ := hT8a.form
      obtain ⟨eb1, eb2, ebf⟩ := hT8b.form
      generalize (sd1 P[j]).length = l8 at eaf
      generalize (sd2 P[j]).length = m8 at ebf
      subst eaf ebf
      obtain ⟨y4b, z4b⟩ := HCS.out w8 (hbr.out.trans (hb8.mono hbr.out.size))
      have cv8 := (hb8.cell (p := ⟨g2, j, none⟩) hg2).trans cv
      clear hOea hOeb hb8 hT8a hT8b H6a t3 t4 t5 t6 y4 z4
      go_wp2_with fail
      refine H6b.out.mono ?_
      rintro e w9 ⟨ec, ed, rfl, hOec, hOed, _, hb9⟩
      have HB9 : Hid (Below wr.heap.size wr w9 ∧ Below w8.heap.size w8 w9) := ⟨HB8.out.trans (hb9.mono HB8.out.size), hb9⟩
      have hT9a := ownT_term hOec HTX.out.1.2 HTX.out.2.2
      have hT9b := ownT_term hOed HTX.out.1.1 HTX.out.2.1
      have HT9 : Hid (TermAt w9 ec (sd2 P[j]) ∧ TermAt w9 ed (sd1 P[j])) := ⟨hT9a, hT9b⟩
      obtain ⟨ec1, ec2, ecf⟩ := hT9a.form
      obtain ⟨ed1, ed2, edf⟩ := hT9b.form
      generalize (sd2 P[j]).length = l9 at ecf
      generalize (sd1 P[j]).length = m9 at edf
      subst ecf edf
      have H9a : Hid (∀ W, Below w9.heap.size w9 W → Calls Tryd.prog 9 #[.slice ea1 l8 ea2, .slice ed1 m9 ed2] W fun e w' => e = .returned (.bool true) ∧ Below W.heap.size W w') := fun W hW => by
        have h := c13 (sd1 P[j]) (sd1 P[j]) _ _ W (HT8.out.1.below (HB9.out.2.trans (hW.mono HB9.out.2.size))) (HT9.out.2.below hW)
        rw [eqT_refl] at h
        exact h
      have H9b : Hid (∀ W, Below w9.heap.size w9 W → Calls Tryd.prog 9 #[.slice eb1 m8 eb2, .slice ec1 l9 ec2] W fun e w' => e = .returned (.bool true) ∧ Below W.heap.size W w') := fun W hW => by
        have h := c13 (sd2 P[j]) (sd2 P[j]) _ _ W (HT8.out.2.below (HB9.out.2.trans (hW.mono HB9.out.2.size))) (HT9.out.1.below hW)
        rw [eqT_refl] at h
        exact h
      clear hOec hOed hb9 hT9a hT9b H6b y4b z4b cv8 cu cv
      go_wp2_with fail
      refine (H9a.out _ (Below.refl _ _)).mono ?_
      rintro e w10 ⟨rfl, hb10⟩
      have HB10 : Hid (Below w9.heap.size w9 w10) := hb10
      clear hb10
      go_wp2_with fail
      refine (H9b.out _ HB10.out).mono ?_
      rintro e w11 ⟨rfl, hb11⟩
      have HB11 : Hid (Below w7.heap.size w7 w11) := hbr.out.trans ((HB9.out.1.trans ((HB10.out.trans (hb11.mono HB10.out.size)).mono HB9.out.1.size)).mono hbr.out.size)
      clear hb11
      go_wp2_with fail
      go_roundw
      case rel => exact ⟨j + 1, by omega, by go_num, HB11⟩
      case measure => simp [intOf]; omega
    · have hltI : ¬ (j : Int) < (pn : Int) := by omega
      have HE : Hid (Below w.heap.size w wr) := HBW7.out.trans (hbr.out.mono HBW7.out.size)
      clear hbr
      go_wp2_with fail
      go_ret
      exact ⟨rfl, HE.out⟩
end Go.Proofs.YtljggjllijacjaaDoor
