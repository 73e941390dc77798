/- The statement on sums with numbers put in: the law. -/
import Derived.Test.YtaehhophaaipdabDoorJS
namespace Go.Proofs.YtaehhophaaipdabDoor
open Go.RowKit
attribute [local go_sem ↓] Go.wp_at_zero Go.wp_at_succ
set_option maxRecDepth 100000 in
set_option maxHeartbeats 8000000 in
theorem t3 (l : List C) (v0 : Value) (xs : List Int) (v1 : Value) (x : Nm) (l2 : List C) (v2 : Value) (w : World) (hT : TermAt w v0 l) (hW : ∀ c ∈ l, wfN (c.vn, c.vk)) (hI : IntsR w v1 xs) (hT2 : TermAt w v2 l2) (hW2 : ∀ c ∈ l2, wfN (c.vn, c.vk)) (hx : wfN x) (hby : l2.length * 48 ≤ 140737488355328) (hS : Signs w) :
    Calls Tryd.prog 3 #[v0, v1, .agg #[.int .i64 x.1, .int .i64 x.2, v2]] w fun e w' => e = .returned (.bool true) ∧ Below w.heap.size w w' := by
  obtain ⟨i0, hi, hz, hs1, hby1⟩ := infoT
  obtain ⟨va, vc, hv0⟩ := hT.form
  obtain ⟨xa, xc, hv1⟩ := hI.form
  obtain ⟨ya, yc, hv2⟩ := hT2.form
  subst hv0 hv1 hv2
  have hxl := hI.1
  unfold maxLen at hxl
  obtain ⟨u, hu⟩ : ∃ u, w.alloc (.cells #[.int .i64 x.1, .int .i64 x.2, .slice ya l2.length yc] 28) = u := ⟨_, rfl⟩
  have hbu : Below w.heap.size w u := by rw [← hu]; exact below_alloc _ _
  have hus : w.heap.size < u.heap.size := by rw [← hu]; simp
  have HA : Hid (Ar u l (.slice va l.length vc) xs (.slice xa xs.length xc) x l2 (.slice ya l2.length yc)) := ⟨hT.below hbu, hW, hI.below hbu, hT2.below hbu, hW2, hx, hby, hS.below hbu⟩
  have HC : Hid (u.heap[w.heap.size]? = some (.cells #[.int .i64 x.1, .int .i64 x.2, .slice ya l2.length yc] 28 (0, 0)) ∧ Below w.heap.size w u) := ⟨by rw [← hu]; exact heap_alloc_new _ _, hbu⟩
  have H4 : Calls Tryd.prog 4 #[] u fun e w' => ∃ hb M : Nat, e = .returned (.pointer (some ⟨hb, 0, none⟩)) ∧ Hid (Su u hb M [] [] (.slice none 0 0) w') := by
    refine (h26 u).mono ?_
    rintro e w' ⟨rfl, h1, h2⟩
    exact ⟨_, _, rfl, ⟨_, _, _, h1, Nat.zero_le _, Bd0.nil, fun _ v _ hv _ _ => nomatch (show (DataW.lit (.bool true) : DataW Value) = .held v from hv _)⟩, ⟨_, Tr1.nil _ _⟩, Nat.le_refl _, h2⟩
  clear hT hI hT2 hW hW2 hx hby hS hbu
  go_enter Tryd.func3, Tryd.ntmps3
  go_wp2_with fail
  refine H4.mono ?_
  rintro e w1 ⟨hb, M, rfl, H1⟩
  clear H4
  clear hu
  go_wp2_with fail
  go_loopw [8, 9] (fun lv iv wr => ∃ (k : Nat) (la : Option Addr) (lc : Nat), k ≤ xs.length ∧ k ≤ 8 ∧ iv = .int .i64 k ∧ lv = .slice la k lc ∧ Hid (Su u hb M (numsI xs k) ((numsI xs k).map kI) (.slice la k lc) wr)) (fun _ iv _ => 8 - (intOf iv).toNat)
  case atStart => exact ⟨0, none, 0, Nat.zero_le _, by omega, rfl, rfl, H1⟩
  case round =>
    clear H1
    obtain ⟨k, la, lc, hk, hk8, rfl, rfl, HK⟩ := hrel
    by_cases hlt : k < xs.length ∧ k < 8
    · obtain ⟨hlt, hlt8⟩ := hlt
      have g1 : (k : Int) < (xs.length : Int) := by omega
      have g2 : (k : Int) < 8 := by omega
      have g0 : (0 : Int) ≤ (k : Int) := by omega
      obtain ⟨b, o, cp, hu1, c0, _⟩ := (HA.out.t1.below HK.out.bel).at k hlt
      simp only [Value.slice.injEq] at hu1
      obtain ⟨rfl, _, rfl⟩ := hu1
      have HN : Hid (numsI xs (k + 1) = numsI xs k ++ [whF xs[k] 1000 - 500]) := numsI_succ xs k hlt
      have HL : Hid ((numsI xs k).length = k) := numsI_len xs k hk
      generalize xs[k] = y at *
      have H5 := z5 y 1000 wr (by decide) (by decide)
      have hin := whF_in y
      generalize whF y 1000 = t at *
      obtain ⟨hin0, hin1⟩ := hin
      have hok : Hid (okI (t - 500)) := by show okI _; unfold okI; omega
      have H7 : ∀ W : World, Hid (Signs W) → Calls Tryd.prog 7 #[.int .i64 (t - 500)] W fun e w' => ∃ g, e = .returned (.slice (some ⟨g, 0, none⟩) 1 1) ∧ Hid (One1 W.heap.size w' (.slice (some ⟨g, 0, none⟩) 1 1) (kI (t - 500)) ∧ Below W.heap.size W w') := fun W h => z7 (t - 500) W h.out hok.out
      go_wp2_with fail
      refine H5.mono ?_
      rintro e w2 ⟨rfl, hw2⟩
      obtain rfl := hw2.symm
      clear H5
      go_wp2_with fail
      refine (H7 _ (HA.out.sg.below HK.out.bel)).mono ?_
      rintro e w3 ⟨g, rfl, HG⟩
      have H6 : Calls Tryd.prog 6 #[.pointer (some ⟨hb, 0, none⟩), .agg #[.int .i64 0, .int .i64 (k : Int)], .slice (some ⟨g, 0, none⟩) 1 1] w3 fun e w' => e = .returned (.int .i64 0) ∧ Hid (Su u hb M (numsI xs k ++ [t - 500]) ((numsI xs k).map kI) (.slice la k lc) w') := by
        have := su_bind HA.out (HK.out.below HG.out.2) (t - 500) hok.out (by rw [HL.out]; exact hlt8) g (HG.out.1.low HK.out.bel.size)
        rw [HL.out] at this
        exact this
      clear HG
      go_wp2_with fail
      refine H6.mono ?_
      rintro e w4 ⟨rfl, HS⟩
      clear H6
      go_wp2_with fail
      refine (H7 _ (HA.out.sg.below HS.out.bel)).mono ?_
      rintro e w5 ⟨g2, rfl, HG⟩
      obtain ⟨vs, HV⟩ : ∃ vs, Hid (Tr1 u.heap.size w4 (.slice la k lc) ((numsI xs k).map kI) vs) := HS.out.tr
      have hlen : ((numsI xs k).map kI).length = k := by rw [List.length_map]; exact HL.out
      have HT : Hid (Tr1 u.heap.size (w5.alloc (.cells #[.slice (some ⟨g2, 0, none⟩) 1 1] 23)) (.slice la k lc) ((numsI xs k).map kI) vs ∧ One1 u.heap.size (w5.alloc (.cells #[.slice (some ⟨g2, 0, none⟩) 1 1] 23)) (.slice (some ⟨g2, 0, none⟩) 1 1) (kI (t - 500)) ∧ Su u hb M (numsI xs k ++ [t - 500]) ((numsI xs k).map kI) (.slice la k lc) (w5.alloc (.cells #[.slice (some ⟨g2, 0, none⟩) 1 1] 23))) := by
        have hb3 : Below w5.heap.size w5 (w5.alloc (.cells #[.slice (some ⟨g2, 0, none⟩) 1 1] 23)) := below_alloc _ _
        exact ⟨(HV.out.below HG.out.2).below hb3, (HG.out.1.low HS.out.bel.size).below hb3, (HS.out.below HG.out.2).below hb3⟩
      clear HG HV HS
      have hown : Hid ((w5.alloc (.cells #[.slice (some ⟨g2, 0, none⟩) 1 1] 23)).ownsRow u.heap.size 23 1 (.slice la k lc) k vs) := by
        have := HT.out.1.own
        rw [hlen] at this
        exact this
      go_wp2_with (at_builtin; refine wpList_append_own _ rfl _ _ 31 rfl u.heap.size 23 i0 _ 1 24 Tryd.underlying31 hi hz hs1 hby1 rfl (by decide) _ _ _ rfl hown.out ⟨w5.heap.size, 0, none⟩ 1 1 [.slice (some ⟨g2, 0, none⟩) 1 1] rfl rfl (fun j u hu => by rw [Addr.add_mid, Nat.zero_add, cell_of_row _ w5.heap.size j _ 23 (0, 0) (heap_alloc_new w5 _)]; simpa using hu) (fun u hu => by simp at hu; subst hu; rfl) (by unfold maxLen; omega) (by omega) HT.out.2.2.bel.size ?_)
      intro v' w6 hown' hgr _
      obtain ⟨la', lc', rfl, HF⟩ : ∃ la' lc', v' = .slice la' (k + 1) lc' ∧ Hid (Su u hb M (numsI xs (k + 1)) ((numsI xs (k + 1)).map kI) (.slice la' (k + 1) lc') w6) := by
        obtain ⟨a, c, e⟩ := owns_sl hown'
        subst e
        refine ⟨a, c, rfl, ?_⟩
        obtain ⟨t1, t2, ⟨n, D, m, s1, s2, s3, s4⟩, _, s5, s6⟩ := HT.out
        obtain ⟨k1, k2⟩ := hp_grown s1 s4 hown.out hgr
        rw [HN.out, List.map_append]
        exact ⟨⟨n, D, m, k1, s2, s3, k2⟩, ⟨_, t1.more t2 (by rw [hlen]; exact hown') hgr⟩, s5, s6.grown hgr s6.size (fun g hg => (hown.out.lt g hg).1)⟩
      clear hown' hgr HT hown
      go_wp2_with fail
      go_roundw
      case rel => exact ⟨k + 1, la', lc', by omega, by omega, by go_num, rfl, HF⟩
      case measure => simp [intOf]; omega
    · obtain ⟨wL, rfl⟩ : ∃ wL, wL = wr := ⟨_, rfl⟩
      obtain ⟨ns, hns⟩ : ∃ ns, numsI xs k = ns := ⟨_, rfl⟩
      have hln := numsI_len xs k hk
      rw [hns] at HK hln
      clear hns
      subst hln
      obtain ⟨n0, D0, m, HM⟩ : ∃ n0 D0 m, Hid (HpAt wL hb M n0 D0 m ∧ n0 ≤ ns.length ∧ Bd0 m ns) := by
        obtain ⟨n0, D0, m, s1, s2, s3, _⟩ := HK.out.hp
        exact ⟨n0, D0, m, s1, s2, s3⟩
      have hcase : ¬ (ns.length : Int) < (xs.length : Int) ∨ ((ns.length : Int) < (xs.length : Int) ∧ ¬ (ns.length : Int) < 8) := by omega
      clear hlt
      rcases hcase with g1 | ⟨g1, g2⟩ <;> (
        go_wp2_with fail
        go_loopw [11, 12] (fun vv iv wr => ∃ (j : Nat) (ba : Option Addr) (bc : Nat), j ≤ ns.length ∧ iv = .int .i64 j ∧ vv = .slice ba j bc ∧ Hid ((∃ vs, Tr1 wL.heap.size wr (.slice ba j bc) ((List.range j).map kV) vs) ∧ Below wL.heap.size wL wr)) (fun _ iv _ => ns.length - (intOf iv).toNat)
        case atStart => exact ⟨0, none, 0, Nat.zero_le _, rfl, rfl, ⟨_, Tr1.nil _ _⟩, Below.refl _ _⟩
        case round =>
          obtain ⟨j, ba, bc, hj, rfl, rfl, HQ⟩ := hrel
          by_cases hlt : j < ns.length
          · have q1 : (j : Int) < (ns.length : Int) := by omega
            have H8 := z8 j wr (HA.out.sg.below (HK.out.bel.trans (HQ.out.2.mono HK.out.bel.size)))
            go_wp2_with fail
            refine H8.mono ?_
            rintro e w5 ⟨g2, rfl, HG⟩
            clear H8
            obtain ⟨vs, HV⟩ : ∃ vs, Hid (Tr1 wL.heap.size wr (.slice ba j bc) ((List.range j).map kV) vs) := HQ.out.1
            have hlen : ((List.range j).map kV).length = j := by simp
            have HT : Hid (Tr1 wL.heap.size (w5.alloc (.cells #[.slice (some ⟨g2, 0, none⟩) 1 1] 23)) (.slice ba j bc) ((List.range j).map kV) vs ∧ One1 wL.heap.size (w5.alloc (.cells #[.slice (some ⟨g2, 0, none⟩) 1 1] 23)) (.slice (some ⟨g2, 0, none⟩) 1 1) (kV j) ∧ Below wL.heap.size wL (w5.alloc (.cells #[.slice (some ⟨g2, 0, none⟩) 1 1] 23))) := by
              have hb3 : Below w5.heap.size w5 (w5.alloc (.cells #[.slice (some ⟨g2, 0, none⟩) 1 1] 23)) := below_alloc _ _
              have hb5 := HQ.out.2.trans (HG.out.2.mono HQ.out.2.size)
              exact ⟨(HV.out.below HG.out.2).below hb3, (HG.out.1.low HQ.out.2.size).below hb3, hb5.trans (hb3.mono hb5.size)⟩
            clear HG HV HQ
            have hown : Hid ((w5.alloc (.cells #[.slice (some ⟨g2, 0, none⟩) 1 1] 23)).ownsRow wL.heap.size 23 1 (.slice ba j bc) j vs) := by
              have := HT.out.1.own
              rw [hlen] at this
              exact this
            go_wp2_with (at_builtin; refine wpList_append_own _ rfl _ _ 31 rfl wL.heap.size 23 i0 _ 1 24 Tryd.underlying31 hi hz hs1 hby1 rfl (by decide) _ _ _ rfl hown.out ⟨w5.heap.size, 0, none⟩ 1 1 [.slice (some ⟨g2, 0, none⟩) 1 1] rfl rfl (fun j u hu => by rw [Addr.add_mid, Nat.zero_add, cell_of_row _ w5.heap.size j _ 23 (0, 0) (heap_alloc_new w5 _)]; simpa using hu) (fun u hu => by simp at hu; subst hu; rfl) (by unfold maxLen; omega) (by omega) HT.out.2.2.size ?_)
            intro v' w6 hown' hgr _
            obtain ⟨la', lc', rfl, HF⟩ : ∃ la' lc', v' = .slice la' (j + 1) lc' ∧ Hid ((∃ vs, Tr1 wL.heap.size w6 (.slice la' (j + 1) lc') ((List.range (j + 1)).map kV) vs) ∧ Below wL.heap.size wL w6) := by
              obtain ⟨a, c, e⟩ := owns_sl hown'
              subst e
              obtain ⟨t1, t2, t3⟩ := HT.out
              rw [List.range_succ, List.map_append]
              exact ⟨a, c, rfl, ⟨_, t1.more t2 (by rw [hlen]; exact hown') hgr⟩, t3.grown hgr t3.size (fun g hg => (hown.out.lt g hg).1)⟩
            clear hown' hgr HT hown
            go_wp2_with fail
            go_roundw
            case rel => exact ⟨j + 1, la', lc', by omega, by go_num, rfl, HF⟩
            case measure => simp [intOf]; omega
          · obtain rfl : j = ns.length := by omega
            have q1 : ¬ (ns.length : Int) < (ns.length : Int) := by omega
            have HB : Hid (Below u.heap.size u wr ∧ Below wL.heap.size wL wr) := ⟨HK.out.bel.trans (HQ.out.2.mono HK.out.bel.size), HQ.out.2⟩
            obtain ⟨E, hE⟩ : ∃ E, putE l (ones ((List.range ns.length).map kV)) = E := ⟨_, rfl⟩
            have HE1 : Hid (putE l (ones ((List.range ns.length).map kV)) = E) := hE
            have HE2 : Hid (putE l (ones (ns.map kI)) = E) := (ones_putE (by simp) (kVs_r _) (kIs_r HM.out.2.2.ok) l).symm.trans hE
            clear hE
            have H9 : Calls Tryd.prog 9 #[.slice va l.length vc, .slice ba ns.length bc] wr fun e w' => ∃ a n c, e = .returned (.tuple #[.slice a n c, .int .i64 E]) ∧ Hid (OwnT w' wr.heap.size (.slice a n c) (putT l (ones ((List.range ns.length).map kV))) ∧ Below wr.heap.size wr w') := by
              obtain ⟨vs, hV⟩ := HQ.out.1
              refine (c31 l _ _ _ wr (HA.out.t0.below HB.out.1) (hV.row (kVs_t _) (by simp; unfold maxLen; omega)) (HA.out.sg.below HB.out.1)).mono ?_
              rintro e w' ⟨t, rfl, h1, h2⟩
              obtain ⟨a, c, e⟩ := owns_sl h1
              subst e
              rw [HE1.out]
              exact ⟨a, _, c, rfl, h1, h2⟩
            have H9b : ∀ W, Hid (Below wr.heap.size wr W) → Calls Tryd.prog 9 #[.slice va l.length vc, .slice la ns.length lc] W fun e w' => ∃ a n c, e = .returned (.tuple #[.slice a n c, .int .i64 E]) ∧ Hid (OwnT w' W.heap.size (.slice a n c) (putT l (ones (ns.map kI))) ∧ Below W.heap.size W w') := fun W hW => by
              obtain ⟨vs, hV⟩ := HK.out.tr
              have hb1 := HB.out.1.trans (hW.out.mono HB.out.1.size)
              have hb2 := HB.out.2.trans (hW.out.mono HB.out.2.size)
              refine (c31 l _ _ _ W (HA.out.t0.below hb1) ((hV.below hb2).row (kIs_t _) (by simp; unfold maxLen; omega)) (HA.out.sg.below hb1)).mono ?_
              rintro e w' ⟨t, rfl, h1, h2⟩
              obtain ⟨a, c, e⟩ := owns_sl h1
              subst e
              rw [HE2.out]
              exact ⟨a, _, c, rfl, h1, h2⟩
            go_wp2_with fail
            refine H9.mono ?_
            rintro e w8 ⟨a8, n8, c8, rfl, H8⟩
            clear H9
            go_wp2_with fail
            refine (H9b w8 H8.out.2).mono ?_
            rintro e w9 ⟨a9, n9, c9, rfl, H9⟩
            clear H9b
            have HB9 : Hid (Below w8.heap.size w8 w9 ∧ Below u.heap.size u w9 ∧ Below wL.heap.size wL w9 ∧ Below w.heap.size w w9) := by
              have b8 := H8.out.2.trans (H9.out.2.mono H8.out.2.size)
              have bu := HB.out.1.trans (b8.mono HB.out.1.size)
              exact ⟨H9.out.2, bu, HB.out.2.trans (b8.mono HB.out.2.size), HC.out.2.trans (bu.mono HC.out.2.size)⟩
            by_cases hE0 : E = 0
            · subst hE0
              obtain ⟨d, d2, n, o, n2, o2, r1, r2, r3, s1, s2, s3, hS1, hS2, hS3, ho, hfin⟩ := sums_plain HM.out.2.2 HM.out.1.desc (desc_bind HM.out.1.desc x l2) (rg_bind HM.out.2.2.rg x l2) (sub_bind m x l2) l HE1.out
              have HT8 : Hid (OwnT w9 wr.heap.size (.slice a8 n8 c8) (putL (ones ((List.range ns.length).map kV)) l) ∧ TermAt w9 (.slice a8 n8 c8) (putL (ones ((List.range ns.length).map kV)) l) ∧ rightB (putL (ones ((List.range ns.length).map kV)) l) = true ∧ ∀ c ∈ putL (ones ((List.range ns.length).map kV)) l, wfN (c.vn, c.vk)) := by
                have e1 : putT l (ones ((List.range ns.length).map kV)) = putL (ones ((List.range ns.length).map kV)) l := by unfold putT; rw [if_pos HE1.out]
                have h1 := ownT_below H8.out.1 HB9.out.1
                exact ⟨e1 ▸ h1, put_terms h1 HE1.out HA.out.t0.1.2 (kVs_t _), (put_right HE1.out).2, put_wf HA.out.w0 (kVs_w hk8)⟩
              have HT9 : Hid (TermAt w9 (.slice a9 n9 c9) (putL (ones (ns.map kI)) l) ∧ rightB (putL (ones (ns.map kI)) l) = true ∧ ∀ c ∈ putL (ones (ns.map kI)) l, wfN (c.vn, c.vk)) :=
                ⟨put_terms H9.out.1 HE2.out HA.out.t0.1.2 (kIs_t _), (put_right HE2.out).2, put_wf HA.out.w0 (kIs_w _)⟩
              generalize putL (ones ((List.range ns.length).map kV)) l = A at *
              generalize putL (ones (ns.map kI)) l = B at *
              have HV1 : Calls Tryd.prog 10 #[.pointer (some ⟨hb, 0, none⟩), .slice a8 n8 c8] w9 (ValPost (valN n o) o (valM o s1) w9) := h39 m (rg_ok HM.out.2.2.rg) _ A _ w9 d n o r1 s1 HT8.out.2.1 (HA.out.sg.below HB9.out.2.1) HT8.out.2.2.1 (.inr ⟨hb, M, n0, D0, rfl, HM.out.1.below HB9.out.2.2.1⟩) hS1 HT8.out.2.2.2 (by have := ((right_iff _).1 HT8.out.2.2.1).2.1; omega)
              have HV2 : ∀ W, Hid (Below w9.heap.size w9 W) → Calls Tryd.prog 10 #[.pointer (some ⟨hb, 0, none⟩), .slice a9 n9 c9] W (ValPost (valN n o) o (valM o s2) W) := fun W hW => h39 m (rg_ok HM.out.2.2.rg) _ B _ W d n o r2 s2 (HT9.out.1.below hW.out) ((HA.out.sg.below HB9.out.2.1).below hW.out) HT9.out.2.1 (.inr ⟨hb, M, n0, D0, rfl, (HM.out.1.below HB9.out.2.2.1).below hW.out⟩) hS2 HT9.out.2.2 (by have := ((right_iff _).1 HT9.out.2.1).2.1; omega)
              have HV3 : ∀ W n' D', Hid (HpAt W hb M n' D' (bindH m x l2) ∧ TermAt W (.slice a8 n8 c8) A ∧ Signs W) → Calls Tryd.prog 10 #[.pointer (some ⟨hb, 0, none⟩), .slice a8 n8 c8] W (ValPost (valN n2 o2) o2 (valM o2 s3) W) := fun W n' D' hW => h39 _ (rg_ok (rg_bind HM.out.2.2.rg x l2)) _ A _ W d2 n2 o2 r3 s3 hW.out.2.1 hW.out.2.2 HT8.out.2.2.1 (.inr ⟨hb, M, n', D', rfl, hW.out.1⟩) hS3 HT8.out.2.2.2 (by have := ((right_iff _).1 HT8.out.2.2.1).2.1; omega)
              have H6 : ∀ W, Hid (Below w9.heap.size w9 W) → Calls Tryd.prog 6 #[.pointer (some ⟨hb, 0, none⟩), .agg #[.int .i64 x.1, .int .i64 x.2], .slice ya l2.length yc] W fun e w' => e = .returned (.int .i64 (bindE m x l2)) ∧ Hid ((∃ n' D', HpAt w' hb M n' D' (bindH m x l2) ∧ TermAt w' (.slice a8 n8 c8) A ∧ Signs w') ∧ Below u.heap.size u w') := fun W hW => by
                have bu := HB9.out.2.1.trans (hW.out.mono HB9.out.2.1.size)
                have hp := (HM.out.1.below HB9.out.2.2.1).below hW.out
                refine (h11 m hb M n0 D0 x l2 _ W hp HA.out.wx (HA.out.t2.below bu) HA.out.w2 (HA.out.sg.below bu) HA.out.by2 (by have := HM.out.2.1; unfold maxLen; omega)).mono ?_
                rintro e w' ⟨rfl, n', D', k1, k2, k3, _⟩
                have bw := bu.trans (k3.below HK.out.low bu.size)
                refine ⟨rfl, ⟨n', D', k1, (HT8.out.2.1.below hW.out).keeps fun g hg => ?_, HA.out.sg.below bw⟩, bw⟩
                obtain ⟨_, cu, hc⟩ := own_blk (ownT_below HT8.out.1 hW.out) hg
                exact k3.2.2.2.2 g (Array.getElem?_eq_some_iff.1 hc).1 (fun e => by subst e; exact hp.noCells _ _ hc)
              have HX3 : Hid (∀ W, Below w9.heap.size w9 W → W.cell? ⟨w.heap.size, 0, none⟩ = some (.int .i64 x.1) ∧ W.cell? ⟨w.heap.size, 1, none⟩ = some (.int .i64 x.2) ∧ W.cell? ⟨w.heap.size, 2, none⟩ = some (.slice ya l2.length yc)) := fun W hW => by
                have bu := HB9.out.2.1.trans (hW.mono HB9.out.2.1.size)
                have e1 : W.heap[w.heap.size]? = some (.cells #[.int .i64 x.1, .int .i64 x.2, .slice ya l2.length yc] 28 (0, 0)) := (bu.block w.heap.size hus).trans HC.out.1
                refine ⟨?_, ?_, ?_⟩
                · rw [cell_of_row W _ 0 _ 28 (0, 0) e1]; rfl
                · rw [cell_of_row W _ 1 _ 28 (0, 0) e1]; rfl
                · rw [cell_of_row W _ 2 _ 28 (0, 0) e1]; rfl
              clear hS1 hS2 hS3 H8 H9 HT8 HT9 HE1 HE2
              generalize valN n o = N at *
              generalize valN n2 o2 = N2 at *
              have ho1 : ¬ o < 1 := by omega
              have ho3 : ¬ o > 3 := by omega
              have hoo : (o != o) = false := by simp
              have hNN : (N != N) = false := by simp
              go_wp2_with fail
              refine HV1.mono ?_
              rintro e w10 ⟨nv1, rfl, _, b10⟩
              clear HV1
              go_wp2_with fail
              refine (HV2 _ b10).mono ?_
              rintro e w11 ⟨nv2, rfl, _, b11⟩
              clear HV2
              have HB11 : Hid (Below w9.heap.size w9 w11) := b10.trans (b11.mono b10.size)
              clear b10 b11
              obtain ⟨c0, c1, c2⟩ := HX3.out w11 HB11.out
              have H6' := H6 w11 HB11
              clear H6 HX3
              go_wp2_with fail
              refine H6'.mono ?_
              rintro e w12 ⟨rfl, H12⟩
              clear H6'
              obtain ⟨n', D', H13⟩ : ∃ n' D', Hid (HpAt w12 hb M n' D' (bindH m x l2) ∧ TermAt w12 (.slice a8 n8 c8) A ∧ Signs w12) := H12.out.1
              go_wp2_with fail
              refine (HV3 _ n' D' H13).mono ?_
              rintro e w13 ⟨nv3, rfl, _, b13⟩
              have HE : Hid (Below w.heap.size w w13) := by
                have bu := H12.out.2.trans (b13.mono H12.out.2.size)
                exact HC.out.2.trans (bu.mono HC.out.2.size)
              by_cases h3 : o = 3
              · subst h3
                go_wp2_with fail
                go_ret
                exact ⟨rfl, HE.out⟩
              · rcases hfin with e3 | ⟨rfl, rfl⟩
                · exact absurd e3 h3
                · go_wp2_with fail
                  go_ret
                  exact ⟨by simp, HE.out⟩
            · go_wp2_with fail
              go_ret
              exact ⟨by simp, HB9.out.2.2.2⟩)
end Go.Proofs.YtaehhophaaipdabDoor
