/- Contract of JournalRuns. -/
import Derived.Test.YthomdgafaffphaaKE
namespace Go.Proofs.Ythomdgafaffphaa
open Go.RowKit
attribute [local go_sem ↓] Go.wp_at_zero Go.wp_at_succ
theorem info50 : ∃ i, Try.prog.info? 50 = some i ∧ i.zero = some (.agg #[.pointer none, .pointer none]) ∧ i.size = 2 ∧ i.bytes = 16 := by
  have h : (Try.prog.info? 50).map (fun i => (i.zero, i.size, i.bytes)) = some (some (.agg #[.pointer none, .pointer none]), 2, 16) := by kernel_rfl
  cases hq : Try.prog.info? 50 with
  | none => rw [hq] at h; cases h
  | some i =>
    rw [hq] at h
    simp only [Option.map_some, Option.some.injEq, Prod.mk.injEq] at h
    exact ⟨i, rfl, h.1, h.2.1, h.2.2⟩
def RunI (w0 : World) (bb : Nat) (es : List Dj) (x0 k : Nat) (ov : Value) (w' : World) : Prop := ∃ B lb rb s t xs olds, RunS w0 w' bb B lb rb s t xs ov olds ∧ xs.length ≤ x0 + sumJ (es.take k) ∧ olds.length ≤ 6
theorem RunS.at {w0 w : World} {bb B lb rb : Nat} {s t : Sl} {xs : List Int} {oa : Option Addr} {om oc : Nat} {olds : List Od} (h : RunS w0 w bb B lb rb s t xs (.slice oa om oc) olds) {j : Nat} (hj : j < om) : ∃ g, ∃ (hx : j < olds.length), oa = some ⟨g, 0, none⟩ ∧ ∀ w', Below w.heap.size w w' → w'.cell? ⟨g, 0 + j * 2, none⟩ = some (.pointer (some ⟨olds[j].lb, 0, none⟩)) ∧ w'.cell? ⟨g, 0 + j * 2 + 1, none⟩ = some (.pointer (some ⟨olds[j].rb, 0, none⟩)) := by
  rcases h.old.2 with ⟨e, _⟩ | ⟨g, cap, cur, e, h2, h3, h4, h5, h6, h7⟩
  · cases e; omega
  · cases e
    refine ⟨g, hj, rfl, fun w' hw => ?_⟩
    have hlt : g < w.heap.size := (Array.getElem?_eq_some_iff.1 h3).1
    have h8 := (hw.block g hlt).trans h3
    obtain ⟨p1, p2⟩ := flatO_get olds j hj
    have key : ∀ i v, i < olds.length * 2 → (flatO olds)[i]? = some v → w'.cell? ⟨g, 0 + i, none⟩ = some v := fun i v hi hv => by
      rw [Nat.zero_add, cell_of_row w' g i _ 50 (0, 0) h8]
      rw [← h7, List.getElem?_take_of_lt hi] at hv
      simpa using hv
    exact ⟨key (j * 2) _ (by omega) p1, by have := key (j * 2 + 1) _ (by omega) p2; rwa [← Nat.add_assoc] at this⟩
set_option maxRecDepth 100000 in
set_option maxHeartbeats 16000000 in
theorem j4 (a : Option Addr) (n c : Nat) (xs0 : List Int) (da : Option Addr) (dn dc : Nat) (es : List Dj) (w : World) (hA : By w a n c xs0) (hD : DjRow w da dn es) (hn : xs0.length + sumJ es ≤ 99000000) (hdn : dn ≤ 9223372036854775807) :
    Calls Try.prog 4 #[.slice a n c, .slice da dn dc] w fun e w' => e = .returned (.bool true) ∧ Below w.heap.size w w' := by
  obtain ⟨i0, hi0, hz0, hsz0, hby0⟩ := info50
  have HD : Hid (DjRow w da dn es) := hD
  have HA : Hid (By w a n c xs0) := hA
  have hnl : n ≤ 99000000 := by have := hA.len; omega
  have H14 : Calls Try.prog 14 #[] w fun e w' => e = .returned (.bool true) ∧ Hid (Below w.heap.size w w') := j14 w
  clear hA hD
  go_enter Try.func4, Try.ntmps4
  go_wp2_with fail
  refine H14.mono ?_
  rintro e w1 ⟨rfl, H1⟩
  clear H14
  have H23 : Calls Try.prog 23 #[.slice a n c] w1 fun e w' => ∃ lb s, e = .returned (.pointer (some ⟨lb, 0, none⟩)) ∧ Hid (w1.heap.size ≤ lb ∧ LogAt w' lb w1.heap.size s xs0 ∧ Below w1.heap.size w1 w') := by
    refine (j23 a n c xs0 w1 (HA.out.below H1.out) (by omega)).mono ?_
    rintro e w' ⟨s, rfl, _, h2, h3⟩
    exact ⟨_, s, rfl, Nat.le_refl _, h2, h3⟩
  go_wp2_with fail
  refine H23.mono ?_
  rintro e w2 ⟨lb, s, rfl, H2⟩
  clear H23
  have H24 : Calls Try.prog 24 #[.slice a n c] w2 fun e w' => ∃ rb, e = .returned (.pointer (some ⟨rb, 0, none⟩)) ∧ Hid (∃ t, Pr w' w1.heap.size lb rb s t xs0 ∧ Below w.heap.size w w') := by
    have hb2 : Below w.heap.size w w2 := H1.out.trans (H2.out.2.2.mono H1.out.size)
    refine (j24 a n c xs0 w2 (HA.out.below hb2) (by omega)).mono ?_
    rintro e w' ⟨g, rfl, ⟨t, h1⟩, h2⟩
    have hs2 := H2.out.2.2.size
    refine ⟨g, rfl, t, ⟨H2.out.2.1.below h2, H2.out.1, ⟨h1.blk, by have := h1.hb; omega, h1.row.base hs2, h1.rng⟩, fun k e1 e2 => ?_⟩, hb2.trans (h2.mono hb2.size)⟩
    have q1 := (H2.out.2.1.row.lt e1).2
    have q2 := (h1.row.lt e2).1
    omega
  go_wp2_with fail
  refine H24.mono ?_
  rintro e w3 ⟨rb, rfl, H3⟩
  clear H24 H2
  obtain ⟨W3, hW3⟩ : ∃ W3, w3.alloc (.cells #[.pointer none, .pointer none] 50) = W3 := ⟨_, rfl⟩
  obtain ⟨bb, hbb⟩ : ∃ bb, w3.heap.size = bb := ⟨_, rfl⟩
  have hc : W3.heap[bb]? = some (.cells #[.pointer none, .pointer none] 50 (0, 0)) := by rw [← hW3, ← hbb]; exact heap_alloc_new w3 _
  have c0 : W3.cell? ⟨bb, 0, none⟩ = some (.pointer none) := by rw [cell_of_row W3 bb 0 _ 50 (0, 0) hc]; rfl
  have c1 : W3.cell? ⟨bb, 1, none⟩ = some (.pointer none) := by rw [cell_of_row W3 bb 1 _ 50 (0, 0) hc]; rfl
  have f0 := frozen_of_row W3 bb 0 _ 50 hc
  have f1 := frozen_of_row W3 bb 1 _ 50 hc
  have HR0 : Hid (∃ t, RunS w ((W3.setCell ⟨bb, 0, none⟩ (.pointer (some ⟨lb, 0, none⟩))).setCell ⟨bb, 1, none⟩ (.pointer (some ⟨rb, 0, none⟩))) bb w1.heap.size lb rb s t xs0 (.slice none 0 0) []) := by
    obtain ⟨t, h1, h2⟩ := H3.out
    have hw3 : w3.heap.size ≤ bb := by omega
    have b1 : Below w3.heap.size w3 W3 := by rw [← hW3]; exact (Below.refl _ _).alloc (Nat.le_refl _) _
    have b2 : Below w3.heap.size w3 ((W3.setCell ⟨bb, 0, none⟩ (.pointer (some ⟨lb, 0, none⟩))).setCell ⟨bb, 1, none⟩ (.pointer (some ⟨rb, 0, none⟩))) := (b1.setCell (p := ⟨bb, 0, none⟩) hw3 _).setCell (p := ⟨bb, 1, none⟩) hw3 _
    have e1 := heap_setCell_same W3 bb 0 _ 50 (.pointer (some ⟨lb, 0, none⟩)) hc
    have e2 := heap_setCell_same _ bb 1 _ 50 (.pointer (some ⟨rb, 0, none⟩)) e1
    have hs3 := h2.size
    exact ⟨t, h1.below b2, e2, h2.trans (b2.mono h2.size), World.ownsRow_nil _ _ _ _, fun e => by (cases e), fun o ho => by (cases ho), H1.out.size, by omega⟩
  obtain ⟨V, hV⟩ : ∃ V, (W3.setCell ⟨bb, 0, none⟩ (.pointer (some ⟨lb, 0, none⟩))).setCell ⟨bb, 1, none⟩ (.pointer (some ⟨rb, 0, none⟩)) = V := ⟨_, rfl⟩
  rw [hV] at HR0
  have H25 : Calls Try.prog 25 #[.agg #[.pointer (some ⟨lb, 0, none⟩), .pointer (some ⟨rb, 0, none⟩)]] V fun e w' => e = .returned (.bool true) ∧ Hid (RunI w bb es xs0.length 0 (.slice none 0 0) w') := by
    obtain ⟨t, h1⟩ := HR0.out
    refine (j25 _ lb rb s t xs0 V h1.pr (by omega)).mono ?_
    rintro e w' ⟨rfl, hb⟩
    exact ⟨rfl, _, lb, rb, s, t, xs0, [], h1.below hb, by omega, by simp⟩
  have v0 : V.cell? ⟨bb, 0, none⟩ = some (.pointer (some ⟨lb, 0, none⟩)) := by obtain ⟨t, h1⟩ := HR0.out; exact h1.cells.1
  have v1 : V.cell? ⟨bb, 1, none⟩ = some (.pointer (some ⟨rb, 0, none⟩)) := by obtain ⟨t, h1⟩ := HR0.out; exact h1.cells.2.1
  clear hc H3 HR0
  go_wp2_with fail
  refine H25.mono ?_
  rintro e w4 ⟨rfl, HI0⟩
  clear H25 hW3 hbb c0 c1 f0 f1 hV v0 v1
  go_wp2_with fail
  go_loopw [6, 7] (fun ov i wr => ∃ k : Nat, k ≤ dn ∧ i = .int .i64 k ∧ (∃ oa om oc, ov = .slice oa om oc) ∧ Hid (RunI w bb es xs0.length k ov wr)) (fun _ i _ => dn - (intOf i).toNat)
  case atStart => exact ⟨0, by omega, rfl, ⟨_, _, _, rfl⟩, HI0⟩
  case round =>
    clear HI0
    obtain ⟨k, hk, rfl, ⟨oa, om, oc, rfl⟩, HK⟩ := hrel
    by_cases hlt : k < dn
    · have hltI : (k : Int) < (dn : Int) := by omega
      have hk0 : (0 : Int) ≤ (k : Int) := by omega
      obtain ⟨b, o, hx, rfl, hpay, hcl⟩ := HD.out.at k hlt
      have hsk := sumJ_take es (k + 1)
      rw [sumJ_succ es k hx] at hsk
      have HSK : Hid (sumJ (es.take (k + 1)) = sumJ (es.take k) + (8 + es[k].n)) := sumJ_succ es k hx
      obtain ⟨B, lb, rb, s, t, xs, olds, hR, hxl, hol⟩ := HK.out
      have hom : om = olds.length := by
        rcases hR.old.2 with ⟨e, h2⟩ | ⟨g, cap, cur, e, _⟩
        · cases e; omega
        · cases e; rfl
      generalize es[k] = d at *
      obtain ⟨kd, kn, pa, pn, pc, p⟩ := d
      simp only at hpay hcl hsk HSK
      have HP : Hid ((By w pa pn pc p ∧ (pn = 0 ∨ ∀ j, blk pa = some j → j < w.heap.size)) ∧ ∀ w', Below w.heap.size w w' → w'.cell? ⟨b, o + k * 3, none⟩ = some (.int .i64 kd) ∧ w'.cell? ⟨b, o + k * 3 + 1, none⟩ = some (.int .i64 kn) ∧ w'.cell? ⟨b, o + k * 3 + 2, none⟩ = some (.slice pa pn pc)) := ⟨hpay, hcl⟩
      have HR : Hid (RunS w wr bb B lb rb s t xs (.slice oa om oc) olds) := hR
      have HL : Hid (xs.length ≤ xs0.length + sumJ (es.take k) ∧ olds.length ≤ 6 ∧ om = olds.length) := ⟨hxl, hol, hom⟩
      have hxb : xs.length + (8 + pn) ≤ 99000000 := by omega
      have hom6 : om ≤ 6 := by omega
      obtain ⟨p0, p1, p2⟩ := hcl wr hR.bel
      obtain ⟨c0, c1, f0, f1⟩ := hR.cells
      clear hpay hcl hR hxl hol hom HK hx
      by_cases hkd3 : kd = 3
      · subst hkd3
        by_cases ho6 : om < 6
        · have hdm : True := trivial
          obtain ⟨Wa, hWa⟩ : ∃ Wa, wr.alloc (.cells #[.pointer (some ⟨lb, 0, none⟩), .pointer (some ⟨rb, 0, none⟩)] 50) = Wa := ⟨_, rfl⟩
          have HO : Hid (Wa.ownsRow w.heap.size 50 2 (.slice oa om oc) om (flatO olds) ∧ Wa.heap[wr.heap.size]? = some (.cells #[.pointer (some ⟨lb, 0, none⟩), .pointer (some ⟨rb, 0, none⟩)] 50 (0, 0)) ∧ w.heap.size ≤ Wa.heap.size ∧ Below wr.heap.size wr Wa ∧ wr.heap.size < Wa.heap.size) := by
            have hb : Below wr.heap.size wr Wa := by rw [← hWa]; exact (Below.refl _ _).alloc (Nat.le_refl _) _
            have h1 := (HR.out.below hb).old
            rw [← HL.out.2.2] at h1
            refine ⟨h1, ?_, (HR.out.below hb).bel.size, hb, ?_⟩
            · rw [← hWa]; exact heap_alloc_new wr _
            · rw [← hWa]; simp
          obtain ⟨ab, hab⟩ : ∃ ab, wr.heap.size = ab := ⟨_, rfl⟩
          have hnews : Hid (∀ j u, (flatO [⟨lb, rb, xs⟩])[j]? = some u → Wa.cell? ((⟨ab, 0, none⟩ : Addr).add j) = some u) := fun j u hu => by
            rw [Addr.add_mid, Nat.zero_add, ← hab, cell_of_row Wa wr.heap.size j _ 50 (0, 0) HO.out.2.1]
            simpa [flatO] using hu
          have h6I : (om : Int) < 6 := by omega
          go_wp2_with (at_builtin; refine wpList_append_own_at _ rfl _ _ 51 rfl w.heap.size 50 i0 _ 2 16 Try.underlying51 hi0 hz0 hsz0 hby0 rfl (by decide) (.slice oa om oc) om (flatO olds) rfl HO.out.1 ⟨ab, 0, none⟩ 1 1 (flatO [⟨lb, rb, xs⟩]) rfl rfl hnews.out (flatO_one _) (by unfold maxLen; omega) (by omega) HO.out.2.2.1 ?_)
          intro ov' wf hown hgrow _ hat
          have HF : Hid (Pr wf B lb rb s t xs ∧ RunB w wf bb lb rb ov' (olds ++ [⟨lb, rb, xs⟩])) := by
            have hown' : wf.ownsRow w.heap.size 50 2 ov' (olds.length + 1) (flatO olds ++ flatO [⟨lb, rb, xs⟩]) := by rw [← HL.out.2.2]; exact hown
            exact HR.out.add (by omega) HO.out.2.2.2.1 hgrow hown' hat
          obtain ⟨oa', oc', hov⟩ := owns_slice hown
          subst hov
          clear hown hgrow hat hnews HO hWa hab p0 p1 p2 c0 c1 f0 f1
          obtain ⟨c0, c1, f0, f1⟩ := HF.out.2.cells
          have H26 : Calls Try.prog 26 #[.pointer (some ⟨lb, 0, none⟩)] wf.drew fun e w' => ∃ lb3 s3, e = .returned (.pointer (some ⟨lb3, 0, none⟩)) ∧ Hid (wf.heap.size ≤ lb3 ∧ LogAt w' lb3 wf.heap.size s3 xs ∧ Below wf.heap.size wf w') := by
            have hP := HF.out.1.below ((Below.refl _ wf).drew)
            refine (j26 lb B s xs wf.drew hP.log (by have := hP.lens.1; omega)).mono ?_
            rintro e w' ⟨lb', s', rfl, h1, h2, h3⟩
            exact ⟨lb', s', rfl, h1, h2, ((Below.refl _ wf).drew).trans h3⟩
          have H27 : Hid (∀ wg lb3 s3, Hid (wf.heap.size ≤ lb3 ∧ LogAt wg lb3 wf.heap.size s3 xs ∧ Below wf.heap.size wf wg) → Calls Try.prog 27 #[.pointer (some ⟨rb, 0, none⟩)] wg fun e w' => ∃ rb3, e = .returned (.pointer (some ⟨rb3, 0, none⟩)) ∧ Hid (∃ t3, Pr w' wf.heap.size lb3 rb3 s3 t3 xs ∧ Below wf.heap.size wf w')) := fun wg lb3 s3 hw => by
            obtain ⟨q1, q2, q3⟩ := hw.out
            have hP := HF.out.1.below q3
            refine (j27 rb B t xs wg hP.rf (by have := hP.lens.2; omega)).mono ?_
            rintro e w' ⟨g, rfl, ⟨t3, h1⟩, h2⟩
            have hs2 := q3.size
            refine ⟨g, rfl, t3, ⟨q2.below h2, q1, ⟨h1.blk, by have := h1.hb; omega, h1.row.base hs2, h1.rng⟩, fun k e1 e2 => ?_⟩, q3.trans (h2.mono hs2)⟩
            have r1 := (q2.row.lt e1).2
            have r2 := (h1.row.lt e2).1
            omega
          have HCk : Hid (∀ w', Below wf.heap.size wf w' → w'.cell? ⟨bb, 0, none⟩ = some (.pointer (some ⟨lb, 0, none⟩)) ∧ w'.cell? ⟨bb, 1, none⟩ = some (.pointer (some ⟨rb, 0, none⟩)) ∧ w'.frozen? ⟨bb, 0, none⟩ = false ∧ w'.frozen? ⟨bb, 1, none⟩ = false) := fun w' hw => (HF.out.2.below hw).cells
          go_wp2_with fail
          go_region_with (first
            | (go_at_call 26; refine H26.mono ?_; rintro e wg ⟨lb3, s3, rfl, HG⟩; obtain ⟨d0, d1, g0, g1⟩ := HCk.out _ HG.out.2.2)
            | (go_at_call 27; refine (H27.out _ _ _ HG).mono ?_; rintro e wh ⟨rb3, rfl, HH⟩; obtain ⟨e0, e1, h0, h1⟩ := HCk.out _ (by obtain ⟨_, _, q⟩ := HH.out; exact q)))
          all_goals (
            obtain ⟨w3, hw3⟩ : ∃ w3, (wh.setCell ⟨bb, 0, none⟩ (.pointer (some ⟨lb3, 0, none⟩))).setCell ⟨bb, 1, none⟩ (.pointer (some ⟨rb3, 0, none⟩)) = w3 := ⟨_, rfl⟩
            rw [hw3]
            obtain ⟨t3, hq1, hq2⟩ := HH.out
            obtain ⟨B3, hB3⟩ : ∃ B3, wf.heap.size = B3 := ⟨_, rfl⟩
            obtain ⟨olds3, ho3⟩ : ∃ olds3, olds ++ [⟨lb, rb, xs⟩] = olds3 := ⟨_, rfl⟩
            have HR3 : Hid (RunS w w3 bb B3 lb3 rb3 s3 t3 xs (.slice oa' (om + 1) oc') olds3) := by rw [← hB3, ← ho3]; exact HF.out.2.fresh hq2 hq1 hw3.symm
            have HL3 : Hid (olds3.length ≤ 6) := by
              have := HL.out.2.2
              show olds3.length ≤ 6
              rw [← ho3, List.length_append, List.length_singleton]; omega
            clear hq1 hq2 hB3 ho3 HF H26 H27 HCk HH HG hw3 c0 c1 f0 f1 d0 d1 g0 g1 e0 e1 h0 h1
            obtain ⟨c0, c1, f0, f1⟩ := HR3.out.cells
            obtain ⟨p0, p1, p2⟩ := HP.out.2 w3 HR3.out.bel
            have H29 : Calls Try.prog 29 #[.agg #[.pointer (some ⟨lb3, 0, none⟩), .pointer (some ⟨rb3, 0, none⟩)], .agg #[.int .i64 3, .int .i64 kn, .slice pa pn pc]] w3.drew fun e w' => e = .returned (.bool true) ∧ Hid (RunI w bb es xs0.length (k + 1) (.slice oa' (om + 1) oc') w') := by
              have hRd := HR3.out.below ((Below.refl _ w3).drew)
              refine (j29 B3 lb3 rb3 s3 t3 xs 3 kn pa pn pc p w3.drew hRd.pr (HP.out.1.1.below hRd.bel) (HP.out.1.2.imp id fun hh j hj => Nat.lt_of_lt_of_le (hh j hj) hRd.lo) (by omega)).mono ?_
              rintro e w' ⟨rfl, hd⟩
              obtain ⟨s', t', zs, h1, h2⟩ := hRd.did hd
              refine ⟨rfl, B3, lb3, rb3, s', t', zs, olds3, h1, ?_, HL3.out⟩
              have h3 := HL.out.1
              rw [HSK.out]
              omega
            go_wp2_with fail
            go_region_with (go_at_call 29; refine H29.mono ?_; rintro e w5 ⟨rfl, H5⟩)
            all_goals (
              clear H29 c0 c1 f0 f1 p0 p1 p2
              go_wp2_with fail
              go_roundw
              case rel => exact ⟨k + 1, by omega, by go_num, ⟨_, _, _, rfl⟩, H5⟩
              case measure => simp [intOf]; omega)
            )
        · have ho6I : ¬ (om : Int) < 6 := by omega
          have HR3 := HR
          have HL3 : Hid (olds.length ≤ 6) := HL.out.2.1
          have H29 : Calls Try.prog 29 #[.agg #[.pointer (some ⟨lb, 0, none⟩), .pointer (some ⟨rb, 0, none⟩)], .agg #[.int .i64 3, .int .i64 kn, .slice pa pn pc]] wr.drew fun e w' => e = .returned (.bool true) ∧ Hid (RunI w bb es xs0.length (k + 1) (.slice oa om oc) w') := by
            have hRd := HR3.out.below ((Below.refl _ wr).drew)
            refine (j29 B lb rb s t xs 3 kn pa pn pc p wr.drew hRd.pr (HP.out.1.1.below hRd.bel) (HP.out.1.2.imp id fun hh j hj => Nat.lt_of_lt_of_le (hh j hj) hRd.lo) (by omega)).mono ?_
            rintro e w' ⟨rfl, hd⟩
            obtain ⟨s', t', zs, h1, h2⟩ := hRd.did hd
            refine ⟨rfl, B, lb, rb, s', t', zs, olds, h1, ?_, HL3.out⟩
            have h3 := HL.out.1
            rw [HSK.out]
            omega
          go_wp2_with fail
          go_region_with (go_at_call 29; refine H29.mono ?_; rintro e w5 ⟨rfl, H5⟩)
          all_goals (
            clear H29 c0 c1 f0 f1 p0 p1 p2
            go_wp2_with fail
            go_roundw
            case rel => exact ⟨k + 1, by omega, by go_num, ⟨_, _, _, rfl⟩, H5⟩
            case measure => simp [intOf]; omega)
      · have hq3 : (kd == 3) = false := by simp [hkd3]
        by_cases hkd4 : kd = 4
        · subst hkd4
          have H28 : Calls Try.prog 28 #[.pointer (some ⟨lb, 0, none⟩)] wr.drew fun e w' => ∃ a' c', e = .returned (.slice a' xs.length c') ∧ Hid (By w' a' xs.length c' xs ∧ Below wr.heap.size wr w') := by
            have hRd := HR.out.below ((Below.refl _ wr).drew)
            have hsn := hRd.pr.lens.1
            refine (j28 lb B s xs wr.drew hRd.pr.log (by omega)).mono ?_
            rintro e w' ⟨a', c', rfl, hf⟩
            rw [hsn] at hf ⊢
            exact ⟨a', c', rfl, hf.1.by hRd.pr.log.rng, ((Below.refl _ wr).drew).trans hf.2⟩
          have H23 : Hid (∀ wg a' c', Hid (By wg a' xs.length c' xs ∧ Below wr.heap.size wr wg) → Calls Try.prog 23 #[.slice a' xs.length c'] wg fun e w' => ∃ lb3 s3, e = .returned (.pointer (some ⟨lb3, 0, none⟩)) ∧ Hid (wr.heap.size ≤ lb3 ∧ LogAt w' lb3 wr.heap.size s3 xs ∧ Below wr.heap.size wr w')) := fun wg a' c' hw => by
            obtain ⟨q1, q2⟩ := hw.out
            refine (j23 a' xs.length c' xs wg q1 (by omega)).mono ?_
            rintro e w' ⟨s3, rfl, _, h2, h3⟩
            have hs2 := q2.size
            exact ⟨_, s3, rfl, hs2, ⟨h2.blk, h2.row.base hs2, h2.rng⟩, q2.trans (h3.mono hs2)⟩
          obtain ⟨tq, htq⟩ : ∃ tq, t.n = tq := ⟨_, rfl⟩
          have H24 : Hid (∀ wg lb3 s3, Hid (wr.heap.size ≤ lb3 ∧ LogAt wg lb3 wr.heap.size s3 xs ∧ Below wr.heap.size wr wg) → Calls Try.prog 24 #[.slice t.a tq t.c] wg fun e w' => ∃ rb3, e = .returned (.pointer (some ⟨rb3, 0, none⟩)) ∧ Hid (∃ t3, Pr w' wr.heap.size lb3 rb3 s3 t3 xs ∧ Below wr.heap.size wr w')) := fun wg lb3 s3 hw => by
            obtain ⟨q1, q2, q3⟩ := hw.out
            have hP := HR.out.pr.below q3
            have hsn := hP.lens.2
            refine (j24 t.a tq t.c xs wg (by rw [← htq]; exact hP.rf.by) (by omega)).mono ?_
            rintro e w' ⟨g, rfl, ⟨t3, h1⟩, h2⟩
            have hs2 := q3.size
            refine ⟨g, rfl, t3, ⟨q2.below h2, q1, ⟨h1.blk, by have := h1.hb; omega, h1.row.base hs2, h1.rng⟩, fun k e1 e2 => ?_⟩, q3.trans (h2.mono hs2)⟩
            have r1 := (q2.row.lt e1).2
            have r2 := (h1.row.lt e2).1
            omega
          have HCk : Hid (∀ w', Below wr.heap.size wr w' → w'.cell? ⟨bb, 0, none⟩ = some (.pointer (some ⟨lb, 0, none⟩)) ∧ w'.cell? ⟨bb, 1, none⟩ = some (.pointer (some ⟨rb, 0, none⟩)) ∧ w'.cell? ⟨rb, 0, none⟩ = some (.slice t.a tq t.c) ∧ w'.frozen? ⟨bb, 0, none⟩ = false ∧ w'.frozen? ⟨bb, 1, none⟩ = false) := fun w' hw => by
            have h := HR.out.below hw
            obtain ⟨q1, q2, q3, q4⟩ := h.cells
            exact ⟨q1, q2, by rw [← htq]; exact h.pr.rf.cell.1, q3, q4⟩
          have r0 : wr.cell? ⟨rb, 0, none⟩ = some (.slice t.a tq t.c) := (HCk.out wr (Below.refl _ _)).2.2.1
          clear htq
          generalize t.a = ta at *
          generalize t.c = tc at *
          go_wp2_with fail
          go_region_with (first
            | (go_at_call 28; refine H28.mono ?_; rintro e wf ⟨a', c', rfl, HB⟩; obtain ⟨x0, x1, x2, x3, x4⟩ := HCk.out _ HB.out.2)
            | (go_at_call 23; refine (H23.out _ _ _ HB).mono ?_; rintro e wg ⟨lb3, s3, rfl, HG⟩; obtain ⟨d0, d1, d2, g0, g1⟩ := HCk.out _ HG.out.2.2)
            | (go_at_call 24; refine (H24.out _ _ _ HG).mono ?_; rintro e wh ⟨rb3, rfl, HH⟩; obtain ⟨e0, e1, e2, h0, h1⟩ := HCk.out _ (by obtain ⟨_, _, q⟩ := HH.out; exact q)))
          all_goals (
            obtain ⟨w3, hw3⟩ : ∃ w3, (wh.setCell ⟨bb, 0, none⟩ (.pointer (some ⟨lb3, 0, none⟩))).setCell ⟨bb, 1, none⟩ (.pointer (some ⟨rb3, 0, none⟩)) = w3 := ⟨_, rfl⟩
            rw [hw3]
            obtain ⟨t3, hq1, hq2⟩ := HH.out
            obtain ⟨B3, hB3⟩ : ∃ B3, wr.heap.size = B3 := ⟨_, rfl⟩
            obtain ⟨olds3, ho3⟩ : ∃ olds3, olds = olds3 := ⟨_, rfl⟩
            have HR3 : Hid (RunS w w3 bb B3 lb3 rb3 s3 t3 xs (.slice oa om oc) olds3) := by rw [← hB3, ← ho3]; exact HR.out.toB.fresh hq2 hq1 hw3.symm
            have HL3 : Hid (olds3.length ≤ 6) := by rw [← ho3]; exact HL.out.2.1
            clear hq1 hq2 hB3 ho3 H28 H23 H24 HCk HH HG HB hw3 c0 c1 f0 f1 p0 p1 p2 r0 x0 x1 x2 x3 x4 d0 d1 d2 g0 g1 e0 e1 e2 h0 h1
            obtain ⟨c0, c1, f0, f1⟩ := HR3.out.cells
            obtain ⟨p0, p1, p2⟩ := HP.out.2 w3 HR3.out.bel
            have H29 : Calls Try.prog 29 #[.agg #[.pointer (some ⟨lb3, 0, none⟩), .pointer (some ⟨rb3, 0, none⟩)], .agg #[.int .i64 4, .int .i64 kn, .slice pa pn pc]] w3.drew fun e w' => e = .returned (.bool true) ∧ Hid (RunI w bb es xs0.length (k + 1) (.slice oa om oc) w') := by
              have hRd := HR3.out.below ((Below.refl _ w3).drew)
              refine (j29 B3 lb3 rb3 s3 t3 xs 4 kn pa pn pc p w3.drew hRd.pr (HP.out.1.1.below hRd.bel) (HP.out.1.2.imp id fun hh j hj => Nat.lt_of_lt_of_le (hh j hj) hRd.lo) (by omega)).mono ?_
              rintro e w' ⟨rfl, hd⟩
              obtain ⟨s', t', zs, h1, h2⟩ := hRd.did hd
              refine ⟨rfl, B3, lb3, rb3, s', t', zs, olds3, h1, ?_, HL3.out⟩
              have h3 := HL.out.1
              rw [HSK.out]
              omega
            go_wp2_with fail
            go_region_with (go_at_call 29; refine H29.mono ?_; rintro e w5 ⟨rfl, H5⟩)
            all_goals (
              clear H29 c0 c1 f0 f1 p0 p1 p2
              go_wp2_with fail
              go_roundw
              case rel => exact ⟨k + 1, by omega, by go_num, ⟨_, _, _, rfl⟩, H5⟩
              case measure => simp [intOf]; omega)
            )
        · have hq4 : (kd == 4) = false := by simp [hkd4]
          have HR3 := HR
          have HL3 : Hid (olds.length ≤ 6) := HL.out.2.1
          have H29 : Calls Try.prog 29 #[.agg #[.pointer (some ⟨lb, 0, none⟩), .pointer (some ⟨rb, 0, none⟩)], .agg #[.int .i64 kd, .int .i64 kn, .slice pa pn pc]] wr.drew fun e w' => e = .returned (.bool true) ∧ Hid (RunI w bb es xs0.length (k + 1) (.slice oa om oc) w') := by
            have hRd := HR3.out.below ((Below.refl _ wr).drew)
            refine (j29 B lb rb s t xs kd kn pa pn pc p wr.drew hRd.pr (HP.out.1.1.below hRd.bel) (HP.out.1.2.imp id fun hh j hj => Nat.lt_of_lt_of_le (hh j hj) hRd.lo) (by omega)).mono ?_
            rintro e w' ⟨rfl, hd⟩
            obtain ⟨s', t', zs, h1, h2⟩ := hRd.did hd
            refine ⟨rfl, B, lb, rb, s', t', zs, olds, h1, ?_, HL3.out⟩
            have h3 := HL.out.1
            rw [HSK.out]
            omega
          go_wp2_with fail
          go_region_with (go_at_call 29; refine H29.mono ?_; rintro e w5 ⟨rfl, H5⟩)
          all_goals (
            clear H29 c0 c1 f0 f1 p0 p1 p2
            go_wp2_with fail
            go_roundw
            case rel => exact ⟨k + 1, by omega, by go_num, ⟨_, _, _, rfl⟩, H5⟩
            case measure => simp [intOf]; omega)
    · have HB : Hid (Below w.heap.size w wr) := by obtain ⟨_, _, _, _, _, _, _, h, _⟩ := HK.out; exact h.bel
      obtain ⟨B, lb, rb, s, t, xs, olds, hR, _, hol⟩ := HK.out
      have hom6 : om ≤ 6 := by
        rcases hR.old.2 with ⟨e, h2⟩ | ⟨g, cap, cur, e, _⟩
        · cases e; omega
        · cases e; exact hol
      have HR : Hid (RunS w wr bb B lb rb s t xs (.slice oa om oc) olds) := hR
      obtain ⟨w6, hw6⟩ : ∃ w6, wr = w6 := ⟨_, rfl⟩
      rw [hw6] at HR HB
      clear hR HK hol
      go_wp2_with fail
      clear hw6
      go_loopw [8] (fun i w' => ∃ j : Nat, j ≤ om ∧ i = .int .i64 j ∧ Hid (Below w6.heap.size w6 w')) (fun i _ => om - (intOf i).toNat)
      case atStart => exact ⟨0, by omega, rfl, Below.refl _ _⟩
      case round =>
        obtain ⟨j, hj, rfl, HJ⟩ := hrel
        by_cases hjl : j < om
        · have hjI : (j : Int) < (om : Int) := by omega
          have hj0 : (0 : Int) ≤ (j : Int) := by omega
          obtain ⟨g, hjo, rfl, hcl⟩ := HR.out.at hjl
          have HOK : Hid (OdOk w6 B olds[j]) := HR.out.ok _ (List.getElem_mem hjo)
          obtain ⟨q0, q1⟩ := hcl _ HJ.out
          generalize olds[j] = od at *
          obtain ⟨lbo, rbo, xo⟩ := od
          simp only [Nat.zero_add] at q0 q1
          clear hcl hjo
          have H25 : Calls Try.prog 25 #[.agg #[.pointer (some ⟨lbo, 0, none⟩), .pointer (some ⟨rbo, 0, none⟩)]] wr fun e w' => e = .returned (.bool true) ∧ Hid (Below w6.heap.size w6 w') := by
            obtain ⟨s1, t1, r1, r2, r3⟩ := HOK.out
            refine (j25 0 lbo rbo s1 t1 xo wr (r1.below HJ.out) (by simp only at r3; omega)).mono ?_
            rintro e w' ⟨rfl, hb⟩
            exact ⟨rfl, HJ.out.trans (hb.mono HJ.out.size)⟩
          go_wp2_with fail
          refine H25.mono ?_
          rintro e w7 ⟨rfl, H7⟩
          clear H25
          go_wp2_with fail
          go_roundw
          case rel => exact ⟨j + 1, by omega, by go_num, H7⟩
          case measure => simp [intOf]; omega
        · go_wp2_with fail
          go_ret
          exact ⟨rfl, HB.out.trans (HJ.out.mono HB.out.size)⟩
end Go.Proofs.Ythomdgafaffphaa
