/- The statement on what comes of equations: it returns true. -/
import Derived.Test.YtljggjllijacjaaGreatDoorQAg
import Derived.Test.YtljggjllijacjaaGreatDoorYKxg
namespace Go.Proofs.YtljggjllijacjaaGreatDoor
open Go.RowKit
attribute [local go_sem ↓] Go.wp_at_zero Go.wp_at_succ
/-- Two cells' blocks that stay, and old memory. -/
abbrev SvS (w4 : World) (r4 : Nat) (o : Value) (bv lv : Value) (st : Value) (rt : Nat) (rv : Value) (W : World) : Prop := W.cell? ⟨r4, 0, none⟩ = some o ∧ W.cell? ⟨r4, 1, none⟩ = some bv ∧ W.cell? ⟨r4, 2, none⟩ = some lv ∧ W.cell? ⟨r4, 3, none⟩ = some st ∧ W.cell? ⟨rt, 0, none⟩ = some rv ∧ Hid (Below w4.heap.size w4 W)
theorem svS_to {w4 W W' : World} {r4 rt : Nat} {o bv lv st rv : Value} (h1 : r4 < w4.heap.size) (h2 : rt < w4.heap.size) (h : SvS w4 r4 o bv lv st rt rv W) (hb : Below W.heap.size W W') : SvS w4 r4 o bv lv st rt rv W' := by
 obtain ⟨a, b, c, d, e, f⟩ := h
 have hb4 := hb.mono f.out.size
 have hr : ∀ j, W'.cell? ⟨r4, j, none⟩ = W.cell? ⟨r4, j, none⟩ := fun j => World.cell?_of_block (a := ⟨r4, j, none⟩) (hb4.block r4 h1)
 exact ⟨(hr 0).trans a, (hr 1).trans b, (hr 2).trans c, (hr 3).trans d, (World.cell?_of_block (a := ⟨rt, 0, none⟩) (hb4.block rt h2)).trans e, Below.trans f.out hb4⟩
theorem svS_drew {w4 W : World} {r4 rt : Nat} {o bv lv st rv : Value} (h : SvS w4 r4 o bv lv st rt rv W) : SvS w4 r4 o bv lv st rt rv W.drew := ⟨h.1, h.2.1, h.2.2.1, h.2.2.2.1, h.2.2.2.2.1, h.2.2.2.2.2.out.drew⟩
set_option maxRecDepth 100000 in
set_option maxHeartbeats 8000000 in
theorem t4 (a : Option Addr) (n c : Nat) (bs0 : List Bn) (N : Int) (v : Value) (ls : List (List C)) (w : World) (hA : BdRow w a n bs0) (hn : n ≤ 2000000) (hR : RowAt w v ls) (hll : ls.length ≤ 2000000) (hW : ∀ l ∈ ls, WfT l) (hB : ∀ l ∈ ls, 48 * l.length ≤ 140737488355328) (hx : ∀ l ∈ ls, ∀ c ∈ l, c.t.size ≤ maxLen) (hS : Signs w) :
  Calls Tryz.prog 4 #[.slice a n c, .int .i64 N, v] w fun e w' => e = .returned (.bool true) ∧ Below w.heap.size w w' := by
 obtain ⟨va, vc, hv⟩ := hR.form
 obtain ⟨q, hq⟩ : ∃ q, ls.length = q := ⟨_, rfl⟩
 rw [hq] at hv
 subst hv
 have HV : Hid (RowAt w (.slice va q vc) ls ∧ Signs w ∧ ls.length = q ∧ ls.length ≤ 2000000 ∧ (∀ l ∈ ls, WfT l) ∧ (∀ l ∈ ls, 48 * l.length ≤ 140737488355328) ∧ (∀ l ∈ ls, ∀ c ∈ l, c.t.size ≤ maxLen)) := ⟨hR, hS, hq, hll, hW, hB, hx⟩
 have H6 := i7 a n c bs0 w hA (by omega) hS
 clear hA hR hS hll hW hB hx hq
 go_enter Tryz.func4, Tryz.ntmps4
 go_wp2_with fail
 refine H6.mono ?_
 rintro e w1 ⟨hb, M, rt, rfl, HM⟩
 obtain ⟨m, HM1⟩ : ∃ m, Hid ((∃ nn D V, HpAt w1 hb M nn D m ∧ VB D V ∧ (∀ g, V g → g < w1.heap.size) ∧ nn ≤ 2000000) ∧ (∃ G bs, RfH w1 G rt bs ∧ hpOf bs = m ∧ bs.length ≤ 2000000) ∧ RisesH m ∧ HpW m ∧ Below w.heap.size w w1) := by
  obtain ⟨m, G, bs, hBm, hpe, hup, hbl⟩ := HM.out
  obtain ⟨nn, D, V, hH, hV, hnn, hVl⟩ := hBm.hp
  exact ⟨m, ⟨nn, D, V, hH, hV, fun g hg => (hVl g hg).1, by omega⟩, ⟨G, bs, hBm.rf, hpe, by omega⟩, hup, ⟨hBm.len, hH.wf⟩, hBm.bel⟩
 clear HM H6
 have H7 : Calls Tryz.prog 19 #[.slice va q vc] w1 fun e w' => ∃ ua uc, e = .returned (.slice ua q uc) ∧ Hid (Hx.HandR w' w1.heap.size (.slice ua q uc) ls ∧ Below w1.heap.size w1 w') := by
  obtain ⟨h1, h2, h3, h4, h5, h6, h7⟩ := HV.out
  have k4 := h1.below HM1.out.2.2.2.2
  refine (Hx.k14h ls _ w1 k4 (by omega) h6).mono ?_
  rintro e w' ⟨u, rfl, k1, k2⟩
  obtain ⟨ua, uc, hu⟩ : ∃ ua uc, u = .slice ua ls.length uc := by
   obtain ⟨vs, k3, _⟩ := k1
   exact Bk.rowv_form k3
  rw [h3] at hu
  subst hu
  exact ⟨ua, uc, rfl, k1, k2⟩
 go_wp2_with fail
 refine H7.mono ?_
 rintro e w3 ⟨ua, uc, rfl, H3⟩
 clear H7
 have HSG : Hid (∀ W, Below w3.heap.size w3 W → Sg W hb M rt 2000000 m ls w1.heap.size (.slice ua q uc) (.slice va q vc)) := fun W hW => by
  refine Sg.below ?_ hW
  obtain ⟨⟨nn, D, V, g1, g2, g3, g4⟩, ⟨G, bs, k1, k2, k3⟩, g5, g6, g7⟩ := HM1.out
  obtain ⟨h1, h2, h3, h4, h5, h6, h7⟩ := HV.out
  have hb3 := H3.out.2
  have hb0 := g7.trans (hb3.mono g7.size)
  exact ⟨⟨nn, D, V, g1.below hb3, g2, fun g hg => Nat.lt_of_lt_of_le (g3 g hg) hb3.size, g4⟩, ⟨G, bs, k1.below hb3, k2, k3⟩, g5, g6, H3.out.1, h1.below hb0, h5, h4, h6, h7, h2.below hb0, by omega⟩
 have HB3 : Hid (Below w.heap.size w w3) := HM1.out.2.2.2.2.trans (H3.out.2.mono HM1.out.2.2.2.2.size)
 have HOK : Hid (SolOk (slvF m ls (stN N)) 2024000 ∧ SolOk (slvF [] ls (stN N)) 2024000) := by
  obtain ⟨h1, h2, h3, h4, h5, h6, h7⟩ := HV.out
  exact ⟨slvF_ok _ HM1.out.2.2.2.1 h5 h4 (stN_le N), slvF_ok _ hpW_nil h5 h4 (stN_le N)⟩
 clear HM1 HV H3
 have HC20 : Hid (∀ W, Below w3.heap.size w3 W → Calls Tryz.prog 20 #[.pointer (some ⟨hb, 0, none⟩), .int .i64 (stN N), .slice ua q uc] W fun e w' => SoR W.heap.size (slvF m ls (stN N)).out (slvF m ls (stN N)).bd (slvF m ls (stN N)).left (slvF m ls (stN N)).st e W w') := fun W hW => (HSG.out W hW).c20 N
 have HC20n : Hid (∀ W, Below w3.heap.size w3 W → Calls Tryz.prog 20 #[.pointer none, .int .i64 (stN N), .slice ua q uc] W fun e w' => SoR W.heap.size (slvF [] ls (stN N)).out (slvF [] ls (stN N)).bd (slvF [] ls (stN N)).left (slvF [] ls (stN N)).st e W w') := fun W hW => (HSG.out W hW).c20n N
 have HC24 : Hid (∀ W, Below w3.heap.size w3 W → Calls Tryz.prog 24 #[.pointer (some ⟨rt, 0, none⟩), .int .i64 (stN N), .slice va q vc] W fun e w' => SoD (slvF m ls (stN N)).out (slvF m ls (stN N)).bd (slvF m ls (stN N)).left (slvF m ls (stN N)).st e W w') := fun W hW => (HSG.out W hW).c24 N
 have HC24n : Hid (∀ W, Below w3.heap.size w3 W → Calls Tryz.prog 24 #[.pointer none, .int .i64 (stN N), .slice va q vc] W fun e w' => SoD (slvF [] ls (stN N)).out (slvF [] ls (stN N)).bd (slvF [] ls (stN N)).left (slvF [] ls (stN N)).st e W w') := fun W hW => (HSG.out W hW).c24n N
 have H21 : Hid (∀ W, Calls Tryz.prog 21 #[.int .i64 N] W fun e w' => e = .returned (.int .i64 (stN N)) ∧ w' = W) := fun W => s21 N W
 have HS23 : Hid (∀ (o st : Int) ba bn bc la ln lc W, Calls Tryz.prog 23 #[.agg #[.int .u8 o, .slice ba bn bc, .slice la ln lc, .int .i64 st]] W fun e w' => e = .returned (.agg #[.int .u8 o, .slice ba bn bc, .slice la ln lc, .int .i64 st]) ∧ Below W.heap.size W w') := fun o st ba bn bc la ln lc W => s23 o st ba bn bc la ln lc W
 obtain ⟨so, hso⟩ : ∃ s, slvF m ls (stN N) = s := ⟨_, rfl⟩
 obtain ⟨sn, hsn⟩ : ∃ s, slvF [] ls (stN N) = s := ⟨_, rfl⟩
 rw [hso] at HOK HC20 HC24
 rw [hsn] at HOK HC20n HC24n
 clear hso hsn
 obtain ⟨kN, hkN⟩ : ∃ k, stN N = k := ⟨_, rfl⟩
 rw [hkN] at HC20 HC20n HC24 HC24n H21
 clear hkN
 obtain ⟨so, sb, sl, ss⟩ := so
 obtain ⟨no, nb, nl, ns⟩ := sn
 dsimp only at HC20 HC20n HC24 HC24n
 have H21a := H21.out w3
 go_wp2_with fail
 refine H21a.mono ?_
 rintro e w3' ⟨rfl, rfl⟩
 clear H21a
 have H20a := HC20.out w3' (Below.refl _ _)
 go_wp2_with fail
 refine H20a.mono ?_
 rintro e w4 ⟨ba, bn, bc, la, ln, lc, rfl, H4⟩
 clear H20a
 obtain ⟨W4, hW4⟩ : ∃ W4, w4.alloc (.cells #[.int .u8 so, .slice ba bn bc, .slice la ln lc, .int .i64 (ss : Int)] 62) = W4 := ⟨_, rfl⟩
 obtain ⟨r4, hr4⟩ : ∃ r4, w4.heap.size = r4 := ⟨_, rfl⟩
 obtain ⟨fa, fn, fc, fbs, hfr⟩ := (HSG.out w3' (Below.refl _ _)).row
 have HFR : Hid (∀ w', Below w3'.heap.size w3' w' → w'.cell? ⟨rt, 0, none⟩ = some (.slice fa fn fc) ∧ Bs w' fa fn fbs ∧ (∀ b ∈ fbs, TermAt w' b.v b.l) ∧ hpOf fbs = m ∧ rt < w3'.heap.size) := hfr
 clear hfr
 obtain ⟨bb, us, hbb, hsv⟩ := svR_bn H4.out.1
 have HW4 : Hid (Fo W4 r4 62 (.int .u8 so) (.slice ba bn bc) (.slice la ln lc) (.int .i64 (ss : Int)) ∧ Below w3'.heap.size w3' W4 ∧ SvB w3'.heap.size W4 (.slice ba bn bc) (.slice la ln lc) bb us sl ∧ hpOf bb = sb) := by
  have hb4 : Below w4.heap.size w4 W4 := by rw [← hW4]; exact below_alloc _ _
  refine ⟨by rw [← hW4, ← hr4]; exact Fo.new _ _ _ _ _ _, H4.out.2.trans (hb4.mono H4.out.2.size), hsv.below hb4, hbb⟩
 clear hsv hbb H4
 have hrl : rt < W4.heap.size := Nat.lt_of_lt_of_le (HFR.out w3' (Below.refl _ _)).2.2.2.2 HW4.out.2.1.size
 have hr4l := HW4.out.1.cells.2
 have HS0 : SvS W4 r4 (.int .u8 so) (.slice ba bn bc) (.slice la ln lc) (.int .i64 (ss : Int)) rt (.slice fa fn fc) W4 := ⟨HW4.out.1.cells.1.1, HW4.out.1.cells.1.2.1, HW4.out.1.cells.1.2.2.1, HW4.out.1.cells.1.2.2.2, (HFR.out W4 HW4.out.2.1).1, Below.refl _ _⟩
 have HTO : Hid (∀ W, Hid (Below W4.heap.size W4 W) → Below w3'.heap.size w3' W) := fun W hW => HW4.out.2.1.trans (hW.out.mono HW4.out.2.1.size)
 have HRA : Hid (∀ W, Hid (Below W4.heap.size W4 W) → Bs W ba bn bb ∧ (∀ b ∈ bb, TermAt W b.v b.l) ∧ RowAt W (.slice la ln lc) sl ∧ bn ≤ 2024000) := fun W hW => (HW4.out.2.2.1.below hW.out).bs HOK.out.1 HW4.out.2.2.2 rfl (by unfold maxLen; omega)
 go_wp2_with fail
 clear hW4 hr4
 refine wp_region_noPanic ?_
 refine wp_region_held_drew (S := SvS W4 r4 (.int .u8 so) (.slice ba bn bc) (.slice la ln lc) (.int .i64 (ss : Int)) rt (.slice fa fn fc)) (by kernel_rfl) (svS_drew HS0) (fun hHeld => ?_)
 have HSd := svS_drew HS0
 clear HS0
 generalize W4.drew = w50 at *
 refine wpAnyH_ready (rs := [0]) (by kernel_rfl) (by simp) ?_
 refine AllReadyH.cons (by simp only [qA, qB]; rfl) (fun K hK => ?_) AllReadyH.nil
 go_simp
 go_at_call 9
 refine ((HSG.out w50 (HTO.out w50 HSd.2.2.2.2.2)).c9).mono ?_
 rintro e w51 ⟨rfl, hb⟩
 have HS51 : SvS W4 r4 (.int .u8 so) (.slice ba bn bc) (.slice la ln lc) (.int .i64 (ss : Int)) rt (.slice fa fn fc) w51 := svS_to hr4l hrl HSd hb
 refine hK.out _ _ ?_ (fun hHeld => ?_)
 ·exact HS51
 clear hK K
 try simp only [Act.put, qD, qE, qF]
 clear hb HSd
 (refine wpAnyH_take (i := 1) (v := ?_) (by simp only [qA, qB, qC]; rfl) (by kernel_rfl) (by kernel_rfl) (by kernel_rfl) (fun _ _ _ h => h) (Or.inl ⟨by rfl, ?_⟩) (by assumption) ?_; rotate_left; (· (intro w hSw; (try dsimp only at hSw); go_simp <;> with_reducible rfl)); try simp only [Act.put, qD, qE, qF])
 (refine wpAnyH_take (i := 2) (v := ?_) (by simp only [qA, qB, qC]; rfl) (by kernel_rfl) (by kernel_rfl) (by kernel_rfl) (fun _ _ _ h => h) (Or.inl ⟨by rfl, ?_⟩) (by assumption) ?_; rotate_left; (· (intro w hSw; (try dsimp only at hSw); go_simp <;> with_reducible rfl)); try simp only [Act.put, qD, qE, qF])
 (refine wpAnyH_take (i := 3) (v := ?_) (by simp only [qA, qB, qC]; rfl) (by kernel_rfl) (by kernel_rfl) (by kernel_rfl) (fun _ _ _ h => h) (Or.inl ⟨by rfl, ?_⟩) (by assumption) ?_; rotate_left; (· (intro w hSw; (try dsimp only at hSw); go_simp <;> with_reducible rfl)); try simp only [Act.put, qD, qE, qF])
 (refine wpAnyH_take (i := 5) (v := ?_) (by simp only [qA, qB, qC]; rfl) (by kernel_rfl) (by kernel_rfl) (by kernel_rfl) (fun _ _ _ h => h) (Or.inl ⟨by rfl, ?_⟩) (by assumption) ?_; rotate_left; (· (intro w hSw; (try dsimp only at hSw); go_simp <;> with_reducible rfl)); try simp only [Act.put, qD, qE, qF])
 (refine wpAnyH_take (i := 6) (v := ?_) (by simp only [qA, qB, qC]; rfl) (by kernel_rfl) (by kernel_rfl) (by kernel_rfl) (fun _ _ _ h => h) (Or.inl ⟨by rfl, ?_⟩) (by assumption) ?_; rotate_left; (· (intro w hSw; (try dsimp only at hSw); go_simp <;> with_reducible rfl)); try simp only [Act.put, qD, qE, qF])
 (refine wpAnyH_take (i := 8) (v := ?_) (by simp only [qA, qB, qC]; rfl) (by kernel_rfl) (by kernel_rfl) (by kernel_rfl) (fun _ _ _ h => h) (Or.inl ⟨by rfl, ?_⟩) (by assumption) ?_; rotate_left; (· (intro w hSw; (try dsimp only at hSw); go_simp <;> with_reducible rfl)); try simp only [Act.put, qD, qE, qF])
 refine wpAnyH_ready (rs := [4]) (by kernel_rfl) (by simp) ?_
 refine AllReadyH.cons (by simp only [qA, qB, qC]; rfl) (fun K hK => ?_) AllReadyH.nil
 go_simp
 go_at_call 23
 refine (HS23.out so ss ba bn bc la ln lc w51).mono ?_
 rintro e w52 ⟨rfl, hb⟩
 have HS52 : SvS W4 r4 (.int .u8 so) (.slice ba bn bc) (.slice la ln lc) (.int .i64 (ss : Int)) rt (.slice fa fn fc) w52 := svS_to hr4l hrl HS51 hb
 refine hK.out _ _ ?_ (fun hHeld => ?_)
 ·exact HS52
 clear hK K
 try simp only [Act.put, qD, qE, qF]
 clear hb HS51
 refine wpAnyH_ready (rs := [7]) (by kernel_rfl) (by simp) ?_
 refine AllReadyH.cons (by simp only [qA, qB, qC]; rfl) (fun K hK => ?_) AllReadyH.nil
 go_simp
 go_at_call 21
 refine (H21.out w52).mono ?_
 rintro e wx ⟨rfl, hw⟩
 obtain rfl := hw.symm
 refine hK.out _ _ ?_ (fun hHeld => ?_)
 ·exact HS52
 clear hK K
 try simp only [Act.put, qD, qE, qF]
 clear hw
 refine wpAnyH_ready (rs := [9]) (by kernel_rfl) (by simp) ?_
 refine AllReadyH.cons (by simp only [qA, qB, qC]; rfl) (fun K hK => ?_) AllReadyH.nil
 go_simp
 go_at_call 24
 refine (HC24.out w52 (HTO.out w52 HS52.2.2.2.2.2)).mono ?_
 rintro e w53 ⟨da, dn, dc, ea, en, ec, rfl, HD⟩
 have HS53 : SvS W4 r4 (.int .u8 so) (.slice ba bn bc) (.slice la ln lc) (.int .i64 (ss : Int)) rt (.slice fa fn fc) w53 := svS_to hr4l hrl HS52 HD.out.2.2
 refine hK.out _ _ ?_ (fun hHeld => ?_)
 ·exact HS53
 clear hK K
 try simp only [Act.put, qD, qE, qF]
 have hdn : bn = dn := by
  obtain ⟨⟨bb', g1, g2, _⟩, _⟩ := HD.out
  have h1 := congrArg List.length (g1.trans HW4.out.2.2.2.symm)
  simp only [hpOf, List.length_map] at h1
  have h2 := g2.len
  have h3 := (HRA.out W4 (Below.refl _ _)).1.len
  omega
 subst hdn
 have H22 : Calls Tryz.prog 22 #[.agg #[.int .u8 so, .slice ba bn bc, .slice la ln lc, .int .i64 (ss : Int)], .agg #[.int .u8 so, .slice da bn dc, .slice ea en ec, .int .i64 (ss : Int)]] w53 fun e w' => e = .returned (.bool true) ∧ Below w53.heap.size w53 w' := by
  obtain ⟨⟨bb', g1, g2, g3⟩, g4, g5⟩ := HD.out
  obtain ⟨r1, r2, r3, r4⟩ := HRA.out w53 HS53.2.2.2.2.2
  exact s22 so ss ba da bn bc dc la ea ln lc en ec bb bb' sl w53 r1 g2 r2 g3 (HW4.out.2.2.2.trans g1.symm) (by omega) r3 g4
 clear HS52
 refine wpAnyH_ready (rs := [10]) (by kernel_rfl) (by simp) ?_
 refine AllReadyH.cons (by simp only [qA, qB, qC]; rfl) (fun K hK => ?_) AllReadyH.nil
 go_simp
 go_at_call 22
 refine (H22).mono ?_
 rintro e w54 ⟨rfl, hb⟩
 have HS54 : SvS W4 r4 (.int .u8 so) (.slice ba bn bc) (.slice la ln lc) (.int .i64 (ss : Int)) rt (.slice fa fn fc) w54 := svS_to hr4l hrl HS53 hb
 refine hK.out _ _ ?_ (fun hHeld => ?_)
 ·exact HS54
 clear hK K
 try simp only [Act.put, qD, qE, qF]
 clear hb H22 HD HS53
 (refine wpAnyH_take (i := 11) (v := ?_) (by simp only [qA, qB, qC]; rfl) (by kernel_rfl) (by kernel_rfl) (by kernel_rfl) (fun _ _ _ h => h) (Or.inl ⟨by rfl, ?_⟩) (by assumption) ?_; rotate_left; (· (intro w hSw; (try dsimp only at hSw); go_simp <;> with_reducible rfl)); try simp only [Act.put, qD, qE, qF])
 (refine wpAnyH_take (i := 12) (v := ?_) (by simp only [qA, qB, qC]; rfl) (by kernel_rfl) (by kernel_rfl) (by kernel_rfl) (fun _ _ _ h => h) (Or.inl ⟨by rfl, ?_⟩) (by assumption) ?_; rotate_left; (· (intro w hSw; (try dsimp only at hSw); go_simp <;> with_reducible rfl)); try simp only [Act.put, qD, qE, qF])
 (refine wpAnyH_take (i := 13) (v := ?_) (by simp only [qA, qB, qC]; rfl) (by kernel_rfl) (by kernel_rfl) (by kernel_rfl) (fun _ _ _ h => h) (Or.inl ⟨by rfl, ?_⟩) (by assumption) ?_; rotate_left; (· (intro w hSw; (try dsimp only at hSw); go_simp <;> with_reducible rfl)); try simp only [Act.put, qD, qE, qF])
 (refine wpAnyH_take (i := 14) (v := ?_) (by simp only [qA, qB, qC]; rfl) (by kernel_rfl) (by kernel_rfl) (by kernel_rfl) (fun _ _ _ h => h) (Or.inl ⟨by rfl, ?_⟩) (by assumption) ?_; rotate_left; (· (intro w hSw; (try dsimp only at hSw); go_simp <;> with_reducible rfl)); try simp only [Act.put, qD, qE, qF])
 (refine wpAnyH_take (i := 16) (v := ?_) (by simp only [qA, qB, qC]; rfl) (by kernel_rfl) (by kernel_rfl) (by kernel_rfl) (fun _ _ _ h => h) (Or.inl ⟨by rfl, ?_⟩) (by assumption) ?_; rotate_left; (· (intro w hSw; (try dsimp only at hSw); go_simp <;> with_reducible rfl)); try simp only [Act.put, qD, qE, qF])
 (refine wpAnyH_take (i := 17) (v := ?_) (by simp only [qA, qB, qC]; rfl) (by kernel_rfl) (by kernel_rfl) (by kernel_rfl) (fun _ _ _ h => h) (Or.inl ⟨by rfl, ?_⟩) (by assumption) ?_; rotate_left; (· (intro w hSw; (try dsimp only at hSw); go_simp <;> with_reducible rfl)); try simp only [Act.put, qD, qE, qF])
 (refine wpAnyH_take (i := 18) (v := ?_) (by simp only [qA, qB, qC]; rfl) (by kernel_rfl) (by kernel_rfl) (by kernel_rfl) (fun _ _ _ h => h) (Or.inl ⟨by rfl, ?_⟩) (by assumption) ?_; rotate_left; (· (intro w hSw; (try dsimp only at hSw); go_simp <;> with_reducible rfl)); try simp only [Act.put, qD, qE, qF])
 (refine wpAnyH_take (i := 19) (v := ?_) (by simp only [qA, qB, qC]; rfl) (by kernel_rfl) (by kernel_rfl) (by kernel_rfl) (fun _ _ _ h => h) (Or.inl ⟨by rfl, ?_⟩) (by assumption) ?_; rotate_left; (· (intro w hSw; (try dsimp only at hSw); go_simp <;> with_reducible rfl)); try simp only [Act.put, qD, qE, qF])
 refine wpAnyH_ready (rs := [15]) (by kernel_rfl) (by simp) ?_
 refine AllReadyH.cons (by simp only [qA, qB, qC]; rfl) (fun K hK => ?_) AllReadyH.nil
 go_simp
 go_at_call 18
 refine ((HSG.out w54 (HTO.out w54 HS54.2.2.2.2.2)).c18).mono ?_
 rintro e w55 ⟨ka, kk, kc, rfl, kbs, hk1, hk2, _, hk4, hb⟩
 have HS55 : SvS W4 r4 (.int .u8 so) (.slice ba bn bc) (.slice la ln lc) (.int .i64 (ss : Int)) rt (.slice fa fn fc) w55 := svS_to hr4l hrl HS54 hb
 refine hK.out _ _ ?_ (fun hHeld => ?_)
 ·exact HS55
 clear hK K
 try simp only [Act.put, qD, qE, qF]
 have hkk : fn = kk := by
  obtain ⟨_, f2, _, f4, _⟩ := HFR.out w55 (HTO.out w55 HS55.2.2.2.2.2)
  have h1 := congrArg List.length (hk1.trans f4.symm)
  simp only [hpOf, List.length_map] at h1
  have h2 := hk2.len
  have h3 := f2.len
  omega
 subst hkk
 have H17 : Calls Tryz.prog 17 #[.slice ka fn kc, .slice fa fn fc] w55 fun e w' => e = .returned (.bool true) ∧ Below w55.heap.size w55 w' := by
  obtain ⟨_, f2, f3, f4, _⟩ := HFR.out w55 (HTO.out w55 HS55.2.2.2.2.2)
  refine t17 ka fa fn kc fc kbs fbs w55 hk2 f2 (fun b hb' => (hk4 b hb').1) f3 (hk1.trans f4.symm) ?_
  obtain ⟨G, bs, _, g2, g3⟩ := (HSG.out w55 (HTO.out w55 HS55.2.2.2.2.2)).rf
  have h1 := congrArg List.length (f4.trans g2.symm)
  simp only [hpOf, List.length_map] at h1
  have h3 := f2.len
  omega
 clear hb hk1 hk2 hk4 HS54
 refine wpAnyH_ready (rs := [20]) (by kernel_rfl) (by simp) ?_
 refine AllReadyH.cons (by simp only [qA, qB, qC]; rfl) (fun K hK => ?_) AllReadyH.nil
 go_simp
 go_at_call 17
 refine (H17).mono ?_
 rintro e w56 ⟨rfl, hb⟩
 have HS56 : SvS W4 r4 (.int .u8 so) (.slice ba bn bc) (.slice la ln lc) (.int .i64 (ss : Int)) rt (.slice fa fn fc) w56 := svS_to hr4l hrl HS55 hb
 refine hK.out _ _ ?_ (fun hHeld => ?_)
 ·exact HS56
 clear hK K
 try simp only [Act.put, qD, qE, qF]
 clear hb H17 HS55
 (refine wpAnyH_take (i := 21) (v := ?_) (by simp only [qA, qB, qC]; rfl) (by kernel_rfl) (by kernel_rfl) (by kernel_rfl) (fun _ _ _ h => h) (Or.inl ⟨by rfl, ?_⟩) (by assumption) ?_; rotate_left; (· (intro w hSw; (try dsimp only at hSw); go_simp <;> with_reducible rfl)); try simp only [Act.put, qD, qE, qF])
 (refine wpAnyH_take (i := 22) (v := ?_) (by simp only [qA, qB, qC]; rfl) (by kernel_rfl) (by kernel_rfl) (by kernel_rfl) (fun _ _ _ h => h) (Or.inl ⟨by rfl, ?_⟩) (by assumption) ?_; rotate_left; (· (intro w hSw; (try dsimp only at hSw); go_simp <;> with_reducible rfl)); try simp only [Act.put, qD, qE, qF])
 (refine wpAnyH_take (i := 23) (v := ?_) (by simp only [qA, qB, qC]; rfl) (by kernel_rfl) (by kernel_rfl) (by kernel_rfl) (fun _ _ _ h => h) (Or.inl ⟨by rfl, ?_⟩) (by assumption) ?_; rotate_left; (· (intro w hSw; (try dsimp only at hSw); go_simp <;> with_reducible rfl)); try simp only [Act.put, qD, qE, qF])
 (refine wpAnyH_take (i := 24) (v := ?_) (by simp only [qA, qB, qC]; rfl) (by kernel_rfl) (by kernel_rfl) (by kernel_rfl) (fun _ _ _ h => h) (Or.inl ⟨by rfl, ?_⟩) (by assumption) ?_; rotate_left; (· (intro w hSw; (try dsimp only at hSw); go_simp <;> with_reducible rfl)); try simp only [Act.put, qD, qE, qF])
 (refine wpAnyH_take (i := 26) (v := ?_) (by simp only [qA, qB, qC]; rfl) (by kernel_rfl) (by kernel_rfl) (by kernel_rfl) (fun _ _ _ h => h) (Or.inl ⟨by rfl, ?_⟩) (by assumption) ?_; rotate_left; (· (intro w hSw; (try dsimp only at hSw); go_simp <;> with_reducible rfl)); try simp only [Act.put, qD, qE, qF])
 (refine wpAnyH_take (i := 29) (v := ?_) (by simp only [qA, qB, qC]; rfl) (by kernel_rfl) (by kernel_rfl) (by kernel_rfl) (fun _ _ _ h => h) (Or.inl ⟨by rfl, ?_⟩) (by assumption) ?_; rotate_left; (· (intro w hSw; (try dsimp only at hSw); go_simp <;> with_reducible rfl)); try simp only [Act.put, qD, qE, qF])
 (refine wpAnyH_take (i := 31) (v := ?_) (by simp only [qA, qB, qC]; rfl) (by kernel_rfl) (by kernel_rfl) (by kernel_rfl) (fun _ _ _ h => h) (Or.inl ⟨by rfl, ?_⟩) (by assumption) ?_; rotate_left; (· (intro w hSw; (try dsimp only at hSw); go_simp <;> with_reducible rfl)); try simp only [Act.put, qD, qE, qF])
 refine wpAnyH_ready (rs := [25]) (by kernel_rfl) (by simp) ?_
 refine AllReadyH.cons (by simp only [qA, qB, qC]; rfl) (fun K hK => ?_) AllReadyH.nil
 go_simp
 go_at_call 21
 refine (H21.out w56).mono ?_
 rintro e wx ⟨rfl, hw⟩
 obtain rfl := hw.symm
 refine hK.out _ _ ?_ (fun hHeld => ?_)
 ·exact HS56
 clear hK K
 try simp only [Act.put, qD, qE, qF]
 clear hw
 refine wpAnyH_ready (rs := [27]) (by kernel_rfl) (by simp) ?_
 refine AllReadyH.cons (by simp only [qA, qB, qC]; rfl) (fun K hK => ?_) AllReadyH.nil
 go_simp
 go_at_call 20
 refine (HC20n.out w56 (HTO.out w56 HS56.2.2.2.2.2)).mono ?_
 rintro e w57 ⟨ga, gn, gc, ha, hn1, hc, rfl, HG⟩
 have HS57 : SvS W4 r4 (.int .u8 so) (.slice ba bn bc) (.slice la ln lc) (.int .i64 (ss : Int)) rt (.slice fa fn fc) w57 := svS_to hr4l hrl HS56 HG.out.2
 refine hK.out _ _ ?_ (fun hHeld => ?_)
 ·exact HS57
 clear hK K
 try simp only [Act.put, qD, qE, qF]
 clear HS56
 obtain ⟨nbb, nus, hnb, hnsv⟩ := svR_bn HG.out.1
 have HN57 : Hid (SvB w56.heap.size w57 (.slice ga gn gc) (.slice ha hn1 hc) nbb nus nl ∧ hpOf nbb = nb) := ⟨hnsv, hnb⟩
 clear hnsv hnb HG
 refine wpAnyH_ready (rs := [28]) (by kernel_rfl) (by simp) ?_
 refine AllReadyH.cons (by simp only [qA, qB, qC]; rfl) (fun K hK => ?_) AllReadyH.nil
 go_simp
 go_at_call 23
 refine (HS23.out no ns ga gn gc ha hn1 hc w57).mono ?_
 rintro e w58 ⟨rfl, hb⟩
 have HS58 : SvS W4 r4 (.int .u8 so) (.slice ba bn bc) (.slice la ln lc) (.int .i64 (ss : Int)) rt (.slice fa fn fc) w58 := svS_to hr4l hrl HS57 hb
 refine hK.out _ _ ?_ (fun hHeld => ?_)
 ·exact HS58
 clear hK K
 try simp only [Act.put, qD, qE, qF]
 have HN58 : Hid (SvB w56.heap.size w58 (.slice ga gn gc) (.slice ha hn1 hc) nbb nus nl ∧ hpOf nbb = nb) := ⟨HN57.out.1.below hb, HN57.out.2⟩
 clear hb HN57 HS57
 refine wpAnyH_ready (rs := [30]) (by kernel_rfl) (by simp) ?_
 refine AllReadyH.cons (by simp only [qA, qB, qC]; rfl) (fun K hK => ?_) AllReadyH.nil
 go_simp
 go_at_call 21
 refine (H21.out w58).mono ?_
 rintro e wx ⟨rfl, hw⟩
 obtain rfl := hw.symm
 refine hK.out _ _ ?_ (fun hHeld => ?_)
 ·exact HS58
 clear hK K
 try simp only [Act.put, qD, qE, qF]
 clear hw
 refine wpAnyH_ready (rs := [32]) (by kernel_rfl) (by simp) ?_
 refine AllReadyH.cons (by simp only [qA, qB, qC]; rfl) (fun K hK => ?_) AllReadyH.nil
 go_simp
 go_at_call 24
 refine (HC24n.out w58 (HTO.out w58 HS58.2.2.2.2.2)).mono ?_
 rintro e w59 ⟨pa, pn, pc, oa, on, oc, rfl, HP⟩
 have HS59 : SvS W4 r4 (.int .u8 so) (.slice ba bn bc) (.slice la ln lc) (.int .i64 (ss : Int)) rt (.slice fa fn fc) w59 := svS_to hr4l hrl HS58 HP.out.2.2
 refine hK.out _ _ ?_ (fun hHeld => ?_)
 ·exact HS59
 clear hK K
 try simp only [Act.put, qD, qE, qF]
 have hpn : gn = pn := by
  obtain ⟨⟨bb', g1, g2, _⟩, _⟩ := HP.out
  have h1 := congrArg List.length (g1.trans HN58.out.2.symm)
  simp only [hpOf, List.length_map] at h1
  have h2 := g2.len
  have h3 := (owns_bs HN58.out.1.row).2
  omega
 subst hpn
 have H22 : Calls Tryz.prog 22 #[.agg #[.int .u8 no, .slice ga gn gc, .slice ha hn1 hc, .int .i64 (ns : Int)], .agg #[.int .u8 no, .slice pa gn pc, .slice oa on oc, .int .i64 (ns : Int)]] w59 fun e w' => e = .returned (.bool true) ∧ Below w59.heap.size w59 w' := by
  obtain ⟨⟨bb', g1, g2, g3⟩, g4, g5⟩ := HP.out
  obtain ⟨r1, r2, r3, r4⟩ := (HN58.out.1.below g5).bs HOK.out.2 HN58.out.2 rfl (by unfold maxLen; omega)
  exact s22 no ns ga pa gn gc pc ha oa hn1 hc on oc nbb bb' nl w59 r1 g2 r2 g3 (HN58.out.2.trans g1.symm) (by omega) r3 g4
 clear HS58
 refine wpAnyH_ready (rs := [33]) (by kernel_rfl) (by simp) ?_
 refine AllReadyH.cons (by simp only [qA, qB, qC]; rfl) (fun K hK => ?_) AllReadyH.nil
 go_simp
 go_at_call 22
 refine (H22).mono ?_
 rintro e w60 ⟨rfl, hb⟩
 have HS60 : SvS W4 r4 (.int .u8 so) (.slice ba bn bc) (.slice la ln lc) (.int .i64 (ss : Int)) rt (.slice fa fn fc) w60 := svS_to hr4l hrl HS59 hb
 refine hK.out _ _ ?_ (fun hHeld => ?_)
 ·exact HS60
 clear hK K
 try simp only [Act.put, qD, qE, qF]
 clear hb H22 HP HS59 HN58
 (refine wpAnyH_take (i := 34) (v := ?_) (by simp only [qA, qB, qC]; rfl) (by kernel_rfl) (by kernel_rfl) (by kernel_rfl) (fun _ _ _ h => h) (Or.inl ⟨by rfl, ?_⟩) (by assumption) ?_; rotate_left; (· (intro w hSw; (try dsimp only at hSw); go_simp <;> with_reducible rfl)); try simp only [Act.put, qD, qE, qF])
 (refine wpAnyH_take (i := 35) (v := ?_) (by simp only [qA, qB, qC]; rfl) (by kernel_rfl) (by kernel_rfl) (by kernel_rfl) (fun _ _ _ h => h) (Or.inl ⟨by rfl, ?_⟩) (by assumption) ?_; rotate_left; (· (intro w hSw; (try dsimp only at hSw); go_simp <;> with_reducible rfl)); try simp only [Act.put, qD, qE, qF])
 refine wpAnyH_done (by kernel_rfl) ?_ _
 refine NoPanic.normal ?_
 clear hHeld
 have HE4 : Hid (Below W4.heap.size W4 w60 ∧ Below w3'.heap.size w3' w60) := ⟨HS60.2.2.2.2.2.out, HTO.out _ HS60.2.2.2.2.2⟩
 obtain ⟨B, hB⟩ : ∃ B, w3'.heap.size = B := ⟨_, rfl⟩
 obtain ⟨W13, hW13⟩ : ∃ W13, w60.alloc (.cells #[.slice none 0 0, .slice none 0 0, .slice none 0 0, .slice none 0 0, .slice none 0 0] 50) = W13 := ⟨_, rfl⟩
 obtain ⟨bk, hbk⟩ : ∃ bk, w60.heap.size = bk := ⟨_, rfl⟩
 have HBK : Hid (W13.heap[bk]? = some (.cells #[.slice none 0 0, .slice none 0 0, .slice none 0 0, .slice none 0 0, .slice none 0 0] 50 (0, 0)) ∧ Below W4.heap.size W4 W13 ∧ Below B w3' W13 ∧ B ≤ bk) := by
  have h1 : Below w60.heap.size w60 W13 := by rw [← hW13]; exact below_alloc _ _
  have h2 := HE4.out.2.size
  refine ⟨by rw [← hW13, ← hbk]; exact heap_alloc_new w60 _, HE4.out.1.trans (h1.mono HE4.out.1.size), by rw [← hB]; exact HE4.out.2.trans (h1.mono h2), by rw [← hB, ← hbk]; exact h2⟩
 rw [hB] at HW4
 have HSV : Hid (SvB B W13 (.slice ba bn bc) (.slice la ln lc) bb us sl) := HW4.out.2.2.1.below HBK.out.2.1
 have HN13 : Hid (Bk.BkN W13 B bk (.slice none 0 0) [] []) := ⟨HBK.out.1, HBK.out.2.2.2, World.ownsRow_nil _ _ _ _, fun j v n hv => by simp at hv, fun j j' v v' g _ hv => by simp at hv⟩
 have HLN : Hid (bb.length ≤ 2024000 ∧ sl.length ≤ 2024000 ∧ (∀ b ∈ bb, b.l.length ≤ 256) ∧ ∀ l ∈ sl, l.length ≤ 256) := by
  have h1 := HOK.out.1
  have h2 := HW4.out.2.2.2
  refine ⟨?_, h1.ll, fun b hb' => ?_, fun l hl => (h1.left l hl).1⟩
  ·have h3 := h1.bl
   rw [← h2] at h3
   simpa [hpOf] using h3
  ·exact (h1.bd (b.x, b.l) (by rw [← h2]; exact List.mem_map.2 ⟨b, hb', rfl⟩)).1
 have HFo : Hid (Fo W13 r4 62 (.int .u8 so) (.slice ba bn bc) (.slice la ln lc) (.int .i64 (ss : Int))) := HW4.out.1.below HBK.out.2.1
 obtain ⟨⟨x0, x1, x2, x3⟩, hx⟩ := HFo.out.cells
 have H25a := t25 B bk _ [] [] bb ba bn bc W13 HN13.out (HSV.out.tkB (Nat.le_refl _) fun j v g hv => by simp at hv) (by have := HLN.out.1; simp; omega)
 clear HS60
 go_wp2_with fail
 clear hW13
 clear hbk
 refine H25a.mono ?_
 rintro e w14 ⟨rfl, nv14, hN14, hb14, hk14⟩
 have HN14 : Hid (Bk.BkN w14 B bk nv14 ([] ++ bb.map Bn.v) ([] ++ (bb.map Bn.l).map List.length) ∧ Below B w3' w14 ∧ Kb bk W13 w14) := ⟨hN14, HBK.out.2.2.1.trans hb14, hk14⟩
 have HFo14 : Hid (Fo w14 r4 62 (.int .u8 so) (.slice ba bn bc) (.slice la ln lc) (.int .i64 (ss : Int))) := HFo.out.kb HBK.out.1 (by decide) (by decide) HN14.out.2.2
 have HSV14 : Hid (SvB B w14 (.slice ba bn bc) (.slice la ln lc) bb us sl) := HSV.out.kb HBK.out.1 HN14.out.2.2
 clear hN14 hb14 hk14 x0 x1 x2 x3 hx H25a
 obtain ⟨⟨x0, x1, x2, x3⟩, hx⟩ := HFo14.out.cells
 have H14a := t14 B bk nv14 ([] ++ bb.map Bn.v) us ([] ++ (bb.map Bn.l).map List.length) sl la ln lc w14 HN14.out.1 (HSV14.out.tkR (Nat.le_refl _) fun j v g hv => by simp at hv) (by have := HLN.out; simp; omega)
 go_wp2_with fail
 refine H14a.mono ?_
 rintro e w15 ⟨rfl, nv15, hN15, hb15, _⟩
 obtain ⟨VS, hVS⟩ : ∃ x, ([] ++ bb.map Bn.v) ++ us = x := ⟨_, rfl⟩
 obtain ⟨NS, hNS⟩ : ∃ x, ([] ++ (bb.map Bn.l).map List.length) ++ sl.map List.length = x := ⟨_, rfl⟩
 have HN15 : Hid (Bk.BkN w15 B bk nv15 VS NS ∧ Below B w3' w15 ∧ NS.length ≤ 4048000 ∧ ∀ n ∈ NS, n ≤ 256) := by
  rw [hVS, hNS] at hN15
  refine ⟨hN15, HN14.out.2.1.trans hb15, by rw [← hNS]; have := HLN.out; simp; omega, fun n hn => ?_⟩
  rw [← hNS] at hn
  simp only [List.nil_append, List.mem_append, List.mem_map] at hn
  rcases hn with ⟨l, ⟨b, hb', rfl⟩, rfl⟩ | ⟨l, hl, rfl⟩
  ·exact HLN.out.2.2.1 b hb'
  ·exact HLN.out.2.2.2 l hl
 clear hVS hNS hN15 hb15 x0 x1 x2 x3 hx H14a
 have H21b := H21.out w15
 have H20b := HC20.out w15 (by rw [hB]; exact HN15.out.2.1)
 go_wp2_with fail
 refine H21b.mono ?_
 rintro e wx ⟨rfl, hw⟩
 obtain rfl := hw.symm
 clear H21b hw
 go_wp2_with fail
 refine H20b.mono ?_
 rintro e w16 ⟨ia, im, ic, ja, jm, jc, rfl, H16⟩
 clear H20b
 obtain ⟨W16, hW16⟩ : ∃ W16, w16.alloc (.cells #[.int .u8 so, .slice ia im ic, .slice ja jm jc, .int .i64 (ss : Int)] 62) = W16 := ⟨_, rfl⟩
 obtain ⟨r16, hr16⟩ : ∃ r16, w16.heap.size = r16 := ⟨_, rfl⟩
 obtain ⟨bb2, us2, hbb2, hsv2⟩ := svR_bn H16.out.1
 have HW16 : Hid (Fo W16 r16 62 (.int .u8 so) (.slice ia im ic) (.slice ja jm jc) (.int .i64 (ss : Int)) ∧ SvB w15.heap.size W16 (.slice ia im ic) (.slice ja jm jc) bb2 us2 sl ∧ hpOf bb2 = sb ∧ Bk.BkN W16 B bk nv15 VS NS ∧ Below B w3' W16) := by
  have hb4 : Below w16.heap.size w16 W16 := by rw [← hW16]; exact below_alloc _ _
  have hb5 : Below w15.heap.size w15 W16 := H16.out.2.trans (hb4.mono H16.out.2.size)
  have hb6 : B ≤ w15.heap.size := by rw [← hB]; exact (hB ▸ HN15.out.2.1 : Below w3'.heap.size w3' w15).size
  exact ⟨by rw [← hW16, ← hr16]; exact Fo.new _ _ _ _ _ _, hsv2.below hb4, hbb2, HN15.out.1.below hb5, HN15.out.2.1.trans (hb5.mono hb6)⟩
 have HBB : Hid (B ≤ w15.heap.size) := by
  rw [← hB]; exact (hB ▸ HN15.out.2.1 : Below w3'.heap.size w3' w15).size
 have HLow : Hid (∀ (j : Nat) (v : Value) (g : Nat), VS[j]? = some v → v.ownBlock = some g → g < w15.heap.size) := fun j v g hv hg => HN15.out.1.low hv hg
 have HLN2 : Hid (bb2.length ≤ 2024000 ∧ ∀ b ∈ bb2, b.l.length ≤ 256) := by
  have h1 := HOK.out.1
  refine ⟨?_, fun b hb' => ?_⟩
  ·have h3 := h1.bl
   rw [← hbb2] at h3
   simpa [hpOf] using h3
  ·exact (h1.bd (b.x, b.l) (by rw [← hbb2]; exact List.mem_map.2 ⟨b, hb', rfl⟩)).1
 obtain ⟨⟨x0, x1, x2, x3⟩, hx⟩ := HW16.out.1.cells
 have H25b := t25 B bk nv15 VS NS bb2 ia im ic W16 HW16.out.2.2.2.1 (HW16.out.2.1.tkB HBB.out HLow.out) (by have h1 := HLN2.out.1; have h2 := HN15.out.2.2.1; omega)
 clear hsv2 hbb2 H16
 go_wp2_with fail
 clear hW16
 clear hr16
 refine H25b.mono ?_
 rintro e w17 ⟨rfl, nv17, hN17, hb17, hk17⟩
 have HN17 : Hid (Bk.BkN w17 B bk nv17 (VS ++ bb2.map Bn.v) (NS ++ (bb2.map Bn.l).map List.length) ∧ Below B w3' w17 ∧ Kb bk W16 w17) := ⟨hN17, HW16.out.2.2.2.2.trans hb17, hk17⟩
 have HBk16 : Hid (Bk.BookAt W16 bk (Bk.BkA nv15)) := HW16.out.2.2.2.1.book
 have HFo17 : Hid (Fo w17 r16 62 (.int .u8 so) (.slice ia im ic) (.slice ja jm jc) (.int .i64 (ss : Int))) := HW16.out.1.kb HBk16.out (by decide) (by decide) HN17.out.2.2
 have HSV17 : Hid (SvB w15.heap.size w17 (.slice ia im ic) (.slice ja jm jc) bb2 us2 sl) := HW16.out.2.1.kb HBk16.out HN17.out.2.2
 clear hN17 hb17 hk17 x0 x1 x2 x3 hx H25b
 obtain ⟨⟨x0, x1, x2, x3⟩, hx⟩ := HFo17.out.cells
 have H14b := t14 B bk nv17 (VS ++ bb2.map Bn.v) us2 (NS ++ (bb2.map Bn.l).map List.length) sl ja jm jc w17 HN17.out.1 (HSV17.out.tkR HBB.out HLow.out) (by have h1 := HLN2.out.1; have h2 := HN15.out.2.2.1; have h3 := HLN.out.2.1; simp; omega)
 go_wp2_with fail
 refine H14b.mono ?_
 rintro e w18 ⟨rfl, nv18, hN18, hb18, _⟩
 have HB18 : Hid (Below B w3' w18) := HN17.out.2.1.trans hb18
 have HC15 : Hid (Calls Tryz.prog 15 #[.pointer (some ⟨bk, 0, none⟩)] w18.drew fun e w' => e = .returned (.bool true) ∧ Below B w18.drew w') := by
  refine Bk.b11 B bk nv18 _ _ w18.drew (hN18.below (Below.refl _ w18).drew) (by have h1 := HLN2.out.1; have h2 := HN15.out.2.2.1; have h3 := HLN.out.2.1; simp; omega) fun n hn => ?_
  have h1 : n ≤ 256 := by
   simp only [List.mem_append, List.mem_map] at hn
   rcases hn with (hn | ⟨l, ⟨b, hb', rfl⟩, rfl⟩) | ⟨l, hl, rfl⟩
   ·exact HN15.out.2.2.2 n hn
   ·exact HLN2.out.2 b hb'
   ·exact HLN.out.2.2.2 l hl
  omega
 have hrt : rt < B := by rw [← hB]; exact (HFR.out w3' (Below.refl _ _)).2.2.2.2
 rw [← hB] at HB18 HC15 hrt
 have HSQ : SqS w3' rt (.slice fa fn fc) w18 := ⟨(HFR.out w18 HB18.out).1, HB18.out⟩
 clear hN18 hb18 x0 x1 x2 x3 hx H14b hB
 go_wp2_with fail
 refine wp_region_noPanic ?_
 refine wp_region_held_drew (S := SqS w3' rt (.slice fa fn fc)) (by kernel_rfl) (sqS_drew HSQ) (fun hHeld => ?_)
 have HQd := sqS_drew HSQ
 clear HSQ
 generalize w18.drew = w79 at *
 (refine wpAnyH_take (i := 0) (v := ?_) (by simp only [qA, qB]; rfl) (by kernel_rfl) (by kernel_rfl) (by kernel_rfl) (fun _ _ _ h => h) (Or.inl ⟨by rfl, ?_⟩) (by assumption) ?_; rotate_left; (· (intro w hSw; (try dsimp only at hSw); go_simp <;> with_reducible rfl)); try simp only [Act.put, qD, qE, qF])
 refine wpAnyH_ready (rs := [1]) (by kernel_rfl) (by simp) ?_
 refine AllReadyH.cons (by simp only [qA, qB, qC]; rfl) (fun K hK => ?_) AllReadyH.nil
 go_simp
 go_at_call 15
 refine (HC15.out).mono ?_
 rintro e w80 ⟨rfl, hb⟩
 have HQ80 : SqS w3' rt (.slice fa fn fc) w80 := sqS_to hrt HQd hb
 refine hK.out _ _ ?_ (fun hHeld => ?_)
 ·exact HQ80
 clear hK K
 try simp only [Act.put, qD, qE, qF]
 clear hb HQd
 (refine wpAnyH_take (i := 2) (v := ?_) (by simp only [qA, qB, qC]; rfl) (by kernel_rfl) (by kernel_rfl) (by kernel_rfl) (fun _ _ _ h => h) (Or.inl ⟨by rfl, ?_⟩) (by assumption) ?_; rotate_left; (· (intro w hSw; (try dsimp only at hSw); go_simp <;> with_reducible rfl)); try simp only [Act.put, qD, qE, qF])
 (refine wpAnyH_take (i := 3) (v := ?_) (by simp only [qA, qB, qC]; rfl) (by kernel_rfl) (by kernel_rfl) (by kernel_rfl) (fun _ _ _ h => h) (Or.inl ⟨by rfl, ?_⟩) (by assumption) ?_; rotate_left; (· (intro w hSw; (try dsimp only at hSw); go_simp <;> with_reducible rfl)); try simp only [Act.put, qD, qE, qF])
 (refine wpAnyH_take (i := 4) (v := ?_) (by simp only [qA, qB, qC]; rfl) (by kernel_rfl) (by kernel_rfl) (by kernel_rfl) (fun _ _ _ h => h) (Or.inl ⟨by rfl, ?_⟩) (by assumption) ?_; rotate_left; (· (intro w hSw; (try dsimp only at hSw); go_simp <;> with_reducible rfl)); try simp only [Act.put, qD, qE, qF])
 refine wpAnyH_ready (rs := [5]) (by kernel_rfl) (by simp) ?_
 refine AllReadyH.cons (by simp only [qA, qB, qC]; rfl) (fun K hK => ?_) AllReadyH.nil
 go_simp
 go_at_call 26
 refine ((HSG.out w80 HQ80.2.out).c26).mono ?_
 rintro e w81 ⟨rfl, hb⟩
 have HQ81 : SqS w3' rt (.slice fa fn fc) w81 := sqS_to hrt HQ80 (hb.mono HQ80.2.out.size)
 refine hK.out _ _ ?_ (fun hHeld => ?_)
 ·exact HQ81
 clear hK K
 try simp only [Act.put, qD, qE, qF]
 clear hb HQ80
 (refine wpAnyH_take (i := 6) (v := ?_) (by simp only [qA, qB, qC]; rfl) (by kernel_rfl) (by kernel_rfl) (by kernel_rfl) (fun _ _ _ h => h) (Or.inl ⟨by rfl, ?_⟩) (by assumption) ?_; rotate_left; (· (intro w hSw; (try dsimp only at hSw); go_simp <;> with_reducible rfl)); try simp only [Act.put, qD, qE, qF])
 (refine wpAnyH_take (i := 7) (v := ?_) (by simp only [qA, qB, qC]; rfl) (by kernel_rfl) (by kernel_rfl) (by kernel_rfl) (fun _ _ _ h => h) (Or.inl ⟨by rfl, ?_⟩) (by assumption) ?_; rotate_left; (· (intro w hSw; (try dsimp only at hSw); go_simp <;> with_reducible rfl)); try simp only [Act.put, qD, qE, qF])
 (refine wpAnyH_take (i := 8) (v := ?_) (by simp only [qA, qB, qC]; rfl) (by kernel_rfl) (by kernel_rfl) (by kernel_rfl) (fun _ _ _ h => h) (Or.inl ⟨by rfl, ?_⟩) (by assumption) ?_; rotate_left; (· (intro w hSw; (try dsimp only at hSw); go_simp <;> with_reducible rfl)); try simp only [Act.put, qD, qE, qF])
 (refine wpAnyH_take (i := 10) (v := ?_) (by simp only [qA, qB, qC]; rfl) (by kernel_rfl) (by kernel_rfl) (by kernel_rfl) (fun _ _ _ h => h) (Or.inl ⟨by rfl, ?_⟩) (by assumption) ?_; rotate_left; (· (intro w hSw; (try dsimp only at hSw); go_simp <;> with_reducible rfl)); try simp only [Act.put, qD, qE, qF])
 (refine wpAnyH_take (i := 11) (v := ?_) (by simp only [qA, qB, qC]; rfl) (by kernel_rfl) (by kernel_rfl) (by kernel_rfl) (fun _ _ _ h => h) (Or.inl ⟨by rfl, ?_⟩) (by assumption) ?_; rotate_left; (· (intro w hSw; (try dsimp only at hSw); go_simp <;> with_reducible rfl)); try simp only [Act.put, qD, qE, qF])
 (refine wpAnyH_take (i := 12) (v := ?_) (by simp only [qA, qB, qC]; rfl) (by kernel_rfl) (by kernel_rfl) (by kernel_rfl) (fun _ _ _ h => h) (Or.inl ⟨by rfl, ?_⟩) (by assumption) ?_; rotate_left; (· (intro w hSw; (try dsimp only at hSw); go_simp <;> with_reducible rfl)); try simp only [Act.put, qD, qE, qF])
 (refine wpAnyH_take (i := 13) (v := ?_) (by simp only [qA, qB, qC]; rfl) (by kernel_rfl) (by kernel_rfl) (by kernel_rfl) (fun _ _ _ h => h) (Or.inl ⟨by rfl, ?_⟩) (by assumption) ?_; rotate_left; (· (intro w hSw; (try dsimp only at hSw); go_simp <;> with_reducible rfl)); try simp only [Act.put, qD, qE, qF])
 refine wpAnyH_ready (rs := [9]) (by kernel_rfl) (by simp) ?_
 refine AllReadyH.cons (by simp only [qA, qB, qC]; rfl) (fun K hK => ?_) AllReadyH.nil
 go_simp
 go_at_call 18
 refine ((HSG.out w81 HQ81.2.out).c18).mono ?_
 rintro e w82 ⟨ka, kk, kc, rfl, kbs, hk1, hk2, _, hk4, hb⟩
 have HQ82 : SqS w3' rt (.slice fa fn fc) w82 := sqS_to hrt HQ81 (hb.mono HQ81.2.out.size)
 refine hK.out _ _ ?_ (fun hHeld => ?_)
 ·exact HQ82
 clear hK K
 try simp only [Act.put, qD, qE, qF]
 have hkk : fn = kk := by
  obtain ⟨_, f2, _, f4, _⟩ := HFR.out w82 HQ82.2.out
  have h1 := congrArg List.length (hk1.trans f4.symm)
  simp only [hpOf, List.length_map] at h1
  have h2 := hk2.len
  have h3 := f2.len
  omega
 subst hkk
 have H17 : Calls Tryz.prog 17 #[.slice ka fn kc, .slice fa fn fc] w82 fun e w' => e = .returned (.bool true) ∧ Below w82.heap.size w82 w' := by
  obtain ⟨_, f2, f3, f4, _⟩ := HFR.out w82 HQ82.2.out
  refine t17 ka fa fn kc fc kbs fbs w82 hk2 f2 (fun b hb' => (hk4 b hb').1) f3 (hk1.trans f4.symm) ?_
  obtain ⟨G, bs, _, g2, g3⟩ := (HSG.out w82 HQ82.2.out).rf
  have h1 := congrArg List.length (f4.trans g2.symm)
  simp only [hpOf, List.length_map] at h1
  have h3 := f2.len
  omega
 clear hb hk1 hk2 hk4 HQ81
 refine wpAnyH_ready (rs := [14]) (by kernel_rfl) (by simp) ?_
 refine AllReadyH.cons (by simp only [qA, qB, qC]; rfl) (fun K hK => ?_) AllReadyH.nil
 go_simp
 go_at_call 17
 refine (H17).mono ?_
 rintro e w83 ⟨rfl, hb⟩
 have HQ83 : SqS w3' rt (.slice fa fn fc) w83 := sqS_to hrt HQ82 (hb.mono HQ82.2.out.size)
 refine hK.out _ _ ?_ (fun hHeld => ?_)
 ·exact HQ83
 clear hK K
 try simp only [Act.put, qD, qE, qF]
 clear hb H17 HQ82
 (refine wpAnyH_take (i := 15) (v := ?_) (by simp only [qA, qB, qC]; rfl) (by kernel_rfl) (by kernel_rfl) (by kernel_rfl) (fun _ _ _ h => h) (Or.inl ⟨by rfl, ?_⟩) (by assumption) ?_; rotate_left; (· (intro w hSw; (try dsimp only at hSw); go_simp <;> with_reducible rfl)); try simp only [Act.put, qD, qE, qF])
 (refine wpAnyH_take (i := 16) (v := ?_) (by simp only [qA, qB, qC]; rfl) (by kernel_rfl) (by kernel_rfl) (by kernel_rfl) (fun _ _ _ h => h) (Or.inl ⟨by rfl, ?_⟩) (by assumption) ?_; rotate_left; (· (intro w hSw; (try dsimp only at hSw); go_simp <;> with_reducible rfl)); try simp only [Act.put, qD, qE, qF])
 refine wpAnyH_done (by kernel_rfl) ?_ _
 refine NoPanic.normal ?_
 have HE : Hid (Below w.heap.size w w83) := HB3.out.trans (HQ83.2.out.mono HB3.out.size)
 clear hHeld HQ83
 go_wp2_with fail
 go_ret
 exact ⟨rfl, HE.out⟩
end Go.Proofs.YtljggjllijacjaaGreatDoor
