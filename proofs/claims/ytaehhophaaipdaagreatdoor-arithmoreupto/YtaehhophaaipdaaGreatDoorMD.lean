/- The statement on maps that say more. -/
import Derived.Test.YtaehhophaaipdaaGreatDoorMC
namespace Go.Proofs.YtaehhophaaipdaaGreatDoor
open Go.RowKit
attribute [local go_sem ↓] Go.wp_at_zero Go.wp_at_succ
/-- What is asked of one map. -/
structure Qm (w1 : World) (hb : Nat) (m : Hp) (l : List C) (va : Option Addr) (vc : Nat) (u : V3) (g : G2) : Prop where
  vu : Vu m l u
  gv : Gv m l g
  rg : RgH m
  wu : ∀ x ∈ u.2.2, wfN x
  c9 : ∀ W, Below w1.heap.size w1 W → Calls Tryz.prog 9 #[pv hb, .slice va l.length vc] W (RvPost u W)
  c18 : ∀ W, Below w1.heap.size w1 W → Calls Tryz.prog 18 #[pv hb, .slice va l.length vc] W (GnPost g W)
  c22 : ∀ W x, Below w1.heap.size w1 W → wfN x → lookH m x = none → Calls Tryz.prog 22 #[pv hb, .agg #[.int .i64 x.1, .int .i64 x.2]] W fun e w' => e = .returned (.tuple #[.slice none 0 0, .bool false]) ∧ Hid (Below W.heap.size W w')
theorem qm_of {wB w1 : World} {hb M rt k : Nat} {m : Hp} (h : BmF wB w1 hb M rt k m) {l : List C} {va : Option Addr} {vc : Nat} (hT : TermAt w1 (.slice va l.length vc) l) (hW : ∀ c ∈ l, wfN (c.vn, c.vk)) (hS : Signs w1) : ∃ u g, Qm w1 hb m l va vc u g := by
  obtain ⟨G, bs, h1, h2, h3, h4⟩ := h
  obtain ⟨n, D, V, k1, k2, k3, k4⟩ := h1.hp
  have hR : RgH m := fun x l h => (h1.len x l h).2
  have hok : HpOk m := fun x l h => ⟨(h1.len x l h).2.1, (h1.len x l h).1⟩
  obtain ⟨u, hu, hwu, hc⟩ := vals_of m hR k1.desc l
  obtain ⟨g, hg⟩ := gv_some hR k1.desc l
  exact ⟨u, g, hu, hg, hR, hwu (fun x l h => (k1.wf x l h).2) hW,
    fun W hb' => hc _ _ W (hT.below hb') (hS.below hb') (.inr ⟨hb, M, n, D, rfl, k1.below hb'⟩) hW,
    fun W hb' => g18 m hok _ l g _ W (.inr ⟨hb, M, n, D, rfl, k1.below hb'⟩) hg (hT.below hb') (hS.below hb') hW,
    fun W x hb' hx hn => g22 m hb M n D x W (k1.below hb') hx hn⟩
theorem news_of {w W : World} {a : Option Addr} {n : Nat} {bs : List Bn} (h : Bs w a n bs) (hb : Below w.heap.size w W) : n = 0 ∨ ∃ ad, a = some ad ∧ ∀ j u, (bs.flatMap encB)[j]? = some u → W.cell? (ad.add j) = some u := by
  rcases h.mem with e | ⟨b, o, e, h1, h2⟩
  · exact .inl e
  · exact .inr ⟨_, e, fun j u hu => by rw [Addr.add_mid]; exact range_below h2 h1 hb j u hu⟩
theorem newsN_of {w W : World} {a : Option Addr} {n c : Nat} {l : List Nm} (h : NamesAt w (.slice a n c) l) (hb : Below w.heap.size w W) : n = 0 ∨ ∃ ad, a = some ad ∧ ∀ j u, (flatN l)[j]? = some u → W.cell? (ad.add j) = some u := by
  rcases (h.below hb).2 with ⟨e, ad, e2⟩ | ⟨b', o', c', e, h3, _⟩
  · simp only [Value.slice.injEq] at e2
    exact .inl e2.2.1
  · simp only [Value.slice.injEq] at e
    exact .inr ⟨_, e.1, fun j u hu => by rw [Addr.add_mid]; exact h3 j u hu⟩
set_option maxRecDepth 100000 in
set_option maxHeartbeats 8000000 in
theorem l5 (b0 : Option Addr) (n0 c0 : Nat) (bs0 : List Bn) (b1 : Option Addr) (n1 c1 : Nat) (bs1 : List Bn) (l : List C) (v1 : Value) (w : World) (hA : BdRow w b0 n0 bs0) (hA1 : BdRow w b1 n1 bs1) (hn : n0 ≤ 1000000000) (hn1 : n1 ≤ 1000000000) (hT : TermAt w v1 l) (hW : ∀ c ∈ l, wfN (c.vn, c.vk)) (hS : Signs w) :
    Calls Tryz.prog 5 #[.slice b0 n0 c0, .slice b1 n1 c1, v1] w fun e w' => e = .returned (.bool true) ∧ Below w.heap.size w w' := by
  obtain ⟨i0, hi, hz, hs, hby⟩ := infoB
  obtain ⟨iN, hiN, hzN, hsN, hbyN⟩ := info23
  have H7 := i7f b0 n0 c0 bs0 w hA (by omega) hS
  obtain ⟨va, vc, hv1⟩ := hT.form
  subst hv1
  have HX : Hid (TermAt w (.slice va l.length vc) l ∧ (∀ c ∈ l, wfN (c.vn, c.vk)) ∧ Signs w ∧ BdRow w b0 n0 bs0 ∧ BdRow w b1 n1 bs1) := ⟨hT, hW, hS, hA, hA1⟩
  have hl0 : (bs0.flatMap encB).length = n0 * 3 := by rw [encB_len, hA.row.len]
  have hl1 : (bs1.flatMap encB).length = n1 * 3 := by rw [encB_len, hA1.row.len]
  clear hA hA1 hT hW hS
  go_enter Tryz.func5, Tryz.ntmps5
  go_wp2_with fail
  refine H7.mono ?_
  rintro e w1 ⟨hb, M, rt, rfl, H1⟩
  clear H7
  have HB1 : Hid (Below w.heap.size w w1) := by
    obtain ⟨G, bs, h1, _⟩ := H1.out
    exact h1.bel
  obtain ⟨u, g, HQ⟩ : ∃ u g, Hid (Qm w1 hb (foldB bs0) l va vc u g) := qm_of H1.out (HX.out.1.below HB1.out) HX.out.2.1 (HX.out.2.2.1.below HB1.out)
  have HO : Hid ((w1.alloc (.cells #[] 75)).ownsRow w1.heap.size 75 3 (.slice (some ⟨w1.heap.size, 0, none⟩) 0 0) 0 []) := ⟨rfl, .inr ⟨w1.heap.size, 0, #[], rfl, Nat.le_refl _, heap_alloc_new w1 _, Nat.le_refl _, by simp, rfl, rfl⟩⟩
  have HW : Hid (Below w1.heap.size w1 (w1.alloc (.cells #[] 75))) := below_alloc _ _
  have HN : Hid (n0 = 0 ∨ ∃ ad, b0 = some ad ∧ ∀ j u, (bs0.flatMap encB)[j]? = some u → (w1.alloc (.cells #[] 75)).cell? (ad.add j) = some u) := news_of HX.out.2.2.2.1.row (HB1.out.trans (HW.out.mono HB1.out.size))
  clear H1
  go_wp2_with (at_builtin; refine wpList_append_any _ rfl _ _ 22 rfl w1.heap.size 75 i0 (.agg #[.int .i64 0, .int .i64 0, .slice none 0 0]) 3 40 Tryz.underlying22 hi hz hs hby rfl (by decide) _ _ _ rfl HO.out b0 n0 c0 (bs0.flatMap encB) rfl hl0 HN.out (rowB_one _) (by unfold maxLen; omega) (by omega) (by simp) ?_)
  intro qa qc w2 hown hgr
  have H2 : Hid (w2.ownsRow w1.heap.size 75 3 (.slice qa n0 qc) n0 (bs0.flatMap encB) ∧ Below w1.heap.size w1 w2) := by
    refine ⟨hown, HW.out.grown hgr (by simp) (fun g hg => (HO.out.lt g hg).1)⟩
  clear hown hgr HO HW HN
  have HN : Hid (n1 = 0 ∨ ∃ ad, b1 = some ad ∧ ∀ j u, (bs1.flatMap encB)[j]? = some u → w2.cell? (ad.add j) = some u) := news_of HX.out.2.2.2.2.row (HB1.out.trans (H2.out.2.mono HB1.out.size))
  go_wp2_with (at_builtin; refine wpList_append_any _ rfl _ _ 22 rfl w1.heap.size 75 i0 (.agg #[.int .i64 0, .int .i64 0, .slice none 0 0]) 3 40 Tryz.underlying22 hi hz hs hby rfl (by decide) _ _ _ rfl H2.out.1 b1 n1 c1 (bs1.flatMap encB) rfl hl1 HN.out (rowB_one _) (by unfold maxLen; omega) (by omega) H2.out.2.size ?_)
  intro qb qd w3 hown hgr
  have H3 : Hid (w3.ownsRow w1.heap.size 75 3 (.slice qb (n0 + n1) qd) (n0 + n1) (bs0.flatMap encB ++ bs1.flatMap encB) ∧ Below w1.heap.size w1 w3 ∧ Below w.heap.size w w3) := by
    have h1 := H2.out.2.grown hgr H2.out.2.size (fun g hg => (H2.out.1.lt g hg).1)
    exact ⟨hown, h1, HB1.out.trans (h1.mono HB1.out.size)⟩
  clear hown hgr H2 HN hl0 hl1
  have H7 : Calls Tryz.prog 7 #[.slice qb (n0 + n1) qd] w3 fun e w' => ∃ hb M rt, e = .returned (.tuple #[.pointer (some ⟨hb, 0, none⟩), .pointer (some ⟨rt, 0, none⟩)]) ∧ Hid (BmF w3 w' hb M rt (n0 + n1) (foldB (bs0 ++ bs1))) := by
    refine i7f qb (n0 + n1) qd (bs0 ++ bs1) w3 (bd_own (c := qd) (base := w1.heap.size) H3.out.2.2 ?_ ?_ fun b hb => ?_) (by omega) (HX.out.2.2.1.below H3.out.2.2)
    · rw [List.length_append, HX.out.2.2.2.1.row.len, HX.out.2.2.2.2.row.len]
    · rw [List.flatMap_append]
      exact H3.out.1
    · rcases List.mem_append.1 hb with hb | hb
      · exact HX.out.2.2.2.1.el b hb
      · exact HX.out.2.2.2.2.el b hb
  go_wp2_with fail
  refine H7.mono ?_
  rintro e w4 ⟨hb', M', rt', rfl, H4⟩
  clear H7
  have HB4 : Hid (Below w1.heap.size w1 w4 ∧ Below w.heap.size w w4) := by
    obtain ⟨G, bs, h1, _⟩ := H4.out
    have hb := h1.bel
    exact ⟨H3.out.2.1.trans (hb.mono H3.out.2.1.size), H3.out.2.2.trans (hb.mono H3.out.2.2.size)⟩
  obtain ⟨u', g', HQ'⟩ : ∃ u g, Hid (Qm w4 hb' (foldB (bs0 ++ bs1)) l va vc u g) := qm_of H4.out (HX.out.1.below HB4.out.2) HX.out.2.1 (HX.out.2.2.1.below HB4.out.2)
  have HR : Hid ((u.2.1 ≠ 3 → u'.1 = u.1 ∧ u'.2.1 = u.2.1) ∧ (g.1 ≠ 3 → g'.1 = g.1)) := ⟨vu_more (fold_sub bs0 bs1) HQ.out.vu HQ'.out.vu, gv_more (fold_sub bs0 bs1) HQ.out.rg HQ.out.gv HQ'.out.gv⟩
  have HU : Hid (((u.2.1 = 3 ∧ u.2.2 ≠ []) ∨ ((u.2.1 = 1 ∨ u.2.1 = 2) ∧ u.2.2 = [])) ∧ ((g.1 = 3 ∧ g.2 ≠ []) ∨ ((g.1 = 1 ∨ g.1 = 2) ∧ g.2 = [])) ∧ u.2.2.length ≤ 256) := by
    refine ⟨vu_waits HQ.out.vu, ?_, HQ.out.vu.len⟩
    rcases gv_shape HQ.out.gv with ⟨a, b⟩ | ⟨a, b⟩ | ⟨a, b, _⟩
    · exact .inr ⟨.inl a, b⟩
    · exact .inr ⟨.inr a, b⟩
    · exact .inl ⟨a, b⟩
  have HC : Hid ((∀ W, Below w1.heap.size w1 W → Calls Tryz.prog 9 #[pv hb, .slice va l.length vc] W (RvPost u W)) ∧ (∀ W, Below w1.heap.size w1 W → Calls Tryz.prog 18 #[pv hb, .slice va l.length vc] W (GnPost g W)) ∧ (∀ W, Below w4.heap.size w4 W → Calls Tryz.prog 9 #[pv hb', .slice va l.length vc] W (RvPost u' W)) ∧ (∀ W, Below w4.heap.size w4 W → Calls Tryz.prog 18 #[pv hb', .slice va l.length vc] W (GnPost g' W))) := ⟨HQ.out.c9, HQ.out.c18, HQ'.out.c9, HQ'.out.c18⟩
  have HV : Hid (∀ W x, Below w1.heap.size w1 W → wfN x → x ∈ u.2.2 ∨ x ∈ g.2 → Calls Tryz.prog 22 #[pv hb, .agg #[.int .i64 x.1, .int .i64 x.2]] W fun e w' => e = .returned (.tuple #[.slice none 0 0, .bool false]) ∧ Hid (Below W.heap.size W w')) := fun W x h1 h2 h3 => HQ.out.c22 W x h1 h2 (by
    rcases h3 with h3 | h3
    · exact HQ.out.vu.free x h3
    · exact gv_free HQ.out.rg HQ.out.gv x h3)
  have HWu : Hid (∀ x ∈ u.2.2, wfN x) := HQ.out.wu
  clear HQ HQ' H4 H3
  obtain ⟨ua, uo, un⟩ := u
  obtain ⟨ga, gn⟩ := g
  obtain ⟨ua', uo', un'⟩ := u'
  obtain ⟨ga', gn'⟩ := g'
  dsimp only at *
  have H11 := h19 w4 (HX.out.2.2.1.below HB4.out.2)
  go_wp2_with fail
  refine H11.mono ?_
  rintro e w5 ⟨rfl, b5⟩
  have HB5 : Hid (Below w4.heap.size w4 w5 ∧ Below w1.heap.size w1 w5 ∧ Below w.heap.size w w5) := ⟨b5, HB4.out.1.trans (b5.mono HB4.out.1.size), HB4.out.2.trans (b5.mono HB4.out.2.size)⟩
  clear b5 H11
  have H9 := HC.out.1 w5 HB5.out.2.1
  go_wp2_with fail
  refine H9.mono ?_
  rintro e w6 ⟨q6, c6, rfl, hN6, b6⟩
  dsimp only at hN6
  have HB6 : Hid (NamesAt w6 (.slice q6 un.length c6) un ∧ Below w4.heap.size w4 w6 ∧ Below w1.heap.size w1 w6 ∧ Below w.heap.size w w6) := ⟨hN6, HB5.out.1.trans (b6.mono HB5.out.1.size), HB5.out.2.1.trans (b6.mono HB5.out.2.1.size), HB5.out.2.2.trans (b6.mono HB5.out.2.2.size)⟩
  clear hN6 b6 H9 HB5
  have H9 := HC.out.2.2.1 w6 HB6.out.2.1
  dsimp only
  go_wp2_with fail
  refine H9.mono ?_
  rintro e w7 ⟨q7, c7, rfl, hN7, b7⟩
  have HB7 : Hid (NamesAt w7 (.slice q6 un.length c6) un ∧ Below w4.heap.size w4 w7 ∧ Below w1.heap.size w1 w7 ∧ Below w.heap.size w w7) := ⟨HB6.out.1.below b7, HB6.out.2.1.trans (b7.mono HB6.out.2.1.size), HB6.out.2.2.1.trans (b7.mono HB6.out.2.2.1.size), HB6.out.2.2.2.trans (b7.mono HB6.out.2.2.2.size)⟩
  clear hN7 b7 H9 HB6
  have H18 := HC.out.2.1 w7 HB7.out.2.2.1
  dsimp only
  go_wp2_with fail
  refine H18.mono ?_
  rintro e w8 ⟨q8, c8, rfl, hN8, b8, hw8⟩
  dsimp only at hN8
  have HB8 : Hid (NamesAt w8 (.slice q6 un.length c6) un ∧ OwnN w8 w7.heap.size (.slice q8 gn.length c8) gn ∧ ((∀ x ∈ gn, wfN x) ∧ gn.length ≤ 999999999) ∧ Below w4.heap.size w4 w8 ∧ Below w1.heap.size w1 w8 ∧ Below w.heap.size w w8) := ⟨HB7.out.1.below b8, hN8, hw8, HB7.out.2.1.trans (b8.mono HB7.out.2.1.size), HB7.out.2.2.1.trans (b8.mono HB7.out.2.2.1.size), HB7.out.2.2.2.trans (b8.mono HB7.out.2.2.2.size)⟩
  clear hN8 b8 hw8 H18 HB7
  have H18 := HC.out.2.2.2 w8 HB8.out.2.2.2.1
  dsimp only
  go_wp2_with fail
  refine H18.mono ?_
  rintro e w9 ⟨q9, c9, rfl, hN9, b9, _⟩
  have HB9 : Hid (NamesAt w9 (.slice q6 un.length c6) un ∧ NamesAt w9 (.slice q8 gn.length c8) gn ∧ ((∀ x ∈ gn, wfN x) ∧ gn.length ≤ 999999999) ∧ Below w1.heap.size w1 w9 ∧ Below w.heap.size w w9) := by
    obtain ⟨h1, h2, h3, h4, h5, h6⟩ := HB8.out
    exact ⟨h1.below b9, (namesAt_of_owns h2 (by unfold maxLen; have := h3.2; omega)).below b9, h3, h5.trans (b9.mono h5.size), h6.trans (b9.mono h6.size)⟩
  have F1 : (uo = 3 ∧ 0 < un.length) ∨ ((uo = 1 ∨ uo = 2) ∧ un.length = 0 ∧ ua' = ua ∧ uo' = uo) := by
    rcases HU.out.1 with ⟨a, b⟩ | ⟨a, b⟩
    · have := List.length_pos_iff.2 b
      exact .inl ⟨a, by omega⟩
    · obtain ⟨c, d⟩ := HR.out.1 (by omega)
      exact .inr ⟨a, by rw [b]; rfl, c, d⟩
  have F2 : (ga = 3 ∧ 0 < gn.length) ∨ ((ga = 1 ∨ ga = 2) ∧ gn.length = 0 ∧ ga' = ga) := by
    rcases HU.out.2.1 with ⟨a, b⟩ | ⟨a, b⟩
    · have := List.length_pos_iff.2 b
      exact .inl ⟨a, by omega⟩
    · exact .inr ⟨a, by rw [b]; rfl, HR.out.2 (by omega)⟩
  have hlu : un.length ≤ 256 := HU.out.2.2
  have hlg : gn.length ≤ 999999999 := HB9.out.2.2.1.2
  have hfu := flatN_length un
  have hfg := flatN_length gn
  have HLA : Hid ((un ++ gn).length = un.length + gn.length) := List.length_append
  clear hN9 b9 H18 HB8 HU HR HC
  dsimp only
  generalize un.length = nl at *
  generalize gn.length = gl at *
  rcases F1 with ⟨rfl, hlw⟩ | ⟨rfl | rfl, rfl, rfl, rfl⟩ <;> rcases F2 with ⟨rfl, hlx⟩ | ⟨rfl | rfl, rfl, rfl⟩
  · have HO : Hid ((w9.alloc (.cells #[] 60)).ownsRow w9.heap.size 60 2 (.slice (some ⟨w9.heap.size, 0, none⟩) 0 0) 0 []) := ⟨rfl, .inr ⟨w9.heap.size, 0, #[], rfl, Nat.le_refl _, heap_alloc_new w9 _, Nat.le_refl _, by simp, rfl, rfl⟩⟩
    have HW : Hid (Below w9.heap.size w9 (w9.alloc (.cells #[] 60))) := below_alloc _ _
    have HN : Hid (nl = 0 ∨ ∃ ad, q6 = some ad ∧ ∀ j u, (flatN un)[j]? = some u → (w9.alloc (.cells #[] 60)).cell? (ad.add j) = some u) := newsN_of HB9.out.1 HW.out
    have HF : Hid ((flatN un).length = nl * 2 ∧ (flatN gn).length = gl * 2) := ⟨hfu, hfg⟩
    clear hfu hfg
    go_wp2_with (at_builtin; refine wpList_append_any _ rfl _ _ 31 rfl w9.heap.size 60 iN (.agg #[.int .i64 0, .int .i64 0]) 2 16 Tryz.underlying31 hiN hzN hsN hbyN rfl (by decide) _ _ _ rfl HO.out q6 nl c6 (flatN un) rfl HF.out.1 HN.out (flatN_one un) (by unfold maxLen; omega) (by omega) (by simp) ?_)
    intro qa qc wa hown hgr
    have H2 : Hid (wa.ownsRow w9.heap.size 60 2 (.slice qa nl qc) nl (flatN un) ∧ Below w9.heap.size w9 wa) := by
      refine ⟨hown, HW.out.grown hgr (by simp) (fun g hg => (HO.out.lt g hg).1)⟩
    clear hown hgr HO HW HN
    have HN : Hid (gl = 0 ∨ ∃ ad, q8 = some ad ∧ ∀ j u, (flatN gn)[j]? = some u → wa.cell? (ad.add j) = some u) := newsN_of HB9.out.2.1 H2.out.2
    go_wp2_with (at_builtin; refine wpList_append_any _ rfl _ _ 31 rfl w9.heap.size 60 iN (.agg #[.int .i64 0, .int .i64 0]) 2 16 Tryz.underlying31 hiN hzN hsN hbyN rfl (by decide) _ _ _ rfl H2.out.1 q8 gl c8 (flatN gn) rfl HF.out.2 HN.out (flatN_one gn) (by unfold maxLen; omega) (by omega) H2.out.2.size ?_)
    intro qb qd wb hown hgr
    obtain ⟨L, hL⟩ : ∃ L, nl + gl = L := ⟨_, rfl⟩
    rw [hL] at hown ⊢
    have hLb : L ≤ 2000000000 := by omega
    have HE : Hid ((un ++ gn).length = L) := by
      show (un ++ gn).length = L
      rw [HLA.out]
      omega
    have H3 : Hid (NamesAt wb (.slice qb L qd) (un ++ gn) ∧ Below w9.heap.size w9 wb) := by
      refine ⟨?_, H2.out.2.grown hgr H2.out.2.size (fun g hg => (H2.out.1.lt g hg).1)⟩
      refine namesAt_of_owns (base := w9.heap.size) ?_ (by rw [HE.out]; unfold maxLen; omega)
      unfold OwnN
      rw [flatN_append, HE.out]
      exact hown
    clear hown hgr H2 HN hL hlu hlg HF HLA hlw hlx
    have HG : Hid (∀ W, Below wb.heap.size wb W → Below w1.heap.size w1 W ∧ Below w.heap.size w W) := fun W h => by
      have h1 := H3.out.2.trans (h.mono H3.out.2.size)
      exact ⟨HB9.out.2.2.2.1.trans (h1.mono HB9.out.2.2.2.1.size), HB9.out.2.2.2.2.trans (h1.mono HB9.out.2.2.2.2.size)⟩
    have HWg : Hid (∀ x ∈ gn, wfN x) := HB9.out.2.2.1.1
    clear HB9
    go_wp2_with fail
    go_loopw [22] (fun iv wr => ∃ k : Nat, k ≤ L ∧ iv = .int .i64 k ∧ Hid (Below wb.heap.size wb wr)) (fun iv _ => L - (intOf iv).toNat)
    case atStart => exact ⟨0, Nat.zero_le _, rfl, Below.refl _ _⟩
    case round =>
      obtain ⟨k, hk, rfl, HK⟩ := hrel
      by_cases hlt : k < L
      · have g1 : (k : Int) < (L : Int) := by omega
        have g0 : (0 : Int) ≤ (k : Int) := by omega
        obtain ⟨bb, oo, x, hqb, hx, p0, p1⟩ : ∃ bb oo x, qb = some ⟨bb, oo, none⟩ ∧ Hid (wfN x ∧ (x ∈ un ∨ x ∈ gn)) ∧ wr.cell? ⟨bb, oo + k * 2, none⟩ = some (.int .i64 x.1) ∧ wr.cell? ⟨bb, oo + k * 2 + 1, none⟩ = some (.int .i64 x.2) := by
          obtain ⟨h1, _⟩ := H3.out
          have hlt' : k < (un ++ gn).length := by have := HE.out; omega
          have hm : (un ++ gn)[k] ∈ un ++ gn := List.getElem_mem hlt'
          rcases (h1.below HK.out).2 with ⟨e, _⟩ | ⟨b', o', c', e, h3, h4⟩
          · rw [e] at hlt'; simp at hlt'
          · simp only [Value.slice.injEq] at e
            obtain ⟨c1, c2⟩ := name_cells h3 k hlt'
            refine ⟨b', o', (un ++ gn)[k], e.1, ⟨?_, List.mem_append.1 hm⟩, c1, c2⟩
            rcases List.mem_append.1 hm with hm | hm
            · exact HWu.out _ hm
            · exact HWg.out _ hm
        subst hqb
        have H22 := HV.out wr x (HG.out wr HK.out).1 hx.out.1 hx.out.2
        obtain ⟨x1, x2⟩ := x
        clear hx
        dsimp only at p0 p1 H22
        go_wp2_with fail
        refine H22.mono ?_
        rintro e wq ⟨rfl, hq⟩
        have HK2 : Hid (Below wb.heap.size wb wq) := HK.out.trans (hq.out.mono HK.out.size)
        clear hq H22 HK
        go_wp2_with fail
        go_roundw
        case rel => exact ⟨k + 1, by omega, by go_num, HK2⟩
        case measure => simp [intOf]; omega
      · have g1 : ¬ (k : Int) < (L : Int) := by omega
        go_wp2_with fail
        go_ret
        exact ⟨rfl, (HG.out wr HK.out).2⟩
  · have HO : Hid ((w9.alloc (.cells #[] 60)).ownsRow w9.heap.size 60 2 (.slice (some ⟨w9.heap.size, 0, none⟩) 0 0) 0 []) := ⟨rfl, .inr ⟨w9.heap.size, 0, #[], rfl, Nat.le_refl _, heap_alloc_new w9 _, Nat.le_refl _, by simp, rfl, rfl⟩⟩
    have HW : Hid (Below w9.heap.size w9 (w9.alloc (.cells #[] 60))) := below_alloc _ _
    have HN : Hid (nl = 0 ∨ ∃ ad, q6 = some ad ∧ ∀ j u, (flatN un)[j]? = some u → (w9.alloc (.cells #[] 60)).cell? (ad.add j) = some u) := newsN_of HB9.out.1 HW.out
    have HF : Hid ((flatN un).length = nl * 2 ∧ (flatN gn).length = 0 * 2) := ⟨hfu, hfg⟩
    clear hfu hfg
    go_wp2_with (at_builtin; refine wpList_append_any _ rfl _ _ 31 rfl w9.heap.size 60 iN (.agg #[.int .i64 0, .int .i64 0]) 2 16 Tryz.underlying31 hiN hzN hsN hbyN rfl (by decide) _ _ _ rfl HO.out q6 nl c6 (flatN un) rfl HF.out.1 HN.out (flatN_one un) (by unfold maxLen; omega) (by omega) (by simp) ?_)
    intro qa qc wa hown hgr
    have H2 : Hid (wa.ownsRow w9.heap.size 60 2 (.slice qa nl qc) nl (flatN un) ∧ Below w9.heap.size w9 wa) := by
      refine ⟨hown, HW.out.grown hgr (by simp) (fun g hg => (HO.out.lt g hg).1)⟩
    clear hown hgr HO HW HN
    have HN : Hid (0 = 0 ∨ ∃ ad, q8 = some ad ∧ ∀ j u, (flatN gn)[j]? = some u → wa.cell? (ad.add j) = some u) := newsN_of HB9.out.2.1 H2.out.2
    go_wp2_with (at_builtin; refine wpList_append_any _ rfl _ _ 31 rfl w9.heap.size 60 iN (.agg #[.int .i64 0, .int .i64 0]) 2 16 Tryz.underlying31 hiN hzN hsN hbyN rfl (by decide) _ _ _ rfl H2.out.1 q8 0 c8 (flatN gn) rfl HF.out.2 HN.out (flatN_one gn) (by unfold maxLen; omega) (by omega) H2.out.2.size ?_)
    intro qb qd wb hown hgr
    obtain ⟨L, hL⟩ : ∃ L, nl = L := ⟨_, rfl⟩
    rw [hL] at hown ⊢
    have hLb : L ≤ 2000000000 := by omega
    have HE : Hid ((un ++ gn).length = L) := by
      show (un ++ gn).length = L
      rw [HLA.out]
      omega
    have H3 : Hid (NamesAt wb (.slice qb L qd) (un ++ gn) ∧ Below w9.heap.size w9 wb) := by
      refine ⟨?_, H2.out.2.grown hgr H2.out.2.size (fun g hg => (H2.out.1.lt g hg).1)⟩
      refine namesAt_of_owns (base := w9.heap.size) ?_ (by rw [HE.out]; unfold maxLen; omega)
      unfold OwnN
      rw [flatN_append, HE.out]
      exact hown
    clear hown hgr H2 HN hL hlu hlg HF HLA hlw
    have HG : Hid (∀ W, Below wb.heap.size wb W → Below w1.heap.size w1 W ∧ Below w.heap.size w W) := fun W h => by
      have h1 := H3.out.2.trans (h.mono H3.out.2.size)
      exact ⟨HB9.out.2.2.2.1.trans (h1.mono HB9.out.2.2.2.1.size), HB9.out.2.2.2.2.trans (h1.mono HB9.out.2.2.2.2.size)⟩
    have HWg : Hid (∀ x ∈ gn, wfN x) := HB9.out.2.2.1.1
    clear HB9
    go_wp2_with fail
    go_loopw [22] (fun iv wr => ∃ k : Nat, k ≤ L ∧ iv = .int .i64 k ∧ Hid (Below wb.heap.size wb wr)) (fun iv _ => L - (intOf iv).toNat)
    case atStart => exact ⟨0, Nat.zero_le _, rfl, Below.refl _ _⟩
    case round =>
      obtain ⟨k, hk, rfl, HK⟩ := hrel
      by_cases hlt : k < L
      · have g1 : (k : Int) < (L : Int) := by omega
        have g0 : (0 : Int) ≤ (k : Int) := by omega
        obtain ⟨bb, oo, x, hqb, hx, p0, p1⟩ : ∃ bb oo x, qb = some ⟨bb, oo, none⟩ ∧ Hid (wfN x ∧ (x ∈ un ∨ x ∈ gn)) ∧ wr.cell? ⟨bb, oo + k * 2, none⟩ = some (.int .i64 x.1) ∧ wr.cell? ⟨bb, oo + k * 2 + 1, none⟩ = some (.int .i64 x.2) := by
          obtain ⟨h1, _⟩ := H3.out
          have hlt' : k < (un ++ gn).length := by have := HE.out; omega
          have hm : (un ++ gn)[k] ∈ un ++ gn := List.getElem_mem hlt'
          rcases (h1.below HK.out).2 with ⟨e, _⟩ | ⟨b', o', c', e, h3, h4⟩
          · rw [e] at hlt'; simp at hlt'
          · simp only [Value.slice.injEq] at e
            obtain ⟨c1, c2⟩ := name_cells h3 k hlt'
            refine ⟨b', o', (un ++ gn)[k], e.1, ⟨?_, List.mem_append.1 hm⟩, c1, c2⟩
            rcases List.mem_append.1 hm with hm | hm
            · exact HWu.out _ hm
            · exact HWg.out _ hm
        subst hqb
        have H22 := HV.out wr x (HG.out wr HK.out).1 hx.out.1 hx.out.2
        obtain ⟨x1, x2⟩ := x
        clear hx
        dsimp only at p0 p1 H22
        go_wp2_with fail
        refine H22.mono ?_
        rintro e wq ⟨rfl, hq⟩
        have HK2 : Hid (Below wb.heap.size wb wq) := HK.out.trans (hq.out.mono HK.out.size)
        clear hq H22 HK
        go_wp2_with fail
        go_roundw
        case rel => exact ⟨k + 1, by omega, by go_num, HK2⟩
        case measure => simp [intOf]; omega
      · have g1 : ¬ (k : Int) < (L : Int) := by omega
        go_wp2_with fail
        go_ret
        exact ⟨rfl, (HG.out wr HK.out).2⟩
  · have HO : Hid ((w9.alloc (.cells #[] 60)).ownsRow w9.heap.size 60 2 (.slice (some ⟨w9.heap.size, 0, none⟩) 0 0) 0 []) := ⟨rfl, .inr ⟨w9.heap.size, 0, #[], rfl, Nat.le_refl _, heap_alloc_new w9 _, Nat.le_refl _, by simp, rfl, rfl⟩⟩
    have HW : Hid (Below w9.heap.size w9 (w9.alloc (.cells #[] 60))) := below_alloc _ _
    have HN : Hid (nl = 0 ∨ ∃ ad, q6 = some ad ∧ ∀ j u, (flatN un)[j]? = some u → (w9.alloc (.cells #[] 60)).cell? (ad.add j) = some u) := newsN_of HB9.out.1 HW.out
    have HF : Hid ((flatN un).length = nl * 2 ∧ (flatN gn).length = 0 * 2) := ⟨hfu, hfg⟩
    clear hfu hfg
    go_wp2_with (at_builtin; refine wpList_append_any _ rfl _ _ 31 rfl w9.heap.size 60 iN (.agg #[.int .i64 0, .int .i64 0]) 2 16 Tryz.underlying31 hiN hzN hsN hbyN rfl (by decide) _ _ _ rfl HO.out q6 nl c6 (flatN un) rfl HF.out.1 HN.out (flatN_one un) (by unfold maxLen; omega) (by omega) (by simp) ?_)
    intro qa qc wa hown hgr
    have H2 : Hid (wa.ownsRow w9.heap.size 60 2 (.slice qa nl qc) nl (flatN un) ∧ Below w9.heap.size w9 wa) := by
      refine ⟨hown, HW.out.grown hgr (by simp) (fun g hg => (HO.out.lt g hg).1)⟩
    clear hown hgr HO HW HN
    have HN : Hid (0 = 0 ∨ ∃ ad, q8 = some ad ∧ ∀ j u, (flatN gn)[j]? = some u → wa.cell? (ad.add j) = some u) := newsN_of HB9.out.2.1 H2.out.2
    go_wp2_with (at_builtin; refine wpList_append_any _ rfl _ _ 31 rfl w9.heap.size 60 iN (.agg #[.int .i64 0, .int .i64 0]) 2 16 Tryz.underlying31 hiN hzN hsN hbyN rfl (by decide) _ _ _ rfl H2.out.1 q8 0 c8 (flatN gn) rfl HF.out.2 HN.out (flatN_one gn) (by unfold maxLen; omega) (by omega) H2.out.2.size ?_)
    intro qb qd wb hown hgr
    obtain ⟨L, hL⟩ : ∃ L, nl = L := ⟨_, rfl⟩
    rw [hL] at hown ⊢
    have hLb : L ≤ 2000000000 := by omega
    have HE : Hid ((un ++ gn).length = L) := by
      show (un ++ gn).length = L
      rw [HLA.out]
      omega
    have H3 : Hid (NamesAt wb (.slice qb L qd) (un ++ gn) ∧ Below w9.heap.size w9 wb) := by
      refine ⟨?_, H2.out.2.grown hgr H2.out.2.size (fun g hg => (H2.out.1.lt g hg).1)⟩
      refine namesAt_of_owns (base := w9.heap.size) ?_ (by rw [HE.out]; unfold maxLen; omega)
      unfold OwnN
      rw [flatN_append, HE.out]
      exact hown
    clear hown hgr H2 HN hL hlu hlg HF HLA hlw
    have HG : Hid (∀ W, Below wb.heap.size wb W → Below w1.heap.size w1 W ∧ Below w.heap.size w W) := fun W h => by
      have h1 := H3.out.2.trans (h.mono H3.out.2.size)
      exact ⟨HB9.out.2.2.2.1.trans (h1.mono HB9.out.2.2.2.1.size), HB9.out.2.2.2.2.trans (h1.mono HB9.out.2.2.2.2.size)⟩
    have HWg : Hid (∀ x ∈ gn, wfN x) := HB9.out.2.2.1.1
    clear HB9
    go_wp2_with fail
    go_loopw [22] (fun iv wr => ∃ k : Nat, k ≤ L ∧ iv = .int .i64 k ∧ Hid (Below wb.heap.size wb wr)) (fun iv _ => L - (intOf iv).toNat)
    case atStart => exact ⟨0, Nat.zero_le _, rfl, Below.refl _ _⟩
    case round =>
      obtain ⟨k, hk, rfl, HK⟩ := hrel
      by_cases hlt : k < L
      · have g1 : (k : Int) < (L : Int) := by omega
        have g0 : (0 : Int) ≤ (k : Int) := by omega
        obtain ⟨bb, oo, x, hqb, hx, p0, p1⟩ : ∃ bb oo x, qb = some ⟨bb, oo, none⟩ ∧ Hid (wfN x ∧ (x ∈ un ∨ x ∈ gn)) ∧ wr.cell? ⟨bb, oo + k * 2, none⟩ = some (.int .i64 x.1) ∧ wr.cell? ⟨bb, oo + k * 2 + 1, none⟩ = some (.int .i64 x.2) := by
          obtain ⟨h1, _⟩ := H3.out
          have hlt' : k < (un ++ gn).length := by have := HE.out; omega
          have hm : (un ++ gn)[k] ∈ un ++ gn := List.getElem_mem hlt'
          rcases (h1.below HK.out).2 with ⟨e, _⟩ | ⟨b', o', c', e, h3, h4⟩
          · rw [e] at hlt'; simp at hlt'
          · simp only [Value.slice.injEq] at e
            obtain ⟨c1, c2⟩ := name_cells h3 k hlt'
            refine ⟨b', o', (un ++ gn)[k], e.1, ⟨?_, List.mem_append.1 hm⟩, c1, c2⟩
            rcases List.mem_append.1 hm with hm | hm
            · exact HWu.out _ hm
            · exact HWg.out _ hm
        subst hqb
        have H22 := HV.out wr x (HG.out wr HK.out).1 hx.out.1 hx.out.2
        obtain ⟨x1, x2⟩ := x
        clear hx
        dsimp only at p0 p1 H22
        go_wp2_with fail
        refine H22.mono ?_
        rintro e wq ⟨rfl, hq⟩
        have HK2 : Hid (Below wb.heap.size wb wq) := HK.out.trans (hq.out.mono HK.out.size)
        clear hq H22 HK
        go_wp2_with fail
        go_roundw
        case rel => exact ⟨k + 1, by omega, by go_num, HK2⟩
        case measure => simp [intOf]; omega
      · have g1 : ¬ (k : Int) < (L : Int) := by omega
        go_wp2_with fail
        go_ret
        exact ⟨rfl, (HG.out wr HK.out).2⟩
  · have HO : Hid ((w9.alloc (.cells #[] 60)).ownsRow w9.heap.size 60 2 (.slice (some ⟨w9.heap.size, 0, none⟩) 0 0) 0 []) := ⟨rfl, .inr ⟨w9.heap.size, 0, #[], rfl, Nat.le_refl _, heap_alloc_new w9 _, Nat.le_refl _, by simp, rfl, rfl⟩⟩
    have HW : Hid (Below w9.heap.size w9 (w9.alloc (.cells #[] 60))) := below_alloc _ _
    have HN : Hid (0 = 0 ∨ ∃ ad, q6 = some ad ∧ ∀ j u, (flatN un)[j]? = some u → (w9.alloc (.cells #[] 60)).cell? (ad.add j) = some u) := newsN_of HB9.out.1 HW.out
    have HF : Hid ((flatN un).length = 0 * 2 ∧ (flatN gn).length = gl * 2) := ⟨hfu, hfg⟩
    clear hfu hfg
    go_wp2_with (at_builtin; refine wpList_append_any _ rfl _ _ 31 rfl w9.heap.size 60 iN (.agg #[.int .i64 0, .int .i64 0]) 2 16 Tryz.underlying31 hiN hzN hsN hbyN rfl (by decide) _ _ _ rfl HO.out q6 0 c6 (flatN un) rfl HF.out.1 HN.out (flatN_one un) (by unfold maxLen; omega) (by omega) (by simp) ?_)
    intro qa qc wa hown hgr
    have H2 : Hid (wa.ownsRow w9.heap.size 60 2 (.slice qa 0 qc) 0 (flatN un) ∧ Below w9.heap.size w9 wa) := by
      refine ⟨hown, HW.out.grown hgr (by simp) (fun g hg => (HO.out.lt g hg).1)⟩
    clear hown hgr HO HW HN
    have HN : Hid (gl = 0 ∨ ∃ ad, q8 = some ad ∧ ∀ j u, (flatN gn)[j]? = some u → wa.cell? (ad.add j) = some u) := newsN_of HB9.out.2.1 H2.out.2
    go_wp2_with (at_builtin; refine wpList_append_any _ rfl _ _ 31 rfl w9.heap.size 60 iN (.agg #[.int .i64 0, .int .i64 0]) 2 16 Tryz.underlying31 hiN hzN hsN hbyN rfl (by decide) _ _ _ rfl H2.out.1 q8 gl c8 (flatN gn) rfl HF.out.2 HN.out (flatN_one gn) (by unfold maxLen; omega) (by omega) H2.out.2.size ?_)
    intro qb qd wb hown hgr
    obtain ⟨L, hL⟩ : ∃ L, gl = L := ⟨_, rfl⟩
    rw [hL] at hown ⊢
    have hLb : L ≤ 2000000000 := by omega
    have HE : Hid ((un ++ gn).length = L) := by
      show (un ++ gn).length = L
      rw [HLA.out]
      omega
    have H3 : Hid (NamesAt wb (.slice qb L qd) (un ++ gn) ∧ Below w9.heap.size w9 wb) := by
      refine ⟨?_, H2.out.2.grown hgr H2.out.2.size (fun g hg => (H2.out.1.lt g hg).1)⟩
      refine namesAt_of_owns (base := w9.heap.size) ?_ (by rw [HE.out]; unfold maxLen; omega)
      unfold OwnN
      rw [flatN_append, HE.out]
      exact hown
    clear hown hgr H2 HN hL hlu hlg HF HLA hlx
    have HG : Hid (∀ W, Below wb.heap.size wb W → Below w1.heap.size w1 W ∧ Below w.heap.size w W) := fun W h => by
      have h1 := H3.out.2.trans (h.mono H3.out.2.size)
      exact ⟨HB9.out.2.2.2.1.trans (h1.mono HB9.out.2.2.2.1.size), HB9.out.2.2.2.2.trans (h1.mono HB9.out.2.2.2.2.size)⟩
    have HWg : Hid (∀ x ∈ gn, wfN x) := HB9.out.2.2.1.1
    clear HB9
    go_wp2_with fail
    go_loopw [22] (fun iv wr => ∃ k : Nat, k ≤ L ∧ iv = .int .i64 k ∧ Hid (Below wb.heap.size wb wr)) (fun iv _ => L - (intOf iv).toNat)
    case atStart => exact ⟨0, Nat.zero_le _, rfl, Below.refl _ _⟩
    case round =>
      obtain ⟨k, hk, rfl, HK⟩ := hrel
      by_cases hlt : k < L
      · have g1 : (k : Int) < (L : Int) := by omega
        have g0 : (0 : Int) ≤ (k : Int) := by omega
        obtain ⟨bb, oo, x, hqb, hx, p0, p1⟩ : ∃ bb oo x, qb = some ⟨bb, oo, none⟩ ∧ Hid (wfN x ∧ (x ∈ un ∨ x ∈ gn)) ∧ wr.cell? ⟨bb, oo + k * 2, none⟩ = some (.int .i64 x.1) ∧ wr.cell? ⟨bb, oo + k * 2 + 1, none⟩ = some (.int .i64 x.2) := by
          obtain ⟨h1, _⟩ := H3.out
          have hlt' : k < (un ++ gn).length := by have := HE.out; omega
          have hm : (un ++ gn)[k] ∈ un ++ gn := List.getElem_mem hlt'
          rcases (h1.below HK.out).2 with ⟨e, _⟩ | ⟨b', o', c', e, h3, h4⟩
          · rw [e] at hlt'; simp at hlt'
          · simp only [Value.slice.injEq] at e
            obtain ⟨c1, c2⟩ := name_cells h3 k hlt'
            refine ⟨b', o', (un ++ gn)[k], e.1, ⟨?_, List.mem_append.1 hm⟩, c1, c2⟩
            rcases List.mem_append.1 hm with hm | hm
            · exact HWu.out _ hm
            · exact HWg.out _ hm
        subst hqb
        have H22 := HV.out wr x (HG.out wr HK.out).1 hx.out.1 hx.out.2
        obtain ⟨x1, x2⟩ := x
        clear hx
        dsimp only at p0 p1 H22
        go_wp2_with fail
        refine H22.mono ?_
        rintro e wq ⟨rfl, hq⟩
        have HK2 : Hid (Below wb.heap.size wb wq) := HK.out.trans (hq.out.mono HK.out.size)
        clear hq H22 HK
        go_wp2_with fail
        go_roundw
        case rel => exact ⟨k + 1, by omega, by go_num, HK2⟩
        case measure => simp [intOf]; omega
      · have g1 : ¬ (k : Int) < (L : Int) := by omega
        go_wp2_with fail
        go_ret
        exact ⟨rfl, (HG.out wr HK.out).2⟩
  · have HO : Hid ((w9.alloc (.cells #[] 60)).ownsRow w9.heap.size 60 2 (.slice (some ⟨w9.heap.size, 0, none⟩) 0 0) 0 []) := ⟨rfl, .inr ⟨w9.heap.size, 0, #[], rfl, Nat.le_refl _, heap_alloc_new w9 _, Nat.le_refl _, by simp, rfl, rfl⟩⟩
    have HW : Hid (Below w9.heap.size w9 (w9.alloc (.cells #[] 60))) := below_alloc _ _
    have HN : Hid (0 = 0 ∨ ∃ ad, q6 = some ad ∧ ∀ j u, (flatN un)[j]? = some u → (w9.alloc (.cells #[] 60)).cell? (ad.add j) = some u) := newsN_of HB9.out.1 HW.out
    have HF : Hid ((flatN un).length = 0 * 2 ∧ (flatN gn).length = 0 * 2) := ⟨hfu, hfg⟩
    clear hfu hfg
    go_wp2_with (at_builtin; refine wpList_append_any _ rfl _ _ 31 rfl w9.heap.size 60 iN (.agg #[.int .i64 0, .int .i64 0]) 2 16 Tryz.underlying31 hiN hzN hsN hbyN rfl (by decide) _ _ _ rfl HO.out q6 0 c6 (flatN un) rfl HF.out.1 HN.out (flatN_one un) (by unfold maxLen; omega) (by omega) (by simp) ?_)
    intro qa qc wa hown hgr
    have H2 : Hid (wa.ownsRow w9.heap.size 60 2 (.slice qa 0 qc) 0 (flatN un) ∧ Below w9.heap.size w9 wa) := by
      refine ⟨hown, HW.out.grown hgr (by simp) (fun g hg => (HO.out.lt g hg).1)⟩
    clear hown hgr HO HW HN
    have HN : Hid (0 = 0 ∨ ∃ ad, q8 = some ad ∧ ∀ j u, (flatN gn)[j]? = some u → wa.cell? (ad.add j) = some u) := newsN_of HB9.out.2.1 H2.out.2
    go_wp2_with (at_builtin; refine wpList_append_any _ rfl _ _ 31 rfl w9.heap.size 60 iN (.agg #[.int .i64 0, .int .i64 0]) 2 16 Tryz.underlying31 hiN hzN hsN hbyN rfl (by decide) _ _ _ rfl H2.out.1 q8 0 c8 (flatN gn) rfl HF.out.2 HN.out (flatN_one gn) (by unfold maxLen; omega) (by omega) H2.out.2.size ?_)
    intro qb qd wb hown hgr
    have HE : Hid ((un ++ gn).length = 0) := by
      show (un ++ gn).length = 0
      rw [HLA.out]
    have H3 : Hid (NamesAt wb (.slice qb 0 qd) (un ++ gn) ∧ Below w9.heap.size w9 wb) := by
      refine ⟨?_, H2.out.2.grown hgr H2.out.2.size (fun g hg => (H2.out.1.lt g hg).1)⟩
      refine namesAt_of_owns (base := w9.heap.size) ?_ (by rw [HE.out]; unfold maxLen; omega)
      unfold OwnN
      rw [flatN_append, HE.out]
      exact hown
    clear hown hgr H2 HN hlu hlg HF HLA
    have HG : Hid (∀ W, Below wb.heap.size wb W → Below w1.heap.size w1 W ∧ Below w.heap.size w W) := fun W h => by
      have h1 := H3.out.2.trans (h.mono H3.out.2.size)
      exact ⟨HB9.out.2.2.2.1.trans (h1.mono HB9.out.2.2.2.1.size), HB9.out.2.2.2.2.trans (h1.mono HB9.out.2.2.2.2.size)⟩
    have HWg : Hid (∀ x ∈ gn, wfN x) := HB9.out.2.2.1.1
    clear HB9
    go_wp2_with fail
    go_loopw [22] (fun iv wr => iv = .int .i64 0 ∧ Hid (Below wb.heap.size wb wr)) (fun _ _ => 0)
    case atStart => exact ⟨rfl, Below.refl _ _⟩
    case round =>
      obtain ⟨rfl, HK⟩ := hrel
      go_wp2_with fail
      go_ret
      exact ⟨rfl, (HG.out wr HK.out).2⟩
  · have HO : Hid ((w9.alloc (.cells #[] 60)).ownsRow w9.heap.size 60 2 (.slice (some ⟨w9.heap.size, 0, none⟩) 0 0) 0 []) := ⟨rfl, .inr ⟨w9.heap.size, 0, #[], rfl, Nat.le_refl _, heap_alloc_new w9 _, Nat.le_refl _, by simp, rfl, rfl⟩⟩
    have HW : Hid (Below w9.heap.size w9 (w9.alloc (.cells #[] 60))) := below_alloc _ _
    have HN : Hid (0 = 0 ∨ ∃ ad, q6 = some ad ∧ ∀ j u, (flatN un)[j]? = some u → (w9.alloc (.cells #[] 60)).cell? (ad.add j) = some u) := newsN_of HB9.out.1 HW.out
    have HF : Hid ((flatN un).length = 0 * 2 ∧ (flatN gn).length = 0 * 2) := ⟨hfu, hfg⟩
    clear hfu hfg
    go_wp2_with (at_builtin; refine wpList_append_any _ rfl _ _ 31 rfl w9.heap.size 60 iN (.agg #[.int .i64 0, .int .i64 0]) 2 16 Tryz.underlying31 hiN hzN hsN hbyN rfl (by decide) _ _ _ rfl HO.out q6 0 c6 (flatN un) rfl HF.out.1 HN.out (flatN_one un) (by unfold maxLen; omega) (by omega) (by simp) ?_)
    intro qa qc wa hown hgr
    have H2 : Hid (wa.ownsRow w9.heap.size 60 2 (.slice qa 0 qc) 0 (flatN un) ∧ Below w9.heap.size w9 wa) := by
      refine ⟨hown, HW.out.grown hgr (by simp) (fun g hg => (HO.out.lt g hg).1)⟩
    clear hown hgr HO HW HN
    have HN : Hid (0 = 0 ∨ ∃ ad, q8 = some ad ∧ ∀ j u, (flatN gn)[j]? = some u → wa.cell? (ad.add j) = some u) := newsN_of HB9.out.2.1 H2.out.2
    go_wp2_with (at_builtin; refine wpList_append_any _ rfl _ _ 31 rfl w9.heap.size 60 iN (.agg #[.int .i64 0, .int .i64 0]) 2 16 Tryz.underlying31 hiN hzN hsN hbyN rfl (by decide) _ _ _ rfl H2.out.1 q8 0 c8 (flatN gn) rfl HF.out.2 HN.out (flatN_one gn) (by unfold maxLen; omega) (by omega) H2.out.2.size ?_)
    intro qb qd wb hown hgr
    have HE : Hid ((un ++ gn).length = 0) := by
      show (un ++ gn).length = 0
      rw [HLA.out]
    have H3 : Hid (NamesAt wb (.slice qb 0 qd) (un ++ gn) ∧ Below w9.heap.size w9 wb) := by
      refine ⟨?_, H2.out.2.grown hgr H2.out.2.size (fun g hg => (H2.out.1.lt g hg).1)⟩
      refine namesAt_of_owns (base := w9.heap.size) ?_ (by rw [HE.out]; unfold maxLen; omega)
      unfold OwnN
      rw [flatN_append, HE.out]
      exact hown
    clear hown hgr H2 HN hlu hlg HF HLA
    have HG : Hid (∀ W, Below wb.heap.size wb W → Below w1.heap.size w1 W ∧ Below w.heap.size w W) := fun W h => by
      have h1 := H3.out.2.trans (h.mono H3.out.2.size)
      exact ⟨HB9.out.2.2.2.1.trans (h1.mono HB9.out.2.2.2.1.size), HB9.out.2.2.2.2.trans (h1.mono HB9.out.2.2.2.2.size)⟩
    have HWg : Hid (∀ x ∈ gn, wfN x) := HB9.out.2.2.1.1
    clear HB9
    go_wp2_with fail
    go_loopw [22] (fun iv wr => iv = .int .i64 0 ∧ Hid (Below wb.heap.size wb wr)) (fun _ _ => 0)
    case atStart => exact ⟨rfl, Below.refl _ _⟩
    case round =>
      obtain ⟨rfl, HK⟩ := hrel
      go_wp2_with fail
      go_ret
      exact ⟨rfl, (HG.out wr HK.out).2⟩
  · have HO : Hid ((w9.alloc (.cells #[] 60)).ownsRow w9.heap.size 60 2 (.slice (some ⟨w9.heap.size, 0, none⟩) 0 0) 0 []) := ⟨rfl, .inr ⟨w9.heap.size, 0, #[], rfl, Nat.le_refl _, heap_alloc_new w9 _, Nat.le_refl _, by simp, rfl, rfl⟩⟩
    have HW : Hid (Below w9.heap.size w9 (w9.alloc (.cells #[] 60))) := below_alloc _ _
    have HN : Hid (0 = 0 ∨ ∃ ad, q6 = some ad ∧ ∀ j u, (flatN un)[j]? = some u → (w9.alloc (.cells #[] 60)).cell? (ad.add j) = some u) := newsN_of HB9.out.1 HW.out
    have HF : Hid ((flatN un).length = 0 * 2 ∧ (flatN gn).length = gl * 2) := ⟨hfu, hfg⟩
    clear hfu hfg
    go_wp2_with (at_builtin; refine wpList_append_any _ rfl _ _ 31 rfl w9.heap.size 60 iN (.agg #[.int .i64 0, .int .i64 0]) 2 16 Tryz.underlying31 hiN hzN hsN hbyN rfl (by decide) _ _ _ rfl HO.out q6 0 c6 (flatN un) rfl HF.out.1 HN.out (flatN_one un) (by unfold maxLen; omega) (by omega) (by simp) ?_)
    intro qa qc wa hown hgr
    have H2 : Hid (wa.ownsRow w9.heap.size 60 2 (.slice qa 0 qc) 0 (flatN un) ∧ Below w9.heap.size w9 wa) := by
      refine ⟨hown, HW.out.grown hgr (by simp) (fun g hg => (HO.out.lt g hg).1)⟩
    clear hown hgr HO HW HN
    have HN : Hid (gl = 0 ∨ ∃ ad, q8 = some ad ∧ ∀ j u, (flatN gn)[j]? = some u → wa.cell? (ad.add j) = some u) := newsN_of HB9.out.2.1 H2.out.2
    go_wp2_with (at_builtin; refine wpList_append_any _ rfl _ _ 31 rfl w9.heap.size 60 iN (.agg #[.int .i64 0, .int .i64 0]) 2 16 Tryz.underlying31 hiN hzN hsN hbyN rfl (by decide) _ _ _ rfl H2.out.1 q8 gl c8 (flatN gn) rfl HF.out.2 HN.out (flatN_one gn) (by unfold maxLen; omega) (by omega) H2.out.2.size ?_)
    intro qb qd wb hown hgr
    obtain ⟨L, hL⟩ : ∃ L, gl = L := ⟨_, rfl⟩
    rw [hL] at hown ⊢
    have hLb : L ≤ 2000000000 := by omega
    have HE : Hid ((un ++ gn).length = L) := by
      show (un ++ gn).length = L
      rw [HLA.out]
      omega
    have H3 : Hid (NamesAt wb (.slice qb L qd) (un ++ gn) ∧ Below w9.heap.size w9 wb) := by
      refine ⟨?_, H2.out.2.grown hgr H2.out.2.size (fun g hg => (H2.out.1.lt g hg).1)⟩
      refine namesAt_of_owns (base := w9.heap.size) ?_ (by rw [HE.out]; unfold maxLen; omega)
      unfold OwnN
      rw [flatN_append, HE.out]
      exact hown
    clear hown hgr H2 HN hL hlu hlg HF HLA hlx
    have HG : Hid (∀ W, Below wb.heap.size wb W → Below w1.heap.size w1 W ∧ Below w.heap.size w W) := fun W h => by
      have h1 := H3.out.2.trans (h.mono H3.out.2.size)
      exact ⟨HB9.out.2.2.2.1.trans (h1.mono HB9.out.2.2.2.1.size), HB9.out.2.2.2.2.trans (h1.mono HB9.out.2.2.2.2.size)⟩
    have HWg : Hid (∀ x ∈ gn, wfN x) := HB9.out.2.2.1.1
    clear HB9
    go_wp2_with fail
    go_loopw [22] (fun iv wr => ∃ k : Nat, k ≤ L ∧ iv = .int .i64 k ∧ Hid (Below wb.heap.size wb wr)) (fun iv _ => L - (intOf iv).toNat)
    case atStart => exact ⟨0, Nat.zero_le _, rfl, Below.refl _ _⟩
    case round =>
      obtain ⟨k, hk, rfl, HK⟩ := hrel
      by_cases hlt : k < L
      · have g1 : (k : Int) < (L : Int) := by omega
        have g0 : (0 : Int) ≤ (k : Int) := by omega
        obtain ⟨bb, oo, x, hqb, hx, p0, p1⟩ : ∃ bb oo x, qb = some ⟨bb, oo, none⟩ ∧ Hid (wfN x ∧ (x ∈ un ∨ x ∈ gn)) ∧ wr.cell? ⟨bb, oo + k * 2, none⟩ = some (.int .i64 x.1) ∧ wr.cell? ⟨bb, oo + k * 2 + 1, none⟩ = some (.int .i64 x.2) := by
          obtain ⟨h1, _⟩ := H3.out
          have hlt' : k < (un ++ gn).length := by have := HE.out; omega
          have hm : (un ++ gn)[k] ∈ un ++ gn := List.getElem_mem hlt'
          rcases (h1.below HK.out).2 with ⟨e, _⟩ | ⟨b', o', c', e, h3, h4⟩
          · rw [e] at hlt'; simp at hlt'
          · simp only [Value.slice.injEq] at e
            obtain ⟨c1, c2⟩ := name_cells h3 k hlt'
            refine ⟨b', o', (un ++ gn)[k], e.1, ⟨?_, List.mem_append.1 hm⟩, c1, c2⟩
            rcases List.mem_append.1 hm with hm | hm
            · exact HWu.out _ hm
            · exact HWg.out _ hm
        subst hqb
        have H22 := HV.out wr x (HG.out wr HK.out).1 hx.out.1 hx.out.2
        obtain ⟨x1, x2⟩ := x
        clear hx
        dsimp only at p0 p1 H22
        go_wp2_with fail
        refine H22.mono ?_
        rintro e wq ⟨rfl, hq⟩
        have HK2 : Hid (Below wb.heap.size wb wq) := HK.out.trans (hq.out.mono HK.out.size)
        clear hq H22 HK
        go_wp2_with fail
        go_roundw
        case rel => exact ⟨k + 1, by omega, by go_num, HK2⟩
        case measure => simp [intOf]; omega
      · have g1 : ¬ (k : Int) < (L : Int) := by omega
        go_wp2_with fail
        go_ret
        exact ⟨rfl, (HG.out wr HK.out).2⟩
  · have HO : Hid ((w9.alloc (.cells #[] 60)).ownsRow w9.heap.size 60 2 (.slice (some ⟨w9.heap.size, 0, none⟩) 0 0) 0 []) := ⟨rfl, .inr ⟨w9.heap.size, 0, #[], rfl, Nat.le_refl _, heap_alloc_new w9 _, Nat.le_refl _, by simp, rfl, rfl⟩⟩
    have HW : Hid (Below w9.heap.size w9 (w9.alloc (.cells #[] 60))) := below_alloc _ _
    have HN : Hid (0 = 0 ∨ ∃ ad, q6 = some ad ∧ ∀ j u, (flatN un)[j]? = some u → (w9.alloc (.cells #[] 60)).cell? (ad.add j) = some u) := newsN_of HB9.out.1 HW.out
    have HF : Hid ((flatN un).length = 0 * 2 ∧ (flatN gn).length = 0 * 2) := ⟨hfu, hfg⟩
    clear hfu hfg
    go_wp2_with (at_builtin; refine wpList_append_any _ rfl _ _ 31 rfl w9.heap.size 60 iN (.agg #[.int .i64 0, .int .i64 0]) 2 16 Tryz.underlying31 hiN hzN hsN hbyN rfl (by decide) _ _ _ rfl HO.out q6 0 c6 (flatN un) rfl HF.out.1 HN.out (flatN_one un) (by unfold maxLen; omega) (by omega) (by simp) ?_)
    intro qa qc wa hown hgr
    have H2 : Hid (wa.ownsRow w9.heap.size 60 2 (.slice qa 0 qc) 0 (flatN un) ∧ Below w9.heap.size w9 wa) := by
      refine ⟨hown, HW.out.grown hgr (by simp) (fun g hg => (HO.out.lt g hg).1)⟩
    clear hown hgr HO HW HN
    have HN : Hid (0 = 0 ∨ ∃ ad, q8 = some ad ∧ ∀ j u, (flatN gn)[j]? = some u → wa.cell? (ad.add j) = some u) := newsN_of HB9.out.2.1 H2.out.2
    go_wp2_with (at_builtin; refine wpList_append_any _ rfl _ _ 31 rfl w9.heap.size 60 iN (.agg #[.int .i64 0, .int .i64 0]) 2 16 Tryz.underlying31 hiN hzN hsN hbyN rfl (by decide) _ _ _ rfl H2.out.1 q8 0 c8 (flatN gn) rfl HF.out.2 HN.out (flatN_one gn) (by unfold maxLen; omega) (by omega) H2.out.2.size ?_)
    intro qb qd wb hown hgr
    have HE : Hid ((un ++ gn).length = 0) := by
      show (un ++ gn).length = 0
      rw [HLA.out]
    have H3 : Hid (NamesAt wb (.slice qb 0 qd) (un ++ gn) ∧ Below w9.heap.size w9 wb) := by
      refine ⟨?_, H2.out.2.grown hgr H2.out.2.size (fun g hg => (H2.out.1.lt g hg).1)⟩
      refine namesAt_of_owns (base := w9.heap.size) ?_ (by rw [HE.out]; unfold maxLen; omega)
      unfold OwnN
      rw [flatN_append, HE.out]
      exact hown
    clear hown hgr H2 HN hlu hlg HF HLA
    have HG : Hid (∀ W, Below wb.heap.size wb W → Below w1.heap.size w1 W ∧ Below w.heap.size w W) := fun W h => by
      have h1 := H3.out.2.trans (h.mono H3.out.2.size)
      exact ⟨HB9.out.2.2.2.1.trans (h1.mono HB9.out.2.2.2.1.size), HB9.out.2.2.2.2.trans (h1.mono HB9.out.2.2.2.2.size)⟩
    have HWg : Hid (∀ x ∈ gn, wfN x) := HB9.out.2.2.1.1
    clear HB9
    go_wp2_with fail
    go_loopw [22] (fun iv wr => iv = .int .i64 0 ∧ Hid (Below wb.heap.size wb wr)) (fun _ _ => 0)
    case atStart => exact ⟨rfl, Below.refl _ _⟩
    case round =>
      obtain ⟨rfl, HK⟩ := hrel
      go_wp2_with fail
      go_ret
      exact ⟨rfl, (HG.out wr HK.out).2⟩
  · have HO : Hid ((w9.alloc (.cells #[] 60)).ownsRow w9.heap.size 60 2 (.slice (some ⟨w9.heap.size, 0, none⟩) 0 0) 0 []) := ⟨rfl, .inr ⟨w9.heap.size, 0, #[], rfl, Nat.le_refl _, heap_alloc_new w9 _, Nat.le_refl _, by simp, rfl, rfl⟩⟩
    have HW : Hid (Below w9.heap.size w9 (w9.alloc (.cells #[] 60))) := below_alloc _ _
    have HN : Hid (0 = 0 ∨ ∃ ad, q6 = some ad ∧ ∀ j u, (flatN un)[j]? = some u → (w9.alloc (.cells #[] 60)).cell? (ad.add j) = some u) := newsN_of HB9.out.1 HW.out
    have HF : Hid ((flatN un).length = 0 * 2 ∧ (flatN gn).length = 0 * 2) := ⟨hfu, hfg⟩
    clear hfu hfg
    go_wp2_with (at_builtin; refine wpList_append_any _ rfl _ _ 31 rfl w9.heap.size 60 iN (.agg #[.int .i64 0, .int .i64 0]) 2 16 Tryz.underlying31 hiN hzN hsN hbyN rfl (by decide) _ _ _ rfl HO.out q6 0 c6 (flatN un) rfl HF.out.1 HN.out (flatN_one un) (by unfold maxLen; omega) (by omega) (by simp) ?_)
    intro qa qc wa hown hgr
    have H2 : Hid (wa.ownsRow w9.heap.size 60 2 (.slice qa 0 qc) 0 (flatN un) ∧ Below w9.heap.size w9 wa) := by
      refine ⟨hown, HW.out.grown hgr (by simp) (fun g hg => (HO.out.lt g hg).1)⟩
    clear hown hgr HO HW HN
    have HN : Hid (0 = 0 ∨ ∃ ad, q8 = some ad ∧ ∀ j u, (flatN gn)[j]? = some u → wa.cell? (ad.add j) = some u) := newsN_of HB9.out.2.1 H2.out.2
    go_wp2_with (at_builtin; refine wpList_append_any _ rfl _ _ 31 rfl w9.heap.size 60 iN (.agg #[.int .i64 0, .int .i64 0]) 2 16 Tryz.underlying31 hiN hzN hsN hbyN rfl (by decide) _ _ _ rfl H2.out.1 q8 0 c8 (flatN gn) rfl HF.out.2 HN.out (flatN_one gn) (by unfold maxLen; omega) (by omega) H2.out.2.size ?_)
    intro qb qd wb hown hgr
    have HE : Hid ((un ++ gn).length = 0) := by
      show (un ++ gn).length = 0
      rw [HLA.out]
    have H3 : Hid (NamesAt wb (.slice qb 0 qd) (un ++ gn) ∧ Below w9.heap.size w9 wb) := by
      refine ⟨?_, H2.out.2.grown hgr H2.out.2.size (fun g hg => (H2.out.1.lt g hg).1)⟩
      refine namesAt_of_owns (base := w9.heap.size) ?_ (by rw [HE.out]; unfold maxLen; omega)
      unfold OwnN
      rw [flatN_append, HE.out]
      exact hown
    clear hown hgr H2 HN hlu hlg HF HLA
    have HG : Hid (∀ W, Below wb.heap.size wb W → Below w1.heap.size w1 W ∧ Below w.heap.size w W) := fun W h => by
      have h1 := H3.out.2.trans (h.mono H3.out.2.size)
      exact ⟨HB9.out.2.2.2.1.trans (h1.mono HB9.out.2.2.2.1.size), HB9.out.2.2.2.2.trans (h1.mono HB9.out.2.2.2.2.size)⟩
    have HWg : Hid (∀ x ∈ gn, wfN x) := HB9.out.2.2.1.1
    clear HB9
    go_wp2_with fail
    go_loopw [22] (fun iv wr => iv = .int .i64 0 ∧ Hid (Below wb.heap.size wb wr)) (fun _ _ => 0)
    case atStart => exact ⟨rfl, Below.refl _ _⟩
    case round =>
      obtain ⟨rfl, HK⟩ := hrel
      go_wp2_with fail
      go_ret
      exact ⟨rfl, (HG.out wr HK.out).2⟩
end Go.Proofs.YtaehhophaaipdaaGreatDoor
