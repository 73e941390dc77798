/- Contract of the reference's Tell. -/
import Derived.Test.YtdonclnjgopmbaaPI
namespace Go.Proofs.Ytdonclnjgopmbaa
open Go.RowKit
attribute [local go_sem ↓] Go.wp_at_zero Go.wp_at_succ
/-- The rows behind Tell. -/
def telR (rs : List Rw) (v : Nm) : List Rw := if plcB rs v = true then rs.take (plcN rs v) ++ rs.drop (plcN rs v + 1) else rs
theorem telR_sub (rs : List Rw) (v : Nm) : (telR rs v).Sublist rs := by
  unfold telR
  split
  · have := (List.Sublist.refl (rs.take (plcN rs v))).append (List.drop_sublist_drop_left rs (show plcN rs v ≤ plcN rs v + 1 by omega))
    rwa [List.take_append_drop] at this
  · exact List.Sublist.refl _
theorem telR_mem (rs : List Rw) (v : Nm) (hu : UpR rs) (q : Rw) : q ∈ telR rs v ↔ q ∈ rs ∧ q.x ≠ v := by
  cases hb : plcB rs v
  · have hn := plcB_none rs v hu hb
    simp only [telR, hb, Bool.false_eq_true, if_false]
    exact ⟨fun h => ⟨h, hn q h⟩, fun h => h.1⟩
  · obtain ⟨r, er1, er2, er3, _⟩ := plcB_get rs v hb
    obtain ⟨hpl, er5⟩ := List.getElem?_eq_some_iff.1 er1
    simp only [telR, hb, if_true, List.mem_append]
    have e1 : rs = rs.take (plcN rs v) ++ (r :: rs.drop (plcN rs v + 1)) := by
      rw [← er5, ← List.drop_eq_getElem_cons hpl, List.take_append_drop]
    have hu2 : UpR (rs.take (plcN rs v) ++ (r :: rs.drop (plcN rs v + 1))) := e1 ▸ hu
    obtain ⟨_, h2, h3⟩ := List.pairwise_append.1 hu2
    have h4 := (List.pairwise_cons.1 h2).1
    have hmem : q ∈ rs ↔ q ∈ rs.take (plcN rs v) ∨ q = r ∨ q ∈ rs.drop (plcN rs v + 1) := by
      conv => lhs; rw [e1]
      simp
    rw [hmem]
    constructor
    · rintro (h | h)
      · exact ⟨.inl h, fun e => ltN_irr v (by have := h3 q h r (by simp); rw [e, er3] at this; exact this)⟩
      · exact ⟨.inr (.inr h), fun e => ltN_irr v (by have := h4 q h; rw [e, er3] at this; exact this)⟩
    · rintro ⟨h | rfl | h, hne⟩
      · exact .inl h
      · exact absurd er3 hne
      · exact .inr h
theorem rf_gn {w w' : World} {G : Nat → Prop} {rt : Nat} {rs : List Rw} {ws : List Nm} (h : RfAt w G rt rs ws) (hb : Below w.heap.size w w') : RfAt w' (Gn w G w') rt rs ws := by
  have h' := h.below hb
  obtain ⟨ra, rc, wa, wc, h1, h2, h3, h4, h5, h6⟩ := h'.ex
  refine ⟨⟨ra, rc, wa, wc, h1, h2, h3, fun g e => .inl (h4 g e), fun g e => .inl (h5 g e), h6⟩, fun r hr => ⟨(h'.lst r hr).1, fun g e => .inl ((h'.lst r hr).2 g e)⟩, ?_, h'.rlt, ?_⟩
  · rintro (e | ⟨e, _⟩)
    · exact h.grt e
    · have := h.rlt; omega
  · rintro g (e | ⟨_, e⟩)
    · exact h'.lt g e
    · exact e
/-- Behind Tell. -/
def TelTo (w : World) (G : Nat → Prop) (rt : Nat) (rs : List Rw) (ws : List Nm) (v : Nm) (z : Value) (w' : World) : Prop :=
  ∃ a n c, z = .slice a n c ∧ In w' a n (rowL rs v) ∧ RfAt w' (Gn w G w') rt (telR rs v) ws ∧ w.grownBy w' (some rt)
set_option maxRecDepth 100000 in
set_option maxHeartbeats 4000000 in
theorem o15_no (G : Nat → Prop) (rt : Nat) (rs : List Rw) (ws : List Nm) (v : Nm) (w : World) (h : RfAt w G rt rs ws) (hu : UpR rs) (hn : rs.length ≤ 1000000) (hv : plcB rs v = false) :
    Calls Try.prog 15 #[.pointer (some ⟨rt, 0, none⟩), .agg #[.int .i64 v.1, .int .i64 v.2]] w fun e w' => ∃ z, e = .returned z ∧ TelTo w G rt rs ws v z w' := by
  obtain ⟨W, hW⟩ : ∃ W, w.alloc (.cells #[.int .i64 v.1, .int .i64 v.2] 28) = W := ⟨_, rfl⟩
  obtain ⟨vb, hvb⟩ : ∃ vb, w.heap.size = vb := ⟨_, rfl⟩
  have hbW : Below w.heap.size w W := by rw [← hW]; exact (Below.refl _ w).alloc (Nat.le_refl _) _
  have hc : W.heap[vb]? = some (.cells #[.int .i64 v.1, .int .i64 v.2] 28 (0, 0)) := by rw [← hW, ← hvb]; exact heap_alloc_new w _
  obtain ⟨v0, v1⟩ := box_cells hc
  have H28 : Calls Try.prog 28 #[.pointer (some ⟨rt, 0, none⟩), .agg #[.int .i64 v.1, .int .i64 v.2]] W fun e w' => ∃ p : Nat, e = .returned (.tuple #[.int .i64 (p : Nat), .bool false]) ∧ Hid (TelTo w G rt rs ws v (.slice none 0 0) w') := by
    refine (o28 G rt rs ws v W (h.below hbW) (by omega)).mono ?_
    rintro e w' ⟨rfl, hb⟩
    rw [hv]
    have hbw : Below w.heap.size w w' := hbW.trans (hb.mono hbW.size)
    refine ⟨_, rfl, none, 0, 0, rfl, ?_, ?_, ⟨hbw.os, hbw.tape, hbw.output, hbw.size, fun k hk _ => hbw.block k hk⟩⟩
    · rw [rowL_none rs v (plcB_none rs v hu hv)]; exact ⟨rfl, .inl rfl⟩
    · rw [show telR rs v = rs by simp [telR, hv]]; exact rf_gn h hbw
  clear h hbW hc hv hu hn
  obtain ⟨x1, x2⟩ := v
  simp only at *
  go_enter Try.func15, Try.ntmps15
  go_wp2_with fail
  refine H28.mono ?_
  rintro e w1 ⟨p, rfl, H1⟩
  clear H28 v0 v1
  go_wp2_with fail
  go_ret
  exact ⟨_, rfl, H1.out⟩
set_option maxRecDepth 100000 in
set_option maxHeartbeats 4000000 in
theorem o15_has (G : Nat → Prop) (rt : Nat) (rs : List Rw) (ws : List Nm) (v : Nm) (w : World) (h : RfAt w G rt rs ws) (hn : rs.length ≤ 1000000) (hv : plcB rs v = true) :
    Calls Try.prog 15 #[.pointer (some ⟨rt, 0, none⟩), .agg #[.int .i64 v.1, .int .i64 v.2]] w fun e w' => ∃ z, e = .returned z ∧ TelTo w G rt rs ws v z w' := by
  obtain ⟨i0, hi, hz, hs3, hby⟩ := infoR
  obtain ⟨W, hW⟩ : ∃ W, w.alloc (.cells #[.int .i64 v.1, .int .i64 v.2] 28) = W := ⟨_, rfl⟩
  obtain ⟨vb, hvb⟩ : ∃ vb, w.heap.size = vb := ⟨_, rfl⟩
  have hbW : Below w.heap.size w W := by rw [← hW]; exact (Below.refl _ w).alloc (Nat.le_refl _) _
  have hc : W.heap[vb]? = some (.cells #[.int .i64 v.1, .int .i64 v.2] 28 (0, 0)) := by rw [← hW, ← hvb]; exact heap_alloc_new w _
  have hvl : vb < W.heap.size := (Array.getElem?_eq_some_iff.1 hc).1
  obtain ⟨v0, v1⟩ := box_cells hc
  obtain ⟨ra, rc, wa, wc, hblk, hRs, _, _, _, hcap, hform⟩ := (h.below hbW).ex
  obtain ⟨n, hnn⟩ : ∃ n, rs.length = n := ⟨_, rfl⟩
  obtain ⟨p, hp⟩ : ∃ p, plcN rs v = p := ⟨_, rfl⟩
  obtain ⟨r, er1, er2, _, er4⟩ := plcB_get rs v hv
  obtain ⟨hpl, er5⟩ := List.getElem?_eq_some_iff.1 er1
  have hpn : p < n := by rw [← hp, ← hnn]; exact hpl
  rw [hnn] at hRs hcap hn hblk
  have HS : Hid (∀ u, Below W.heap.size W u → u.cell? ⟨rt, 0, none⟩ = some (.slice ra n rc) ∧ u.frozen? ⟨rt, 0, none⟩ = false ∧ u.cell? ⟨vb, 0, none⟩ = some (.int .i64 v.1) ∧ u.cell? ⟨vb, 1, none⟩ = some (.int .i64 v.2) ∧ Rs u ra n rs) := fun u hu => by
    have hrl : rt < W.heap.size := (Array.getElem?_eq_some_iff.1 hblk).1
    have k1 := (hu.block rt hrl).trans hblk
    have k2 := box_cells ((hu.block vb hvl).trans hc)
    exact ⟨by rw [cell_of_row u rt 0 _ 50 (0, 0) k1]; rfl, frozen_of_row u rt 0 _ 50 k1, k2.1, k2.2, by
      rcases hRs.mem with e | ⟨b, o, e, hl, _⟩
      · exact ⟨hRs.len, .inl e⟩
      · exact hRs.keeps fun g hg => by subst e; cases hg; exact hu.block b hl⟩
  have hT := fun u => sl_to u ra n rc p (Nat.le_of_lt hpn) hcap hform
  obtain ⟨aF, hF, hF2⟩ := sl_from ra n rc (p + 1) hpn hcap hform
  have HF2 : Hid (n - (p + 1) = 0 ∨ ∃ b o, ra = some ⟨b, o, none⟩ ∧ aF = some ⟨b, o + (p + 1) * 3, none⟩) := hF2
  have eP : ((p + 1 : Nat) : Int) = (p : Int) + 1 := by omega
  rw [eP] at hF
  clear eP
  have HQ : Hid (∀ u, Below W.heap.size W u → ∃ b o, ra = some ⟨b, o, none⟩ ∧ u.cell? ⟨b, o + p * 3 + 2, none⟩ = some (.slice r.s.a r.s.n r.s.c)) := fun u hu => by
    obtain ⟨b, o, hx, e, _, _, _, k2⟩ := (HS.out u hu).2.2.2.2.at (k := p) hpn
    refine ⟨b, o, e, ?_⟩
    have e6 : rs[p] = r := by simpa [hp] using er5
    rw [k2, e6]
  have H28 : Calls Try.prog 28 #[.pointer (some ⟨rt, 0, none⟩), .agg #[.int .i64 v.1, .int .i64 v.2]] W fun e w' => e = .returned (.tuple #[.int .i64 (p : Nat), .bool true]) ∧ Hid (Below W.heap.size W w') := by
    refine (o28 G rt rs ws v W (h.below hbW) (by omega)).mono ?_
    rintro e w' ⟨rfl, hb⟩
    rw [hv, hp]
    exact ⟨rfl, hb⟩
  have HL : Hid (rs.length = n ∧ RfAt w G rt rs ws ∧ Below w.heap.size w W ∧ plcN rs v = p ∧ plcB rs v = true ∧ r ∈ rs ∧ rowL rs v = r.l) := ⟨hnn, h, hbW, hp, hv, er2, er4⟩
  clear h hbW hc hv hnn hvl hblk hRs hcap hform hF2 hp er1 er2 er4 er5 hpl
  obtain ⟨x1, x2⟩ := v
  simp only at *
  go_enter Try.func15, Try.ntmps15
  go_wp2_with fail
  refine H28.mono ?_
  rintro e w1 ⟨rfl, HB1⟩
  clear v0 v1
  obtain ⟨q0, f0, p0, p1, hR1⟩ := HS.out w1 HB1.out
  obtain ⟨b1, o1, rfl, qr⟩ := HQ.out w1 HB1.out
  have hp1 : (p : Int) < (n : Int) := by omega
  have hp0 : (0 : Int) ≤ (p : Int) := by omega
  have HN2 : Hid (p = 0 ∨ ∃ ad, some (⟨b1, o1, none⟩ : Addr) = some ad ∧ ∀ j u, ((rs.take p).flatMap encR)[j]? = some u → w1.cell? (ad.add j) = some u) := by
    rcases hR1.part 0 p (by omega) with e | ⟨b, o, e, k⟩
    · exact .inl e
    · exact .inr ⟨⟨b, o, none⟩, e, by simpa using k⟩
  have HN2l : Hid (((rs.take p).flatMap encR).length = p * 3 ∧ ((rs.drop (p + 1)).flatMap encR).length = (n - (p + 1)) * 3) := by
    refine ⟨?_, ?_⟩
    · rw [encR_len, List.length_take, HL.out.1, show min p n = p by omega]
    · rw [encR_len, List.length_drop, HL.out.1]
  clear hR1
  go_wp2_with (at_builtin; refine wpList_append_any _ rfl _ _ 48 rfl w1.heap.size 58 i0 _ 3 40 Try.underlying48 hi hz hs3 hby rfl (by decide) (.slice none 0 0) 0 [] rfl (World.ownsRow_nil _ _ _ _) (some ⟨b1, o1, none⟩) p rc ((rs.take p).flatMap encR) rfl HN2l.out.1 HN2.out (encR_one _) (by unfold maxLen; omega) (by omega) (Nat.le_refl _) ?_)
  intro a2 c2 w3 ho2 hg2
  have HO2 : Hid (w3.ownsRow w1.heap.size 58 3 (.slice a2 p c2) p ((rs.take p).flatMap encR)) := by
    show World.ownsRow _ _ _ _ _ _ _
    simpa using ho2
  have HB3 : Hid (Below w1.heap.size w1 w3) := (Below.refl _ w1).grown hg2 (Nat.le_refl _) (fun g e => by cases e)
  clear ho2 hg2 q0 f0 p0 p1 qr
  obtain ⟨q0, f0, p0, p1, hR4⟩ := HS.out w3 (HB1.out.trans (HB3.out.mono HB1.out.size))
  have HN4 : Hid (n - (p + 1) = 0 ∨ ∃ ad, aF = some ad ∧ ∀ j u, ((rs.drop (p + 1)).flatMap encR)[j]? = some u → w3.cell? (ad.add j) = some u) := by
    rcases HF2.out with e | ⟨b, o, e, e2⟩
    · exact .inl e
    · rcases hR4.part (p + 1) (n - (p + 1)) (by omega) with e3 | ⟨b', o', e3, k⟩
      · exact .inl e3
      · cases e; cases e3
        refine .inr ⟨_, e2, ?_⟩
        have e4 : (rs.drop (p + 1)).take (n - (p + 1)) = rs.drop (p + 1) := List.take_of_length_le (by rw [List.length_drop, HL.out.1]; omega)
        rw [e4] at k
        exact k
  clear hR4
  go_wp2_with (at_builtin; refine wpList_append_any _ rfl _ _ 48 rfl w1.heap.size 58 i0 _ 3 40 Try.underlying48 hi hz hs3 hby rfl (by decide) _ _ _ rfl HO2.out aF (n - (p + 1)) (rc - (p + 1)) ((rs.drop (p + 1)).flatMap encR) rfl HN2l.out.2 HN4.out (encR_one _) (by unfold maxLen; omega) (by omega) HB3.out.size ?_)
  intro a4 c4 w5 ho4 hg4
  have HB5 : Hid (Below w1.heap.size w1 w5) := HB3.out.grown hg4 HB3.out.size (fun g e => (HO2.out.lt g e).1)
  have HEnd : Hid (TelTo w G rt rs ws (x1, x2) (.slice r.s.a r.s.n r.s.c) (w5.setCell ⟨rt, 0, none⟩ (.slice a4 (p + (n - (p + 1))) c4))) := by
    obtain ⟨l1, l2, l3, l4, l5, l6, l7⟩ := HL.out
    have hw1 : Below w.heap.size w w1 := l3.trans (HB1.out.mono l3.size)
    have hw5 : Below w.heap.size w w5 := hw1.trans (HB5.out.mono hw1.size)
    have eT : telR rs (x1, x2) = rs.take p ++ rs.drop (p + 1) := by simp [telR, l4, l5]
    have eL : (telR rs (x1, x2)).length = p + (n - (p + 1)) := by rw [eT, List.length_append, List.length_take, List.length_drop, l1]; omega
    have eE : (telR rs (x1, x2)).flatMap encR = (rs.take p).flatMap encR ++ (rs.drop (p + 1)).flatMap encR := by rw [eT, List.flatMap_append]
    rw [← eE, ← eL] at ho4
    rw [← eL]
    have hrr := rf_rows (rs' := telR rs (x1, x2)) (a := a4) (c := c4) l2 hw5 ⟨rfl, (owns_range ho4).2⟩ (by
      rcases ho4.2 with ⟨e, e2⟩ | ⟨g, cap, cur, e, _, _, h4, _⟩
      · simp only [Value.slice.injEq] at e
        obtain ⟨rfl, _, rfl⟩ := e
        exact ⟨by omega, .inl ⟨rfl, rfl⟩⟩
      · simp only [Value.slice.injEq] at e
        obtain ⟨rfl, _, rfl⟩ := e
        exact ⟨h4, .inr ⟨_, _, rfl⟩⟩) (fun g e => ⟨Nat.le_trans hw1.size ((owns_range ho4).1 g e).1, ((owns_range ho4).1 g e).2⟩) (fun q hq => .inl ((telR_sub rs (x1, x2)).subset hq))
    refine ⟨_, _, _, rfl, ?_, hrr.1, hrr.2⟩
    rw [l7]
    refine (l2.lst r l6).1.keeps fun g e => hrr.2.block g (l2.lt g ((l2.lst r l6).2 g e)) fun e' => ?_
    simp only [Option.some.injEq] at e'
    exact l2.grt (e' ▸ (l2.lst r l6).2 g e)
  clear ho4 hg4 q0 p0 p1
  obtain ⟨q0, f0, p0, p1, hR5⟩ := HS.out w5 (HB1.out.trans (HB5.out.mono HB1.out.size))
  clear hR5
  go_wp2_with fail
  go_ret
  exact ⟨_, rfl, HEnd.out⟩
end Go.Proofs.Ytdonclnjgopmbaa
