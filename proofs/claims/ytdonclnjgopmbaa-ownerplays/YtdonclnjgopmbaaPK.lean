/- Contract of the reference's Ask where somebody waits for the variable. -/
import Derived.Test.YtdonclnjgopmbaaPI
namespace Go.Proofs.Ytdonclnjgopmbaa
open Go.RowKit
attribute [local go_sem ↓] Go.wp_at_zero Go.wp_at_succ
set_option maxRecDepth 100000 in
set_option maxHeartbeats 4000000 in
theorem o12_b (G : Nat → Prop) (rt : Nat) (rs : List Rw) (ws : List Nm) (v : Nm) (nd : Int) (w : World) (h : RfAt w G rt rs ws) (hn : rs.length ≤ 1000000) (hv : plcB rs v = true) (hlen : (rowL rs v).length ≤ 1000000) (hnd : nd ∉ rowL rs v) :
    Calls Try.prog 12 #[.pointer (some ⟨rt, 0, none⟩), .agg #[.int .i64 v.1, .int .i64 v.2], .int .i64 nd] w fun e w' => e = .returned (.bool true) ∧ AskTo2 w G rt rs ws v (rowL rs v ++ [nd]) w' := by
  obtain ⟨i0, hi, hz, hs3, hby⟩ := infoR
  obtain ⟨j0, hj, hjz, hjs, hjb⟩ := infoI64
  obtain ⟨W, hW⟩ : ∃ W, w.alloc (.cells #[.int .i64 v.1, .int .i64 v.2] 28) = W := ⟨_, rfl⟩
  obtain ⟨vb, hvb⟩ : ∃ vb, w.heap.size = vb := ⟨_, rfl⟩
  have hbW : Below w.heap.size w W := by rw [← hW]; exact (Below.refl _ w).alloc (Nat.le_refl _) _
  have hc : W.heap[vb]? = some (.cells #[.int .i64 v.1, .int .i64 v.2] 28 (0, 0)) := by rw [← hW, ← hvb]; exact heap_alloc_new w _
  have hvl : vb < W.heap.size := (Array.getElem?_eq_some_iff.1 hc).1
  obtain ⟨v0, v1⟩ := box_cells hc
  obtain ⟨ra, rc, wa, wc, hblk, hRs, _, _, _, hcap, hform⟩ := (h.below hbW).ex
  obtain ⟨n, hnn⟩ : ∃ n, rs.length = n := ⟨_, rfl⟩
  obtain ⟨p, hp⟩ : ∃ p, plcN rs v = p := ⟨_, rfl⟩
  obtain ⟨r, er1, er2, _, er4⟩ := plcB_get rs v hv
  rw [er4] at hlen hnd ⊢
  obtain ⟨hpl, er5⟩ := List.getElem?_eq_some_iff.1 er1
  have hpn : p < n := by rw [← hp, ← hnn]; exact hpl
  rw [hnn] at hRs hcap hn hblk
  have HS : Hid (∀ u, Below W.heap.size W u → u.cell? ⟨rt, 0, none⟩ = some (.slice ra n rc) ∧ u.frozen? ⟨rt, 0, none⟩ = false ∧ u.cell? ⟨vb, 0, none⟩ = some (.int .i64 v.1) ∧ u.cell? ⟨vb, 1, none⟩ = some (.int .i64 v.2) ∧ Rs u ra n rs) := fun u hu => by
    have hrl : rt < W.heap.size := (Array.getElem?_eq_some_iff.1 hblk).1
    have k1 := (hu.block rt hrl).trans hblk
    have k2 := box_cells ((hu.block vb hvl).trans hc)
    exact ⟨by rw [cell_of_row u rt 0 _ 50 (0, 0) k1]; rfl, frozen_of_row u rt 0 _ 50 k1, k2.1, k2.2, by
      rcases hRs.mem with e | ⟨b, o, e, hl, _⟩
      · exact ⟨hRs.len, .inl e⟩
      · exact hRs.keeps fun g hg => by subst e; cases hg; exact hu.block b hl⟩
  have hT := fun u => sl_to u ra n rc p (Nat.le_of_lt hpn) hcap hform
  obtain ⟨aF, hF, hF2⟩ := sl_from ra n rc (p + 1) hpn hcap hform
  have HF2 : Hid (n - (p + 1) = 0 ∨ ∃ b o, ra = some ⟨b, o, none⟩ ∧ aF = some ⟨b, o + (p + 1) * 3, none⟩) := hF2
  have eP : ((p + 1 : Nat) : Int) = (p : Int) + 1 := by omega
  rw [eP] at hF
  clear eP
  have HQ : Hid (∀ u, Below W.heap.size W u → ∃ b o, ra = some ⟨b, o, none⟩ ∧ u.cell? ⟨b, o + p * 3 + 2, none⟩ = some (.slice r.s.a r.s.n r.s.c) ∧ In u r.s.a r.s.n r.l) := fun u hu => by
    obtain ⟨b, o, hx, e, _, _, _, k2⟩ := (HS.out u hu).2.2.2.2.at (k := p) hpn
    refine ⟨b, o, e, ?_, ((h.below (hbW.trans (hu.mono hbW.size))).lst r er2).1⟩
    have e6 : rs[p] = r := by simpa [hp] using er5
    rw [k2, e6]
  have hsl : r.s.n = r.l.length := ((h.lst r er2).1).len.symm
  obtain ⟨k0, hk0⟩ : ∃ k0, r.l.length = k0 := ⟨_, rfl⟩
  rw [hk0] at hsl hlen
  have HK0 : Hid (r.l.length = k0 ∧ (nd ∉ r.l)) := ⟨hk0, hnd⟩
  have H28 : Calls Try.prog 28 #[.pointer (some ⟨rt, 0, none⟩), .agg #[.int .i64 v.1, .int .i64 v.2]] W fun e w' => e = .returned (.tuple #[.int .i64 (p : Nat), .bool true]) ∧ Hid (Below W.heap.size W w') := by
    refine (o28 G rt rs ws v W (h.below hbW) (by omega)).mono ?_
    rintro e w' ⟨rfl, hb⟩
    rw [hv, hp]
    exact ⟨rfl, hb⟩
  have HL : Hid (rs.length = n ∧ RfAt w G rt rs ws ∧ Below w.heap.size w W ∧ plcN rs v = p ∧ plcB rs v = true) := ⟨hnn, h, hbW, hp, hv⟩
  clear h hbW hc hv hnn hvl hblk hRs hcap hform hF2 hp er1 er2 er4 er5 hpl hnd hk0
  obtain ⟨x1, x2⟩ := v
  simp only at *
  go_enter Try.func12, Try.ntmps12
  go_wp2_with fail
  refine H28.mono ?_
  rintro e w1 ⟨rfl, HB1⟩
  clear v0 v1
  obtain ⟨q0, f0, p0, p1, hR1⟩ := HS.out w1 HB1.out
  clear hR1
  obtain ⟨b1, o1, rfl, qr, hIn⟩ := HQ.out w1 HB1.out
  rw [hsl] at qr hIn
  have hp1 : (p : Int) < (n : Int) := by omega
  have hp0 : (0 : Int) ≤ (p : Int) := by omega
  have HI0 : Hid (k0 = 0 ∨ ∃ ad, r.s.a = some ad ∧ ∀ j u, (i64s r.l)[j]? = some u → w1.cell? (ad.add j) = some u) := by
    rcases hIn.mem with e | ⟨b, o, e, _, k⟩
    · exact .inl e
    · exact .inr ⟨_, e, fun j u hu => by rw [Addr.add_mid]; exact k j u hu⟩
  have HIl : Hid ((i64s r.l).length = k0 * 1) := by show _ = _; simp [HK0.out.1]
  clear hIn
  generalize hrs : r.s = rsl at *
  obtain ⟨ga, gn, gc⟩ := rsl
  simp only at *
  go_wp2_with (at_builtin; refine wpList_append_any _ rfl _ _ 34 rfl w1.heap.size 3 j0 _ 1 8 Try.underlying34 hj hjz hjs hjb rfl (by decide) (.slice none 0 0) 0 [] rfl (World.ownsRow_nil _ _ _ _) ga k0 gc (i64s r.l) rfl HIl.out HI0.out (i64s_one _) (by unfold maxLen; omega) (by omega) (Nat.le_refl _) ?_)
  intro a0 c0 wz ho0 hg0
  have HO0 : Hid (wz.ownsRow w1.heap.size 3 1 (.slice a0 k0 c0) k0 (i64s r.l)) := by
    show World.ownsRow _ _ _ _ _ _ _
    simpa using ho0
  have HBz : Hid (Below w1.heap.size w1 wz) := (Below.refl _ w1).grown hg0 (Nat.le_refl _) (fun g e => by cases e)
  clear ho0 hg0 q0 f0 p0 p1 qr
  obtain ⟨q0, f0, p0, p1, hR1⟩ := HS.out wz (HB1.out.trans (HBz.out.mono HB1.out.size))
  clear hR1
  go_wp2_with fail
  go_loopw [10] (fun i wr => ∃ k : Nat, k ≤ k0 ∧ i = .int .i64 k ∧ wr = wz ∧ Hid (nd ∉ r.l.take k)) (fun i _ => k0 - (intOf i).toNat)
  case atStart => exact ⟨0, Nat.zero_le _, rfl, rfl, by intro h; simp at h⟩
  case round =>
    obtain ⟨k, hk, rfl, rfl, hTk⟩ := hrel
    by_cases hlt : k < k0
    · have hlt1 : (k : Int) < (k0 : Int) := by omega
      have hk0' : (0 : Int) ≤ (k : Int) := by omega
      have hIz : In wr a0 k0 r.l := ⟨HK0.out.1, (owns_range HO0.out).2⟩
      obtain ⟨b2, o2, hx2, rfl, hcz⟩ := hIz.at hlt
      have HTX : Hid (r.l.take (k + 1) = r.l.take k ++ [r.l[k]]) := (List.take_append_getElem hx2).symm
      have HMz : Hid (r.l[k] ∈ r.l) := List.getElem_mem hx2
      generalize r.l[k] = z at *
      clear hIz hx2
      by_cases hzn : z = nd
      · subst hzn
        exact absurd HMz.out HK0.out.2
      · have hzn2 : (z == nd) = false := by simp [hzn]
        go_wp2_with fail
        go_roundw
        case rel => exact ⟨k + 1, by omega, by go_num, by first | exact rfl | trivial, by
          show nd ∉ r.l.take (k + 1)
          rw [HTX.out]
          intro e
          rcases List.mem_append.1 e with e | e
          · exact hTk.out e
          · simp only [List.mem_cons, List.not_mem_nil, or_false] at e
            exact hzn e.symm⟩
        case measure => simp [intOf]; omega
    · have hge : ¬ (k : Int) < (k0 : Int) := by omega
      clear hTk hk hlt
      have hb1 : w1.heap.size ≤ (wr.alloc (.cells #[.int .i64 nd] 3)).heap.size := by have := HBz.out.size; simp; omega
      have HO0' : Hid (World.ownsRow (wr.alloc (.cells #[.int .i64 nd] 3)) w1.heap.size 3 1 (.slice a0 k0 c0) k0 (i64s r.l)) := HO0.out.alloc _
      have HBz' : Hid (Below w1.heap.size w1 (wr.alloc (.cells #[.int .i64 nd] 3))) := HBz.out.alloc HBz.out.size _
      go_wp2_with (at_builtin; refine wpList_append_any _ rfl _ _ 34 rfl w1.heap.size 3 j0 _ 1 8 Try.underlying34 hj hjz hjs hjb rfl (by decide) _ _ _ rfl HO0'.out (some ⟨wr.heap.size, 0, none⟩) 1 1 [.int .i64 nd] rfl rfl (.inr ⟨_, rfl, new_int wr nd⟩) (fun u hu => by simp at hu; subst hu; rfl) (by unfold maxLen; omega) (by omega) hb1 ?_)
      intro a1 c1 w2 ho1 hg1
      have HO1 : Hid (w2.ownsRow w1.heap.size 3 1 (.slice a1 (k0 + 1) c1) (k0 + 1) (i64s (r.l ++ [nd]))) := by
        show World.ownsRow _ _ _ _ _ _ _
        simpa [i64s] using ho1
      have HB2 : Hid (Below w1.heap.size w1 w2) := HBz'.out.grown hg1 hb1 (fun g e => (HO0'.out.lt g e).1)
      have HBW2 : Hid (Below W.heap.size W w2) := HB1.out.trans (HB2.out.mono HB1.out.size)
      clear ho1 hg1 hb1 q0 f0 p0 p1
      obtain ⟨q0, f0, p0, p1, hR2⟩ := HS.out w2 HBW2.out
      have HN2 : Hid (p = 0 ∨ ∃ ad, (some ⟨b1, o1, none⟩ : Option Addr) = some ad ∧ ∀ j u, ((rs.take p).flatMap encR)[j]? = some u → w2.cell? (ad.add j) = some u) := by
        rcases hR2.part 0 p (by omega) with e | ⟨b, o, e, k⟩
        · exact .inl e
        · exact .inr ⟨⟨b, o, none⟩, e, by simpa using k⟩
      have HN2l : Hid (((rs.take p).flatMap encR).length = p * 3 ∧ ((rs.drop (p + 1)).flatMap encR).length = (n - (p + 1)) * 3) := by
        refine ⟨?_, ?_⟩
        · rw [encR_len, List.length_take, HL.out.1, show min p n = p by omega]
        · rw [encR_len, List.length_drop, HL.out.1]
      clear hR2
      go_wp2_with (at_builtin; refine wpList_append_any _ rfl _ _ 48 rfl w2.heap.size 58 i0 _ 3 40 Try.underlying48 hi hz hs3 hby rfl (by decide) (.slice none 0 0) 0 [] rfl (World.ownsRow_nil _ _ _ _) (some ⟨b1, o1, none⟩) p rc ((rs.take p).flatMap encR) rfl HN2l.out.1 HN2.out (encR_one _) (by unfold maxLen; omega) (by omega) (Nat.le_refl _) ?_)
      intro a2 c2 w3 ho2 hg2
      have HO2 : Hid (w3.ownsRow w2.heap.size 58 3 (.slice a2 p c2) p ((rs.take p).flatMap encR)) := by
        show World.ownsRow _ _ _ _ _ _ _
        simpa using ho2
      have HB3 : Hid (Below w2.heap.size w2 w3) := (Below.refl _ w2).grown hg2 (Nat.le_refl _) (fun g e => by cases e)
      clear ho2 hg2 q0 f0 p0 p1
      obtain ⟨q0, f0, p0, p1, hR3⟩ := HS.out w3 (HBW2.out.trans (HB3.out.mono HBW2.out.size))
      clear hR3
      have HO2' : Hid (World.ownsRow (w3.alloc (.cells #[.int .i64 x1, .int .i64 x2, .slice a1 (k0 + 1) c1] 58)) w2.heap.size 58 3 (.slice a2 p c2) p ((rs.take p).flatMap encR)) := HO2.out.alloc _
      have HB3' : Hid (Below w2.heap.size w2 (w3.alloc (.cells #[.int .i64 x1, .int .i64 x2, .slice a1 (k0 + 1) c1] 58))) := HB3.out.alloc HB3.out.size _
      go_wp2_with (at_builtin; refine wpList_append_any _ rfl _ _ 48 rfl w2.heap.size 58 i0 _ 3 40 Try.underlying48 hi hz hs3 hby rfl (by decide) _ _ _ rfl HO2'.out (some ⟨w3.heap.size, 0, none⟩) 1 1 [.int .i64 x1, .int .i64 x2, .slice a1 (k0 + 1) c1] rfl rfl (.inr ⟨_, rfl, new_row w3 x1 x2 _⟩) (row_cells x1 x2 a1 (k0 + 1) c1) (by unfold maxLen; omega) (by omega) HB3'.out.size ?_)
      intro a3 c3 w4 ho3 hg3
      have HB4 : Hid (Below w2.heap.size w2 w4) := HB3'.out.grown hg3 HB3'.out.size (fun g e => (HO2'.out.lt g e).1)
      have HO3 : Hid (w4.ownsRow w2.heap.size 58 3 (.slice a3 (p + 1) c3) (p + 1) ((rs.take p).flatMap encR ++ [.int .i64 x1, .int .i64 x2, .slice a1 (k0 + 1) c1])) := ho3
      clear ho3 hg3 q0 f0 p0 p1
      obtain ⟨q0, f0, p0, p1, hR4⟩ := HS.out w4 (HBW2.out.trans (HB4.out.mono HBW2.out.size))
      have HN4 : Hid (n - (p + 1) = 0 ∨ ∃ ad, aF = some ad ∧ ∀ j u, ((rs.drop (p + 1)).flatMap encR)[j]? = some u → w4.cell? (ad.add j) = some u) := by
        rcases HF2.out with e | ⟨b, o, e, e2⟩
        · exact .inl e
        · rcases hR4.part (p + 1) (n - (p + 1)) (by omega) with e3 | ⟨b', o', e3, k⟩
          · exact .inl e3
          · rw [e] at e3; cases e3
            refine .inr ⟨_, e2, ?_⟩
            have e4 : (rs.drop (p + 1)).take (n - (p + 1)) = rs.drop (p + 1) := List.take_of_length_le (by rw [List.length_drop, HL.out.1]; omega)
            rw [e4] at k
            exact k
      clear hR4
      go_wp2_with (at_builtin; refine wpList_append_any _ rfl _ _ 48 rfl w2.heap.size 58 i0 _ 3 40 Try.underlying48 hi hz hs3 hby rfl (by decide) _ _ _ rfl HO3.out aF (n - (p + 1)) (rc - (p + 1)) ((rs.drop (p + 1)).flatMap encR) rfl HN2l.out.2 HN4.out (encR_one _) (by unfold maxLen; omega) (by omega) HB4.out.size ?_)
      intro a4 c4 w5 ho4 hg4
      have HB5 : Hid (Below w2.heap.size w2 w5) := HB4.out.grown hg4 HB4.out.size (fun g e => (HO3.out.lt g e).1)
      have HEnd : Hid (AskTo2 w G rt rs ws (x1, x2) (r.l ++ [nd]) (w5.setCell ⟨rt, 0, none⟩ (.slice a4 (p + 1 + (n - (p + 1))) c4))) := by
        have hw1 : Below w.heap.size w w1 := HL.out.2.2.1.trans (HB1.out.mono HL.out.2.2.1.size)
        have eA : askR rs ⟨(x1, x2), ⟨a1, k0 + 1, c1⟩, r.l ++ [nd]⟩ = rs.take p ++ [⟨(x1, x2), ⟨a1, k0 + 1, c1⟩, r.l ++ [nd]⟩] ++ rs.drop (p + 1) := by simp [askR, HL.out.2.2.2.1, HL.out.2.2.2.2]
        refine ask_end2 HL.out.2.1 (hw1.trans (HB2.out.mono hw1.size)) HB5.out (s := ⟨a1, k0 + 1, c1⟩) ?_ ?_ ⟨by simp [HK0.out.1], (owns_range HO1.out).2⟩ fun g e => ⟨Nat.le_trans hw1.size ((owns_range HO1.out).1 g e).1, ((owns_range HO1.out).1 g e).2⟩
        · rw [eA, List.flatMap_append, List.flatMap_append]
          simpa [encR] using ho4
        · rw [eA]; simp only [List.length_append, List.length_take, List.length_drop, HL.out.1, List.length_cons, List.length_nil]; omega
      clear ho4 hg4 q0 f0 p0 p1
      obtain ⟨q0, f0, p0, p1, hR5⟩ := HS.out w5 (HBW2.out.trans (HB5.out.mono HBW2.out.size))
      clear hR5
      go_wp2_with fail
      go_ret
      exact ⟨rfl, HEnd.out⟩
end Go.Proofs.Ytdonclnjgopmbaa
