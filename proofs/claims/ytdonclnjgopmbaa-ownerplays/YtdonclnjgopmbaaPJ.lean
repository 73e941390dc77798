/- Contract of the reference's Ask where somebody waits for the variable. -/
import Derived.Test.YtdonclnjgopmbaaPI
namespace Go.Proofs.Ytdonclnjgopmbaa
open Go.RowKit
attribute [local go_sem ↓] Go.wp_at_zero Go.wp_at_succ
set_option maxRecDepth 100000 in
set_option maxHeartbeats 4000000 in
theorem o12_has (G : Nat → Prop) (rt : Nat) (rs : List Rw) (ws : List Nm) (v : Nm) (nd : Int) (w : World) (h : RfAt w G rt rs ws) (hn : rs.length ≤ 1000000) (hv : plcB rs v = true) (hlen : (rowL rs v).length ≤ 1000000) (hnd : nd ∈ rowL rs v) :
    Calls Try.prog 12 #[.pointer (some ⟨rt, 0, none⟩), .agg #[.int .i64 v.1, .int .i64 v.2], .int .i64 nd] w fun e w' => e = .returned (.bool false) ∧ Below w.heap.size w w' := by
  obtain ⟨i0, hi, hz, hs3, hby⟩ := infoR
  obtain ⟨j0, hj, hjz, hjs, hjb⟩ := infoI64
  obtain ⟨W, hW⟩ : ∃ W, w.alloc (.cells #[.int .i64 v.1, .int .i64 v.2] 28) = W := ⟨_, rfl⟩
  obtain ⟨vb, hvb⟩ : ∃ vb, w.heap.size = vb := ⟨_, rfl⟩
  have hbW : Below w.heap.size w W := by rw [← hW]; exact (Below.refl _ w).alloc (Nat.le_refl _) _
  have hc : W.heap[vb]? = some (.cells #[.int .i64 v.1, .int .i64 v.2] 28 (0, 0)) := by rw [← hW, ← hvb]; exact heap_alloc_new w _
  have hvl : vb < W.heap.size := (Array.getElem?_eq_some_iff.1 hc).1
  obtain ⟨v0, v1⟩ := box_cells hc
  obtain ⟨ra, rc, wa, wc, hblk, hRs, _, _, _, hcap, hform⟩ := (h.below hbW).ex
  obtain ⟨n, hnn⟩ : ∃ n, rs.length = n := ⟨_, rfl⟩
  obtain ⟨p, hp⟩ : ∃ p, plcN rs v = p := ⟨_, rfl⟩
  obtain ⟨r, er1, er2, _, er4⟩ := plcB_get rs v hv
  rw [er4] at hlen hnd
  obtain ⟨hpl, er5⟩ := List.getElem?_eq_some_iff.1 er1
  have hpn : p < n := by rw [← hp, ← hnn]; exact hpl
  rw [hnn] at hRs hcap hn hblk
  have HS : Hid (∀ u, Below W.heap.size W u → u.cell? ⟨rt, 0, none⟩ = some (.slice ra n rc) ∧ u.frozen? ⟨rt, 0, none⟩ = false ∧ u.cell? ⟨vb, 0, none⟩ = some (.int .i64 v.1) ∧ u.cell? ⟨vb, 1, none⟩ = some (.int .i64 v.2) ∧ Rs u ra n rs) := fun u hu => by
    have hrl : rt < W.heap.size := (Array.getElem?_eq_some_iff.1 hblk).1
    have k1 := (hu.block rt hrl).trans hblk
    have k2 := box_cells ((hu.block vb hvl).trans hc)
    exact ⟨by rw [cell_of_row u rt 0 _ 50 (0, 0) k1]; rfl, frozen_of_row u rt 0 _ 50 k1, k2.1, k2.2, by
      rcases hRs.mem with e | ⟨b, o, e, hl, _⟩
      · exact ⟨hRs.len, .inl e⟩
      · exact hRs.keeps fun g hg => by subst e; cases hg; exact hu.block b hl⟩
  have hT := fun u => sl_to u ra n rc p (Nat.le_of_lt hpn) hcap hform
  obtain ⟨aF, hF, hF2⟩ := sl_from ra n rc (p + 1) hpn hcap hform
  have HF2 : Hid (n - (p + 1) = 0 ∨ ∃ b o, ra = some ⟨b, o, none⟩ ∧ aF = some ⟨b, o + (p + 1) * 3, none⟩) := hF2
  have eP : ((p + 1 : Nat) : Int) = (p : Int) + 1 := by omega
  rw [eP] at hF
  clear eP
  have HQ : Hid (∀ u, Below W.heap.size W u → ∃ b o, ra = some ⟨b, o, none⟩ ∧ u.cell? ⟨b, o + p * 3 + 2, none⟩ = some (.slice r.s.a r.s.n r.s.c) ∧ In u r.s.a r.s.n r.l) := fun u hu => by
    obtain ⟨b, o, hx, e, _, _, _, k2⟩ := (HS.out u hu).2.2.2.2.at (k := p) hpn
    refine ⟨b, o, e, ?_, ((h.below (hbW.trans (hu.mono hbW.size))).lst r er2).1⟩
    have e6 : rs[p] = r := by simpa [hp] using er5
    rw [k2, e6]
  have hsl : r.s.n = r.l.length := ((h.lst r er2).1).len.symm
  obtain ⟨k0, hk0⟩ : ∃ k0, r.l.length = k0 := ⟨_, rfl⟩
  rw [hk0] at hsl hlen
  have HK0 : Hid (r.l.length = k0 ∧ (nd ∈ r.l)) := ⟨hk0, hnd⟩
  have H28 : Calls Try.prog 28 #[.pointer (some ⟨rt, 0, none⟩), .agg #[.int .i64 v.1, .int .i64 v.2]] W fun e w' => e = .returned (.tuple #[.int .i64 (p : Nat), .bool true]) ∧ Hid (Below W.heap.size W w') := by
    refine (o28 G rt rs ws v W (h.below hbW) (by omega)).mono ?_
    rintro e w' ⟨rfl, hb⟩
    rw [hv, hp]
    exact ⟨rfl, hb⟩
  have HL : Hid (rs.length = n ∧ RfAt w G rt rs ws ∧ Below w.heap.size w W ∧ plcN rs v = p ∧ plcB rs v = true) := ⟨hnn, h, hbW, hp, hv⟩
  clear h hbW hc hv hnn hvl hblk hRs hcap hform hF2 hp er1 er2 er4 er5 hpl hnd hk0
  obtain ⟨x1, x2⟩ := v
  simp only at *
  go_enter Try.func12, Try.ntmps12
  go_wp2_with fail
  refine H28.mono ?_
  rintro e w1 ⟨rfl, HB1⟩
  clear v0 v1
  obtain ⟨q0, f0, p0, p1, hR1⟩ := HS.out w1 HB1.out
  clear hR1
  obtain ⟨b1, o1, rfl, qr, hIn⟩ := HQ.out w1 HB1.out
  rw [hsl] at qr hIn
  have hp1 : (p : Int) < (n : Int) := by omega
  have hp0 : (0 : Int) ≤ (p : Int) := by omega
  have HI0 : Hid (k0 = 0 ∨ ∃ ad, r.s.a = some ad ∧ ∀ j u, (i64s r.l)[j]? = some u → w1.cell? (ad.add j) = some u) := by
    rcases hIn.mem with e | ⟨b, o, e, _, k⟩
    · exact .inl e
    · exact .inr ⟨_, e, fun j u hu => by rw [Addr.add_mid]; exact k j u hu⟩
  have HIl : Hid ((i64s r.l).length = k0 * 1) := by show _ = _; simp [HK0.out.1]
  clear hIn
  generalize hrs : r.s = rsl at *
  obtain ⟨ga, gn, gc⟩ := rsl
  simp only at *
  go_wp2_with (at_builtin; refine wpList_append_any _ rfl _ _ 34 rfl w1.heap.size 3 j0 _ 1 8 Try.underlying34 hj hjz hjs hjb rfl (by decide) (.slice none 0 0) 0 [] rfl (World.ownsRow_nil _ _ _ _) ga k0 gc (i64s r.l) rfl HIl.out HI0.out (i64s_one _) (by unfold maxLen; omega) (by omega) (Nat.le_refl _) ?_)
  intro a0 c0 wz ho0 hg0
  have HO0 : Hid (wz.ownsRow w1.heap.size 3 1 (.slice a0 k0 c0) k0 (i64s r.l)) := by
    show World.ownsRow _ _ _ _ _ _ _
    simpa using ho0
  have HBz : Hid (Below w1.heap.size w1 wz) := (Below.refl _ w1).grown hg0 (Nat.le_refl _) (fun g e => by cases e)
  clear ho0 hg0 q0 f0 p0 p1 qr
  obtain ⟨q0, f0, p0, p1, hR1⟩ := HS.out wz (HB1.out.trans (HBz.out.mono HB1.out.size))
  clear hR1
  go_wp2_with fail
  go_loopw [10] (fun i wr => ∃ k : Nat, k ≤ k0 ∧ i = .int .i64 k ∧ wr = wz ∧ Hid (nd ∉ r.l.take k)) (fun i _ => k0 - (intOf i).toNat)
  case atStart => exact ⟨0, Nat.zero_le _, rfl, rfl, by intro h; simp at h⟩
  case round =>
    obtain ⟨k, hk, rfl, rfl, hTk⟩ := hrel
    by_cases hlt : k < k0
    · have hlt1 : (k : Int) < (k0 : Int) := by omega
      have hk0' : (0 : Int) ≤ (k : Int) := by omega
      have hIz : In wr a0 k0 r.l := ⟨HK0.out.1, (owns_range HO0.out).2⟩
      obtain ⟨b2, o2, hx2, rfl, hcz⟩ := hIz.at hlt
      have HTX : Hid (r.l.take (k + 1) = r.l.take k ++ [r.l[k]]) := (List.take_append_getElem hx2).symm
      have HMz : Hid (r.l[k] ∈ r.l) := List.getElem_mem hx2
      generalize r.l[k] = z at *
      clear hIz hx2
      by_cases hzn : z = nd
      · subst hzn
        go_wp2_with fail
        go_ret
        exact ⟨rfl, (HL.out.2.2.1.trans (HB1.out.mono HL.out.2.2.1.size)).trans (HBz.out.mono (HL.out.2.2.1.trans (HB1.out.mono HL.out.2.2.1.size)).size)⟩
      · have hzn2 : (z == nd) = false := by simp [hzn]
        go_wp2_with fail
        go_roundw
        case rel => exact ⟨k + 1, by omega, by go_num, by first | exact rfl | trivial, by
          show nd ∉ r.l.take (k + 1)
          rw [HTX.out]
          intro e
          rcases List.mem_append.1 e with e | e
          · exact hTk.out e
          · simp only [List.mem_cons, List.not_mem_nil, or_false] at e
            exact hzn e.symm⟩
        case measure => simp [intOf]; omega
    · exfalso
      have h1 := hTk.out
      rw [List.take_of_length_le (by rw [HK0.out.1]; omega)] at h1
      exact h1 HK0.out.2
end Go.Proofs.Ytdonclnjgopmbaa
