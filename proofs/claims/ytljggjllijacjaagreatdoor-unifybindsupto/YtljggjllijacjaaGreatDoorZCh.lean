/- The statement on what is bound: it returns true. -/
import Derived.Test.YtljggjllijacjaaGreatDoorZBh
namespace Go.Proofs.YtljggjllijacjaaGreatDoor
open Go.RowKit
attribute [local go_sem ↓] Go.wp_at_zero Go.wp_at_succ
theorem below_cell {w w' : World} {a : Addr} {v : Value} (h : w.cell? a = some v) (hb : Below w.heap.size w w') : w'.cell? a = some v := by
  obtain ⟨cur, t, fr, e⟩ := cell_block h
  rw [World.cell?_of_block (hb.block a.block (Array.getElem?_eq_some_iff.1 e).1)]
  exact h
/-- A binding in a box of its own, its term's first cell, and what stays. -/
abbrev BbS (Wb : World) (M bx tb tO : Nat) (x1 x2 t k cx cy : Value) (W : World) : Prop := W.cell? ⟨bx, 0, none⟩ = some x1 ∧ W.cell? ⟨bx, 1, none⟩ = some x2 ∧ W.cell? ⟨bx, 2, none⟩ = some t ∧ W.cell? ⟨tb, tO, none⟩ = some k ∧ W.cell? ⟨tb, tO + 3, none⟩ = some cx ∧ W.cell? ⟨tb, tO + 4, none⟩ = some cy ∧ Hid (KeepsBut M Wb W)
section
variable {Wb W W' : World} {M bx tb tO : Nat} {x1 x2 t k cx cy : Value}
theorem bbS_kb (hM : NoC W M) (h : BbS Wb M bx tb tO x1 x2 t k cx cy W) (hk : KeepsBut M W W') : BbS Wb M bx tb tO x1 x2 t k cx cy W' := by
  obtain ⟨a, b, c, d, e, f, g⟩ := h
  exact ⟨kb_cell hM hk a, kb_cell hM hk b, kb_cell hM hk c, kb_cell hM hk d, kb_cell hM hk e, kb_cell hM hk f, g.out.trans hk⟩
theorem bbS_below (h : BbS Wb M bx tb tO x1 x2 t k cx cy W) (hk : Below W.heap.size W W') : BbS Wb M bx tb tO x1 x2 t k cx cy W' := by
  obtain ⟨a, b, c, d, e, f, g⟩ := h
  exact ⟨below_cell a hk, below_cell b hk, below_cell c hk, below_cell d hk, below_cell e hk, below_cell f hk, g.out.trans (KeepsBut.of_below hk)⟩
theorem bbS_drew (h : BbS Wb M bx tb tO x1 x2 t k cx cy W) : BbS Wb M bx tb tO x1 x2 t k cx cy W.drew := bbS_below h (Below.refl _ W).drew
end
section
variable {w2 W : World} {hb M n0 : Nat} {m : Hp}
theorem Lp.c20 (h : Lp w2 hb M n0 m W) (hn : n0 ≤ 100000000) {v : Value} {ls : List (List C)} (hR : RowAt W v ls) (hwf : ∀ l ∈ ls, WfT l) (hby : ∀ l ∈ ls, 48 * l.length ≤ 140737488355328) (hl : ls.length ≤ n0) (hS : Signs W) :
    Calls Tryz.prog 20 #[.pointer (some ⟨hb, 0, none⟩), .int .i64 2000, v] W fun e w' => SoR W.heap.size (slvF m ls 2000).out (slvF m ls 2000).bd (slvF m ls 2000).left (slvF m ls 2000).st e W w' := by
  obtain ⟨nn, D, V, g1, g2, g3, g4⟩ := h.hp
  exact y20 m _ n0 2000 ls v W (.inr ⟨hb, M, nn, D, V, rfl, g1, g2, g3, g4⟩) h.hw hR hwf (fun l hl => by have := hby l hl; omega) hl hn hS (by omega)
theorem Lp.more (h : Lp w2 hb M n0 m W) {n1 : Nat} (hn : n0 ≤ n1) : Lp w2 hb M n1 m W := by
  obtain ⟨nn, D, V, g1, g2, g3, g4⟩ := h.hp
  exact ⟨⟨nn, D, V, g1, g2, g3, Nat.le_trans g4 hn⟩, h.kb, h.no, h.hw, h.up, Nat.le_trans h.ml hn⟩
theorem Lp.c29 (h : Lp w2 hb M n0 m W) (hn : n0 ≤ 100000000) {v : Value} {ls : List (List C)} (hR : RowAt W v ls) :
    Calls Tryz.prog 29 #[.pointer (some ⟨hb, 0, none⟩), v] W fun e w' => e = .returned (.bool (shB m ls)) ∧ Below W.heap.size W w' := by
  obtain ⟨nn, D, V, g1, g2, g3, g4⟩ := h.hp
  exact s29 m hb M nn D ls v W g1 (by omega) h.up (fun x l hl => (h.hw.len x l hl).1) (by have := h.ml; omega) hR
theorem Lp.c31 (h : Lp w2 hb M n0 m W) (hm : MpOk m) {v : Value} {t : List C} (hT : TermAt W v t) (hW : WfT t) (hS : Signs W) :
    Calls Tryz.prog 31 #[.pointer (some ⟨hb, 0, none⟩), v] W fun e w' => ∃ (pa : Option Addr) (pn pc : Nat) (ec : Int), e = .returned (.tuple #[.slice pa pn pc, .int .i64 ec]) ∧ Hid (Below W.heap.size W w' ∧ (ec = 0 → ∃ o, Ex m t o ∧ TermAt w' (.slice pa pn pc) o)) := by
  obtain ⟨nn, D, V, g1, g2, g3, g4⟩ := h.hp
  refine (i16 m hb M nn D t v W g1 hm.rg hT hW hS).mono ?_
  rintro e w' (⟨c, hc, rfl, h1, _⟩ | ⟨o, fa, fc, rfl, h1, _, h2⟩)
  · exact ⟨none, 0, 0, c, rfl, h1, fun e => by omega⟩
  · exact ⟨fa, o.length, fc, 0, rfl, h2.bel, fun _ => ⟨o, h1, h2.term⟩⟩
end
set_option maxRecDepth 100000 in
set_option maxHeartbeats 8000000 in
theorem t5 (a : Option Addr) (n c : Nat) (bs0 : List Bn) (v : Value) (ls : List (List C)) (w : World) (hA : BdRow w a n bs0) (hn : n ≤ 2000000) (hR : RowAt w v ls) (hll : ls.length ≤ 2000000) (hW : ∀ l ∈ ls, WfT l) (hB : ∀ l ∈ ls, 48 * l.length ≤ 140737488355328) (hS : Signs w) :
    Calls Tryz.prog 5 #[.slice a n c, v] w fun e w' => e = .returned (.bool true) ∧ Below w.heap.size w w' := by
  obtain ⟨va, vc, hv⟩ := hR.form
  obtain ⟨q, hq⟩ : ∃ q, ls.length = q := ⟨_, rfl⟩
  rw [hq] at hv
  subst hv
  have HV : Hid (RowAt w (.slice va q vc) ls ∧ Signs w ∧ ls.length = q ∧ ls.length ≤ 2000000 ∧ (∀ l ∈ ls, WfT l) ∧ (∀ l ∈ ls, 48 * l.length ≤ 140737488355328) ∧ BdRow w a n bs0 ∧ n ≤ 2000000) := ⟨hR, hS, hq, hll, hW, hB, hA, hn⟩
  have H9 := u8 w hS
  have hqm : q ≤ 2000000 := by omega
  clear hA hn hR hS hll hW hB hq
  go_enter Tryz.func5, Tryz.ntmps5
  go_wp2_with fail
  refine H9.mono ?_
  rintro e w0 ⟨rfl, hb0⟩
  have HB0 : Hid (Below w.heap.size w w0) := hb0
  have H6 : Calls Tryz.prog 6 #[.slice a n c] w0 fun e w' => ∃ hb M rt, e = .returned (.tuple #[.pointer (some ⟨hb, 0, none⟩), .pointer (some ⟨rt, 0, none⟩)]) ∧ Hid (∃ m, Lp w' hb M 2000000 m w' ∧ MpOk m ∧ w0.heap.size ≤ M ∧ Below w0.heap.size w0 w') := by
    obtain ⟨h1, h2, h3, h4, h5, h6, h7, h8⟩ := HV.out
    refine (i7 a n c bs0 w0 (bd_below h7 hb0) (by omega) (h2.below hb0)).mono ?_
    rintro e w' ⟨hb, M, rt, rfl, HM⟩
    obtain ⟨m, G, bs, hBm, hpe, hup, hbl⟩ := HM.out
    obtain ⟨nn, D, V, hH, hV, hnn, hVl⟩ := hBm.hp
    refine ⟨hb, M, rt, rfl, m, ⟨⟨nn, D, V, hH, hV, fun g hg => (hVl g hg).1, by omega⟩, KeepsBut.of_below (Below.refl _ _), hH.noC, ⟨hBm.len, hH.wf⟩, hup, ?_⟩, ⟨hH.desc, hBm.gl⟩, hBm.low.2.1, hBm.bel⟩
    rw [← hpe]
    simp only [hpOf, List.length_map]
    omega
  clear H9 hb0
  go_wp2_with fail
  refine H6.mono ?_
  rintro e w1 ⟨hb, M, rt, rfl, HM⟩
  clear H6
  obtain ⟨m, HM1⟩ : ∃ m, Hid (Lp w1 hb M 2000000 m w1 ∧ MpOk m ∧ w0.heap.size ≤ M ∧ Below w0.heap.size w0 w1) := HM.out
  clear HM
  have HR1 : Hid (RowAt w1 (.slice va q vc) ls ∧ Signs w1) := by
    have h1 := HM1.out.2.2.2
    exact ⟨(HV.out.1.below HB0.out).below h1, (HV.out.2.1.below HB0.out).below h1⟩
  have H20a : Calls Tryz.prog 20 #[.pointer (some ⟨hb, 0, none⟩), .int .i64 2000, .slice va q vc] w1 fun e w' => SoR w1.heap.size (slvF m ls 2000).out (slvF m ls 2000).bd (slvF m ls 2000).left (slvF m ls 2000).st e w1 w' := by
    obtain ⟨h1, h2, h3, h4, h5, h6, h7, h8⟩ := HV.out
    exact HM1.out.1.c20 (by omega) HR1.out.1 h5 h6 h4 HR1.out.2
  obtain ⟨m', HP⟩ : ∃ m', Hid ((BdC m (slvF m ls 2000).bd m' ∧ (∀ b ∈ (slvF m ls 2000).bd, Sht b.2 ∧ WfT b.2 ∧ wfN b.1) ∧ SolOk (slvF m ls 2000) 2024000) ∧ ((slvF m ls 2000).out = 1 ∧ (∀ t ∈ ls, Svd m' t ∧ noneB t = false) ∨ (slvF m ls 2000).out = 2 ∧ (slvF m ls 2000).bd = [] ∨ (slvF m ls 2000).out = 3 ∧ (slvF m ls 2000).left ≠ [] ∧ (slvF m ls 2000).st = 2000)) := by
    obtain ⟨h1, h2, h3, h4, h5, h6, h7, h8⟩ := HV.out
    obtain ⟨m', j1, j2, j3⟩ := slv1 HM1.out.2.1 HM1.out.1.hw h5 h4
    exact ⟨m', ⟨j1, j2, slvF_ok 2000 HM1.out.1.hw h5 h4 (by omega)⟩, j3⟩
  have HMP : Hid (MpOk m') := MpOk.bdc HP.out.1.1 HM1.out.2.1
  obtain ⟨so, hso⟩ : ∃ s, slvF m ls 2000 = s := ⟨_, rfl⟩
  rw [hso] at HP H20a
  clear hso
  obtain ⟨so, sb, sl, ss⟩ := so
  dsimp only at HP H20a
  go_wp2_with fail
  refine H20a.mono ?_
  rintro e w2 ⟨ba, bn, bc, la, ln, lc, rfl, H4⟩
  clear H20a
  obtain ⟨W4, hW4⟩ : ∃ W4, w2.alloc (.cells #[.int .u8 so, .slice ba bn bc, .slice la ln lc, .int .i64 (ss : Int)] 62) = W4 := ⟨_, rfl⟩
  obtain ⟨r4, hr4⟩ : ∃ r4, w2.heap.size = r4 := ⟨_, rfl⟩
  obtain ⟨bb, us, hbb, hsv⟩ := svR_bn H4.out.1
  have HW4 : Hid (Fo W4 r4 62 (.int .u8 so) (.slice ba bn bc) (.slice la ln lc) (.int .i64 (ss : Int)) ∧ Below w1.heap.size w1 W4 ∧ SvB w1.heap.size W4 (.slice ba bn bc) (.slice la ln lc) bb us sl ∧ hpOf bb = sb) := by
    have hb4 : Below w2.heap.size w2 W4 := by rw [← hW4]; exact below_alloc _ _
    refine ⟨by rw [← hW4, ← hr4]; exact Fo.new _ _ _ _ _ _, H4.out.2.trans (hb4.mono H4.out.2.size), hsv.below hb4, hbb⟩
  clear hsv hbb H4
  have HL4 : Hid (Lp W4 hb M 2000000 m W4 ∧ RowAt W4 (.slice va q vc) ls ∧ Signs W4 ∧ Below w.heap.size w W4 ∧ w.heap.size ≤ M) := by
    have h1 := HW4.out.2.1
    obtain ⟨nn, D, V, g1, g2, g3, g4⟩ := HM1.out.1.hp
    have h2 := HB0.out
    have h3 := HM1.out.2.2.2
    have h4 := h2.trans (h3.mono h2.size)
    exact ⟨⟨⟨nn, D, V, g1.below h1, g2, fun g hg => Nat.lt_of_lt_of_le (g3 g hg) h1.size, g4⟩, KeepsBut.of_below (Below.refl _ _), (g1.below h1).noC, HM1.out.1.hw, HM1.out.1.up, HM1.out.1.ml⟩, HR1.out.1.below h1, HR1.out.2.below h1, h4.trans (h1.mono h4.size), Nat.le_trans h2.size HM1.out.2.2.1⟩
  have HBS : Hid (Bs W4 ba bn bb ∧ (∀ b ∈ bb, TermAt W4 b.v b.l) ∧ RowAt W4 (.slice la ln lc) sl ∧ bn ≤ 2024000 ∧ bb.length = bn) := by
    obtain ⟨h1, h2, h3, h4⟩ := HW4.out.2.2.1.bs HP.out.1.2.2 HW4.out.2.2.2 rfl (by unfold maxLen; omega)
    exact ⟨h1, h2, h3, h4, h1.len⟩
  have HF : Hid (∀ W, KeepsBut M W4 W → W.cell? ⟨r4, 0, none⟩ = some (.int .u8 so) ∧ W.cell? ⟨r4, 1, none⟩ = some (.slice ba bn bc) ∧ W.cell? ⟨r4, 2, none⟩ = some (.slice la ln lc) ∧ W.cell? ⟨r4, 3, none⟩ = some (.int .i64 (ss : Int))) := fun W hW => by
    obtain ⟨⟨x0, x1, x2, x3⟩, _⟩ := HW4.out.1.cells
    have hN := HL4.out.1.noW
    exact ⟨kb_cell hN hW x0, kb_cell hN hW x1, kb_cell hN hW x2, kb_cell hN hW x3⟩
  have HRW : Hid (∀ W, KeepsBut M W4 W → RowAt W (.slice va q vc) ls ∧ Signs W ∧ Below w.heap.size w W) := fun W hW => by
    have hN := HL4.out.1.noW
    have h1 := HL4.out.2.2.2.1
    exact ⟨HL4.out.2.1.kb hN hW, HL4.out.2.2.1.kb hN hW, h1.trans (hW.below HL4.out.2.2.2.2 h1.size)⟩
  have HJ0 : Hid (∃ mj, Lp W4 hb M (2000000 + 0) mj W4 ∧ BdC mj (sb.drop 0) m') := ⟨m, HL4.out.1, by simpa using HP.out.1.1⟩
  have hbn : bn ≤ 2024000 := HBS.out.2.2.2.1
  clear HM1 HR1
  go_wp2_with fail
  clear hW4 hr4
  go_loopw [8] (fun i wr => ∃ j : Nat, j ≤ bn ∧ i = .int .i64 j ∧ Hid (∃ mj, Lp W4 hb M (2000000 + j) mj wr ∧ BdC mj (sb.drop j) m')) (fun i _ => bn - (intOf i).toNat)
  case atStart => exact ⟨0, Nat.zero_le _, rfl, HJ0⟩
  case round =>
    clear HJ0
    obtain ⟨j, hj, rfl, HJ'⟩ := hrel
    obtain ⟨mj, HJ⟩ : ∃ mj, Hid (Lp W4 hb M (2000000 + j) mj wr ∧ BdC mj (sb.drop j) m') := HJ'.out
    clear HJ'
    have hr1 : wr.cell? ⟨r4, 1, none⟩ = some (.slice ba bn bc) := (HF.out wr HJ.out.1.kb).2.1
    by_cases hlt : j < bn
    · have hltI : (j : Int) < (bn : Int) := by omega
      have hj0 : (0 : Int) ≤ (j : Int) := by omega
      obtain ⟨b, o, hx, rfl, hbl, c0, c1, c2⟩ := HBS.out.1.at hlt
      obtain ⟨bj, hbj⟩ : ∃ bj, bb[j] = bj := ⟨_, rfl⟩
      have hT := HBS.out.2.1 _ (List.getElem_mem hx)
      rw [hbj] at c0 c1 c2 hT
      obtain ⟨⟨x1, x2⟩, ta, tn, tc, ll⟩ := bj
      simp only [Bn.v] at c0 c1 c2 hT
      obtain rfl : ll.length = tn := by
        obtain ⟨_, _, e⟩ := hT.form
        simp only [Value.slice.injEq] at e
        exact e.2.1.symm
      have hsbl : j < sb.length := by
        rw [← HW4.out.2.2.2]
        simpa [hpOf] using hx
      have hsj : sb[j] = ((x1, x2), ll) := by
        have h1 : sb[j]? = some ((x1, x2), ll) := by
          rw [← HW4.out.2.2.2]
          simp [hpOf, List.getElem?_map, List.getElem?_eq_getElem hx, hbj]
        rw [List.getElem?_eq_getElem hsbl] at h1
        exact Option.some.inj h1
      have HZ : Hid (bindE mj (x1, x2) ll = 0 ∧ BdC (bindH mj (x1, x2) ll) (sb.drop (j + 1)) m' ∧ Sht ll ∧ WfT ll ∧ wfN (x1, x2) ∧ rightB ll = true) := by
        have h1 := HJ.out.2
        rw [List.drop_eq_getElem_cons hsbl, hsj] at h1
        obtain ⟨k1, k2, k3⟩ := HP.out.1.2.1 _ (List.getElem_mem hsbl)
        rw [hsj] at k1 k2 k3
        cases h1 with
        | cons h2 h3 =>
          refine ⟨h2, h3, k1, k2, k3, ?_⟩
          unfold bindE at h2
          split at h2
          · cases h2
          · next h4 =>
            cases h5 : globalB ll
            · exact absurd (.inr (.inr h5)) h4
            · exact global_right h5
      have hkb := HJ.out.1.kb
      have hN4 := HL4.out.1.noW
      have p0 := kb_cell hN4 hkb c0
      have p1 := kb_cell hN4 hkb c1
      have p2 := kb_cell hN4 hkb c2
      have hTr := hT.kb hN4 hkb
      obtain ⟨tb, tO, ct, rfl, hct⟩ : ∃ tb tO, ∃ ct : C, ta = some ⟨tb, tO, none⟩ ∧ Hid ((∃ r, ll = ct :: r) ∧ wr.cell? ⟨tb, tO, none⟩ = some (.int .u8 ct.k) ∧ wr.cell? ⟨tb, tO + 3, none⟩ = some (.int .i64 ct.vn) ∧ wr.cell? ⟨tb, tO + 4, none⟩ = some (.int .i64 ct.vk)) := by
        have h1 := (right_len HZ.out.2.2.2.2.2).1
        obtain ⟨_, ⟨e, _⟩ | ⟨tb, tO, cap, e, _, _, h5, _⟩⟩ := hTr
        · rw [e] at h1
          simp at h1
        · simp only [Value.slice.injEq] at e
          obtain ⟨rfl, _, _⟩ := e
          obtain ⟨q0, _, _, q3, q4⟩ := term_cells h5 0 h1
          simp only [Nat.zero_mul, Nat.add_zero] at q0 q3 q4
          match ll, h1 with
          | d :: r, _ => exact ⟨tb, tO, d, rfl, ⟨r, rfl⟩, q0, q3, q4⟩
      obtain ⟨ck, cx, cy, hcc⟩ : ∃ ck cx cy, ck = ct.k ∧ cx = ct.vn ∧ cy = ct.vk := ⟨_, _, _, rfl, rfl, rfl⟩
      have HLS : Hid (ll.length = 1 → ck = 4 → lsB cx cy x1 x2 = true) := fun h1 h2 => by
        obtain ⟨⟨r, hr⟩, _⟩ := hct.out
        have h3 := HZ.out.1
        rw [hr] at h1 h3
        have hr0 : r = [] := List.eq_nil_of_length_eq_zero (by simpa using h1)
        rw [hr0] at h3
        have h4 : isVarL [ct] = true := by
          simp [isVarL, ← hcc.1, h2]
        unfold bindE at h3
        split at h3
        · cases h3
        · split at h3
          · cases h3
          · split at h3
            · cases h3
            · next h5 =>
              have h6 := lsB_N (cx, cy) (x1, x2)
              dsimp only at h6
              rw [h6, hcc.2.1, hcc.2.2]
              cases h7 : lessN (ct.vn, ct.vk) (x1, x2)
              · exact absurd ⟨h4, h7⟩ h5
              · rfl
      obtain ⟨tn, htn⟩ : ∃ tn, ll.length = tn := ⟨_, rfl⟩
      obtain ⟨Wb, hWb⟩ : ∃ Wb, wr.alloc (.cells #[.int .i64 x1, .int .i64 x2, .slice (some ⟨tb, tO, none⟩) ll.length tc] 73) = Wb := ⟨_, rfl⟩
      obtain ⟨bx, hbx⟩ : ∃ bx, wr.heap.size = bx := ⟨_, rfl⟩
      have hbW : Below wr.heap.size wr Wb := by rw [← hWb]; exact below_alloc _ _
      have HS0 : BbS Wb M bx tb tO (.int .i64 x1) (.int .i64 x2) (.slice (some ⟨tb, tO, none⟩) tn tc) (.int .u8 ck) (.int .i64 cx) (.int .i64 cy) Wb := by
        have h1 : Wb.heap[bx]? = some (.cells #[.int .i64 x1, .int .i64 x2, .slice (some ⟨tb, tO, none⟩) ll.length tc] 73 (0, 0)) := by rw [← hWb, ← hbx]; exact heap_alloc_new wr _
        obtain ⟨_, q0, q3, q4⟩ := hct.out
        rw [← hcc.1] at q0
        rw [← hcc.2.1] at q3
        rw [← hcc.2.2] at q4
        refine ⟨?_, ?_, ?_, below_cell q0 hbW, below_cell q3 hbW, below_cell q4 hbW, KeepsBut.of_below (Below.refl _ _)⟩
        · rw [cell_of_row Wb bx 0 _ 73 (0, 0) h1]; rfl
        · rw [cell_of_row Wb bx 1 _ 73 (0, 0) h1]; rfl
        · rw [cell_of_row Wb bx 2 _ 73 (0, 0) h1, ← htn]; rfl
      have hLd : Lp W4 hb M (2000000 + j) mj Wb.drew := (HJ.out.1.below hbW).below (Below.refl _ _).drew
      have HC27 : Hid (Calls Tryz.prog 27 #[.pointer (some ⟨hb, 0, none⟩), .agg #[.int .i64 x1, .int .i64 x2], .slice (some ⟨tb, tO, none⟩) tn tc] Wb.drew fun e w' => e = .returned (.int .i64 0) ∧ Hid (Lp W4 hb M (2000000 + j + 1) (bindH mj (x1, x2) ll) w') ∧ KeepsBut M Wb.drew w') := by
        obtain ⟨z1, z2, z3, z4, z5, z6⟩ := HZ.out
        rw [← htn]
        exact hLd.c27 (x1, x2) ll _ z5 ((hTr.below hbW).below (Below.refl _ _).drew) z3 z4 (((HRW.out wr HJ.out.1.kb).2.1.below hbW).below (Below.refl _ _).drew) z1 (by omega)
      have HN : Hid (NoC Wb.drew M) := hLd.noW
      have HJ2 : Hid (BdC (bindH mj (x1, x2) ll) (sb.drop (j + 1)) m') := HZ.out.2.1
      have HC28 : Hid (ll.length = 1 → ck = 4 → ∀ W, Calls Tryz.prog 28 #[.agg #[.int .i64 cx, .int .i64 cy], .agg #[.int .i64 x1, .int .i64 x2]] W fun e w' => e = .returned (.bool true) ∧ Below W.heap.size W w') := fun h1 h2 W => by
        have h3 := i10 cx cy x1 x2 W
        rw [HLS.out h1 h2] at h3
        exact h3
      rw [htn] at HC28 hWb p2
      clear hTr hct hcc hT c0 c1 c2 hkb hN4 hbl hx hbj hsbl hsj hbW hLd HZ HLS HJ htn
      go_wp2_with fail
      clear hWb hbx p0 p1 p2
      by_cases hl1 : tn = 1
      · subst hl1
        by_cases hk4 : ck = 4
        · subst hk4
          have HC28 : Hid (∀ W, Calls Tryz.prog 28 #[.agg #[.int .i64 cx, .int .i64 cy], .agg #[.int .i64 x1, .int .i64 x2]] W fun e w' => e = .returned (.bool true) ∧ Below W.heap.size W w') := HC28.out rfl rfl
          refine wp_region_noPanic ?_
          refine wp_region_held_drew (S := BbS Wb M bx tb tO (.int .i64 x1) (.int .i64 x2) (.slice (some ⟨tb, tO, none⟩) 1 tc) (.int .u8 4) (.int .i64 cx) (.int .i64 cy)) (by kernel_rfl) (bbS_drew HS0) (fun hHeld => ?_)
          have HSd := bbS_drew HS0
          clear HS0
          (refine wpAnyH_take (i := 0) (v := ?_) (by simp only [List.getElem?_toArray, List.getElem?_cons_zero]; rfl) (by kernel_rfl) (by kernel_rfl) (by kernel_rfl) (fun _ _ _ h => h) (Or.inl ⟨by rfl, ?_⟩) (by assumption) ?_; rotate_left; (· (intro w hSw; (try dsimp only at hSw); go_simp <;> with_reducible rfl)); try simp only [Act.put, List.setIfInBounds_toArray, List.set_cons_zero, List.set_cons_succ])
          (refine wpAnyH_take (i := 1) (v := ?_) (by simp only [List.getElem?_toArray, List.getElem?_cons_zero, List.getElem?_cons_succ]; rfl) (by kernel_rfl) (by kernel_rfl) (by kernel_rfl) (fun _ _ _ h => h) (Or.inl ⟨by rfl, ?_⟩) (by assumption) ?_; rotate_left; (· (intro w hSw; (try dsimp only at hSw); go_simp <;> with_reducible rfl)); try simp only [Act.put, List.setIfInBounds_toArray, List.set_cons_zero, List.set_cons_succ])
          (refine wpAnyH_take (i := 2) (v := ?_) (by simp only [List.getElem?_toArray, List.getElem?_cons_zero, List.getElem?_cons_succ]; rfl) (by kernel_rfl) (by kernel_rfl) (by kernel_rfl) (fun _ _ _ h => h) (Or.inl ⟨by rfl, ?_⟩) (by assumption) ?_; rotate_left; (· (intro w hSw; (try dsimp only at hSw); go_simp <;> with_reducible rfl)); try simp only [Act.put, List.setIfInBounds_toArray, List.set_cons_zero, List.set_cons_succ])
          (refine wpAnyH_take (i := 3) (v := ?_) (by simp only [List.getElem?_toArray, List.getElem?_cons_zero, List.getElem?_cons_succ]; rfl) (by kernel_rfl) (by kernel_rfl) (by kernel_rfl) (fun _ _ _ h => h) (Or.inl ⟨by rfl, ?_⟩) (by assumption) ?_; rotate_left; (· (intro w hSw; (try dsimp only at hSw); go_simp <;> with_reducible rfl)); try simp only [Act.put, List.setIfInBounds_toArray, List.set_cons_zero, List.set_cons_succ])
          (refine wpAnyH_take (i := 4) (v := ?_) (by simp only [List.getElem?_toArray, List.getElem?_cons_zero, List.getElem?_cons_succ]; rfl) (by kernel_rfl) (by kernel_rfl) (by kernel_rfl) (fun _ _ _ h => h) (Or.inl ⟨by rfl, ?_⟩) (by assumption) ?_; rotate_left; (· (intro w hSw; (try dsimp only at hSw); go_simp <;> with_reducible rfl)); try simp only [Act.put, List.setIfInBounds_toArray, List.set_cons_zero, List.set_cons_succ])
          refine wpAnyH_ready (rs := [5]) (by kernel_rfl) (by simp) ?_
          refine AllReadyH.cons (by simp only [List.getElem?_toArray, List.getElem?_cons_zero, List.getElem?_cons_succ]; rfl) (fun K hK => ?_) AllReadyH.nil
          go_simp
          go_at_call 27
          refine HC27.out.mono ?_
          rintro e w5 ⟨rfl, HLp5, HKb5⟩
          have HS5 := bbS_kb HN.out HSd HKb5
          refine hK.out _ _ ?_ (fun hHeld => ?_)
          · exact HS5
          clear hK K
          try simp only [Act.put, List.setIfInBounds_toArray, List.set_cons_zero, List.set_cons_succ]
          clear HSd HKb5
          (refine wpAnyH_take (i := 6) (v := ?_) (by simp only [List.getElem?_toArray, List.getElem?_cons_zero, List.getElem?_cons_succ]; rfl) (by kernel_rfl) (by kernel_rfl) (by kernel_rfl) (fun _ _ _ h => h) (Or.inl ⟨by rfl, ?_⟩) (by assumption) ?_; rotate_left; (· (intro w hSw; (try dsimp only at hSw); go_simp <;> with_reducible rfl)); try simp only [Act.put, List.setIfInBounds_toArray, List.set_cons_zero, List.set_cons_succ])
          (refine wpAnyH_take (i := 7) (v := ?_) (by simp only [List.getElem?_toArray, List.getElem?_cons_zero, List.getElem?_cons_succ]; rfl) (by kernel_rfl) (by kernel_rfl) (by kernel_rfl) (fun _ _ _ h => h) (Or.inl ⟨by rfl, ?_⟩) (by assumption) ?_; rotate_left; (· (intro w hSw; (try dsimp only at hSw); go_simp <;> with_reducible rfl)); try simp only [Act.put, List.setIfInBounds_toArray, List.set_cons_zero, List.set_cons_succ])
          (refine wpAnyH_take (i := 8) (v := ?_) (by simp only [List.getElem?_toArray, List.getElem?_cons_zero, List.getElem?_cons_succ]; rfl) (by kernel_rfl) (by kernel_rfl) (by kernel_rfl) (fun _ _ _ h => h) (Or.inl ⟨by rfl, ?_⟩) (by assumption) ?_; rotate_left; (· (intro w hSw; (try dsimp only at hSw); go_simp <;> with_reducible rfl)); try simp only [Act.put, List.setIfInBounds_toArray, List.set_cons_zero, List.set_cons_succ])
          (refine wpAnyH_take (i := 9) (v := ?_) (by simp only [List.getElem?_toArray, List.getElem?_cons_zero, List.getElem?_cons_succ]; rfl) (by kernel_rfl) (by kernel_rfl) (by kernel_rfl) (fun _ _ _ h => h) (Or.inl ⟨by rfl, ?_⟩) (by assumption) ?_; rotate_left; (· (intro w hSw; (try dsimp only at hSw); go_simp <;> with_reducible rfl)); try simp only [Act.put, List.setIfInBounds_toArray, List.set_cons_zero, List.set_cons_succ])
          (refine wpAnyH_take (i := 10) (v := ?_) (by simp only [List.getElem?_toArray, List.getElem?_cons_zero, List.getElem?_cons_succ]; rfl) (by kernel_rfl) (by kernel_rfl) (by kernel_rfl) (fun _ _ _ h => h) (Or.inl ⟨by rfl, ?_⟩) (by assumption) ?_; rotate_left; (· (intro w hSw; (try dsimp only at hSw); go_simp <;> with_reducible rfl)); try simp only [Act.put, List.setIfInBounds_toArray, List.set_cons_zero, List.set_cons_succ])
          (refine wpAnyH_take (i := 11) (v := ?_) (by simp only [List.getElem?_toArray, List.getElem?_cons_zero, List.getElem?_cons_succ]; rfl) (by kernel_rfl) (by kernel_rfl) (by kernel_rfl) (fun _ _ _ h => h) (Or.inl ⟨by rfl, ?_⟩) (by assumption) ?_; rotate_left; (· (intro w hSw; (try dsimp only at hSw); go_simp <;> with_reducible rfl)); try simp only [Act.put, List.setIfInBounds_toArray, List.set_cons_zero, List.set_cons_succ])
          (refine wpAnyH_take (i := 12) (v := ?_) (by simp only [List.getElem?_toArray, List.getElem?_cons_zero, List.getElem?_cons_succ]; rfl) (by kernel_rfl) (by kernel_rfl) (by kernel_rfl) (fun _ _ _ h => h) (Or.inl ⟨by rfl, ?_⟩) (by assumption) ?_; rotate_left; (· (intro w hSw; (try dsimp only at hSw); go_simp <;> with_reducible rfl)); try simp only [Act.put, List.setIfInBounds_toArray, List.set_cons_zero, List.set_cons_succ])
          (refine wpAnyH_take (i := 13) (v := ?_) (by simp only [List.getElem?_toArray, List.getElem?_cons_zero, List.getElem?_cons_succ]; rfl) (by kernel_rfl) (by kernel_rfl) (by kernel_rfl) (fun _ _ _ h => h) (Or.inl ⟨by rfl, ?_⟩) (by assumption) ?_; rotate_left; (· (intro w hSw; (try dsimp only at hSw); go_simp <;> with_reducible rfl)); try simp only [Act.put, List.setIfInBounds_toArray, List.set_cons_zero, List.set_cons_succ])
          (refine wpAnyH_take (i := 14) (v := ?_) (by simp only [List.getElem?_toArray, List.getElem?_cons_zero, List.getElem?_cons_succ]; rfl) (by kernel_rfl) (by kernel_rfl) (by kernel_rfl) (fun _ _ _ h => h) (Or.inl ⟨by rfl, ?_⟩) (by assumption) ?_; rotate_left; (· (intro w hSw; (try dsimp only at hSw); go_simp <;> with_reducible rfl)); try simp only [Act.put, List.setIfInBounds_toArray, List.set_cons_zero, List.set_cons_succ])
          (refine wpAnyH_take (i := 15) (v := ?_) (by simp only [List.getElem?_toArray, List.getElem?_cons_zero, List.getElem?_cons_succ]; rfl) (by kernel_rfl) (by kernel_rfl) (by kernel_rfl) (fun _ _ _ h => h) (Or.inl ⟨by rfl, ?_⟩) (by assumption) ?_; rotate_left; (· (intro w hSw; (try dsimp only at hSw); go_simp <;> with_reducible rfl)); try simp only [Act.put, List.setIfInBounds_toArray, List.set_cons_zero, List.set_cons_succ])
          (refine wpAnyH_take (i := 16) (v := ?_) (by simp only [List.getElem?_toArray, List.getElem?_cons_zero, List.getElem?_cons_succ]; rfl) (by kernel_rfl) (by kernel_rfl) (by kernel_rfl) (fun _ _ _ h => h) (Or.inl ⟨by rfl, ?_⟩) (by assumption) ?_; rotate_left; (· (intro w hSw; (try dsimp only at hSw); go_simp <;> with_reducible rfl)); try simp only [Act.put, List.setIfInBounds_toArray, List.set_cons_zero, List.set_cons_succ])
          (refine wpAnyH_take (i := 17) (v := ?_) (by simp only [List.getElem?_toArray, List.getElem?_cons_zero, List.getElem?_cons_succ]; rfl) (by kernel_rfl) (by kernel_rfl) (by kernel_rfl) (fun _ _ _ h => h) (Or.inl ⟨by rfl, ?_⟩) (by assumption) ?_; rotate_left; (· (intro w hSw; (try dsimp only at hSw); go_simp <;> with_reducible rfl)); try simp only [Act.put, List.setIfInBounds_toArray, List.set_cons_zero, List.set_cons_succ])
          (refine wpAnyH_take (i := 18) (v := ?_) (by simp only [List.getElem?_toArray, List.getElem?_cons_zero, List.getElem?_cons_succ]; rfl) (by kernel_rfl) (by kernel_rfl) (by kernel_rfl) (fun _ _ _ h => h) (Or.inl ⟨by rfl, ?_⟩) (by assumption) ?_; rotate_left; (· (intro w hSw; (try dsimp only at hSw); go_simp <;> with_reducible rfl)); try simp only [Act.put, List.setIfInBounds_toArray, List.set_cons_zero, List.set_cons_succ])
          (refine wpAnyH_take (i := 19) (v := ?_) (by simp only [List.getElem?_toArray, List.getElem?_cons_zero, List.getElem?_cons_succ]; rfl) (by kernel_rfl) (by kernel_rfl) (by kernel_rfl) (fun _ _ _ h => h) (Or.inl ⟨by rfl, ?_⟩) (by assumption) ?_; rotate_left; (· (intro w hSw; (try dsimp only at hSw); go_simp <;> with_reducible rfl)); try simp only [Act.put, List.setIfInBounds_toArray, List.set_cons_zero, List.set_cons_succ])
          (refine wpAnyH_take (i := 20) (v := ?_) (by simp only [List.getElem?_toArray, List.getElem?_cons_zero, List.getElem?_cons_succ]; rfl) (by kernel_rfl) (by kernel_rfl) (by kernel_rfl) (fun _ _ _ h => h) (Or.inl ⟨by rfl, ?_⟩) (by assumption) ?_; rotate_left; (· (intro w hSw; (try dsimp only at hSw); go_simp <;> with_reducible rfl)); try simp only [Act.put, List.setIfInBounds_toArray, List.set_cons_zero, List.set_cons_succ])
          (refine wpAnyH_take (i := 21) (v := ?_) (by simp only [List.getElem?_toArray, List.getElem?_cons_zero, List.getElem?_cons_succ]; rfl) (by kernel_rfl) (by kernel_rfl) (by kernel_rfl) (fun _ _ _ h => h) (Or.inl ⟨by rfl, ?_⟩) (by assumption) ?_; rotate_left; (· (intro w hSw; (try dsimp only at hSw); go_simp <;> with_reducible rfl)); try simp only [Act.put, List.setIfInBounds_toArray, List.set_cons_zero, List.set_cons_succ])
          (refine wpAnyH_take (i := 22) (v := ?_) (by simp only [List.getElem?_toArray, List.getElem?_cons_zero, List.getElem?_cons_succ]; rfl) (by kernel_rfl) (by kernel_rfl) (by kernel_rfl) (fun _ _ _ h => h) (Or.inl ⟨by rfl, ?_⟩) (by assumption) ?_; rotate_left; (· (intro w hSw; (try dsimp only at hSw); go_simp <;> with_reducible rfl)); try simp only [Act.put, List.setIfInBounds_toArray, List.set_cons_zero, List.set_cons_succ])
          (refine wpAnyH_take (i := 23) (v := ?_) (by simp only [List.getElem?_toArray, List.getElem?_cons_zero, List.getElem?_cons_succ]; rfl) (by kernel_rfl) (by kernel_rfl) (by kernel_rfl) (fun _ _ _ h => h) (Or.inl ⟨by rfl, ?_⟩) (by assumption) ?_; rotate_left; (· (intro w hSw; (try dsimp only at hSw); go_simp <;> with_reducible rfl)); try simp only [Act.put, List.setIfInBounds_toArray, List.set_cons_zero, List.set_cons_succ])
          (refine wpAnyH_take (i := 24) (v := ?_) (by simp only [List.getElem?_toArray, List.getElem?_cons_zero, List.getElem?_cons_succ]; rfl) (by kernel_rfl) (by kernel_rfl) (by kernel_rfl) (fun _ _ _ h => h) (Or.inl ⟨by rfl, ?_⟩) (by assumption) ?_; rotate_left; (· (intro w hSw; (try dsimp only at hSw); go_simp <;> with_reducible rfl)); try simp only [Act.put, List.setIfInBounds_toArray, List.set_cons_zero, List.set_cons_succ])
          (refine wpAnyH_take (i := 25) (v := ?_) (by simp only [List.getElem?_toArray, List.getElem?_cons_zero, List.getElem?_cons_succ]; rfl) (by kernel_rfl) (by kernel_rfl) (by kernel_rfl) (fun _ _ _ h => h) (Or.inl ⟨by rfl, ?_⟩) (by assumption) ?_; rotate_left; (· (intro w hSw; (try dsimp only at hSw); go_simp <;> with_reducible rfl)); try simp only [Act.put, List.setIfInBounds_toArray, List.set_cons_zero, List.set_cons_succ])
          (refine wpAnyH_take (i := 26) (v := ?_) (by simp only [List.getElem?_toArray, List.getElem?_cons_zero, List.getElem?_cons_succ]; rfl) (by kernel_rfl) (by kernel_rfl) (by kernel_rfl) (fun _ _ _ h => h) (Or.inl ⟨by rfl, ?_⟩) (by assumption) ?_; rotate_left; (· (intro w hSw; (try dsimp only at hSw); go_simp <;> with_reducible rfl)); try simp only [Act.put, List.setIfInBounds_toArray, List.set_cons_zero, List.set_cons_succ])
          (refine wpAnyH_take (i := 27) (v := ?_) (by simp only [List.getElem?_toArray, List.getElem?_cons_zero, List.getElem?_cons_succ]; rfl) (by kernel_rfl) (by kernel_rfl) (by kernel_rfl) (fun _ _ _ h => h) (Or.inl ⟨by rfl, ?_⟩) (by assumption) ?_; rotate_left; (· (intro w hSw; (try dsimp only at hSw); go_simp <;> with_reducible rfl)); try simp only [Act.put, List.setIfInBounds_toArray, List.set_cons_zero, List.set_cons_succ])
          refine wpAnyH_ready (rs := [28]) (by kernel_rfl) (by simp) ?_
          refine AllReadyH.cons (by simp only [List.getElem?_toArray, List.getElem?_cons_zero, List.getElem?_cons_succ]; rfl) (fun K hK => ?_) AllReadyH.nil
          go_simp
          go_at_call 28
          refine (HC28.out w5).mono ?_
          rintro e w6 ⟨rfl, hb6⟩
          have HS6 := bbS_below HS5 hb6
          have HLp6 : Hid (Lp W4 hb M (2000000 + j + 1) (bindH mj (x1, x2) ll) w6) := HLp5.out.below hb6
          refine hK.out _ _ ?_ (fun hHeld => ?_)
          · exact HS6
          clear hK K
          try simp only [Act.put, List.setIfInBounds_toArray, List.set_cons_zero, List.set_cons_succ]
          clear HS5 HLp5 hb6
          (refine wpAnyH_take (i := 29) (v := ?_) (by simp only [List.getElem?_toArray, List.getElem?_cons_zero, List.getElem?_cons_succ]; rfl) (by kernel_rfl) (by kernel_rfl) (by kernel_rfl) (fun _ _ _ h => h) (Or.inl ⟨by rfl, ?_⟩) (by assumption) ?_; rotate_left; (· (intro w hSw; (try dsimp only at hSw); go_simp <;> with_reducible rfl)); try simp only [Act.put, List.setIfInBounds_toArray, List.set_cons_zero, List.set_cons_succ])
          (refine wpAnyH_take (i := 30) (v := ?_) (by simp only [List.getElem?_toArray, List.getElem?_cons_zero, List.getElem?_cons_succ]; rfl) (by kernel_rfl) (by kernel_rfl) (by kernel_rfl) (fun _ _ _ h => h) (Or.inl ⟨by rfl, ?_⟩) (by assumption) ?_; rotate_left; (· (intro w hSw; (try dsimp only at hSw); go_simp <;> with_reducible rfl)); try simp only [Act.put, List.setIfInBounds_toArray, List.set_cons_zero, List.set_cons_succ])
          (refine wpAnyH_take (i := 31) (v := ?_) (by simp only [List.getElem?_toArray, List.getElem?_cons_zero, List.getElem?_cons_succ]; rfl) (by kernel_rfl) (by kernel_rfl) (by kernel_rfl) (fun _ _ _ h => h) (Or.inl ⟨by rfl, ?_⟩) (by assumption) ?_; rotate_left; (· (intro w hSw; (try dsimp only at hSw); go_simp <;> with_reducible rfl)); try simp only [Act.put, List.setIfInBounds_toArray, List.set_cons_zero, List.set_cons_succ])
          refine wpAnyH_done (by kernel_rfl) ?_ _
          refine NoPanic.normal ?_
          clear hHeld
          go_wp2_with fail
          go_roundw
          case rel => exact ⟨j + 1, by omega, by go_num, _, HLp6.out, HJ2.out⟩
          case measure => simp [intOf]; omega
        · have hk4I : (ck == 4) = false := by rw [beq_eq_false_iff_ne]; exact hk4
          clear HC28
          refine wp_region_noPanic ?_
          refine wp_region_held_drew (S := BbS Wb M bx tb tO (.int .i64 x1) (.int .i64 x2) (.slice (some ⟨tb, tO, none⟩) 1 tc) (.int .u8 ck) (.int .i64 cx) (.int .i64 cy)) (by kernel_rfl) (bbS_drew HS0) (fun hHeld => ?_)
          have HSd := bbS_drew HS0
          clear HS0
          (refine wpAnyH_take (i := 0) (v := ?_) (by simp only [List.getElem?_toArray, List.getElem?_cons_zero]; rfl) (by kernel_rfl) (by kernel_rfl) (by kernel_rfl) (fun _ _ _ h => h) (Or.inl ⟨by rfl, ?_⟩) (by assumption) ?_; rotate_left; (· (intro w hSw; (try dsimp only at hSw); go_simp <;> with_reducible rfl)); try simp only [Act.put, List.setIfInBounds_toArray, List.set_cons_zero, List.set_cons_succ])
          (refine wpAnyH_take (i := 1) (v := ?_) (by simp only [List.getElem?_toArray, List.getElem?_cons_zero, List.getElem?_cons_succ]; rfl) (by kernel_rfl) (by kernel_rfl) (by kernel_rfl) (fun _ _ _ h => h) (Or.inl ⟨by rfl, ?_⟩) (by assumption) ?_; rotate_left; (· (intro w hSw; (try dsimp only at hSw); go_simp <;> with_reducible rfl)); try simp only [Act.put, List.setIfInBounds_toArray, List.set_cons_zero, List.set_cons_succ])
          (refine wpAnyH_take (i := 2) (v := ?_) (by simp only [List.getElem?_toArray, List.getElem?_cons_zero, List.getElem?_cons_succ]; rfl) (by kernel_rfl) (by kernel_rfl) (by kernel_rfl) (fun _ _ _ h => h) (Or.inl ⟨by rfl, ?_⟩) (by assumption) ?_; rotate_left; (· (intro w hSw; (try dsimp only at hSw); go_simp <;> with_reducible rfl)); try simp only [Act.put, List.setIfInBounds_toArray, List.set_cons_zero, List.set_cons_succ])
          (refine wpAnyH_take (i := 3) (v := ?_) (by simp only [List.getElem?_toArray, List.getElem?_cons_zero, List.getElem?_cons_succ]; rfl) (by kernel_rfl) (by kernel_rfl) (by kernel_rfl) (fun _ _ _ h => h) (Or.inl ⟨by rfl, ?_⟩) (by assumption) ?_; rotate_left; (· (intro w hSw; (try dsimp only at hSw); go_simp <;> with_reducible rfl)); try simp only [Act.put, List.setIfInBounds_toArray, List.set_cons_zero, List.set_cons_succ])
          (refine wpAnyH_take (i := 4) (v := ?_) (by simp only [List.getElem?_toArray, List.getElem?_cons_zero, List.getElem?_cons_succ]; rfl) (by kernel_rfl) (by kernel_rfl) (by kernel_rfl) (fun _ _ _ h => h) (Or.inl ⟨by rfl, ?_⟩) (by assumption) ?_; rotate_left; (· (intro w hSw; (try dsimp only at hSw); go_simp <;> with_reducible rfl)); try simp only [Act.put, List.setIfInBounds_toArray, List.set_cons_zero, List.set_cons_succ])
          refine wpAnyH_ready (rs := [5]) (by kernel_rfl) (by simp) ?_
          refine AllReadyH.cons (by simp only [List.getElem?_toArray, List.getElem?_cons_zero, List.getElem?_cons_succ]; rfl) (fun K hK => ?_) AllReadyH.nil
          go_simp
          go_at_call 27
          refine HC27.out.mono ?_
          rintro e w5 ⟨rfl, HLp5, HKb5⟩
          have HS5 := bbS_kb HN.out HSd HKb5
          refine hK.out _ _ ?_ (fun hHeld => ?_)
          · exact HS5
          clear hK K
          try simp only [Act.put, List.setIfInBounds_toArray, List.set_cons_zero, List.set_cons_succ]
          clear HSd HKb5
          (refine wpAnyH_take (i := 6) (v := ?_) (by simp only [List.getElem?_toArray, List.getElem?_cons_zero, List.getElem?_cons_succ]; rfl) (by kernel_rfl) (by kernel_rfl) (by kernel_rfl) (fun _ _ _ h => h) (Or.inl ⟨by rfl, ?_⟩) (by assumption) ?_; rotate_left; (· (intro w hSw; (try dsimp only at hSw); go_simp <;> with_reducible rfl)); try simp only [Act.put, List.setIfInBounds_toArray, List.set_cons_zero, List.set_cons_succ])
          (refine wpAnyH_take (i := 7) (v := ?_) (by simp only [List.getElem?_toArray, List.getElem?_cons_zero, List.getElem?_cons_succ]; rfl) (by kernel_rfl) (by kernel_rfl) (by kernel_rfl) (fun _ _ _ h => h) (Or.inl ⟨by rfl, ?_⟩) (by assumption) ?_; rotate_left; (· (intro w hSw; (try dsimp only at hSw); go_simp <;> with_reducible rfl)); try simp only [Act.put, List.setIfInBounds_toArray, List.set_cons_zero, List.set_cons_succ])
          (refine wpAnyH_take (i := 8) (v := ?_) (by simp only [List.getElem?_toArray, List.getElem?_cons_zero, List.getElem?_cons_succ]; rfl) (by kernel_rfl) (by kernel_rfl) (by kernel_rfl) (fun _ _ _ h => h) (Or.inl ⟨by rfl, ?_⟩) (by assumption) ?_; rotate_left; (· (intro w hSw; (try dsimp only at hSw); go_simp <;> with_reducible rfl)); try simp only [Act.put, List.setIfInBounds_toArray, List.set_cons_zero, List.set_cons_succ])
          (refine wpAnyH_take (i := 9) (v := ?_) (by simp only [List.getElem?_toArray, List.getElem?_cons_zero, List.getElem?_cons_succ]; rfl) (by kernel_rfl) (by kernel_rfl) (by kernel_rfl) (fun _ _ _ h => h) (Or.inl ⟨by rfl, ?_⟩) (by assumption) ?_; rotate_left; (· (intro w hSw; (try dsimp only at hSw); go_simp <;> with_reducible rfl)); try simp only [Act.put, List.setIfInBounds_toArray, List.set_cons_zero, List.set_cons_succ])
          (refine wpAnyH_take (i := 10) (v := ?_) (by simp only [List.getElem?_toArray, List.getElem?_cons_zero, List.getElem?_cons_succ]; rfl) (by kernel_rfl) (by kernel_rfl) (by kernel_rfl) (fun _ _ _ h => h) (Or.inl ⟨by rfl, ?_⟩) (by assumption) ?_; rotate_left; (· (intro w hSw; (try dsimp only at hSw); go_simp <;> with_reducible rfl)); try simp only [Act.put, List.setIfInBounds_toArray, List.set_cons_zero, List.set_cons_succ])
          (refine wpAnyH_take (i := 11) (v := ?_) (by simp only [List.getElem?_toArray, List.getElem?_cons_zero, List.getElem?_cons_succ]; rfl) (by kernel_rfl) (by kernel_rfl) (by kernel_rfl) (fun _ _ _ h => h) (Or.inl ⟨by rfl, ?_⟩) (by assumption) ?_; rotate_left; (· (intro w hSw; (try dsimp only at hSw); go_simp <;> with_reducible rfl)); try simp only [Act.put, List.setIfInBounds_toArray, List.set_cons_zero, List.set_cons_succ])
          (refine wpAnyH_take (i := 12) (v := ?_) (by simp only [List.getElem?_toArray, List.getElem?_cons_zero, List.getElem?_cons_succ]; rfl) (by kernel_rfl) (by kernel_rfl) (by kernel_rfl) (fun _ _ _ h => h) (Or.inl ⟨by rfl, ?_⟩) (by assumption) ?_; rotate_left; (· (intro w hSw; (try dsimp only at hSw); go_simp <;> with_reducible rfl)); try simp only [Act.put, List.setIfInBounds_toArray, List.set_cons_zero, List.set_cons_succ])
          (refine wpAnyH_take (i := 13) (v := ?_) (by simp only [List.getElem?_toArray, List.getElem?_cons_zero, List.getElem?_cons_succ]; rfl) (by kernel_rfl) (by kernel_rfl) (by kernel_rfl) (fun _ _ _ h => h) (Or.inl ⟨by rfl, ?_⟩) (by assumption) ?_; rotate_left; (· (intro w hSw; (try dsimp only at hSw); go_simp <;> with_reducible rfl)); try simp only [Act.put, List.setIfInBounds_toArray, List.set_cons_zero, List.set_cons_succ])
          (refine wpAnyH_take (i := 14) (v := ?_) (by simp only [List.getElem?_toArray, List.getElem?_cons_zero, List.getElem?_cons_succ]; rfl) (by kernel_rfl) (by kernel_rfl) (by kernel_rfl) (fun _ _ _ h => h) (Or.inl ⟨by rfl, ?_⟩) (by assumption) ?_; rotate_left; (· (intro w hSw; (try dsimp only at hSw); go_simp <;> with_reducible rfl)); try simp only [Act.put, List.setIfInBounds_toArray, List.set_cons_zero, List.set_cons_succ])
          (refine wpAnyH_take (i := 15) (v := ?_) (by simp only [List.getElem?_toArray, List.getElem?_cons_zero, List.getElem?_cons_succ]; rfl) (by kernel_rfl) (by kernel_rfl) (by kernel_rfl) (fun _ _ _ h => h) (Or.inl ⟨by rfl, ?_⟩) (by assumption) ?_; rotate_left; (· (intro w hSw; (try dsimp only at hSw); go_simp <;> with_reducible rfl)); try simp only [Act.put, List.setIfInBounds_toArray, List.set_cons_zero, List.set_cons_succ])
          (refine wpAnyH_take (i := 16) (v := ?_) (by simp only [List.getElem?_toArray, List.getElem?_cons_zero, List.getElem?_cons_succ]; rfl) (by kernel_rfl) (by kernel_rfl) (by kernel_rfl) (fun _ _ _ h => h) (Or.inl ⟨by rfl, ?_⟩) (by assumption) ?_; rotate_left; (· (intro w hSw; (try dsimp only at hSw); go_simp <;> with_reducible rfl)); try simp only [Act.put, List.setIfInBounds_toArray, List.set_cons_zero, List.set_cons_succ])
          (refine wpAnyH_take (i := 17) (v := ?_) (by simp only [List.getElem?_toArray, List.getElem?_cons_zero, List.getElem?_cons_succ]; rfl) (by kernel_rfl) (by kernel_rfl) (by kernel_rfl) (fun _ _ _ h => h) (Or.inl ⟨by rfl, ?_⟩) (by assumption) ?_; rotate_left; (· (intro w hSw; (try dsimp only at hSw); go_simp <;> with_reducible rfl)); try simp only [Act.put, List.setIfInBounds_toArray, List.set_cons_zero, List.set_cons_succ])
          (refine wpAnyH_take (i := 18) (v := ?_) (by simp only [List.getElem?_toArray, List.getElem?_cons_zero, List.getElem?_cons_succ]; rfl) (by kernel_rfl) (by kernel_rfl) (by kernel_rfl) (fun _ _ _ h => h) (Or.inl ⟨by rfl, ?_⟩) (by assumption) ?_; rotate_left; (· (intro w hSw; (try dsimp only at hSw); go_simp <;> with_reducible rfl)); try simp only [Act.put, List.setIfInBounds_toArray, List.set_cons_zero, List.set_cons_succ])
          (refine wpAnyH_take (i := 19) (v := ?_) (by simp only [List.getElem?_toArray, List.getElem?_cons_zero, List.getElem?_cons_succ]; rfl) (by kernel_rfl) (by kernel_rfl) (by kernel_rfl) (fun _ _ _ h => h) (Or.inl ⟨by rfl, ?_⟩) (by assumption) ?_; rotate_left; (· (intro w hSw; (try dsimp only at hSw); go_simp <;> with_reducible rfl)); try simp only [Act.put, List.setIfInBounds_toArray, List.set_cons_zero, List.set_cons_succ])
          (refine wpAnyH_take (i := 20) (v := ?_) (by simp only [List.getElem?_toArray, List.getElem?_cons_zero, List.getElem?_cons_succ]; rfl) (by kernel_rfl) (by kernel_rfl) (by kernel_rfl) (fun _ _ _ h => h) (Or.inl ⟨by rfl, ?_⟩) (by assumption) ?_; rotate_left; (· (intro w hSw; (try dsimp only at hSw); go_simp <;> with_reducible rfl)); try simp only [Act.put, List.setIfInBounds_toArray, List.set_cons_zero, List.set_cons_succ])
          (refine wpAnyH_take (i := 21) (v := undef) (by simp only [List.getElem?_toArray, List.getElem?_cons_zero, List.getElem?_cons_succ]; rfl) (by kernel_rfl) (by kernel_rfl) (by kernel_rfl) (fun _ _ _ h => h) (Or.inr ⟨by rfl, rfl⟩) (by assumption) ?_; try simp only [Act.put, List.setIfInBounds_toArray, List.set_cons_zero, List.set_cons_succ])
          (refine wpAnyH_take (i := 22) (v := undef) (by simp only [List.getElem?_toArray, List.getElem?_cons_zero, List.getElem?_cons_succ]; rfl) (by kernel_rfl) (by kernel_rfl) (by kernel_rfl) (fun _ _ _ h => h) (Or.inr ⟨by rfl, rfl⟩) (by assumption) ?_; try simp only [Act.put, List.setIfInBounds_toArray, List.set_cons_zero, List.set_cons_succ])
          (refine wpAnyH_take (i := 23) (v := undef) (by simp only [List.getElem?_toArray, List.getElem?_cons_zero, List.getElem?_cons_succ]; rfl) (by kernel_rfl) (by kernel_rfl) (by kernel_rfl) (fun _ _ _ h => h) (Or.inr ⟨by rfl, rfl⟩) (by assumption) ?_; try simp only [Act.put, List.setIfInBounds_toArray, List.set_cons_zero, List.set_cons_succ])
          (refine wpAnyH_take (i := 24) (v := undef) (by simp only [List.getElem?_toArray, List.getElem?_cons_zero, List.getElem?_cons_succ]; rfl) (by kernel_rfl) (by kernel_rfl) (by kernel_rfl) (fun _ _ _ h => h) (Or.inr ⟨by rfl, rfl⟩) (by assumption) ?_; try simp only [Act.put, List.setIfInBounds_toArray, List.set_cons_zero, List.set_cons_succ])
          (refine wpAnyH_take (i := 25) (v := undef) (by simp only [List.getElem?_toArray, List.getElem?_cons_zero, List.getElem?_cons_succ]; rfl) (by kernel_rfl) (by kernel_rfl) (by kernel_rfl) (fun _ _ _ h => h) (Or.inr ⟨by rfl, rfl⟩) (by assumption) ?_; try simp only [Act.put, List.setIfInBounds_toArray, List.set_cons_zero, List.set_cons_succ])
          (refine wpAnyH_take (i := 26) (v := undef) (by simp only [List.getElem?_toArray, List.getElem?_cons_zero, List.getElem?_cons_succ]; rfl) (by kernel_rfl) (by kernel_rfl) (by kernel_rfl) (fun _ _ _ h => h) (Or.inr ⟨by rfl, rfl⟩) (by assumption) ?_; try simp only [Act.put, List.setIfInBounds_toArray, List.set_cons_zero, List.set_cons_succ])
          (refine wpAnyH_take (i := 27) (v := undef) (by simp only [List.getElem?_toArray, List.getElem?_cons_zero, List.getElem?_cons_succ]; rfl) (by kernel_rfl) (by kernel_rfl) (by kernel_rfl) (fun _ _ _ h => h) (Or.inr ⟨by rfl, rfl⟩) (by assumption) ?_; try simp only [Act.put, List.setIfInBounds_toArray, List.set_cons_zero, List.set_cons_succ])
          (refine wpAnyH_take (i := 28) (v := undef) (by simp only [List.getElem?_toArray, List.getElem?_cons_zero, List.getElem?_cons_succ]; rfl) (by kernel_rfl) (by kernel_rfl) (by kernel_rfl) (fun _ _ _ h => h) (Or.inr ⟨by rfl, rfl⟩) (by assumption) ?_; try simp only [Act.put, List.setIfInBounds_toArray, List.set_cons_zero, List.set_cons_succ])
          (refine wpAnyH_take (i := 29) (v := undef) (by simp only [List.getElem?_toArray, List.getElem?_cons_zero, List.getElem?_cons_succ]; rfl) (by kernel_rfl) (by kernel_rfl) (by kernel_rfl) (fun _ _ _ h => h) (Or.inr ⟨by rfl, rfl⟩) (by assumption) ?_; try simp only [Act.put, List.setIfInBounds_toArray, List.set_cons_zero, List.set_cons_succ])
          (refine wpAnyH_take (i := 30) (v := ?_) (by simp only [List.getElem?_toArray, List.getElem?_cons_zero, List.getElem?_cons_succ]; rfl) (by kernel_rfl) (by kernel_rfl) (by kernel_rfl) (fun _ _ _ h => h) (Or.inl ⟨by rfl, ?_⟩) (by assumption) ?_; rotate_left; (· (intro w hSw; (try dsimp only at hSw); go_simp <;> with_reducible rfl)); try simp only [Act.put, List.setIfInBounds_toArray, List.set_cons_zero, List.set_cons_succ])
          (refine wpAnyH_take (i := 31) (v := ?_) (by simp only [List.getElem?_toArray, List.getElem?_cons_zero, List.getElem?_cons_succ]; rfl) (by kernel_rfl) (by kernel_rfl) (by kernel_rfl) (fun _ _ _ h => h) (Or.inl ⟨by rfl, ?_⟩) (by assumption) ?_; rotate_left; (· (intro w hSw; (try dsimp only at hSw); go_simp <;> with_reducible rfl)); try simp only [Act.put, List.setIfInBounds_toArray, List.set_cons_zero, List.set_cons_succ])
          refine wpAnyH_done (by kernel_rfl) ?_ _
          refine NoPanic.normal ?_
          clear hHeld
          go_wp2_with fail
          go_roundw
          case rel => exact ⟨j + 1, by omega, by go_num, _, HLp5.out, HJ2.out⟩
          case measure => simp [intOf]; omega
      · have hl1I : ((tn : Int) == 1) = false := by rw [beq_eq_false_iff_ne]; omega
        clear HC28
        refine wp_region_noPanic ?_
        refine wp_region_held_drew (S := BbS Wb M bx tb tO (.int .i64 x1) (.int .i64 x2) (.slice (some ⟨tb, tO, none⟩) tn tc) (.int .u8 ck) (.int .i64 cx) (.int .i64 cy)) (by kernel_rfl) (bbS_drew HS0) (fun hHeld => ?_)
        have HSd := bbS_drew HS0
        clear HS0
        (refine wpAnyH_take (i := 0) (v := ?_) (by simp only [List.getElem?_toArray, List.getElem?_cons_zero]; rfl) (by kernel_rfl) (by kernel_rfl) (by kernel_rfl) (fun _ _ _ h => h) (Or.inl ⟨by rfl, ?_⟩) (by assumption) ?_; rotate_left; (· (intro w hSw; (try dsimp only at hSw); go_simp <;> with_reducible rfl)); try simp only [Act.put, List.setIfInBounds_toArray, List.set_cons_zero, List.set_cons_succ])
        (refine wpAnyH_take (i := 1) (v := ?_) (by simp only [List.getElem?_toArray, List.getElem?_cons_zero, List.getElem?_cons_succ]; rfl) (by kernel_rfl) (by kernel_rfl) (by kernel_rfl) (fun _ _ _ h => h) (Or.inl ⟨by rfl, ?_⟩) (by assumption) ?_; rotate_left; (· (intro w hSw; (try dsimp only at hSw); go_simp <;> with_reducible rfl)); try simp only [Act.put, List.setIfInBounds_toArray, List.set_cons_zero, List.set_cons_succ])
        (refine wpAnyH_take (i := 2) (v := ?_) (by simp only [List.getElem?_toArray, List.getElem?_cons_zero, List.getElem?_cons_succ]; rfl) (by kernel_rfl) (by kernel_rfl) (by kernel_rfl) (fun _ _ _ h => h) (Or.inl ⟨by rfl, ?_⟩) (by assumption) ?_; rotate_left; (· (intro w hSw; (try dsimp only at hSw); go_simp <;> with_reducible rfl)); try simp only [Act.put, List.setIfInBounds_toArray, List.set_cons_zero, List.set_cons_succ])
        (refine wpAnyH_take (i := 3) (v := ?_) (by simp only [List.getElem?_toArray, List.getElem?_cons_zero, List.getElem?_cons_succ]; rfl) (by kernel_rfl) (by kernel_rfl) (by kernel_rfl) (fun _ _ _ h => h) (Or.inl ⟨by rfl, ?_⟩) (by assumption) ?_; rotate_left; (· (intro w hSw; (try dsimp only at hSw); go_simp <;> with_reducible rfl)); try simp only [Act.put, List.setIfInBounds_toArray, List.set_cons_zero, List.set_cons_succ])
        (refine wpAnyH_take (i := 4) (v := ?_) (by simp only [List.getElem?_toArray, List.getElem?_cons_zero, List.getElem?_cons_succ]; rfl) (by kernel_rfl) (by kernel_rfl) (by kernel_rfl) (fun _ _ _ h => h) (Or.inl ⟨by rfl, ?_⟩) (by assumption) ?_; rotate_left; (· (intro w hSw; (try dsimp only at hSw); go_simp <;> with_reducible rfl)); try simp only [Act.put, List.setIfInBounds_toArray, List.set_cons_zero, List.set_cons_succ])
        refine wpAnyH_ready (rs := [5]) (by kernel_rfl) (by simp) ?_
        refine AllReadyH.cons (by simp only [List.getElem?_toArray, List.getElem?_cons_zero, List.getElem?_cons_succ]; rfl) (fun K hK => ?_) AllReadyH.nil
        go_simp
        go_at_call 27
        refine HC27.out.mono ?_
        rintro e w5 ⟨rfl, HLp5, HKb5⟩
        have HS5 := bbS_kb HN.out HSd HKb5
        refine hK.out _ _ ?_ (fun hHeld => ?_)
        · exact HS5
        clear hK K
        try simp only [Act.put, List.setIfInBounds_toArray, List.set_cons_zero, List.set_cons_succ]
        clear HSd HKb5
        (refine wpAnyH_take (i := 6) (v := ?_) (by simp only [List.getElem?_toArray, List.getElem?_cons_zero, List.getElem?_cons_succ]; rfl) (by kernel_rfl) (by kernel_rfl) (by kernel_rfl) (fun _ _ _ h => h) (Or.inl ⟨by rfl, ?_⟩) (by assumption) ?_; rotate_left; (· (intro w hSw; (try dsimp only at hSw); go_simp <;> with_reducible rfl)); try simp only [Act.put, List.setIfInBounds_toArray, List.set_cons_zero, List.set_cons_succ])
        (refine wpAnyH_take (i := 7) (v := ?_) (by simp only [List.getElem?_toArray, List.getElem?_cons_zero, List.getElem?_cons_succ]; rfl) (by kernel_rfl) (by kernel_rfl) (by kernel_rfl) (fun _ _ _ h => h) (Or.inl ⟨by rfl, ?_⟩) (by assumption) ?_; rotate_left; (· (intro w hSw; (try dsimp only at hSw); go_simp <;> with_reducible rfl)); try simp only [Act.put, List.setIfInBounds_toArray, List.set_cons_zero, List.set_cons_succ])
        (refine wpAnyH_take (i := 8) (v := ?_) (by simp only [List.getElem?_toArray, List.getElem?_cons_zero, List.getElem?_cons_succ]; rfl) (by kernel_rfl) (by kernel_rfl) (by kernel_rfl) (fun _ _ _ h => h) (Or.inl ⟨by rfl, ?_⟩) (by assumption) ?_; rotate_left; (· (intro w hSw; (try dsimp only at hSw); go_simp <;> with_reducible rfl)); try simp only [Act.put, List.setIfInBounds_toArray, List.set_cons_zero, List.set_cons_succ])
        (refine wpAnyH_take (i := 9) (v := ?_) (by simp only [List.getElem?_toArray, List.getElem?_cons_zero, List.getElem?_cons_succ]; rfl) (by kernel_rfl) (by kernel_rfl) (by kernel_rfl) (fun _ _ _ h => h) (Or.inl ⟨by rfl, ?_⟩) (by assumption) ?_; rotate_left; (· (intro w hSw; (try dsimp only at hSw); go_simp <;> with_reducible rfl)); try simp only [Act.put, List.setIfInBounds_toArray, List.set_cons_zero, List.set_cons_succ])
        (refine wpAnyH_take (i := 10) (v := ?_) (by simp only [List.getElem?_toArray, List.getElem?_cons_zero, List.getElem?_cons_succ]; rfl) (by kernel_rfl) (by kernel_rfl) (by kernel_rfl) (fun _ _ _ h => h) (Or.inl ⟨by rfl, ?_⟩) (by assumption) ?_; rotate_left; (· (intro w hSw; (try dsimp only at hSw); go_simp <;> with_reducible rfl)); try simp only [Act.put, List.setIfInBounds_toArray, List.set_cons_zero, List.set_cons_succ])
        (refine wpAnyH_take (i := 11) (v := ?_) (by simp only [List.getElem?_toArray, List.getElem?_cons_zero, List.getElem?_cons_succ]; rfl) (by kernel_rfl) (by kernel_rfl) (by kernel_rfl) (fun _ _ _ h => h) (Or.inl ⟨by rfl, ?_⟩) (by assumption) ?_; rotate_left; (· (intro w hSw; (try dsimp only at hSw); go_simp <;> with_reducible rfl)); try simp only [Act.put, List.setIfInBounds_toArray, List.set_cons_zero, List.set_cons_succ])
        (refine wpAnyH_take (i := 12) (v := ?_) (by simp only [List.getElem?_toArray, List.getElem?_cons_zero, List.getElem?_cons_succ]; rfl) (by kernel_rfl) (by kernel_rfl) (by kernel_rfl) (fun _ _ _ h => h) (Or.inl ⟨by rfl, ?_⟩) (by assumption) ?_; rotate_left; (· (intro w hSw; (try dsimp only at hSw); go_simp <;> with_reducible rfl)); try simp only [Act.put, List.setIfInBounds_toArray, List.set_cons_zero, List.set_cons_succ])
        (refine wpAnyH_take (i := 13) (v := undef) (by simp only [List.getElem?_toArray, List.getElem?_cons_zero, List.getElem?_cons_succ]; rfl) (by kernel_rfl) (by kernel_rfl) (by kernel_rfl) (fun _ _ _ h => h) (Or.inr ⟨by rfl, rfl⟩) (by assumption) ?_; try simp only [Act.put, List.setIfInBounds_toArray, List.set_cons_zero, List.set_cons_succ])
        (refine wpAnyH_take (i := 14) (v := undef) (by simp only [List.getElem?_toArray, List.getElem?_cons_zero, List.getElem?_cons_succ]; rfl) (by kernel_rfl) (by kernel_rfl) (by kernel_rfl) (fun _ _ _ h => h) (Or.inr ⟨by rfl, rfl⟩) (by assumption) ?_; try simp only [Act.put, List.setIfInBounds_toArray, List.set_cons_zero, List.set_cons_succ])
        (refine wpAnyH_take (i := 15) (v := undef) (by simp only [List.getElem?_toArray, List.getElem?_cons_zero, List.getElem?_cons_succ]; rfl) (by kernel_rfl) (by kernel_rfl) (by kernel_rfl) (fun _ _ _ h => h) (Or.inr ⟨by rfl, rfl⟩) (by assumption) ?_; try simp only [Act.put, List.setIfInBounds_toArray, List.set_cons_zero, List.set_cons_succ])
        (refine wpAnyH_take (i := 16) (v := undef) (by simp only [List.getElem?_toArray, List.getElem?_cons_zero, List.getElem?_cons_succ]; rfl) (by kernel_rfl) (by kernel_rfl) (by kernel_rfl) (fun _ _ _ h => h) (Or.inr ⟨by rfl, rfl⟩) (by assumption) ?_; try simp only [Act.put, List.setIfInBounds_toArray, List.set_cons_zero, List.set_cons_succ])
        (refine wpAnyH_take (i := 17) (v := undef) (by simp only [List.getElem?_toArray, List.getElem?_cons_zero, List.getElem?_cons_succ]; rfl) (by kernel_rfl) (by kernel_rfl) (by kernel_rfl) (fun _ _ _ h => h) (Or.inr ⟨by rfl, rfl⟩) (by assumption) ?_; try simp only [Act.put, List.setIfInBounds_toArray, List.set_cons_zero, List.set_cons_succ])
        (refine wpAnyH_take (i := 18) (v := undef) (by simp only [List.getElem?_toArray, List.getElem?_cons_zero, List.getElem?_cons_succ]; rfl) (by kernel_rfl) (by kernel_rfl) (by kernel_rfl) (fun _ _ _ h => h) (Or.inr ⟨by rfl, rfl⟩) (by assumption) ?_; try simp only [Act.put, List.setIfInBounds_toArray, List.set_cons_zero, List.set_cons_succ])
        (refine wpAnyH_take (i := 19) (v := ?_) (by simp only [List.getElem?_toArray, List.getElem?_cons_zero, List.getElem?_cons_succ]; rfl) (by kernel_rfl) (by kernel_rfl) (by kernel_rfl) (fun _ _ _ h => h) (Or.inl ⟨by rfl, ?_⟩) (by assumption) ?_; rotate_left; (· (intro w hSw; (try dsimp only at hSw); go_simp <;> with_reducible rfl)); try simp only [Act.put, List.setIfInBounds_toArray, List.set_cons_zero, List.set_cons_succ])
        (refine wpAnyH_take (i := 20) (v := ?_) (by simp only [List.getElem?_toArray, List.getElem?_cons_zero, List.getElem?_cons_succ]; rfl) (by kernel_rfl) (by kernel_rfl) (by kernel_rfl) (fun _ _ _ h => h) (Or.inl ⟨by rfl, ?_⟩) (by assumption) ?_; rotate_left; (· (intro w hSw; (try dsimp only at hSw); go_simp <;> with_reducible rfl)); try simp only [Act.put, List.setIfInBounds_toArray, List.set_cons_zero, List.set_cons_succ])
        (refine wpAnyH_take (i := 21) (v := undef) (by simp only [List.getElem?_toArray, List.getElem?_cons_zero, List.getElem?_cons_succ]; rfl) (by kernel_rfl) (by kernel_rfl) (by kernel_rfl) (fun _ _ _ h => h) (Or.inr ⟨by rfl, rfl⟩) (by assumption) ?_; try simp only [Act.put, List.setIfInBounds_toArray, List.set_cons_zero, List.set_cons_succ])
        (refine wpAnyH_take (i := 22) (v := undef) (by simp only [List.getElem?_toArray, List.getElem?_cons_zero, List.getElem?_cons_succ]; rfl) (by kernel_rfl) (by kernel_rfl) (by kernel_rfl) (fun _ _ _ h => h) (Or.inr ⟨by rfl, rfl⟩) (by assumption) ?_; try simp only [Act.put, List.setIfInBounds_toArray, List.set_cons_zero, List.set_cons_succ])
        (refine wpAnyH_take (i := 23) (v := undef) (by simp only [List.getElem?_toArray, List.getElem?_cons_zero, List.getElem?_cons_succ]; rfl) (by kernel_rfl) (by kernel_rfl) (by kernel_rfl) (fun _ _ _ h => h) (Or.inr ⟨by rfl, rfl⟩) (by assumption) ?_; try simp only [Act.put, List.setIfInBounds_toArray, List.set_cons_zero, List.set_cons_succ])
        (refine wpAnyH_take (i := 24) (v := undef) (by simp only [List.getElem?_toArray, List.getElem?_cons_zero, List.getElem?_cons_succ]; rfl) (by kernel_rfl) (by kernel_rfl) (by kernel_rfl) (fun _ _ _ h => h) (Or.inr ⟨by rfl, rfl⟩) (by assumption) ?_; try simp only [Act.put, List.setIfInBounds_toArray, List.set_cons_zero, List.set_cons_succ])
        (refine wpAnyH_take (i := 25) (v := undef) (by simp only [List.getElem?_toArray, List.getElem?_cons_zero, List.getElem?_cons_succ]; rfl) (by kernel_rfl) (by kernel_rfl) (by kernel_rfl) (fun _ _ _ h => h) (Or.inr ⟨by rfl, rfl⟩) (by assumption) ?_; try simp only [Act.put, List.setIfInBounds_toArray, List.set_cons_zero, List.set_cons_succ])
        (refine wpAnyH_take (i := 26) (v := undef) (by simp only [List.getElem?_toArray, List.getElem?_cons_zero, List.getElem?_cons_succ]; rfl) (by kernel_rfl) (by kernel_rfl) (by kernel_rfl) (fun _ _ _ h => h) (Or.inr ⟨by rfl, rfl⟩) (by assumption) ?_; try simp only [Act.put, List.setIfInBounds_toArray, List.set_cons_zero, List.set_cons_succ])
        (refine wpAnyH_take (i := 27) (v := undef) (by simp only [List.getElem?_toArray, List.getElem?_cons_zero, List.getElem?_cons_succ]; rfl) (by kernel_rfl) (by kernel_rfl) (by kernel_rfl) (fun _ _ _ h => h) (Or.inr ⟨by rfl, rfl⟩) (by assumption) ?_; try simp only [Act.put, List.setIfInBounds_toArray, List.set_cons_zero, List.set_cons_succ])
        (refine wpAnyH_take (i := 28) (v := undef) (by simp only [List.getElem?_toArray, List.getElem?_cons_zero, List.getElem?_cons_succ]; rfl) (by kernel_rfl) (by kernel_rfl) (by kernel_rfl) (fun _ _ _ h => h) (Or.inr ⟨by rfl, rfl⟩) (by assumption) ?_; try simp only [Act.put, List.setIfInBounds_toArray, List.set_cons_zero, List.set_cons_succ])
        (refine wpAnyH_take (i := 29) (v := undef) (by simp only [List.getElem?_toArray, List.getElem?_cons_zero, List.getElem?_cons_succ]; rfl) (by kernel_rfl) (by kernel_rfl) (by kernel_rfl) (fun _ _ _ h => h) (Or.inr ⟨by rfl, rfl⟩) (by assumption) ?_; try simp only [Act.put, List.setIfInBounds_toArray, List.set_cons_zero, List.set_cons_succ])
        (refine wpAnyH_take (i := 30) (v := ?_) (by simp only [List.getElem?_toArray, List.getElem?_cons_zero, List.getElem?_cons_succ]; rfl) (by kernel_rfl) (by kernel_rfl) (by kernel_rfl) (fun _ _ _ h => h) (Or.inl ⟨by rfl, ?_⟩) (by assumption) ?_; rotate_left; (· (intro w hSw; (try dsimp only at hSw); go_simp <;> with_reducible rfl)); try simp only [Act.put, List.setIfInBounds_toArray, List.set_cons_zero, List.set_cons_succ])
        (refine wpAnyH_take (i := 31) (v := ?_) (by simp only [List.getElem?_toArray, List.getElem?_cons_zero, List.getElem?_cons_succ]; rfl) (by kernel_rfl) (by kernel_rfl) (by kernel_rfl) (fun _ _ _ h => h) (Or.inl ⟨by rfl, ?_⟩) (by assumption) ?_; rotate_left; (· (intro w hSw; (try dsimp only at hSw); go_simp <;> with_reducible rfl)); try simp only [Act.put, List.setIfInBounds_toArray, List.set_cons_zero, List.set_cons_succ])
        refine wpAnyH_done (by kernel_rfl) ?_ _
        refine NoPanic.normal ?_
        clear hHeld
        go_wp2_with fail
        go_roundw
        case rel => exact ⟨j + 1, by omega, by go_num, _, HLp5.out, HJ2.out⟩
        case measure => simp [intOf]; omega
    · have hltI : ¬ (j : Int) < (bn : Int) := by omega
      obtain rfl : j = bn := by omega
      have hsl : sb.length = j := by
        rw [← HW4.out.2.2.2]
        simpa [hpOf] using HBS.out.2.2.2.2
      have HE : Hid (Lp W4 hb M 4024000 m' wr) := by
        have h1 := HJ.out.2
        rw [List.drop_of_length_le (by omega)] at h1
        have h2 := HJ.out.1
        cases h1
        exact h2.more (by omega)
      obtain ⟨y0, y1, y2, y3⟩ := HF.out wr HE.out.kb
      clear HJ hr1
      rcases HP.out.2 with ⟨rfl, hs⟩ | ⟨rfl, hb0⟩ | ⟨rfl, hl0, hst⟩
      · have HS : Hid (∀ t ∈ ls, Svd m' t ∧ noneB t = false) := hs
        have HQ2 : Hid ((slvF m' ls 2000).bd = [] ∧ (shB m' ls = true → (slvF m' ls 2000).out ≠ 2)) := by
          obtain ⟨h1, h2, h3, h4, h5, h6, h7, h8⟩ := HV.out
          exact slv2 HMP.out HE.out.hw h5 h4 hs
        have H20b : Calls Tryz.prog 20 #[.pointer (some ⟨hb, 0, none⟩), .int .i64 2000, .slice va q vc] wr fun e w' => SoR wr.heap.size (slvF m' ls 2000).out (slvF m' ls 2000).bd (slvF m' ls 2000).left (slvF m' ls 2000).st e wr w' := by
          obtain ⟨h1, h2, h3, h4, h5, h6, h7, h8⟩ := HV.out
          obtain ⟨r1, r2, r3⟩ := HRW.out wr HE.out.kb
          exact HE.out.c20 (by omega) r1 h5 h6 (by omega) r2
        obtain ⟨s2, hs2⟩ : ∃ s, slvF m' ls 2000 = s := ⟨_, rfl⟩
        rw [hs2] at H20b HQ2
        clear hs2 hs
        obtain ⟨so2, sb2, sl2, ss2⟩ := s2
        dsimp only at H20b HQ2
        go_wp2_with fail
        refine H20b.mono ?_
        rintro e w3 ⟨ca, cn, cc, da, dn, dc, rfl, H5⟩
        clear H20b y0 y1 y2 y3
        obtain rfl : cn = 0 := by
          obtain ⟨ts, us', k1, _⟩ := H5.out.1
          rw [HQ2.out.1] at k1
          obtain ⟨a', c', e', _⟩ := own_sl k1
          simp only [Value.slice.injEq] at e'
          simpa using e'.2.1
        obtain ⟨W5, hW5⟩ : ∃ W5, w3.alloc (.cells #[.int .u8 so2, .slice ca 0 cc, .slice da dn dc, .int .i64 (ss2 : Int)] 62) = W5 := ⟨_, rfl⟩
        obtain ⟨r5, hr5⟩ : ∃ r5, w3.heap.size = r5 := ⟨_, rfl⟩
        have HL5 : Hid (Lp W4 hb M 4024000 m' W5) := by
          have hb4 : Below w3.heap.size w3 W5 := by rw [← hW5]; exact below_alloc _ _
          exact HE.out.below (H5.out.2.trans (hb4.mono H5.out.2.size))
        have hF5 : Fo W5 r5 62 (.int .u8 so2) (.slice ca 0 cc) (.slice da dn dc) (.int .i64 (ss2 : Int)) := by rw [← hW5, ← hr5]; exact Fo.new _ _ _ _ _ _
        obtain ⟨⟨z0, z1, _, _⟩, _⟩ := hF5.cells
        have H29 : Calls Tryz.prog 29 #[.pointer (some ⟨hb, 0, none⟩), .slice va q vc] W5 fun e w' => e = .returned (.bool (shB m' ls)) ∧ Hid (Lp W4 hb M 4024000 m' w') := by
          refine (HL5.out.c29 (by omega) (HRW.out W5 HL5.out.kb).1).mono ?_
          rintro e w' ⟨rfl, h1⟩
          exact ⟨rfl, HL5.out.below h1⟩
        have HROW : Hid (∀ W, Hid (Lp W4 hb M 4024000 m' W) → ∀ i : Nat, i < q → ∃ b o ua un uc t, va = some ⟨b, o, none⟩ ∧ W.cell? ⟨b, o + i, none⟩ = some (.slice ua un uc) ∧ Hid (TermAt W (.slice ua un uc) t ∧ t ∈ ls)) := fun W hW i hi => by
          obtain ⟨_, ⟨e, _⟩ | ⟨b, o, cap, vs, h1, h2, h3, h4, h5, h6, h7⟩⟩ := (HRW.out W hW.out.kb).1
          · have := HV.out.2.2.1
            rw [e] at this
            simp at this
            omega
          · simp only [Value.slice.injEq] at h1
            obtain ⟨rfl, _, _⟩ := h1
            have hil : i < ls.length := by have := HV.out.2.2.1; omega
            have hiv : i < vs.length := by omega
            have h8 := h6 i _ (List.getElem?_eq_getElem hiv)
            have h10 := h7 i _ _ (List.getElem?_eq_getElem hiv) (List.getElem?_eq_getElem hil)
            obtain ⟨ua, uc, h9⟩ := h10.form
            rw [h9] at h8 h10
            exact ⟨b, o, ua, _, uc, _, rfl, h8, h10, List.getElem_mem hil⟩
        clear hF5 H5
        by_cases h2 : so2 = 2
        · subst h2
          have hsh : shB m' ls = false := by
            cases h : shB m' ls
            · rfl
            · exact absurd rfl (HQ2.out.2 h)
          rw [hsh] at H29
          go_wp2_with fail
          clear hW5 hr5
          refine H29.mono ?_
          rintro e w9 ⟨rfl, HT0⟩
          clear H29 z0 z1
          go_wp2_with fail
          go_loopw [11] (fun i wq => ∃ i2 : Nat, i2 ≤ q ∧ i = .int .i64 i2 ∧ Hid (Lp W4 hb M 4024000 m' wq)) (fun i _ => q - (intOf i).toNat)
          case atStart => exact ⟨0, Nat.zero_le _, rfl, HT0⟩
          case round =>
            obtain ⟨i, hi, rfl, HI⟩ := hrel
            by_cases hlt2 : i < q
            · have hlt2I : (i : Int) < (q : Int) := by omega
              have hi0 : (0 : Int) ≤ (i : Int) := by omega
              obtain ⟨b, o, ua, un, uc, t, rfl, c2, ht⟩ := HROW.out wr HI i hlt2
              have HT : Hid (WfT t ∧ eqB t = true ∧ Svd m' t) := by
                obtain ⟨h1, h2, h3, h4, h5, h6, h7, h8⟩ := HV.out
                obtain ⟨k1, k2⟩ := HS.out t ht.out.2
                rw [none_same] at k2
                simp only [Bool.or_eq_false_iff, Bool.not_eq_false'] at k2
                exact ⟨h5 t ht.out.2, k2.1.1, k1⟩
              have H30 : Calls Tryz.prog 30 #[.slice ua un uc] wr fun e w' => ∃ xa xn xc ya yn yc, e = .returned (.tuple #[.slice xa xn xc, .slice ya yn yc, .bool true]) ∧ Hid (Lp W4 hb M 4024000 m' w' ∧ TermAt w' (.slice xa xn xc) (sd1 t) ∧ TermAt w' (.slice ya yn yc) (sd2 t)) := by
                refine (u6s t _ wr ht.out.1 (HRW.out wr HI.out.kb).2.1).mono ?_
                rintro e w' ⟨x, y, rfl, k1, k2, k3, k4⟩
                have hl := sd_len t
                have hx := sd_txt t (ht.out.1.1.2)
                have k5 := ownT_term k1 (by have := hl.1; unfold maxLen; omega) hx.1
                have k6 := ownT_term k2 (by have := hl.2; unfold maxLen; omega) hx.2
                obtain ⟨xa, xc, e1⟩ := k5.form
                obtain ⟨ya, yc, e2⟩ := k6.form
                rw [e1] at k5
                rw [e2] at k6
                refine ⟨xa, _, xc, ya, _, yc, ?_, HI.out.below k4, k5, k6⟩
                rw [e1, e2, HT.out.2.1]
              clear ht
              go_wp2_with fail
              refine H30.mono ?_
              rintro e w6 ⟨xa, xn, xc, ya, yn, yc, rfl, H6⟩
              clear H30 c2
              have H31a := H6.out.1.c31 HMP.out H6.out.2.1 (sd_wf HT.out.1).1 (HRW.out w6 H6.out.1.kb).2.1
              go_wp2_with fail
              refine H31a.mono ?_
              rintro e w7 ⟨pa, pn, pc, ec, rfl, H7⟩
              clear H31a
              have HL7 : Hid (Lp W4 hb M 4024000 m' w7) := H6.out.1.below H7.out.1
              have H31b := HL7.out.c31 HMP.out (H6.out.2.2.below H7.out.1) (sd_wf HT.out.1).2 (HRW.out w7 HL7.out.kb).2.1
              go_wp2_with fail
              refine H31b.mono ?_
              rintro e w8 ⟨ra, rn, rc, fc, rfl, H8⟩
              clear H31b
              have HL8 : Hid (Lp W4 hb M 4024000 m' w8) := HL7.out.below H8.out.1
              by_cases he : ec = 0
              · subst he
                by_cases hf : fc = 0
                · subst hf
                  have H32 : Calls Tryz.prog 32 #[.slice pa pn pc, .slice ra rn rc] w8 fun e w' => e = .returned (.bool true) ∧ Hid (Lp W4 hb M 4024000 m' w') := by
                    obtain ⟨o1, k1, k2⟩ := H7.out.2 rfl
                    obtain ⟨o2, k3, k4⟩ := H8.out.2 rfl
                    obtain rfl := svd_ex HT.out.2.2 _ _ k1 k3
                    refine (c13 o1 o1 _ _ w8 (k2.below H8.out.1) k4).mono ?_
                    rintro e w' ⟨rfl, k5⟩
                    exact ⟨by rw [eqT_refl], HL8.out.below k5⟩
                  go_wp2_with fail
                  refine H32.mono ?_
                  rintro e w9' ⟨rfl, H9'⟩
                  clear H32
                  go_wp2_with fail
                  go_roundw
                  case rel => exact ⟨i + 1, by omega, by go_num, H9'⟩
                  case measure => simp [intOf]; omega
                · have hfI : (fc == 0) = false := by rw [beq_eq_false_iff_ne]; exact hf
                  go_wp2_with fail
                  go_roundw
                  case rel => exact ⟨i + 1, by omega, by go_num, HL8⟩
                  case measure => simp [intOf]; omega
              · have heI : (ec == 0) = false := by rw [beq_eq_false_iff_ne]; exact he
                go_wp2_with fail
                go_roundw
                case rel => exact ⟨i + 1, by omega, by go_num, HL8⟩
                case measure => simp [intOf]; omega
            · have hlt2I : ¬ (i : Int) < (q : Int) := by omega
              go_wp2_with fail
              go_ret
              exact ⟨rfl, (HRW.out wr HI.out.kb).2.2⟩
        · have h2I : (so2 == 2) = false := by rw [beq_eq_false_iff_ne]; exact h2
          have HT0 : Hid (Lp W4 hb M 4024000 m' W5) := HL5
          clear H29
          go_wp2_with fail
          clear hW5 hr5 z0 z1
          go_loopw [11] (fun i wq => ∃ i2 : Nat, i2 ≤ q ∧ i = .int .i64 i2 ∧ Hid (Lp W4 hb M 4024000 m' wq)) (fun i _ => q - (intOf i).toNat)
          case atStart => exact ⟨0, Nat.zero_le _, rfl, HT0⟩
          case round =>
            obtain ⟨i, hi, rfl, HI⟩ := hrel
            by_cases hlt2 : i < q
            · have hlt2I : (i : Int) < (q : Int) := by omega
              have hi0 : (0 : Int) ≤ (i : Int) := by omega
              obtain ⟨b, o, ua, un, uc, t, rfl, c2, ht⟩ := HROW.out wr HI i hlt2
              have HT : Hid (WfT t ∧ eqB t = true ∧ Svd m' t) := by
                obtain ⟨h1, h2, h3, h4, h5, h6, h7, h8⟩ := HV.out
                obtain ⟨k1, k2⟩ := HS.out t ht.out.2
                rw [none_same] at k2
                simp only [Bool.or_eq_false_iff, Bool.not_eq_false'] at k2
                exact ⟨h5 t ht.out.2, k2.1.1, k1⟩
              have H30 : Calls Tryz.prog 30 #[.slice ua un uc] wr fun e w' => ∃ xa xn xc ya yn yc, e = .returned (.tuple #[.slice xa xn xc, .slice ya yn yc, .bool true]) ∧ Hid (Lp W4 hb M 4024000 m' w' ∧ TermAt w' (.slice xa xn xc) (sd1 t) ∧ TermAt w' (.slice ya yn yc) (sd2 t)) := by
                refine (u6s t _ wr ht.out.1 (HRW.out wr HI.out.kb).2.1).mono ?_
                rintro e w' ⟨x, y, rfl, k1, k2, k3, k4⟩
                have hl := sd_len t
                have hx := sd_txt t (ht.out.1.1.2)
                have k5 := ownT_term k1 (by have := hl.1; unfold maxLen; omega) hx.1
                have k6 := ownT_term k2 (by have := hl.2; unfold maxLen; omega) hx.2
                obtain ⟨xa, xc, e1⟩ := k5.form
                obtain ⟨ya, yc, e2⟩ := k6.form
                rw [e1] at k5
                rw [e2] at k6
                refine ⟨xa, _, xc, ya, _, yc, ?_, HI.out.below k4, k5, k6⟩
                rw [e1, e2, HT.out.2.1]
              clear ht
              go_wp2_with fail
              refine H30.mono ?_
              rintro e w6 ⟨xa, xn, xc, ya, yn, yc, rfl, H6⟩
              clear H30 c2
              have H31a := H6.out.1.c31 HMP.out H6.out.2.1 (sd_wf HT.out.1).1 (HRW.out w6 H6.out.1.kb).2.1
              go_wp2_with fail
              refine H31a.mono ?_
              rintro e w7 ⟨pa, pn, pc, ec, rfl, H7⟩
              clear H31a
              have HL7 : Hid (Lp W4 hb M 4024000 m' w7) := H6.out.1.below H7.out.1
              have H31b := HL7.out.c31 HMP.out (H6.out.2.2.below H7.out.1) (sd_wf HT.out.1).2 (HRW.out w7 HL7.out.kb).2.1
              go_wp2_with fail
              refine H31b.mono ?_
              rintro e w8 ⟨ra, rn, rc, fc, rfl, H8⟩
              clear H31b
              have HL8 : Hid (Lp W4 hb M 4024000 m' w8) := HL7.out.below H8.out.1
              by_cases he : ec = 0
              · subst he
                by_cases hf : fc = 0
                · subst hf
                  have H32 : Calls Tryz.prog 32 #[.slice pa pn pc, .slice ra rn rc] w8 fun e w' => e = .returned (.bool true) ∧ Hid (Lp W4 hb M 4024000 m' w') := by
                    obtain ⟨o1, k1, k2⟩ := H7.out.2 rfl
                    obtain ⟨o2, k3, k4⟩ := H8.out.2 rfl
                    obtain rfl := svd_ex HT.out.2.2 _ _ k1 k3
                    refine (c13 o1 o1 _ _ w8 (k2.below H8.out.1) k4).mono ?_
                    rintro e w' ⟨rfl, k5⟩
                    exact ⟨by rw [eqT_refl], HL8.out.below k5⟩
                  go_wp2_with fail
                  refine H32.mono ?_
                  rintro e w9' ⟨rfl, H9'⟩
                  clear H32
                  go_wp2_with fail
                  go_roundw
                  case rel => exact ⟨i + 1, by omega, by go_num, H9'⟩
                  case measure => simp [intOf]; omega
                · have hfI : (fc == 0) = false := by rw [beq_eq_false_iff_ne]; exact hf
                  go_wp2_with fail
                  go_roundw
                  case rel => exact ⟨i + 1, by omega, by go_num, HL8⟩
                  case measure => simp [intOf]; omega
              · have heI : (ec == 0) = false := by rw [beq_eq_false_iff_ne]; exact he
                go_wp2_with fail
                go_roundw
                case rel => exact ⟨i + 1, by omega, by go_num, HL8⟩
                case measure => simp [intOf]; omega
            · have hlt2I : ¬ (i : Int) < (q : Int) := by omega
              go_wp2_with fail
              go_ret
              exact ⟨rfl, (HRW.out wr HI.out.kb).2.2⟩
      · obtain rfl : j = 0 := by
          rw [hb0] at hsl
          exact hsl.symm
        go_wp2_with fail
        go_ret
        exact ⟨rfl, (HRW.out wr HE.out.kb).2.2⟩
      · have hln : (0 : Int) < (ln : Int) := by
          obtain ⟨_, _, e⟩ := HBS.out.2.2.1.form
          simp only [Value.slice.injEq] at e
          have h1 := List.length_pos_iff.2 hl0
          omega
        have hst' : (ss : Int) = 2000 := by omega
        rw [hst'] at y3
        go_wp2_with fail
        go_ret
        exact ⟨rfl, (HRW.out wr HE.out.kb).2.2⟩
end Go.Proofs.YtljggjllijacjaaGreatDoor
