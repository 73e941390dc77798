/- Contract of the statement on one variable and another one. -/
import Derived.Test.YtdonclnjgopmbaaOI
namespace Go.Proofs.Ytdonclnjgopmbaa
open Go.RowKit
attribute [local go_sem ↓] Go.wp_at_zero Go.wp_at_succ
def ApI (wB : World) (tb rb wb k : Nat) (w' : World) : Prop := ∃ n s m q, TbAt w' wB.heap.size tb rb wb n s m q ∧ n ≤ k ∧ GoodM m k ∧ Below wB.heap.size wB w'
abbrev ddz : Array Value := #[.int .i64 0, .int .i64 0, .int .i64 0, .int .i64 0, .slice none 0 0]
structure DdC (w : World) (b : Nat) (x0 x1 x2 x3 : Int) (v : Value) : Prop where
  c0 : w.cell? ⟨b, 0, none⟩ = some (.int .i64 x0)
  c1 : w.cell? ⟨b, 1, none⟩ = some (.int .i64 x1)
  c2 : w.cell? ⟨b, 2, none⟩ = some (.int .i64 x2)
  c3 : w.cell? ⟨b, 3, none⟩ = some (.int .i64 x3)
  c4 : w.cell? ⟨b, 4, none⟩ = some v
  g0 : w.frozen? ⟨b, 0, none⟩ = false
  g1 : w.frozen? ⟨b, 1, none⟩ = false
  g2 : w.frozen? ⟨b, 2, none⟩ = false
  g3 : w.frozen? ⟨b, 3, none⟩ = false
  g4 : w.frozen? ⟨b, 4, none⟩ = false
theorem dd_cells {w : World} {b : Nat} {x0 x1 x2 x3 : Int} {v : Value} (h : w.heap[b]? = some (.cells #[.int .i64 x0, .int .i64 x1, .int .i64 x2, .int .i64 x3, v] 31 (0, 0))) : DdC w b x0 x1 x2 x3 v :=
  ⟨by rw [cell_of_row w b 0 _ 31 (0, 0) h]; rfl, by rw [cell_of_row w b 1 _ 31 (0, 0) h]; rfl, by rw [cell_of_row w b 2 _ 31 (0, 0) h]; rfl, by rw [cell_of_row w b 3 _ 31 (0, 0) h]; rfl, by rw [cell_of_row w b 4 _ 31 (0, 0) h]; rfl,
    frozen_of_row w b 0 _ 31 h, frozen_of_row w b 1 _ 31 h, frozen_of_row w b 2 _ 31 h, frozen_of_row w b 3 _ 31 h, frozen_of_row w b 4 _ 31 h⟩
/-- What is there in a round. -/
structure Md (wB : World) (tb rb wb xb g2 k2 : Nat) (kd x1 x2 nd : Int) (dv : Value) (old : List Int) (V : World) (nn : Nat) (s : Nm → Sl) (m : Nm → List Int) (q : Nm → Bool) : Prop where
  tab : TbAt V wB.heap.size tb rb wb nn s m q
  xc : V.heap[xb]? = some (.cells #[.int .i64 kd, .int .i64 x1, .int .i64 x2, .int .i64 nd, dv] 31 (0, 0))
  was : In V (some ⟨g2, 0, none⟩) k2 old
  wt : ∃ cu : Array Value, V.heap[g2]? = some (.cells cu 3 (0, 0))
  off : ∀ x, wfN x → blk (s x).a ≠ some g2
  bel : Below wB.heap.size wB V
section
variable {wB V V' : World} {tb rb wb xb g2 k2 nn n' : Nat} {kd x1 x2 nd : Int} {dv : Value} {old : List Int} {s s' : Nm → Sl} {m m' : Nm → List Int} {q q' : Nm → Bool}
theorem Md.to (h : Md wB tb rb wb xb g2 k2 kd x1 x2 nd dv old V nn s m q) (ht : TbAt V' wB.heap.size tb rb wb n' s' m' q') (hk : TbTo V V' rb wb s s') : Md wB tb rb wb xb g2 k2 kd x1 x2 nd dv old V' n' s' m' q' := by
  obtain ⟨cu, hcu⟩ := h.wt
  have hg : V'.heap[g2]? = V.heap[g2]? := hk.block g2 (Array.getElem?_eq_some_iff.1 hcu).1 (h.tab.rows.ne_cells hcu) (h.tab.want.ne_cells hcu) h.off
  refine ⟨ht, ?_, h.was.keeps fun g e => by cases e; exact hg, ⟨cu, hg.trans hcu⟩, fun x hx e => ?_, h.bel.trans (TbTo.below h.tab hk h.bel.size)⟩
  · refine (hk.block xb (Array.getElem?_eq_some_iff.1 h.xc).1 (h.tab.rows.ne_cells h.xc) (h.tab.want.ne_cells h.xc) fun x hx e => ?_).trans h.xc
    obtain ⟨cu, h1⟩ := (h.tab.row x hx).type e
    rw [h.xc] at h1; cases h1
  · rcases hk.rows x g2 hx e with ⟨y, hy, e'⟩ | e'
    · exact h.off y hy e'
    · have := (Array.getElem?_eq_some_iff.1 hcu).1
      omega
theorem Md.below (h : Md wB tb rb wb xb g2 k2 kd x1 x2 nd dv old V nn s m q) (hb : Below V.heap.size V V') : Md wB tb rb wb xb g2 k2 kd x1 x2 nd dv old V' nn s m q := h.to (h.tab.below hb) (TbTo.of hb)
end
/-- Behind a deed. -/
def Mid (wB : World) (tb rb wb xb g2 k2 k : Nat) (kd x1 x2 nd : Int) (dv : Value) (old : List Int) (m : Nm → List Int) (V : World) : Prop :=
  ∃ n s q, n ≤ k ∧ Md wB tb rb wb xb g2 k2 kd x1 x2 nd dv old V n s m q
theorem Mid.below {wB V V' : World} {tb rb wb xb g2 k2 k : Nat} {kd x1 x2 nd : Int} {dv : Value} {old : List Int} {m : Nm → List Int} (h : Mid wB tb rb wb xb g2 k2 k kd x1 x2 nd dv old m V) (hb : Below V.heap.size V V') : Mid wB tb rb wb xb g2 k2 k kd x1 x2 nd dv old m V' := by
  obtain ⟨n, s, q, h1, h2⟩ := h
  exact ⟨n, s, q, h1, h2.below hb⟩
set_option maxRecDepth 100000 in
set_option maxHeartbeats 16000000 in
theorem o4 (a : Option Addr) (n c : Nat) (es : List Dd) (v : Nm) (w : World) (hA : DdRow w a n es) (hn : n ≤ 9223372036854775807) (hv : wfN v) :
    Calls Try.prog 4 #[.slice a n c, .agg #[.int .i64 v.1, .int .i64 v.2]] w fun e w' => e = .returned (.bool true) ∧ Below w.heap.size w w' := by
  obtain ⟨wB, hwB⟩ : ∃ wB, w.alloc (.cells #[.int .i64 v.1, .int .i64 v.2] 28) = wB := ⟨_, rfl⟩
  obtain ⟨vb, hvb⟩ : ∃ vb, w.heap.size = vb := ⟨_, rfl⟩
  have HV : Hid (Below w.heap.size w wB ∧ wB.heap[vb]? = some (.cells #[.int .i64 v.1, .int .i64 v.2] 28 (0, 0)) ∧ vb < wB.heap.size ∧ wfN v ∧ DdRow w a n es) := by
    rw [← hwB, ← hvb]
    exact ⟨(Below.refl _ w).alloc (Nat.le_refl _) _, heap_alloc_new w _, by simp, hv, hA⟩
  have HC : Hid (∀ w', Below wB.heap.size wB w' → w'.cell? ⟨vb, 0, none⟩ = some (.int .i64 v.1) ∧ w'.cell? ⟨vb, 1, none⟩ = some (.int .i64 v.2)) := fun w' hw => by
    obtain ⟨_, h2, h3, _⟩ := HV.out
    exact box_cells ((hw.block vb h3).trans h2)
  have H7 : Calls Try.prog 7 #[] wB fun e w' => ∃ tb rb wb, e = .returned (.pointer (some ⟨tb, 0, none⟩)) ∧ Hid (ApI wB tb rb wb 0 w') := by
    refine (o7 wB).mono ?_
    rintro e w' ⟨rfl, h1, h2⟩
    exact ⟨_, _, _, rfl, _, _, _, _, h1, by omega, fun y => by simp, h2⟩
  clear hA hv
  obtain ⟨v1, v2⟩ := v
  simp only at *
  go_enter Try.func4, Try.ntmps4
  go_wp2_with fail
  refine H7.mono ?_
  rintro e w1 ⟨tb, rb, wb, rfl, HI0⟩
  clear H7 hwB hvb
  go_wp2_with fail
  go_loopw [6] (fun i wr => ∃ k : Nat, k ≤ n ∧ k ≤ 100 ∧ i = .int .i64 k ∧ Hid (ApI wB tb rb wb k wr)) (fun i _ => n - (intOf i).toNat)
  case atStart => exact ⟨0, by omega, by omega, rfl, HI0⟩
  case round =>
    clear HI0
    obtain ⟨k, hk, hk1, rfl, HK⟩ := hrel
    by_cases hlt : k < n ∧ k < 100
    · obtain ⟨hlt, hlt2⟩ := hlt
      have hltI : (k : Int) < (n : Int) := by omega
      have hltJ : (k : Int) < 100 := by omega
      have hk0 : (0 : Int) ≤ (k : Int) := by omega
      obtain ⟨nn, s, m, q, hT, hnn, hG, hB⟩ := HK.out
      have H22 : Calls Try.prog 22 #[.pointer (some ⟨tb, 0, none⟩), .agg #[.int .i64 v1, .int .i64 v2]] wr fun e w' => ∃ g k, e = .returned (.slice (some ⟨g, 0, none⟩) k k) ∧ Hid (Row w' wr.heap.size 3 (some ⟨g, 0, none⟩) k k (i64s (m (v1, v2))) ∧ Below wr.heap.size wr w') :=
        o22 _ tb rb wb nn s m q (v1, v2) wr hT HV.out.2.2.2.1 (by have := (hG (v1, v2)).1; omega)
      have HT : Hid (TbAt wr wB.heap.size tb rb wb nn s m q ∧ nn ≤ k ∧ GoodM m k ∧ Below wB.heap.size wB wr) := ⟨hT, hnn, hG, hB⟩
      obtain ⟨b0, b1⟩ := HC.out wr hB
      clear hT hnn hG hB HK
      go_wp2_with fail
      refine H22.mono ?_
      rintro e w2 ⟨g2, k2, rfl, HW⟩
      clear H22 b0 b1
      obtain ⟨b, o, d, rfl, hdk, hdw, hcl⟩ := HV.out.2.2.2.2.at k hlt
      have hB2 : Below w.heap.size w w2 := (HV.out.1.trans (HT.out.2.2.2.mono HV.out.1.size)).trans (HW.out.2.mono (by have := HT.out.2.2.2.size; have := HV.out.1.size; omega))
      obtain ⟨p0, p1, p2, p3, p4⟩ := hcl w2 hB2
      obtain ⟨kd, ⟨x1, x2⟩, nd, da, dn, dc⟩ := d
      simp only at p0 p1 p2 p3 p4 hdw
      obtain ⟨W2, hW2⟩ : ∃ W2, w2.alloc (.cells ddz 31) = W2 := ⟨_, rfl⟩
      obtain ⟨xb, hxb⟩ : ∃ xb, w2.heap.size = xb := ⟨_, rfl⟩
      have hc : W2.heap[xb]? = some (.cells ddz 31 (0, 0)) := by rw [← hW2, ← hxb]; exact heap_alloc_new w2 _
      obtain ⟨c0, c1, c2, c3, c4, g0, g1, g2', g3, g4⟩ := dd_cells hc
      have HM : Hid (Md wB tb rb wb xb g2 k2 kd x1 x2 nd (.slice da dn dc) (m (v1, v2)) (((((W2.setCell ⟨xb, 0, none⟩ (.int .i64 kd)).setCell ⟨xb, 1, none⟩ (.int .i64 x1)).setCell ⟨xb, 2, none⟩ (.int .i64 x2)).setCell ⟨xb, 3, none⟩ (.int .i64 nd)).setCell ⟨xb, 4, none⟩ (.slice da dn dc)) nn s m q) := by
        obtain ⟨t1, t2, t3, t4⟩ := HT.out
        obtain ⟨r1, r2⟩ := HW.out
        have hxw : w2.heap.size ≤ xb := by omega
        have bb : Below w2.heap.size w2 (((((W2.setCell ⟨xb, 0, none⟩ (.int .i64 kd)).setCell ⟨xb, 1, none⟩ (.int .i64 x1)).setCell ⟨xb, 2, none⟩ (.int .i64 x2)).setCell ⟨xb, 3, none⟩ (.int .i64 nd)).setCell ⟨xb, 4, none⟩ (.slice da dn dc)) := by
          have b1 : Below w2.heap.size w2 W2 := by rw [← hW2]; exact (Below.refl _ _).alloc (Nat.le_refl _) _
          exact ((((b1.setCell (p := ⟨xb, 0, none⟩) hxw _).setCell (p := ⟨xb, 1, none⟩) hxw _).setCell (p := ⟨xb, 2, none⟩) hxw _).setCell (p := ⟨xb, 3, none⟩) hxw _).setCell (p := ⟨xb, 4, none⟩) hxw _
        have r3 := r1.below bb
        refine ⟨(t1.below r2).below bb, ?_, r3.in, r3.type rfl, fun x hx e => ?_, (t4.trans (r2.mono t4.size)).trans (bb.mono (by have := t4.size; have := r2.size; omega))⟩
        · have e1 := heap_setCell_same W2 xb 0 _ 31 (.int .i64 kd) hc
          have e2 := heap_setCell_same _ xb 1 _ 31 (.int .i64 x1) e1
          have e3 := heap_setCell_same _ xb 2 _ 31 (.int .i64 x2) e2
          have e4 := heap_setCell_same _ xb 3 _ 31 (.int .i64 nd) e3
          exact heap_setCell_same _ xb 4 _ 31 (.slice da dn dc) e4
        · have h1 := (r1.lt (g := g2) rfl).1
          have h2 := ((t1.row x hx).lt e).2
          omega
      have HX : Hid (wfN (x1, x2) ∧ nn ≤ k ∧ GoodM m k) := ⟨hdw, HT.out.2.1, HT.out.2.2.1⟩
      clear hdk hcl hB2 hdw HT HW
      clear hc
      by_cases hkd0 : kd = 0
      · subst hkd0
        have H11 : Calls Try.prog 11 #[.pointer (some ⟨tb, 0, none⟩), .agg #[.int .i64 x1, .int .i64 x2], .int .i64 nd] (((((W2.setCell ⟨xb, 0, none⟩ (.int .i64 0)).setCell ⟨xb, 1, none⟩ (.int .i64 x1)).setCell ⟨xb, 2, none⟩ (.int .i64 x2)).setCell ⟨xb, 3, none⟩ (.int .i64 nd)).setCell ⟨xb, 4, none⟩ (.slice da dn dc)) fun e w' => ∃ r, e = .returned (.bool r) ∧ Hid (Mid wB tb rb wb xb g2 k2 (k + 1) 0 x1 x2 nd (.slice da dn dc) (m (v1, v2)) (deedM m 0 (x1, x2) nd) w') := by
          refine (o11 _ tb rb wb nn s m q (x1, x2) nd _ HM.out.tab HX.out.1 (by have := HX.out.2.1; omega) (by have := (HX.out.2.2 (x1, x2)).1; omega) HM.out.bel.size).mono ?_
          rintro e w' ⟨rfl, s', h1, h2⟩
          refine ⟨_, rfl, _, s', q, Nat.succ_le_succ HX.out.2.1, HM.out.to ?_ h2⟩
          exact h1
        go_wp2_with fail
        clear hW2 hxb c0 c1 c2 c3 c4 g0 g1 g2' g3 g4 p0 p1 p2 p3 p4
        refine H11.mono ?_
        rintro e w3 ⟨r, rfl, H3⟩
        clear H11 HM
        by_cases hxv : v1 = x1
        · by_cases hxv2 : v2 = x2
          · have hdummy : True := trivial
            subst hxv hxv2
            obtain ⟨m', hm'⟩ : ∃ m', deedM m 0 (v1, v2) nd = m' := ⟨_, rfl⟩
            have HG' : Hid (GoodM m' (k + 1)) := by rw [← hm']; exact deedM_good m 0 (v1, v2) nd k HX.out.2.2
            rw [hm'] at H3
            clear hm'
            obtain ⟨b0, b1⟩ := HC.out w3 (by obtain ⟨_, _, _, _, h⟩ := H3.out; exact h.bel)
            have H22 : Calls Try.prog 22 #[.pointer (some ⟨tb, 0, none⟩), .agg #[.int .i64 v1, .int .i64 v2]] w3 fun e w' => ∃ g kk, e = .returned (.slice (some ⟨g, 0, none⟩) kk kk) ∧ Hid (In w' (some ⟨g, 0, none⟩) kk (m' (v1, v2)) ∧ Mid wB tb rb wb xb g2 k2 (k + 1) 0 v1 v2 nd (.slice da dn dc) (m (v1, v2)) m' w') := by
              obtain ⟨n', s', q', h1, h2⟩ := H3.out
              refine (o22 _ tb rb wb n' s' m' q' (v1, v2) w3 h2.tab HV.out.2.2.2.1 (by have := (HG'.out (v1, v2)).1; omega)).mono ?_
              rintro e w' ⟨g, kk, rfl, r1, r2⟩
              exact ⟨g, kk, rfl, r1.in, ⟨n', s', q', h1, h2.below r2⟩⟩
            go_wp2_with fail
            refine H22.mono ?_
            rintro e w4 ⟨g4, k4, rfl, H4⟩
            clear H22 b0 b1 H3
            obtain ⟨b0, b1⟩ := HC.out w4 (by obtain ⟨_, _, _, _, _, h⟩ := H4.out; exact h.bel)
            obtain ⟨c0, c1, c2, _, _, _, _, _, _, _⟩ := (show DdC w4 xb 0 v1 v2 nd (.slice da dn dc) from by obtain ⟨_, _, _, _, _, h⟩ := H4.out; exact dd_cells h.xc)
            have hk4 : k4 ≤ 1000 := by have h1 := H4.out.1.len; have h2 := (HG'.out (v1, v2)).1; omega
            have H5 := H4
            go_wp2_with fail
            clear H4 b0 b1 c0 c1 c2
            go_loopw [10, 11] (fun ia _ wr => ∃ i : Nat, i ≤ k4 ∧ ia = .int .i64 i ∧ Hid (Below w4.heap.size w4 wr)) (fun ia _ _ => k4 - (intOf ia).toNat)
            case atStart => exact ⟨0, by omega, rfl, Below.refl _ _⟩
            case round =>
              obtain ⟨i, hi, rfl, HBi⟩ := hrel
              by_cases hil : i < k4
              · have hiI : (i : Int) < (k4 : Int) := by omega
                have hi0 : (0 : Int) ≤ (i : Int) := by omega
                go_wp2_with fail
                go_loopw [11] (fun ja wr' => ∃ j : Nat, j ≤ i ∧ ja = .int .i64 j ∧ Hid (Below w4.heap.size w4 wr')) (fun ja _ => i - (intOf ja).toNat)
                case atStart => exact ⟨0, by omega, rfl, HBi⟩
                case round =>
                  obtain ⟨j, hj, rfl, HBj⟩ := hrel
                  by_cases hjl : j < i
                  · have hjI : (j : Int) < (i : Int) := by omega
                    have hj0 : (0 : Int) ≤ (j : Int) := by omega
                    have hjK : (j : Int) < (k4 : Int) := by omega
                    obtain ⟨b1, o1, hx1, e1, hc1⟩ := (H5.out.1.below HBj.out).at hil
                    obtain ⟨b2, o2, hx2, e2, hc2⟩ := (H5.out.1.below HBj.out).at (show j < k4 by omega)
                    simp only [Option.some.injEq, Addr.mk.injEq, and_true] at e1 e2
                    obtain ⟨rfl, rfl⟩ := e1
                    obtain ⟨rfl, rfl⟩ := e2
                    have hne := nodup_ne (HG'.out (v1, v2)).2 hx1 hx2 hjl
                    generalize (m' (v1, v2))[i] = y1 at *
                    generalize (m' (v1, v2))[j] = y2 at *
                    have hneB : (y1 == y2) = false := by simp [hne]
                    simp only [Nat.zero_add] at hc1 hc2
                    clear hx1 hx2
                    go_wp2_with fail
                    go_quiet (fail)
                    go_wp2_with fail
                    go_roundw
                    case rel => exact ⟨j + 1, by omega, by go_num, below_dN HBj.out _⟩
                    case measure => simp [intOf]; omega
                  · go_wp2_with fail
                    go_roundw
                    case rel => exact ⟨i + 1, by omega, by go_num, HBj⟩
                    case measure => simp [intOf]; omega
              · go_wp2_with fail
                go_roundw
                case rel => exact ⟨k + 1, by omega, by omega, by go_num, by
                  obtain ⟨n', s', q', h1, h2⟩ := H5.out.2.below HBi.out
                  exact ⟨n', s', m', q', h2.tab, h1, HG'.out, h2.bel⟩⟩
                case measure => simp [intOf]; omega
          · have hxv3 : ¬ x2 = v2 := fun e => hxv2 e.symm
            have HNE : Hid ((x1, x2) ≠ (v1, v2) ∨ ((0 : Int) ≠ 0 ∧ (0 : Int) ≠ 1)) := .inl (fun e => hxv2 (Prod.mk.inj e).2.symm)
            subst hxv
            obtain ⟨m', hm'⟩ : ∃ m', deedM m 0 (v1, x2) nd = m' := ⟨_, rfl⟩
            have HG' : Hid (GoodM m' (k + 1)) := by rw [← hm']; exact deedM_good m 0 (v1, x2) nd k HX.out.2.2
            have HSM : Hid (m' (v1, v2) = m (v1, v2)) := by rw [← hm']; exact deedM_other m 0 (v1, x2) nd (v1, v2) HNE.out
            rw [hm'] at H3
            clear hm'
            obtain ⟨b0, b1⟩ := HC.out w3 (by obtain ⟨_, _, _, _, h⟩ := H3.out; exact h.bel)
            have H22 : Calls Try.prog 22 #[.pointer (some ⟨tb, 0, none⟩), .agg #[.int .i64 v1, .int .i64 v2]] w3 fun e w' => ∃ g kk, e = .returned (.slice (some ⟨g, 0, none⟩) kk kk) ∧ Hid (In w' (some ⟨g, 0, none⟩) kk (m' (v1, v2)) ∧ Mid wB tb rb wb xb g2 k2 (k + 1) 0 v1 x2 nd (.slice da dn dc) (m (v1, v2)) m' w') := by
              obtain ⟨n', s', q', h1, h2⟩ := H3.out
              refine (o22 _ tb rb wb n' s' m' q' (v1, v2) w3 h2.tab HV.out.2.2.2.1 (by have := (HG'.out (v1, v2)).1; omega)).mono ?_
              rintro e w' ⟨g, kk, rfl, r1, r2⟩
              exact ⟨g, kk, rfl, r1.in, ⟨n', s', q', h1, h2.below r2⟩⟩
            go_wp2_with fail
            refine H22.mono ?_
            rintro e w4 ⟨g4, k4, rfl, H4⟩
            clear H22 b0 b1 H3
            obtain ⟨b0, b1⟩ := HC.out w4 (by obtain ⟨_, _, _, _, _, h⟩ := H4.out; exact h.bel)
            obtain ⟨c0, c1, c2, _, _, _, _, _, _, _⟩ := (show DdC w4 xb 0 v1 x2 nd (.slice da dn dc) from by obtain ⟨_, _, _, _, _, h⟩ := H4.out; exact dd_cells h.xc)
            have hk4 : k4 ≤ 1000 := by have h1 := H4.out.1.len; have h2 := (HG'.out (v1, v2)).1; omega
            have H13 : Calls Try.prog 13 #[.slice (some ⟨g2, 0, none⟩) k2 k2, .slice (some ⟨g4, 0, none⟩) k4 k4] w4 fun e w' => e = .returned (.bool true) ∧ Hid (In w' (some ⟨g4, 0, none⟩) k4 (m' (v1, v2)) ∧ Mid wB tb rb wb xb g2 k2 (k + 1) 0 v1 x2 nd (.slice da dn dc) (m (v1, v2)) m' w') := by
              obtain ⟨r1, r2⟩ := H4.out
              have r3 : In w4 (some ⟨g2, 0, none⟩) k2 (m (v1, v2)) := by obtain ⟨_, _, _, _, h⟩ := r2; exact h.was
              have hl : k2 ≤ 1000 := by have h1 := r3.len; have h2 := (HX.out.2.2 (v1, v2)).1; omega
              refine (o13 _ _ k2 k2 k4 k4 (m (v1, v2)) (m' (v1, v2)) w4 r3 r1 (by omega) (by omega)).mono ?_
              rintro e w' ⟨rfl, d, rfl⟩
              exact ⟨by rw [HSM.out]; simp [sameI], r1.below (below_dN (Below.refl _ _) d), r2.below (below_dN (Below.refl _ _) d)⟩
            go_wp2_with fail
            refine H13.mono ?_
            rintro e w5 ⟨rfl, H5⟩
            clear H13 H4 b0 b1 c0 c1 c2
            go_wp2_with fail
            go_loopw [10, 11] (fun ia _ wr => ∃ i : Nat, i ≤ k4 ∧ ia = .int .i64 i ∧ Hid (Below w5.heap.size w5 wr)) (fun ia _ _ => k4 - (intOf ia).toNat)
            case atStart => exact ⟨0, by omega, rfl, Below.refl _ _⟩
            case round =>
              obtain ⟨i, hi, rfl, HBi⟩ := hrel
              by_cases hil : i < k4
              · have hiI : (i : Int) < (k4 : Int) := by omega
                have hi0 : (0 : Int) ≤ (i : Int) := by omega
                go_wp2_with fail
                go_loopw [11] (fun ja wr' => ∃ j : Nat, j ≤ i ∧ ja = .int .i64 j ∧ Hid (Below w5.heap.size w5 wr')) (fun ja _ => i - (intOf ja).toNat)
                case atStart => exact ⟨0, by omega, rfl, HBi⟩
                case round =>
                  obtain ⟨j, hj, rfl, HBj⟩ := hrel
                  by_cases hjl : j < i
                  · have hjI : (j : Int) < (i : Int) := by omega
                    have hj0 : (0 : Int) ≤ (j : Int) := by omega
                    have hjK : (j : Int) < (k4 : Int) := by omega
                    obtain ⟨b1, o1, hx1, e1, hc1⟩ := (H5.out.1.below HBj.out).at hil
                    obtain ⟨b2, o2, hx2, e2, hc2⟩ := (H5.out.1.below HBj.out).at (show j < k4 by omega)
                    simp only [Option.some.injEq, Addr.mk.injEq, and_true] at e1 e2
                    obtain ⟨rfl, rfl⟩ := e1
                    obtain ⟨rfl, rfl⟩ := e2
                    have hne := nodup_ne (HG'.out (v1, v2)).2 hx1 hx2 hjl
                    generalize (m' (v1, v2))[i] = y1 at *
                    generalize (m' (v1, v2))[j] = y2 at *
                    have hneB : (y1 == y2) = false := by simp [hne]
                    simp only [Nat.zero_add] at hc1 hc2
                    clear hx1 hx2
                    go_wp2_with fail
                    go_quiet (fail)
                    go_wp2_with fail
                    go_roundw
                    case rel => exact ⟨j + 1, by omega, by go_num, below_dN HBj.out _⟩
                    case measure => simp [intOf]; omega
                  · go_wp2_with fail
                    go_roundw
                    case rel => exact ⟨i + 1, by omega, by go_num, HBj⟩
                    case measure => simp [intOf]; omega
              · go_wp2_with fail
                go_roundw
                case rel => exact ⟨k + 1, by omega, by omega, by go_num, by
                  obtain ⟨n', s', q', h1, h2⟩ := H5.out.2.below HBi.out
                  exact ⟨n', s', m', q', h2.tab, h1, HG'.out, h2.bel⟩⟩
                case measure => simp [intOf]; omega
        · have hxv3 : ¬ x1 = v1 := fun e => hxv e.symm
          have HNE : Hid ((x1, x2) ≠ (v1, v2) ∨ ((0 : Int) ≠ 0 ∧ (0 : Int) ≠ 1)) := .inl (fun e => hxv (Prod.mk.inj e).1.symm)
          obtain ⟨m', hm'⟩ : ∃ m', deedM m 0 (x1, x2) nd = m' := ⟨_, rfl⟩
          have HG' : Hid (GoodM m' (k + 1)) := by rw [← hm']; exact deedM_good m 0 (x1, x2) nd k HX.out.2.2
          have HSM : Hid (m' (v1, v2) = m (v1, v2)) := by rw [← hm']; exact deedM_other m 0 (x1, x2) nd (v1, v2) HNE.out
          rw [hm'] at H3
          clear hm'
          obtain ⟨b0, b1⟩ := HC.out w3 (by obtain ⟨_, _, _, _, h⟩ := H3.out; exact h.bel)
          have H22 : Calls Try.prog 22 #[.pointer (some ⟨tb, 0, none⟩), .agg #[.int .i64 v1, .int .i64 v2]] w3 fun e w' => ∃ g kk, e = .returned (.slice (some ⟨g, 0, none⟩) kk kk) ∧ Hid (In w' (some ⟨g, 0, none⟩) kk (m' (v1, v2)) ∧ Mid wB tb rb wb xb g2 k2 (k + 1) 0 x1 x2 nd (.slice da dn dc) (m (v1, v2)) m' w') := by
            obtain ⟨n', s', q', h1, h2⟩ := H3.out
            refine (o22 _ tb rb wb n' s' m' q' (v1, v2) w3 h2.tab HV.out.2.2.2.1 (by have := (HG'.out (v1, v2)).1; omega)).mono ?_
            rintro e w' ⟨g, kk, rfl, r1, r2⟩
            exact ⟨g, kk, rfl, r1.in, ⟨n', s', q', h1, h2.below r2⟩⟩
          go_wp2_with fail
          refine H22.mono ?_
          rintro e w4 ⟨g4, k4, rfl, H4⟩
          clear H22 b0 b1 H3
          obtain ⟨b0, b1⟩ := HC.out w4 (by obtain ⟨_, _, _, _, _, h⟩ := H4.out; exact h.bel)
          obtain ⟨c0, c1, c2, _, _, _, _, _, _, _⟩ := (show DdC w4 xb 0 x1 x2 nd (.slice da dn dc) from by obtain ⟨_, _, _, _, _, h⟩ := H4.out; exact dd_cells h.xc)
          have hk4 : k4 ≤ 1000 := by have h1 := H4.out.1.len; have h2 := (HG'.out (v1, v2)).1; omega
          have H13 : Calls Try.prog 13 #[.slice (some ⟨g2, 0, none⟩) k2 k2, .slice (some ⟨g4, 0, none⟩) k4 k4] w4 fun e w' => e = .returned (.bool true) ∧ Hid (In w' (some ⟨g4, 0, none⟩) k4 (m' (v1, v2)) ∧ Mid wB tb rb wb xb g2 k2 (k + 1) 0 x1 x2 nd (.slice da dn dc) (m (v1, v2)) m' w') := by
            obtain ⟨r1, r2⟩ := H4.out
            have r3 : In w4 (some ⟨g2, 0, none⟩) k2 (m (v1, v2)) := by obtain ⟨_, _, _, _, h⟩ := r2; exact h.was
            have hl : k2 ≤ 1000 := by have h1 := r3.len; have h2 := (HX.out.2.2 (v1, v2)).1; omega
            refine (o13 _ _ k2 k2 k4 k4 (m (v1, v2)) (m' (v1, v2)) w4 r3 r1 (by omega) (by omega)).mono ?_
            rintro e w' ⟨rfl, d, rfl⟩
            exact ⟨by rw [HSM.out]; simp [sameI], r1.below (below_dN (Below.refl _ _) d), r2.below (below_dN (Below.refl _ _) d)⟩
          go_wp2_with fail
          refine H13.mono ?_
          rintro e w5 ⟨rfl, H5⟩
          clear H13 H4 b0 b1 c0 c1 c2
          go_wp2_with fail
          go_loopw [10, 11] (fun ia _ wr => ∃ i : Nat, i ≤ k4 ∧ ia = .int .i64 i ∧ Hid (Below w5.heap.size w5 wr)) (fun ia _ _ => k4 - (intOf ia).toNat)
          case atStart => exact ⟨0, by omega, rfl, Below.refl _ _⟩
          case round =>
            obtain ⟨i, hi, rfl, HBi⟩ := hrel
            by_cases hil : i < k4
            · have hiI : (i : Int) < (k4 : Int) := by omega
              have hi0 : (0 : Int) ≤ (i : Int) := by omega
              go_wp2_with fail
              go_loopw [11] (fun ja wr' => ∃ j : Nat, j ≤ i ∧ ja = .int .i64 j ∧ Hid (Below w5.heap.size w5 wr')) (fun ja _ => i - (intOf ja).toNat)
              case atStart => exact ⟨0, by omega, rfl, HBi⟩
              case round =>
                obtain ⟨j, hj, rfl, HBj⟩ := hrel
                by_cases hjl : j < i
                · have hjI : (j : Int) < (i : Int) := by omega
                  have hj0 : (0 : Int) ≤ (j : Int) := by omega
                  have hjK : (j : Int) < (k4 : Int) := by omega
                  obtain ⟨b1, o1, hx1, e1, hc1⟩ := (H5.out.1.below HBj.out).at hil
                  obtain ⟨b2, o2, hx2, e2, hc2⟩ := (H5.out.1.below HBj.out).at (show j < k4 by omega)
                  simp only [Option.some.injEq, Addr.mk.injEq, and_true] at e1 e2
                  obtain ⟨rfl, rfl⟩ := e1
                  obtain ⟨rfl, rfl⟩ := e2
                  have hne := nodup_ne (HG'.out (v1, v2)).2 hx1 hx2 hjl
                  generalize (m' (v1, v2))[i] = y1 at *
                  generalize (m' (v1, v2))[j] = y2 at *
                  have hneB : (y1 == y2) = false := by simp [hne]
                  simp only [Nat.zero_add] at hc1 hc2
                  clear hx1 hx2
                  go_wp2_with fail
                  go_quiet (fail)
                  go_wp2_with fail
                  go_roundw
                  case rel => exact ⟨j + 1, by omega, by go_num, below_dN HBj.out _⟩
                  case measure => simp [intOf]; omega
                · go_wp2_with fail
                  go_roundw
                  case rel => exact ⟨i + 1, by omega, by go_num, HBj⟩
                  case measure => simp [intOf]; omega
            · go_wp2_with fail
              go_roundw
              case rel => exact ⟨k + 1, by omega, by omega, by go_num, by
                obtain ⟨n', s', q', h1, h2⟩ := H5.out.2.below HBi.out
                exact ⟨n', s', m', q', h2.tab, h1, HG'.out, h2.bel⟩⟩
              case measure => simp [intOf]; omega
      · by_cases hkd1 : kd = 1
        · subst hkd1
          have H14 : Calls Try.prog 14 #[.pointer (some ⟨tb, 0, none⟩), .agg #[.int .i64 x1, .int .i64 x2]] (((((W2.setCell ⟨xb, 0, none⟩ (.int .i64 1)).setCell ⟨xb, 1, none⟩ (.int .i64 x1)).setCell ⟨xb, 2, none⟩ (.int .i64 x2)).setCell ⟨xb, 3, none⟩ (.int .i64 nd)).setCell ⟨xb, 4, none⟩ (.slice da dn dc)) fun e w' => ∃ a' n' c', e = .returned (.slice a' n' c') ∧ Hid (Mid wB tb rb wb xb g2 k2 (k + 1) 1 x1 x2 nd (.slice da dn dc) (m (v1, v2)) (deedM m 1 (x1, x2) nd) w') := by
            refine (o14 _ tb rb wb nn s m q (x1, x2) _ HM.out.tab HX.out.1).mono ?_
            rintro e w' ⟨rfl, h1, h2, _⟩
            refine ⟨_, _, _, rfl, _, _, q, Nat.le_succ_of_le HX.out.2.1, HM.out.to ?_ h2⟩
            exact h1
          go_wp2_with fail
          clear hW2 hxb c0 c1 c2 c3 c4 g0 g1 g2' g3 g4 p0 p1 p2 p3 p4
          refine H14.mono ?_
          rintro e w3 ⟨ra, rn, rc, rfl, H3⟩
          clear H14 HM
          by_cases hxv : v1 = x1
          · by_cases hxv2 : v2 = x2
            · have hdummy : True := trivial
              subst hxv hxv2
              obtain ⟨m', hm'⟩ : ∃ m', deedM m 1 (v1, v2) nd = m' := ⟨_, rfl⟩
              have HG' : Hid (GoodM m' (k + 1)) := by rw [← hm']; exact deedM_good m 1 (v1, v2) nd k HX.out.2.2
              rw [hm'] at H3
              clear hm'
              obtain ⟨b0, b1⟩ := HC.out w3 (by obtain ⟨_, _, _, _, h⟩ := H3.out; exact h.bel)
              have H22 : Calls Try.prog 22 #[.pointer (some ⟨tb, 0, none⟩), .agg #[.int .i64 v1, .int .i64 v2]] w3 fun e w' => ∃ g kk, e = .returned (.slice (some ⟨g, 0, none⟩) kk kk) ∧ Hid (In w' (some ⟨g, 0, none⟩) kk (m' (v1, v2)) ∧ Mid wB tb rb wb xb g2 k2 (k + 1) 1 v1 v2 nd (.slice da dn dc) (m (v1, v2)) m' w') := by
                obtain ⟨n', s', q', h1, h2⟩ := H3.out
                refine (o22 _ tb rb wb n' s' m' q' (v1, v2) w3 h2.tab HV.out.2.2.2.1 (by have := (HG'.out (v1, v2)).1; omega)).mono ?_
                rintro e w' ⟨g, kk, rfl, r1, r2⟩
                exact ⟨g, kk, rfl, r1.in, ⟨n', s', q', h1, h2.below r2⟩⟩
              go_wp2_with fail
              refine H22.mono ?_
              rintro e w4 ⟨g4, k4, rfl, H4⟩
              clear H22 b0 b1 H3
              obtain ⟨b0, b1⟩ := HC.out w4 (by obtain ⟨_, _, _, _, _, h⟩ := H4.out; exact h.bel)
              obtain ⟨c0, c1, c2, _, _, _, _, _, _, _⟩ := (show DdC w4 xb 1 v1 v2 nd (.slice da dn dc) from by obtain ⟨_, _, _, _, _, h⟩ := H4.out; exact dd_cells h.xc)
              have hk4 : k4 ≤ 1000 := by have h1 := H4.out.1.len; have h2 := (HG'.out (v1, v2)).1; omega
              have H5 := H4
              go_wp2_with fail
              clear H4 b0 b1 c0 c1 c2
              go_loopw [10, 11] (fun ia _ wr => ∃ i : Nat, i ≤ k4 ∧ ia = .int .i64 i ∧ Hid (Below w4.heap.size w4 wr)) (fun ia _ _ => k4 - (intOf ia).toNat)
              case atStart => exact ⟨0, by omega, rfl, Below.refl _ _⟩
              case round =>
                obtain ⟨i, hi, rfl, HBi⟩ := hrel
                by_cases hil : i < k4
                · have hiI : (i : Int) < (k4 : Int) := by omega
                  have hi0 : (0 : Int) ≤ (i : Int) := by omega
                  go_wp2_with fail
                  go_loopw [11] (fun ja wr' => ∃ j : Nat, j ≤ i ∧ ja = .int .i64 j ∧ Hid (Below w4.heap.size w4 wr')) (fun ja _ => i - (intOf ja).toNat)
                  case atStart => exact ⟨0, by omega, rfl, HBi⟩
                  case round =>
                    obtain ⟨j, hj, rfl, HBj⟩ := hrel
                    by_cases hjl : j < i
                    · have hjI : (j : Int) < (i : Int) := by omega
                      have hj0 : (0 : Int) ≤ (j : Int) := by omega
                      have hjK : (j : Int) < (k4 : Int) := by omega
                      obtain ⟨b1, o1, hx1, e1, hc1⟩ := (H5.out.1.below HBj.out).at hil
                      obtain ⟨b2, o2, hx2, e2, hc2⟩ := (H5.out.1.below HBj.out).at (show j < k4 by omega)
                      simp only [Option.some.injEq, Addr.mk.injEq, and_true] at e1 e2
                      obtain ⟨rfl, rfl⟩ := e1
                      obtain ⟨rfl, rfl⟩ := e2
                      have hne := nodup_ne (HG'.out (v1, v2)).2 hx1 hx2 hjl
                      generalize (m' (v1, v2))[i] = y1 at *
                      generalize (m' (v1, v2))[j] = y2 at *
                      have hneB : (y1 == y2) = false := by simp [hne]
                      simp only [Nat.zero_add] at hc1 hc2
                      clear hx1 hx2
                      go_wp2_with fail
                      go_quiet (fail)
                      go_wp2_with fail
                      go_roundw
                      case rel => exact ⟨j + 1, by omega, by go_num, below_dN HBj.out _⟩
                      case measure => simp [intOf]; omega
                    · go_wp2_with fail
                      go_roundw
                      case rel => exact ⟨i + 1, by omega, by go_num, HBj⟩
                      case measure => simp [intOf]; omega
                · go_wp2_with fail
                  go_roundw
                  case rel => exact ⟨k + 1, by omega, by omega, by go_num, by
                    obtain ⟨n', s', q', h1, h2⟩ := H5.out.2.below HBi.out
                    exact ⟨n', s', m', q', h2.tab, h1, HG'.out, h2.bel⟩⟩
                  case measure => simp [intOf]; omega
            · have hxv3 : ¬ x2 = v2 := fun e => hxv2 e.symm
              have HNE : Hid ((x1, x2) ≠ (v1, v2) ∨ ((1 : Int) ≠ 0 ∧ (1 : Int) ≠ 1)) := .inl (fun e => hxv2 (Prod.mk.inj e).2.symm)
              subst hxv
              obtain ⟨m', hm'⟩ : ∃ m', deedM m 1 (v1, x2) nd = m' := ⟨_, rfl⟩
              have HG' : Hid (GoodM m' (k + 1)) := by rw [← hm']; exact deedM_good m 1 (v1, x2) nd k HX.out.2.2
              have HSM : Hid (m' (v1, v2) = m (v1, v2)) := by rw [← hm']; exact deedM_other m 1 (v1, x2) nd (v1, v2) HNE.out
              rw [hm'] at H3
              clear hm'
              obtain ⟨b0, b1⟩ := HC.out w3 (by obtain ⟨_, _, _, _, h⟩ := H3.out; exact h.bel)
              have H22 : Calls Try.prog 22 #[.pointer (some ⟨tb, 0, none⟩), .agg #[.int .i64 v1, .int .i64 v2]] w3 fun e w' => ∃ g kk, e = .returned (.slice (some ⟨g, 0, none⟩) kk kk) ∧ Hid (In w' (some ⟨g, 0, none⟩) kk (m' (v1, v2)) ∧ Mid wB tb rb wb xb g2 k2 (k + 1) 1 v1 x2 nd (.slice da dn dc) (m (v1, v2)) m' w') := by
                obtain ⟨n', s', q', h1, h2⟩ := H3.out
                refine (o22 _ tb rb wb n' s' m' q' (v1, v2) w3 h2.tab HV.out.2.2.2.1 (by have := (HG'.out (v1, v2)).1; omega)).mono ?_
                rintro e w' ⟨g, kk, rfl, r1, r2⟩
                exact ⟨g, kk, rfl, r1.in, ⟨n', s', q', h1, h2.below r2⟩⟩
              go_wp2_with fail
              refine H22.mono ?_
              rintro e w4 ⟨g4, k4, rfl, H4⟩
              clear H22 b0 b1 H3
              obtain ⟨b0, b1⟩ := HC.out w4 (by obtain ⟨_, _, _, _, _, h⟩ := H4.out; exact h.bel)
              obtain ⟨c0, c1, c2, _, _, _, _, _, _, _⟩ := (show DdC w4 xb 1 v1 x2 nd (.slice da dn dc) from by obtain ⟨_, _, _, _, _, h⟩ := H4.out; exact dd_cells h.xc)
              have hk4 : k4 ≤ 1000 := by have h1 := H4.out.1.len; have h2 := (HG'.out (v1, v2)).1; omega
              have H13 : Calls Try.prog 13 #[.slice (some ⟨g2, 0, none⟩) k2 k2, .slice (some ⟨g4, 0, none⟩) k4 k4] w4 fun e w' => e = .returned (.bool true) ∧ Hid (In w' (some ⟨g4, 0, none⟩) k4 (m' (v1, v2)) ∧ Mid wB tb rb wb xb g2 k2 (k + 1) 1 v1 x2 nd (.slice da dn dc) (m (v1, v2)) m' w') := by
                obtain ⟨r1, r2⟩ := H4.out
                have r3 : In w4 (some ⟨g2, 0, none⟩) k2 (m (v1, v2)) := by obtain ⟨_, _, _, _, h⟩ := r2; exact h.was
                have hl : k2 ≤ 1000 := by have h1 := r3.len; have h2 := (HX.out.2.2 (v1, v2)).1; omega
                refine (o13 _ _ k2 k2 k4 k4 (m (v1, v2)) (m' (v1, v2)) w4 r3 r1 (by omega) (by omega)).mono ?_
                rintro e w' ⟨rfl, d, rfl⟩
                exact ⟨by rw [HSM.out]; simp [sameI], r1.below (below_dN (Below.refl _ _) d), r2.below (below_dN (Below.refl _ _) d)⟩
              go_wp2_with fail
              refine H13.mono ?_
              rintro e w5 ⟨rfl, H5⟩
              clear H13 H4 b0 b1 c0 c1 c2
              go_wp2_with fail
              go_loopw [10, 11] (fun ia _ wr => ∃ i : Nat, i ≤ k4 ∧ ia = .int .i64 i ∧ Hid (Below w5.heap.size w5 wr)) (fun ia _ _ => k4 - (intOf ia).toNat)
              case atStart => exact ⟨0, by omega, rfl, Below.refl _ _⟩
              case round =>
                obtain ⟨i, hi, rfl, HBi⟩ := hrel
                by_cases hil : i < k4
                · have hiI : (i : Int) < (k4 : Int) := by omega
                  have hi0 : (0 : Int) ≤ (i : Int) := by omega
                  go_wp2_with fail
                  go_loopw [11] (fun ja wr' => ∃ j : Nat, j ≤ i ∧ ja = .int .i64 j ∧ Hid (Below w5.heap.size w5 wr')) (fun ja _ => i - (intOf ja).toNat)
                  case atStart => exact ⟨0, by omega, rfl, HBi⟩
                  case round =>
                    obtain ⟨j, hj, rfl, HBj⟩ := hrel
                    by_cases hjl : j < i
                    · have hjI : (j : Int) < (i : Int) := by omega
                      have hj0 : (0 : Int) ≤ (j : Int) := by omega
                      have hjK : (j : Int) < (k4 : Int) := by omega
                      obtain ⟨b1, o1, hx1, e1, hc1⟩ := (H5.out.1.below HBj.out).at hil
                      obtain ⟨b2, o2, hx2, e2, hc2⟩ := (H5.out.1.below HBj.out).at (show j < k4 by omega)
                      simp only [Option.some.injEq, Addr.mk.injEq, and_true] at e1 e2
                      obtain ⟨rfl, rfl⟩ := e1
                      obtain ⟨rfl, rfl⟩ := e2
                      have hne := nodup_ne (HG'.out (v1, v2)).2 hx1 hx2 hjl
                      generalize (m' (v1, v2))[i] = y1 at *
                      generalize (m' (v1, v2))[j] = y2 at *
                      have hneB : (y1 == y2) = false := by simp [hne]
                      simp only [Nat.zero_add] at hc1 hc2
                      clear hx1 hx2
                      go_wp2_with fail
                      go_quiet (fail)
                      go_wp2_with fail
                      go_roundw
                      case rel => exact ⟨j + 1, by omega, by go_num, below_dN HBj.out _⟩
                      case measure => simp [intOf]; omega
                    · go_wp2_with fail
                      go_roundw
                      case rel => exact ⟨i + 1, by omega, by go_num, HBj⟩
                      case measure => simp [intOf]; omega
                · go_wp2_with fail
                  go_roundw
                  case rel => exact ⟨k + 1, by omega, by omega, by go_num, by
                    obtain ⟨n', s', q', h1, h2⟩ := H5.out.2.below HBi.out
                    exact ⟨n', s', m', q', h2.tab, h1, HG'.out, h2.bel⟩⟩
                  case measure => simp [intOf]; omega
          · have hxv3 : ¬ x1 = v1 := fun e => hxv e.symm
            have HNE : Hid ((x1, x2) ≠ (v1, v2) ∨ ((1 : Int) ≠ 0 ∧ (1 : Int) ≠ 1)) := .inl (fun e => hxv (Prod.mk.inj e).1.symm)
            obtain ⟨m', hm'⟩ : ∃ m', deedM m 1 (x1, x2) nd = m' := ⟨_, rfl⟩
            have HG' : Hid (GoodM m' (k + 1)) := by rw [← hm']; exact deedM_good m 1 (x1, x2) nd k HX.out.2.2
            have HSM : Hid (m' (v1, v2) = m (v1, v2)) := by rw [← hm']; exact deedM_other m 1 (x1, x2) nd (v1, v2) HNE.out
            rw [hm'] at H3
            clear hm'
            obtain ⟨b0, b1⟩ := HC.out w3 (by obtain ⟨_, _, _, _, h⟩ := H3.out; exact h.bel)
            have H22 : Calls Try.prog 22 #[.pointer (some ⟨tb, 0, none⟩), .agg #[.int .i64 v1, .int .i64 v2]] w3 fun e w' => ∃ g kk, e = .returned (.slice (some ⟨g, 0, none⟩) kk kk) ∧ Hid (In w' (some ⟨g, 0, none⟩) kk (m' (v1, v2)) ∧ Mid wB tb rb wb xb g2 k2 (k + 1) 1 x1 x2 nd (.slice da dn dc) (m (v1, v2)) m' w') := by
              obtain ⟨n', s', q', h1, h2⟩ := H3.out
              refine (o22 _ tb rb wb n' s' m' q' (v1, v2) w3 h2.tab HV.out.2.2.2.1 (by have := (HG'.out (v1, v2)).1; omega)).mono ?_
              rintro e w' ⟨g, kk, rfl, r1, r2⟩
              exact ⟨g, kk, rfl, r1.in, ⟨n', s', q', h1, h2.below r2⟩⟩
            go_wp2_with fail
            refine H22.mono ?_
            rintro e w4 ⟨g4, k4, rfl, H4⟩
            clear H22 b0 b1 H3
            obtain ⟨b0, b1⟩ := HC.out w4 (by obtain ⟨_, _, _, _, _, h⟩ := H4.out; exact h.bel)
            obtain ⟨c0, c1, c2, _, _, _, _, _, _, _⟩ := (show DdC w4 xb 1 x1 x2 nd (.slice da dn dc) from by obtain ⟨_, _, _, _, _, h⟩ := H4.out; exact dd_cells h.xc)
            have hk4 : k4 ≤ 1000 := by have h1 := H4.out.1.len; have h2 := (HG'.out (v1, v2)).1; omega
            have H13 : Calls Try.prog 13 #[.slice (some ⟨g2, 0, none⟩) k2 k2, .slice (some ⟨g4, 0, none⟩) k4 k4] w4 fun e w' => e = .returned (.bool true) ∧ Hid (In w' (some ⟨g4, 0, none⟩) k4 (m' (v1, v2)) ∧ Mid wB tb rb wb xb g2 k2 (k + 1) 1 x1 x2 nd (.slice da dn dc) (m (v1, v2)) m' w') := by
              obtain ⟨r1, r2⟩ := H4.out
              have r3 : In w4 (some ⟨g2, 0, none⟩) k2 (m (v1, v2)) := by obtain ⟨_, _, _, _, h⟩ := r2; exact h.was
              have hl : k2 ≤ 1000 := by have h1 := r3.len; have h2 := (HX.out.2.2 (v1, v2)).1; omega
              refine (o13 _ _ k2 k2 k4 k4 (m (v1, v2)) (m' (v1, v2)) w4 r3 r1 (by omega) (by omega)).mono ?_
              rintro e w' ⟨rfl, d, rfl⟩
              exact ⟨by rw [HSM.out]; simp [sameI], r1.below (below_dN (Below.refl _ _) d), r2.below (below_dN (Below.refl _ _) d)⟩
            go_wp2_with fail
            refine H13.mono ?_
            rintro e w5 ⟨rfl, H5⟩
            clear H13 H4 b0 b1 c0 c1 c2
            go_wp2_with fail
            go_loopw [10, 11] (fun ia _ wr => ∃ i : Nat, i ≤ k4 ∧ ia = .int .i64 i ∧ Hid (Below w5.heap.size w5 wr)) (fun ia _ _ => k4 - (intOf ia).toNat)
            case atStart => exact ⟨0, by omega, rfl, Below.refl _ _⟩
            case round =>
              obtain ⟨i, hi, rfl, HBi⟩ := hrel
              by_cases hil : i < k4
              · have hiI : (i : Int) < (k4 : Int) := by omega
                have hi0 : (0 : Int) ≤ (i : Int) := by omega
                go_wp2_with fail
                go_loopw [11] (fun ja wr' => ∃ j : Nat, j ≤ i ∧ ja = .int .i64 j ∧ Hid (Below w5.heap.size w5 wr')) (fun ja _ => i - (intOf ja).toNat)
                case atStart => exact ⟨0, by omega, rfl, HBi⟩
                case round =>
                  obtain ⟨j, hj, rfl, HBj⟩ := hrel
                  by_cases hjl : j < i
                  · have hjI : (j : Int) < (i : Int) := by omega
                    have hj0 : (0 : Int) ≤ (j : Int) := by omega
                    have hjK : (j : Int) < (k4 : Int) := by omega
                    obtain ⟨b1, o1, hx1, e1, hc1⟩ := (H5.out.1.below HBj.out).at hil
                    obtain ⟨b2, o2, hx2, e2, hc2⟩ := (H5.out.1.below HBj.out).at (show j < k4 by omega)
                    simp only [Option.some.injEq, Addr.mk.injEq, and_true] at e1 e2
                    obtain ⟨rfl, rfl⟩ := e1
                    obtain ⟨rfl, rfl⟩ := e2
                    have hne := nodup_ne (HG'.out (v1, v2)).2 hx1 hx2 hjl
                    generalize (m' (v1, v2))[i] = y1 at *
                    generalize (m' (v1, v2))[j] = y2 at *
                    have hneB : (y1 == y2) = false := by simp [hne]
                    simp only [Nat.zero_add] at hc1 hc2
                    clear hx1 hx2
                    go_wp2_with fail
                    go_quiet (fail)
                    go_wp2_with fail
                    go_roundw
                    case rel => exact ⟨j + 1, by omega, by go_num, below_dN HBj.out _⟩
                    case measure => simp [intOf]; omega
                  · go_wp2_with fail
                    go_roundw
                    case rel => exact ⟨i + 1, by omega, by go_num, HBj⟩
                    case measure => simp [intOf]; omega
              · go_wp2_with fail
                go_roundw
                case rel => exact ⟨k + 1, by omega, by omega, by go_num, by
                  obtain ⟨n', s', q', h1, h2⟩ := H5.out.2.below HBi.out
                  exact ⟨n', s', m', q', h2.tab, h1, HG'.out, h2.bel⟩⟩
                case measure => simp [intOf]; omega
        · by_cases hkd2 : kd = 2
          · subst hkd2
            have H16 : Calls Try.prog 16 #[.pointer (some ⟨tb, 0, none⟩), .agg #[.int .i64 x1, .int .i64 x2]] (((((W2.setCell ⟨xb, 0, none⟩ (.int .i64 2)).setCell ⟨xb, 1, none⟩ (.int .i64 x1)).setCell ⟨xb, 2, none⟩ (.int .i64 x2)).setCell ⟨xb, 3, none⟩ (.int .i64 nd)).setCell ⟨xb, 4, none⟩ (.slice da dn dc)) fun e w' => ∃ r, e = .returned (.bool r) ∧ Hid (Mid wB tb rb wb xb g2 k2 (k + 1) 2 x1 x2 nd (.slice da dn dc) (m (v1, v2)) (deedM m 2 (x1, x2) nd) w') := by
              refine (o16 _ tb rb wb nn s m q (x1, x2) _ HM.out.tab HX.out.1 (by have := HX.out.2.1; omega)).mono ?_
              rintro e w' ⟨rfl, h1, h2⟩
              exact ⟨_, rfl, nn + 1, s, setAt q (x1, x2) true, Nat.succ_le_succ HX.out.2.1, HM.out.to h1 h2⟩
            go_wp2_with fail
            clear hW2 hxb c0 c1 c2 c3 c4 g0 g1 g2' g3 g4 p0 p1 p2 p3 p4
            refine H16.mono ?_
            rintro e w3 ⟨r, rfl, H3⟩
            clear H16 HM
            by_cases hxv : v1 = x1
            · by_cases hxv2 : v2 = x2
              · have HNE : Hid ((x1, x2) ≠ (v1, v2) ∨ ((2 : Int) ≠ 0 ∧ (2 : Int) ≠ 1)) := .inr ⟨by decide, by decide⟩
                subst hxv hxv2
                obtain ⟨m', hm'⟩ : ∃ m', deedM m 2 (v1, v2) nd = m' := ⟨_, rfl⟩
                have HG' : Hid (GoodM m' (k + 1)) := by rw [← hm']; exact deedM_good m 2 (v1, v2) nd k HX.out.2.2
                have HSM : Hid (m' (v1, v2) = m (v1, v2)) := by rw [← hm']; exact deedM_other m 2 (v1, v2) nd (v1, v2) HNE.out
                rw [hm'] at H3
                clear hm'
                obtain ⟨b0, b1⟩ := HC.out w3 (by obtain ⟨_, _, _, _, h⟩ := H3.out; exact h.bel)
                have H22 : Calls Try.prog 22 #[.pointer (some ⟨tb, 0, none⟩), .agg #[.int .i64 v1, .int .i64 v2]] w3 fun e w' => ∃ g kk, e = .returned (.slice (some ⟨g, 0, none⟩) kk kk) ∧ Hid (In w' (some ⟨g, 0, none⟩) kk (m' (v1, v2)) ∧ Mid wB tb rb wb xb g2 k2 (k + 1) 2 v1 v2 nd (.slice da dn dc) (m (v1, v2)) m' w') := by
                  obtain ⟨n', s', q', h1, h2⟩ := H3.out
                  refine (o22 _ tb rb wb n' s' m' q' (v1, v2) w3 h2.tab HV.out.2.2.2.1 (by have := (HG'.out (v1, v2)).1; omega)).mono ?_
                  rintro e w' ⟨g, kk, rfl, r1, r2⟩
                  exact ⟨g, kk, rfl, r1.in, ⟨n', s', q', h1, h2.below r2⟩⟩
                go_wp2_with fail
                refine H22.mono ?_
                rintro e w4 ⟨g4, k4, rfl, H4⟩
                clear H22 b0 b1 H3
                obtain ⟨b0, b1⟩ := HC.out w4 (by obtain ⟨_, _, _, _, _, h⟩ := H4.out; exact h.bel)
                obtain ⟨c0, c1, c2, _, _, _, _, _, _, _⟩ := (show DdC w4 xb 2 v1 v2 nd (.slice da dn dc) from by obtain ⟨_, _, _, _, _, h⟩ := H4.out; exact dd_cells h.xc)
                have hk4 : k4 ≤ 1000 := by have h1 := H4.out.1.len; have h2 := (HG'.out (v1, v2)).1; omega
                have H13 : Calls Try.prog 13 #[.slice (some ⟨g2, 0, none⟩) k2 k2, .slice (some ⟨g4, 0, none⟩) k4 k4] w4 fun e w' => e = .returned (.bool true) ∧ Hid (In w' (some ⟨g4, 0, none⟩) k4 (m' (v1, v2)) ∧ Mid wB tb rb wb xb g2 k2 (k + 1) 2 v1 v2 nd (.slice da dn dc) (m (v1, v2)) m' w') := by
                  obtain ⟨r1, r2⟩ := H4.out
                  have r3 : In w4 (some ⟨g2, 0, none⟩) k2 (m (v1, v2)) := by obtain ⟨_, _, _, _, h⟩ := r2; exact h.was
                  have hl : k2 ≤ 1000 := by have h1 := r3.len; have h2 := (HX.out.2.2 (v1, v2)).1; omega
                  refine (o13 _ _ k2 k2 k4 k4 (m (v1, v2)) (m' (v1, v2)) w4 r3 r1 (by omega) (by omega)).mono ?_
                  rintro e w' ⟨rfl, d, rfl⟩
                  exact ⟨by rw [HSM.out]; simp [sameI], r1.below (below_dN (Below.refl _ _) d), r2.below (below_dN (Below.refl _ _) d)⟩
                go_wp2_with fail
                refine H13.mono ?_
                rintro e w5 ⟨rfl, H5⟩
                clear H13 H4 b0 b1 c0 c1 c2
                go_wp2_with fail
                go_loopw [10, 11] (fun ia _ wr => ∃ i : Nat, i ≤ k4 ∧ ia = .int .i64 i ∧ Hid (Below w5.heap.size w5 wr)) (fun ia _ _ => k4 - (intOf ia).toNat)
                case atStart => exact ⟨0, by omega, rfl, Below.refl _ _⟩
                case round =>
                  obtain ⟨i, hi, rfl, HBi⟩ := hrel
                  by_cases hil : i < k4
                  · have hiI : (i : Int) < (k4 : Int) := by omega
                    have hi0 : (0 : Int) ≤ (i : Int) := by omega
                    go_wp2_with fail
                    go_loopw [11] (fun ja wr' => ∃ j : Nat, j ≤ i ∧ ja = .int .i64 j ∧ Hid (Below w5.heap.size w5 wr')) (fun ja _ => i - (intOf ja).toNat)
                    case atStart => exact ⟨0, by omega, rfl, HBi⟩
                    case round =>
                      obtain ⟨j, hj, rfl, HBj⟩ := hrel
                      by_cases hjl : j < i
                      · have hjI : (j : Int) < (i : Int) := by omega
                        have hj0 : (0 : Int) ≤ (j : Int) := by omega
                        have hjK : (j : Int) < (k4 : Int) := by omega
                        obtain ⟨b1, o1, hx1, e1, hc1⟩ := (H5.out.1.below HBj.out).at hil
                        obtain ⟨b2, o2, hx2, e2, hc2⟩ := (H5.out.1.below HBj.out).at (show j < k4 by omega)
                        simp only [Option.some.injEq, Addr.mk.injEq, and_true] at e1 e2
                        obtain ⟨rfl, rfl⟩ := e1
                        obtain ⟨rfl, rfl⟩ := e2
                        have hne := nodup_ne (HG'.out (v1, v2)).2 hx1 hx2 hjl
                        generalize (m' (v1, v2))[i] = y1 at *
                        generalize (m' (v1, v2))[j] = y2 at *
                        have hneB : (y1 == y2) = false := by simp [hne]
                        simp only [Nat.zero_add] at hc1 hc2
                        clear hx1 hx2
                        go_wp2_with fail
                        go_quiet (fail)
                        go_wp2_with fail
                        go_roundw
                        case rel => exact ⟨j + 1, by omega, by go_num, below_dN HBj.out _⟩
                        case measure => simp [intOf]; omega
                      · go_wp2_with fail
                        go_roundw
                        case rel => exact ⟨i + 1, by omega, by go_num, HBj⟩
                        case measure => simp [intOf]; omega
                  · go_wp2_with fail
                    go_roundw
                    case rel => exact ⟨k + 1, by omega, by omega, by go_num, by
                      obtain ⟨n', s', q', h1, h2⟩ := H5.out.2.below HBi.out
                      exact ⟨n', s', m', q', h2.tab, h1, HG'.out, h2.bel⟩⟩
                    case measure => simp [intOf]; omega
              · have hxv3 : ¬ x2 = v2 := fun e => hxv2 e.symm
                have HNE : Hid ((x1, x2) ≠ (v1, v2) ∨ ((2 : Int) ≠ 0 ∧ (2 : Int) ≠ 1)) := .inl (fun e => hxv2 (Prod.mk.inj e).2.symm)
                subst hxv
                obtain ⟨m', hm'⟩ : ∃ m', deedM m 2 (v1, x2) nd = m' := ⟨_, rfl⟩
                have HG' : Hid (GoodM m' (k + 1)) := by rw [← hm']; exact deedM_good m 2 (v1, x2) nd k HX.out.2.2
                have HSM : Hid (m' (v1, v2) = m (v1, v2)) := by rw [← hm']; exact deedM_other m 2 (v1, x2) nd (v1, v2) HNE.out
                rw [hm'] at H3
                clear hm'
                obtain ⟨b0, b1⟩ := HC.out w3 (by obtain ⟨_, _, _, _, h⟩ := H3.out; exact h.bel)
                have H22 : Calls Try.prog 22 #[.pointer (some ⟨tb, 0, none⟩), .agg #[.int .i64 v1, .int .i64 v2]] w3 fun e w' => ∃ g kk, e = .returned (.slice (some ⟨g, 0, none⟩) kk kk) ∧ Hid (In w' (some ⟨g, 0, none⟩) kk (m' (v1, v2)) ∧ Mid wB tb rb wb xb g2 k2 (k + 1) 2 v1 x2 nd (.slice da dn dc) (m (v1, v2)) m' w') := by
                  obtain ⟨n', s', q', h1, h2⟩ := H3.out
                  refine (o22 _ tb rb wb n' s' m' q' (v1, v2) w3 h2.tab HV.out.2.2.2.1 (by have := (HG'.out (v1, v2)).1; omega)).mono ?_
                  rintro e w' ⟨g, kk, rfl, r1, r2⟩
                  exact ⟨g, kk, rfl, r1.in, ⟨n', s', q', h1, h2.below r2⟩⟩
                go_wp2_with fail
                refine H22.mono ?_
                rintro e w4 ⟨g4, k4, rfl, H4⟩
                clear H22 b0 b1 H3
                obtain ⟨b0, b1⟩ := HC.out w4 (by obtain ⟨_, _, _, _, _, h⟩ := H4.out; exact h.bel)
                obtain ⟨c0, c1, c2, _, _, _, _, _, _, _⟩ := (show DdC w4 xb 2 v1 x2 nd (.slice da dn dc) from by obtain ⟨_, _, _, _, _, h⟩ := H4.out; exact dd_cells h.xc)
                have hk4 : k4 ≤ 1000 := by have h1 := H4.out.1.len; have h2 := (HG'.out (v1, v2)).1; omega
                have H13 : Calls Try.prog 13 #[.slice (some ⟨g2, 0, none⟩) k2 k2, .slice (some ⟨g4, 0, none⟩) k4 k4] w4 fun e w' => e = .returned (.bool true) ∧ Hid (In w' (some ⟨g4, 0, none⟩) k4 (m' (v1, v2)) ∧ Mid wB tb rb wb xb g2 k2 (k + 1) 2 v1 x2 nd (.slice da dn dc) (m (v1, v2)) m' w') := by
                  obtain ⟨r1, r2⟩ := H4.out
                  have r3 : In w4 (some ⟨g2, 0, none⟩) k2 (m (v1, v2)) := by obtain ⟨_, _, _, _, h⟩ := r2; exact h.was
                  have hl : k2 ≤ 1000 := by have h1 := r3.len; have h2 := (HX.out.2.2 (v1, v2)).1; omega
                  refine (o13 _ _ k2 k2 k4 k4 (m (v1, v2)) (m' (v1, v2)) w4 r3 r1 (by omega) (by omega)).mono ?_
                  rintro e w' ⟨rfl, d, rfl⟩
                  exact ⟨by rw [HSM.out]; simp [sameI], r1.below (below_dN (Below.refl _ _) d), r2.below (below_dN (Below.refl _ _) d)⟩
                go_wp2_with fail
                refine H13.mono ?_
                rintro e w5 ⟨rfl, H5⟩
                clear H13 H4 b0 b1 c0 c1 c2
                go_wp2_with fail
                go_loopw [10, 11] (fun ia _ wr => ∃ i : Nat, i ≤ k4 ∧ ia = .int .i64 i ∧ Hid (Below w5.heap.size w5 wr)) (fun ia _ _ => k4 - (intOf ia).toNat)
                case atStart => exact ⟨0, by omega, rfl, Below.refl _ _⟩
                case round =>
                  obtain ⟨i, hi, rfl, HBi⟩ := hrel
                  by_cases hil : i < k4
                  · have hiI : (i : Int) < (k4 : Int) := by omega
                    have hi0 : (0 : Int) ≤ (i : Int) := by omega
                    go_wp2_with fail
                    go_loopw [11] (fun ja wr' => ∃ j : Nat, j ≤ i ∧ ja = .int .i64 j ∧ Hid (Below w5.heap.size w5 wr')) (fun ja _ => i - (intOf ja).toNat)
                    case atStart => exact ⟨0, by omega, rfl, HBi⟩
                    case round =>
                      obtain ⟨j, hj, rfl, HBj⟩ := hrel
                      by_cases hjl : j < i
                      · have hjI : (j : Int) < (i : Int) := by omega
                        have hj0 : (0 : Int) ≤ (j : Int) := by omega
                        have hjK : (j : Int) < (k4 : Int) := by omega
                        obtain ⟨b1, o1, hx1, e1, hc1⟩ := (H5.out.1.below HBj.out).at hil
                        obtain ⟨b2, o2, hx2, e2, hc2⟩ := (H5.out.1.below HBj.out).at (show j < k4 by omega)
                        simp only [Option.some.injEq, Addr.mk.injEq, and_true] at e1 e2
                        obtain ⟨rfl, rfl⟩ := e1
                        obtain ⟨rfl, rfl⟩ := e2
                        have hne := nodup_ne (HG'.out (v1, v2)).2 hx1 hx2 hjl
                        generalize (m' (v1, v2))[i] = y1 at *
                        generalize (m' (v1, v2))[j] = y2 at *
                        have hneB : (y1 == y2) = false := by simp [hne]
                        simp only [Nat.zero_add] at hc1 hc2
                        clear hx1 hx2
                        go_wp2_with fail
                        go_quiet (fail)
                        go_wp2_with fail
                        go_roundw
                        case rel => exact ⟨j + 1, by omega, by go_num, below_dN HBj.out _⟩
                        case measure => simp [intOf]; omega
                      · go_wp2_with fail
                        go_roundw
                        case rel => exact ⟨i + 1, by omega, by go_num, HBj⟩
                        case measure => simp [intOf]; omega
                  · go_wp2_with fail
                    go_roundw
                    case rel => exact ⟨k + 1, by omega, by omega, by go_num, by
                      obtain ⟨n', s', q', h1, h2⟩ := H5.out.2.below HBi.out
                      exact ⟨n', s', m', q', h2.tab, h1, HG'.out, h2.bel⟩⟩
                    case measure => simp [intOf]; omega
            · have hxv3 : ¬ x1 = v1 := fun e => hxv e.symm
              have HNE : Hid ((x1, x2) ≠ (v1, v2) ∨ ((2 : Int) ≠ 0 ∧ (2 : Int) ≠ 1)) := .inl (fun e => hxv (Prod.mk.inj e).1.symm)
              obtain ⟨m', hm'⟩ : ∃ m', deedM m 2 (x1, x2) nd = m' := ⟨_, rfl⟩
              have HG' : Hid (GoodM m' (k + 1)) := by rw [← hm']; exact deedM_good m 2 (x1, x2) nd k HX.out.2.2
              have HSM : Hid (m' (v1, v2) = m (v1, v2)) := by rw [← hm']; exact deedM_other m 2 (x1, x2) nd (v1, v2) HNE.out
              rw [hm'] at H3
              clear hm'
              obtain ⟨b0, b1⟩ := HC.out w3 (by obtain ⟨_, _, _, _, h⟩ := H3.out; exact h.bel)
              have H22 : Calls Try.prog 22 #[.pointer (some ⟨tb, 0, none⟩), .agg #[.int .i64 v1, .int .i64 v2]] w3 fun e w' => ∃ g kk, e = .returned (.slice (some ⟨g, 0, none⟩) kk kk) ∧ Hid (In w' (some ⟨g, 0, none⟩) kk (m' (v1, v2)) ∧ Mid wB tb rb wb xb g2 k2 (k + 1) 2 x1 x2 nd (.slice da dn dc) (m (v1, v2)) m' w') := by
                obtain ⟨n', s', q', h1, h2⟩ := H3.out
                refine (o22 _ tb rb wb n' s' m' q' (v1, v2) w3 h2.tab HV.out.2.2.2.1 (by have := (HG'.out (v1, v2)).1; omega)).mono ?_
                rintro e w' ⟨g, kk, rfl, r1, r2⟩
                exact ⟨g, kk, rfl, r1.in, ⟨n', s', q', h1, h2.below r2⟩⟩
              go_wp2_with fail
              refine H22.mono ?_
              rintro e w4 ⟨g4, k4, rfl, H4⟩
              clear H22 b0 b1 H3
              obtain ⟨b0, b1⟩ := HC.out w4 (by obtain ⟨_, _, _, _, _, h⟩ := H4.out; exact h.bel)
              obtain ⟨c0, c1, c2, _, _, _, _, _, _, _⟩ := (show DdC w4 xb 2 x1 x2 nd (.slice da dn dc) from by obtain ⟨_, _, _, _, _, h⟩ := H4.out; exact dd_cells h.xc)
              have hk4 : k4 ≤ 1000 := by have h1 := H4.out.1.len; have h2 := (HG'.out (v1, v2)).1; omega
              have H13 : Calls Try.prog 13 #[.slice (some ⟨g2, 0, none⟩) k2 k2, .slice (some ⟨g4, 0, none⟩) k4 k4] w4 fun e w' => e = .returned (.bool true) ∧ Hid (In w' (some ⟨g4, 0, none⟩) k4 (m' (v1, v2)) ∧ Mid wB tb rb wb xb g2 k2 (k + 1) 2 x1 x2 nd (.slice da dn dc) (m (v1, v2)) m' w') := by
                obtain ⟨r1, r2⟩ := H4.out
                have r3 : In w4 (some ⟨g2, 0, none⟩) k2 (m (v1, v2)) := by obtain ⟨_, _, _, _, h⟩ := r2; exact h.was
                have hl : k2 ≤ 1000 := by have h1 := r3.len; have h2 := (HX.out.2.2 (v1, v2)).1; omega
                refine (o13 _ _ k2 k2 k4 k4 (m (v1, v2)) (m' (v1, v2)) w4 r3 r1 (by omega) (by omega)).mono ?_
                rintro e w' ⟨rfl, d, rfl⟩
                exact ⟨by rw [HSM.out]; simp [sameI], r1.below (below_dN (Below.refl _ _) d), r2.below (below_dN (Below.refl _ _) d)⟩
              go_wp2_with fail
              refine H13.mono ?_
              rintro e w5 ⟨rfl, H5⟩
              clear H13 H4 b0 b1 c0 c1 c2
              go_wp2_with fail
              go_loopw [10, 11] (fun ia _ wr => ∃ i : Nat, i ≤ k4 ∧ ia = .int .i64 i ∧ Hid (Below w5.heap.size w5 wr)) (fun ia _ _ => k4 - (intOf ia).toNat)
              case atStart => exact ⟨0, by omega, rfl, Below.refl _ _⟩
              case round =>
                obtain ⟨i, hi, rfl, HBi⟩ := hrel
                by_cases hil : i < k4
                · have hiI : (i : Int) < (k4 : Int) := by omega
                  have hi0 : (0 : Int) ≤ (i : Int) := by omega
                  go_wp2_with fail
                  go_loopw [11] (fun ja wr' => ∃ j : Nat, j ≤ i ∧ ja = .int .i64 j ∧ Hid (Below w5.heap.size w5 wr')) (fun ja _ => i - (intOf ja).toNat)
                  case atStart => exact ⟨0, by omega, rfl, HBi⟩
                  case round =>
                    obtain ⟨j, hj, rfl, HBj⟩ := hrel
                    by_cases hjl : j < i
                    · have hjI : (j : Int) < (i : Int) := by omega
                      have hj0 : (0 : Int) ≤ (j : Int) := by omega
                      have hjK : (j : Int) < (k4 : Int) := by omega
                      obtain ⟨b1, o1, hx1, e1, hc1⟩ := (H5.out.1.below HBj.out).at hil
                      obtain ⟨b2, o2, hx2, e2, hc2⟩ := (H5.out.1.below HBj.out).at (show j < k4 by omega)
                      simp only [Option.some.injEq, Addr.mk.injEq, and_true] at e1 e2
                      obtain ⟨rfl, rfl⟩ := e1
                      obtain ⟨rfl, rfl⟩ := e2
                      have hne := nodup_ne (HG'.out (v1, v2)).2 hx1 hx2 hjl
                      generalize (m' (v1, v2))[i] = y1 at *
                      generalize (m' (v1, v2))[j] = y2 at *
                      have hneB : (y1 == y2) = false := by simp [hne]
                      simp only [Nat.zero_add] at hc1 hc2
                      clear hx1 hx2
                      go_wp2_with fail
                      go_quiet (fail)
                      go_wp2_with fail
                      go_roundw
                      case rel => exact ⟨j + 1, by omega, by go_num, below_dN HBj.out _⟩
                      case measure => simp [intOf]; omega
                    · go_wp2_with fail
                      go_roundw
                      case rel => exact ⟨i + 1, by omega, by go_num, HBj⟩
                      case measure => simp [intOf]; omega
                · go_wp2_with fail
                  go_roundw
                  case rel => exact ⟨k + 1, by omega, by omega, by go_num, by
                    obtain ⟨n', s', q', h1, h2⟩ := H5.out.2.below HBi.out
                    exact ⟨n', s', m', q', h2.tab, h1, HG'.out, h2.bel⟩⟩
                  case measure => simp [intOf]; omega
          · have hq0 : (kd == 0) = false := by simp [hkd0]
            have hq1 : (kd == 1) = false := by simp [hkd1]
            have hq2 : (kd == 2) = false := by simp [hkd2]
            have H3 : Hid (Mid wB tb rb wb xb g2 k2 (k + 1) kd x1 x2 nd (.slice da dn dc) (m (v1, v2)) (deedM m kd (x1, x2) nd) (((((W2.setCell ⟨xb, 0, none⟩ (.int .i64 kd)).setCell ⟨xb, 1, none⟩ (.int .i64 x1)).setCell ⟨xb, 2, none⟩ (.int .i64 x2)).setCell ⟨xb, 3, none⟩ (.int .i64 nd)).setCell ⟨xb, 4, none⟩ (.slice da dn dc))) := by
              refine ⟨nn, s, q, Nat.le_succ_of_le HX.out.2.1, ?_⟩
              have e : deedM m kd (x1, x2) nd = m := by unfold deedM; rw [if_neg hkd0, if_neg hkd1]
              rw [e]
              exact HM.out
            obtain ⟨w3, hw3⟩ : ∃ w3, (((((W2.setCell ⟨xb, 0, none⟩ (.int .i64 kd)).setCell ⟨xb, 1, none⟩ (.int .i64 x1)).setCell ⟨xb, 2, none⟩ (.int .i64 x2)).setCell ⟨xb, 3, none⟩ (.int .i64 nd)).setCell ⟨xb, 4, none⟩ (.slice da dn dc)) = w3 := ⟨_, rfl⟩
            rw [hw3] at H3
            obtain ⟨y0, y1, y2, y3, y4, _, _, _, _, _⟩ := (show DdC w3 xb kd x1 x2 nd (.slice da dn dc) from by obtain ⟨_, _, _, _, h⟩ := H3.out; exact dd_cells h.xc)
            clear HM
            by_cases hxv : v1 = x1
            · by_cases hxv2 : v2 = x2
              · have HNE : Hid ((x1, x2) ≠ (v1, v2) ∨ ((kd : Int) ≠ 0 ∧ (kd : Int) ≠ 1)) := .inr ⟨hkd0, hkd1⟩
                subst hxv hxv2
                by_cases hgt : 1 < kd
                · have hgt2 : kd > 1 := hgt
                  obtain ⟨m', hm'⟩ : ∃ m', deedM m kd (v1, v2) nd = m' := ⟨_, rfl⟩
                  have HG' : Hid (GoodM m' (k + 1)) := by rw [← hm']; exact deedM_good m kd (v1, v2) nd k HX.out.2.2
                  have HSM : Hid (m' (v1, v2) = m (v1, v2)) := by rw [← hm']; exact deedM_other m kd (v1, v2) nd (v1, v2) HNE.out
                  rw [hm'] at H3
                  clear hm'
                  obtain ⟨b0, b1⟩ := HC.out w3 (by obtain ⟨_, _, _, _, h⟩ := H3.out; exact h.bel)
                  have H22 : Calls Try.prog 22 #[.pointer (some ⟨tb, 0, none⟩), .agg #[.int .i64 v1, .int .i64 v2]] w3 fun e w' => ∃ g kk, e = .returned (.slice (some ⟨g, 0, none⟩) kk kk) ∧ Hid (In w' (some ⟨g, 0, none⟩) kk (m' (v1, v2)) ∧ Mid wB tb rb wb xb g2 k2 (k + 1) kd v1 v2 nd (.slice da dn dc) (m (v1, v2)) m' w') := by
                    obtain ⟨n', s', q', h1, h2⟩ := H3.out
                    refine (o22 _ tb rb wb n' s' m' q' (v1, v2) w3 h2.tab HV.out.2.2.2.1 (by have := (HG'.out (v1, v2)).1; omega)).mono ?_
                    rintro e w' ⟨g, kk, rfl, r1, r2⟩
                    exact ⟨g, kk, rfl, r1.in, ⟨n', s', q', h1, h2.below r2⟩⟩
                  go_wp2_with fail
                  refine H22.mono ?_
                  rintro e w4 ⟨g4, k4, rfl, H4⟩
                  clear H22 b0 b1 H3
                  obtain ⟨b0, b1⟩ := HC.out w4 (by obtain ⟨_, _, _, _, _, h⟩ := H4.out; exact h.bel)
                  obtain ⟨c0, c1, c2, _, _, _, _, _, _, _⟩ := (show DdC w4 xb kd v1 v2 nd (.slice da dn dc) from by obtain ⟨_, _, _, _, _, h⟩ := H4.out; exact dd_cells h.xc)
                  have hk4 : k4 ≤ 1000 := by have h1 := H4.out.1.len; have h2 := (HG'.out (v1, v2)).1; omega
                  have H13 : Calls Try.prog 13 #[.slice (some ⟨g2, 0, none⟩) k2 k2, .slice (some ⟨g4, 0, none⟩) k4 k4] w4 fun e w' => e = .returned (.bool true) ∧ Hid (In w' (some ⟨g4, 0, none⟩) k4 (m' (v1, v2)) ∧ Mid wB tb rb wb xb g2 k2 (k + 1) kd v1 v2 nd (.slice da dn dc) (m (v1, v2)) m' w') := by
                    obtain ⟨r1, r2⟩ := H4.out
                    have r3 : In w4 (some ⟨g2, 0, none⟩) k2 (m (v1, v2)) := by obtain ⟨_, _, _, _, h⟩ := r2; exact h.was
                    have hl : k2 ≤ 1000 := by have h1 := r3.len; have h2 := (HX.out.2.2 (v1, v2)).1; omega
                    refine (o13 _ _ k2 k2 k4 k4 (m (v1, v2)) (m' (v1, v2)) w4 r3 r1 (by omega) (by omega)).mono ?_
                    rintro e w' ⟨rfl, d, rfl⟩
                    exact ⟨by rw [HSM.out]; simp [sameI], r1.below (below_dN (Below.refl _ _) d), r2.below (below_dN (Below.refl _ _) d)⟩
                  go_wp2_with fail
                  refine H13.mono ?_
                  rintro e w5 ⟨rfl, H5⟩
                  clear H13 H4 b0 b1 c0 c1 c2
                  go_wp2_with fail
                  go_loopw [10, 11] (fun ia _ wr => ∃ i : Nat, i ≤ k4 ∧ ia = .int .i64 i ∧ Hid (Below w5.heap.size w5 wr)) (fun ia _ _ => k4 - (intOf ia).toNat)
                  case atStart => exact ⟨0, by omega, rfl, Below.refl _ _⟩
                  case round =>
                    obtain ⟨i, hi, rfl, HBi⟩ := hrel
                    by_cases hil : i < k4
                    · have hiI : (i : Int) < (k4 : Int) := by omega
                      have hi0 : (0 : Int) ≤ (i : Int) := by omega
                      go_wp2_with fail
                      go_loopw [11] (fun ja wr' => ∃ j : Nat, j ≤ i ∧ ja = .int .i64 j ∧ Hid (Below w5.heap.size w5 wr')) (fun ja _ => i - (intOf ja).toNat)
                      case atStart => exact ⟨0, by omega, rfl, HBi⟩
                      case round =>
                        obtain ⟨j, hj, rfl, HBj⟩ := hrel
                        by_cases hjl : j < i
                        · have hjI : (j : Int) < (i : Int) := by omega
                          have hj0 : (0 : Int) ≤ (j : Int) := by omega
                          have hjK : (j : Int) < (k4 : Int) := by omega
                          obtain ⟨b1, o1, hx1, e1, hc1⟩ := (H5.out.1.below HBj.out).at hil
                          obtain ⟨b2, o2, hx2, e2, hc2⟩ := (H5.out.1.below HBj.out).at (show j < k4 by omega)
                          simp only [Option.some.injEq, Addr.mk.injEq, and_true] at e1 e2
                          obtain ⟨rfl, rfl⟩ := e1
                          obtain ⟨rfl, rfl⟩ := e2
                          have hne := nodup_ne (HG'.out (v1, v2)).2 hx1 hx2 hjl
                          generalize (m' (v1, v2))[i] = y1 at *
                          generalize (m' (v1, v2))[j] = y2 at *
                          have hneB : (y1 == y2) = false := by simp [hne]
                          simp only [Nat.zero_add] at hc1 hc2
                          clear hx1 hx2
                          go_wp2_with fail
                          go_quiet (fail)
                          go_wp2_with fail
                          go_roundw
                          case rel => exact ⟨j + 1, by omega, by go_num, below_dN HBj.out _⟩
                          case measure => simp [intOf]; omega
                        · go_wp2_with fail
                          go_roundw
                          case rel => exact ⟨i + 1, by omega, by go_num, HBj⟩
                          case measure => simp [intOf]; omega
                    · go_wp2_with fail
                      go_roundw
                      case rel => exact ⟨k + 1, by omega, by omega, by go_num, by
                        obtain ⟨n', s', q', h1, h2⟩ := H5.out.2.below HBi.out
                        exact ⟨n', s', m', q', h2.tab, h1, HG'.out, h2.bel⟩⟩
                      case measure => simp [intOf]; omega
                · have hgt2 : ¬ kd > 1 := hgt
                  obtain ⟨m', hm'⟩ : ∃ m', deedM m kd (v1, v2) nd = m' := ⟨_, rfl⟩
                  have HG' : Hid (GoodM m' (k + 1)) := by rw [← hm']; exact deedM_good m kd (v1, v2) nd k HX.out.2.2
                  rw [hm'] at H3
                  clear hm'
                  obtain ⟨b0, b1⟩ := HC.out w3 (by obtain ⟨_, _, _, _, h⟩ := H3.out; exact h.bel)
                  have H22 : Calls Try.prog 22 #[.pointer (some ⟨tb, 0, none⟩), .agg #[.int .i64 v1, .int .i64 v2]] w3 fun e w' => ∃ g kk, e = .returned (.slice (some ⟨g, 0, none⟩) kk kk) ∧ Hid (In w' (some ⟨g, 0, none⟩) kk (m' (v1, v2)) ∧ Mid wB tb rb wb xb g2 k2 (k + 1) kd v1 v2 nd (.slice da dn dc) (m (v1, v2)) m' w') := by
                    obtain ⟨n', s', q', h1, h2⟩ := H3.out
                    refine (o22 _ tb rb wb n' s' m' q' (v1, v2) w3 h2.tab HV.out.2.2.2.1 (by have := (HG'.out (v1, v2)).1; omega)).mono ?_
                    rintro e w' ⟨g, kk, rfl, r1, r2⟩
                    exact ⟨g, kk, rfl, r1.in, ⟨n', s', q', h1, h2.below r2⟩⟩
                  go_wp2_with fail
                  refine H22.mono ?_
                  rintro e w4 ⟨g4, k4, rfl, H4⟩
                  clear H22 b0 b1 H3
                  obtain ⟨b0, b1⟩ := HC.out w4 (by obtain ⟨_, _, _, _, _, h⟩ := H4.out; exact h.bel)
                  obtain ⟨c0, c1, c2, _, _, _, _, _, _, _⟩ := (show DdC w4 xb kd v1 v2 nd (.slice da dn dc) from by obtain ⟨_, _, _, _, _, h⟩ := H4.out; exact dd_cells h.xc)
                  have hk4 : k4 ≤ 1000 := by have h1 := H4.out.1.len; have h2 := (HG'.out (v1, v2)).1; omega
                  have H5 := H4
                  go_wp2_with fail
                  clear H4 b0 b1 c0 c1 c2
                  go_loopw [10, 11] (fun ia _ wr => ∃ i : Nat, i ≤ k4 ∧ ia = .int .i64 i ∧ Hid (Below w4.heap.size w4 wr)) (fun ia _ _ => k4 - (intOf ia).toNat)
                  case atStart => exact ⟨0, by omega, rfl, Below.refl _ _⟩
                  case round =>
                    obtain ⟨i, hi, rfl, HBi⟩ := hrel
                    by_cases hil : i < k4
                    · have hiI : (i : Int) < (k4 : Int) := by omega
                      have hi0 : (0 : Int) ≤ (i : Int) := by omega
                      go_wp2_with fail
                      go_loopw [11] (fun ja wr' => ∃ j : Nat, j ≤ i ∧ ja = .int .i64 j ∧ Hid (Below w4.heap.size w4 wr')) (fun ja _ => i - (intOf ja).toNat)
                      case atStart => exact ⟨0, by omega, rfl, HBi⟩
                      case round =>
                        obtain ⟨j, hj, rfl, HBj⟩ := hrel
                        by_cases hjl : j < i
                        · have hjI : (j : Int) < (i : Int) := by omega
                          have hj0 : (0 : Int) ≤ (j : Int) := by omega
                          have hjK : (j : Int) < (k4 : Int) := by omega
                          obtain ⟨b1, o1, hx1, e1, hc1⟩ := (H5.out.1.below HBj.out).at hil
                          obtain ⟨b2, o2, hx2, e2, hc2⟩ := (H5.out.1.below HBj.out).at (show j < k4 by omega)
                          simp only [Option.some.injEq, Addr.mk.injEq, and_true] at e1 e2
                          obtain ⟨rfl, rfl⟩ := e1
                          obtain ⟨rfl, rfl⟩ := e2
                          have hne := nodup_ne (HG'.out (v1, v2)).2 hx1 hx2 hjl
                          generalize (m' (v1, v2))[i] = y1 at *
                          generalize (m' (v1, v2))[j] = y2 at *
                          have hneB : (y1 == y2) = false := by simp [hne]
                          simp only [Nat.zero_add] at hc1 hc2
                          clear hx1 hx2
                          go_wp2_with fail
                          go_quiet (fail)
                          go_wp2_with fail
                          go_roundw
                          case rel => exact ⟨j + 1, by omega, by go_num, below_dN HBj.out _⟩
                          case measure => simp [intOf]; omega
                        · go_wp2_with fail
                          go_roundw
                          case rel => exact ⟨i + 1, by omega, by go_num, HBj⟩
                          case measure => simp [intOf]; omega
                    · go_wp2_with fail
                      go_roundw
                      case rel => exact ⟨k + 1, by omega, by omega, by go_num, by
                        obtain ⟨n', s', q', h1, h2⟩ := H5.out.2.below HBi.out
                        exact ⟨n', s', m', q', h2.tab, h1, HG'.out, h2.bel⟩⟩
                      case measure => simp [intOf]; omega
              · have hxv3 : ¬ x2 = v2 := fun e => hxv2 e.symm
                have HNE : Hid ((x1, x2) ≠ (v1, v2) ∨ ((kd : Int) ≠ 0 ∧ (kd : Int) ≠ 1)) := .inl (fun e => hxv2 (Prod.mk.inj e).2.symm)
                subst hxv
                obtain ⟨m', hm'⟩ : ∃ m', deedM m kd (v1, x2) nd = m' := ⟨_, rfl⟩
                have HG' : Hid (GoodM m' (k + 1)) := by rw [← hm']; exact deedM_good m kd (v1, x2) nd k HX.out.2.2
                have HSM : Hid (m' (v1, v2) = m (v1, v2)) := by rw [← hm']; exact deedM_other m kd (v1, x2) nd (v1, v2) HNE.out
                rw [hm'] at H3
                clear hm'
                obtain ⟨b0, b1⟩ := HC.out w3 (by obtain ⟨_, _, _, _, h⟩ := H3.out; exact h.bel)
                have H22 : Calls Try.prog 22 #[.pointer (some ⟨tb, 0, none⟩), .agg #[.int .i64 v1, .int .i64 v2]] w3 fun e w' => ∃ g kk, e = .returned (.slice (some ⟨g, 0, none⟩) kk kk) ∧ Hid (In w' (some ⟨g, 0, none⟩) kk (m' (v1, v2)) ∧ Mid wB tb rb wb xb g2 k2 (k + 1) kd v1 x2 nd (.slice da dn dc) (m (v1, v2)) m' w') := by
                  obtain ⟨n', s', q', h1, h2⟩ := H3.out
                  refine (o22 _ tb rb wb n' s' m' q' (v1, v2) w3 h2.tab HV.out.2.2.2.1 (by have := (HG'.out (v1, v2)).1; omega)).mono ?_
                  rintro e w' ⟨g, kk, rfl, r1, r2⟩
                  exact ⟨g, kk, rfl, r1.in, ⟨n', s', q', h1, h2.below r2⟩⟩
                go_wp2_with fail
                refine H22.mono ?_
                rintro e w4 ⟨g4, k4, rfl, H4⟩
                clear H22 b0 b1 H3
                obtain ⟨b0, b1⟩ := HC.out w4 (by obtain ⟨_, _, _, _, _, h⟩ := H4.out; exact h.bel)
                obtain ⟨c0, c1, c2, _, _, _, _, _, _, _⟩ := (show DdC w4 xb kd v1 x2 nd (.slice da dn dc) from by obtain ⟨_, _, _, _, _, h⟩ := H4.out; exact dd_cells h.xc)
                have hk4 : k4 ≤ 1000 := by have h1 := H4.out.1.len; have h2 := (HG'.out (v1, v2)).1; omega
                have H13 : Calls Try.prog 13 #[.slice (some ⟨g2, 0, none⟩) k2 k2, .slice (some ⟨g4, 0, none⟩) k4 k4] w4 fun e w' => e = .returned (.bool true) ∧ Hid (In w' (some ⟨g4, 0, none⟩) k4 (m' (v1, v2)) ∧ Mid wB tb rb wb xb g2 k2 (k + 1) kd v1 x2 nd (.slice da dn dc) (m (v1, v2)) m' w') := by
                  obtain ⟨r1, r2⟩ := H4.out
                  have r3 : In w4 (some ⟨g2, 0, none⟩) k2 (m (v1, v2)) := by obtain ⟨_, _, _, _, h⟩ := r2; exact h.was
                  have hl : k2 ≤ 1000 := by have h1 := r3.len; have h2 := (HX.out.2.2 (v1, v2)).1; omega
                  refine (o13 _ _ k2 k2 k4 k4 (m (v1, v2)) (m' (v1, v2)) w4 r3 r1 (by omega) (by omega)).mono ?_
                  rintro e w' ⟨rfl, d, rfl⟩
                  exact ⟨by rw [HSM.out]; simp [sameI], r1.below (below_dN (Below.refl _ _) d), r2.below (below_dN (Below.refl _ _) d)⟩
                go_wp2_with fail
                refine H13.mono ?_
                rintro e w5 ⟨rfl, H5⟩
                clear H13 H4 b0 b1 c0 c1 c2
                go_wp2_with fail
                go_loopw [10, 11] (fun ia _ wr => ∃ i : Nat, i ≤ k4 ∧ ia = .int .i64 i ∧ Hid (Below w5.heap.size w5 wr)) (fun ia _ _ => k4 - (intOf ia).toNat)
                case atStart => exact ⟨0, by omega, rfl, Below.refl _ _⟩
                case round =>
                  obtain ⟨i, hi, rfl, HBi⟩ := hrel
                  by_cases hil : i < k4
                  · have hiI : (i : Int) < (k4 : Int) := by omega
                    have hi0 : (0 : Int) ≤ (i : Int) := by omega
                    go_wp2_with fail
                    go_loopw [11] (fun ja wr' => ∃ j : Nat, j ≤ i ∧ ja = .int .i64 j ∧ Hid (Below w5.heap.size w5 wr')) (fun ja _ => i - (intOf ja).toNat)
                    case atStart => exact ⟨0, by omega, rfl, HBi⟩
                    case round =>
                      obtain ⟨j, hj, rfl, HBj⟩ := hrel
                      by_cases hjl : j < i
                      · have hjI : (j : Int) < (i : Int) := by omega
                        have hj0 : (0 : Int) ≤ (j : Int) := by omega
                        have hjK : (j : Int) < (k4 : Int) := by omega
                        obtain ⟨b1, o1, hx1, e1, hc1⟩ := (H5.out.1.below HBj.out).at hil
                        obtain ⟨b2, o2, hx2, e2, hc2⟩ := (H5.out.1.below HBj.out).at (show j < k4 by omega)
                        simp only [Option.some.injEq, Addr.mk.injEq, and_true] at e1 e2
                        obtain ⟨rfl, rfl⟩ := e1
                        obtain ⟨rfl, rfl⟩ := e2
                        have hne := nodup_ne (HG'.out (v1, v2)).2 hx1 hx2 hjl
                        generalize (m' (v1, v2))[i] = y1 at *
                        generalize (m' (v1, v2))[j] = y2 at *
                        have hneB : (y1 == y2) = false := by simp [hne]
                        simp only [Nat.zero_add] at hc1 hc2
                        clear hx1 hx2
                        go_wp2_with fail
                        go_quiet (fail)
                        go_wp2_with fail
                        go_roundw
                        case rel => exact ⟨j + 1, by omega, by go_num, below_dN HBj.out _⟩
                        case measure => simp [intOf]; omega
                      · go_wp2_with fail
                        go_roundw
                        case rel => exact ⟨i + 1, by omega, by go_num, HBj⟩
                        case measure => simp [intOf]; omega
                  · go_wp2_with fail
                    go_roundw
                    case rel => exact ⟨k + 1, by omega, by omega, by go_num, by
                      obtain ⟨n', s', q', h1, h2⟩ := H5.out.2.below HBi.out
                      exact ⟨n', s', m', q', h2.tab, h1, HG'.out, h2.bel⟩⟩
                    case measure => simp [intOf]; omega
            · have hxv3 : ¬ x1 = v1 := fun e => hxv e.symm
              have HNE : Hid ((x1, x2) ≠ (v1, v2) ∨ ((kd : Int) ≠ 0 ∧ (kd : Int) ≠ 1)) := .inl (fun e => hxv (Prod.mk.inj e).1.symm)
              obtain ⟨m', hm'⟩ : ∃ m', deedM m kd (x1, x2) nd = m' := ⟨_, rfl⟩
              have HG' : Hid (GoodM m' (k + 1)) := by rw [← hm']; exact deedM_good m kd (x1, x2) nd k HX.out.2.2
              have HSM : Hid (m' (v1, v2) = m (v1, v2)) := by rw [← hm']; exact deedM_other m kd (x1, x2) nd (v1, v2) HNE.out
              rw [hm'] at H3
              clear hm'
              obtain ⟨b0, b1⟩ := HC.out w3 (by obtain ⟨_, _, _, _, h⟩ := H3.out; exact h.bel)
              have H22 : Calls Try.prog 22 #[.pointer (some ⟨tb, 0, none⟩), .agg #[.int .i64 v1, .int .i64 v2]] w3 fun e w' => ∃ g kk, e = .returned (.slice (some ⟨g, 0, none⟩) kk kk) ∧ Hid (In w' (some ⟨g, 0, none⟩) kk (m' (v1, v2)) ∧ Mid wB tb rb wb xb g2 k2 (k + 1) kd x1 x2 nd (.slice da dn dc) (m (v1, v2)) m' w') := by
                obtain ⟨n', s', q', h1, h2⟩ := H3.out
                refine (o22 _ tb rb wb n' s' m' q' (v1, v2) w3 h2.tab HV.out.2.2.2.1 (by have := (HG'.out (v1, v2)).1; omega)).mono ?_
                rintro e w' ⟨g, kk, rfl, r1, r2⟩
                exact ⟨g, kk, rfl, r1.in, ⟨n', s', q', h1, h2.below r2⟩⟩
              go_wp2_with fail
              refine H22.mono ?_
              rintro e w4 ⟨g4, k4, rfl, H4⟩
              clear H22 b0 b1 H3
              obtain ⟨b0, b1⟩ := HC.out w4 (by obtain ⟨_, _, _, _, _, h⟩ := H4.out; exact h.bel)
              obtain ⟨c0, c1, c2, _, _, _, _, _, _, _⟩ := (show DdC w4 xb kd x1 x2 nd (.slice da dn dc) from by obtain ⟨_, _, _, _, _, h⟩ := H4.out; exact dd_cells h.xc)
              have hk4 : k4 ≤ 1000 := by have h1 := H4.out.1.len; have h2 := (HG'.out (v1, v2)).1; omega
              have H13 : Calls Try.prog 13 #[.slice (some ⟨g2, 0, none⟩) k2 k2, .slice (some ⟨g4, 0, none⟩) k4 k4] w4 fun e w' => e = .returned (.bool true) ∧ Hid (In w' (some ⟨g4, 0, none⟩) k4 (m' (v1, v2)) ∧ Mid wB tb rb wb xb g2 k2 (k + 1) kd x1 x2 nd (.slice da dn dc) (m (v1, v2)) m' w') := by
                obtain ⟨r1, r2⟩ := H4.out
                have r3 : In w4 (some ⟨g2, 0, none⟩) k2 (m (v1, v2)) := by obtain ⟨_, _, _, _, h⟩ := r2; exact h.was
                have hl : k2 ≤ 1000 := by have h1 := r3.len; have h2 := (HX.out.2.2 (v1, v2)).1; omega
                refine (o13 _ _ k2 k2 k4 k4 (m (v1, v2)) (m' (v1, v2)) w4 r3 r1 (by omega) (by omega)).mono ?_
                rintro e w' ⟨rfl, d, rfl⟩
                exact ⟨by rw [HSM.out]; simp [sameI], r1.below (below_dN (Below.refl _ _) d), r2.below (below_dN (Below.refl _ _) d)⟩
              go_wp2_with fail
              refine H13.mono ?_
              rintro e w5 ⟨rfl, H5⟩
              clear H13 H4 b0 b1 c0 c1 c2
              go_wp2_with fail
              go_loopw [10, 11] (fun ia _ wr => ∃ i : Nat, i ≤ k4 ∧ ia = .int .i64 i ∧ Hid (Below w5.heap.size w5 wr)) (fun ia _ _ => k4 - (intOf ia).toNat)
              case atStart => exact ⟨0, by omega, rfl, Below.refl _ _⟩
              case round =>
                obtain ⟨i, hi, rfl, HBi⟩ := hrel
                by_cases hil : i < k4
                · have hiI : (i : Int) < (k4 : Int) := by omega
                  have hi0 : (0 : Int) ≤ (i : Int) := by omega
                  go_wp2_with fail
                  go_loopw [11] (fun ja wr' => ∃ j : Nat, j ≤ i ∧ ja = .int .i64 j ∧ Hid (Below w5.heap.size w5 wr')) (fun ja _ => i - (intOf ja).toNat)
                  case atStart => exact ⟨0, by omega, rfl, HBi⟩
                  case round =>
                    obtain ⟨j, hj, rfl, HBj⟩ := hrel
                    by_cases hjl : j < i
                    · have hjI : (j : Int) < (i : Int) := by omega
                      have hj0 : (0 : Int) ≤ (j : Int) := by omega
                      have hjK : (j : Int) < (k4 : Int) := by omega
                      obtain ⟨b1, o1, hx1, e1, hc1⟩ := (H5.out.1.below HBj.out).at hil
                      obtain ⟨b2, o2, hx2, e2, hc2⟩ := (H5.out.1.below HBj.out).at (show j < k4 by omega)
                      simp only [Option.some.injEq, Addr.mk.injEq, and_true] at e1 e2
                      obtain ⟨rfl, rfl⟩ := e1
                      obtain ⟨rfl, rfl⟩ := e2
                      have hne := nodup_ne (HG'.out (v1, v2)).2 hx1 hx2 hjl
                      generalize (m' (v1, v2))[i] = y1 at *
                      generalize (m' (v1, v2))[j] = y2 at *
                      have hneB : (y1 == y2) = false := by simp [hne]
                      simp only [Nat.zero_add] at hc1 hc2
                      clear hx1 hx2
                      go_wp2_with fail
                      go_quiet (fail)
                      go_wp2_with fail
                      go_roundw
                      case rel => exact ⟨j + 1, by omega, by go_num, below_dN HBj.out _⟩
                      case measure => simp [intOf]; omega
                    · go_wp2_with fail
                      go_roundw
                      case rel => exact ⟨i + 1, by omega, by go_num, HBj⟩
                      case measure => simp [intOf]; omega
                · go_wp2_with fail
                  go_roundw
                  case rel => exact ⟨k + 1, by omega, by omega, by go_num, by
                    obtain ⟨n', s', q', h1, h2⟩ := H5.out.2.below HBi.out
                    exact ⟨n', s', m', q', h2.tab, h1, HG'.out, h2.bel⟩⟩
                  case measure => simp [intOf]; omega
    · have hlt' : ¬ (k : Int) < (n : Int) ∨ ¬ (k : Int) < 100 := by omega
      have H21 : Calls Try.prog 21 #[] wr fun e w' => e = .returned (.bool true) ∧ Hid (Below w.heap.size w w') := by
        refine (o21 wr).mono ?_
        rintro e w' ⟨rfl, hb⟩
        obtain ⟨_, _, _, _, _, _, _, h⟩ := HK.out
        have h1 := HV.out.1.trans (h.mono HV.out.1.size)
        exact ⟨rfl, h1.trans (hb.mono h1.size)⟩
      by_cases h1 : k < n
      · have h1I : (k : Int) < (n : Int) := by omega
        have h2 : ¬ (k : Int) < 100 := by omega
        go_wp2_with fail
        refine H21.mono ?_
        rintro e w' ⟨rfl, HF⟩
        go_wp2_with fail
        go_ret
        exact ⟨rfl, HF.out⟩
      · have h1I : ¬ (k : Int) < (n : Int) := by omega
        go_wp2_with fail
        refine H21.mono ?_
        rintro e w' ⟨rfl, HF⟩
        go_wp2_with fail
        go_ret
        exact ⟨rfl, HF.out⟩
end Go.Proofs.Ytdonclnjgopmbaa
