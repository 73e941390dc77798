/- Contract of the reference's Want. -/
import Derived.Test.YtdonclnjgopmbaaPF
namespace Go.Proofs.Ytdonclnjgopmbaa
open Go.RowKit
attribute [local go_sem ↓] Go.wp_at_zero Go.wp_at_succ
/-- Behind Want. -/
def WantR (w : World) (G : Nat → Prop) (rt : Nat) (rs : List Rw) (ws' : List Nm) (w' : World) : Prop := RfAt w' (Gn w G w') rt rs ws' ∧ w.grownBy w' (some rt)
set_option maxRecDepth 100000 in
set_option maxHeartbeats 1000000 in
theorem o17_has (G : Nat → Prop) (rt : Nat) (rs : List Rw) (ws : List Nm) (v : Nm) (w : World) (h : RfAt w G rt rs ws) (hn : ws.length ≤ 1000000) (hv : hasN ws v = true) :
    Calls Try.prog 17 #[.pointer (some ⟨rt, 0, none⟩), .agg #[.int .i64 v.1, .int .i64 v.2]] w fun e w' => e = .returned (.bool false) ∧ Below w.heap.size w w' := by
  obtain ⟨W, hW⟩ : ∃ W, w.alloc (.cells #[.int .i64 v.1, .int .i64 v.2] 28) = W := ⟨_, rfl⟩
  obtain ⟨vb, hvb⟩ : ∃ vb, w.heap.size = vb := ⟨_, rfl⟩
  have hbW : Below w.heap.size w W := by rw [← hW]; exact (Below.refl _ w).alloc (Nat.le_refl _) _
  have hc : W.heap[vb]? = some (.cells #[.int .i64 v.1, .int .i64 v.2] 28 (0, 0)) := by rw [← hW, ← hvb]; exact heap_alloc_new w _
  obtain ⟨v0, v1⟩ := box_cells hc
  obtain ⟨ra, rc, wa, wc, _, q1, _, hN⟩ := (h.below hbW).cells
  have H30 : Hid (∀ u, Below W.heap.size W u → Calls Try.prog 30 #[.slice wa ws.length wc, .agg #[.int .i64 v.1, .int .i64 v.2]] u fun e w' => e = .returned (.bool true) ∧ Hid (Below w.heap.size w w')) := fun u hu => by
    refine (o30 wa ws.length wc ws v u (hN.below hu) (by omega)).mono ?_
    rintro e w' ⟨rfl, hb⟩
    rw [hv]
    exact ⟨rfl, (hbW.trans (hu.mono hbW.size)).trans (hb.mono (Nat.le_trans hbW.size hu.size))⟩
  generalize ws.length = n at *
  clear h hbW hc hN hv
  obtain ⟨v1', v2'⟩ := v
  simp only at *
  go_enter Try.func17, Try.ntmps17
  go_wp2_with fail
  go_region_with (go_at_call 30; refine (H30.out _ (by first | exact Below.refl _ _ | exact (Below.refl _ _).drew | exact below_dN (Below.refl _ _) _)).mono ?_; rintro e w1 ⟨rfl, HB1⟩)
  all_goals (
    go_wp2_with fail
    go_ret
    exact ⟨rfl, HB1.out⟩)
/-- What is still to come. -/
def restN (bb : Bool) (v : Nm) (l : List Nm) : List Nm := if bb then l else insN v l
theorem owns_below {w w' : World} {base : Nat} {e : TypeId} {s n : Nat} {u : Value} {xs : List Value} (h : w.ownsRow base e s u n xs) (hb : Below w.heap.size w w') : w'.ownsRow base e s u n xs := by
  refine ⟨h.1, ?_⟩
  rcases h.2 with hn | ⟨g, cap, cur, h1, h2, h3, h4⟩
  · exact Or.inl hn
  · exact Or.inr ⟨g, cap, cur, h1, h2, (hb.block g (Array.getElem?_eq_some_iff.1 h3).1).trans h3, h4⟩
/-- In a round. -/
def WI (v : Nm) (ws : List Nm) (w1 wr : World) (l : Value) (k : Nat) (bb : Bool) (pre : List Nm) : Prop :=
  wr.ownsRow w1.heap.size 28 2 l pre.length (pre.flatMap encM) ∧ Below w1.heap.size w1 wr ∧ insN v ws = pre ++ restN bb v (ws.drop k) ∧ pre.length ≤ k + cond bb 1 0
theorem WI.below {v : Nm} {ws : List Nm} {w1 wr w2 : World} {l : Value} {k : Nat} {bb : Bool} {pre : List Nm} (h : WI v ws w1 wr l k bb pre) (hb : Below wr.heap.size wr w2) : WI v ws w1 w2 l k bb pre :=
  ⟨owns_below h.1 hb, h.2.1.trans (hb.mono h.2.1.size), h.2.2⟩
theorem fm_one (pre : List Nm) (y1 y2 : Int) : (pre ++ [(y1, y2)]).flatMap encM = pre.flatMap encM ++ [.int .i64 y1, .int .i64 y2] := by simp [encM]
theorem WI.more {v : Nm} {ws : List Nm} {w1 wr w' : World} {l : Value} {k : Nat} {bb bb' : Bool} {pre : List Nm} {y1 y2 : Int} {a' : Option Addr} {c' k' : Nat} (h : WI v ws w1 (wr.alloc (.cells #[.int .i64 y1, .int .i64 y2] 28)) l k bb pre)
    (ho : w'.ownsRow w1.heap.size 28 2 (.slice a' (pre.length + 1) c') (pre.length + 1) (pre.flatMap encM ++ [.int .i64 y1, .int .i64 y2])) (hg : (wr.alloc (.cells #[.int .i64 y1, .int .i64 y2] 28)).grownBy w' l.ownBlock)
    (he : insN v ws = (pre ++ [(y1, y2)]) ++ restN bb' v (ws.drop k')) (hk : pre.length + 1 ≤ k' + cond bb' 1 0) : WI v ws w1 w' (.slice a' (pre.length + 1) c') k' bb' (pre ++ [(y1, y2)]) :=
  ⟨by rw [fm_one]; simpa using ho, h.2.1.grown hg h.2.1.size (fun g e => (h.1.lt g e).1), he, by simpa using hk⟩
theorem want_end {w W w1 w' : World} {G : Nat → Prop} {rt : Nat} {rs : List Rw} {ws pre : List Nm} {v : Nm} {a : Option Addr} {m c k : Nat} (h : RfAt w G rt rs ws) (hW : Below w.heap.size w W) (h1 : Below W.heap.size W w1) (hF : WI v ws w1 w' (.slice a m c) k true pre) (hd : ws.drop k = []) (hm : m = pre.length) :
    WantR w G rt rs (insN v ws) (w'.setCell ⟨rt, 1, none⟩ (.slice a m c)) := by
  subst hm
  have e : insN v ws = pre := by rw [hF.2.2.1, hd]; simp [restN]
  have hb1 : Below w.heap.size w w1 := hW.trans (h1.mono hW.size)
  rw [e]
  exact rf_wants h (hb1.trans (hF.2.1.mono hb1.size)) (ns_owns hF.1 rfl) fun g hg => ⟨Nat.le_trans hb1.size ((owns_range hF.1).1 g hg).1, ((owns_range hF.1).1 g hg).2⟩
set_option maxRecDepth 100000 in
set_option maxHeartbeats 8000000 in
theorem o17_new (G : Nat → Prop) (rt : Nat) (rs : List Rw) (ws : List Nm) (v : Nm) (w : World) (h : RfAt w G rt rs ws) (hn : ws.length ≤ 1000000) (hv : hasN ws v = false) :
    Calls Try.prog 17 #[.pointer (some ⟨rt, 0, none⟩), .agg #[.int .i64 v.1, .int .i64 v.2]] w fun e w' => e = .returned (.bool true) ∧ WantR w G rt rs (insN v ws) w' := by
  obtain ⟨i0, hi, hz, hs2, hby⟩ := infoN
  obtain ⟨W, hW⟩ : ∃ W, w.alloc (.cells #[.int .i64 v.1, .int .i64 v.2] 28) = W := ⟨_, rfl⟩
  obtain ⟨vb, hvb⟩ : ∃ vb, w.heap.size = vb := ⟨_, rfl⟩
  have hbW : Below w.heap.size w W := by rw [← hW]; exact (Below.refl _ w).alloc (Nat.le_refl _) _
  have hc : W.heap[vb]? = some (.cells #[.int .i64 v.1, .int .i64 v.2] 28 (0, 0)) := by rw [← hW, ← hvb]; exact heap_alloc_new w _
  have hvl : vb < W.heap.size := (Array.getElem?_eq_some_iff.1 hc).1
  obtain ⟨v0, v1⟩ := box_cells hc
  obtain ⟨ra, rc, wa, wc, _, q1, _, hN⟩ := (h.below hbW).cells
  obtain ⟨n, hnn⟩ : ∃ n, ws.length = n := ⟨_, rfl⟩
  rw [hnn] at q1 hN hn
  have HL : Hid (ws.length = n ∧ RfAt w G rt rs ws ∧ Below w.heap.size w W) := ⟨hnn, h, hbW⟩
  have HS : Hid (∀ u, Below W.heap.size W u → u.cell? ⟨rt, 1, none⟩ = some (.slice wa n wc) ∧ u.frozen? ⟨rt, 1, none⟩ = false ∧ u.cell? ⟨vb, 0, none⟩ = some (.int .i64 v.1) ∧ u.cell? ⟨vb, 1, none⟩ = some (.int .i64 v.2) ∧ Ns u wa n ws) := fun u hu => by
    obtain ⟨ra', rc', wa', wc', k1, _⟩ := (h.below (hbW.trans (hu.mono hbW.size))).ex
    have k2 := box_cells ((hu.block vb hvl).trans hc)
    exact ⟨(hu.cell (p := ⟨rt, 1, none⟩) (Nat.lt_of_lt_of_le h.rlt hbW.size)).trans q1, frozen_of_row u rt 1 _ 50 k1, k2.1, k2.2, hN.below hu⟩
  have H30 : Hid (∀ u, Below W.heap.size W u → Calls Try.prog 30 #[.slice wa n wc, .agg #[.int .i64 v.1, .int .i64 v.2]] u fun e w' => e = .returned (.bool false) ∧ Hid (Below W.heap.size W w')) := fun u hu => by
    refine (o30 wa n wc ws v u (hN.below hu) (by omega)).mono ?_
    rintro e w' ⟨rfl, hb⟩
    rw [hv]
    exact ⟨rfl, hu.trans (hb.mono hu.size)⟩
  have H31 : Hid (∀ (y : Nm) (x u : World), Below x.heap.size x u → Calls Try.prog 31 #[.agg #[.int .i64 v.1, .int .i64 v.2], .agg #[.int .i64 y.1, .int .i64 y.2]] u fun e w' => e = .returned (.bool (lessB v.1 v.2 y.1 y.2)) ∧ Hid (Below x.heap.size x w')) := fun y x u hu => by
    refine (o31 v.1 v.2 y.1 y.2 u).mono ?_
    rintro e w' ⟨rfl, hb⟩
    exact ⟨rfl, hu.trans (hb.mono hu.size)⟩
  clear h hbW hc hN hv hnn hvl
  obtain ⟨x1, x2⟩ := v
  simp only at *
  go_enter Try.func17, Try.ntmps17
  go_wp2_with fail
  go_region_with (go_at_call 30; refine (H30.out _ (by first | exact Below.refl _ _ | exact (Below.refl _ _).drew | exact below_dN (Below.refl _ _) _)).mono ?_; rintro e w1 ⟨rfl, HB1⟩)
  all_goals (
    go_wp2_with fail
    go_loopw [5, 6, 7] (fun l b i wr => ∃ (k : Nat) (bb : Bool) (pre : List Nm), k ≤ n ∧ i = .int .i64 k ∧ b = .bool bb ∧ Hid (WI (x1, x2) ws w1 wr l k bb pre)) (fun _ _ i _ => n - (intOf i).toNat)
    case atStart => exact ⟨0, false, [], Nat.zero_le _, rfl, rfl, World.ownsRow_nil _ _ _ _, Below.refl _ _, by simp [restN], by simp⟩
    case round =>
      clear hW hvb q1 v0 v1 H30
      obtain ⟨k, bb, pre, hk, rfl, rfl, HK⟩ := hrel
      obtain ⟨q1, f1, p0, p1, hNs⟩ := HS.out wr (HB1.out.trans (HK.out.2.1.mono HB1.out.size))
      by_cases hlt : k < n
      · have hlt1 : (k : Int) < (n : Int) := by omega
        have hk0 : (0 : Int) ≤ (k : Int) := by omega
        obtain ⟨b1, o1, hk1, rfl, hbl, c0, c1⟩ := hNs.at hlt
        have HD : Hid ((lessB x1 x2 ws[k].1 ws[k].2 = true → insN (x1, x2) (ws.drop k) = [(x1, x2), ws[k]] ++ ws.drop (k + 1)) ∧ (lessB x1 x2 ws[k].1 ws[k].2 = false → insN (x1, x2) (ws.drop k) = [ws[k]] ++ insN (x1, x2) (ws.drop (k + 1))) ∧ ws.drop k = [ws[k]] ++ ws.drop (k + 1)) := ⟨(insN_drop (x1, x2) ws k hk1).1, (insN_drop (x1, x2) ws k hk1).2, List.drop_eq_getElem_cons hk1⟩
        have HH := H31.out ws[k] wr
        generalize ws[k] = y at *
        obtain ⟨y1, y2⟩ := y
        simp only at c0 c1 HD HH
        have HC : Hid (∀ u, Below wr.heap.size wr u → u.cell? ⟨b1, o1 + k * 2, none⟩ = some (.int .i64 y1) ∧ u.cell? ⟨b1, o1 + k * 2 + 1, none⟩ = some (.int .i64 y2)) := fun u hu => ⟨(hu.cell (p := ⟨b1, o1 + k * 2, none⟩) hbl).trans c0, (hu.cell (p := ⟨b1, o1 + k * 2 + 1, none⟩) hbl).trans c1⟩
        have H31' : Hid (∀ u, Below wr.heap.size wr u → Calls Try.prog 31 #[.agg #[.int .i64 x1, .int .i64 x2], .agg #[.int .i64 y1, .int .i64 y2]] u fun e w' => e = .returned (.bool (lessB x1 x2 y1 y2)) ∧ Hid (Below wr.heap.size wr w')) := HH
        clear HH H31 hk1 hNs hbl
        cases bb
        · have hpl : pre.length ≤ k := HK.out.2.2.2
          cases hL : lessB x1 x2 y1 y2
          · rw [hL] at H31'
            have HE : Hid (insN (x1, x2) ws = (pre ++ [(y1, y2)]) ++ restN false (x1, x2) (ws.drop (k + 1))) := by
              show _ = _
              rw [HK.out.2.2.1]; simp only [restN, HD.out.2.1 hL]; simp
            clear HD hL
            go_wp2_with fail
            go_region_with (go_at_call 31; refine (H31'.out _ (by first | exact Below.refl _ _ | exact (Below.refl _ _).drew | exact below_dN (Below.refl _ _) _)).mono ?_; rintro e w2 ⟨rfl, HB2⟩)
            all_goals (
              obtain ⟨q1, f1, p0, p1, hNs⟩ := HS.out w2 ((HB1.out.trans (HK.out.2.1.mono HB1.out.size)).trans (HB2.out.mono (HB1.out.trans (HK.out.2.1.mono HB1.out.size)).size))
              clear hNs
              obtain ⟨c0, c1⟩ := HC.out w2 HB2.out
              have HW : Hid (WI (x1, x2) ws w1 (w2.alloc (.cells #[.int .i64 y1, .int .i64 y2] 28)) _ k false pre) := (HK.out.below HB2.out).below ((Below.refl _ w2).alloc (Nat.le_refl _) _)
              go_wp2_with (at_builtin; refine wpList_append_any _ rfl _ _ 29 rfl w1.heap.size 28 i0 _ 2 16 Try.underlying29 hi hz hs2 hby rfl (by decide) _ _ _ rfl HW.out.1 (some ⟨w2.heap.size, 0, none⟩) 1 1 [.int .i64 y1, .int .i64 y2] rfl rfl (.inr ⟨_, rfl, new_name w2 y1 y2⟩) (one_name y1 y2) (by unfold maxLen; omega) (by omega) HW.out.2.1.size ?_)
              intro a' c' w' hown hgr
              have HF : Hid _ := HW.out.more hown hgr HE.out (by simp only [cond]; omega)
              clear hown hgr
              go_wp2_with fail
              go_roundw
              case rel => exact ⟨k + 1, false, pre ++ [(y1, y2)], by omega, by go_num, rfl, HF.out⟩
              case measure => simp [intOf]; omega)
          · rw [hL] at H31'
            have HE : Hid (insN (x1, x2) ws = ((pre ++ [(x1, x2)]) ++ [(y1, y2)]) ++ restN true (x1, x2) (ws.drop (k + 1))) := by
              show _ = _
              rw [HK.out.2.2.1]; simp only [restN, HD.out.1 hL]; simp
            have HE0 : Hid (insN (x1, x2) ws = (pre ++ [(x1, x2)]) ++ restN true (x1, x2) (ws.drop k)) := by
              show _ = _
              have a1 := HD.out.1 hL
              have a2 := HD.out.2.2
              rw [HK.out.2.2.1]
              simp only [restN, Bool.false_eq_true, if_false, if_true]
              rw [a1, a2]; simp
            clear HD hL
            go_wp2_with fail
            go_region_with (go_at_call 31; refine (H31'.out _ (by first | exact Below.refl _ _ | exact (Below.refl _ _).drew | exact below_dN (Below.refl _ _) _)).mono ?_; rintro e w2 ⟨rfl, HB2⟩)
            all_goals (
              have HBW : Hid (Below W.heap.size W w2) := (HB1.out.trans (HK.out.2.1.mono HB1.out.size)).trans (HB2.out.mono (HB1.out.trans (HK.out.2.1.mono HB1.out.size)).size)
              clear q1 f1 p0 p1 c0 c1
              obtain ⟨q1, f1, p0, p1, hNs⟩ := HS.out w2 HBW.out
              clear hNs
              have HW : Hid (WI (x1, x2) ws w1 (w2.alloc (.cells #[.int .i64 x1, .int .i64 x2] 28)) _ k false pre) := (HK.out.below HB2.out).below ((Below.refl _ w2).alloc (Nat.le_refl _) _)
              go_wp2_with (at_builtin; refine wpList_append_any _ rfl _ _ 29 rfl w1.heap.size 28 i0 _ 2 16 Try.underlying29 hi hz hs2 hby rfl (by decide) _ _ _ rfl HW.out.1 (some ⟨w2.heap.size, 0, none⟩) 1 1 [.int .i64 x1, .int .i64 x2] rfl rfl (.inr ⟨_, rfl, new_name w2 x1 x2⟩) (one_name x1 x2) (by unfold maxLen; omega) (by omega) HW.out.2.1.size ?_)
              intro a' c' w' hown hgr
              have HF : Hid (WI (x1, x2) ws w1 w' (.slice a' (pre.length + 1) c') k true (pre ++ [(x1, x2)])) := HW.out.more hown hgr HE0.out (by simp only [cond]; omega)
              have HB3 : Hid (Below W.heap.size W w' ∧ w'.cell? ⟨b1, o1 + k * 2, none⟩ = some (.int .i64 y1) ∧ w'.cell? ⟨b1, o1 + k * 2 + 1, none⟩ = some (.int .i64 y2)) := by
                have e1 : Below W.heap.size W w' := HB1.out.trans (HF.out.2.1.mono HB1.out.size)
                obtain ⟨_, _, _, _, hN1⟩ := HS.out w1 HB1.out
                obtain ⟨_, _, _, _, hN2⟩ := HS.out wr (HB1.out.trans (HK.out.2.1.mono HB1.out.size))
                have hb1 : b1 < w1.heap.size := by
                  obtain ⟨b, o, _, e, hl, _⟩ := hN1.at hlt
                  cases e; exact hl
                have hw1 := HC.out wr (Below.refl _ _)
                exact ⟨e1, (HF.out.2.1.cell (p := ⟨b1, o1 + k * 2, none⟩) hb1).trans ((HK.out.2.1.cell (p := ⟨b1, o1 + k * 2, none⟩) hb1).symm.trans hw1.1), (HF.out.2.1.cell (p := ⟨b1, o1 + k * 2 + 1, none⟩) hb1).trans ((HK.out.2.1.cell (p := ⟨b1, o1 + k * 2 + 1, none⟩) hb1).symm.trans hw1.2)⟩
              clear hown hgr q1 f1 p0 p1
              obtain ⟨q1, f1, p0, p1, hNs⟩ := HS.out w' HB3.out.1
              clear hNs
              obtain ⟨_, c0, c1⟩ := HB3.out
              have HW2 : Hid (WI (x1, x2) ws w1 (w'.alloc (.cells #[.int .i64 y1, .int .i64 y2] 28)) (.slice a' (pre.length + 1) c') k true (pre ++ [(x1, x2)])) := HF.out.below ((Below.refl _ w').alloc (Nat.le_refl _) _)
              have HLp : Hid ((pre ++ [(x1, x2)]).length = pre.length + 1) := by show _ = _; simp
              go_wp2_with (at_builtin; refine wpList_append_any _ rfl _ _ 29 rfl w1.heap.size 28 i0 _ 2 16 Try.underlying29 hi hz hs2 hby rfl (by decide) _ (pre.length + 1) _ rfl (by have := HW2.out.1; rw [HLp.out] at this; exact this) (some ⟨w'.heap.size, 0, none⟩) 1 1 [.int .i64 y1, .int .i64 y2] rfl rfl (.inr ⟨_, rfl, new_name w' y1 y2⟩) (one_name y1 y2) (by unfold maxLen; omega) (by omega) HW2.out.2.1.size ?_)
              intro a2 c2 w3 hown hgr
              have HF2 : Hid (WI (x1, x2) ws w1 w3 (.slice a2 (pre.length + 1 + 1) c2) (k + 1) true ((pre ++ [(x1, x2)]) ++ [(y1, y2)])) := by
                have := HW2.out.more (a' := a2) (c' := c2) (k' := k + 1) (bb' := true) (by rw [HLp.out]; simpa using hown) hgr HE.out (by rw [HLp.out]; simp only [cond]; omega)
                rw [HLp.out] at this
                exact this
              clear hown hgr
              go_wp2_with fail
              go_roundw
              case rel => exact ⟨k + 1, true, (pre ++ [(x1, x2)]) ++ [(y1, y2)], by omega, by go_num, rfl, HF2.out⟩
              case measure => simp [intOf]; omega)
        · have HE : Hid (insN (x1, x2) ws = (pre ++ [(y1, y2)]) ++ restN true (x1, x2) (ws.drop (k + 1))) := by
            show _ = _
            rw [HK.out.2.2.1]; simp only [restN, HD.out.2.2]; simp
          have hpl : pre.length ≤ k + 1 := HK.out.2.2.2
          clear HD H31'
          go_wp2_with fail
          first | go_quiet (fail) | go_region_with (fail)
          all_goals (
            have HW : Hid (WI (x1, x2) ws w1 ((wr.drewN nq).alloc (.cells #[.int .i64 y1, .int .i64 y2] 28)) _ k true pre) := (HK.out.below (below_dN (Below.refl _ _) _)).below ((Below.refl _ _).alloc (Nat.le_refl _) _)
            go_wp2_with (at_builtin; refine wpList_append_any _ rfl _ _ 29 rfl w1.heap.size 28 i0 _ 2 16 Try.underlying29 hi hz hs2 hby rfl (by decide) _ _ _ rfl HW.out.1 (some ⟨(wr.drewN nq).heap.size, 0, none⟩) 1 1 [.int .i64 y1, .int .i64 y2] rfl rfl (.inr ⟨_, rfl, new_name (wr.drewN nq) y1 y2⟩) (one_name y1 y2) (by unfold maxLen; omega) (by omega) HW.out.2.1.size ?_)
            intro a' c' w' hown hgr
            have HF : Hid _ := HW.out.more hown hgr HE.out (by simp only [cond]; omega)
            clear hown hgr
            go_wp2_with fail
            go_roundw
            case rel => exact ⟨k + 1, true, pre ++ [(y1, y2)], by omega, by go_num, rfl, HF.out⟩
            case measure => simp [intOf]; omega)
      · have HDk : Hid (ws.drop k = []) := List.drop_eq_nil_of_le (by have := HL.out.1; omega)
        clear hNs
        cases bb
        · have HE : Hid (insN (x1, x2) ws = (pre ++ [(x1, x2)]) ++ restN true (x1, x2) (ws.drop k)) := by
            show _ = _
            rw [HK.out.2.2.1, HDk.out]; simp [restN, insN]
          have hpl : pre.length ≤ k := HK.out.2.2.2
          have HW : Hid (WI (x1, x2) ws w1 (wr.alloc (.cells #[.int .i64 x1, .int .i64 x2] 28)) _ k false pre) := HK.out.below ((Below.refl _ wr).alloc (Nat.le_refl _) _)
          go_wp2_with (at_builtin; refine wpList_append_any _ rfl _ _ 29 rfl w1.heap.size 28 i0 _ 2 16 Try.underlying29 hi hz hs2 hby rfl (by decide) _ _ _ rfl HW.out.1 (some ⟨wr.heap.size, 0, none⟩) 1 1 [.int .i64 x1, .int .i64 x2] rfl rfl (.inr ⟨_, rfl, new_name wr x1 x2⟩) (one_name x1 x2) (by unfold maxLen; omega) (by omega) HW.out.2.1.size ?_)
          intro a' c' w' hown hgr
          have HF : Hid (WI (x1, x2) ws w1 w' (.slice a' (pre.length + 1) c') k true (pre ++ [(x1, x2)])) := HW.out.more hown hgr HE.out (by simp only [cond]; omega)
          clear hown hgr q1 f1 p0 p1
          obtain ⟨q1, f1, p0, p1, hNs⟩ := HS.out w' (HB1.out.trans (HF.out.2.1.mono HB1.out.size))
          clear hNs
          have HEnd : Hid (WantR w G rt rs (insN (x1, x2) ws) (w'.setCell ⟨rt, 1, none⟩ (.slice a' (pre.length + 1) c'))) := want_end HL.out.2.1 HL.out.2.2 HB1.out HF.out HDk.out (by simp)
          go_wp2_with fail
          go_ret
          exact ⟨rfl, HEnd.out⟩
        · obtain ⟨a', c', hv⟩ := owns_form HK.out.1
          subst hv
          have HEnd : Hid (WantR w G rt rs (insN (x1, x2) ws) (wr.setCell ⟨rt, 1, none⟩ (.slice a' pre.length c'))) := want_end HL.out.2.1 HL.out.2.2 HB1.out HK.out HDk.out rfl
          go_wp2_with fail
          go_ret
          exact ⟨rfl, HEnd.out⟩)
end Go.Proofs.Ytdonclnjgopmbaa
