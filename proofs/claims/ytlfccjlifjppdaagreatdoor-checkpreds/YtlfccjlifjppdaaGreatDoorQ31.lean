/- Contracts of SameInts, same: rows that are the same. Contracts of the reference's Preds and Calls; Preds of no programs. Contract of SameCells. Contract of HandCells. Contracts of HandTerm, KeptCells, KeptTerm. Contracts of HandTerms and KeptTerms. -/
import Derived.Test.YtlfccjlifjppdaaGreatDoorQ21
import Derived.Test.YtlfccjlifjppdaaGreatDoorQ29
import Derived.Test.YtlfccjlifjppdaaGreatDoorQ23
import Derived.Test.YtlfccjlifjppdaaGreatDoorQ11
import Derived.Test.YtlfccjlifjppdaaGreatDoorQ12
import Derived.Maps.AppendAt
namespace Go.Proofs.YtlfccjlifjppdaaGreatDoor
open Go.RowKit
attribute [local go_sem ↓] Go.wp_at_zero Go.wp_at_succ
set_option maxRecDepth 100000 in
set_option maxHeartbeats 4000000 in
theorem s18 (zs : List Int) (u v : Value) (w : World) (hu : IntsAt w u zs) (hv : IntsAt w v zs) (hl : zs.length ≤ 1759218604441) :
    Calls Tryz.prog 18 #[u, v] w fun e w' => e = .returned (.bool true) ∧ Below w.heap.size w w' := by
  have HU : Hid (IntsAt w u zs) := hu
  have HV : Hid (IntsAt w v zs) := hv
  obtain ⟨au, cu, eu⟩ := hu.form
  obtain ⟨av, cv, ev⟩ := hv.form
  subst eu ev
  clear hu hv
  have hq : ((zs.length : Int) != (zs.length : Int)) = false := by simp
  go_enter Tryz.func18, Tryz.ntmps18
  go_wp2_with fail
  go_loopw [5] (fun i wr => ∃ k : Nat, k ≤ zs.length ∧ i = .int .i64 k ∧ Below w.heap.size w wr) (fun i _ => zs.length - (intOf i).toNat)
  case atStart => exact ⟨0, by omega, rfl, Below.refl _ _⟩
  case round =>
    obtain ⟨k, hk, rfl, hbr⟩ := hrel
    by_cases hlt : k < zs.length
    · have hlt' : (k : Int) < (zs.length : Int) := by omega
      have hk0 : (0 : Int) ≤ (k : Int) := by omega
      obtain ⟨b1, d1, e1, p1, _⟩ := ints_at (HU.out.below hbr) k hlt
      obtain ⟨b2, d2, e2, p2, _⟩ := ints_at (HV.out.below hbr) k hlt
      simp only [Value.slice.injEq] at e1 e2
      obtain ⟨rfl, _, rfl⟩ := e1
      obtain ⟨rfl, _, rfl⟩ := e2
      have hqq : (zs[k] != zs[k]) = false := by simp
      generalize zs[k] = z at *
      go_wp2_with fail
      go_quiet (fail)
      go_wp2_with fail
      go_roundw
      case rel => exact ⟨k + 1, by omega, by go_num, below_dN hbr _⟩
      case measure => simp [intOf]; omega
    · have hlt' : ¬ ((k : Int) < (zs.length : Int)) := by omega
      go_wp2_with fail
      go_ret
      exact ⟨rfl, hbr⟩
set_option maxRecDepth 100000 in
set_option maxHeartbeats 4000000 in
theorem s15 (ps : List Pd) (u v : Value) (w : World) (hu : PredsAt w u ps) (hv : PredsAt w v ps) (hl : ps.length ≤ 1000000000) :
    Calls Tryz.prog 15 #[u, v] w fun e w' => e = .returned (.bool true) ∧ Below w.heap.size w w' := by
  have HU : Hid (PredsAt w u ps) := hu
  have HV : Hid (PredsAt w v ps) := hv
  obtain ⟨au, cu, eu⟩ := hu.form
  obtain ⟨av, cv, ev⟩ := hv.form
  subst eu ev
  clear hu hv
  have hq : ((ps.length : Int) != (ps.length : Int)) = false := by simp
  go_enter Tryz.func15, Tryz.ntmps15
  go_wp2_with fail
  go_loopw [5] (fun i wr => ∃ k : Nat, k ≤ ps.length ∧ i = .int .i64 k ∧ Below w.heap.size w wr) (fun i _ => ps.length - (intOf i).toNat)
  case atStart => exact ⟨0, by omega, rfl, Below.refl _ _⟩
  case round =>
    obtain ⟨k, hk, rfl, hbr⟩ := hrel
    by_cases hlt : k < ps.length
    · have hlt' : (k : Int) < (ps.length : Int) := by omega
      have hk0 : (0 : Int) ≤ (k : Int) := by omega
      obtain ⟨b1, o1, d1, e1, p1, p2⟩ := preds_at (HU.out.below hbr) k hlt
      obtain ⟨b2, o2, d2, e2, q1, q2⟩ := preds_at (HV.out.below hbr) k hlt
      simp only [Value.slice.injEq] at e1 e2
      obtain ⟨rfl, _, rfl⟩ := e1
      obtain ⟨rfl, _, rfl⟩ := e2
      have hqq : (ps[k].2 != ps[k].2) = false := by simp
      have hss : (ps[k].1.toList != ps[k].1.toList) = false := by simp
      have hse : (ps[k].1.toList == ps[k].1.toList) = true := by simp
      generalize ps[k].1 = s at *
      generalize ps[k].2 = z at *
      go_wp2_with fail
      go_quiet (fail)
      go_wp2_with fail
      go_roundw
      case rel => exact ⟨k + 1, by omega, by go_num, below_dN hbr _⟩
      case measure => simp [intOf]; omega
    · have hlt' : ¬ ((k : Int) < (ps.length : Int)) := by omega
      go_wp2_with fail
      go_ret
      exact ⟨rfl, hbr⟩
end Go.Proofs.YtlfccjlifjppdaaGreatDoor
namespace Go.Proofs.YtlfccjlifjppdaaGreatDoor
open Go.RowKit
attribute [local go_sem ↓] Go.wp_at_zero Go.wp_at_succ
theorem name_kind {l : List C} (hn : hasNameS l = true) : ∃ h0 : 0 < l.length, l[0].k = 2 ∨ l[0].k = 3 := by
  match l, hn with
  | [], hn => simp [hasNameS] at hn
  | c :: r, hn =>
    simp [hasNameS] at hn
    exact ⟨by simp, hn.1⟩
set_option maxRecDepth 100000 in
set_option maxHeartbeats 4000000 in
theorem z17 (pss : List (List Cl)) (v : Value) (w : World) (hP : ProgsAt w v pss) (hN : (headsA pss).length ≤ 1000000000) (hl : pss.length ≤ 1000000000) :
    Calls Tryz.prog 17 #[v] w fun e w' => ∃ u, e = .returned u ∧ w'.ownsRow w.heap.size 87 2 u ((headsA pss).foldl addP []).length (flatP ((headsA pss).foldl addP [])) ∧ Below w.heap.size w w' := by
  have HP : Hid (ProgsAt w v pss) := hP
  have HN : Hid ((headsA pss).length ≤ 1000000000) := hN
  obtain ⟨b0, o0, cap0, _, hv, _⟩ := hP
  subst hv
  clear hN
  go_enter Tryz.func17, Tryz.ntmps17
  go_wp2_with fail
  go_loopw [3, 4] (fun out i wr => ∃ k : Nat, k ≤ pss.length ∧ i = .int .i64 k ∧ Hid (wr.ownsRow w.heap.size 87 2 out ((headsA (pss.take k)).foldl addP []).length (flatP ((headsA (pss.take k)).foldl addP []))) ∧ Below w.heap.size w wr) (fun _ i _ => pss.length - (intOf i).toNat)
  case atStart => exact ⟨0, by omega, rfl, World.ownsRow_nil _ _ _ _, Below.refl _ _⟩
  case round =>
    obtain ⟨k, hk, rfl, HI, hbr⟩ := hrel
    by_cases hlt : k < pss.length
    · have hlt' : (k : Int) < (pss.length : Int) := by omega
      have hk0 : (0 : Int) ≤ (k : Int) := by omega
      obtain ⟨b, o, cp, u, hu, cu0, hPk⟩ := progs_at HP.out k hlt
      simp only [Value.slice.injEq, Option.some.injEq, Addr.mk.injEq] at hu
      obtain ⟨⟨rfl, rfl, _⟩, _, rfl⟩ := hu
      have HC : Hid (∀ W, Below w.heap.size w W → W.cell? ⟨b0, o0 + k, none⟩ = some u) := fun W hW => (hW.cell (p := ⟨b0, o0 + k, none⟩) (World.block_lt_of_cell? w _ cu0)).trans cu0
      have HPk : Hid (ProgAt w u pss[k]) := hPk
      have hpm : pss[k].length ≤ maxLen := hPk.1
      unfold maxLen at hpm
      have HS : Hid ((headsA (pss.take (k + 1))).foldl addP [] = (headsS pss[k]).foldl addP ((headsA (pss.take k)).foldl addP [])) := by
        show (headsA (pss.take (k + 1))).foldl addP [] = _
        rw [headsA_snoc pss k hlt, List.foldl_append]
      have HL : Hid (((headsA (pss.take k)).foldl addP []).length + (headsS pss[k]).length ≤ 1000000000) := by
        have h1 := foldP_len (headsA (pss.take k)) []
        have h2 := headsA_le pss (k + 1)
        rw [headsA_snoc pss k hlt, List.length_append] at h2
        have h3 := HN.out
        simp at h1
        show _ ≤ _
        omega
      obtain ⟨ap, cpp, hup⟩ := hPk.form
      subst hup
      clear hPk cu0
      generalize (headsA (pss.take k)).foldl addP [] = acc0 at *
      generalize pss[k] = p at *
      have cu := HC.out wr hbr
      go_wp2_with fail
      clear cu
      go_loopw [3, 5] (fun out i wr2 => ∃ j : Nat, j ≤ p.length ∧ i = .int .i64 j ∧ Hid (wr2.ownsRow w.heap.size 87 2 out ((headsS (p.take j)).foldl addP acc0).length (flatP ((headsS (p.take j)).foldl addP acc0))) ∧ Below w.heap.size w wr2) (fun _ i _ => p.length - (intOf i).toNat)
      case atStart => exact ⟨0, by omega, rfl, HI.out, hbr⟩
      case round =>
        clear hbr
        obtain ⟨j, hj, rfl, HI2, hbr⟩ := hrel
        have hsz2 := hbr.size
        have cu := HC.out wr hbr
        by_cases hltj : j < p.length
        · have hltj' : (j : Int) < (p.length : Int) := by omega
          have hj0 : (0 : Int) ≤ (j : Int) := by omega
          obtain ⟨pb, po, pc, y, hy, ⟨p0, p1, p2, p3⟩, hC, hpb⟩ := prog_at (HPk.out.below hbr) j hltj
          simp only [Value.slice.injEq] at hy
          obtain ⟨rfl, _, rfl⟩ := hy
          have HE : Hid (headsS (p.take (j + 1)) = headsS (p.take j) ++ if hasNameS p[j].hd = true then [predS p[j].hd] else []) := heads_snoc p j hltj
          have hle := heads_le p j
          have hcl : ((headsS (p.take j)).foldl addP acc0).length ≤ 5864062014800 := by
            have h1 := foldP_len (headsS (p.take j)) acc0
            have h2 := HL.out
            omega
          have HT : Hid (TermAt wr y.hv p[j].hd) := hC.1
          have H41 := z41 p[j].hd y.hv wr hC.1
          obtain ⟨a1, c1, e1⟩ := hC.1.form
          rw [e1] at p0 H41 HT
          clear hC e1 p1 p2 p3 hle
          have H43 : Hid (hasNameS p[j].hd = true → ∀ W, Below wr.heap.size wr W → Calls Tryz.prog 43 #[.slice a1 p[j].hd.length c1] W fun e w' => e = .returned (.agg #[.string (predS p[j].hd).1, .int .i64 (predS p[j].hd).2]) ∧ Below W.heap.size W w') := fun h W hW => by
            obtain ⟨h0, hk23⟩ := name_kind h
            exact z43 p[j].hd _ W (HT.out.below hW) h0 hk23
          have HP0 : Hid (∀ W, Below wr.heap.size wr W → W.cell? ⟨pb, po + j * 4, none⟩ = some (.slice a1 p[j].hd.length c1)) := fun W hW => (hW.cell (p := ⟨pb, po + j * 4, none⟩) hpb).trans p0
          generalize p[j].hd.length = q1 at *
          cases hn : hasNameS p[j].hd
          · have HF : Hid ((headsS (p.take (j + 1))).foldl addP acc0 = (headsS (p.take j)).foldl addP acc0) := by
              show (headsS (p.take (j + 1))).foldl addP acc0 = _
              rw [HE.out, hn]; simp
            rw [hn] at H41
            clear hn HE H43
            generalize (headsS (p.take j)).foldl addP acc0 = ac at *
            go_wp2_with fail
            refine H41.mono ?_
            rintro e w1 ⟨rfl, hb1⟩
            go_wp2_with fail
            go_roundw
            case rel => exact ⟨j + 1, by omega, by go_num, by rw [HF.out]; exact owns_below HI2.out hb1, hbr.trans (hb1.mono hsz2)⟩
            case measure => simp [intOf]; omega
          · have HF : Hid ((headsS (p.take (j + 1))).foldl addP acc0 = addP ((headsS (p.take j)).foldl addP acc0) (predS p[j].hd)) := by
              show (headsS (p.take (j + 1))).foldl addP acc0 = _
              rw [HE.out, hn]; simp
            have H43 : Hid (∀ W, Below wr.heap.size wr W → _) := H43.out hn
            rw [hn] at H41
            clear hn HE HT
            generalize (headsS (p.take j)).foldl addP acc0 = ac at *
            generalize predS p[j].hd = x at *
            go_wp2_with fail
            refine H41.mono ?_
            rintro e w1 ⟨rfl, hb1⟩
            have hbw1 : Below w.heap.size w w1 := hbr.trans (hb1.mono hsz2)
            have q0 := HP0.out w1 hb1
            have cu1 := HC.out w1 hbw1
            clear H41 p0 cu
            go_wp2_with fail
            refine (H43.out w1 hb1).mono ?_
            rintro e w2 ⟨rfl, hb2⟩
            have hbw2 : Below w.heap.size w w2 := hbw1.trans (hb2.mono hbw1.size)
            have H42 := z42 ac x w.heap.size u3 w2 (owns_below (owns_below HI2.out hb1) hb2) hcl hbw2.size
            go_wp2_with fail
            refine H42.mono ?_
            rintro e w4 ⟨v4, rfl, hO4, hb4, _⟩
            have HO4 : Hid (w4.ownsRow w.heap.size 87 2 v4 (addP ac x).length (flatP (addP ac x))) := hO4
            clear hO4 H42
            go_wp2_with fail
            go_roundw
            case rel => exact ⟨j + 1, by omega, by go_num, by rw [HF.out]; exact HO4.out, hbw2.trans hb4⟩
            case measure => simp [intOf]; omega
        · have hltj' : ¬ ((j : Int) < (p.length : Int)) := by omega
          have HF : Hid (wr.ownsRow w.heap.size 87 2 u3 ((headsA (pss.take (k + 1))).foldl addP []).length (flatP ((headsA (pss.take (k + 1))).foldl addP []))) := by
            show World.ownsRow _ _ _ _ _ _ _
            rw [HS.out]
            have h2 := HI2.out
            rwa [List.take_of_length_le (by omega)] at h2
          go_wp2_with fail
          go_roundw
          case rel => exact ⟨k + 1, by omega, by go_num, HF, hbr⟩
          case measure => simp [intOf]; omega
    · have hlt' : ¬ ((k : Int) < (pss.length : Int)) := by omega
      rw [List.take_of_length_le (by omega)] at HI
      obtain ⟨ao, co, ho⟩ := owns_form HI.out
      subst ho
      go_wp2_with fail
      go_ret
      exact ⟨_, rfl, HI.out, hbr⟩
set_option maxRecDepth 100000 in
set_option maxHeartbeats 4000000 in
theorem z21 (cs : List Cl) (v : Value) (i : Int) (w : World) (h : ProgAt w v cs) (hl : ∀ c ∈ cs, c.bs.length ≤ 5864062014800) :
    Calls Tryz.prog 21 #[v, .int .i64 i] w fun e w' => ∃ u, e = .returned u ∧ w'.ownsRow w.heap.size 87 2 u (callsS cs i).length (flatP (callsS cs i)) ∧ Below w.heap.size w w' := by
  by_cases h0 : i < 0
  · have he : callsS cs i = [] := by unfold callsS; rw [if_neg (by omega)]
    rw [he]
    obtain ⟨ad, cap, hv⟩ := h.form
    subst hv
    clear h hl he
    go_enter Tryz.func21, Tryz.ntmps21
    go_wp2_with fail
    go_ret
    exact ⟨_, rfl, World.ownsRow_nil _ _ _ _, Below.refl _ _⟩
  · by_cases h1 : i < (cs.length : Int)
    · obtain ⟨n, rfl⟩ : ∃ n : Nat, i = (n : Int) := ⟨i.toNat, by omega⟩
      have hn : n < cs.length := by omega
      have he : callsS cs (n : Int) = calledS cs[n].bs := by
        unfold callsS
        rw [if_pos (by omega)]
        simp [List.getElem?_eq_getElem hn]
      rw [he]
      obtain ⟨b, o, cp, y, hu, ⟨p0, p1, p2, p3⟩, hC, hb⟩ := prog_at h n hn
      have H45 := z45 cs[n] y w hC (hl _ (List.getElem_mem hn))
      have hge : ¬ ((cs.length : Int) ≤ (n : Int)) := by omega
      subst hu
      clear h hl he hC
      generalize cs[n] = c at *
      go_enter Tryz.func21, Tryz.ntmps21
      go_wp2_with fail
      refine H45.mono ?_
      rintro e w1 ⟨u, rfl, hO, hb1⟩
      have HO : Hid (w1.ownsRow w.heap.size 87 2 u (calledS c.bs).length (flatP (calledS c.bs))) := hO
      clear hO
      go_wp2_with fail
      go_ret
      exact ⟨_, rfl, HO.out, hb1⟩
    · have he : callsS cs i = [] := by unfold callsS; rw [if_pos (by omega), List.getElem?_eq_none (by omega)]
      rw [he]
      have h2 : (cs.length : Int) ≤ i := by omega
      obtain ⟨ad, cap, hv⟩ := h.form
      subst hv
      clear h hl he h1
      go_enter Tryz.func21, Tryz.ntmps21
      go_wp2_with fail
      go_ret
      exact ⟨_, rfl, World.ownsRow_nil _ _ _ _, Below.refl _ _⟩
set_option maxRecDepth 100000 in
set_option maxHeartbeats 4000000 in
theorem k16n (w : World) : Calls Tryz.prog 16 #[.slice none 0 0] w fun e w' => e = .returned (.slice none 0 0) ∧ Below w.heap.size w w' := by
  have HB0 : Hid (Below w.heap.size w (w.alloc (.cells #[.slice none 0 0, .map none] 90))) := (Below.refl _ w).alloc (Nat.le_refl _) _
  go_enter Tryz.func16, Tryz.ntmps16
  go_wp2_with fail
  refine wp_loop_rounds 1 ?_
  rw [rounds_succ]
  go_wp2_with fail
  go_ret
  exact ⟨rfl, HB0.out⟩
end Go.Proofs.YtlfccjlifjppdaaGreatDoor
namespace Go.Proofs.YtlfccjlifjppdaaGreatDoor
open Go.RowKit
attribute [local go_sem ↓] Go.wp_at_zero Go.wp_at_succ
set_option maxHeartbeats 1000000 in
theorem k52_len (n m c1 c2 : Nat) (a1 a2 : Option Addr) (w : World) (h : ((n : Int) != (m : Int)) = true) :
    Calls Tryz.prog 79 #[.slice a1 n c1, .slice a2 m c2] w fun e w' => e = .returned (.bool false) ∧ Below w.heap.size w w' := by
  go_enter Tryz.func79, Tryz.ntmps79
  go_wp2_with fail
  go_ret
  exact ⟨rfl, Below.refl _ _⟩
set_option maxHeartbeats 1000000 in
theorem k52_nil (c1 c2 : Nat) (a1 a2 : Option Addr) (w : World) :
    Calls Tryz.prog 79 #[.slice a1 0 c1, .slice a2 0 c2] w fun e w' => e = .returned (.bool true) ∧ Below w.heap.size w w' := by
  go_enter Tryz.func79, Tryz.ntmps79
  go_wp2_with fail
  refine wp_loop_rounds 1 ?_
  rw [rounds_succ]
  go_wp2_with fail
  go_ret
  exact ⟨rfl, Below.refl _ _⟩
set_option maxHeartbeats 2000000 in
theorem k52_in (l m : List C) (b1 o1 c1 b2 o2 c2 : Nat) (w : World) (hr1 : w.rangeAt b1 o1 (flat l)) (hr2 : w.rangeAt b2 o2 (flat m)) (hl : l.length = m.length) (hc : l.length ≤ maxLen) (hb1 : b1 < w.heap.size) (hb2 : b2 < w.heap.size) :
    Calls Tryz.prog 79 #[.slice (some ⟨b1, o1, none⟩) l.length c1, .slice (some ⟨b2, o2, none⟩) l.length c2] w fun e w' => e = .returned (.bool (eqT l m)) ∧ Below w.heap.size w w' := by
  unfold maxLen at hc
  have HR1 : Hid (w.rangeAt b1 o1 (flat l)) := hr1
  have HR2 : Hid (w.rangeAt b2 o2 (flat m)) := hr2
  have HL : Hid (l.length = m.length) := hl
  have hne : (((l.length : Nat) : Int) != (l.length : Int)) = false := by simp
  clear hr1 hr2 hl
  go_enter Tryz.func79, Tryz.ntmps79
  go_wp2_with fail
  go_loopw [5] (fun i wr => ∃ k : Nat, k ≤ l.length ∧ i = .int .i64 k ∧ Hid (eqUpto l m k) ∧ Below w.heap.size w wr) (fun i _ => l.length - (intOf i).toNat)
  case atStart => exact ⟨0, by omega, rfl, fun j hj => by omega, Below.refl _ _⟩
  case round =>
    obtain ⟨k, hk, rfl, HU, hbr⟩ := hrel
    by_cases hlt : k < l.length
    · have hlt' : (k : Int) < (l.length : Int) := by omega
      have hk0 : (0 : Int) ≤ (k : Int) := by omega
      have hlm : k < m.length := by rw [← HL.out]; exact hlt
      obtain ⟨p0, p1, p2, p3, p4⟩ := term_cells (range_below HR1.out hb1 hbr) k hlt
      obtain ⟨q0, q1, q2, q3, q4⟩ := term_cells (range_below HR2.out hb2 hbr) k hlm
      have hN := neq60 l[k].k l[k].t l[k].n l[k].vn l[k].vk m[k].k m[k].t m[k].n m[k].vn m[k].vk
      have e1 : eqCells l[k].k l[k].t l[k].n l[k].vn l[k].vk m[k].k m[k].t m[k].n m[k].vn m[k].vk = eqC l[k] m[k] := rfl
      rw [e1] at hN
      clear e1
      cases hq : eqC l[k] m[k]
      · have hF : Hid (eqT l m = false) := eqT_false k hlt hlm hq
        rw [hq] at hN
        clear hq
        go_wp2_with fail
        go_quiet (fail)
        go_wp2_with fail
        go_ret
        exact ⟨by rw [hF.out]; rfl, below_drewN hbr _⟩
      · have hU : Hid (eqUpto l m (k + 1)) := fun j hj h1 h2 => if e : j = k then by subst e; exact hq else HU.out j (by omega) h1 h2
        rw [hq] at hN
        clear hq
        go_wp2_with fail
        go_quiet (fail)
        go_wp2_with fail
        go_roundw
        case rel => exact ⟨k + 1, by omega, by go_num, hU, below_drewN hbr _⟩
        case measure => simp [intOf]; omega
    · have hF : Hid (eqT l m = true) := eqT_true HL.out (by rw [show l.length = k by omega]; exact HU.out)
      have hlt' : ¬ ((k : Int) < (l.length : Int)) := by omega
      go_wp2_with fail
      go_ret
      exact ⟨by rw [hF.out]; rfl, hbr⟩
theorem k52 (l m : List C) (v u : Value) (w : World) (hv : TermAt w v l) (hu : TermAt w u m) :
    Calls Tryz.prog 79 #[v, u] w fun e w' => e = .returned (.bool (eqT l m)) ∧ Below w.heap.size w w' := by
  by_cases hl : l.length = m.length
  · by_cases h0 : l.length = 0
    · obtain ⟨a1, c1, rfl⟩ := hv.form
      obtain ⟨a2, c2, rfl⟩ := hu.form
      have e1 : l = [] := List.eq_nil_of_length_eq_zero h0
      have e2 : m = [] := List.eq_nil_of_length_eq_zero (by omega)
      subst e1 e2
      exact k52_nil c1 c2 a1 a2 w
    · obtain ⟨⟨hc, _⟩, hv⟩ := hv
      obtain ⟨_, hu⟩ := hu
      rcases hv with ⟨e, _⟩ | ⟨b1, o1, c1, rfl, _, _, hr1, hb1⟩
      · rw [e] at h0; simp at h0
      rcases hu with ⟨e, _⟩ | ⟨b2, o2, c2, rfl, _, _, hr2, hb2⟩
      · rw [hl, e] at h0; simp at h0
      rw [← hl]
      exact k52_in l m b1 o1 c1 b2 o2 c2 w hr1 hr2 hl hc hb1 hb2
  · obtain ⟨a1, c1, rfl⟩ := hv.form
    obtain ⟨a2, c2, rfl⟩ := hu.form
    rw [eqT_len hl]
    exact k52_len _ _ c1 c2 a1 a2 w (by simp; omega)
end Go.Proofs.YtlfccjlifjppdaaGreatDoor
namespace Go.Proofs.YtlfccjlifjppdaaGreatDoor
open Go.RowKit
def markC (j : Nat) : C := ⟨0, ⟨#[]⟩, -700 - (j : Int), 0, 0⟩
def marks : List C := (List.range 9).map markC
def handL (l : List C) : List C := l ++ marks
theorem handL_len (l : List C) : (handL l).length = l.length + 9 := by simp [handL, marks]
theorem handL_lo (l : List C) (k : Nat) (h : k < l.length) (h' : k < (handL l).length) : (handL l)[k] = l[k] := by
  simp [handL, h]
theorem handL_hi (l : List C) (k : Nat) (h : l.length ≤ k) (h' : k < (handL l).length) : (handL l)[k] = markC (k - l.length) := by
  simp [handL, List.getElem_append, marks, Nat.not_lt.2 h]
def HandAt (l : List C) (g q k : Nat) (w : World) : Prop := ∃ xs : List Value, w.ownsRow g 82 5 (.slice (some ⟨g, 0, none⟩) q q) q xs ∧ xs.take (5 * k) = flat ((handL l).take k)
theorem HandAt.dst {l : List C} {g q k : Nat} {w : World} (h : HandAt l g q k w) (i : Nat) (hi : i < q) : (∃ y, w.cell? ⟨g, i * 5, none⟩ = some y) ∧ (∃ y, w.cell? ⟨g, i * 5 + 1, none⟩ = some y) ∧ (∃ y, w.cell? ⟨g, i * 5 + 2, none⟩ = some y) ∧ (∃ y, w.cell? ⟨g, i * 5 + 3, none⟩ = some y) ∧ (∃ y, w.cell? ⟨g, i * 5 + 4, none⟩ = some y) := by
  obtain ⟨xs, h, _⟩ := h
  have hx : ∀ j, j < q * 5 → ∃ y, w.cell? ⟨g, j, none⟩ = some y := fun j hj => by
    rw [h.cellAt j hj, List.getElem?_eq_getElem (by rw [h.1]; exact hj)]
    exact ⟨_, rfl⟩
  exact ⟨hx _ (by omega), hx _ (by omega), hx _ (by omega), hx _ (by omega), hx _ (by omega)⟩
theorem HandAt.fz {l : List C} {g q k : Nat} {w : World} (h : HandAt l g q k w) (j : Nat) : w.frozen? ⟨g, j, none⟩ = false := by
  obtain ⟨xs, h, _⟩ := h
  exact h.frozenAt j
theorem set5 (xs : List Value) (n : Nat) (a b c d e : Value) (h : n + 5 ≤ xs.length) : (((((xs.set n a).set (n + 1) b).set (n + 2) c).set (n + 3) d).set (n + 4) e).take (n + 5) = xs.take n ++ [a, b, c, d, e] := by
  have hp : (xs.take n).length = n := by rw [List.length_take]; omega
  have hd : (xs.drop n).length = xs.length - n := List.length_drop
  have hx := (List.take_append_drop n xs).symm
  generalize xs.take n = p at *
  generalize xs.drop n = r at *
  subst hx
  match r, hd with
  | [], hd => simp at hd; simp at h; omega
  | [_], hd => simp at h; omega
  | [_, _], hd => simp at h; omega
  | [_, _, _], hd => simp at h; omega
  | [_, _, _, _], hd => simp at h; omega
  | x0 :: x1 :: x2 :: x3 :: x4 :: r, _ =>
    subst hp
    simp [List.take_append]
    exact List.take_of_length_le (by omega)
theorem HandAt.put {l : List C} {g q k : Nat} {w : World} (h : HandAt l g q k w) (hq : l.length + 9 = q) (hk : k < q) (c : C) (hc : ∀ h', (handL l)[k]'h' = c) (w0 : World) (B : Nat) (hb : Below B w0 w) (hBg : B ≤ g) (hBw : B ≤ w.heap.size) :
    HandAt l g q (k + 1) (((((w.setCell ⟨g, k * 5, none⟩ (.int .u8 c.k)).setCell ⟨g, k * 5 + 1, none⟩ (.string c.t)).setCell ⟨g, k * 5 + 2, none⟩ (.int .i64 c.n)).setCell ⟨g, k * 5 + 3, none⟩ (.int .i64 c.vn)).setCell ⟨g, k * 5 + 4, none⟩ (.int .i64 c.vk)) ∧
    Below B w0 (((((w.setCell ⟨g, k * 5, none⟩ (.int .u8 c.k)).setCell ⟨g, k * 5 + 1, none⟩ (.string c.t)).setCell ⟨g, k * 5 + 2, none⟩ (.int .i64 c.n)).setCell ⟨g, k * 5 + 3, none⟩ (.int .i64 c.vn)).setCell ⟨g, k * 5 + 4, none⟩ (.int .i64 c.vk)) := by
  obtain ⟨xs, h, ht⟩ := h
  obtain ⟨h1, g1⟩ := h.stored (k * 5) (.int .u8 c.k)
  obtain ⟨h2, g2⟩ := h1.stored (k * 5 + 1) (.string c.t)
  obtain ⟨h3, g3⟩ := h2.stored (k * 5 + 2) (.int .i64 c.n)
  obtain ⟨h4, g4⟩ := h3.stored (k * 5 + 3) (.int .i64 c.vn)
  obtain ⟨h5, g5⟩ := h4.stored (k * 5 + 4) (.int .i64 c.vk)
  have hr : ∀ x, some g = some x → B ≤ x := fun x hx => by cases hx; exact hBg
  have b1 := hb.grown g1 hBw hr
  have z1 := g1.size
  have b2 := b1.grown g2 (by omega) hr
  have z2 := g2.size
  have b3 := b2.grown g3 (by omega) hr
  have z3 := g3.size
  have b4 := b3.grown g4 (by omega) hr
  have z4 := g4.size
  have b5 := b4.grown g5 (by omega) hr
  refine ⟨⟨_, h5, ?_⟩, b5⟩
  have hl := h.1
  have e5 : 5 * (k + 1) = k * 5 + 5 := by omega
  rw [e5, set5 _ _ _ _ _ _ _ (by omega), show k * 5 = 5 * k by omega, ht]
  have hkl : k < (handL l).length := by rw [handL_len]; omega
  rw [List.take_succ_eq_append_getElem hkl, flat_append, hc hkl]
  simp [flat, C.vals]
theorem HandAt.range {l : List C} {g q : Nat} {w : World} (h : HandAt l g q q w) (hq : l.length + 9 = q) : w.rangeAt g 0 (flat (handL l)) ∧ g < w.heap.size := by
  obtain ⟨xs, h, ht⟩ := h
  have hl := h.1
  rw [List.take_of_length_le (by omega), List.take_of_length_le (by rw [handL_len]; omega)] at ht
  subst ht
  refine ⟨fun j v hv => ?_, (h.lt g rfl).2⟩
  have hj := (List.getElem?_eq_some_iff.1 hv).1
  rw [Nat.zero_add, h.cellAt j (by omega)]
  exact hv
set_option maxRecDepth 100000 in
set_option maxHeartbeats 2000000 in
theorem k21 (l : List C) (v : Value) (w : World) (h : TermAt w v l) (hB : 48 * l.length ≤ 140737488355328) :
    Calls Tryz.prog 28 #[v] w fun e w' => ∃ g, e = .returned (.slice (some ⟨g, 0, none⟩) l.length (l.length + 9)) ∧ w'.rangeAt g 0 (flat (handL l)) ∧ g < w'.heap.size ∧ Below w.heap.size w w' := by
  obtain ⟨i0, hi, hz0, hs0, hby⟩ := info60
  have HT : Hid (TermAt w v l) := h
  obtain ⟨adv, cpv, hv⟩ := h.form
  subst hv
  have HF : Hid (0 < l.length → ∃ b o, adv = some ⟨b, o, none⟩ ∧ w.rangeAt b o (flat l) ∧ b < w.heap.size) := fun h0 => by
    rcases HT.out.2 with ⟨rfl, _⟩ | ⟨b, o, cap, hv, _, _, h3, h4⟩
    · simp at h0
    · simp only [Value.slice.injEq] at hv
      exact ⟨b, o, hv.1, h3, h4⟩
  clear h
  generalize hq : l.length + 9 = q at *
  go_enter Tryz.func28, Tryz.ntmps28
  go_wp2_with (at_make; go_loud (refine wpList_make_full _ rfl _ _ 63 rfl w.heap.size 82 i0 (.agg #[.int .u8 0, .string ⟨#[]⟩, .int .i64 0, .int .i64 0, .int .i64 0]) 5 Tryz.underlying63 hi hz0 hs0 .i64 .i64 _ _ q rfl rfl (by go_num) (by go_num) (by rw [hby]; omega) (by unfold maxLen; omega) (Nat.le_refl _) ?_))
  intro w1 hown1 hgrow1
  have hbw1 : Hid (Below w.heap.size w w1) := (Below.refl _ _).grown hgrow1 (Nat.le_refl _) (fun g hg => by cases hg)
  have HO1 : Hid (HandAt l w.heap.size q 0 w1) := ⟨_, hown1, by simp [flat]⟩
  clear hown1 hgrow1
  have hq' : (l.length : Int) ≤ (q : Int) := by omega
  have hqm : q ≤ 9223372036854775807 := by omega
  go_wp2_with fail
  go_loopw [4] (fun i wr => ∃ k : Nat, k ≤ l.length ∧ i = .int .i64 k ∧ Hid (HandAt l w.heap.size q k wr) ∧ Below w.heap.size w wr) (fun i _ => l.length - (intOf i).toNat)
  case atStart => exact ⟨0, by omega, rfl, HO1, hbw1.out⟩
  case round =>
    obtain ⟨k, hk, rfl, HO, hbr⟩ := hrel
    by_cases hlt : k < l.length
    · have hlt' : (k : Int) < (l.length : Int) := by omega
      have hltq : (k : Int) < (q : Int) := by omega
      have hk0 : (0 : Int) ≤ (k : Int) := by omega
      obtain ⟨b, o, rfl, h3, h4⟩ := HF.out (by omega)
      obtain ⟨p0, p1, p2, p3, p4⟩ := term_cells (range_below h3 h4 hbr) k hlt
      obtain ⟨⟨y0, d0⟩, ⟨y1, d1⟩, ⟨y2, d2⟩, ⟨y3, d3⟩, ⟨y4, d4⟩⟩ := HO.out.dst k (by omega)
      have fz := HO.out.fz
      clear h3 h4
      have HP0 := HO.out.put hq (by omega) l[k] (fun h' => handL_lo l k hlt h') w w.heap.size hbr (Nat.le_refl _) hbr.size
      have HP : Hid (_ ∧ _) := HP0
      clear HP0
      go_wp2_with fail
      go_roundw
      case rel => exact ⟨k + 1, by omega, by go_num, HP.out.1, HP.out.2⟩
      case measure => simp [intOf]; omega
    · have hlt' : ¬ ((k : Int) < (l.length : Int)) := by omega
      have hkl : k = l.length := by omega
      clear hlt hlt' hk
      subst hkl
      go_wp2_with fail
      go_loopw [5] (fun i wr => ∃ k : Nat, l.length ≤ k ∧ k ≤ q ∧ i = .int .i64 k ∧ Hid (HandAt l w.heap.size q k wr) ∧ Below w.heap.size w wr) (fun i _ => q - (intOf i).toNat)
      case atStart => exact ⟨l.length, by omega, by omega, rfl, HO, hbr⟩
      case round =>
        obtain ⟨k, hkl, hk, rfl, HO, hbr⟩ := hrel
        by_cases hlt : k < q
        · have hlt' : (k : Int) < (q : Int) := by omega
          have hk0 : (0 : Int) ≤ (k : Int) := by omega
          obtain ⟨⟨y0, d0⟩, ⟨y1, d1⟩, ⟨y2, d2⟩, ⟨y3, d3⟩, ⟨y4, d4⟩⟩ := HO.out.dst k hlt
          have fz := HO.out.fz
          have hmk : markC (k - l.length) = ⟨0, ⟨#[]⟩, -700 - (k : Int) + (l.length : Int), 0, 0⟩ := by
            unfold markC; congr 1; omega
          have HP0 := HO.out.put hq hlt _ (fun h' => (handL_hi l k hkl h').trans hmk) w w.heap.size hbr (Nat.le_refl _) hbr.size
          have HP : Hid (_ ∧ _) := HP0
          clear HP0 hmk
          go_wp2_with fail
          go_roundw
          case rel => exact ⟨k + 1, by omega, by omega, by go_num, HP.out.1, HP.out.2⟩
          case measure => simp [intOf]; omega
        · have hlt' : ¬ ((k : Int) < (q : Int)) := by omega
          have hl0 : (0 : Int) ≤ (l.length : Int) := by omega
          have hkq : k = q := by omega
          clear hlt hlt' hk
          obtain ⟨hR, hG⟩ := (hkq ▸ HO.out : HandAt l w.heap.size q q wr).range hq
          go_wp2_with fail
          go_ret
          exact ⟨w.heap.size, rfl, hR, hG, hbr⟩
end Go.Proofs.YtlfccjlifjppdaaGreatDoor
namespace Go.Proofs.YtlfccjlifjppdaaGreatDoor
open Go.RowKit
attribute [local go_sem ↓] Go.wp_at_zero Go.wp_at_succ
theorem hand_term {l : List C} {w : World} {g : Nat} (hr : w.rangeAt g 0 (flat (handL l))) (hg : g < w.heap.size) (htx : ∀ c ∈ l, c.t.size ≤ maxLen) (hB : 48 * l.length ≤ 140737488355328) :
    TermAt w (.slice (some ⟨g, 0, none⟩) l.length (l.length + 9)) l := by
  refine ⟨⟨by unfold maxLen; omega, htx⟩, .inr ⟨g, 0, l.length + 9, rfl, by omega, by unfold maxLen; omega, fun j v hv => hr j v ?_, hg⟩⟩
  unfold handL
  rw [flat_append, List.getElem?_append_left (List.getElem?_eq_some_iff.1 hv).1]
  exact hv
set_option maxRecDepth 100000 in
set_option maxHeartbeats 2000000 in
theorem k36 (l : List C) (v : Value) (g : Nat) (w : World) (h : TermAt w v l) (hr : w.rangeAt g 0 (flat (handL l))) (hg : g < w.heap.size) (hB : 48 * l.length ≤ 140737488355328) :
    Calls Tryz.prog 36 #[.slice (some ⟨g, 0, none⟩) l.length (l.length + 9), v] w fun e w' => e = .returned (.bool true) ∧ Below w.heap.size w w' := by
  have H52 := k52 l l _ v w (hand_term hr hg h.1.2 hB) h
  rw [eqT_refl] at H52
  have HR : Hid (w.rangeAt g 0 (flat (handL l))) := hr
  obtain ⟨adv, cpv, hv⟩ := h.form
  subst hv
  clear h hr
  generalize hq : l.length + 9 = q at *
  have hq' : (l.length : Int) + 9 = (q : Int) := by omega
  have hqm : (q : Int) ≤ 9223372036854775807 := by omega
  go_enter Tryz.func36, Tryz.ntmps36
  go_wp2_with fail
  refine H52.mono ?_
  rintro e w1 ⟨rfl, hb1⟩
  have hgw : g < w1.heap.size := Nat.lt_of_lt_of_le hg hb1.size
  have HR1 : Hid (w1.rangeAt g 0 (flat (handL l))) := range_below HR.out hg hb1
  go_wp2_with fail
  go_loopw [6] (fun i wr => ∃ k : Nat, l.length ≤ k ∧ k ≤ q ∧ i = .int .i64 k ∧ Below w.heap.size w wr) (fun i _ => q - (intOf i).toNat)
  case atStart => exact ⟨l.length, by omega, by omega, rfl, hb1⟩
  case round =>
    obtain ⟨k, hkl, hk, rfl, hbr⟩ := hrel
    by_cases hlt : k < q
    · have hlt' : (k : Int) < (q : Int) := by omega
      have hk0 : (0 : Int) ≤ (k : Int) := by omega
      have hkh : k < (handL l).length := by rw [handL_len]; omega
      obtain ⟨p0, p1, p2, p3, p4⟩ := term_cells (range_below HR.out hg hbr) k hkh
      have hmk : (handL l)[k] = ⟨0, ⟨#[]⟩, -700 - (k : Int) + (l.length : Int), 0, 0⟩ := by
        rw [handL_hi l k hkl hkh]
        unfold markC; congr 1; omega
      rw [hmk] at p0 p1 p2 p3 p4
      simp only [Nat.zero_add] at p0 p1 p2 p3 p4
      have hN := neq60 0 ⟨#[]⟩ (-700 - (k : Int) + (l.length : Int)) 0 0 0 ⟨#[]⟩ (-700 - (k : Int) + (l.length : Int)) 0 0
      have e1 : eqCells 0 ⟨#[]⟩ (-700 - (k : Int) + (l.length : Int)) 0 0 0 ⟨#[]⟩ (-700 - (k : Int) + (l.length : Int)) 0 0 = true := by simp [eqCells]
      rw [e1] at hN
      clear e1 hmk
      go_wp2_with fail
      go_roundw
      case rel => exact ⟨k + 1, by omega, by omega, by go_num, hbr⟩
      case measure => simp [intOf]; omega
    · have hlt' : ¬ ((k : Int) < (q : Int)) := by omega
      go_wp2_with fail
      go_ret
      exact ⟨rfl, hbr⟩
end Go.Proofs.YtlfccjlifjppdaaGreatDoor
namespace Go.Proofs.YtlfccjlifjppdaaGreatDoor
open Go.RowKit
attribute [local go_sem ↓] Go.wp_at_zero Go.wp_at_succ
/-- A term as HandCells hands it. -/
def HandT (w : World) (u : Value) (l : List C) (g : Nat) : Prop := u = .slice (some ⟨g, 0, none⟩) l.length (l.length + 9) ∧ w.rangeAt g 0 (flat (handL l)) ∧ g < w.heap.size
theorem HandT.below {w w' : World} {u : Value} {l : List C} {g : Nat} (h : HandT w u l g) (hb : Below w.heap.size w w') : HandT w' u l g :=
  ⟨h.1, range_below h.2.1 h.2.2 hb, Nat.lt_of_lt_of_le h.2.2 hb.size⟩
theorem HandT.grown {w w' : World} {u : Value} {l : List C} {g : Nat} {o : Option Nat} (h : HandT w u l g) (hg : w.grownBy w' o) (ho : o ≠ some g) : HandT w' u l g :=
  ⟨h.1, fun j v hv => (hg.cell_far ⟨g, 0 + j, none⟩ h.2.2 (fun e => ho e.symm)).trans (h.2.1 j v hv), Nat.lt_of_lt_of_le h.2.2 hg.size⟩
/-- A row of terms as HandTerms hands it. -/
def HandR (w : World) (base : Nat) (u : Value) (ls : List (List C)) : Prop :=
  ∃ vs, w.ownsRow base 64 1 u ls.length vs ∧ vs.length = ls.length ∧ ∀ (i : Nat) (v : Value) (l : List C), vs[i]? = some v → ls[i]? = some l → ∃ g, HandT w v l g ∧ u.ownBlock ≠ some g
theorem HandR.below {w w' : World} {base : Nat} {u : Value} {ls : List (List C)} (h : HandR w base u ls) (hb : Below w.heap.size w w') : HandR w' base u ls := by
  obtain ⟨vs, h1, h2, h3⟩ := h
  refine ⟨vs, owns_below h1 hb, h2, fun i v l hv hl => ?_⟩
  obtain ⟨g, h4, h5⟩ := h3 i v l hv hl
  exact ⟨g, h4.below hb, h5⟩
/-- The block of a row of terms is none in which a term's cells lie. -/
theorem hand_apart {w : World} {base : Nat} {u : Value} {ls : List (List C)} {l : List C} {g : Nat} {v : Value} (h : HandR w base u ls) (h0 : 0 < ls.length) (ht : HandT w v l g) : u.ownBlock ≠ some g := by
  obtain ⟨vs, h1, h2, h3⟩ := h
  intro e
  rcases h1.2 with ⟨h4, h5⟩ | ⟨b, cap, cur, h4, h5, h6, h7, h8, h9, h10⟩
  · omega
  · rw [h4] at e
    simp [Value.ownBlock] at e
    subst e
    have hv : 0 < vs.length := by omega
    have r := range_of_owns h6 h10
    have c1 := r 0 vs[0] (List.getElem?_eq_getElem hv)
    obtain ⟨g', hT, _⟩ := h3 0 vs[0] ls[0] (List.getElem?_eq_getElem hv) (List.getElem?_eq_getElem h0)
    have hne : 0 < (handL l).length := by rw [handL_len]; omega
    obtain ⟨p0, _⟩ := term_cells ht.2.1 0 hne
    simp only [Nat.zero_mul, Nat.add_zero] at p0 c1
    rw [c1, hT.1] at p0
    simp at p0
theorem hand_row {w : World} {base : Nat} {u : Value} {ls : List (List C)} (h : HandR w base u ls) (hm : ls.length ≤ maxLen) (htx : ∀ l ∈ ls, ∀ c ∈ l, c.t.size ≤ maxLen) (hB : ∀ l ∈ ls, 48 * l.length ≤ 140737488355328) : RowAt w u ls := by
  obtain ⟨vs, h1, h2, h3⟩ := h
  cases hl : ls with
  | nil =>
    rw [hl] at h1
    rcases h1.2 with ⟨h4, _⟩ | ⟨b, cap, cur, h4, h5, h6, h7, h8, h9, h10⟩
    · exact ⟨by simp, .inl ⟨rfl, none, h4⟩⟩
    · exact ⟨by simp, .inr ⟨b, 0, cap, [], h4, by simp, h8, (Array.getElem?_eq_some_iff.1 h6).1, rfl, fun j v hv => by simp at hv, fun i u l hu => by simp at hu⟩⟩
  | cons a r =>
    rw [← hl]
    refine rowAt_of_owns h1 (by rw [hl]; simp) hm fun i v l hv hl' => ?_
    obtain ⟨g, h4, _⟩ := h3 i v l hv hl'
    rw [h4.1]
    exact hand_term h4.2.1 h4.2.2 (htx l (List.mem_of_getElem? hl')) (hB l (List.mem_of_getElem? hl'))
set_option maxRecDepth 100000 in
set_option maxHeartbeats 2000000 in
theorem k13h (ls : List (List C)) (v : Value) (w : World) (hR : RowAt w v ls) (hl : ls.length ≤ 5864062014805) (hB : ∀ l ∈ ls, 48 * l.length ≤ 140737488355328) :
    Calls Tryz.prog 13 #[v] w fun e w' => ∃ u, e = .returned u ∧ HandR w' w.heap.size u ls ∧ Below w.heap.size w w' := by
  have HR : Hid (RowAt w v ls) := hR
  have HB : Hid (∀ l ∈ ls, 48 * l.length ≤ 140737488355328) := hB
  obtain ⟨i0, hi, hz, hs, hby⟩ := info29
  obtain ⟨ad, cap, hv⟩ := hR.form
  subst hv
  clear hR hB
  go_enter Tryz.func13, Tryz.ntmps13
  go_wp2_with fail
  go_loopw [3, 4] (fun out i wr => ∃ k : Nat, k ≤ ls.length ∧ i = .int .i64 k ∧ Hid (HandR wr w.heap.size out (ls.take k)) ∧ (k = 0 → out.ownBlock = none) ∧ Below w.heap.size w wr) (fun _ i _ => ls.length - (intOf i).toNat)
  case atStart => exact ⟨0, by omega, rfl, ⟨[], World.ownsRow_nil _ _ _ _, rfl, fun i v l hv => by simp at hv⟩, fun _ => rfl, Below.refl _ _⟩
  case round =>
    obtain ⟨k, hk, rfl, HI, hk00, hbr⟩ := hrel
    have hsz := hbr.size
    by_cases hlt : k < ls.length
    · have hlt' : (k : Int) < (ls.length : Int) := by omega
      have hk0 : (0 : Int) ≤ (k : Int) := by omega
      obtain ⟨rb, ro, rc, y, hu, cy, hTy, hrb⟩ := row_at (HR.out.below hbr) k hlt
      simp only [Value.slice.injEq] at hu
      obtain ⟨rfl, _, rfl⟩ := hu
      have H28 := k21 ls[k] y wr hTy (HB.out _ (List.getElem_mem hlt))
      obtain ⟨ay, cpy, hy⟩ := hTy.form
      subst hy
      clear hTy
      have HTk : Hid (ls.take (k + 1) = ls.take k ++ [ls[k]]) := List.take_succ_eq_append_getElem hlt
      have hbl : 48 * ls[k].length ≤ 140737488355328 := HB.out _ (List.getElem_mem hlt)
      generalize hlk : ls[k] = l at *
      go_wp2_with fail
      refine H28.mono ?_
      rintro e w1 ⟨g, rfl, hr1, hg1, hb1⟩
      have hsz1 := hb1.size
      have HH1 : Hid (HandT w1 (.slice (some ⟨g, 0, none⟩) l.length (l.length + 9)) l g) := ⟨rfl, hr1, hg1⟩
      have HI1 : Hid (HandR w1 w.heap.size u3 (ls.take k)) := HI.out.below hb1
      have HAp : Hid (u3.ownBlock ≠ some g) := by
        by_cases h0 : k = 0
        · show u3.ownBlock ≠ some g
          rw [hk00 h0]; simp
        · exact hand_apart HI1.out (by rw [List.length_take]; omega) HH1.out
      have hbw1 : Below w.heap.size w w1 := hbr.trans (hb1.mono hsz)
      obtain ⟨vs, hO, hvl, hvs⟩ := HI1.out
      have HVs : Hid (vs.length = (ls.take k).length ∧ ∀ (i : Nat) (v : Value) (l : List C), vs[i]? = some v → (ls.take k)[i]? = some l → ∃ g, HandT w1 v l g ∧ u3.ownBlock ≠ some g) := ⟨hvl, hvs⟩
      have hkl : (ls.take k).length = k := by rw [List.length_take]; omega
      rw [hkl] at hO
      have HOa : Hid ((w1.alloc (.cells #[.slice (some ⟨g, 0, none⟩) l.length (l.length + 9)] 64)).ownsRow w.heap.size 64 1 u3 k vs) := hO.alloc _
      have HNews : Hid (∀ j u, [(.slice (some ⟨g, 0, none⟩) l.length (l.length + 9) : Value)][j]? = some u → (w1.alloc (.cells #[.slice (some ⟨g, 0, none⟩) l.length (l.length + 9)] 64)).cell? ((⟨w1.heap.size, 0, none⟩ : Addr).add j) = some u) := fun j u hu => by
        rw [Addr.add_mid]
        exact range_new w1 [.slice (some ⟨g, 0, none⟩) l.length (l.length + 9)] 64 j u hu
      have hbwa : Below w.heap.size w (w1.alloc (.cells #[.slice (some ⟨g, 0, none⟩) l.length (l.length + 9)] 64)) := hbw1.alloc hbw1.size _
      clear hO hvl hvs hr1 H28 cy
      go_wp2_with (at_builtin; refine wpList_append_own_at _ rfl _ _ 32 rfl w.heap.size 64 i0 (.slice none 0 0) 1 24 Tryz.underlying32 hi hz hs hby rfl (by decide) _ _ _ rfl HOa.out ⟨w1.heap.size, 0, none⟩ 1 1 [.slice (some ⟨g, 0, none⟩) l.length (l.length + 9)] rfl rfl HNews.out (fun x hx => by simp at hx; subst hx; rfl) (by unfold maxLen; omega) (by omega) (by simp; omega) ?_)
      intro v' w' hown hgr _ hloc
      have HF : Hid (HandR w' w.heap.size v' (ls.take (k + 1))) := by
        have hal : ∀ (u : Value) (m : List C) (q : Nat), HandT w1 u m q → u3.ownBlock ≠ some q → HandT w' u m q ∧ v'.ownBlock ≠ some q := fun u m q hT hne => by
          refine ⟨(hT.below (below_alloc _ _)).grown hgr hne, fun e => ?_⟩
          rcases hloc with h | h
          · rw [h] at e; exact hne e
          · rw [h] at e
            have := hT.2.2
            simp at e
            omega
        refine ⟨vs ++ [.slice (some ⟨g, 0, none⟩) l.length (l.length + 9)], ?_, ?_, ?_⟩
        · have e : (ls.take (k + 1)).length = k + 1 := by rw [List.length_take]; omega
          rw [e]; exact hown
        · rw [HTk.out, List.length_append, List.length_append, HVs.out.1]; rfl
        · intro i u m hu hm
          rw [HTk.out] at hm
          by_cases hi' : i < vs.length
          · rw [List.getElem?_append_left hi'] at hu
            rw [List.getElem?_append_left (by rw [← HVs.out.1]; exact hi')] at hm
            obtain ⟨q, h1, h2⟩ := HVs.out.2 i u m hu hm
            exact ⟨q, hal u m q h1 h2⟩
          · rw [List.getElem?_append_right (by omega)] at hu
            rw [List.getElem?_append_right (by rw [← HVs.out.1]; omega), ← HVs.out.1] at hm
            have h0 : i - vs.length = 0 := by
              have := (List.getElem?_eq_some_iff.1 hu).1
              simp at this; omega
            rw [h0] at hu hm
            simp at hu hm
            subst hu hm
            exact ⟨g, hal _ _ g HH1.out HAp.out⟩
      have HBf : Hid (Below w.heap.size w w') := hbwa.grown hgr (by simp; omega) (fun q hq => (HOa.out.lt q hq).1)
      clear hown hgr hloc
      go_wp2_with fail
      go_roundw
      case rel => exact ⟨k + 1, by omega, by go_num, HF, fun h => by omega, HBf.out⟩
      case measure => simp [intOf]; omega
    · have hlt' : ¬ ((k : Int) < (ls.length : Int)) := by omega
      rw [List.take_of_length_le (by omega)] at HI
      go_wp2_with fail
      go_ret
      exact ⟨_, rfl, HI.out, hbr⟩
set_option maxRecDepth 100000 in
set_option maxHeartbeats 2000000 in
theorem k26h (ls : List (List C)) (u v : Value) (base : Nat) (w : World) (hH : HandR w base u ls) (hR : RowAt w v ls) (hl : ls.length ≤ 5864062014805) (hB : ∀ l ∈ ls, 48 * l.length ≤ 140737488355328) :
    Calls Tryz.prog 26 #[u, v] w fun e w' => e = .returned (.bool true) ∧ Below w.heap.size w w' := by
  have HH : Hid (HandR w base u ls) := hH
  have HR : Hid (RowAt w v ls) := hR
  have HB : Hid (∀ l ∈ ls, 48 * l.length ≤ 140737488355328) := hB
  obtain ⟨ad, cap, hv⟩ := hR.form
  obtain ⟨vs, hO, hvl, hvs⟩ := hH
  obtain ⟨au, cu, hu⟩ := owns_form hO
  subst hv hu
  clear hR hB hO hvl hvs
  have hq : ((ls.length : Int) != (ls.length : Int)) = false := by simp
  go_enter Tryz.func26, Tryz.ntmps26
  go_wp2_with fail
  go_loopw [5] (fun i wr => ∃ k : Nat, k ≤ ls.length ∧ i = .int .i64 k ∧ Below w.heap.size w wr) (fun i _ => ls.length - (intOf i).toNat)
  case atStart => exact ⟨0, by omega, rfl, Below.refl _ _⟩
  case round =>
    obtain ⟨k, hk, rfl, hbr⟩ := hrel
    by_cases hlt : k < ls.length
    · have hlt' : (k : Int) < (ls.length : Int) := by omega
      have hk0 : (0 : Int) ≤ (k : Int) := by omega
      obtain ⟨rb, ro, rc, y, hu, cy, hTy, hrb⟩ := row_at (HR.out.below hbr) k hlt
      simp only [Value.slice.injEq] at hu
      obtain ⟨rfl, _, rfl⟩ := hu
      obtain ⟨vs, hO, hvl, hvs⟩ := HH.out.below hbr
      rcases hO.2 with ⟨h4, h5⟩ | ⟨b, cp, cur, h4, h5, h6, h7, h8, h9, h10⟩
      · omega
      simp only [Value.slice.injEq] at h4
      obtain ⟨rfl, _, rfl⟩ := h4
      have hkv : k < vs.length := by omega
      have cv := range_of_owns h6 h10 k vs[k] (List.getElem?_eq_getElem hkv)
      rw [Nat.zero_add] at cv
      obtain ⟨g, hT, _⟩ := hvs k vs[k] ls[k] (List.getElem?_eq_getElem hkv) (List.getElem?_eq_getElem hlt)
      rw [hT.1] at cv
      have H36 : Hid (∀ W, Below wr.heap.size wr W → Calls Tryz.prog 36 #[.slice (some ⟨g, 0, none⟩) ls[k].length (ls[k].length + 9), y] W fun e w' => e = .returned (.bool true) ∧ Below W.heap.size W w') := fun W hW => k36 ls[k] y g W (hTy.below hW) (hT.below hW).2.1 (hT.below hW).2.2 (HB.out _ (List.getElem_mem hlt))
      obtain ⟨ay, cpy, hy⟩ := hTy.form
      subst hy
      clear hTy hT hvs hvl hO h6 h7 h8 h9 h10 h5
      generalize ls[k].length = tl at *
      go_wp2_with fail
      first
        | go_region_with (go_at_call 36; refine (H36.out _ (Below.drew (Below.refl _ _))).mono ?_; rintro e w7 ⟨rfl, hb7⟩)
        | fail
      all_goals (
        have hb7' : Below wr.heap.size wr w7 := (Below.drew (Below.refl _ _)).trans hb7
        go_wp2_with fail
        go_roundw
        case rel => exact ⟨k + 1, by omega, by go_num, hbr.trans (hb7'.mono hbr.size)⟩
        case measure => simp [intOf]; omega)
    · have hlt' : ¬ ((k : Int) < (ls.length : Int)) := by omega
      go_wp2_with fail
      go_ret
      exact ⟨rfl, hbr⟩
end Go.Proofs.YtlfccjlifjppdaaGreatDoor
