/- The contract of CheckCalls. -/
import Derived.Test.YtgknheafkkkjcaaGreatDoorQ28
import Derived.Test.YtgknheafkkkjcaaGreatDoorQ20
namespace Go.Proofs.YtgknheafkkkjcaaGreatDoor
open Go.RowKit
attribute [local go_sem ↓] Go.wp_at_zero Go.wp_at_succ
theorem where_uniq {cs : List Cl} {n e m f : Int} (h : IsWhere cs n e) (g : IsWhere cs m f) : n = m ∧ e = f := by
  rcases h with ⟨k, hk, h1, h2, h3, h4⟩ | ⟨h1, h3, h4⟩ <;> rcases g with ⟨l, hl, g1, g2, g3, g4⟩ | ⟨g1, g3, g4⟩
  · rcases Nat.lt_trichotomy k l with hkl | rfl | hkl
    · have := g1 k hkl; omega
    · exact ⟨h3.trans g3.symm, h4.trans g4.symm⟩
    · have := h1 l hkl; omega
  · have := g1 k hk; omega
  · have := h1 l hl; omega
  · exact ⟨h3.trans g3.symm, h4.trans g4.symm⟩
set_option maxRecDepth 100000 in
set_option maxHeartbeats 4000000 in
theorem k5c (cs : List Cl) (F : Fits cs) (v : Value) (w : World) (hP : ProgAt w v cs) (hS : Signs w) :
    Calls Tryz.prog 5 #[v] w fun e w' => e = .returned (.bool true) ∧ Below w.heap.size w w' := by
  have HP : Hid (ProgAt w v cs) := hP
  have HS : Hid (Signs w) := hS
  have HF : Hid (Fits cs) := F
  have H9 := k7 w hS
  obtain ⟨ad, cap, hv⟩ := hP.form
  subst hv
  clear hP hS F
  go_enter Tryz.func5, Tryz.ntmps5
  go_wp2_with fail
  refine H9.mono ?_
  rintro e w1 ⟨rfl, hb1⟩
  have HB1 : Hid (Below w.heap.size w w1) := hb1
  have H10 := k15g cs HF.out _ w1 (HP.out.below hb1) (HS.out.below hb1)
  clear hb1 H9
  go_wp2_with fail
  refine H10.mono ?_
  rintro e w2 ⟨n1, er, rfl, hI1, hb2⟩
  have HB2 : Hid (Below w.heap.size w w2) := HB1.out.trans (hb2.mono HB1.out.size)
  have HI1 : Hid (IsWhere cs n1 er) := hI1
  clear hb2 HB1 H10 hI1
  by_cases her : er = 0
  · subst her
    have HRt := right_prog HI1.out
    have hl64 := HRt.2.2.1
    have HRP : Hid ((∀ c ∈ cs, hasNameS c.hd = true) ∧ (∀ c ∈ cs, ∀ y ∈ calledS c.bs, noneG cs y = false) ∧ cs.length ≤ 64 ∧ ∀ c ∈ cs, c.bs.length ≤ 8) := HRt
    clear HRt HI1
    have hpr : ProgsAt (w2.alloc (.cells #[.slice ad cs.length cap] 23)) (.slice (some ⟨w2.heap.size, 0, none⟩) 1 1) [cs] := by
      refine ⟨w2.heap.size, 0, 1, [.slice ad cs.length cap], rfl, by simp, rfl, range_new w2 [.slice ad cs.length cap] 23, ?_⟩
      intro i u p hu hp
      match i, hu, hp with
      | 0, hu, hp =>
        simp at hu hp
        subst hu hp
        exact (HP.out.below HB2.out).below (below_alloc _ _)
    have hhl := heads_len cs
    have H16 := k16p [cs] _ _ hpr (fun p hp c hc hn => by simp at hp; subst hp; exact HF.out.hw c hc hn) (by omega) (by simp)
    have HT : Hid (cntS cs ((headsA [cs]).foldl addP []) ((headsA [cs]).foldl addP []).length = cs.length) := cnt_total HRP.out.1
    have HWf : Hid (∀ y ∈ (headsA [cs]).foldl addP [], wfP y) := fun y hy => by
      rw [foldP_iff] at hy
      rcases hy with hy | hy
      · simp at hy
      · unfold headsA headsS at hy
        simp only [List.flatMap_cons, List.flatMap_nil, List.append_nil] at hy
        obtain ⟨c, hc, rfl⟩ := List.mem_map.1 hy
        obtain ⟨h1, h2⟩ := List.mem_filter.1 hc
        exact HF.out.hw c h1 h2
    have hpl : ((headsA [cs]).foldl addP []).length ≤ 64 := by
      have := foldP_len (headsA [cs]) []
      simp at this
      omega
    simp only [World.size_alloc] at H16
    clear hpr hhl
    generalize (headsA [cs]).foldl addP [] = P at *
    go_wp2_with fail
    refine H16.mono ?_
    rintro e w3 ⟨u3, rfl, hO3, hb3⟩
    have hb3' : Below w2.heap.size w2 w3 := (below_alloc w2 (.cells #[.slice ad cs.length cap] 23)).trans (hb3.mono (by simp))
    have HB3 : Hid (Below w.heap.size w w3) := HB2.out.trans (hb3'.mono HB2.out.size)
    have hP3 : PredsAt w3 u3 P := predsAt_of_owns hO3 (by unfold maxLen; omega)
    have HP3 : Hid (PredsAt w3 u3 P) := hP3
    obtain ⟨a3, c3, hu3⟩ := hP3.form
    subst hu3
    clear hO3 hb3 hb3' hP3 H16
    go_wp2_with fail
    go_loopw [4, 5] (fun cn iv wr => ∃ i : Nat, i ≤ P.length ∧ iv = .int .i64 i ∧ cn = .int .i64 (cntS cs P i : Nat) ∧ Below w3.heap.size w3 wr) (fun _ iv _ => P.length - (intOf iv).toNat)
    case atStart => exact ⟨0, by omega, rfl, rfl, Below.refl _ _⟩
    case round =>
      obtain ⟨i, hiP, rfl, rfl, hbr⟩ := hrel
      have HBr : Hid (Below w.heap.size w wr) := HB3.out.trans (hbr.mono HB3.out.size)
      by_cases hlt : i < P.length
      · have hlt' : (i : Int) < (P.length : Int) := by omega
        have hi0 : (0 : Int) ≤ (i : Int) := by omega
        obtain ⟨pb, po, pc, hpv, d0, d1⟩ := preds_at (HP3.out.below hbr) i hlt
        have hpb : pb < wr.heap.size := World.block_lt_of_cell? wr _ d0
        simp only [Value.slice.injEq] at hpv
        obtain ⟨rfl, _, rfl⟩ := hpv
        have hcn := cnt_next cs P i hlt
        have hcl := cnt_le cs P (i + 1)
        rw [HT.out] at hcl
        have H14 : Hid (∀ W, Below wr.heap.size wr W → Calls Tryz.prog 14 #[.slice ad cs.length cap, .string P[i].1, .int .i64 P[i].2] W fun e w' => ∃ u, e = .returned u ∧ IntsAt w' u (idxG cs P[i] cs.length) ∧ Below W.heap.size W w') := fun W hW => k20 cs _ P[i] W ((HP.out.below HBr.out).below hW) HF.out.len HF.out.hw (HWf.out _ (List.getElem_mem hlt))
        have HZ : Hid (∀ z ∈ idxG cs P[i] cs.length, ∃ (n : Nat) (c : Cl), n < cs.length ∧ z = (n : Int) ∧ cs[n]? = some c ∧ isB c.hd P[i].1 P[i].2 = true) := fun z hz => by
          obtain ⟨n, c, h1, h2, h3, h4⟩ := idxG_mem cs P[i] z cs.length hz
          rw [hasK_is] at h4
          simp at h4
          exact ⟨n, c, h1, h2, h3, h4.2⟩
        have HQ : Hid (cntS cs P (i + 1) = cntS cs P i + (idxG cs P[i] cs.length).length ∧ cntS cs P i + (idxG cs P[i] cs.length).length ≤ 64) := ⟨hcn, by omega⟩
        clear hcn hcl
        generalize idxG cs P[i] cs.length = zs at *
        obtain ⟨q, hq⟩ : ∃ q, cntS cs P i = q := ⟨_, rfl⟩
        rw [hq] at HQ
        rw [hq]
        have hql : q + zs.length ≤ 64 := HQ.out.2
        clear hq
        obtain ⟨x, hx⟩ : ∃ x, P[i] = x := ⟨_, rfl⟩
        rw [hx] at d0 d1 H14 HZ
        clear hx
        go_wp2_with fail
        first
          | go_region_with (go_at_call 14; refine (H14.out _ (Below.drew (Below.refl _ _))).mono ?_; rintro e w7 ⟨u7, rfl, hI7, hb7⟩)
          | fail
        all_goals (
          have hbw67 : Below wr.heap.size wr w7 := (Below.drew (Below.refl _ _)).trans hb7
          have HB7 : Hid (Below w3.heap.size w3 w7) := hbr.trans (hbw67.mono hbr.size)
          have HBw7 : Hid (Below w.heap.size w w7) := HBr.out.trans (hbw67.mono HBr.out.size)
          have e0 : w7.cell? ⟨pb, po + i * 2, none⟩ = some (.string x.1) := (hbw67.cell (p := ⟨pb, po + i * 2, none⟩) hpb).trans d0
          have e1 : w7.cell? ⟨pb, po + i * 2 + 1, none⟩ = some (.int .i64 x.2) := (hbw67.cell (p := ⟨pb, po + i * 2 + 1, none⟩) hpb).trans d1
          have HE : Hid (w7.cell? ⟨pb, po + i * 2, none⟩ = some (.string x.1) ∧ w7.cell? ⟨pb, po + i * 2 + 1, none⟩ = some (.int .i64 x.2) ∧ pb < w7.heap.size) := ⟨e0, e1, Nat.lt_of_lt_of_le hpb hbw67.size⟩
          obtain ⟨a7, c7, hu7⟩ := hI7.form
          have HI7 : Hid (IntsAt w7 u7 zs) := hI7
          subst hu7
          clear hI7 hb7 hbw67 d0 d1 e0 e1 H14
          go_wp2_with fail
          go_loopw [7] (fun kv wr => ∃ k : Nat, k ≤ zs.length ∧ kv = .int .i64 k ∧ Below w7.heap.size w7 wr) (fun kv _ => zs.length - (intOf kv).toNat)
          case atStart => exact ⟨0, by omega, rfl, Below.refl _ _⟩
          case round =>
            obtain ⟨k, hk, rfl, hbr2⟩ := hrel
            by_cases hkt : k < zs.length
            · have hkt' : (k : Int) < (zs.length : Int) := by omega
              have hk0 : (0 : Int) ≤ (k : Int) := by omega
              obtain ⟨zb, zc, hzv, cz, _⟩ := ints_at (HI7.out.below hbr2) k hkt
              simp only [Value.slice.injEq] at hzv
              obtain ⟨rfl, _, rfl⟩ := hzv
              obtain ⟨n, c, hn, hzn, hcn, hisb⟩ := HZ.out zs[k] (List.getElem_mem hkt)
              have hcc : cs[n] = c := by rw [List.getElem?_eq_getElem hn] at hcn; exact Option.some.inj hcn
              have HBr2 : Hid (Below w.heap.size w wr) := HBw7.out.trans (hbr2.mono HBw7.out.size)
              obtain ⟨qb, qo, qc, y, hy, ⟨p0, p1, p2, p3⟩, hC, _⟩ := prog_at (HP.out.below HBr2.out) n hn
              rw [hcc] at hC
              simp only [Value.slice.injEq] at hy
              obtain ⟨rfl, _, rfl⟩ := hy
              have H27 : Hid (∀ W, Below wr.heap.size wr W → Calls Tryz.prog 27 #[y.hv, .string x.1, .int .i64 x.2] W fun e w' => e = .returned (.bool true) ∧ w' = W) := fun W hW => by
                have h := c29 c.hd y.hv x.1 x.2 W (hC.1.below hW)
                rwa [hisb] at h
              obtain ⟨a1, c1, e1⟩ := hC.1.form
              rw [e1] at p0 H27
              rw [hzn] at cz
              have g0 : wr.cell? ⟨pb, po + i * 2, none⟩ = some (.string x.1) := (hbr2.cell (p := ⟨pb, po + i * 2, none⟩) HE.out.2.2).trans HE.out.1
              have g1 : wr.cell? ⟨pb, po + i * 2 + 1, none⟩ = some (.int .i64 x.2) := (hbr2.cell (p := ⟨pb, po + i * 2 + 1, none⟩) HE.out.2.2).trans HE.out.2.1
              have hn0 : (0 : Int) ≤ (n : Int) := by omega
              have hn1 : (n : Int) < (cs.length : Int) := by omega
              have hn2 : decide ((n : Int) < 0) = false := decide_eq_false (by omega)
              have hn3 : decide ((cs.length : Int) ≤ (n : Int)) = false := decide_eq_false (by omega)
              clear hC e1 hcc hcn hisb p1 p2 p3 hzn
              generalize c.hd.length = hl1 at *
              go_wp2_with fail
              go_quiet (first | (go_at_call 27; exact Calls.quiet_of_same (H27.out _ (below_dN (Below.refl _ _) _))))
              go_wp2_with fail
              go_roundw
              case rel => exact ⟨k + 1, by omega, by go_num, below_dN hbr2 _⟩
              case measure => simp [intOf]; omega
            · have hkt' : ¬ ((k : Int) < (zs.length : Int)) := by omega
              go_wp2_with fail
              go_roundw
              case rel => exact ⟨i + 1, by omega, by go_num, by rw [HQ.out.1]; go_num, HB7.out.trans (hbr2.mono HB7.out.size)⟩
              case measure => simp [intOf]; omega)
      · have hlt' : ¬ ((i : Int) < (P.length : Int)) := by omega
        have hiP2 : i = P.length := by omega
        have HTi : Hid (cntS cs P i = cs.length) := by show cntS cs P i = cs.length; rw [hiP2]; exact HT.out
        rw [HTi.out]
        have hceq : ((cs.length : Int) == (cs.length : Int)) = true := by simp
        go_wp2_with fail
        go_loopw [8] (fun iv wr => ∃ i : Nat, i ≤ cs.length ∧ iv = .int .i64 i ∧ Below w.heap.size w wr) (fun iv _ => cs.length - (intOf iv).toNat)
        case atStart => exact ⟨0, by omega, rfl, HBr.out⟩
        case round =>
          obtain ⟨m, hm, rfl, hbr4⟩ := hrel
          by_cases hmt : m < cs.length
          · have hmt' : (m : Int) < (cs.length : Int) := by omega
            have hm0 : (0 : Int) ≤ (m : Int) := by omega
            have H20 := k16 cs _ (m : Int) wr (HP.out.below hbr4) (HS.out.below hbr4) HF.out.bl
            have hcs : callsS cs (m : Int) = calledS cs[m].bs := by
              unfold callsS
              rw [if_pos hm0]
              simp [List.getElem?_eq_getElem hmt]
            rw [hcs] at H20
            have HNn : Hid (∀ y ∈ calledS cs[m].bs, noneG cs y = false ∧ wfP y) := fun y hy => ⟨HRP.out.2.1 _ (List.getElem_mem hmt) y hy, HF.out.pw _ (List.getElem_mem hmt) y hy⟩
            have hdl : (calledS cs[m].bs).length ≤ 8 := Nat.le_trans (calledS_len _) (HRP.out.2.2.2 _ (List.getElem_mem hmt))
            clear hcs
            generalize calledS cs[m].bs = ds at *
            go_wp2_with fail
            refine H20.mono ?_
            rintro e w8 ⟨u8, rfl, hO8, hb8⟩
            have hP8 : PredsAt w8 u8 ds := predsAt_of_owns hO8 (by unfold maxLen; omega)
            have HB8 : Hid (Below w.heap.size w w8) := hbr4.trans (hb8.mono hbr4.size)
            have HP8 : Hid (PredsAt w8 u8 ds) := hP8
            obtain ⟨a8, c8, hu8⟩ := hP8.form
            subst hu8
            clear hO8 hb8 hP8 H20
            go_wp2_with fail
            go_loopw [10] (fun nv wr => ∃ n : Nat, n ≤ ds.length ∧ nv = .int .i64 n ∧ Below w8.heap.size w8 wr) (fun nv _ => ds.length - (intOf nv).toNat)
            case atStart => exact ⟨0, by omega, rfl, Below.refl _ _⟩
            case round =>
              obtain ⟨n, hn, rfl, hbr5⟩ := hrel
              have HBr5 : Hid (Below w.heap.size w wr) := HB8.out.trans (hbr5.mono HB8.out.size)
              by_cases hnt : n < ds.length
              · have hnt' : (n : Int) < (ds.length : Int) := by omega
                have hn0 : (0 : Int) ≤ (n : Int) := by omega
                obtain ⟨qb, qo, qc, hqv, q0, q1⟩ := preds_at (HP8.out.below hbr5) n hnt
                simp only [Value.slice.injEq] at hqv
                obtain ⟨rfl, _, rfl⟩ := hqv
                obtain ⟨hng, hwy⟩ := HNn.out _ (List.getElem_mem hnt)
                have H14 : Hid (∀ W, Below wr.heap.size wr W → Calls Tryz.prog 14 #[.slice ad cs.length cap, .string ds[n].1, .int .i64 ds[n].2] W fun e w' => ∃ u, e = .returned u ∧ IntsAt w' u (idxG cs ds[n] cs.length) ∧ Below W.heap.size W w') := fun W hW => k20 cs _ ds[n] W ((HP.out.below HBr5.out).below hW) HF.out.len HF.out.hw hwy
                have hne : (((idxG cs ds[n] cs.length).length : Int) == 0) = false := hng
                clear hng hwy
                generalize idxG cs ds[n] cs.length = zs at *
                generalize ds[n] = x at *
                go_wp2_with fail
                first
                  | go_region_with (go_at_call 14; refine (H14.out _ (Below.drew (Below.refl _ _))).mono ?_; rintro e w9 ⟨u9, rfl, hI9, hb9⟩; obtain ⟨a9, c9, hu9⟩ := hI9.form; subst hu9; clear hI9)
                  | fail
                all_goals (
                  have hb9' : Below wr.heap.size wr w9 := (Below.drew (Below.refl _ _)).trans hb9
                  go_wp2_with fail
                  go_roundw
                  case rel => exact ⟨n + 1, by omega, by go_num, hbr5.trans (hb9'.mono hbr5.size)⟩
                  case measure => simp [intOf]; omega)
              · have hnt' : ¬ ((n : Int) < (ds.length : Int)) := by omega
                go_wp2_with fail
                go_roundw
                case rel => exact ⟨m + 1, by omega, by go_num, HBr5.out⟩
                case measure => simp [intOf]; omega
          · have hmt' : ¬ ((m : Int) < (cs.length : Int)) := by omega
            go_wp2_with fail
            go_ret
            exact ⟨rfl, hbr4⟩
  · have hq : (er != 0) = true := by simp [her]
    have H11 := z11 cs _ w2 (HP.out.below HB2.out)
    go_wp2_with fail
    refine H11.mono ?_
    rintro e w3 ⟨n2, er2, rfl, hI2, hb3⟩
    obtain rfl := (where_uniq HI1.out hI2).2
    clear hI2 H11
    go_wp2_with fail
    go_ret
    exact ⟨rfl, HB2.out.trans (hb3.mono HB2.out.size)⟩
end Go.Proofs.YtgknheafkkkjcaaGreatDoor
