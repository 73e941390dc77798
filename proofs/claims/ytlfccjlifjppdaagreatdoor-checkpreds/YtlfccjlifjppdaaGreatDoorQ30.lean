/- Contract of the reference's Reached. A book of rows of numbers: how it stands while its rows are written over, grown, looked at. A book's rows that are none: nothing is to be seen. Contract of aloneInts: rows of numbers that lie apart are alone. Contracts of TakeInts, Alone. -/
import Derived.Test.YtlfccjlifjppdaaGreatDoorQ23
import Derived.Test.YtlfccjlifjppdaaGreatDoorQ29
import Derived.WalkArith
import Derived.Test.YtlfccjlifjppdaaGreatDoorQ1
import Derived.OwnWalk
namespace Go.Proofs.YtlfccjlifjppdaaGreatDoor
open Go.RowKit
attribute [local go_sem ↓] Go.wp_at_zero Go.wp_at_succ
theorem owns_base {w : World} {base base' e s n : Nat} {v : Value} {xs : List Value} (h : w.ownsRow base e s v n xs) (hb : base' ≤ base) : w.ownsRow base' e s v n xs := by
  refine ⟨h.1, ?_⟩
  rcases h.2 with hh | ⟨g, cap, cur, e1, e2, e3⟩
  · exact .inl hh
  · exact .inr ⟨g, cap, cur, e1, by omega, e3⟩
theorem ints_grown {w w' : World} {base base' : Nat} {n : Nat} {out out' v : Value} {xs : List Value} {zs : List Int} (h : w.ownsInts base 3 .i64 v zs) (hO : w.ownsRow base' 87 2 out n xs) (hg : Grown w w' out out') : w'.ownsInts base 3 .i64 v zs :=
  ints_eq h fun g hgg => hg.1 g (h.1.lt g hgg).2 (types_apart h.1 hO (by decide) g hgg)
set_option maxRecDepth 100000 in
set_option maxHeartbeats 4000000 in
theorem z23 (cs : List Cl) (ls : List (List C)) (v vl : Value) (w : World) (hP : ProgAt w v cs) (hR : RowAt w vl ls) (hcl : cs.length ≤ 1759218604441) (hbl : ∀ c ∈ cs, c.bs.length ≤ 5864062014800) (hU : (univ cs ls).length ≤ 1000000000) :
    Calls Tryz.prog 23 #[v, vl] w fun e w' => ∃ u acc, e = .returned u ∧ w'.ownsRow w.heap.size 87 2 u acc.length (flatP acc) ∧ acc = seqR cs ((calledS ls).foldl addP []) acc.length ∧ acc.length ≤ 1000000000 ∧ Below w.heap.size w w' := by
  have HP : Hid (ProgAt w v cs) := hP
  have HR : Hid (RowAt w vl ls) := hR
  have HU : Hid ((univ cs ls).length ≤ 1000000000) := hU
  have HBl : Hid (∀ c ∈ cs, c.bs.length ≤ 5864062014800) := hbl
  have HCl : Hid ((calledS ls).length ≤ 1000000000) := by
    have : (calledS ls).length ≤ (univ cs ls).length := by unfold univ; rw [List.length_append]; omega
    exact Nat.le_trans this hU
  have hlm := hR.1
  unfold maxLen at hlm
  obtain ⟨ad, cap, hv⟩ := hP.form
  obtain ⟨adl, capl, hvl⟩ := hR.form
  subst hv hvl
  clear hP hR hbl hU
  go_enter Tryz.func23, Tryz.ntmps23
  go_wp2_with fail
  go_loopw [5, 6] (fun out i wr => ∃ k : Nat, k ≤ ls.length ∧ i = .int .i64 k ∧ Hid (wr.ownsRow w.heap.size 87 2 out (calledS (ls.take k)).length (flatP (calledS (ls.take k)))) ∧ Below w.heap.size w wr) (fun _ i _ => ls.length - (intOf i).toNat)
  case atStart => exact ⟨0, by omega, rfl, World.ownsRow_nil _ _ _ _, Below.refl _ _⟩
  case round =>
    obtain ⟨k, hk, rfl, HO, hbr⟩ := hrel
    have hsz := hbr.size
    by_cases hlt : k < ls.length
    · have hlt' : (k : Int) < (ls.length : Int) := by omega
      have hk0 : (0 : Int) ≤ (k : Int) := by omega
      obtain ⟨rb, ro, rc, y, hu, cy, hTy, _⟩ := row_at (HR.out.below hbr) k hlt
      simp only [Value.slice.injEq] at hu
      obtain ⟨rfl, _, rfl⟩ := hu
      have H46 := z46 ls[k] y wr hTy
      have HY : Hid (callB ls[k] = true → calledS (ls.take (k + 1)) = addP (calledS (ls.take k)) (predS (callT ls[k]))) := calledS_yes ls k hlt
      have HN : Hid (callB ls[k] = false → calledS (ls.take (k + 1)) = calledS (ls.take k)) := calledS_no ls k hlt
      have hcl2 : (calledS (ls.take k)).length ≤ 5864062014800 := by
        have h1 := HCl.out
        have h2 : (calledS (ls.take k)).length ≤ (calledS ls).length := by
          have e : ls = ls.take k ++ ls.drop k := (List.take_append_drop k ls).symm
          rw [e]
          rw [List.take_append_of_le_length (by simp; omega), List.take_take, Nat.min_self]
          unfold calledS predsOf
          rw [List.filter_append, List.map_append, List.foldl_append]
          exact (foldP_prefix _ _).1
        omega
      obtain ⟨ay, cpy, hy⟩ := hTy.form
      subst hy
      clear hTy
      generalize ls[k] = t at *
      generalize t.length = tl at *
      generalize calledS (ls.take k) = ac at *
      go_wp2_with fail
      refine H46.mono ?_
      rintro e w3 ⟨p, rfl, hp, hb3⟩
      have hbw3 : Below w.heap.size w w3 := hbr.trans (hb3.mono hsz)
      have hsz3 := hbw3.size
      have HO3 : Hid ((w3.alloc (.cells #[.string p.1, .int .i64 p.2] 87)).ownsRow w.heap.size 87 2 u5 ac.length (flatP ac)) := (owns_below HO.out hb3).alloc _
      have hba : Below w.heap.size w (w3.alloc (.cells #[.string p.1, .int .i64 p.2] 87)) := hbw3.alloc hsz3 _
      clear hb3 H46 cy
      cases hcb : callB t
      · have HE : Hid (calledS (ls.take (k + 1)) = ac) := HN.out hcb
        clear hcb hp
        go_wp2_with fail
        go_roundw
        case rel => exact ⟨k + 1, by omega, by go_num, by rw [HE.out]; exact HO3.out, hba⟩
        case measure => simp [intOf]; omega
      · have HE : Hid (calledS (ls.take (k + 1)) = addP ac p) := by
          show calledS (ls.take (k + 1)) = _
          rw [hp hcb]; exact HY.out hcb
        have H42 := z42 ac p w.heap.size u5 _ HO3.out hcl2 (by simp; omega)
        clear hcb hp
        go_wp2_with fail
        refine H42.mono ?_
        rintro e w4 ⟨v4, rfl, hO4, hb4, _⟩
        have HO4 : Hid (w4.ownsRow w.heap.size 87 2 v4 (addP ac p).length (flatP (addP ac p))) := hO4
        clear hO4 H42
        go_wp2_with fail
        go_roundw
        case rel => exact ⟨k + 1, by omega, by go_num, by rw [HE.out]; exact HO4.out, hba.trans hb4⟩
        case measure => simp [intOf]; omega
    · have hlt' : ¬ ((k : Int) < (ls.length : Int)) := by omega
      rw [List.take_of_length_le (by omega)] at HO
      have HO0 : Hid (wr.ownsRow w.heap.size 87 2 u5 ((calledS ls).foldl addP []).length (flatP ((calledS ls).foldl addP []))) := by
        show World.ownsRow _ _ _ _ _ _ _
        rw [called_self]; exact HO.out
      clear HO
      go_wp2_with fail
      go_loopw [5, 9] (fun out iv wr => ∃ (i : Nat) (acc : List Pd), iv = .int .i64 i ∧ i ≤ acc.length ∧ acc.length ≤ (univ cs ls).length ∧ Hid (wr.ownsRow w.heap.size 87 2 out acc.length (flatP acc) ∧ Grows cs ls acc ∧ acc = seqR cs ((calledS ls).foldl addP []) i) ∧ Below w.heap.size w wr) (fun _ iv _ => (univ cs ls).length - (intOf iv).toNat)
      case atStart => exact ⟨0, _, rfl, by omega, (Grows.start cs ls).len, ⟨HO0.out, Grows.start cs ls, rfl⟩, hbr⟩
      case round =>
        clear hlt hlt' HO0 hbr hsz hk
        obtain ⟨i, acc, rfl, hia, hau, HI, hbr⟩ := hrel
        have hUn := HU.out
        have hsz := hbr.size
        obtain ⟨ao, co, ho⟩ := (predsAt_of_owns87 HI.out.1 (by unfold maxLen; omega)).form
        by_cases hlt : i < acc.length
        · have hlt' : (i : Int) < (acc.length : Int) := by omega
          have hi0 : (0 : Int) ≤ (i : Int) := by omega
          obtain ⟨pb, po, pc, hpv, q0, q1⟩ := preds_at (predsAt_of_owns87 HI.out.1 (by unfold maxLen; omega)) i hlt
          have HAi : Hid (acc[i]? = some acc[i]) := List.getElem?_eq_getElem hlt
          have H19 : Hid (∀ W, Below wr.heap.size wr W → Calls Tryz.prog 19 #[.slice ad cs.length cap, .string acc[i].1, .int .i64 acc[i].2] W fun e w' => ∃ u, e = .returned u ∧ w'.ownsInts W.heap.size 3 .i64 u (idxG cs acc[i] cs.length) ∧ Below W.heap.size W w') := fun W hW => z19 cs acc[i] _ W ((HP.out.below hbr).below hW) hcl
          have HZl : Hid ((idxG cs acc[i] cs.length).length ≤ cs.length) := idxG_le _ _ _
          rw [hpv] at ho
          simp only [Value.slice.injEq] at ho
          obtain ⟨rfl, _, rfl⟩ := ho
          subst hpv
          generalize hxi : acc[i] = x at *
          obtain ⟨zs, hzs⟩ : ∃ zs, idxG cs x cs.length = zs := ⟨_, rfl⟩
          rw [hzs] at H19 HZl
          have HZs : Hid (zs = idxG cs x cs.length) := hzs.symm
          clear hzs hxi
          have hzl := HZl.out
          go_wp2_with fail
          go_region_with (go_at_call 19; refine (H19.out _ (Below.drew (Below.refl _ _))).mono ?_; rintro e w9 ⟨u9, rfl, hI9, hb9⟩; obtain ⟨a9, c9, hu9⟩ := ints_form hI9; subst hu9)
          all_goals (
            have hb9' : Below wr.heap.size wr w9 := (Below.drew (Below.refl _ _)).trans hb9
            have HI9 : Hid (w9.ownsInts w.heap.size 3 .i64 (.slice a9 zs.length c9) zs) := ints_base hI9 (by have := hbr.size; simpa using this)
            have HO9 : Hid (w9.ownsRow w.heap.size 87 2 (.slice (some ⟨pb, po, none⟩) acc.length pc) acc.length (flatP acc)) := owns_below HI.out.1 hb9'
            have hbw9 : Below w.heap.size w w9 := hbr.trans (hb9'.mono hsz)
            clear hI9 hb9 hb9' q0 q1
            go_wp2_with fail
            go_loopw [5, 11] (fun out kw wr => ∃ (j : Nat) (acc2 : List Pd), kw = .int .i64 j ∧ j ≤ zs.length ∧ i < acc2.length ∧ acc2.length ≤ (univ cs ls).length ∧ Hid (wr.ownsRow w.heap.size 87 2 out acc2.length (flatP acc2) ∧ Grows cs ls acc2 ∧ acc2 = (zs.take j).foldl (stepZ cs) (seqR cs ((calledS ls).foldl addP []) i) ∧ acc2[i]? = some x ∧ wr.ownsInts w.heap.size 3 .i64 (.slice a9 zs.length c9) zs) ∧ Below w.heap.size w wr) (fun _ kw _ => zs.length - (intOf kw).toNat)
            case atStart => exact ⟨0, acc, rfl, by omega, hlt, hau, ⟨HO9.out, HI.out.2.1, HI.out.2.2, HAi.out, HI9.out⟩, hbw9⟩
            case round =>
              clear hbw9 HO9 HI9 hbr hsz
              obtain ⟨j, acc2, rfl, hj, hi2, hau2, HI2, hbr⟩ := hrel
              have hsz := hbr.size
              obtain ⟨ao, co, ho⟩ := (predsAt_of_owns87 HI2.out.1 (by unfold maxLen; omega)).form
              subst ho
              by_cases hjt : j < zs.length
              · have hjt' : (j : Int) < (zs.length : Int) := by omega
                have hj0 : (0 : Int) ≤ (j : Int) := by omega
                obtain ⟨zb, zc, hzv, cz, _⟩ := ints_at (⟨_, HI2.out.2.2.2.2⟩ : IntsAt wr (.slice a9 zs.length c9) zs) j hjt
                simp only [Value.slice.injEq] at hzv
                obtain ⟨rfl, _, rfl⟩ := hzv
                obtain ⟨n, c, hn, hzn, hcn, hck⟩ := idxG_mem cs x zs[j] cs.length (by rw [← HZs.out]; exact List.getElem_mem hjt)
                have hcm : c ∈ cs := List.mem_of_getElem? hcn
                have hcc : cs[n] = c := by rw [List.getElem?_eq_getElem hn] at hcn; exact Option.some.inj hcn
                obtain ⟨qb, qo, qc, xx, hpv', ⟨p0, p1, p2, p3⟩, hC, hbw⟩ := prog_at (HP.out.below hbr) n hn
                simp only [Value.slice.injEq] at hpv'
                obtain ⟨rfl, _, rfl⟩ := hpv'
                have H45 := z45 c xx wr (hcc ▸ hC) (HBl.out c hcm)
                have hn' : (n : Int) < (cs.length : Int) := by omega
                have hn0 : (0 : Int) ≤ (n : Int) := by omega
                have HNew : Hid (Grows cs ls ((calledS c.bs).foldl addP acc2) ∧ (calledS c.bs).foldl addP acc2 = (zs.take (j + 1)).foldl (stepZ cs) (seqR cs ((calledS ls).foldl addP []) i) ∧ ((calledS c.bs).foldl addP acc2)[i]? = some x) := by
                  obtain ⟨h1, h2, h3, h4, _⟩ := HI2.out
                  refine ⟨h2.add (List.mem_of_getElem? h4) hcn hck, ?_, ((foldP_prefix _ _).2 i hi2).trans h4⟩
                  rw [steps_snoc cs zs _ j hjt, ← h3, stepZ_at (c := c) (by rw [hzn]; simpa using hcn)]
                have HBd : Hid (acc2.length + (calledS c.bs).length ≤ 2000000000 ∧ i < ((calledS c.bs).foldl addP acc2).length) := by
                  have e1 := called_univ (ls := ls) hcm
                  have e2 := HU.out
                  have e3 := (foldP_prefix (calledS c.bs) acc2).1
                  exact ⟨by omega, by omega⟩
                rw [hzn] at cz
                clear hzn hcc hck hcm hcn hC
                generalize calledS c.bs = ds at *
                have hdl : ds.length ≤ 2000000000 := by have := HBd.out.1; omega
                go_wp2_with fail
                refine H45.mono ?_
                rintro e w5 ⟨uc, rfl, hO5, hb5⟩
                obtain ⟨ac, cc, hcf⟩ := owns_form hO5
                subst hcf
                have HS5 : Hid (w5.ownsRow w.heap.size 87 2 (.slice ao acc2.length co) ((ds.take 0).foldl addP acc2).length (flatP ((ds.take 0).foldl addP acc2)) ∧ w5.ownsRow w.heap.size 87 2 (.slice ac ds.length cc) ds.length (flatP ds) ∧ (∀ g, (Value.slice ac ds.length cc).ownBlock = some g → (Value.slice ao acc2.length co).ownBlock ≠ some g) ∧ w5.ownsInts w.heap.size 3 .i64 (.slice (some ⟨zb, 0, none⟩) zs.length c9) zs) := by
                  refine ⟨owns_below HI2.out.1 hb5, owns_base hO5 hsz, fun g h1 h2 => ?_, ⟨owns_below HI2.out.2.2.2.2.1 hb5, HI2.out.2.2.2.2.2⟩⟩
                  have e1 := (hO5.lt g h1).1
                  have e2 := (HI2.out.1.lt g h2).2
                  omega
                have hbw5 : Below w.heap.size w w5 := hbr.trans (hb5.mono hsz)
                clear hO5 hb5 H45 cz p0 p1 p2 p3
                go_wp2_with fail
                go_loopw [5, 13] (fun out mw wr => ∃ m : Nat, mw = .int .i64 m ∧ m ≤ ds.length ∧ Hid (wr.ownsRow w.heap.size 87 2 out ((ds.take m).foldl addP acc2).length (flatP ((ds.take m).foldl addP acc2)) ∧ wr.ownsRow w.heap.size 87 2 (.slice ac ds.length cc) ds.length (flatP ds) ∧ (∀ g, (Value.slice ac ds.length cc).ownBlock = some g → out.ownBlock ≠ some g) ∧ wr.ownsInts w.heap.size 3 .i64 (.slice (some ⟨zb, 0, none⟩) zs.length c9) zs) ∧ Below w.heap.size w wr) (fun _ mw _ => ds.length - (intOf mw).toNat)
                case atStart => exact ⟨0, rfl, by omega, HS5.out, hbw5⟩
                case round =>
                  clear hbw5 HS5 hbr hsz
                  obtain ⟨m, rfl, hm, HM, hbr⟩ := hrel
                  have hsz := hbr.size
                  by_cases hmt : m < ds.length
                  · have hmt' : (m : Int) < (ds.length : Int) := by omega
                    have hm0 : (0 : Int) ≤ (m : Int) := by omega
                    obtain ⟨db, dof, dc, hdv, d0, d1⟩ := preds_at (predsAt_of_owns87 HM.out.2.1 (by unfold maxLen; omega)) m hmt
                    simp only [Value.slice.injEq] at hdv
                    obtain ⟨rfl, _, rfl⟩ := hdv
                    have hal : ((ds.take m).foldl addP acc2).length ≤ 5864062014800 := by
                      have e1 := foldP_len (ds.take m) acc2
                      have e2 := HBd.out.1
                      rw [List.length_take] at e1
                      omega
                    have H42 := z42 ((ds.take m).foldl addP acc2) ds[m] w.heap.size u5 wr HM.out.1 hal hsz
                    have HE : Hid ((ds.take (m + 1)).foldl addP acc2 = addP ((ds.take m).foldl addP acc2) ds[m]) := by
                      show (ds.take (m + 1)).foldl addP acc2 = _
                      rw [List.take_succ_eq_append_getElem hmt, List.foldl_append]; rfl
                    generalize ds[m] = y at *
                    generalize (ds.take m).foldl addP acc2 = am at *
                    go_wp2_with fail
                    refine H42.mono ?_
                    rintro e w6 ⟨v6, rfl, hO6, hb6, hg6⟩
                    have HF : Hid (w6.ownsRow w.heap.size 87 2 v6 ((ds.take (m + 1)).foldl addP acc2).length (flatP ((ds.take (m + 1)).foldl addP acc2)) ∧ w6.ownsRow w.heap.size 87 2 (.slice (some ⟨db, dof, none⟩) ds.length cc) ds.length (flatP ds) ∧ (∀ g, (Value.slice (some ⟨db, dof, none⟩) ds.length cc).ownBlock = some g → v6.ownBlock ≠ some g) ∧ w6.ownsInts w.heap.size 3 .i64 (.slice (some ⟨zb, 0, none⟩) zs.length c9) zs) := by
                      obtain ⟨h1, h2, h3, h4⟩ := HM.out
                      refine ⟨by rw [HE.out]; exact hO6, owns_eq h2 fun g hg => hg6.1 g (h2.lt g hg).2 (h3 g hg), fun g hg hv => ?_, ints_grown h4 h1 hg6⟩
                      rcases hg6.2 g hv with e | e
                      · exact h3 g hg e
                      · have := (h2.lt g hg).2
                        omega
                    clear hO6 hg6 H42
                    go_wp2_with fail
                    go_roundw
                    case rel => exact ⟨m + 1, by go_num, by omega, HF, hbr.trans hb6⟩
                    case measure => simp [intOf]; omega
                  · have hmt' : ¬ ((m : Int) < (ds.length : Int)) := by omega
                    have hmd : m = ds.length := by omega
                    have HF : Hid (wr.ownsRow w.heap.size 87 2 u5 (ds.foldl addP acc2).length (flatP (ds.foldl addP acc2)) ∧ wr.ownsInts w.heap.size 3 .i64 (.slice (some ⟨zb, 0, none⟩) zs.length c9) zs) := by
                      obtain ⟨h1, h2, h3, h4⟩ := HM.out
                      rw [hmd, List.take_length] at h1
                      exact ⟨h1, h4⟩
                    go_wp2_with fail
                    go_roundw
                    case rel => exact ⟨j + 1, ds.foldl addP acc2, by go_num, by omega, HBd.out.2, HNew.out.1.len, ⟨HF.out.1, HNew.out.1, HNew.out.2.1, HNew.out.2.2, HF.out.2⟩, hbr⟩
                    case measure => simp [intOf]; omega
              · have hjt' : ¬ ((j : Int) < (zs.length : Int)) := by omega
                have hjz : j = zs.length := by omega
                have HN : Hid (wr.ownsRow w.heap.size 87 2 (.slice ao acc2.length co) acc2.length (flatP acc2) ∧ Grows cs ls acc2 ∧ acc2 = seqR cs ((calledS ls).foldl addP []) (i + 1)) := by
                  obtain ⟨h1, h2, h3, h4, _⟩ := HI2.out
                  refine ⟨h1, h2, ?_⟩
                  rw [hjz, List.take_length, HZs.out] at h3
                  rw [h3, seqR_next (x := x) (by rw [← HI.out.2.2]; exact HAi.out)]; rfl
                go_wp2_with fail
                go_roundw
                case rel => exact ⟨i + 1, acc2, by go_num, by omega, hau2, HN, hbr⟩
                case measure => simp [intOf]; omega)
        · have hlt' : ¬ ((i : Int) < (acc.length : Int)) := by omega
          have hil : i = acc.length := by omega
          have HN : Hid (wr.ownsRow w.heap.size 87 2 u5 acc.length (flatP acc) ∧ acc = seqR cs ((calledS ls).foldl addP []) acc.length) := ⟨HI.out.1, by have := HI.out.2.2; rwa [hil] at this⟩
          subst ho
          clear HI
          go_wp2_with fail
          go_ret
          exact ⟨_, rfl, acc, HN.out.1, HN.out.2, by omega, hbr⟩
end Go.Proofs.YtlfccjlifjppdaaGreatDoor
namespace Go.Proofs.YtlfccjlifjppdaaGreatDoor
open Go.RowKit
theorem mkI_wf {j : Nat} (h : j ≤ 1000000000) : (Lit.int .i64 (mkI j)).wf = true := WalkArith.wf_i64 (by unfold mkI; omega)
abbrev nilV : Value := .slice none 0 0
abbrev BookAt (w : World) (b : Nat) (iv : Value) : Prop := w.heap[b]? = some (.cells #[nilV, nilV, iv, nilV, nilV] 56 (0, 0))
/-- The rows up to i are written over, of row i the first k numbers. -/
structure P1 (w : World) (B b : Nat) (iv : Value) (vs : List Value) (ns : List Nat) (i k : Nat) : Prop where
  book : BookAt w b iv
  hb : B ≤ b
  row : w.ownsRow B 36 1 iv ns.length vs
  done : ∀ (j : Nat) (v : Value) (n : Nat), j < i → vs[j]? = some v → ns[j]? = some n → w.ownsInts B 3 .i64 v (List.replicate n (mkI j))
  mid : ∀ (v : Value) (n : Nat), vs[i]? = some v → ns[i]? = some n → ∃ ys : List Int, k + ys.length = n ∧ w.ownsInts B 3 .i64 v (List.replicate k (mkI i) ++ ys)
  rest : ∀ (j : Nat) (v : Value) (n : Nat), i < j → vs[j]? = some v → ns[j]? = some n → ∃ zs : List Int, zs.length = n ∧ w.ownsInts B 3 .i64 v zs
  apart : ∀ (j j' : Nat) (v v' : Value) (g : Nat), j ≠ j' → vs[j]? = some v → vs[j']? = some v' → v.ownBlock = some g → v'.ownBlock ≠ some g
theorem book_apart {w : World} {b base : Nat} {iv v : Value} {zs : List Int} (hb : BookAt w b iv) (h : w.ownsInts base 3 .i64 v zs) (g : Nat) (hg : v.ownBlock = some g) : g ≠ b := by
  rintro rfl
  rcases h.1.2 with ⟨h1, _⟩ | ⟨g', c, cur, h1, _, h3, _⟩
  · rw [h1] at hg; cases hg
  · rw [h1] at hg
    simp only [Value.ownBlock, Option.some.injEq] at hg
    subst hg
    rw [hb] at h3
    simp only [Option.some.injEq, Obj.cells.injEq] at h3
    exact absurd h3.2.1 (by decide)
theorem book_apart36 {w : World} {b base n : Nat} {iv v : Value} {xs : List Value} (hb : BookAt w b iv) (h : w.ownsRow base 36 1 v n xs) (g : Nat) (hg : v.ownBlock = some g) : g ≠ b := by
  rintro rfl
  rcases h.2 with ⟨h1, _⟩ | ⟨g', c, cur, h1, _, h3, _⟩
  · rw [h1] at hg; cases hg
  · rw [h1] at hg
    simp only [Value.ownBlock, Option.some.injEq] at hg
    subst hg
    rw [hb] at h3
    simp only [Option.some.injEq, Obj.cells.injEq] at h3
    exact absurd h3.2.1 (by decide)
theorem P1.at {w : World} {B b : Nat} {iv : Value} {vs : List Value} {ns : List Nat} {i k : Nat} (h : P1 w B b iv vs ns i k) (j : Nat) (hj : j < ns.length) : ∃ g cap v, iv = .slice (some ⟨g, 0, none⟩) ns.length cap ∧ vs[j]? = some v ∧ w.cell? ⟨g, j, none⟩ = some v := by
  have hl : vs.length = ns.length := by have := h.row.1; omega
  rcases h.row.2 with ⟨_, h2⟩ | ⟨g, c, cur, h1, h2, h3, h4, h5, h6, h7⟩
  · omega
  · have hv : j < vs.length := by omega
    refine ⟨g, c, vs[j], h1, List.getElem?_eq_getElem hv, ?_⟩
    rw [cell_of_row w g j cur 36 (0, 0) h3]
    have : (cur.toList.take (ns.length * 1))[j]? = some vs[j] := by rw [h7]; exact List.getElem?_eq_getElem hv
    rw [List.getElem?_take_of_lt (by omega)] at this
    simpa using this
theorem P1.write {w : World} {B b : Nat} {iv : Value} {vs : List Value} {ns : List Nat} {i k n : Nat} {v : Value} (h : P1 w B b iv vs ns i k) (hv : vs[i]? = some v) (hn : ns[i]? = some n) (hk : k < n) (hi : i ≤ 1000000000) :
    ∃ g cap y, v = .slice (some ⟨g, 0, none⟩) n cap ∧ B ≤ g ∧ w.cell? ⟨g, k, none⟩ = some (.int .i64 y) ∧ w.frozen? ⟨g, k, none⟩ = false ∧ P1 (w.setCell ⟨g, k, none⟩ (.int .i64 (mkI i))) B b iv vs ns i (k + 1) := by
  obtain ⟨ys, h1, h2⟩ := h.mid v n hv hn
  match ys, h1, h2 with
  | [], h1, _ => simp at h1; omega
  | y :: ys, h1, h2 =>
    obtain ⟨g, cap, e1, e2, e3, e4, e5, e6⟩ := ints_write h2 (mkI_wf hi)
    simp only [List.length_cons] at h1
    rw [h1] at e1
    have hvg : v.ownBlock = some g := by rw [e1]; rfl
    have hoth : ∀ {base e s m : Nat} {r : Value} {xs : List Value}, w.ownsRow base e s r m xs → r.ownBlock ≠ some g → (w.setCell ⟨g, k, none⟩ (.int .i64 (mkI i))).ownsRow base e s r m xs := fun ho hne =>
      owns_eq ho fun g' hg' => heap_setCell_other w ⟨g, k, none⟩ g' _ (fun e => hne (by rw [hg']; exact congrArg some e))
    refine ⟨g, cap, y, e1, e2, e4, e5, ?_⟩
    refine ⟨?_, h.hb, ?_, ?_, ?_, ?_, h.apart⟩
    · exact (heap_setCell_other w ⟨g, k, none⟩ b _ (fun e => book_apart h.book h2 g hvg e.symm)).trans h.book
    · exact hoth h.row (types_apart h2.1 h.row (by decide) g hvg)
    · intro j v' n' hj hv' hn'
      have h5 := h.done j v' n' hj hv' hn'
      exact ⟨hoth h5.1 (h.apart i j v v' g (by omega) hv hv' hvg), h5.2⟩
    · intro v' n' hv' hn'
      rw [hv] at hv'; cases hv'
      rw [hn] at hn'; cases hn'
      exact ⟨ys, by omega, e6⟩
    · intro j v' n' hj hv' hn'
      obtain ⟨zs, h5, h6⟩ := h.rest j v' n' hj hv' hn'
      exact ⟨zs, h5, hoth h6.1 (h.apart i j v v' g (by omega) hv hv' hvg), h6.2⟩
theorem P1.next {w : World} {B b : Nat} {iv : Value} {vs : List Value} {ns : List Nat} {i n : Nat} (h : P1 w B b iv vs ns i n) (hn : ns[i]? = some n) : P1 w B b iv vs ns (i + 1) 0 := by
  refine ⟨h.book, h.hb, h.row, ?_, ?_, ?_, h.apart⟩
  · intro j v m hj hv hm
    by_cases e : j = i
    · subst e
      rw [hn] at hm; cases hm
      obtain ⟨ys, h1, h2⟩ := h.mid v n hv hn
      have : ys = [] := List.eq_nil_of_length_eq_zero (by omega)
      subst this
      simpa using h2
    · exact h.done j v m (by omega) hv hm
  · intro v m hv hm
    obtain ⟨zs, h1, h2⟩ := h.rest (i + 1) v m (by omega) hv hm
    exact ⟨zs, by omega, by simpa using h2⟩
  · intro j v m hj hv hm
    exact h.rest j v m (by omega) hv hm
/-- The rows up to i are grown. -/
structure P2 (w0 w : World) (B b : Nat) (iv allv : Value) (vs us : List Value) (ns : List Nat) (i : Nat) : Prop where
  book : BookAt w b iv
  hb : B ≤ b
  row : w.ownsRow B 36 1 iv ns.length vs
  size : w0.heap.size ≤ w.heap.size
  all : w.ownsRow w0.heap.size 36 1 allv i us
  grown : ∀ (j : Nat) (u : Value) (n : Nat), us[j]? = some u → ns[j]? = some n → w.ownsInts B 3 .i64 u (List.replicate (n + 20) (mkI j))
  upart : ∀ (j j' : Nat) (u u' : Value) (g : Nat), j ≠ j' → us[j]? = some u → us[j']? = some u' → u.ownBlock = some g → u'.ownBlock ≠ some g
  loc : ∀ (j : Nat) (u v : Value) (g : Nat), us[j]? = some u → vs[j]? = some v → u.ownBlock = some g → v.ownBlock = some g ∨ w0.heap.size ≤ g
  read : ∀ (j : Nat) (v : Value) (n : Nat), j < i → vs[j]? = some v → ns[j]? = some n → RdI w v n (mkI j)
  rest : ∀ (j : Nat) (v : Value) (n : Nat), i ≤ j → vs[j]? = some v → ns[j]? = some n → w.ownsInts B 3 .i64 v (List.replicate n (mkI j))
  apart : ∀ (j j' : Nat) (v v' : Value) (g : Nat), j ≠ j' → vs[j]? = some v → vs[j']? = some v' → v.ownBlock = some g → v'.ownBlock ≠ some g
  low : ∀ (j : Nat) (v : Value) (g : Nat), vs[j]? = some v → v.ownBlock = some g → g < w0.heap.size
  ilow : ∀ g, iv.ownBlock = some g → g < w0.heap.size
/-- .. and row i by k places: gv. -/
structure P3 (w0 w : World) (B b : Nat) (iv allv gv v : Value) (vs us : List Value) (ns : List Nat) (i n k : Nat) : Prop where
  book : BookAt w b iv
  hb : B ≤ b
  row : w.ownsRow B 36 1 iv ns.length vs
  size : w0.heap.size ≤ w.heap.size
  all : w.ownsRow w0.heap.size 36 1 allv i us
  grown : ∀ (j : Nat) (u : Value) (n : Nat), us[j]? = some u → ns[j]? = some n → w.ownsInts B 3 .i64 u (List.replicate (n + 20) (mkI j))
  upart : ∀ (j j' : Nat) (u u' : Value) (g : Nat), j ≠ j' → us[j]? = some u → us[j']? = some u' → u.ownBlock = some g → u'.ownBlock ≠ some g
  loc : ∀ (j : Nat) (u v : Value) (g : Nat), us[j]? = some u → vs[j]? = some v → u.ownBlock = some g → v.ownBlock = some g ∨ w0.heap.size ≤ g
  read : ∀ (j : Nat) (v : Value) (n : Nat), j < i → vs[j]? = some v → ns[j]? = some n → RdI w v n (mkI j)
  rest : ∀ (j : Nat) (v : Value) (n : Nat), i < j → vs[j]? = some v → ns[j]? = some n → w.ownsInts B 3 .i64 v (List.replicate n (mkI j))
  apart : ∀ (j j' : Nat) (v v' : Value) (g : Nat), j ≠ j' → vs[j]? = some v → vs[j']? = some v' → v.ownBlock = some g → v'.ownBlock ≠ some g
  low : ∀ (j : Nat) (v : Value) (g : Nat), vs[j]? = some v → v.ownBlock = some g → g < w0.heap.size
  ilow : ∀ g, iv.ownBlock = some g → g < w0.heap.size
  hv : vs[i]? = some v
  hn : ns[i]? = some n
  own : w.ownsInts B 3 .i64 gv (List.replicate (n + k) (mkI i))
  gloc : ∀ g, gv.ownBlock = some g → v.ownBlock = some g ∨ w0.heap.size ≤ g
  gpart : ∀ (j : Nat) (u : Value) (g : Nat), us[j]? = some u → gv.ownBlock = some g → u.ownBlock ≠ some g
  mid : RdI w v n (mkI i)
theorem P1.to2 {w : World} {B b : Nat} {iv : Value} {vs : List Value} {ns : List Nat} (h : P1 w B b iv vs ns ns.length 0) : P2 w w B b iv nilV vs [] ns 0 := by
  have hl : vs.length = ns.length := by have := h.row.1; omega
  have hall : ∀ (j : Nat) (v : Value) (n : Nat), vs[j]? = some v → ns[j]? = some n → w.ownsInts B 3 .i64 v (List.replicate n (mkI j)) := fun j v n hv hn => h.done j v n (List.getElem?_eq_some_iff.1 hn).1 hv hn
  refine ⟨h.book, h.hb, h.row, Nat.le_refl _, World.ownsRow_nil _ _ _ _, by simp, by simp, by simp, fun j v n hj => by omega, fun j v n _ hv hn => hall j v n hv hn, h.apart, ?_, fun g hg => (h.row.lt g hg).2⟩
  intro j v g hv hg
  have hj : j < ns.length := by rw [← hl]; exact (List.getElem?_eq_some_iff.1 hv).1
  exact ((hall j v _ hv (List.getElem?_eq_getElem hj)).1.lt g hg).2
theorem P2.start {w0 w : World} {B b : Nat} {iv allv : Value} {vs us : List Value} {ns : List Nat} {i n : Nat} {v : Value} (h : P2 w0 w B b iv allv vs us ns i) (hv : vs[i]? = some v) (hn : ns[i]? = some n) : P3 w0 w B b iv allv v v vs us ns i n 0 := by
  have hu : us.length = i := by have := h.all.1; omega
  refine ⟨h.book, h.hb, h.row, h.size, h.all, h.grown, h.upart, h.loc, h.read, fun j v n hj => h.rest j v n (by omega), h.apart, h.low, h.ilow, hv, hn, h.rest i v n (Nat.le_refl _) hv hn, fun g hg => .inl hg, ?_, ?_⟩
  · intro j u g hu' hg hug
    have hj : j < i := by rw [← hu]; exact (List.getElem?_eq_some_iff.1 hu').1
    have hl : vs.length = ns.length := by have := h.row.1; omega
    have hi : i < vs.length := (List.getElem?_eq_some_iff.1 hv).1
    have hvj : vs[j]? = some vs[j] := List.getElem?_eq_getElem (by omega)
    rcases h.loc j u vs[j] g hu' hvj hug with e | e
    · exact h.apart i j v vs[j] g (by omega) hv hvj hg e
    · have := h.low i v g hv hg
      omega
  · have ho := h.rest i v n (Nat.le_refl _) hv hn
    obtain ⟨ad, cap, e⟩ := ints_form ho
    rw [List.length_replicate] at e
    refine rd_of ho (Nat.le_refl _) ad cap e ?_
    rcases ho.1.2 with ⟨h1, h2⟩ | ⟨g, c, cur, h1, _⟩
    · left; simpa using h2
    · right
      rw [h1] at e
      simp only [Value.slice.injEq] at e
      exact ⟨g, e.1.symm, by rw [h1]; rfl⟩
/-- All blocks stay. -/
theorem P3.eq {w0 w w' : World} {B b : Nat} {iv allv gv v : Value} {vs us : List Value} {ns : List Nat} {i n k : Nat} (h : P3 w0 w B b iv allv gv v vs us ns i n k) (hb : Below w.heap.size w w') : P3 w0 w' B b iv allv gv v vs us ns i n k := by
  have ho : ∀ {base e s m : Nat} {r : Value} {xs : List Value}, w.ownsRow base e s r m xs → w'.ownsRow base e s r m xs := fun ho => owns_eq ho fun g hg => hb.block g (ho.lt g hg).2
  have hi : ∀ {base : Nat} {r : Value} {zs : List Int}, w.ownsInts base 3 .i64 r zs → w'.ownsInts base 3 .i64 r zs := fun h => ⟨ho h.1, h.2⟩
  have hr : ∀ {r : Value} {m : Nat} {x : Int}, RdI w r m x → RdI w' r m x := fun {r m x} h => by
    obtain ⟨ad, cap, rfl, h | ⟨g, rfl, h1, h2⟩⟩ := h
    · exact ⟨ad, cap, rfl, .inl h⟩
    · exact RdI.eq ⟨_, cap, rfl, .inr ⟨g, rfl, h1, h2⟩⟩ hb.size (fun g' hg' => by cases hg'; exact hb.block g h1)
  exact ⟨(hb.block b (Array.getElem?_eq_some_iff.1 h.book).1).trans h.book, h.hb, ho h.row, Nat.le_trans h.size hb.size, ho h.all, fun j u n h1 h2 => hi (h.grown j u n h1 h2), h.upart, h.loc, fun j v n h1 h2 h3 => hr (h.read j v n h1 h2 h3), fun j v n h1 h2 h3 => hi (h.rest j v n h1 h2 h3), h.apart, h.low, h.ilow, h.hv, h.hn, hi h.own, h.gloc, h.gpart, hr h.mid⟩
theorem P2.eq {w0 w w' : World} {B b : Nat} {iv allv : Value} {vs us : List Value} {ns : List Nat} {i : Nat} (h : P2 w0 w B b iv allv vs us ns i) (hb : Below w.heap.size w w') : P2 w0 w' B b iv allv vs us ns i := by
  have ho : ∀ {base e s m : Nat} {r : Value} {xs : List Value}, w.ownsRow base e s r m xs → w'.ownsRow base e s r m xs := fun ho => owns_eq ho fun g hg => hb.block g (ho.lt g hg).2
  have hi : ∀ {base : Nat} {r : Value} {zs : List Int}, w.ownsInts base 3 .i64 r zs → w'.ownsInts base 3 .i64 r zs := fun h => ⟨ho h.1, h.2⟩
  have hr : ∀ {r : Value} {m : Nat} {x : Int}, RdI w r m x → RdI w' r m x := fun {r m x} h => by
    obtain ⟨ad, cap, rfl, h | ⟨g, rfl, h1, h2⟩⟩ := h
    · exact ⟨ad, cap, rfl, .inl h⟩
    · exact RdI.eq ⟨_, cap, rfl, .inr ⟨g, rfl, h1, h2⟩⟩ hb.size (fun g' hg' => by cases hg'; exact hb.block g h1)
  exact ⟨(hb.block b (Array.getElem?_eq_some_iff.1 h.book).1).trans h.book, h.hb, ho h.row, Nat.le_trans h.size hb.size, ho h.all, fun j u n h1 h2 => hi (h.grown j u n h1 h2), h.upart, h.loc, fun j v n h1 h2 h3 => hr (h.read j v n h1 h2 h3), fun j v n h1 h2 h3 => hi (h.rest j v n h1 h2 h3), h.apart, h.low, h.ilow⟩
/-- One number more. -/
theorem P3.step {w0 w w' : World} {B b : Nat} {iv allv gv gv' v : Value} {vs us : List Value} {ns : List Nat} {i n k : Nat} (h : P3 w0 w B b iv allv gv v vs us ns i n k) (hown : w'.ownsInts B 3 .i64 gv' (List.replicate (n + (k + 1)) (mkI i))) (hgr : w.grownBy w' gv.ownBlock) (hloc : gv'.ownBlock = gv.ownBlock ∨ (gv'.ownBlock = some w.heap.size ∧ w.grownBy w' none)) : P3 w0 w' B b iv allv gv' v vs us ns i n (k + 1) := by
  have hblk : ∀ g, g < w.heap.size → gv.ownBlock ≠ some g → w'.heap[g]? = w.heap[g]? := fun g h1 h2 => hgr.block g h1 (fun e => h2 e.symm)
  have ho : ∀ {base e s m : Nat} {r : Value} {xs : List Value}, w.ownsRow base e s r m xs → (∀ g, gv.ownBlock = some g → r.ownBlock ≠ some g) → w'.ownsRow base e s r m xs := fun {base e s m r xs} ho hne => owns_eq ho fun g hg => hblk g (ho.lt g hg).2 (fun e => hne g e hg)
  have hvj : ∀ (j : Nat) (x : Value), j ≠ i → vs[j]? = some x → ∀ g, gv.ownBlock = some g → x.ownBlock ≠ some g := by
    intro j x hj hx g hg hxg
    rcases h.gloc g hg with e | e
    · exact h.apart i j v x g (fun e => hj e.symm) h.hv hx e hxg
    · have := h.low j x g hx hxg
      omega
  refine ⟨?_, h.hb, ?_, Nat.le_trans h.size hgr.size, ?_, ?_, h.upart, h.loc, ?_, ?_, h.apart, h.low, h.ilow, h.hv, h.hn, hown, ?_, ?_, ?_⟩
  · exact (hblk b (Array.getElem?_eq_some_iff.1 h.book).1 (fun e => book_apart h.book h.own b e rfl)).trans h.book
  · exact ho h.row (fun g hg => types_apart h.own.1 h.row (by decide) g hg)
  · exact ho h.all (fun g hg => types_apart h.own.1 h.all (by decide) g hg)
  · intro j u m hu hm
    have h5 := h.grown j u m hu hm
    exact ⟨ho h5.1 (fun g hg => h.gpart j u g hu hg), h5.2⟩
  · intro j x m hj hx hm
    refine (h.read j x m hj hx hm).eq hgr.size fun g hg => ?_
    have hlt := h.low j x g hx hg
    exact hblk g (Nat.lt_of_lt_of_le hlt h.size) (fun e => hvj j x (by omega) hx g e hg)
  · intro j x m hj hx hm
    have h5 := h.rest j x m hj hx hm
    exact ⟨ho h5.1 (fun g hg => hvj j x (by omega) hx g hg), h5.2⟩
  · intro g hg
    rcases hloc with e | ⟨e, _⟩
    · exact h.gloc g (by rw [← e]; exact hg)
    · rw [e] at hg
      cases hg
      exact .inr h.size
  · intro j u g hu hg
    rcases hloc with e | ⟨e, _⟩
    · exact h.gpart j u g hu (by rw [← e]; exact hg)
    · rw [e] at hg
      cases hg
      intro hug
      have hj : j < ns.length := by
        have h1 := h.all.1
        have h2 := (List.getElem?_eq_some_iff.1 hu).1
        have h3 := (List.getElem?_eq_some_iff.1 h.hn).1
        omega
      have := ((h.grown j u _ hu (List.getElem?_eq_getElem hj)).1.lt _ hug).2
      omega
  · obtain ⟨ad, cap, hvf, hm⟩ := h.mid
    rcases hm with hm | ⟨g, e1, e2, e3⟩
    · exact ⟨ad, cap, hvf, .inl hm⟩
    · have hvg : v.ownBlock = some g := by rw [hvf, e1]; rfl
      have hsame : w'.heap[g]? = w.heap[g]? → RdI w' v n (mkI i) := fun hh =>
        RdI.eq ⟨ad, cap, hvf, .inr ⟨g, e1, e2, e3⟩⟩ hgr.size (fun g' hg' => by rw [hvg] at hg'; cases hg'; exact hh)
      by_cases hg : gv.ownBlock = some g
      · rcases hloc with e | ⟨_, hn⟩
        · exact rd_of hown (by omega) ad cap hvf (.inr ⟨g, e1, by rw [e]; exact hg⟩)
        · exact hsame (hn.block g e2 (by simp))
      · exact hsame (hblk g e2 hg)
/-- The row is put behind the others. -/
theorem P3.put {w0 w w' : World} {B b : Nat} {iv allv allv' gv v : Value} {vs us : List Value} {ns : List Nat} {i n : Nat} (h : P3 w0 w B b iv allv gv v vs us ns i n 20) (hown : w'.ownsRow w0.heap.size 36 1 allv' (i + 1) (us ++ [gv])) (hgr : w.grownBy w' allv.ownBlock) : P2 w0 w' B b iv allv' vs (us ++ [gv]) ns (i + 1) := by
  have hul : us.length = i := by have := h.all.1; omega
  have hblk : ∀ g, g < w.heap.size → allv.ownBlock ≠ some g → w'.heap[g]? = w.heap[g]? := fun g h1 h2 => hgr.block g h1 (fun e => h2 e.symm)
  have hi : ∀ {r : Value} {zs : List Int}, w.ownsInts B 3 .i64 r zs → w'.ownsInts B 3 .i64 r zs := fun {r zs} hh => ints_eq hh fun g hg => hblk g (hh.1.lt g hg).2 (types_apart hh.1 h.all (by decide) g hg)
  have hlow : ∀ g, g < w0.heap.size → w'.heap[g]? = w.heap[g]? := fun g hg => hblk g (Nat.lt_of_lt_of_le hg h.size) (fun e => by have := (h.all.lt g e).1; omega)
  have hget : ∀ (j : Nat) (u : Value), (us ++ [gv])[j]? = some u → (j < i ∧ us[j]? = some u) ∨ (j = i ∧ u = gv) := by
    intro j u hu
    by_cases hj : j < i
    · rw [List.getElem?_append_left (by omega)] at hu
      exact .inl ⟨hj, hu⟩
    · rw [List.getElem?_append_right (by omega)] at hu
      have h0 : j - us.length = 0 := by
        have := (List.getElem?_eq_some_iff.1 hu).1
        simp at this; omega
      rw [h0] at hu
      simp at hu
      exact .inr ⟨by omega, hu.symm⟩
  refine ⟨?_, h.hb, ?_, Nat.le_trans h.size hgr.size, hown, ?_, ?_, ?_, ?_, ?_, h.apart, h.low, h.ilow⟩
  · exact (hblk b (Array.getElem?_eq_some_iff.1 h.book).1 (fun e => book_apart36 h.book h.all b e rfl)).trans h.book
  · exact owns_eq h.row fun g hg => hlow g (h.ilow g hg)
  · intro j u m hu hm
    rcases hget j u hu with ⟨_, hu⟩ | ⟨rfl, rfl⟩
    · exact hi (h.grown j u m hu hm)
    · rw [h.hn] at hm; cases hm
      exact hi h.own
  · intro j j' u u' g hne hu hu' hg
    rcases hget j u hu with ⟨_, hu1⟩ | ⟨hj, e1⟩
    · rcases hget j' u' hu' with ⟨_, hu2⟩ | ⟨_, e2⟩
      · exact h.upart j j' u u' g hne hu1 hu2 hg
      · rw [e2]
        exact fun e => h.gpart j u g hu1 e hg
    · rcases hget j' u' hu' with ⟨_, hu2⟩ | ⟨hj', _⟩
      · exact h.gpart j' u' g hu2 (by rw [← e1]; exact hg)
      · exact absurd (hj.trans hj'.symm) hne
  · intro j u x g hu hx hg
    rcases hget j u hu with ⟨_, hu⟩ | ⟨rfl, rfl⟩
    · exact h.loc j u x g hu hx hg
    · rw [h.hv] at hx; cases hx
      exact h.gloc g hg
  · intro j x m hj hx hm
    have hr : RdI w x m (mkI j) := by
      by_cases e : j = i
      · subst e
        rw [h.hv] at hx; cases hx
        rw [h.hn] at hm; cases hm
        exact h.mid
      · exact h.read j x m (by omega) hx hm
    exact hr.eq hgr.size fun g hg => hlow g (h.low j x g hx hg)
  · intro j x m hj hx hm
    exact hi (h.rest j x m (by omega) hx hm)
end Go.Proofs.YtlfccjlifjppdaaGreatDoor
namespace Go.Proofs.YtlfccjlifjppdaaGreatDoor
open Go.RowKit
set_option maxRecDepth 100000 in
theorem a47 (b : Nat) (w : World) (h : w.cell? ⟨b, 0, none⟩ = some (.slice none 0 0)) :
    Calls Tryz.prog 47 #[.pointer (some ⟨b, 0, none⟩)] w fun e w' => e = .returned (.bool true) ∧ w' = w := by
  go_enter Tryz.func47, Tryz.ntmps47
  go_wp2_with fail
  refine wp_loop_rounds 1 ?_
  rw [rounds_succ]
  go_wp2_with fail
  refine wp_loop_rounds 1 ?_
  rw [rounds_succ]
  go_wp2_with fail
  refine wp_loop_rounds 1 ?_
  rw [rounds_succ]
  go_wp2_with fail
  go_ret
  exact ⟨rfl, rfl⟩
set_option maxRecDepth 100000 in
theorem a48 (b : Nat) (w : World) (h : w.cell? ⟨b, 1, none⟩ = some (.slice none 0 0)) :
    Calls Tryz.prog 48 #[.pointer (some ⟨b, 0, none⟩)] w fun e w' => e = .returned (.bool true) ∧ w' = w := by
  go_enter Tryz.func48, Tryz.ntmps48
  go_wp2_with fail
  refine wp_loop_rounds 1 ?_
  rw [rounds_succ]
  go_wp2_with fail
  refine wp_loop_rounds 1 ?_
  rw [rounds_succ]
  go_wp2_with fail
  refine wp_loop_rounds 1 ?_
  rw [rounds_succ]
  go_wp2_with fail
  go_ret
  exact ⟨rfl, rfl⟩
set_option maxRecDepth 100000 in
theorem a50 (b : Nat) (w : World) (h : w.cell? ⟨b, 3, none⟩ = some (.slice none 0 0)) :
    Calls Tryz.prog 50 #[.pointer (some ⟨b, 0, none⟩)] w fun e w' => e = .returned (.bool true) ∧ w' = w := by
  go_enter Tryz.func50, Tryz.ntmps50
  go_wp2_with fail
  refine wp_loop_rounds 1 ?_
  rw [rounds_succ]
  go_wp2_with fail
  refine wp_loop_rounds 1 ?_
  rw [rounds_succ]
  go_wp2_with fail
  refine wp_loop_rounds 1 ?_
  rw [rounds_succ]
  go_wp2_with fail
  go_ret
  exact ⟨rfl, rfl⟩
set_option maxRecDepth 100000 in
theorem a51 (b : Nat) (w : World) (h : w.cell? ⟨b, 4, none⟩ = some (.slice none 0 0)) :
    Calls Tryz.prog 51 #[.pointer (some ⟨b, 0, none⟩)] w fun e w' => e = .returned (.bool true) ∧ w' = w := by
  go_enter Tryz.func51, Tryz.ntmps51
  go_wp2_with fail
  refine wp_loop_rounds 1 ?_
  rw [rounds_succ]
  go_wp2_with fail
  refine wp_loop_rounds 1 ?_
  rw [rounds_succ]
  go_wp2_with fail
  refine wp_loop_rounds 1 ?_
  rw [rounds_succ]
  go_wp2_with fail
  go_ret
  exact ⟨rfl, rfl⟩
end Go.Proofs.YtlfccjlifjppdaaGreatDoor
namespace Go.Proofs.YtlfccjlifjppdaaGreatDoor
open Go.RowKit
theorem jnfo3 : ∃ i, Tryz.prog.info? 3 = some i ∧ i.zero = some (.int .i64 0) ∧ i.size = 1 ∧ i.bytes = 8 := by
  have h : (Tryz.prog.info? 3).map (fun i => (i.zero, i.size, i.bytes)) = some (some (.int .i64 0), 1, 8) := by kernel_rfl
  cases hq : Tryz.prog.info? 3 with
  | none => rw [hq] at h; cases h
  | some i =>
    rw [hq] at h
    simp only [Option.map_some, Option.some.injEq, Prod.mk.injEq] at h
    exact ⟨i, rfl, h.1, h.2.1, h.2.2⟩
theorem jnfo36 : ∃ i, Tryz.prog.info? 36 = some i ∧ i.zero = some (.slice none 0 0) ∧ i.size = 1 ∧ i.bytes = 24 := by
  have h : (Tryz.prog.info? 36).map (fun i => (i.zero, i.size, i.bytes)) = some (some (.slice none 0 0), 1, 24) := by kernel_rfl
  cases hq : Tryz.prog.info? 36 with
  | none => rw [hq] at h; cases h
  | some i =>
    rw [hq] at h
    simp only [Option.map_some, Option.some.injEq, Prod.mk.injEq] at h
    exact ⟨i, rfl, h.1, h.2.1, h.2.2⟩
theorem rowv_form {w : World} {B e s n : Nat} {v : Value} {xs : List Value} (h : w.ownsRow B e s v n xs) : ∃ ad cap, v = .slice ad n cap := by
  rcases h.2 with ⟨h1, h2⟩ | ⟨g, c, cur, h1, _⟩
  · exact ⟨none, 0, by rw [h1, h2]⟩
  · exact ⟨_, _, h1⟩
theorem book_cell {w : World} {b : Nat} {iv : Value} (h : BookAt w b iv) : w.cell? ⟨b, 2, none⟩ = some iv := by
  rw [cell_of_row w b 2 _ 56 (0, 0) h]; rfl
theorem row36_at {w : World} {B n : Nat} {v : Value} {xs : List Value} (h : w.ownsRow B 36 1 v n xs) (j : Nat) (hj : j < n) : ∃ g cap u, v = .slice (some ⟨g, 0, none⟩) n cap ∧ xs[j]? = some u ∧ w.cell? ⟨g, j, none⟩ = some u := by
  have hl : xs.length = n := by have := h.1; omega
  rcases h.2 with ⟨_, h2⟩ | ⟨g, c, cur, h1, h2, h3, h4, h5, h6, h7⟩
  · omega
  · have hv : j < xs.length := by omega
    refine ⟨g, c, xs[j], h1, List.getElem?_eq_getElem hv, ?_⟩
    rw [cell_of_row w g j cur 36 (0, 0) h3]
    have : (cur.toList.take (n * 1))[j]? = some xs[j] := by rw [h7]; exact List.getElem?_eq_getElem hv
    rw [List.getElem?_take_of_lt (by omega)] at this
    simpa using this
theorem rd_own {w : World} {base : Nat} {v : Value} {m : Nat} {x : Int} (h : w.ownsInts base 3 .i64 v (List.replicate m x)) : RdI w v m x := by
  obtain ⟨ad, cap, e⟩ := ints_form h
  rw [List.length_replicate] at e
  refine rd_of h (Nat.le_refl _) ad cap e ?_
  rcases h.1.2 with ⟨h1, h2⟩ | ⟨g, c, cur, h1, _⟩
  · left; simpa using h2
  · right
    rw [h1] at e
    simp only [Value.slice.injEq] at e
    exact ⟨g, e.1.symm, by rw [h1]; rfl⟩
set_option maxRecDepth 100000 in
set_option maxHeartbeats 8000000 in
theorem a49 (B b : Nat) (iv : Value) (vs : List Value) (ns : List Nat) (w : World) (h : P1 w B b iv vs ns 0 0) (hl : ns.length ≤ 1000000) (hm : ∀ n ∈ ns, n ≤ 1000000000) :
    Calls Tryz.prog 49 #[.pointer (some ⟨b, 0, none⟩)] w fun e w' => e = .returned (.bool true) ∧ BookAt w' b iv ∧ Below B w w' := by
  have HM : Hid (∀ n ∈ ns, n ≤ 1000000000) := hm
  obtain ⟨i0, hi, hz, hs, hby⟩ := jnfo3
  obtain ⟨i36, ki, kz, ks, kby⟩ := jnfo36
  have H0 : Hid (P1 w B b iv vs ns 0 0) := h
  have hBb : B ≤ w.heap.size := Nat.le_of_lt (Nat.lt_of_le_of_lt h.hb (Array.getElem?_eq_some_iff.1 h.book).1)
  obtain ⟨adi, cpi, hiv⟩ := rowv_form h.row
  subst hiv
  clear h hm
  go_enter Tryz.func49, Tryz.ntmps49
  go_wp2_with fail
  go_loopw [3] (fun iw wr => ∃ i : Nat, i ≤ ns.length ∧ iw = .int .i64 i ∧ Hid (P1 wr B b (.slice adi ns.length cpi) vs ns i 0) ∧ Below B w wr) (fun iw _ => ns.length - (intOf iw).toNat)
  case atStart => exact ⟨0, by omega, rfl, H0.out, Below.refl _ _⟩
  case round =>
    obtain ⟨i, hi1, rfl, HI, hbr⟩ := hrel
    have cB := book_cell HI.out.book
    by_cases hlt : i < ns.length
    · have hlt' : (i : Int) < (ns.length : Int) := by omega
      have hi0 : (0 : Int) ≤ (i : Int) := by omega
      obtain ⟨n, hn⟩ : ∃ n, ns[i]? = some n := ⟨_, List.getElem?_eq_getElem hlt⟩
      obtain ⟨g0, c0, v0, ef, hv0, _⟩ := HI.out.at i hlt
      simp only [Value.slice.injEq] at ef
      obtain ⟨rfl, _, rfl⟩ := ef
      have HV : Hid (vs[i]? = some v0 ∧ ns[i]? = some n) := ⟨hv0, hn⟩
      have hnb : n ≤ 1000000000 := HM.out n (List.mem_of_getElem? hn)
      obtain ⟨ys0, e0, ho0⟩ := HI.out.mid v0 n hv0 hn
      obtain ⟨av, cv, hvf⟩ := ints_form ho0
      simp only [List.replicate_zero, List.nil_append] at hvf
      have hyl : ys0.length = n := by omega
      rw [hyl] at hvf
      subst hvf
      clear hv0 hn ho0 e0 hyl
      go_wp2_with fail
      clear cB
      go_loopw [4] (fun kw wr => ∃ k : Nat, k ≤ n ∧ kw = .int .i64 k ∧ Hid (P1 wr B b (.slice (some ⟨g0, 0, none⟩) ns.length cpi) vs ns i k) ∧ Below B w wr) (fun kw _ => n - (intOf kw).toNat)
      case atStart => exact ⟨0, by omega, rfl, HI.out, hbr⟩
      case round =>
        clear hbr HI
        obtain ⟨k, hk, rfl, HK, hbr⟩ := hrel
        have cB := book_cell HK.out.book
        obtain ⟨g1, c1, v1, ef, hv1, cI⟩ := HK.out.at i hlt
        simp only [Value.slice.injEq, Option.some.injEq, Addr.mk.injEq, and_true, true_and] at ef
        obtain ⟨rfl, rfl⟩ := ef
        rw [HV.out.1] at hv1
        obtain rfl := Option.some.inj hv1
        clear hv1
        by_cases hkt : k < n
        · have hkt' : (k : Int) < (n : Int) := by omega
          have hk0 : (0 : Int) ≤ (k : Int) := by omega
          obtain ⟨g2, c2, y, ef, hg2, cY, fY, hP⟩ := HK.out.write HV.out.1 HV.out.2 hkt (by omega)
          simp only [Value.slice.injEq] at ef
          obtain ⟨rfl, _, rfl⟩ := ef
          have HP : Hid (P1 (wr.setCell ⟨g2, k, none⟩ (.int .i64 (-9000 - (i : Int)))) B b (.slice (some ⟨g0, 0, none⟩) ns.length cpi) vs ns i (k + 1)) := hP
          have HB : Hid (Below B w (wr.setCell ⟨g2, k, none⟩ (.int .i64 (-9000 - (i : Int))))) := hbr.setCell (p := ⟨g2, k, none⟩) hg2 _
          clear hP HK
          go_wp2_with fail
          go_roundw
          case rel => exact ⟨k + 1, by omega, by go_num, HP, HB.out⟩
          case measure => simp [intOf]; omega
        · obtain rfl : k = n := by omega
          have hkt' : ¬ ((k : Int) < (k : Int)) := by omega
          go_wp2_with fail
          go_roundw
          case rel => exact ⟨i + 1, by omega, by go_num, HK.out.next HV.out.2, hbr⟩
          case measure => simp [intOf]; omega
    · obtain rfl : i = ns.length := by omega
      have hlt' : ¬ ((ns.length : Int) < (ns.length : Int)) := by omega
      have HP2 : Hid (P2 wr wr B b (.slice adi ns.length cpi) nilV vs [] ns 0) := HI.out.to2
      have HBw : Hid (Below B w wr) := hbr
      have hszw : B ≤ wr.heap.size := Nat.le_trans hBb hbr.size
      clear HI hbr
      go_wp2_with fail
      generalize wr = w1 at *
      clear cB
      go_loopw [5, 6] (fun aw iw wr => ∃ (i : Nat) (us : List Value), i ≤ ns.length ∧ iw = .int .i64 i ∧ Hid (P2 w1 wr B b (.slice adi ns.length cpi) aw vs us ns i) ∧ Below B w wr) (fun _ iw _ => ns.length - (intOf iw).toNat)
      case atStart => exact ⟨0, [], by omega, rfl, HP2.out, HBw.out⟩
      case round =>
        obtain ⟨i, us, hi1, rfl, HI, hbr⟩ := hrel
        have cB := book_cell HI.out.book
        by_cases hlt : i < ns.length
        · have hlt' : (i : Int) < (ns.length : Int) := by omega
          have hi0 : (0 : Int) ≤ (i : Int) := by omega
          obtain ⟨n, hn⟩ : ∃ n, ns[i]? = some n := ⟨_, List.getElem?_eq_getElem hlt⟩
          obtain ⟨g0, c0, v0, ef, hv0, cI⟩ := row36_at HI.out.row i hlt
          simp only [Value.slice.injEq] at ef
          obtain ⟨rfl, _, rfl⟩ := ef
          have hnb : n ≤ 1000000000 := HM.out n (List.mem_of_getElem? hn)
          obtain ⟨aa, ca, haf⟩ := rowv_form HI.out.all
          have HS : Hid (P3 w1 wr B b (.slice (some ⟨g0, 0, none⟩) ns.length cpi) u5 v0 v0 vs us ns i n 0) := HI.out.start hv0 hn
          obtain ⟨av, cv, hvf⟩ := HS.out.mid.form
          subst hvf haf
          clear hn hv0 HI
          go_wp2_with fail
          go_loopw [7, 8] (fun gw kw wr => ∃ k : Nat, k ≤ 20 ∧ kw = .int .i64 k ∧ Hid (P3 w1 wr B b (.slice (some ⟨g0, 0, none⟩) ns.length cpi) (.slice aa i ca) gw (.slice av n cv) vs us ns i n k) ∧ Below B w wr) (fun _ kw _ => 20 - (intOf kw).toNat)
          case atStart => exact ⟨0, by omega, rfl, HS.out, hbr⟩
          case round =>
            clear hbr HS cB cI
            obtain ⟨k, hk, rfl, HK, hbr⟩ := hrel
            have hszr : B ≤ wr.heap.size := Nat.le_trans hBb hbr.size
            by_cases hkt : k < 20
            · have hkt' : (k : Int) < 20 := by omega
              have hba : Below wr.heap.size wr (wr.alloc (.cells #[.int .i64 (-9000 - (i : Int))] 3)) := (Below.refl _ _).alloc (Nat.le_refl _) _
              have HKa := HK.out.eq hba
              have HOa : Hid ((wr.alloc (.cells #[.int .i64 (-9000 - (i : Int))] 3)).ownsInts B 3 .i64 u7 (List.replicate (n + k) (-9000 - (i : Int)))) := HKa.own
              have HOr : Hid ((wr.alloc (.cells #[.int .i64 (-9000 - (i : Int))] 3)).ownsRow B 3 1 u7 (n + k) ((List.replicate (n + k) (-9000 - (i : Int))).map (Value.int .i64))) := by
                have := HOa.out.1
                rwa [List.length_replicate] at this
              have HKa : Hid (P3 w1 (wr.alloc (.cells #[.int .i64 (-9000 - (i : Int))] 3)) B b (.slice (some ⟨g0, 0, none⟩) ns.length cpi) (.slice aa i ca) u7 (.slice av n cv) vs us ns i n k) := HKa
              have HBa : Hid (Below B w (wr.alloc (.cells #[.int .i64 (-9000 - (i : Int))] 3))) := hbr.alloc hszr _
              obtain ⟨ag, cg, hgf⟩ := rowv_form HOr.out
              have hbase : B ≤ (wr.alloc (.cells #[.int .i64 (-9000 - (i : Int))] 3)).heap.size := by simp; omega
              subst hgf
              clear HK hbr hba
              go_wp2_with (at_builtin; refine wpList_append_two rfl _ _ 36 rfl B 3 i0 (.int .i64 0) 1 8 Tryz.underlying36 hi hz hs hby rfl (by decide) _ _ _ rfl HOr.out ⟨wr.heap.size, 0, none⟩ 1 1 [.int .i64 (-9000 - (i : Int))] rfl rfl (cell_one_new _ _ _) (fun u hu => by simp at hu; subst hu; rfl) (by unfold maxLen; omega) (by omega) hbase ?_)
              intro v' w' hown hgr hloc
              have HF : Hid (P3 w1 w' B b (.slice (some ⟨g0, 0, none⟩) ns.length cpi) (.slice aa i ca) v' (.slice av n cv) vs us ns i n (k + 1)) := by
                refine HKa.out.step ⟨?_, fun z hz => ?_⟩ hgr (by simpa using hloc)
                · have e : List.replicate (n + (k + 1)) (mkI i) = List.replicate (n + k) (-9000 - (i : Int)) ++ [-9000 - (i : Int)] := by
                    rw [show n + (k + 1) = (n + k) + 1 by omega, List.replicate_succ']; rfl
                  rw [e, List.length_append, List.length_replicate, List.map_append, List.map_replicate]
                  exact hown
                · rw [(List.mem_replicate.1 hz).2]; exact mkI_wf (by omega)
              have HBf : Hid (Below B w w') := HBa.out.grown hgr hbase (fun g hg => (HOr.out.lt g hg).1)
              clear hown hgr hloc
              go_wp2_with fail
              go_roundw
              case rel => exact ⟨k + 1, by omega, by go_num, HF, HBf.out⟩
              case measure => simp [intOf]; omega
            · obtain rfl : k = 20 := by omega
              obtain ⟨ag, cg, hgf⟩ := ints_form HK.out.own
              rw [List.length_replicate] at hgf
              subst hgf
              have hba : Below wr.heap.size wr (wr.alloc (.cells #[.slice ag (n + 20) cg] 36)) := (Below.refl _ _).alloc (Nat.le_refl _) _
              have HKa : Hid (P3 w1 (wr.alloc (.cells #[.slice ag (n + 20) cg] 36)) B b (.slice (some ⟨g0, 0, none⟩) ns.length cpi) (.slice aa i ca) (.slice ag (n + 20) cg) (.slice av n cv) vs us ns i n 20) := HK.out.eq hba
              have HBa : Hid (Below B w (wr.alloc (.cells #[.slice ag (n + 20) cg] 36))) := hbr.alloc hszr _
              have hbase : w1.heap.size ≤ (wr.alloc (.cells #[.slice ag (n + 20) cg] 36)).heap.size := HKa.out.size
              have hbaseB : B ≤ (wr.alloc (.cells #[.slice ag (n + 20) cg] 36)).heap.size := by simp; omega
              clear hba HK hbr
              go_wp2_with (at_builtin; refine wpList_append_two rfl _ _ 52 rfl w1.heap.size 36 i36 (.slice none 0 0) 1 24 Tryz.underlying52 ki kz ks kby rfl (by decide) _ _ _ rfl HKa.out.all ⟨wr.heap.size, 0, none⟩ 1 1 [.slice ag (n + 20) cg] rfl rfl (cell_one_new _ _ _) (fun u hu => by simp at hu; subst hu; rfl) (by unfold maxLen; omega) (by omega) hbase ?_)
              intro v' w' hown hgr hloc
              have HF : Hid (P2 w1 w' B b (.slice (some ⟨g0, 0, none⟩) ns.length cpi) v' vs (us ++ [.slice ag (n + 20) cg]) ns (i + 1)) := HKa.out.put hown hgr
              have HBf : Hid (Below B w w') := HBa.out.grown hgr hbaseB (fun g hg => Nat.le_trans hszw (HKa.out.all.lt g hg).1)
              clear hown hgr hloc
              go_wp2_with fail
              go_roundw
              case rel => exact ⟨i + 1, _, by omega, by go_num, HF, HBf.out⟩
              case measure => simp [intOf]; omega
        · obtain rfl : i = ns.length := by omega
          have hlt' : ¬ ((ns.length : Int) < (ns.length : Int)) := by omega
          obtain ⟨aa, ca, haf⟩ := rowv_form HI.out.all
          subst haf
          have HBw2 : Hid (Below B w wr) := hbr
          clear hbr
          go_wp2_with fail
          generalize wr = w2 at *
          clear cB
          go_loopw [9] (fun iw wr => ∃ i : Nat, i ≤ ns.length ∧ iw = .int .i64 i ∧ Below w2.heap.size w2 wr) (fun iw _ => ns.length - (intOf iw).toNat)
          case atStart => exact ⟨0, by omega, rfl, Below.refl _ _⟩
          case round =>
            obtain ⟨i, hi1, rfl, hbr⟩ := hrel
            by_cases hlt : i < ns.length
            · have hlt' : (i : Int) < (ns.length : Int) := by omega
              have hi0 : (0 : Int) ≤ (i : Int) := by omega
              have HJ : Hid (P2 w1 wr B b (.slice adi ns.length cpi) (.slice aa ns.length ca) vs us ns ns.length) := HI.out.eq hbr
              obtain ⟨n, hn⟩ : ∃ n, ns[i]? = some n := ⟨_, List.getElem?_eq_getElem hlt⟩
              have hnb : n ≤ 1000000000 := HM.out n (List.mem_of_getElem? hn)
              obtain ⟨g0, c0, v0, ef, hv0, _⟩ := row36_at HJ.out.row i hlt
              simp only [Value.slice.injEq] at ef
              obtain ⟨rfl, _, rfl⟩ := ef
              obtain ⟨g1, c1, u1, ef, hu1, _⟩ := row36_at HJ.out.all i hlt
              simp only [Value.slice.injEq] at ef
              obtain ⟨rfl, _, rfl⟩ := ef
              have HV : Hid (vs[i]? = some v0 ∧ us[i]? = some u1 ∧ ns[i]? = some n) := ⟨hv0, hu1, hn⟩
              have HRv : ∀ W, P2 w1 W B b (.slice (some ⟨g0, 0, none⟩) ns.length cpi) (.slice (some ⟨g1, 0, none⟩) ns.length ca) vs us ns ns.length → RdI W v0 n (-9000 - (i : Int)) := fun W hW => hW.read i v0 n hlt HV.out.1 HV.out.2.2
              have HRu : ∀ W, P2 w1 W B b (.slice (some ⟨g0, 0, none⟩) ns.length cpi) (.slice (some ⟨g1, 0, none⟩) ns.length ca) vs us ns ns.length → RdI W u1 (n + 20) (-9000 - (i : Int)) := fun W hW => rd_own (hW.grown i u1 n HV.out.2.1 HV.out.2.2)
              have HCv : ∀ W, P2 w1 W B b (.slice (some ⟨g0, 0, none⟩) ns.length cpi) (.slice (some ⟨g1, 0, none⟩) ns.length ca) vs us ns ns.length → W.cell? ⟨b, 2, none⟩ = some (.slice (some ⟨g0, 0, none⟩) ns.length cpi) ∧ W.cell? ⟨g0, i, none⟩ = some v0 ∧ W.cell? ⟨g1, i, none⟩ = some u1 := fun W hW => by
                obtain ⟨_, _, x, ef, hx, cx⟩ := row36_at hW.row i hlt
                simp only [Value.slice.injEq, Option.some.injEq, Addr.mk.injEq, and_true, true_and] at ef
                obtain ⟨rfl, rfl⟩ := ef
                obtain ⟨_, _, z, ef, hz, cz⟩ := row36_at hW.all i hlt
                simp only [Value.slice.injEq, Option.some.injEq, Addr.mk.injEq, and_true, true_and] at ef
                obtain ⟨rfl, rfl⟩ := ef
                rw [HV.out.1] at hx
                rw [HV.out.2.1] at hz
                cases hx
                cases hz
                exact ⟨book_cell hW.book, cx, cz⟩
              have HRv : Hid (∀ W, P2 w1 W B b (.slice (some ⟨g0, 0, none⟩) ns.length cpi) (.slice (some ⟨g1, 0, none⟩) ns.length ca) vs us ns ns.length → RdI W v0 n (-9000 - (i : Int))) := HRv
              have HRu : Hid (∀ W, P2 w1 W B b (.slice (some ⟨g0, 0, none⟩) ns.length cpi) (.slice (some ⟨g1, 0, none⟩) ns.length ca) vs us ns ns.length → RdI W u1 (n + 20) (-9000 - (i : Int))) := HRu
              have HCv : Hid (∀ W, P2 w1 W B b (.slice (some ⟨g0, 0, none⟩) ns.length cpi) (.slice (some ⟨g1, 0, none⟩) ns.length ca) vs us ns ns.length → W.cell? ⟨b, 2, none⟩ = some (.slice (some ⟨g0, 0, none⟩) ns.length cpi) ∧ W.cell? ⟨g0, i, none⟩ = some v0 ∧ W.cell? ⟨g1, i, none⟩ = some u1) := HCv
              obtain ⟨av, cv, hvf⟩ := (HRv.out _ HJ.out).form
              obtain ⟨au, cu, huf⟩ := (HRu.out _ HJ.out).form
              subst hvf huf
              have hqq : ((-9000 - (i : Int)) != (-9000 - (i : Int))) = false := by simp
              clear hn hv0 hu1 HJ
              go_wp2_with fail
              go_loopw [10] (fun kw wr => ∃ k : Nat, k ≤ n + 20 ∧ kw = .int .i64 k ∧ Below w2.heap.size w2 wr) (fun kw _ => n + 20 - (intOf kw).toNat)
              case atStart => exact ⟨0, by omega, rfl, hbr⟩
              case round =>
                clear hbr
                obtain ⟨k, hk, rfl, hbr⟩ := hrel
                have HJ : P2 w1 wr B b (.slice (some ⟨g0, 0, none⟩) ns.length cpi) (.slice (some ⟨g1, 0, none⟩) ns.length ca) vs us ns ns.length := HI.out.eq hbr
                obtain ⟨cB, cV, cU⟩ := HCv.out _ HJ
                by_cases hkt : k < n + 20
                · have hkt' : (k : Int) < ((n + 20 : Nat) : Int) := by omega
                  have hk0 : (0 : Int) ≤ (k : Int) := by omega
                  obtain ⟨g3, c3, ef, cR, _⟩ := (HRu.out _ HJ).at k hkt
                  simp only [Value.slice.injEq] at ef
                  obtain ⟨rfl, _, rfl⟩ := ef
                  clear HJ
                  go_wp2_with fail
                  go_roundw
                  case rel => exact ⟨k + 1, by omega, by go_num, hbr⟩
                  case measure => simp [intOf]; omega
                · obtain rfl : k = n + 20 := by omega
                  have hkt' : ¬ (((n + 20 : Nat) : Int) < ((n + 20 : Nat) : Int)) := by omega
                  clear HJ
                  go_wp2_with fail
                  go_loopw [11] (fun kw wr => ∃ k : Nat, k ≤ n ∧ kw = .int .i64 k ∧ Below w2.heap.size w2 wr) (fun kw _ => n - (intOf kw).toNat)
                  case atStart => exact ⟨0, by omega, rfl, hbr⟩
                  case round =>
                    clear hbr cB cV cU hkt hkt' hk
                    obtain ⟨k, hk, rfl, hbr⟩ := hrel
                    have HJ : P2 w1 wr B b (.slice (some ⟨g0, 0, none⟩) ns.length cpi) (.slice (some ⟨g1, 0, none⟩) ns.length ca) vs us ns ns.length := HI.out.eq hbr
                    obtain ⟨cB, cV, cU⟩ := HCv.out _ HJ
                    by_cases hkt : k < n
                    · have hkt' : (k : Int) < (n : Int) := by omega
                      have hk0 : (0 : Int) ≤ (k : Int) := by omega
                      obtain ⟨g3, c3, ef, cR, _⟩ := (HRv.out _ HJ).at k hkt
                      simp only [Value.slice.injEq] at ef
                      obtain ⟨rfl, _, rfl⟩ := ef
                      clear HJ
                      go_wp2_with fail
                      go_roundw
                      case rel => exact ⟨k + 1, by omega, by go_num, hbr⟩
                      case measure => simp [intOf]; omega
                    · obtain rfl : k = n := by omega
                      have hkt' : ¬ ((k : Int) < (k : Int)) := by omega
                      clear HJ
                      go_wp2_with fail
                      go_roundw
                      case rel => exact ⟨i + 1, by omega, by go_num, hbr⟩
                      case measure => simp [intOf]; omega
            · obtain rfl : i = ns.length := by omega
              have hlt' : ¬ ((ns.length : Int) < (ns.length : Int)) := by omega
              have HE : Hid (BookAt wr b (.slice adi ns.length cpi) ∧ Below B w wr) := ⟨(HI.out.eq hbr).book, HBw2.out.trans (hbr.mono (Nat.le_trans hBb HBw2.out.size))⟩
              go_wp2_with fail
              go_ret
              exact ⟨rfl, HE.out.1, HE.out.2⟩
end Go.Proofs.YtlfccjlifjppdaaGreatDoor
namespace Go.Proofs.YtlfccjlifjppdaaGreatDoor
open Go.RowKit
theorem book_cells {w : World} {b : Nat} {iv : Value} (h : BookAt w b iv) : w.cell? ⟨b, 0, none⟩ = some nilV ∧ w.cell? ⟨b, 1, none⟩ = some nilV ∧ w.cell? ⟨b, 2, none⟩ = some iv ∧ w.cell? ⟨b, 3, none⟩ = some nilV ∧ w.cell? ⟨b, 4, none⟩ = some nilV := by
  refine ⟨?_, ?_, ?_, ?_, ?_⟩
  · rw [cell_of_row w b 0 _ 56 (0, 0) h]; rfl
  · rw [cell_of_row w b 1 _ 56 (0, 0) h]; rfl
  · rw [cell_of_row w b 2 _ 56 (0, 0) h]; rfl
  · rw [cell_of_row w b 3 _ 56 (0, 0) h]; rfl
  · rw [cell_of_row w b 4 _ 56 (0, 0) h]; rfl
set_option maxRecDepth 100000 in
set_option maxHeartbeats 4000000 in
theorem a24 (B b n : Nat) (iv : Value) (vs : List Value) (a : Option Addr) (m c : Nat) (w : World) (hb : BookAt w b iv) (hBb : B ≤ b) (hO : w.ownsRow B 36 1 iv n vs) (hn : n ≤ 1000000) :
    Calls Tryz.prog 24 #[.pointer (some ⟨b, 0, none⟩), .slice a m c] w fun e w' => e = .returned (.tuple #[]) ∧ ∃ iv', BookAt w' b iv' ∧ w'.ownsRow B 36 1 iv' (n + 1) (vs ++ [.slice a m c]) ∧ w.heap.size ≤ w'.heap.size ∧ (∀ k, k < w.heap.size → k ≠ b → iv.ownBlock ≠ some k → w'.heap[k]? = w.heap[k]?) ∧ Below B w w' := by
  obtain ⟨i36, ki, kz, ks, kby⟩ := jnfo36
  have HBk : Hid (BookAt w b iv) := hb
  have hblt : b < w.heap.size := (Array.getElem?_eq_some_iff.1 hb).1
  have hBs : B ≤ w.heap.size := by omega
  obtain ⟨_, _, c2, _, _⟩ := book_cells hb
  obtain ⟨ai, ci, hiv⟩ := rowv_form hO
  have HO : Hid (w.ownsRow B 36 1 iv n vs) := hO
  have HOa : Hid ((w.alloc (.cells #[.slice a m c] 36)).ownsRow B 36 1 iv n vs) := hO.alloc _
  have hbase : B ≤ (w.alloc (.cells #[.slice a m c] 36)).heap.size := by simp; omega
  have hfz : ∀ W iw, BookAt W b iw → W.frozen? ⟨b, 2, none⟩ = false := fun W iw h => frozen_of_row W b 2 _ 56 h
  have HFz : Hid (∀ W iw, BookAt W b iw → W.frozen? ⟨b, 2, none⟩ = false) := hfz
  subst hiv
  clear hb hO hfz
  go_enter Tryz.func24, Tryz.ntmps24
  go_wp2_with (at_builtin; refine wpList_append_two rfl _ _ 52 rfl B 36 i36 (.slice none 0 0) 1 24 Tryz.underlying52 ki kz ks kby rfl (by decide) _ _ _ rfl HOa.out ⟨w.heap.size, 0, none⟩ 1 1 [.slice a m c] rfl rfl (cell_one_new _ _ _) (fun u hu => by simp at hu; subst hu; rfl) (by unfold maxLen; omega) (by omega) hbase ?_)
  intro v' w' hown hgr hloc
  have hbk' : BookAt w' b (.slice ai n ci) := by
    refine (hgr.block b (by simp; omega) (fun e => ?_)).trans ((heap_alloc_old w _ hblt).trans HBk.out)
    exact book_apart36 HBk.out HO.out b e.symm rfl
  have f2 := HFz.out w' _ hbk'
  have HF : Hid (BookAt (w'.setCell ⟨b, 2, none⟩ v') b v' ∧ (w'.setCell ⟨b, 2, none⟩ v').ownsRow B 36 1 v' (n + 1) (vs ++ [.slice a m c]) ∧ w.heap.size ≤ (w'.setCell ⟨b, 2, none⟩ v').heap.size ∧ (∀ k, k < w.heap.size → k ≠ b → (Value.slice ai n ci).ownBlock ≠ some k → (w'.setCell ⟨b, 2, none⟩ v').heap[k]? = w.heap[k]?) ∧ Below B w (w'.setCell ⟨b, 2, none⟩ v')) := by
    have hsz := hgr.size
    simp at hsz
    refine ⟨?_, ?_, ?_, ?_, ?_⟩
    · exact (heap_setCell_same w' b 2 _ 56 v' hbk').trans rfl
    · refine owns_eq hown fun g hg => heap_setCell_other w' ⟨b, 2, none⟩ g _ (fun e => ?_)
      exact book_apart36 hbk' hown g hg e
    · simp; omega
    · intro k h1 h2 h3
      rw [heap_setCell_other w' ⟨b, 2, none⟩ k _ h2]
      exact (hgr.block k (by simp; omega) (fun e => h3 e.symm)).trans (heap_alloc_old w _ h1)
    · have x1 : Below B w w' := ((Below.refl B w).alloc hBs _).grown hgr hbase (fun g hg => (HOa.out.lt g hg).1)
      exact x1.setCell (p := ⟨b, 2, none⟩) hBb _
  obtain ⟨a', c', hvf⟩ := rowv_form hown
  have c2' := (book_cells hbk').2.2.1
  clear hown hgr hloc hbk' c2
  subst hvf
  go_wp2_with fail
  go_end0
  exact ⟨rfl, _, HF.out⟩
set_option maxRecDepth 100000 in
set_option maxHeartbeats 4000000 in
theorem a25 (B b : Nat) (iv : Value) (vs : List Value) (ns : List Nat) (w : World) (h : P1 w B b iv vs ns 0 0) (hl : ns.length ≤ 1000000) (hm : ∀ n ∈ ns, n ≤ 1000000000) :
    Calls Tryz.prog 25 #[.pointer (some ⟨b, 0, none⟩)] w fun e w' => e = .returned (.bool true) ∧ Below B w w' := by
  have hBb := h.hb
  obtain ⟨c0, c1, _, _, _⟩ := book_cells h.book
  have H47 := a47 b w c0
  have H48 := a48 b w c1
  have H49 := a49 B b iv vs ns w h hl hm
  clear h hl hm c0 c1
  go_enter Tryz.func25, Tryz.ntmps25
  go_wp2_with fail
  refine H47.mono ?_
  rintro e w1 ⟨rfl, hw1⟩
  obtain rfl := hw1.symm
  clear H47
  go_wp2_with fail
  refine H48.mono ?_
  rintro e w2 ⟨rfl, hw2⟩
  obtain rfl := hw2.symm
  clear H48
  go_wp2_with fail
  refine H49.mono ?_
  rintro e w3 ⟨rfl, hbk, hb3⟩
  obtain ⟨_, _, _, c3, c4⟩ := book_cells hbk
  have H50 := a50 b w3 c3
  have H51 := a51 b w3 c4
  have f0 : w3.frozen? ⟨b, 0, none⟩ = false := frozen_of_row w3 b 0 _ 56 hbk
  have f1 : w3.frozen? ⟨b, 1, none⟩ = false := frozen_of_row w3 b 1 _ 56 hbk
  have f2 : w3.frozen? ⟨b, 2, none⟩ = false := frozen_of_row w3 b 2 _ 56 hbk
  have f3 : w3.frozen? ⟨b, 3, none⟩ = false := frozen_of_row w3 b 3 _ 56 hbk
  have f4 : w3.frozen? ⟨b, 4, none⟩ = false := frozen_of_row w3 b 4 _ 56 hbk
  have hbz : b < w3.heap.size := (Array.getElem?_eq_some_iff.1 hbk).1
  obtain ⟨g0, g1, g2, g3, g4⟩ := book_cells hbk
  clear H49 hbk c3 c4
  go_wp2_with fail
  refine H50.mono ?_
  rintro e w4 ⟨rfl, hw4⟩
  obtain rfl := hw4.symm
  clear H50
  go_wp2_with fail
  refine H51.mono ?_
  rintro e w5 ⟨rfl, hw5⟩
  obtain rfl := hw5.symm
  clear H51
  go_wp2_with fail
  go_ret
  exact ⟨rfl, by
    refine Below.setCell ?_ (p := ⟨b, _, none⟩) hBb _
    refine Below.setCell ?_ (p := ⟨b, _, none⟩) hBb _
    refine Below.setCell ?_ (p := ⟨b, _, none⟩) hBb _
    refine Below.setCell ?_ (p := ⟨b, _, none⟩) hBb _
    exact hb3.setCell (p := ⟨b, _, none⟩) hBb _⟩
end Go.Proofs.YtlfccjlifjppdaaGreatDoor
