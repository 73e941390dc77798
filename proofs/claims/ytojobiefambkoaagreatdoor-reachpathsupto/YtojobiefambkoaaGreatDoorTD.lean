/- The document's Needed. -/
import Derived.Test.YtojobiefambkoaaGreatDoorTC
import Derived.Test.YtojobiefambkoaaGreatDoorXM
namespace Go.Proofs.YtojobiefambkoaaGreatDoor
open Go.RowKit
attribute [local go_sem ↓] Go.wp_at_zero Go.wp_at_succ
theorem addN_no {acc : List Nm} {x : Nm} (h : hasN acc x = false) : addN acc x = acc ++ [x] := by unfold addN; rw [h]; rfl
theorem addN_yes {acc : List Nm} {x : Nm} (h : hasN acc x = true) : addN acc x = acc := by unfold addN; rw [h]; rfl
/-- What another row holds stays while a row grows: blocks between two worlds stay, and the row is not there. -/
def Kq (wq w3 wr : World) (v : Value) : Prop := w3.heap.size ≤ wr.heap.size ∧ (∀ g, wq.heap.size ≤ g → g < w3.heap.size → wr.heap[g]? = w3.heap[g]?) ∧ ∀ g, v.ownBlock = some g → g < wq.heap.size ∨ w3.heap.size ≤ g
theorem Kq.below {wq w3 wr w' : World} {v : Value} (h : Kq wq w3 wr v) (hb : Below wr.heap.size wr w') : Kq wq w3 w' v :=
  ⟨Nat.le_trans h.1 hb.size, fun g h1 h2 => (hb.block g (Nat.lt_of_lt_of_le h2 h.1)).trans (h.2.1 g h1 h2), h.2.2⟩
theorem Kq.grown {wq w3 wr w' : World} {v v' : Value} (h : Kq wq w3 wr v) (hg : wr.grownBy w' v.ownBlock) (hl : v'.ownBlock = v.ownBlock ∨ (v'.ownBlock = some wr.heap.size ∧ wr.grownBy w' none)) : Kq wq w3 w' v' := by
  refine ⟨Nat.le_trans h.1 hg.size, fun g h1 h2 => (hg.block g (Nat.lt_of_lt_of_le h2 h.1) fun e => ?_).trans (h.2.1 g h1 h2), fun g hv => ?_⟩
  · rcases h.2.2 g e.symm with h3 | h3 <;> omega
  · rcases hl with hl | ⟨hl, _⟩
    · exact h.2.2 g (hl ▸ hv)
    · rw [hl] at hv
      cases hv
      exact .inr h.1
theorem Kq.own {wq w3 wr : World} {v u : Value} {e : TypeId} {s n : Nat} {xs : List Value} (h : Kq wq w3 wr v) (ho : w3.ownsRow wq.heap.size e s u n xs) : wr.ownsRow wq.heap.size e s u n xs :=
  row_keep ho fun g hg => h.2.1 g (ho.lt g hg).1 (ho.lt g hg).2
/-- What the document's Needed tells. -/
def NdR (m : Hp) (rs : List Nm) (e : Ending) (w w' : World) : Prop := ∃ a j c, e = .returned (.slice a j c) ∧ Hid (∃ xs, UpN (Rch m rs) xs ∧ xs.length = j ∧ OwnN w' w.heap.size (.slice a j c) xs ∧ Below w.heap.size w w')
set_option maxRecDepth 100000 in
set_option maxHeartbeats 8000000 in
theorem z13 (p : Value) (m : Hp) (rs : List Nm) (ra : Option Addr) (rn rc : Nat) (w : World) (h : RfV w p m) (hup : RisesH m) (hm : GoodH m) (hr : NamesAt w (.slice ra rn rc) rs) (hu : (univ m rs).length ≤ 1000000000) (hrn : rn ≤ 1000000000) :
    Calls Tryz.prog 13 #[p, .slice ra rn rc] w fun e w' => NdR m rs e w w' := by
  obtain ⟨i0, hi, hz, hs, hby⟩ := info23
  have hpf : ∃ q, p = .pointer q := by
    rcases h with ⟨h, _⟩ | ⟨_, _, _, h, _⟩ <;> exact ⟨_, h⟩
  obtain ⟨q, rfl⟩ := hpf
  have HV : Hid (RfV w (.pointer q) m ∧ RisesH m ∧ GoodH m ∧ NamesAt w (.slice ra rn rc) rs ∧ rs.length = rn) := ⟨h, hup, hm, hr, names_len hr rfl⟩
  obtain ⟨U, hU⟩ : ∃ U, (univ m rs).length = U := ⟨_, rfl⟩
  have HU : Hid ((univ m rs).length = U) := hU
  rw [hU] at hu
  have HI0 : Hid ((nubN (rs.take 0)).length = 0 ∧ OwnN w w.heap.size (.slice none 0 0) (nubN (rs.take 0)) ∧ Below w.heap.size w w) := ⟨by simp [nubN], by simp only [List.take_zero, nubN, List.foldl_nil]; exact World.ownsRow_nil _ _ _ _, Below.refl _ _⟩
  clear h hup hm hr hU
  go_enter Tryz.func13, Tryz.ntmps13
  go_wp2_with fail
  go_loopw [5, 6] (fun lv iv wr => ∃ (i : Nat) (a : Option Addr) (j c : Nat), i ≤ rn ∧ lv = .slice a j c ∧ iv = .int .i64 i ∧ Hid ((nubN (rs.take i)).length = j ∧ OwnN wr w.heap.size (.slice a j c) (nubN (rs.take i)) ∧ Below w.heap.size w wr)) (fun _ iv _ => rn - (intOf iv).toNat)
  case atStart => exact ⟨0, none, 0, 0, Nat.zero_le _, rfl, rfl, HI0⟩
  case round =>
    clear HI0
    obtain ⟨i, ja, j, jc, hi', rfl, rfl, HK⟩ := hrel
    by_cases hlt : i < rn
    · have hltI : (i : Int) < (rn : Int) := by omega
      have hi0 : (0 : Int) ≤ (i : Int) := by omega
      obtain ⟨b, o, hx, rfl, hbl, p0, p1⟩ := names_at (HV.out.2.2.2.1.below HK.out.2.2) hlt
      have HSN : Hid (nubN (rs.take (i + 1)) = addN (nubN (rs.take i)) rs[i]) := by
        show _ = _
        rw [List.take_succ_eq_append_getElem hx, nubN_snoc]
      have hjl : j ≤ i := by
        have h1 := HK.out.1
        have h2 := nubN_len (rs.take i)
        rw [List.length_take] at h2
        omega
      obtain ⟨xs, hxs⟩ : ∃ xs, nubN (rs.take i) = xs := ⟨_, rfl⟩
      rw [hxs] at HK HSN
      generalize rs[i] = x at *
      obtain ⟨x1, x2⟩ := x
      simp only at p0 p1
      have H37 : Calls Tryz.prog 37 #[.slice ja j jc, .agg #[.int .i64 x1, .int .i64 x2]] wr fun e w' => e = .returned (.bool (hasN xs (x1, x2))) ∧ Below wr.heap.size wr w' := c43 xs (.slice ja j jc) (x1, x2) wr (by
        have h := namesAt_of_owns HK.out.2.1 (by have := HK.out.1; unfold maxLen; omega)
        exact h)
      clear hxs hx
      cases hh : hasN xs (x1, x2)
      · have HA : Hid (nubN (rs.take (i + 1)) = xs ++ [(x1, x2)]) := by show _ = _; rw [HSN.out, addN_no hh]
        rw [hh] at H37
        clear hh HSN
        go_wp2_with fail
        refine H37.mono ?_
        rintro e w3 ⟨rfl, h3⟩
        have H3 : Hid (Below wr.heap.size wr w3 ∧ Below w.heap.size w w3) := ⟨h3, HK.out.2.2.trans (h3.mono HK.out.2.2.size)⟩
        have k0 := (h3.cell (p := ⟨b, o + i * 2, none⟩) hbl).trans p0
        have k1 := (h3.cell (p := ⟨b, o + i * 2 + 1, none⟩) hbl).trans p1
        have HO3 : Hid (w3.ownsRow w.heap.size 49 2 (.slice ja j jc) j (flatN xs)) := by
          have h := owns_below HK.out.2.1 h3
          rw [HK.out.1] at h
          exact h
        have hsz := H3.out.2.size
        have hnews := newsN_new w3 (x1, x2)
        have hnews : Hid (∀ j' u, (flatN [(x1, x2)])[j']? = some u → (w3.alloc (.cells #[.int .i64 x1, .int .i64 x2] 49)).cell? ((⟨w3.heap.size, 0, none⟩ : Addr).add j') = some u) := hnews
        have hlen : Hid ((flatN [(x1, x2)]).length = 1 * 2) := rfl
        have HXL : Hid (xs.length = j) := HK.out.1
        clear h3 H37 p0 p1 HK
        go_wp2_with (at_builtin; refine wpList_append_own _ rfl _ _ 23 rfl w.heap.size 49 i0 (.agg #[.int .i64 0, .int .i64 0]) 2 16 Tryz.underlying23 hi hz hs hby rfl (by decide) _ _ _ rfl (HO3.out.alloc _) ⟨w3.heap.size, 0, none⟩ 1 1 (flatN [(x1, x2)]) rfl hlen.out hnews.out (flatN_one _) (by unfold maxLen; omega) (by omega) (by simp; omega) ?_)
        intro v' w4 hown hgr hnil
        obtain ⟨va, vc, hvf⟩ := owns_form hown
        subst hvf
        have HF : Hid ((nubN (rs.take (i + 1))).length = j + 1 ∧ OwnN w4 w.heap.size (.slice va (j + 1) vc) (nubN (rs.take (i + 1))) ∧ Below w.heap.size w w4) := by
          have e2 : (nubN (rs.take (i + 1))).length = j + 1 := by rw [HA.out, List.length_append, HXL.out]; rfl
          refine ⟨e2, ?_, (H3.out.2.alloc H3.out.2.size _).grown hgr (by simp; omega) (fun g hg => (HO3.out.lt g hg).1)⟩
          show w4.ownsRow w.heap.size 49 2 _ _ _
          rw [e2, HA.out, flatN_append]
          exact hown
        clear hown hgr hnil HO3 hnews hlen k0 k1
        go_wp2_with fail
        go_roundw
        case rel => exact ⟨i + 1, va, j + 1, vc, by omega, rfl, by go_num, HF⟩
        case measure => simp [intOf]; omega
      · have HA : Hid (nubN (rs.take (i + 1)) = xs) := by show _ = _; rw [HSN.out, addN_yes hh]
        rw [hh] at H37
        clear hh HSN
        go_wp2_with fail
        refine H37.mono ?_
        rintro e w3 ⟨rfl, h3⟩
        have HF : Hid ((nubN (rs.take (i + 1))).length = j ∧ OwnN w3 w.heap.size (.slice ja j jc) (nubN (rs.take (i + 1))) ∧ Below w.heap.size w w3) := by
          rw [HA.out]
          exact ⟨HK.out.1, owns_below HK.out.2.1 h3, HK.out.2.2.trans (h3.mono HK.out.2.2.size)⟩
        clear h3 H37 p0 p1 HK
        go_wp2_with fail
        go_roundw
        case rel => exact ⟨i + 1, ja, j, jc, by omega, rfl, by go_num, HF⟩
        case measure => simp [intOf]; omega
    · have hltI : ¬ (i : Int) < (rn : Int) := by omega
      have HL0 : Hid (∃ ls, NdL m rs ls 0 ∧ ls.length = j ∧ OwnN wr w.heap.size (.slice ja j jc) ls ∧ Below w.heap.size w wr) := by
        have e1 : rs.take i = rs := List.take_of_length_le (by have := HV.out.2.2.2.2; omega)
        have h := HK.out
        rw [e1] at h
        exact ⟨_, ndL_first m rs, h⟩
      clear HK
      go_wp2_with fail
      go_loopw [5, 7] (fun lv iv wr => ∃ (i : Nat) (a : Option Addr) (j c : Nat), i ≤ j ∧ j ≤ U ∧ lv = .slice a j c ∧ iv = .int .i64 i ∧ Hid (∃ ls, NdL m rs ls i ∧ ls.length = j ∧ OwnN wr w.heap.size (.slice a j c) ls ∧ Below w.heap.size w wr)) (fun _ iv _ => U - (intOf iv).toNat)
      case atStart =>
        refine ⟨0, ja, j, jc, Nat.zero_le _, ?_, rfl, rfl, HL0⟩
        obtain ⟨ls, h1, h2, _⟩ := HL0.out
        have := h1.len
        have := HU.out
        omega
      case round =>
        clear HL0 hltI hlt
        obtain ⟨i, ja, j, jc, hij, hjU, rfl, rfl, HK⟩ := hrel
        by_cases hlt : i < j
        · have hltI : (i : Int) < (j : Int) := by omega
          have hi0 : (0 : Int) ≤ (i : Int) := by omega
          obtain ⟨ls, HL⟩ : ∃ ls, Hid (NdL m rs ls i ∧ ls.length = j ∧ OwnN wr w.heap.size (.slice ja j jc) ls ∧ Below w.heap.size w wr) := HK.out
          clear HK
          have HNl : Hid (NamesAt wr (.slice ja j jc) ls) := namesAt_of_owns HL.out.2.2.1 (by have := HL.out.2.1; unfold maxLen; omega)
          obtain ⟨b, o, hx, rfl, hbl, p0, p1⟩ := names_at HNl.out hlt
          have HY : Hid (ls[i]? = some ls[i]) := List.getElem?_eq_getElem hx
          generalize ls[i] = y at *
          obtain ⟨y1, y2⟩ := y
          simp only at p0 p1
          have H38 := z38 (y1, y2) wr (HV.out.1.below HL.out.2.2.2) HV.out.2.1 HV.out.2.2.1
          obtain ⟨ys, hys⟩ : ∃ ys, leadsH m (y1, y2) = ys := ⟨_, rfl⟩
          have HYS : Hid (leadsH m (y1, y2) = ys) := hys
          rw [hys] at H38
          clear hys hx
          go_wp2_with fail
          refine H38.mono ?_
          rintro e w3 ⟨ka, kn, kc, rfl, H3⟩
          clear H38 p0 p1
          have hkn : kn ≤ 256 := by
            have h1 := H3.out.1
            have h2 := (leads_len HV.out.2.2.1 (y1, y2)).1
            rw [HYS.out] at h2
            omega
          obtain ⟨wq, rfl⟩ : ∃ wq, wq = wr := ⟨wr, rfl⟩
          have HN3 : Hid (w3.ownsRow wq.heap.size 49 2 (.slice ka kn kc) ys.length (flatN ys)) := H3.out.2.1
          have HM0 : Hid (NdL m rs ((ys.take 0).foldl addN ls) i ∧ ((ys.take 0).foldl addN ls).length = j ∧ OwnN w3 w.heap.size (.slice (some ⟨b, o, none⟩) j jc) ((ys.take 0).foldl addN ls) ∧ Below w.heap.size w w3 ∧ Kq wq w3 w3 (.slice (some ⟨b, o, none⟩) j jc)) := by
            simp only [List.take_zero, List.foldl_nil]
            exact ⟨HL.out.1, HL.out.2.1, owns_below HL.out.2.2.1 H3.out.2.2, HL.out.2.2.2.trans (H3.out.2.2.mono HL.out.2.2.2.size), Nat.le_refl _, fun _ _ _ => rfl, fun g hg => .inl (HL.out.2.2.1.lt g hg).2⟩
          have HST : Hid ((∀ k, NdL m rs ((ys.take k).foldl addN ls) i) ∧ NdL m rs (ys.foldl addN ls) (i + 1)) := by
            have h1 := HL.out.1
            have h2 := HY.out
            have h3 := HYS.out
            subst h3
            exact ⟨fun k => h1.part h2 k, h1.step h2⟩
          have HKL : Hid (ys.length = kn) := H3.out.1
          clear HL HNl H3
          go_wp2_with fail
          go_loopw [5, 9] (fun lv kv wr => ∃ (k : Nat) (a : Option Addr) (j c : Nat), k ≤ kn ∧ j ≤ U ∧ lv = .slice a j c ∧ kv = .int .i64 k ∧ Hid (NdL m rs ((ys.take k).foldl addN ls) i ∧ ((ys.take k).foldl addN ls).length = j ∧ OwnN wr w.heap.size (.slice a j c) ((ys.take k).foldl addN ls) ∧ Below w.heap.size w wr ∧ Kq wq w3 wr (.slice a j c))) (fun _ kv _ => kn - (intOf kv).toNat)
          case atStart => exact ⟨0, _, j, jc, Nat.zero_le _, hjU, rfl, rfl, HM0⟩
          case round =>
            clear HM0
            obtain ⟨k, ja, j', jc, hk', hjU', rfl, rfl, HM⟩ := hrel
            by_cases hkt : k < kn
            · have hkI : (k : Int) < (kn : Int) := by omega
              have hk0 : (0 : Int) ≤ (k : Int) := by omega
              obtain ⟨b', o', hx', rfl, hbl', p0, p1⟩ := names_at (namesAt_of_owns (HM.out.2.2.2.2.own HN3.out) (by have := HKL.out; unfold maxLen; omega) : NamesAt wr (.slice ka kn kc) ys) hkt
              have HSN : Hid ((ys.take (k + 1)).foldl addN ls = addN ((ys.take k).foldl addN ls) ys[k]) := by
                show _ = _
                rw [List.take_succ_eq_append_getElem hx', List.foldl_append]
                rfl
              obtain ⟨xs, hxs⟩ : ∃ xs, (ys.take k).foldl addN ls = xs := ⟨_, rfl⟩
              rw [hxs] at HM HSN
              generalize ys[k] = x at *
              obtain ⟨x1, x2⟩ := x
              simp only at p0 p1
              have H37 : Calls Tryz.prog 37 #[.slice ja j' jc, .agg #[.int .i64 x1, .int .i64 x2]] wr fun e w' => e = .returned (.bool (hasN xs (x1, x2))) ∧ Below wr.heap.size wr w' := c43 xs (.slice ja j' jc) (x1, x2) wr (namesAt_of_owns HM.out.2.2.1 (by have := HM.out.2.1; unfold maxLen; omega))
              clear hxs hx'
              cases hh : hasN xs (x1, x2)
              · have HA : Hid ((ys.take (k + 1)).foldl addN ls = xs ++ [(x1, x2)]) := by show _ = _; rw [HSN.out, addN_no hh]
                rw [hh] at H37
                clear hh HSN
                go_wp2_with fail
                refine H37.mono ?_
                rintro e w4 ⟨rfl, h4⟩
                have H4 : Hid (Below w.heap.size w w4 ∧ Kq wq w3 w4 (.slice ja j' jc)) := ⟨HM.out.2.2.2.1.trans (h4.mono HM.out.2.2.2.1.size), HM.out.2.2.2.2.below h4⟩
                have k0 := (h4.cell (p := ⟨b', o' + k * 2, none⟩) hbl').trans p0
                have k1 := (h4.cell (p := ⟨b', o' + k * 2 + 1, none⟩) hbl').trans p1
                have HXL : Hid (xs.length = j') := HM.out.2.1
                have HO4 : Hid (w4.ownsRow w.heap.size 49 2 (.slice ja j' jc) j' (flatN xs)) := by
                  have h := owns_below HM.out.2.2.1 h4
                  rw [HXL.out] at h
                  exact h
                have hsz := H4.out.1.size
                have hnews := newsN_new w4 (x1, x2)
                have hnews : Hid (∀ j' u, (flatN [(x1, x2)])[j']? = some u → (w4.alloc (.cells #[.int .i64 x1, .int .i64 x2] 49)).cell? ((⟨w4.heap.size, 0, none⟩ : Addr).add j') = some u) := hnews
                have hlen : Hid ((flatN [(x1, x2)]).length = 1 * 2) := rfl
                clear h4 H37 p0 p1 HM
                go_wp2_with (at_builtin; refine Bk.wpList_append_two rfl _ _ 23 rfl w.heap.size 49 i0 (.agg #[.int .i64 0, .int .i64 0]) 2 16 Tryz.underlying23 hi hz hs hby rfl (by decide) _ _ _ rfl (HO4.out.alloc _) ⟨w4.heap.size, 0, none⟩ 1 1 (flatN [(x1, x2)]) rfl hlen.out hnews.out (flatN_one _) (by unfold maxLen; omega) (by omega) (by simp; omega) ?_)
                intro v' w5 hown hgr hnil
                obtain ⟨va, vc, hvf⟩ := owns_form hown
                subst hvf
                have HF : Hid (NdL m rs ((ys.take (k + 1)).foldl addN ls) i ∧ ((ys.take (k + 1)).foldl addN ls).length = j' + 1 ∧ OwnN w5 w.heap.size (.slice va (j' + 1) vc) ((ys.take (k + 1)).foldl addN ls) ∧ Below w.heap.size w w5 ∧ Kq wq w3 w5 (.slice va (j' + 1) vc)) := by
                  have e2 : ((ys.take (k + 1)).foldl addN ls).length = j' + 1 := by rw [HA.out, List.length_append, HXL.out]; rfl
                  refine ⟨HST.out.1 _, e2, ?_, (H4.out.1.alloc H4.out.1.size _).grown hgr (by simp; omega) (fun g hg => (HO4.out.lt g hg).1), ?_⟩
                  · show w5.ownsRow w.heap.size 49 2 _ _ _
                    rw [e2, HA.out, flatN_append]
                    exact hown
                  · exact (H4.out.2.below (below_alloc _ _)).grown hgr (by simpa using hnil)
                have hjn : j' + 1 ≤ U := by
                  have h1 := HF.out.1.len
                  have h2 := HF.out.2.1
                  have h3 := HU.out
                  omega
                clear hown hgr hnil HO4 hnews hlen k0 k1
                go_wp2_with fail
                go_roundw
                case rel => exact ⟨k + 1, va, j' + 1, vc, by omega, hjn, rfl, by go_num, HF⟩
                case measure => simp [intOf]; omega
              · have HA : Hid ((ys.take (k + 1)).foldl addN ls = xs) := by show _ = _; rw [HSN.out, addN_yes hh]
                rw [hh] at H37
                clear hh HSN
                go_wp2_with fail
                refine H37.mono ?_
                rintro e w4 ⟨rfl, h4⟩
                have HF : Hid (NdL m rs ((ys.take (k + 1)).foldl addN ls) i ∧ ((ys.take (k + 1)).foldl addN ls).length = j' ∧ OwnN w4 w.heap.size (.slice ja j' jc) ((ys.take (k + 1)).foldl addN ls) ∧ Below w.heap.size w w4 ∧ Kq wq w3 w4 (.slice ja j' jc)) := by
                  rw [HA.out]
                  exact ⟨HM.out.1, HM.out.2.1, owns_below HM.out.2.2.1 h4, HM.out.2.2.2.1.trans (h4.mono HM.out.2.2.2.1.size), HM.out.2.2.2.2.below h4⟩
                clear h4 H37 p0 p1 HM
                go_wp2_with fail
                go_roundw
                case rel => exact ⟨k + 1, ja, j', jc, by omega, hjU', rfl, by go_num, HF⟩
                case measure => simp [intOf]; omega
            · have hkI : ¬ (k : Int) < (kn : Int) := by omega
              have HF : Hid (∃ ls, NdL m rs ls (i + 1) ∧ ls.length = j' ∧ OwnN wr w.heap.size (.slice ja j' jc) ls ∧ Below w.heap.size w wr) := by
                have e1 : ys.take k = ys := List.take_of_length_le (by have := HKL.out; omega)
                obtain ⟨_, h2, h3, h4⟩ := HM.out
                rw [e1] at h2 h3
                exact ⟨_, HST.out.2, h2, h3, h4.1⟩
              have hij' : i + 1 ≤ j' := by
                have h1 := HM.out.2.1
                obtain ⟨r, hr⟩ := addN_fold_pre (ys.take k) ls
                have h2 : i < ls.length := (List.getElem?_eq_some_iff.1 HY.out).1
                rw [← hr, List.length_append] at h1
                omega
              clear HM
              go_wp2_with fail
              go_roundw
              case rel => exact ⟨i + 1, ja, j', jc, hij', hjU', rfl, by go_num, HF⟩
              case measure => simp [intOf]; omega
        · have hltI : ¬ (i : Int) < (j : Int) := by omega
          obtain rfl : i = j := by omega
          have H39 : Calls Tryz.prog 39 #[.slice none 0 0, .slice ja i jc] wr fun e w' => NdR m rs e w w' := by
            obtain ⟨ls, h1, h2, h3, h4⟩ := HK.out
            refine (z39 ls ja i jc wr (namesAt_of_owns h3 (by unfold maxLen; omega)) (by omega)).mono ?_
            rintro e w' ⟨a, j', c, rfl, g1, g2, g3⟩
            subst h2
            exact ⟨a, j', c, rfl, risR ls, h1.done, g1, row_low g2 h4.size, h4.trans (g3.mono h4.size)⟩
          clear HK
          go_wp2_with fail
          refine H39.mono ?_
          rintro e w4 ⟨a, j', c, rfl, H4⟩
          clear H39
          go_wp2_with fail
          go_ret
          exact ⟨a, j', c, rfl, H4⟩
end Go.Proofs.YtojobiefambkoaaGreatDoor
