/- Contracts of the reference's callsOf, Clauses. Contract of the reference's wrong: too long, and heads. -/
import Derived.Test.YtlfccjlifjppdaaGreatDoorQ22
namespace Go.Proofs.YtlfccjlifjppdaaGreatDoor
open Go.RowKit
attribute [local go_sem ↓] Go.wp_at_zero Go.wp_at_succ
set_option maxRecDepth 100000 in
set_option maxHeartbeats 2000000 in
theorem z45 (c : Cl) (x : ClV) (w : World) (h : ClAt w x c) (hl : c.bs.length ≤ 5864062014800) :
    Calls Tryz.prog 45 #[.agg #[x.hv, x.gv, x.bv, .int .i64 x.n]] w fun e w' => ∃ u, e = .returned u ∧ w'.ownsRow w.heap.size 87 2 u (calledS c.bs).length (flatP (calledS c.bs)) ∧ Below w.heap.size w w' := by
  obtain ⟨bs, hbs⟩ : ∃ bs, c.bs = bs := ⟨_, rfl⟩
  obtain ⟨h1, h2, h3, h4⟩ := h
  rw [hbs] at h3 hl ⊢
  have HR : Hid (RowAt w x.bv bs) := h3
  obtain ⟨a1, c1, e1⟩ := h1.form
  obtain ⟨a2, c2, e2⟩ := h2.form
  obtain ⟨a3, c3, e3⟩ := h3.form
  rw [e3] at HR
  rw [e1, e2, e3]
  generalize x.n = xn
  generalize c.hd.length = l1
  generalize c.gs.length = l2
  clear h1 h2 h3 h4 e1 e2 e3 hbs
  have HBox : Hid (∀ W, Below (w.heap.size + 1) (w.alloc (.cells #[.slice a1 l1 c1, .slice a2 l2 c2, .slice a3 bs.length c3, .int .i64 xn] 66)) W → W.cell? ⟨w.heap.size, 2, none⟩ = some (.slice a3 bs.length c3)) := fun W hW => by
    have e1 : W.heap[w.heap.size]? = some (.cells #[.slice a1 l1 c1, .slice a2 l2 c2, .slice a3 bs.length c3, .int .i64 xn] 66 (0, 0)) := (hW.block w.heap.size (by omega)).trans (heap_alloc_new w _)
    rw [cell_of_row W _ 2 _ 66 (0, 0) e1]; rfl
  have HB0 : Hid (Below w.heap.size w (w.alloc (.cells #[.slice a1 l1 c1, .slice a2 l2 c2, .slice a3 bs.length c3, .int .i64 xn] 66))) := (Below.refl _ w).alloc (Nat.le_refl _) _
  go_enter Tryz.func45, Tryz.ntmps45
  go_wp2_with fail
  go_loopw [3, 4] (fun out i wr => ∃ k : Nat, k ≤ bs.length ∧ i = .int .i64 k ∧ Hid (wr.ownsRow (w.heap.size + 1) 87 2 out (calledS (bs.take k)).length (flatP (calledS (bs.take k)))) ∧ w.heap.size + 1 ≤ wr.heap.size ∧ Below (w.heap.size + 1) (w.alloc (.cells #[.slice a1 l1 c1, .slice a2 l2 c2, .slice a3 bs.length c3, .int .i64 xn] 66)) wr) (fun _ i _ => bs.length - (intOf i).toNat)
  case atStart => exact ⟨0, by omega, rfl, World.ownsRow_nil _ _ _ _, by simp, Below.refl _ _⟩
  case round =>
    obtain ⟨k, hk, rfl, HO, hsz, hbr0⟩ := hrel
    have hbr : Below w.heap.size w wr := HB0.out.trans (hbr0.mono (by omega))
    have b2 := HBox.out wr hbr0
    by_cases hlt : k < bs.length
    · have hlt' : (k : Int) < (bs.length : Int) := by omega
      have hk0 : (0 : Int) ≤ (k : Int) := by omega
      obtain ⟨rb, ro, rc, y, hu, cy, hTy, _⟩ := row_at (HR.out.below hbr) k hlt
      simp only [Value.slice.injEq] at hu
      obtain ⟨rfl, _, rfl⟩ := hu
      have H46 := z46 bs[k] y wr hTy
      have HY : Hid (callB bs[k] = true → calledS (bs.take (k + 1)) = addP (calledS (bs.take k)) (predS (callT bs[k]))) := calledS_yes bs k hlt
      have HN : Hid (callB bs[k] = false → calledS (bs.take (k + 1)) = calledS (bs.take k)) := calledS_no bs k hlt
      have hcl : (calledS (bs.take k)).length ≤ 5864062014800 := by
        refine Nat.le_trans (calledS_len _) ?_
        rw [List.length_take]; omega
      obtain ⟨ay, cpy, hy⟩ := hTy.form
      subst hy
      clear hTy
      generalize bs[k] = t at *
      generalize t.length = tl at *
      generalize calledS (bs.take k) = ac at *
      go_wp2_with fail
      refine H46.mono ?_
      rintro e w3 ⟨p, rfl, hp, hb3⟩
      have hbw3 : Below (w.heap.size + 1) (w.alloc (.cells #[.slice a1 l1 c1, .slice a2 l2 c2, .slice (some ⟨rb, ro, none⟩) bs.length c3, .int .i64 xn] 66)) w3 := hbr0.trans (hb3.mono hsz)
      have hsz3 : w.heap.size + 1 ≤ w3.heap.size := Nat.le_trans hsz hb3.size
      have HO3 : Hid ((w3.alloc (.cells #[.string p.1, .int .i64 p.2] 87)).ownsRow (w.heap.size + 1) 87 2 u3 ac.length (flatP ac)) := (owns_below HO.out hb3).alloc _
      have hba : Below (w.heap.size + 1) (w.alloc (.cells #[.slice a1 l1 c1, .slice a2 l2 c2, .slice (some ⟨rb, ro, none⟩) bs.length c3, .int .i64 xn] 66)) (w3.alloc (.cells #[.string p.1, .int .i64 p.2] 87)) := hbw3.alloc hsz3 _
      clear hb3 H46 b2 cy
      cases hcb : callB t
      · have HE : Hid (calledS (bs.take (k + 1)) = ac) := HN.out hcb
        clear hcb hp
        go_wp2_with fail
        go_roundw
        case rel => exact ⟨k + 1, by omega, by go_num, by rw [HE.out]; exact HO3.out, by simp; omega, hba⟩
        case measure => simp [intOf]; omega
      · have HE : Hid (calledS (bs.take (k + 1)) = addP ac p) := by
          show calledS (bs.take (k + 1)) = _
          rw [hp hcb]; exact HY.out hcb
        have H42 := z42 ac p (w.heap.size + 1) u3 _ HO3.out hcl (by simp; omega)
        clear hcb hp
        go_wp2_with fail
        refine H42.mono ?_
        rintro e w4 ⟨v4, rfl, hO4, hb4, _⟩
        have HO4 : Hid (w4.ownsRow (w.heap.size + 1) 87 2 v4 (addP ac p).length (flatP (addP ac p))) := hO4
        have hsz4 : w.heap.size + 1 ≤ w4.heap.size := by have := hb4.size; simp at this; omega
        clear hO4 H42
        go_wp2_with fail
        go_roundw
        case rel => exact ⟨k + 1, by omega, by go_num, by rw [HE.out]; exact HO4.out, hsz4, hba.trans hb4⟩
        case measure => simp [intOf]; omega
    · have hlt' : ¬ ((k : Int) < (bs.length : Int)) := by omega
      rw [List.take_of_length_le (by omega)] at HO
      go_wp2_with fail
      go_ret
      refine ⟨_, rfl, ?_, hbr⟩
      refine ⟨HO.out.1, ?_⟩
      rcases HO.out.2 with h | ⟨g, cap, cur, e1, e2, e3⟩
      · exact .inl h
      · exact .inr ⟨g, cap, cur, e1, by omega, e3⟩
theorem hasK_is (c : Cl) (x : Pd) : hasK c x = (hasNameS c.hd && isB c.hd x.1 x.2) := by
  unfold hasK
  cases hn : hasNameS c.hd
  · rfl
  · have h0 : 0 < c.hd.length := by
      cases hh : c.hd with
      | nil => rw [hh] at hn; simp [hasNameS] at hn
      | cons _ _ => simp
    have hk : c.hd[0].k = 2 ∨ c.hd[0].k = 3 := by
      generalize c.hd = l at *
      match l, h0, hn with
      | c :: r, _, hn =>
        simp [hasNameS] at hn
        exact hn.1
    rw [isB_get h0]
    unfold hasP predS
    rw [headC_get h0]
    obtain ⟨x1, x2⟩ := x
    rcases hk with hk | hk
    · have h02 : ((0 : Int) == x2) = (x2 == 0) := by
        rw [Bool.eq_iff_iff, beq_iff_eq, beq_iff_eq]; exact ⟨fun h => h.symm, fun h => h.symm⟩
      simp [hk, h02]
    · simp [hk]
theorem info3 : ∃ i, Tryz.prog.info? 3 = some i ∧ i.zero = some (.int .i64 0) ∧ i.size = 1 ∧ i.bytes = 8 := by
  have h : (Tryz.prog.info? 3).map (fun i => (i.zero, i.size, i.bytes)) = some (some (.int .i64 0), 1, 8) := by kernel_rfl
  cases hq : Tryz.prog.info? 3 with
  | none => rw [hq] at h; cases h
  | some i =>
    rw [hq] at h
    simp only [Option.map_some, Option.some.injEq, Prod.mk.injEq] at h
    exact ⟨i, rfl, h.1, h.2.1, h.2.2⟩
theorem idxG_yes (cs : List Cl) (x : Pd) (k : Nat) (hk : k < cs.length) (h : hasK cs[k] x = true) : idxG cs x (k + 1) = idxG cs x k ++ [(k : Int)] := by
  have e : idxG cs x (k + 1) = match cs[k]? with | some c => if hasK c x then idxG cs x k ++ [(k : Int)] else idxG cs x k | none => idxG cs x k := rfl
  rw [e, List.getElem?_eq_getElem hk]; simp [h]
theorem idxG_no (cs : List Cl) (x : Pd) (k : Nat) (hk : k < cs.length) (h : hasK cs[k] x = false) : idxG cs x (k + 1) = idxG cs x k := by
  have e : idxG cs x (k + 1) = match cs[k]? with | some c => if hasK c x then idxG cs x k ++ [(k : Int)] else idxG cs x k | none => idxG cs x k := rfl
  rw [e, List.getElem?_eq_getElem hk]; simp [h]
theorem idxG_le (cs : List Cl) (x : Pd) (k : Nat) : (idxG cs x k).length ≤ k := by
  induction k with
  | zero => simp [idxG]
  | succ k ih =>
    have e : idxG cs x (k + 1) = match cs[k]? with | some c => if hasK c x then idxG cs x k ++ [(k : Int)] else idxG cs x k | none => idxG cs x k := rfl
    rw [e]
    cases cs[k]? with
    | none => simp only; omega
    | some c =>
      simp only
      split
      · simp; omega
      · omega
set_option maxRecDepth 100000 in
set_option maxHeartbeats 2000000 in
theorem z19 (cs : List Cl) (x : Pd) (v : Value) (w : World) (hP : ProgAt w v cs) (hl : cs.length ≤ 1759218604441) :
    Calls Tryz.prog 19 #[v, .string x.1, .int .i64 x.2] w fun e w' => ∃ u, e = .returned u ∧ w'.ownsInts w.heap.size 3 .i64 u (idxG cs x cs.length) ∧ Below w.heap.size w w' := by
  have HP : Hid (ProgAt w v cs) := hP
  obtain ⟨i0, hi, hz, hs, hby⟩ := info3
  obtain ⟨ad, cap, hv⟩ := hP.form
  subst hv
  clear hP
  obtain ⟨x1, x2⟩ := x
  go_enter Tryz.func19, Tryz.ntmps19
  go_wp2_with fail
  go_loopw [7, 8] (fun out i wr => ∃ k : Nat, k ≤ cs.length ∧ i = .int .i64 k ∧ Hid (wr.ownsInts w.heap.size 3 .i64 out (idxG cs (x1, x2) k)) ∧ Below w.heap.size w wr) (fun _ i _ => cs.length - (intOf i).toNat)
  case atStart => exact ⟨0, by omega, rfl, World.ownsInts_nil _ _ _ _, Below.refl _ _⟩
  case round =>
    obtain ⟨k, hk, rfl, HO, hbr⟩ := hrel
    have hsz := hbr.size
    by_cases hlt : k < cs.length
    · have hlt' : (k : Int) < (cs.length : Int) := by omega
      have hk0 : (0 : Int) ≤ (k : Int) := by omega
      obtain ⟨b, o, cp, y, hu, ⟨p0, p1, p2, p3⟩, ⟨hT, _, _, _⟩, hb⟩ := prog_at (HP.out.below hbr) k hlt
      simp only [Value.slice.injEq] at hu
      obtain ⟨rfl, _, rfl⟩ := hu
      have H41 := z41 cs[k].hd y.hv wr hT
      have H27 : Hid (∀ W, Below wr.heap.size wr W → Calls Tryz.prog 27 #[y.hv, .string x1, .int .i64 x2] W fun e w' => e = .returned (.bool (isB cs[k].hd x1 x2)) ∧ w' = W) := fun W hW => c29 cs[k].hd y.hv x1 x2 W (hT.below hW)
      have HYes : Hid (hasK cs[k] (x1, x2) = true → idxG cs (x1, x2) (k + 1) = idxG cs (x1, x2) k ++ [(k : Int)]) := idxG_yes cs _ k hlt
      have HNo : Hid (hasK cs[k] (x1, x2) = false → idxG cs (x1, x2) (k + 1) = idxG cs (x1, x2) k) := idxG_no cs _ k hlt
      have HK : Hid (hasK cs[k] (x1, x2) = (hasNameS cs[k].hd && isB cs[k].hd x1 x2)) := hasK_is cs[k] (x1, x2)
      have hil := idxG_le cs (x1, x2) k
      obtain ⟨ah, ch, eh⟩ := hT.form
      rw [eh] at p0 H41 H27
      clear hT eh p1 p2 p3
      generalize idxG cs (x1, x2) k = zs at *
      generalize cs[k] = c at *
      generalize c.hd.length = hl1 at *
      cases hn : hasNameS c.hd
      · have HE : Hid (idxG cs (x1, x2) (k + 1) = zs) := HNo.out (by rw [HK.out, hn]; rfl)
        rw [hn] at H41
        clear hn HK
        go_wp2_with fail
        refine H41.mono ?_
        rintro e w1 ⟨rfl, hb1⟩
        go_wp2_with fail
        go_roundw
        case rel => exact ⟨k + 1, by omega, by go_num, by rw [HE.out]; exact ⟨owns_below HO.out.1 hb1, HO.out.2⟩, hbr.trans (hb1.mono hsz)⟩
        case measure => simp [intOf]; omega
      · rw [hn] at H41
        cases hi2 : isB c.hd x1 x2
        · have HE : Hid (idxG cs (x1, x2) (k + 1) = zs) := HNo.out (by rw [HK.out, hn, hi2]; rfl)
          rw [hi2] at H27
          clear hn HK hi2
          go_wp2_with fail
          refine H41.mono ?_
          rintro e w1 ⟨rfl, hb1⟩
          have q0 : w1.cell? ⟨b, o + k * 4, none⟩ = some (.slice ah hl1 ch) := (hb1.cell (p := ⟨b, o + k * 4, none⟩) hb).trans p0
          clear H41
          go_wp2_with fail
          refine (H27.out w1 hb1).mono ?_
          rintro e w2 ⟨rfl, hw2⟩
          obtain rfl := hw2.symm
          go_wp2_with fail
          go_roundw
          case rel => exact ⟨k + 1, by omega, by go_num, by rw [HE.out]; exact ⟨owns_below HO.out.1 hb1, HO.out.2⟩, hbr.trans (hb1.mono hsz)⟩
          case measure => simp [intOf]; omega
        · have HE : Hid (idxG cs (x1, x2) (k + 1) = zs ++ [(k : Int)]) := HYes.out (by rw [HK.out, hn, hi2]; rfl)
          rw [hi2] at H27
          clear hn HK hi2
          go_wp2_with fail
          refine H41.mono ?_
          rintro e w1 ⟨rfl, hb1⟩
          have q0 : w1.cell? ⟨b, o + k * 4, none⟩ = some (.slice ah hl1 ch) := (hb1.cell (p := ⟨b, o + k * 4, none⟩) hb).trans p0
          clear H41
          go_wp2_with fail
          refine (H27.out w1 hb1).mono ?_
          rintro e w2 ⟨rfl, hw2⟩
          obtain rfl := hw2.symm
          have HO1 : Hid ((w1.alloc (.cells #[.int .i64 k] 3)).ownsInts w.heap.size 3 .i64 u7 zs) := by
            have h9 : w1.ownsInts w.heap.size 3 .i64 u7 zs := ⟨owns_below HO.out.1 hb1, HO.out.2⟩
            exact h9.alloc _
          have hbw1 : Below w.heap.size w w1 := hbr.trans (hb1.mono hsz)
          have hsz1 := hbw1.size
          have hbwa : Below w.heap.size w (w1.alloc (.cells #[.int .i64 k] 3)) := hbw1.alloc hsz1 _
          have HNews : Hid (∀ j u, [(.int .i64 k : Value)][j]? = some u → (w1.alloc (.cells #[.int .i64 k] 3)).cell? ((⟨w1.heap.size, 0, none⟩ : Addr).add j) = some u) := fun j u hu => by
            rw [Addr.add_mid]
            exact range_new w1 [.int .i64 k] 3 j u hu
          clear q0 p0
          go_wp2_with (at_builtin; refine wpList_append_own _ rfl _ _ 36 rfl w.heap.size 3 i0 (.int .i64 0) 1 8 Tryz.underlying36 hi hz hs hby rfl (by decide) _ _ _ rfl HO1.out.1 ⟨w1.heap.size, 0, none⟩ 1 1 [.int .i64 k] rfl rfl HNews.out (fun u hu => by simp at hu; subst hu; rfl) (by unfold maxLen; omega) (by omega) (by simp; omega) ?_)
          intro v' w' hown hgr _
          have HF : Hid (w'.ownsInts w.heap.size 3 .i64 v' (zs ++ [(k : Int)])) := World.ownsInts.appended HO1.out hown (WalkArith.wf_i64 (by omega))
          have HBf : Hid (Below w.heap.size w w') := hbwa.grown hgr (by simp; omega) (fun g hg => (HO1.out.1.lt g hg).1)
          clear hown hgr
          go_wp2_with fail
          go_roundw
          case rel => exact ⟨k + 1, by omega, by go_num, by rw [HE.out]; exact HF.out, HBf.out⟩
          case measure => simp [intOf]; omega
    · have hlt' : ¬ ((k : Int) < (cs.length : Int)) := by omega
      have hkl : k = cs.length := by omega
      subst hkl
      go_wp2_with fail
      go_ret
      exact ⟨_, rfl, HO.out, hbr⟩
end Go.Proofs.YtlfccjlifjppdaaGreatDoor
namespace Go.Proofs.YtlfccjlifjppdaaGreatDoor
open Go.RowKit
attribute [local go_sem ↓] Go.wp_at_zero Go.wp_at_succ
theorem box66 {w W : World} {a b c d : Value} (hW : Below (w.heap.size + 1) (w.alloc (.cells #[a, b, c, d] 66)) W) : W.cell? ⟨w.heap.size, 0, none⟩ = some a ∧ W.cell? ⟨w.heap.size, 1, none⟩ = some b ∧ W.cell? ⟨w.heap.size, 2, none⟩ = some c ∧ W.cell? ⟨w.heap.size, 3, none⟩ = some d := by
  have e1 : W.heap[w.heap.size]? = some (.cells #[a, b, c, d] 66 (0, 0)) := (hW.block w.heap.size (by omega)).trans (heap_alloc_new w _)
  refine ⟨?_, ?_, ?_, ?_⟩
  · rw [cell_of_row W _ 0 _ 66 (0, 0) e1]; rfl
  · rw [cell_of_row W _ 1 _ 66 (0, 0) e1]; rfl
  · rw [cell_of_row W _ 2 _ 66 (0, 0) e1]; rfl
  · rw [cell_of_row W _ 3 _ 66 (0, 0) e1]; rfl
set_option maxRecDepth 100000 in
set_option maxHeartbeats 2000000 in
theorem z31_5 (v : Value) (a1 a2 a3 : Option Addr) (l1 c1 g c2 b c3 : Nat) (n : Int) (w : World) :
    Calls Tryz.prog 31 #[v, .agg #[.slice a1 l1 c1, .slice a2 g c2, .slice a3 b c3, .int .i64 n], .int .i64 5] w fun e w' => e = .returned (.bool (longS g b n)) ∧ Below w.heap.size w w' := by
  have HL : Hid (longS g b n = (decide ((4 : Int) < (g : Int)) || decide ((8 : Int) < (b : Int)) || decide ((16 : Int) < n))) := rfl
  have HB : ∀ o : Obj, Hid (Below w.heap.size w (w.alloc o)) := fun o => below_alloc w o
  by_cases h1 : (4 : Int) < (g : Int)
  · have HE : Hid (longS g b n = true) := by show longS g b n = true; rw [HL.out]; simp [h1]
    go_enter Tryz.func31, Tryz.ntmps31
    go_wp2_with fail
    go_ret
    exact ⟨by rw [HE.out]; rfl, (HB _).out⟩
  · by_cases h2 : (8 : Int) < (b : Int)
    · have HE : Hid (longS g b n = true) := by show longS g b n = true; rw [HL.out]; simp [h2]
      go_enter Tryz.func31, Tryz.ntmps31
      go_wp2_with fail
      go_ret
      exact ⟨by rw [HE.out]; rfl, (HB _).out⟩
    · by_cases h3 : (16 : Int) < n
      · have HE : Hid (longS g b n = true) := by show longS g b n = true; rw [HL.out]; simp [h3]
        go_enter Tryz.func31, Tryz.ntmps31
        go_wp2_with fail
        go_ret
        exact ⟨by rw [HE.out]; rfl, (HB _).out⟩
      · have HE : Hid (longS g b n = false) := by show longS g b n = false; rw [HL.out]; simp [h1, h2, h3]
        go_enter Tryz.func31, Tryz.ntmps31
        go_wp2_with fail
        go_ret
        exact ⟨by rw [HE.out]; rfl, (HB _).out⟩
theorem headOk_eq (l : List C) : (!headOk l) = (!hasNameS l || isTrueS l || twiceS l) := by
  unfold headOk twiceS
  have e : (((varsOf l).length : Int) != ((nubN (varsOf l)).length : Int)) = !decide ((nubN (varsOf l)).length = (varsOf l).length) := by
    by_cases h : (nubN (varsOf l)).length = (varsOf l).length
    · simp [h]
    · have h' : ((varsOf l).length : Int) ≠ ((nubN (varsOf l)).length : Int) := by omega
      simp [h, h']
  rw [e]
  cases hasNameS l <;> cases isTrueS l <;> simp
set_option maxRecDepth 100000 in
set_option maxHeartbeats 2000000 in
theorem z31_40 (hd : List C) (hv v : Value) (a2 a3 : Option Addr) (g c2 b c3 : Nat) (n : Int) (w : World) (h : TermAt w hv hd) (hr : rightB hd = true) :
    Calls Tryz.prog 31 #[v, .agg #[hv, .slice a2 g c2, .slice a3 b c3, .int .i64 n], .int .i64 40] w fun e w' => e = .returned (.bool (!headOk hd)) ∧ Below w.heap.size w w' := by
  have HT : Hid (TermAt w hv hd) := h
  have hL := (right_len hr).2
  have HE : Hid ((!headOk hd) = (!hasNameS hd || isTrueS hd || twiceS hd)) := headOk_eq hd
  have H41 : Hid (∀ W, Below w.heap.size w W → Calls Tryz.prog 41 #[hv] W fun e w' => e = .returned (.bool (hasNameS hd)) ∧ Below W.heap.size W w') := fun W hW => z41 hd hv W (HT.out.below hW)
  have H27 : Hid (∀ W, Below w.heap.size w W → Calls Tryz.prog 27 #[hv, .string tTrue, .int .i64 0] W fun e w' => e = .returned (.bool (isTrueS hd)) ∧ w' = W) := fun W hW => c29 hd hv tTrue 0 W (HT.out.below hW)
  have H66 : Hid (∀ W, Below w.heap.size w W → Calls Tryz.prog 66 #[hv] W fun e w' => e = .returned (.bool (twiceS hd)) ∧ Below W.heap.size W w') := fun W hW => z66 hd hv W (HT.out.below hW) (by omega)
  unfold tTrue at H27
  obtain ⟨a1, c1, e1⟩ := h.form
  rw [e1] at H41 H27 H66 ⊢
  have HB0 : Hid (Below w.heap.size w (w.alloc (.cells #[.slice a1 hd.length c1, .slice a2 g c2, .slice a3 b c3, .int .i64 n] 66))) := below_alloc w _
  have HBox : Hid (∀ W, Below (w.alloc (.cells #[.slice a1 hd.length c1, .slice a2 g c2, .slice a3 b c3, .int .i64 n] 66)).heap.size (w.alloc (.cells #[.slice a1 hd.length c1, .slice a2 g c2, .slice a3 b c3, .int .i64 n] 66)) W → W.cell? ⟨w.heap.size, 0, none⟩ = some (.slice a1 hd.length c1)) := fun W hW => (box66 (hW.mono (by simp))).1
  clear h hr e1 hL
  generalize hd.length = hl at *
  cases q1 : hasNameS hd
  · have HF : Hid ((!headOk hd) = true) := by show (!headOk hd) = true; rw [HE.out, q1]; rfl
    rw [q1] at H41
    go_enter Tryz.func31, Tryz.ntmps31
    go_wp2_with fail
    refine (H41.out _ HB0.out).mono ?_
    rintro e w1 ⟨rfl, hb1⟩
    go_wp2_with fail
    go_ret
    exact ⟨by rw [HF.out]; rfl, HB0.out.trans (hb1.mono HB0.out.size)⟩
  · rw [q1] at H41
    cases q2 : isTrueS hd
    · have HF : Hid ((!headOk hd) = twiceS hd) := by show (!headOk hd) = _; rw [HE.out, q1, q2]; rfl
      rw [q2] at H27
      clear q1 q2
      go_enter Tryz.func31, Tryz.ntmps31
      go_wp2_with fail
      refine (H41.out _ HB0.out).mono ?_
      rintro e w1 ⟨rfl, hb1⟩
      have hbw1 : Below w.heap.size w w1 := HB0.out.trans (hb1.mono HB0.out.size)
      have q0 := HBox.out w1 hb1
      go_wp2_with fail
      refine (H27.out w1 hbw1).mono ?_
      rintro e w2 ⟨rfl, hw2⟩
      obtain rfl := hw2.symm
      go_wp2_with fail
      refine (H66.out w1 hbw1).mono ?_
      rintro e w3 ⟨rfl, hb3⟩
      generalize twiceS hd = tw at *
      go_wp2_with fail
      go_ret
      exact ⟨by rw [HF.out]; rfl, hbw1.trans (hb3.mono hbw1.size)⟩
    · have HF : Hid ((!headOk hd) = true) := by show (!headOk hd) = true; rw [HE.out, q1, q2]; rfl
      rw [q2] at H27
      clear q1 q2
      go_enter Tryz.func31, Tryz.ntmps31
      go_wp2_with fail
      refine (H41.out _ HB0.out).mono ?_
      rintro e w1 ⟨rfl, hb1⟩
      have hbw1 : Below w.heap.size w w1 := HB0.out.trans (hb1.mono HB0.out.size)
      have q0 := HBox.out w1 hb1
      go_wp2_with fail
      refine (H27.out w1 hbw1).mono ?_
      rintro e w2 ⟨rfl, hw2⟩
      obtain rfl := hw2.symm
      go_wp2_with fail
      go_ret
      exact ⟨by rw [HF.out]; rfl, hbw1⟩
end Go.Proofs.YtlfccjlifjppdaaGreatDoor
