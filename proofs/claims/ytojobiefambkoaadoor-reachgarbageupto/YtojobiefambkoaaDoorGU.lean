/- The statement on what is not reached: it returns true. -/
import Derived.Test.YtojobiefambkoaaDoorFF
import Derived.Test.YtojobiefambkoaaDoorGT
namespace Go.Proofs.YtojobiefambkoaaDoor
open Go.RowKit
attribute [local go_sem ↓] Go.wp_at_zero Go.wp_at_succ
theorem bd_below {w W : World} {a : Option Addr} {n : Nat} {bs : List Bn} (h : BdRow w a n bs) (hb : Below w.heap.size w W) : BdRow W a n bs := by
  refine ⟨⟨h.row.len, ?_⟩, fun b hbm => ?_⟩
  · rcases h.row.mem with e | ⟨b, o, e, h1, h2⟩
    · exact .inl e
    · exact .inr ⟨b, o, e, Nat.lt_of_lt_of_le h1 hb.size, range_below h2 h1 hb⟩
  · obtain ⟨h1, h2⟩ := h.el b hbm
    exact ⟨h1.below hb, h2⟩
/-- A name of a row in memory. -/
theorem names_at {w : World} {a : Option Addr} {n c : Nat} {l : List Nm} (h : NamesAt w (.slice a n c) l) {k : Nat} (hk : k < n) : ∃ b o, ∃ (hx : k < l.length), a = some ⟨b, o, none⟩ ∧ b < w.heap.size ∧ w.cell? ⟨b, o + k * 2, none⟩ = some (.int .i64 l[k].1) ∧ w.cell? ⟨b, o + k * 2 + 1, none⟩ = some (.int .i64 l[k].2) := by
  have hl := names_len h rfl
  obtain ⟨_, ⟨e, _⟩ | ⟨b, o, cap, e, hr, hb⟩⟩ := h
  · rw [e] at hl; simp at hl; omega
  · simp only [Value.slice.injEq] at e
    have hx : k < l.length := by omega
    exact ⟨b, o, hx, e.1, hb, name_cells hr k hx⟩
set_option maxRecDepth 100000 in
set_option maxHeartbeats 4000000 in
theorem r5 (a0 : Option Addr) (n0 c0 : Nat) (bs : List Bn) (ra : Option Addr) (rn rc : Nat) (rs : List Nm) (w : World) (hA : BdRow w a0 n0 bs) (hn : n0 ≤ 10000000) (hr : NamesAt w (.slice ra rn rc) rs) (hrl : rs.length ≤ 10000000) (hrw : ∀ x ∈ rs, wfN x) (hS : Signs w) :
    Calls Tryd.prog 5 #[.slice a0 n0 c0, .slice ra rn rc] w fun e w' => e = .returned (.bool true) ∧ Below w.heap.size w w' := by
  have HV : Hid (BdRow w a0 n0 bs ∧ n0 ≤ 10000000 ∧ NamesAt w (.slice ra rn rc) rs ∧ rs.length ≤ 10000000 ∧ (∀ x ∈ rs, wfN x) ∧ Signs w) := ⟨hA, hn, hr, hrl, hrw, hS⟩
  obtain ⟨m, hm⟩ : ∃ m, foldB bs = m := ⟨_, rfl⟩
  have HM : Hid (foldB bs = m) := hm
  have H7 := f7 w hS
  clear hA hn hr hrl hrw hS hm
  go_enter Tryd.func5, Tryd.ntmps5
  go_wp2_with fail
  refine H7.mono ?_
  rintro e w1 ⟨rfl, h1⟩
  have HB1 : Hid (Below w.heap.size w w1) := h1
  clear H7 h1
  have H8 : Calls Tryd.prog 8 #[.slice a0 n0 c0] w1 fun e w' => ∃ hb M rt, e = .returned (.tuple #[.pointer (some ⟨hb, 0, none⟩), .pointer (some ⟨rt, 0, none⟩)]) ∧ Hid (St w1 hb M n0 m w') := by
    have h := st8 a0 n0 c0 bs w1 (bd_below HV.out.1 HB1.out) HV.out.2.1 (HV.out.2.2.2.2.2.below HB1.out)
    rw [HM.out] at h
    exact h
  go_wp2_with fail
  refine H8.mono ?_
  rintro e w2 ⟨hb, M, rt, rfl, HS2⟩
  clear H8
  have HN2 : Hid (NamesAt w2 (.slice ra rn rc) rs ∧ Below w.heap.size w w2) := ⟨HV.out.2.2.1.below (HB1.out.trans (HS2.out.bel.mono HB1.out.size)), HB1.out.trans (HS2.out.bel.mono HB1.out.size)⟩
  have H9 := st9 HS2.out rs ra rn rc HN2.out.1 HV.out.2.2.2.2.1 (by have := HV.out.2.2.2.1; omega)
  go_wp2_with fail
  refine H9.mono ?_
  rintro e w3 ⟨xs, xa, xn, xc, rfl, HX⟩
  clear H9
  have HS3 : Hid (St w1 hb M n0 m w3) := HS2.out.below HX.out.2.2.2.2.1
  have HN3 : Hid (NamesAt w3 (.slice ra rn rc) rs) := HN2.out.1.below HX.out.2.2.2.2.1
  have H16 := st16 HS3.out rs ra rn rc HN3.out HV.out.2.2.2.2.1 (by have := HV.out.2.2.2.1; omega)
  go_wp2_with fail
  refine H16.mono ?_
  rintro e w4 ⟨xs', ga, gn, gc, rfl, HG'⟩
  clear H16
  have HG : Hid ((garbF m xs).length = gn ∧ OwnN w4 w3.heap.size (.slice ga gn gc) (garbF m xs) ∧ NamesAt w4 (.slice ga gn gc) (garbF m xs) ∧ Below w3.heap.size w3 w4 ∧ ∀ x ∈ garbF m xs, wfN x) := by
    have e1 : xs' = xs := HG'.out.1.like HX.out.1
    have h := HG'.out.2
    rw [e1] at h
    exact h
  clear HG'
  have HS4 : Hid (St w1 hb M n0 m w4) := HS3.out.below HG.out.2.2.2.1
  have HN4 : Hid (NamesAt w4 (.slice ra rn rc) rs ∧ NamesAt w4 (.slice xa xn xc) xs ∧ OwnN w4 w2.heap.size (.slice xa xn xc) xs) := by
    refine ⟨HN3.out.below HG.out.2.2.2.1, HX.out.2.2.2.1.below HG.out.2.2.2.1, ?_⟩
    have h := HX.out.2.2.1
    exact owns_below h HG.out.2.2.2.1
  have hgn : gn ≤ 10000000 := by
    have h1 := garb_le m xs
    have h2 := HS4.out.len
    have h3 := HG.out.1
    have h4 := HV.out.2.1
    omega
  clear HS2 HS3 HN2 HN3
  go_wp2_with fail
  go_loopw [9] (fun i wr => ∃ k : Nat, k ≤ gn ∧ i = .int .i64 k ∧ Hid (Below w4.heap.size w4 wr)) (fun i _ => gn - (intOf i).toNat)
  case atStart => exact ⟨0, Nat.zero_le _, rfl, Below.refl _ _⟩
  case round =>
    obtain ⟨k, hk, rfl, HK⟩ := hrel
    by_cases hlt : k < gn
    · have hltI : (k : Int) < (gn : Int) := by omega
      have hk0 : (0 : Int) ≤ (k : Int) := by omega
      obtain ⟨b, o, hx, rfl, hbl, p0, p1⟩ := names_at (HG.out.2.2.1.below HK.out) hlt
      have HE : Hid ((garbF m xs)[k] ∈ garbF m xs) := List.getElem_mem hx
      generalize (garbF m xs)[k] = y at *
      obtain ⟨y1, y2⟩ := y
      simp only at p0 p1
      have H13 : Calls Tryd.prog 13 #[.pointer (some ⟨hb, 0, none⟩), .agg #[.int .i64 y1, .int .i64 y2]] wr fun e w' => ∃ ta tn tc, e = .returned (.tuple #[.slice ta tn tc, .bool true]) ∧ Hid (Below w4.heap.size w4 w') := by
        have h := st13 (HS4.out.below HK.out) (y1, y2) (HG.out.2.2.2.2 _ HE.out)
        obtain ⟨_, l, hl⟩ := garb_mem.1 HE.out
        obtain ⟨l', hl'⟩ := look_some_mem hl
        rw [hl'] at h
        refine h.mono ?_
        rintro e w' ⟨a, j, c, rfl, h1⟩
        exact ⟨a, j, c, rfl, HK.out.trans (h1.out.2.mono HK.out.size)⟩
      have HW0 : Hid (Below w4.heap.size w4 wr) := HK.out
      go_wp2_with fail
      refine H13.mono ?_
      rintro e w5 ⟨ta, tn, tc, rfl, H5⟩
      clear H13 HK
      have H14 : Calls Tryd.prog 14 #[.slice xa xn xc, .agg #[.int .i64 y1, .int .i64 y2]] w5 fun e w' => e = .returned (.bool false) ∧ Hid (Below w4.heap.size w4 w') := by
        have h := c43 xs (.slice xa xn xc) (y1, y2) w5 (HN4.out.2.1.below H5.out)
        have hh : hasN xs (y1, y2) = false := by
          cases h0 : hasN xs (y1, y2)
          · rfl
          · exact absurd ((hasN_iff _ _).1 h0) (garb_mem.1 HE.out).1
        rw [hh] at h
        exact h.mono fun e w' h => ⟨h.1, H5.out.trans (h.2.mono H5.out.size)⟩
      obtain ⟨q0, q1⟩ : w5.cell? ⟨b, o + k * 2, none⟩ = some (.int .i64 y1) ∧ w5.cell? ⟨b, o + k * 2 + 1, none⟩ = some (.int .i64 y2) := by
        have hlt4 : b < w4.heap.size := by
          obtain ⟨_, ⟨e, _⟩ | ⟨b', o', cap', e, _, hb'⟩⟩ := HG.out.2.2.1
          · have h1 := HG.out.1
            rw [e] at h1
            simp at h1
            omega
          · simp only [Value.slice.injEq, Option.some.injEq, Addr.mk.injEq] at e
            omega
        exact ⟨((H5.out.cell (p := ⟨b, o + k * 2, none⟩) hlt4).trans (HW0.out.cell (p := ⟨b, o + k * 2, none⟩) hlt4).symm).trans p0, ((H5.out.cell (p := ⟨b, o + k * 2 + 1, none⟩) hlt4).trans (HW0.out.cell (p := ⟨b, o + k * 2 + 1, none⟩) hlt4).symm).trans p1⟩
      clear p0 p1
      go_wp2_with fail
      refine H14.mono ?_
      rintro e w6 ⟨rfl, H6⟩
      clear H14 q0 q1
      go_wp2_with fail
      go_roundw
      case rel => exact ⟨k + 1, by omega, by go_num, H6⟩
      case measure => simp [intOf]; omega
    · have hltI : ¬ (k : Int) < (gn : Int) := by omega
      have HS5 : Hid (St w1 hb M n0 m wr) := HS4.out.below HK.out
      have H17 : Calls Tryd.prog 17 #[.pointer (some ⟨hb, 0, none⟩), .slice ga gn gc] wr fun e w' => e = .returned (.tuple #[]) ∧ Hid (St w1 hb M n0 (dropH m (garbF m xs)) w' ∧ KeepsBut M wr w') := st17 HS5.out xs _ w3.heap.size (owns_below HG.out.2.1 HK.out) (HG.out.2.2.1.below HK.out) HG.out.2.2.2.2
      go_wp2_with fail
      refine H17.mono ?_
      rintro e w6 ⟨rfl, H6⟩
      have HN6 : Hid (NamesAt w6 (.slice xa xn xc) xs ∧ NamesAt w6 (.slice ra rn rc) rs ∧ Below w.heap.size w w6) := by
        have hX := names_kept HS5.out (owns_below HN4.out.2.2 HK.out) H6.out.2
        have hb : Below w.heap.size w w6 := HB1.out.trans (H6.out.1.bel.mono HB1.out.size)
        refine ⟨?_, HV.out.2.2.1.below hb, hb⟩
        have h1 := HX.out.2.2.2.2.2.1
        have h2 := HX.out.2.1
        have h3 := HV.out.2.2.2.1
        have h4 := HV.out.2.1
        have h := namesAt_of_owns hX (by unfold maxLen; omega)
        exact h
      clear H17
      have H18 := st18 H6.out.1
      go_wp2_with fail
      refine H18.mono ?_
      rintro e w7 ⟨bl, la, ln, lc, rfl, H7⟩
      clear H18
      have HS7 : Hid (St w1 hb M n0 (dropH m (garbF m xs)) w7) := H6.out.1.below H7.out.2.2.1
      have HN7 : Hid (NamesAt w7 (.slice xa xn xc) xs ∧ NamesAt w7 (.slice ra rn rc) rs ∧ Below w.heap.size w w7) := ⟨HN6.out.1.below H7.out.2.2.1, HN6.out.2.1.below H7.out.2.2.1, HN6.out.2.2.trans (H7.out.2.2.1.mono HN6.out.2.2.size)⟩
      have hln : ln ≤ 10000000 := by have := H7.out.2.2.2; have := HV.out.2.1; omega
      clear hlt hltI HN6 HS5 HN4
      go_wp2_with fail
      go_loopw [13] (fun i wr => ∃ j : Nat, j ≤ ln ∧ i = .int .i64 j ∧ Hid (Below w7.heap.size w7 wr)) (fun i _ => ln - (intOf i).toNat)
      case atStart => exact ⟨0, Nat.zero_le _, rfl, Below.refl _ _⟩
      case round =>
        obtain ⟨j, hj, rfl, HJ⟩ := hrel
        by_cases hlt : j < ln
        · have hltI : (j : Int) < (ln : Int) := by omega
          have hj0 : (0 : Int) ≤ (j : Int) := by omega
          obtain ⟨b, o, hx, rfl, hbl, c0, c1, c2⟩ := H7.out.2.1.at hlt
          have HE : Hid (bl[j].x ∈ xs) := by
            have h1 : (bl[j].x, bl[j].l) ∈ dropH m (garbF m xs) := by
              rw [← H7.out.1]
              exact List.mem_map.2 ⟨bl[j], List.getElem_mem hx, rfl⟩
            exact garb_in h1
          generalize bl[j] = y at *
          obtain ⟨⟨y1, y2⟩, ya, yn, yc, yl⟩ := y
          simp only at c0 c1
          have p0 := (HJ.out.cell (p := ⟨b, o + j * 3, none⟩) hbl).trans c0
          have p1 := (HJ.out.cell (p := ⟨b, o + j * 3 + 1, none⟩) hbl).trans c1
          have H14 : Calls Tryd.prog 14 #[.slice xa xn xc, .agg #[.int .i64 y1, .int .i64 y2]] wr fun e w' => e = .returned (.bool true) ∧ Hid (Below w7.heap.size w7 w') := by
            have h := c43 xs (.slice xa xn xc) (y1, y2) wr (HN7.out.1.below HJ.out)
            have hh : hasN xs (y1, y2) = true := (hasN_iff _ _).2 HE.out
            rw [hh] at h
            exact h.mono fun e w' h => ⟨h.1, HJ.out.trans (h.2.mono HJ.out.size)⟩
          clear c0 c1 c2
          go_wp2_with fail
          refine H14.mono ?_
          rintro e w8 ⟨rfl, H8⟩
          clear H14 p0 p1
          go_wp2_with fail
          go_roundw
          case rel => exact ⟨j + 1, by omega, by go_num, H8⟩
          case measure => simp [intOf]; omega
        · have hltI : ¬ (j : Int) < (ln : Int) := by omega
          have HS8 : Hid (St w1 hb M n0 (dropH m (garbF m xs)) wr) := HS7.out.below HJ.out
          have HN8 : Hid (NamesAt wr (.slice xa xn xc) xs ∧ NamesAt wr (.slice ra rn rc) rs ∧ Below w.heap.size w wr) := ⟨HN7.out.1.below HJ.out, HN7.out.2.1.below HJ.out, HN7.out.2.2.trans (HJ.out.mono HN7.out.2.2.size)⟩
          have HUS : Hid (∀ ys, UpN (Rch (dropH m (garbF m xs)) rs) ys → ys = xs) := fun ys hy => upn_same (fun x hx => garb_look ((HX.out.1.all x).2 hx)) HX.out.1 hy
          have H9 : Calls Tryd.prog 9 #[.pointer (some ⟨hb, 0, none⟩), .slice ra rn rc] wr fun e w' => ∃ a j c, e = .returned (.slice a j c) ∧ Hid (NamesAt w' (.slice a j c) xs ∧ Below wr.heap.size wr w') := by
            refine (st9 HS8.out rs ra rn rc HN8.out.2.1 HV.out.2.2.2.2.1 (by have := HV.out.2.2.2.1; omega)).mono ?_
            rintro e w' ⟨ys, a, j, c, rfl, h1, _, _, h4, h5, _⟩
            rw [HUS.out ys h1] at h4
            exact ⟨a, j, c, rfl, h4, h5⟩
          clear HN7 HS7
          go_wp2_with fail
          refine H9.mono ?_
          rintro e w8 ⟨za, zn, zc, rfl, H8⟩
          have H10 : Calls Tryd.prog 10 #[.slice za zn zc, .slice xa xn xc] w8 fun e w' => e = .returned (.bool true) ∧ Hid (Below wr.heap.size wr w') := by
            have h := f10 xs xs _ _ w8 H8.out.1 (HN8.out.1.below H8.out.2)
            rw [show eqNs xs xs = true by simp [eqNs]] at h
            exact h.mono fun e w' h => ⟨h.1, H8.out.2.trans (h.2.mono H8.out.2.size)⟩
          clear H9
          go_wp2_with fail
          refine H10.mono ?_
          rintro e w9 ⟨rfl, H9⟩
          have H16 : Calls Tryd.prog 16 #[.pointer (some ⟨hb, 0, none⟩), .slice ra rn rc] w9 fun e w' => ∃ a c, e = .returned (.slice a 0 c) ∧ Hid (Below w.heap.size w w') := by
            refine (st16 (HS8.out.below H9.out) rs ra rn rc (HN8.out.2.1.below H9.out) HV.out.2.2.2.2.1 (by have := HV.out.2.2.2.1; omega)).mono ?_
            rintro e w' ⟨ys, a, j, c, rfl, h1, h2, _, _, h5, _⟩
            rw [HUS.out ys h1, garb_none] at h2
            have h3 : 0 = j := h2
            subst h3
            have h4 := HN8.out.2.2.trans (H9.out.mono HN8.out.2.2.size)
            exact ⟨a, c, rfl, h4.trans (h5.mono h4.size)⟩
          clear H10
          go_wp2_with fail
          refine H16.mono ?_
          rintro e w10 ⟨ya, yc, rfl, H10⟩
          clear H16
          go_wp2_with fail
          go_ret
          exact ⟨rfl, H10.out⟩
end Go.Proofs.YtojobiefambkoaaDoor
