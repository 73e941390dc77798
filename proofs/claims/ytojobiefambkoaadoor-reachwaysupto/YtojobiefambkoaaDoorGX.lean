/- The statement that a variable is needed just if there is a path to it, and on paths: it returns true. -/
import Derived.Test.YtojobiefambkoaaDoorGU
namespace Go.Proofs.YtojobiefambkoaaDoor
open Go.RowKit
attribute [local go_sem ↓] Go.wp_at_zero Go.wp_at_succ
/-- A name stays readable. -/
abbrev RpS (WQ : World) (g o : Nat) (y1 y2 : Int) (W : World) : Prop := W.cell? ⟨g, o, none⟩ = some (.int .i64 y1) ∧ W.cell? ⟨g, o + 1, none⟩ = some (.int .i64 y2) ∧ Hid (Below WQ.heap.size WQ W ∧ g < WQ.heap.size)
theorem rpS_below {WQ W W' : World} {g o : Nat} {y1 y2 : Int} (h : RpS WQ g o y1 y2 W) (hb : Below W.heap.size W W') : RpS WQ g o y1 y2 W' := by
  obtain ⟨h1, h2, h3⟩ := h
  have hg : g < W.heap.size := Nat.lt_of_lt_of_le h3.out.2 h3.out.1.size
  exact ⟨(hb.cell (p := ⟨g, o, none⟩) hg).trans h1, (hb.cell (p := ⟨g, o + 1, none⟩) hg).trans h2, h3.out.1.trans (hb.mono h3.out.1.size), h3.out.2⟩
theorem rpS_drew {WQ W : World} {g o : Nat} {y1 y2 : Int} (h : RpS WQ g o y1 y2 W) : RpS WQ g o y1 y2 W.drew := ⟨h.1, h.2.1, h.2.2.out.1.drew, h.2.2.out.2⟩
theorem st12 {w W : World} {hb M k : Nat} {m : Hp} (h : St w hb M k m W) (x y : Nm) (hx : wfN x) : Calls Tryd.prog 12 #[.pointer (some ⟨hb, 0, none⟩), .agg #[.int .i64 x.1, .int .i64 x.2], .agg #[.int .i64 y.1, .int .i64 y.2]] W fun e w' => PaTo m x y e W w' := by
  have h1 := h.univ [x]
  have h2 := h.le
  exact f12 m _ x y W h.hpv hx h.good h.wf (by simp only [List.length_cons, List.length_nil] at h1; omega)
/-- A path's row in memory. -/
structure PrAt (m : Hp) (x y : Nm) (W : World) (g n : Nat) (p : List Nm) : Prop where
  len : p.length = n + 1
  ok : PthOk m x y p
  row : W.rangeAt g 0 (flatN p)
  lt : g < W.heap.size
  wf : ∀ z ∈ p, wfN z
theorem PrAt.below {m : Hp} {x y : Nm} {W W' : World} {g n : Nat} {p : List Nm} (h : PrAt m x y W g n p) (hb : Below W.heap.size W W') : PrAt m x y W' g n p := ⟨h.len, h.ok, range_below h.row h.lt hb, Nat.lt_of_lt_of_le h.lt hb.size, h.wf⟩
theorem PrAt.cells {m : Hp} {x y : Nm} {W : World} {g n : Nat} {p : List Nm} (h : PrAt m x y W g n p) {j : Nat} {z : Nm} (hz : p[j]? = some z) : W.cell? ⟨g, j * 2, none⟩ = some (.int .i64 z.1) ∧ W.cell? ⟨g, j * 2 + 1, none⟩ = some (.int .i64 z.2) := by
  obtain ⟨hj, e⟩ := List.getElem?_eq_some_iff.1 hz
  have h1 := name_cells h.row j hj
  rw [e] at h1
  simpa using h1
theorem st12_some {w W : World} {hb M k : Nat} {m : Hp} (h : St w hb M k m W) (x y : Nm) (hx : wfN x) (ch : List Nm) (hc : pathF m x y = some ch) : Calls Tryd.prog 12 #[.pointer (some ⟨hb, 0, none⟩), .agg #[.int .i64 x.1, .int .i64 x.2], .agg #[.int .i64 y.1, .int .i64 y.2]] W fun e w' => ∃ g n c, e = .returned (.tuple #[.slice (some ⟨g, 0, none⟩) (n + 1) c, .bool true]) ∧ n ≤ 5000000000 ∧ Hid (PrAt m x y w' g n ch.reverse ∧ Below W.heap.size W w') := by
  refine (st12 h x y hx).mono ?_
  rintro e w' ⟨a, k', c, rfl, h1⟩
  rw [hc] at h1 ⊢
  obtain ⟨h1, h2, h3⟩ := h1.out
  simp only [Option.getD_some, Option.isSome_some] at h1 h2 ⊢
  have hp := path_ok hc
  have hpos := hp.pos
  rw [List.length_reverse] at hpos
  have hchn : Chn m [x] ch := allC_chn m [x] ch (List.mem_of_find?_eq_some hc)
  have hle := allC_cl m [x] ch (List.mem_of_find?_eq_some hc)
  have hu := h.univ [x]
  have hk := h.le
  simp only [List.length_cons, List.length_nil] at hu
  subst h1
  rcases h2.2 with ⟨_, e0⟩ | ⟨g, cap, cur, e1, e2, e3, e4, e5, e6, e7⟩
  · rw [List.length_reverse] at e0; omega
  · simp only [Value.slice.injEq] at e1
    obtain ⟨rfl, _, rfl⟩ := e1
    refine ⟨g, ch.length - 1, c, by rw [show ch.length - 1 + 1 = ch.length by omega], by omega, ⟨by rw [List.length_reverse]; omega, hp, range_of_owns e3 e7, (Array.getElem?_eq_some_iff.1 e3).1, fun z hz => ?_⟩, h3⟩
    exact chn_wf hchn h.wf (fun q hq => by rw [List.mem_singleton.1 hq]; exact hx) z (List.mem_reverse.1 hz)
theorem st12_none {w W : World} {hb M k : Nat} {m : Hp} (h : St w hb M k m W) (x y : Nm) (hx : wfN x) (hc : pathF m x y = none) : Calls Tryd.prog 12 #[.pointer (some ⟨hb, 0, none⟩), .agg #[.int .i64 x.1, .int .i64 x.2], .agg #[.int .i64 y.1, .int .i64 y.2]] W fun e w' => ∃ a c, e = .returned (.tuple #[.slice a 0 c, .bool false]) ∧ Hid (Below W.heap.size W w') := by
  refine (st12 h x y hx).mono ?_
  rintro e w' ⟨a, k', c, rfl, h1⟩
  rw [hc] at h1 ⊢
  obtain ⟨h1, h2, h3⟩ := h1.out
  have h1 : k' = 0 := h1
  subst h1
  exact ⟨a, c, rfl, h3⟩
theorem any_snoc (m : Hp) (v : Nm) (rs : List Nm) (k : Nat) (hk : k < rs.length) : (rs.take (k + 1)).any (fun r => (pathF m r v).isSome) = ((rs.take k).any (fun r => (pathF m r v).isSome) || (pathF m rs[k] v).isSome) := by
  rw [List.take_succ_eq_append_getElem hk, List.any_append]
  simp
theorem any_all {m : Hp} {v : Nm} {rs xs : List Nm} (h : UpN (Rch m rs) xs) : rs.any (fun r => (pathF m r v).isSome) = hasN xs v := by
  rw [Bool.eq_iff_iff, List.any_eq_true, hasN_iff, h.all, rch_one]
  exact ⟨fun ⟨r, h1, h2⟩ => ⟨r, h1, path_some.1 h2⟩, fun ⟨r, h1, h2⟩ => ⟨r, h1, path_some.2 h2⟩⟩
set_option maxRecDepth 100000 in
set_option maxHeartbeats 8000000 in
theorem r4 (b0 : Option Addr) (n0 c0 : Nat) (bs : List Bn) (ra : Option Addr) (rn rc : Nat) (rs : List Nm) (v : Nm) (w : World) (hA : BdRow w b0 n0 bs) (hn : n0 ≤ 2000000) (hr : NamesAt w (.slice ra rn rc) rs) (hrn : rn ≤ 10000000) (hrw : ∀ x ∈ rs, wfN x) (hS : Signs w) :
    Calls Tryd.prog 4 #[.slice b0 n0 c0, .slice ra rn rc, .agg #[.int .i64 v.1, .int .i64 v.2]] w fun e w' => e = .returned (.bool true) ∧ Below w.heap.size w w' := by
  have HV : Hid (BdRow w b0 n0 bs ∧ NamesAt w (.slice ra rn rc) rs ∧ (∀ x ∈ rs, wfN x) ∧ Signs w ∧ rs.length = rn) := ⟨hA, hr, hrw, hS, names_len hr rfl⟩
  obtain ⟨m, HM⟩ : ∃ m, Hid (foldB bs = m) := ⟨_, rfl⟩
  obtain ⟨v1, v2⟩ := v
  dsimp only
  have HB0 : Hid (Below w.heap.size w (w.alloc (.cells #[.int .i64 v1, .int .i64 v2] 34)) ∧ (w.alloc (.cells #[.int .i64 v1, .int .i64 v2] 34)).heap[w.heap.size]? = some (.cells #[.int .i64 v1, .int .i64 v2] 34 (0, 0))) := ⟨below_alloc _ _, heap_alloc_new w _⟩
  have H7 := f7 _ (hS.below HB0.out.1)
  clear hA hr hrw hS
  go_enter Tryd.func4, Tryd.ntmps4
  go_wp2_with fail
  obtain ⟨W0, hW0⟩ : ∃ W0, w.alloc (.cells #[.int .i64 v1, .int .i64 v2] 34) = W0 := ⟨_, rfl⟩
  obtain ⟨bx, hbx⟩ : ∃ bx, w.heap.size = bx := ⟨_, rfl⟩
  rw [hW0] at H7 HB0 ⊢
  try rw [hbx]
  have HBX : Hid (W0.heap[bx]? = some (.cells #[.int .i64 v1, .int .i64 v2] 34 (0, 0))) := by rw [← hbx]; exact HB0.out.2
  clear hW0 hbx
  refine H7.mono ?_
  rintro e w1 ⟨rfl, h1⟩
  have HB1 : Hid (Below w.heap.size w w1 ∧ w1.heap[bx]? = some (.cells #[.int .i64 v1, .int .i64 v2] 34 (0, 0))) := ⟨HB0.out.1.trans (h1.mono HB0.out.1.size), (h1.block bx (Array.getElem?_eq_some_iff.1 HBX.out).1).trans HBX.out⟩
  clear H7 h1 HB0 HBX
  have H8 : Calls Tryd.prog 8 #[.slice b0 n0 c0] w1 fun e w' => ∃ hb M rt, e = .returned (.tuple #[.pointer (some ⟨hb, 0, none⟩), .pointer (some ⟨rt, 0, none⟩)]) ∧ Hid (St w1 hb M n0 m w') := by
    have h := st8 b0 n0 c0 bs w1 (bd_below HV.out.1 HB1.out.1) (by omega) (HV.out.2.2.2.1.below HB1.out.1)
    rw [HM.out] at h
    exact h
  go_wp2_with fail
  refine H8.mono ?_
  rintro e W4 ⟨hb, M, rt, rfl, HS4⟩
  clear H8
  have HY : Hid (∀ W, Below W4.heap.size W4 W → St w1 hb M n0 m W ∧ NamesAt W (.slice ra rn rc) rs ∧ Below w.heap.size w W ∧ W.cell? ⟨bx, 0, none⟩ = some (.int .i64 v1) ∧ W.cell? ⟨bx, 1, none⟩ = some (.int .i64 v2) ∧ bx < W.heap.size) := fun W h => by
    have h0 := HS4.out.below h
    have h2 : Below w.heap.size w W := HB1.out.1.trans (h0.bel.mono HB1.out.1.size)
    have h3 := (h0.bel.block bx (Array.getElem?_eq_some_iff.1 HB1.out.2).1).trans HB1.out.2
    exact ⟨h0, HV.out.2.1.below h2, h2, by rw [cell_of_row W bx 0 _ 34 (0, 0) h3]; rfl, by rw [cell_of_row W bx 1 _ 34 (0, 0) h3]; rfl, (Array.getElem?_eq_some_iff.1 h3).1⟩
  clear HS4 HB1
  go_wp2_with fail
  go_loopw [9, 10] (fun sv iv wr => ∃ k : Nat, k ≤ rn ∧ sv = .bool ((rs.take k).any fun r => (pathF m r (v1, v2)).isSome) ∧ iv = .int .i64 k ∧ Hid (Below W4.heap.size W4 wr)) (fun _ iv _ => rn - (intOf iv).toNat)
  case atStart => exact ⟨0, Nat.zero_le _, by simp, rfl, Below.refl _ _⟩
  case round =>
    obtain ⟨k, hk, rfl, rfl, HK⟩ := hrel
    by_cases hlt : k < rn
    · have hltI : (k : Int) < (rn : Int) := by omega
      have hk0 : (0 : Int) ≤ (k : Int) := by omega
      obtain ⟨y1, y2, y3, y4, y5, y6⟩ := HY.out wr HK.out
      obtain ⟨b, o, hx, rfl, hbl, p0, p1⟩ := names_at y2 hlt
      have HAS : Hid ((rs.take (k + 1)).any (fun r => (pathF m r (v1, v2)).isSome) = ((rs.take k).any (fun r => (pathF m r (v1, v2)).isSome) || (pathF m rs[k] (v1, v2)).isSome)) := any_snoc m (v1, v2) rs k hx
      have HRW : Hid (wfN rs[k]) := HV.out.2.2.1 _ (List.getElem_mem hx)
      generalize rs[k] = r at *
      obtain ⟨r1, r2⟩ := r
      simp only at p0 p1
      obtain ⟨sb, hsb⟩ : ∃ sb, (rs.take k).any (fun r => (pathF m r (v1, v2)).isSome) = sb := ⟨_, rfl⟩
      rw [hsb] at HAS ⊢
      clear hsb y1 y2 y3
      cases hp : pathF m (r1, r2) (v1, v2) with
      | none =>
        rw [hp] at HAS
        have H12 : ∀ W, Hid (Below wr.heap.size wr W) → Calls Tryd.prog 12 #[.pointer (some ⟨hb, 0, none⟩), .agg #[.int .i64 r1, .int .i64 r2], .agg #[.int .i64 v1, .int .i64 v2]] W fun e w' => ∃ a c, e = .returned (.tuple #[.slice a 0 c, .bool false]) ∧ Hid (Below W.heap.size W w') := fun W hW => st12_none (HY.out W (HK.out.trans (hW.out.mono HK.out.size))).1 (r1, r2) (v1, v2) HRW.out hp
        clear hp
        go_wp2_with fail
        go_region_with (go_at_call 12; refine (H12 _ (Below.drew (Below.refl _ _))).mono ?_; rintro e w3 ⟨pa, pc, rfl, H3⟩)
        all_goals (
          have hD : Below wr.heap.size wr wr.drew := (Below.refl _ wr).drew
          have HF : Hid (Below W4.heap.size W4 w3) := HK.out.trans ((hD.trans (H3.out.mono hD.size)).mono HK.out.size)
          go_wp2_with fail
          go_roundw
          case rel => exact ⟨k + 1, by omega, by rw [HAS.out]; simp, by go_num, HF⟩
          case measure => simp [intOf]; omega)
      | some ch =>
        rw [hp] at HAS
        have H12 : ∀ W, Hid (Below wr.heap.size wr W) → Calls Tryd.prog 12 #[.pointer (some ⟨hb, 0, none⟩), .agg #[.int .i64 r1, .int .i64 r2], .agg #[.int .i64 v1, .int .i64 v2]] W fun e w' => ∃ g n c, e = .returned (.tuple #[.slice (some ⟨g, 0, none⟩) (n + 1) c, .bool true]) ∧ n ≤ 5000000000 ∧ Hid (PrAt m (r1, r2) (v1, v2) w' g n ch.reverse ∧ Below W.heap.size W w') := fun W hW => st12_some (HY.out W (HK.out.trans (hW.out.mono HK.out.size))).1 (r1, r2) (v1, v2) HRW.out ch hp
        clear hp
        go_wp2_with fail
        go_region_with (go_at_call 12; refine (H12 _ (Below.drew (Below.refl _ _))).mono ?_; rintro e w3 ⟨g, n, pc, rfl, hnn, H3⟩)
        all_goals (
          have hD : Below wr.heap.size wr wr.drew := (Below.refl _ wr).drew
          have HF : Hid (Below W4.heap.size W4 w3 ∧ PrAt m (r1, r2) (v1, v2) w3 g n ch.reverse) := ⟨HK.out.trans ((hD.trans (H3.out.2.mono hD.size)).mono HK.out.size), H3.out.1⟩
          have g0 := ((hD.trans (H3.out.2.mono hD.size)).cell (p := ⟨b, o + k * 2, none⟩) hbl).trans p0
          have g1 := ((hD.trans (H3.out.2.mono hD.size)).cell (p := ⟨b, o + k * 2 + 1, none⟩) hbl).trans p1
          clear hD H3 H12
          obtain ⟨f0, f1⟩ := HF.out.2.cells HF.out.2.ok.fst
          obtain ⟨l0, l1⟩ := HF.out.2.cells (by have h := HF.out.2.ok.lst; rw [HF.out.2.len] at h; exact h)
          obtain ⟨_, _, _, q4, q5, _⟩ := HY.out w3 HF.out.1
          have hn0 : ((n : Int) + 1 == 0) = false := by rw [beq_eq_false_iff_ne]; omega
          have hn0' : decide ((n : Int) + 1 = 0) = false := by rw [decide_eq_false_iff_not]; omega
          have hnw : IntKind.i64.wrap ((n : Int) + 1 - 1) = (n : Int) := by rw [IntKind.wrap_i64]; omega
          have hn2 : (0 : Int) ≤ (n : Int) := by omega
          have hn3 : (n : Int) < (n : Int) + 1 := by omega
          have hn4 : (0 : Int) < (n : Int) + 1 := by omega
          have hN1 := neq23 r1 r2 r1 r2
          have hN2 := neq23 v1 v2 v1 v2
          rw [show (r1 == r1 && r2 == r2) = true by simp] at hN1
          rw [show (v1 == v1 && v2 == v2) = true by simp] at hN2
          simp only [Nat.zero_mul, Nat.add_sub_cancel] at f0 f1 l0 l1
          go_wp2_with fail
          go_quiet (fail)
          go_wp2_with fail
          clear f0 f1 l0 l1 q4 q5 g0 g1 hN1 hN2 hn0 hn0' hn4
          go_loopw [13] (fun iv wr => ∃ j : Nat, j ≤ n ∧ iv = .int .i64 ((j : Int) + 1) ∧ Hid (Below w3.heap.size w3 wr)) (fun iv _ => n + 1 - (intOf iv).toNat)
          case atStart => exact ⟨0, Nat.zero_le _, rfl, below_drewN (Below.refl _ _) _⟩
          case round =>
            obtain ⟨j, hj, rfl, HJ⟩ := hrel
            by_cases hjt : j < n
            · have hjI : (j : Int) + 1 < (n : Int) + 1 := by omega
              have hj0 : (0 : Int) ≤ (j : Int) + 1 := by omega
              have hjw : IntKind.i64.wrap ((j : Int) + 1 - 1) = (j : Int) := by rw [IntKind.wrap_i64]; omega
              have hjz : (0 : Int) ≤ (j : Int) := by omega
              have hjn : (j : Int) < (n : Int) + 1 := by omega
              have HPr : Hid (PrAt m (r1, r2) (v1, v2) wr g n ch.reverse) := HF.out.2.below HJ.out
              obtain ⟨z, hz⟩ : ∃ z, ch.reverse[j]? = some z := ⟨_, List.getElem?_eq_getElem (by rw [HPr.out.len]; omega)⟩
              obtain ⟨y, hy⟩ : ∃ y, ch.reverse[j + 1]? = some y := ⟨_, List.getElem?_eq_getElem (by rw [HPr.out.len]; omega)⟩
              have HST : Hid (y ∈ leadsH m z ∧ wfN z) := ⟨HPr.out.ok.stp j z y hz hy, HPr.out.wf z (List.mem_of_getElem? hz)⟩
              obtain ⟨t0, t1⟩ := HPr.out.cells hz
              have HYc : Hid (∀ W, Below wr.heap.size wr W → W.cell? ⟨g, (j + 1) * 2, none⟩ = some (.int .i64 y.1) ∧ W.cell? ⟨g, (j + 1) * 2 + 1, none⟩ = some (.int .i64 y.2) ∧ g < W.heap.size) := fun W hW => ⟨((HPr.out.below hW).cells hy).1, ((HPr.out.below hW).cells hy).2, (HPr.out.below hW).lt⟩
              obtain ⟨l, hl⟩ : ∃ l, Hid (lookH m z = some l) := leads_none HST.out.1
              have HLV : Hid (hasN (nubN (varsOf l)) y = true ∧ l.length ≤ 256) := by
                have h1 := HST.out.1
                unfold leadsH at h1
                rw [hl.out] at h1
                exact ⟨(hasN_iff _ _).2 h1, ((right_iff _).1 ((HY.out W4 (Below.refl _ _)).1.good z l hl.out).2.2).2.1⟩
              have H13 : Calls Tryd.prog 13 #[.pointer (some ⟨hb, 0, none⟩), .agg #[.int .i64 z.1, .int .i64 z.2]] wr fun e w' => ∃ ta tn tc, e = .returned (.tuple #[.slice ta tn tc, .bool true]) ∧ Hid (TermAt w' (.slice ta tn tc) l ∧ Below wr.heap.size wr w') := by
                have h := st13 (HY.out wr (HF.out.1.trans (HJ.out.mono HF.out.1.size))).1 z HST.out.2
                rw [hl.out] at h
                refine h.mono ?_
                rintro e w' ⟨a, j', c, rfl, h1⟩
                exact ⟨a, j', c, rfl, h1.out⟩
              clear hz hy HST
              obtain ⟨z1, z2⟩ := z
              obtain ⟨y1, y2⟩ := y
              dsimp only at t0 t1 H13 HYc
              go_wp2_with fail
              refine H13.mono ?_
              rintro e w5 ⟨ta, tn, tc, rfl, H5⟩
              clear H13 t0 t1
              have hS21 : RpS w5 g ((j + 1) * 2) y1 y2 w5.drew := by
                obtain ⟨h1, h2, h3⟩ := HYc.out w5 H5.out.2
                exact rpS_drew ⟨h1, h2, Below.refl _ _, h3⟩
              have H15 : ∀ W, Hid (Below w5.heap.size w5 W ∧ g < w5.heap.size) → Calls Tryd.prog 15 #[.slice ta tn tc] W fun e w' => ∃ la lk lc, e = .returned (.slice la lk lc) ∧ Hid (NamesAt w' (.slice la lk lc) (nubN (varsOf l))) ∧ Below W.heap.size W w' := fun W hW => by
                refine (c42 l _ W (H5.out.1.below hW.out.1) (by have := HLV.out.2; omega)).mono ?_
                rintro e w' ⟨u, rfl, h1, h2⟩
                obtain ⟨la, lc, rfl⟩ := owns_form h1
                refine ⟨la, _, lc, rfl, namesAt_of_owns h1 ?_, h2⟩
                have h3 := nubN_len (varsOf l)
                have h4 : (varsOf l).length ≤ l.length := by unfold varsOf; rw [List.length_map]; exact List.length_filter_le _ _
                have h5 := HLV.out.2
                unfold maxLen
                omega
              have H14 : ∀ W la lk lc, Hid (NamesAt W (.slice la lk lc) (nubN (varsOf l))) → Calls Tryd.prog 14 #[.slice la lk lc, .agg #[.int .i64 y1, .int .i64 y2]] W fun e w' => e = .returned (.bool true) ∧ Below W.heap.size W w' := fun W la lk lc h => by
                have h2 := c43 (nubN (varsOf l)) _ (y1, y2) W h.out
                rw [HLV.out.1] at h2
                exact h2
              go_wp2_with fail
              refine wp_region_noPanic ?_
              refine wp_region_held_drew (S := RpS w5 g ((j + 1) * 2) y1 y2) (by kernel_rfl) hS21 (fun hHeld => ?_)
              refine wpAnyH_take (i := 0) (v := ?_) (by simp only [List.getElem?_toArray, List.getElem?_cons_zero]; rfl) (by kernel_rfl) (by kernel_rfl) (by kernel_rfl) (fun _ _ _ h => h) (Or.inl ⟨by rfl, ?_⟩) (by assumption) ?_; rotate_left; (· (intro w hSw; (try dsimp only at hSw); go_simp <;> with_reducible rfl)); try simp only [Act.put, List.setIfInBounds_toArray, List.set_cons_zero, List.set_cons_succ]
              refine wpAnyH_take (i := 1) (v := ?_) (by simp only [List.getElem?_toArray, List.getElem?_cons_zero, List.getElem?_cons_succ]; rfl) (by kernel_rfl) (by kernel_rfl) (by kernel_rfl) (fun _ _ _ h => h) (Or.inl ⟨by rfl, ?_⟩) (by assumption) ?_; rotate_left; (· (intro w hSw; (try dsimp only at hSw); go_simp <;> with_reducible rfl)); try simp only [Act.put, List.setIfInBounds_toArray, List.set_cons_zero, List.set_cons_succ]
              refine wpAnyH_take (i := 2) (v := ?_) (by simp only [List.getElem?_toArray, List.getElem?_cons_zero, List.getElem?_cons_succ]; rfl) (by kernel_rfl) (by kernel_rfl) (by kernel_rfl) (fun _ _ _ h => h) (Or.inl ⟨by rfl, ?_⟩) (by assumption) ?_; rotate_left; (· (intro w hSw; (try dsimp only at hSw); go_simp <;> with_reducible rfl)); try simp only [Act.put, List.setIfInBounds_toArray, List.set_cons_zero, List.set_cons_succ]
              refine wpAnyH_take (i := 3) (v := ?_) (by simp only [List.getElem?_toArray, List.getElem?_cons_zero, List.getElem?_cons_succ]; rfl) (by kernel_rfl) (by kernel_rfl) (by kernel_rfl) (fun _ _ _ h => h) (Or.inl ⟨by rfl, ?_⟩) (by assumption) ?_; rotate_left; (· (intro w hSw; (try dsimp only at hSw); go_simp <;> with_reducible rfl)); try simp only [Act.put, List.setIfInBounds_toArray, List.set_cons_zero, List.set_cons_succ]
              refine wpAnyH_take (i := 5) (v := ?_) (by simp only [List.getElem?_toArray, List.getElem?_cons_zero, List.getElem?_cons_succ]; rfl) (by kernel_rfl) (by kernel_rfl) (by kernel_rfl) (fun _ _ _ h => h) (Or.inl ⟨by rfl, ?_⟩) (by assumption) ?_; rotate_left; (· (intro w hSw; (try dsimp only at hSw); go_simp <;> with_reducible rfl)); try simp only [Act.put, List.setIfInBounds_toArray, List.set_cons_zero, List.set_cons_succ]
              refine wpAnyH_take (i := 6) (v := ?_) (by simp only [List.getElem?_toArray, List.getElem?_cons_zero, List.getElem?_cons_succ]; rfl) (by kernel_rfl) (by kernel_rfl) (by kernel_rfl) (fun _ _ _ h => h) (Or.inl ⟨by rfl, ?_⟩) (by assumption) ?_; rotate_left; (· (intro w hSw; (try dsimp only at hSw); go_simp <;> with_reducible rfl)); try simp only [Act.put, List.setIfInBounds_toArray, List.set_cons_zero, List.set_cons_succ]
              refine wpAnyH_take (i := 7) (v := ?_) (by simp only [List.getElem?_toArray, List.getElem?_cons_zero, List.getElem?_cons_succ]; rfl) (by kernel_rfl) (by kernel_rfl) (by kernel_rfl) (fun _ _ _ h => h) (Or.inl ⟨by rfl, ?_⟩) (by assumption) ?_; rotate_left; (· (intro w hSw; (try dsimp only at hSw); go_simp <;> with_reducible rfl)); try simp only [Act.put, List.setIfInBounds_toArray, List.set_cons_zero, List.set_cons_succ]
              refine wpAnyH_take (i := 8) (v := ?_) (by simp only [List.getElem?_toArray, List.getElem?_cons_zero, List.getElem?_cons_succ]; rfl) (by kernel_rfl) (by kernel_rfl) (by kernel_rfl) (fun _ _ _ h => h) (Or.inl ⟨by rfl, ?_⟩) (by assumption) ?_; rotate_left; (· (intro w hSw; (try dsimp only at hSw); go_simp <;> with_reducible rfl)); try simp only [Act.put, List.setIfInBounds_toArray, List.set_cons_zero, List.set_cons_succ]
              refine wpAnyH_ready (rs := [4]) (by kernel_rfl) (by simp) ?_
              refine AllReadyH.cons (by simp only [List.getElem?_toArray, List.getElem?_cons_zero, List.getElem?_cons_succ]; rfl) (fun K hK => ?_) AllReadyH.nil
              go_simp
              refine (H15 _ hHeld.2.2).mono ?_
              rintro e u9 ⟨la, lk, lc, rfl, HL9, hbx9⟩
              refine hK.out _ _ (rpS_below hHeld hbx9) (fun hHeld => ?_)
              clear hK K
              try simp only [Act.put, List.setIfInBounds_toArray, List.set_cons_zero, List.set_cons_succ]
              refine wpAnyH_ready (rs := [9]) (by kernel_rfl) (by simp) ?_
              refine AllReadyH.cons (by simp only [List.getElem?_toArray, List.getElem?_cons_zero, List.getElem?_cons_succ]; rfl) (fun K hK => ?_) AllReadyH.nil
              go_simp
              refine (H14 _ _ _ _ HL9).mono ?_
              rintro e u10 ⟨rfl, hbx9⟩
              refine hK.out _ _ (rpS_below hHeld hbx9) (fun hHeld => ?_)
              clear hK K
              try simp only [Act.put, List.setIfInBounds_toArray, List.set_cons_zero, List.set_cons_succ]
              refine wpAnyH_take (i := 10) (v := ?_) (by simp only [List.getElem?_toArray, List.getElem?_cons_zero, List.getElem?_cons_succ]; rfl) (by kernel_rfl) (by kernel_rfl) (by kernel_rfl) (fun _ _ _ h => h) (Or.inl ⟨by rfl, ?_⟩) (by assumption) ?_; rotate_left; (· (intro w hSw; (try dsimp only at hSw); go_simp <;> with_reducible rfl)); try simp only [Act.put, List.setIfInBounds_toArray, List.set_cons_zero, List.set_cons_succ]
              refine wpAnyH_take (i := 11) (v := ?_) (by simp only [List.getElem?_toArray, List.getElem?_cons_zero, List.getElem?_cons_succ]; rfl) (by kernel_rfl) (by kernel_rfl) (by kernel_rfl) (fun _ _ _ h => h) (Or.inl ⟨by rfl, ?_⟩) (by assumption) ?_; rotate_left; (· (intro w hSw; (try dsimp only at hSw); go_simp <;> with_reducible rfl)); try simp only [Act.put, List.setIfInBounds_toArray, List.set_cons_zero, List.set_cons_succ]
              refine wpAnyH_done (by kernel_rfl) ?_ _
              refine NoPanic.normal ?_
              have HB : Hid (Below w3.heap.size w3 u10) := HJ.out.trans ((H5.out.2.trans (hHeld.2.2.out.1.mono H5.out.2.size)).mono HJ.out.size)
              clear hHeld H14 H15 hS21 H5
              go_wp2_with fail
              go_roundw
              case rel => exact ⟨j + 1, by omega, by go_num, HB⟩
              case measure => simp [intOf]; omega
            · have hjI : ¬ (j : Int) + 1 < (n : Int) + 1 := by omega
              have HB : Hid (Below W4.heap.size W4 wr) := HF.out.1.trans (HJ.out.mono HF.out.1.size)
              go_wp2_with fail
              go_roundw
              case rel => exact ⟨k + 1, by omega, by rw [HAS.out]; simp, by go_num, HB⟩
              case measure => simp [intOf]; omega)
    · have hltI : ¬ (k : Int) < (rn : Int) := by omega
      obtain ⟨sb, hsb⟩ : ∃ sb, Hid (rs.any (fun r => (pathF m r (v1, v2)).isSome) = sb) := ⟨_, rfl⟩
      have e0 : rs.take k = rs := List.take_of_length_le (by have := HV.out.2.2.2.2; omega)
      rw [e0, hsb.out]
      clear e0
      have hS23 : RpS wr bx 0 v1 v2 wr.drew := by
        obtain ⟨_, _, _, h4, h5, h6⟩ := HY.out wr HK.out
        exact rpS_drew ⟨h4, h5, Below.refl _ _, h6⟩
      have H9 : ∀ W, Hid (Below wr.heap.size wr W ∧ bx < wr.heap.size) → Calls Tryd.prog 9 #[.pointer (some ⟨hb, 0, none⟩), .slice ra rn rc] W fun e w' => ∃ la lk lc, e = .returned (.slice la lk lc) ∧ Hid (∃ xs, NamesAt w' (.slice la lk lc) xs ∧ UpN (Rch m rs) xs) ∧ Below W.heap.size W w' := fun W hW => by
        obtain ⟨h1, h2, _⟩ := HY.out W (HK.out.trans (hW.out.1.mono HK.out.size))
        refine (st9 h1 rs ra rn rc h2 HV.out.2.2.1 (by have := HV.out.2.2.2.2; omega)).mono ?_
        rintro e w' ⟨xs, a, j, c, rfl, g1, _, _, g4, g5, _⟩
        exact ⟨a, j, c, rfl, ⟨xs, g4, g1⟩, g5⟩
      have H14 : ∀ W la lk lc, Hid (∃ xs, NamesAt W (.slice la lk lc) xs ∧ UpN (Rch m rs) xs) → Calls Tryd.prog 14 #[.slice la lk lc, .agg #[.int .i64 v1, .int .i64 v2]] W fun e w' => e = .returned (.bool sb) ∧ Below W.heap.size W w' := fun W la lk lc h => by
        obtain ⟨xs, h1, h2⟩ := h.out
        have h3 := c43 xs _ (v1, v2) W h1
        rw [← any_all h2, hsb.out] at h3
        exact h3
      have HEnd : Hid (∀ W, Below wr.heap.size wr W → Below w.heap.size w W) := fun W h => (HY.out W (HK.out.trans (h.mono HK.out.size))).2.2.1
      go_wp2_with fail
      refine wp_region_noPanic ?_
      refine wp_region_held_drew (S := RpS wr bx 0 v1 v2) (by kernel_rfl) hS23 (fun hHeld => ?_)
      refine wpAnyH_take (i := 0) (v := ?_) (by simp only [List.getElem?_toArray, List.getElem?_cons_zero]; rfl) (by kernel_rfl) (by kernel_rfl) (by kernel_rfl) (fun _ _ _ h => h) (Or.inl ⟨by rfl, ?_⟩) (by assumption) ?_; rotate_left; (· (intro w hSw; (try dsimp only at hSw); go_simp <;> with_reducible rfl)); try simp only [Act.put, List.setIfInBounds_toArray, List.set_cons_zero, List.set_cons_succ]
      refine wpAnyH_take (i := 1) (v := ?_) (by simp only [List.getElem?_toArray, List.getElem?_cons_zero, List.getElem?_cons_succ]; rfl) (by kernel_rfl) (by kernel_rfl) (by kernel_rfl) (fun _ _ _ h => h) (Or.inl ⟨by rfl, ?_⟩) (by assumption) ?_; rotate_left; (· (intro w hSw; (try dsimp only at hSw); go_simp <;> with_reducible rfl)); try simp only [Act.put, List.setIfInBounds_toArray, List.set_cons_zero, List.set_cons_succ]
      refine wpAnyH_take (i := 2) (v := ?_) (by simp only [List.getElem?_toArray, List.getElem?_cons_zero, List.getElem?_cons_succ]; rfl) (by kernel_rfl) (by kernel_rfl) (by kernel_rfl) (fun _ _ _ h => h) (Or.inl ⟨by rfl, ?_⟩) (by assumption) ?_; rotate_left; (· (intro w hSw; (try dsimp only at hSw); go_simp <;> with_reducible rfl)); try simp only [Act.put, List.setIfInBounds_toArray, List.set_cons_zero, List.set_cons_succ]
      refine wpAnyH_take (i := 4) (v := ?_) (by simp only [List.getElem?_toArray, List.getElem?_cons_zero, List.getElem?_cons_succ]; rfl) (by kernel_rfl) (by kernel_rfl) (by kernel_rfl) (fun _ _ _ h => h) (Or.inl ⟨by rfl, ?_⟩) (by assumption) ?_; rotate_left; (· (intro w hSw; (try dsimp only at hSw); go_simp <;> with_reducible rfl)); try simp only [Act.put, List.setIfInBounds_toArray, List.set_cons_zero, List.set_cons_succ]
      refine wpAnyH_ready (rs := [3]) (by kernel_rfl) (by simp) ?_
      refine AllReadyH.cons (by simp only [List.getElem?_toArray, List.getElem?_cons_zero, List.getElem?_cons_succ]; rfl) (fun K hK => ?_) AllReadyH.nil
      go_simp
      refine (H9 _ hHeld.2.2).mono ?_
      rintro e u9 ⟨la, lk, lc, rfl, HL9, hbx9⟩
      refine hK.out _ _ (rpS_below hHeld hbx9) (fun hHeld => ?_)
      clear hK K
      try simp only [Act.put, List.setIfInBounds_toArray, List.set_cons_zero, List.set_cons_succ]
      refine wpAnyH_ready (rs := [5]) (by kernel_rfl) (by simp) ?_
      refine AllReadyH.cons (by simp only [List.getElem?_toArray, List.getElem?_cons_zero, List.getElem?_cons_succ]; rfl) (fun K hK => ?_) AllReadyH.nil
      go_simp
      refine (H14 _ _ _ _ HL9).mono ?_
      rintro e u10 ⟨rfl, hbx9⟩
      refine hK.out _ _ (rpS_below hHeld hbx9) (fun hHeld => ?_)
      clear hK K
      try simp only [Act.put, List.setIfInBounds_toArray, List.set_cons_zero, List.set_cons_succ]
      refine wpAnyH_take (i := 6) (v := ?_) (by simp only [List.getElem?_toArray, List.getElem?_cons_zero, List.getElem?_cons_succ]; rfl) (by kernel_rfl) (by kernel_rfl) (by kernel_rfl) (fun _ _ _ h => h) (Or.inl ⟨by rfl, ?_⟩) (by assumption) ?_; rotate_left; (· (intro w hSw; (try dsimp only at hSw); go_simp <;> with_reducible rfl)); try simp only [Act.put, List.setIfInBounds_toArray, List.set_cons_zero, List.set_cons_succ]
      refine wpAnyH_take (i := 7) (v := ?_) (by simp only [List.getElem?_toArray, List.getElem?_cons_zero, List.getElem?_cons_succ]; rfl) (by kernel_rfl) (by kernel_rfl) (by kernel_rfl) (fun _ _ _ h => h) (Or.inl ⟨by rfl, ?_⟩) (by assumption) ?_; rotate_left; (· (intro w hSw; (try dsimp only at hSw); go_simp <;> with_reducible rfl)); try simp only [Act.put, List.setIfInBounds_toArray, List.set_cons_zero, List.set_cons_succ]
      refine wpAnyH_done (by kernel_rfl) ?_ _
      refine NoPanic.normal ?_
      have HB : Hid (Below w.heap.size w u10) := HEnd.out _ hHeld.2.2.out.1
      clear hHeld H14 H9 hS23
      go_wp2_with fail
      go_ret
      exact ⟨by simp, HB.out⟩
end Go.Proofs.YtojobiefambkoaaDoor
