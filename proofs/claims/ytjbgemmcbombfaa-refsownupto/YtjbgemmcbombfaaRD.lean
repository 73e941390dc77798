/- Contracts of Added, Released, Exported. -/
import Derived.Test.YtjbgemmcbombfaaRC
namespace Go.Proofs.Ytjbgemmcbombfaa
open Go.RowKit
attribute [local go_sem ↓] Go.wp_at_zero Go.wp_at_succ
/-- A variable in a box of the call's own. -/
structure Bx (w W : World) (x : Nm) : Prop where
  bel : Below w.heap.size w W
  box : W.heap[w.heap.size]? = some (.cells #[.int .i64 x.1, .int .i64 x.2] 48 (0, 0))
theorem bx_new (w : World) (x : Nm) : Bx w (w.alloc (.cells #[.int .i64 x.1, .int .i64 x.2] 48)) x := ⟨(Below.refl _ w).alloc (Nat.le_refl _) _, heap_alloc_new w _⟩
theorem Bx.below {w W W' : World} {x : Nm} (h : Bx w W x) (hb : Below W.heap.size W W') : Bx w W' x :=
  ⟨h.bel.trans (hb.mono h.bel.size), (hb.block _ (Array.getElem?_eq_some_iff.1 h.box).1).trans h.box⟩
theorem Bx.cells {w W : World} {x : Nm} (h : Bx w W x) : W.cell? ⟨w.heap.size, 0, none⟩ = some (.int .i64 x.1) ∧ W.cell? ⟨w.heap.size, 1, none⟩ = some (.int .i64 x.2) := box2 h.box
theorem own_one (own nodes : Int) (x1 x2 : Int) (W : World) (hx : wfN (x1, x2)) (ho : x1 = own) : Calls Try.prog 51 #[.agg #[.int .i64 own, .int .i64 nodes], .slice (some ⟨W.heap.size, 0, none⟩) 1 1] (W.alloc (.cells #[.int .i64 x1, .int .i64 x2] 48)) fun e w' => e = .returned (.bool true) ∧ Below W.heap.size W w' := by
  have hb : Below W.heap.size W (W.alloc (.cells #[.int .i64 x1, .int .i64 x2] 48)) := (Below.refl _ _).alloc (Nat.le_refl _) _
  refine (r51 own nodes _ 1 1 [(x1, x2)] _ (nm_one W (x1, x2) hx) (by omega)).mono ?_
  rintro e w' ⟨rfl, hb2⟩
  have e1 : allOwn own [(x1, x2)] = true := by simp [allOwn, ho]
  rw [e1]
  exact ⟨rfl, hb.trans (hb2.mono hb.size)⟩
set_option maxRecDepth 100000 in
set_option maxHeartbeats 4000000 in
theorem r30 (B tb eb ib n : Nat) (own nodes : Int) (f g : Hk → Int) (x : Nm) (to : Int) (w : World) (h : RtAt w B tb eb ib n own nodes f g) (hx : wfN x) (hxo : x.1 = own) (hto : isN nodes to = true) (hne : ¬ to = own) (hwt : wfI to) (hn : n ≤ 1000000000) :
    Calls Try.prog 30 #[.pointer (some ⟨tb, 0, none⟩), .agg #[.int .i64 x.1, .int .i64 x.2], .int .i64 to] w fun e w' => e = .returned (.int .i64 0) ∧ RtIs w B tb eb ib (n + 1) own nodes (addF f (x, to) 1) g w' := by
  obtain ⟨W, hW⟩ : ∃ W, w.alloc (.cells #[.int .i64 x.1, .int .i64 x.2] 48) = W := ⟨_, rfl⟩
  have HX : Hid (Bx w W x) := by rw [← hW]; exact bx_new w x
  have HH : Hid (RtAt w B tb eb ib n own nodes f g ∧ wfN x ∧ wfI to) := ⟨h, hx, hwt⟩
  obtain ⟨t0, t1, t2, t3⟩ := (h.below HX.out.bel).cells
  obtain ⟨b0, b1⟩ := HX.out.cells
  obtain ⟨x1, x2⟩ := x
  simp only at *
  subst hxo
  have H31 : Calls Try.prog 31 #[.agg #[.int .i64 x1, .int .i64 nodes], .int .i64 to] W fun e w' => e = .returned (.bool true) ∧ Hid (Bx w w' (x1, x2)) := by
    refine (r31 x1 nodes to W).mono ?_
    rintro e w' ⟨rfl, hb⟩
    rw [hto]
    exact ⟨rfl, HX.out.below hb⟩
  have hneb : (to == x1) = false := by simp [hne]
  clear h hx hwt HX
  go_enter Try.func30, Try.ntmps30
  go_wp2_with fail
  refine H31.mono ?_
  rintro e w1 ⟨rfl, H1⟩
  clear H31 hW t0 t1 t2 t3 b0 b1
  obtain ⟨t0, t1, t2, t3⟩ := (HH.out.1.below H1.out.bel).cells
  obtain ⟨b0, b1⟩ := H1.out.cells
  have hk : ∀ (o : Obj) (p : Addr), p.block < w1.heap.size → (w1.alloc o).cell? p = w1.cell? p := fun o p hp => ((Below.refl w1.heap.size w1).alloc (Nat.le_refl _) o).cell hp
  have hl1 : tb < w1.heap.size := (HH.out.1.below H1.out.bel).lt
  have hl2 : w.heap.size < w1.heap.size := (Array.getElem?_eq_some_iff.1 H1.out.box).1
  have a0 := fun o => (hk o ⟨tb, 0, none⟩ hl1).trans t0
  have a1 := fun o => (hk o ⟨tb, 1, none⟩ hl1).trans t1
  have d0 := fun o => (hk o ⟨w.heap.size, 0, none⟩ hl2).trans b0
  have d1 := fun o => (hk o ⟨w.heap.size, 1, none⟩ hl2).trans b1
  have H51 : Calls Try.prog 51 #[.agg #[.int .i64 x1, .int .i64 nodes], .slice (some ⟨w1.heap.size, 0, none⟩) 1 1] (w1.alloc (.cells #[.int .i64 x1, .int .i64 x2] 48)).drew fun e w' => e = .returned (.bool true) ∧ Hid (Bx w w' (x1, x2)) := by
    have hb : Below w1.heap.size w1 (w1.alloc (.cells #[.int .i64 x1, .int .i64 x2] 48)).drew := ((Below.refl _ _).alloc (Nat.le_refl _) _).drew
    refine (r51 x1 nodes _ 1 1 [(x1, x2)] _ ((nm_one w1 (x1, x2) HH.out.2.1).below ((Below.refl _ _).drew)) (by omega)).mono ?_
    rintro e w' ⟨rfl, hb2⟩
    have e1 : allOwn x1 [(x1, x2)] = true := by simp [allOwn]
    rw [e1]
    exact ⟨rfl, H1.out.below (hb.trans (hb2.mono hb.size))⟩
  clear hk hl1 hl2
  go_wp2_with fail
  go_region_with (go_at_call 51; refine H51.mono ?_; rintro e w2 ⟨rfl, H2⟩)
  all_goals (
    clear H51 t0 t1 t2 t3 b0 b1 a0 a1 d0 d1
    obtain ⟨t0, t1, t2, t3⟩ := (HH.out.1.below H2.out.bel).cells
    obtain ⟨b0, b1⟩ := H2.out.cells
    have H52 : Calls Try.prog 52 #[.map (some eb), .agg #[.int .i64 x1, .int .i64 x2, .int .i64 to], .int .i64 1] w2.drew fun e w' => e = .returned (.tuple #[]) ∧ Hid (RtIs w B tb eb ib (n + 1) x1 nodes (addF f ((x1, x2), to) 1) g w') := by
      have hR := (HH.out.1.below H2.out.bel).below ((Below.refl _ w2).drew)
      refine (r52 eb n _ ((x1, x2), to) 1 w2.drew hR.ex ⟨HH.out.2.1, HH.out.2.2⟩ (by omega)).mono ?_
      rintro e w' ⟨rfl, ha⟩
      obtain ⟨r1, r2⟩ := rt_ex hR ha
      exact ⟨rfl, r1, (RtTo.of (H2.out.bel.drew)).trans r2⟩
    go_wp2_with fail
    go_region_with (go_at_call 52; refine H52.mono ?_; rintro e w5 ⟨rfl, H5⟩)
    all_goals (
      clear H52 t0 t1 t2 t3 b0 b1
      go_wp2_with fail
      go_ret
      exact ⟨rfl, H5.out⟩))
set_option maxRecDepth 100000 in
set_option maxHeartbeats 4000000 in
theorem r21 (B tb eb ib n : Nat) (own nodes : Int) (f g : Hk → Int) (x : Nm) (to ti : Int) (w : World) (h : RtAt w B tb eb ib n own nodes f g) (hx : wfN x) (hxo : x.1 = own) (hto : (isN nodes to && !decide (to = own)) = true) (hwt : wfI to) (ht1 : 1 ≤ ti) (ht2 : ti ≤ 2147483647) (hn : n ≤ 1000000000) :
    Calls Try.prog 21 #[.pointer (some ⟨tb, 0, none⟩), .agg #[.int .i64 x.1, .int .i64 x.2], .int .i64 to, .int .i64 ti] w fun e w' => e = .returned (.int .i64 0) ∧ RtIs w B tb eb ib (n + 1) own nodes (addF f (x, to) (-ti)) g w' := by
  obtain ⟨W, hW⟩ : ∃ W, w.alloc (.cells #[.int .i64 x.1, .int .i64 x.2] 48) = W := ⟨_, rfl⟩
  have HX : Hid (Bx w W x) := by rw [← hW]; exact bx_new w x
  have HH : Hid (RtAt w B tb eb ib n own nodes f g ∧ wfN x ∧ wfI to) := ⟨h, hx, hwt⟩
  obtain ⟨t0, t1, t2, t3⟩ := (h.below HX.out.bel).cells
  obtain ⟨b0, b1⟩ := HX.out.cells
  obtain ⟨x1, x2⟩ := x
  simp only at *
  subst hxo
  have H50 : Calls Try.prog 50 #[.agg #[.int .i64 x1, .int .i64 nodes], .int .i64 to] W fun e w' => e = .returned (.bool true) ∧ Hid (Bx w w' (x1, x2)) := by
    refine (r50 x1 nodes to W).mono ?_
    rintro e w' ⟨rfl, hb⟩
    rw [hto]
    exact ⟨rfl, HX.out.below hb⟩
  have HNEG : Hid (IntKind.i64.wrap (-ti) = -ti) := by
    show IntKind.i64.wrap (-ti) = -ti
    simp only [IntKind.wrap, IntKind.bits, IntKind.signed]; simp; omega
  have hg1 : ¬ ti < 1 := by omega
  have hg2 : ¬ ti > 2147483647 := by omega
  clear h hx hwt HX
  go_enter Try.func21, Try.ntmps21
  go_wp2_with fail
  refine H50.mono ?_
  rintro e w1 ⟨rfl, H1⟩
  clear H50 hW t0 t1 t2 t3 b0 b1
  obtain ⟨t0, t1, t2, t3⟩ := (HH.out.1.below H1.out.bel).cells
  obtain ⟨b0, b1⟩ := H1.out.cells
  have hk : ∀ (o : Obj) (p : Addr), p.block < w1.heap.size → (w1.alloc o).cell? p = w1.cell? p := fun o p hp => ((Below.refl w1.heap.size w1).alloc (Nat.le_refl _) o).cell hp
  have hl1 : tb < w1.heap.size := (HH.out.1.below H1.out.bel).lt
  have hl2 : w.heap.size < w1.heap.size := (Array.getElem?_eq_some_iff.1 H1.out.box).1
  have a0 := fun o => (hk o ⟨tb, 0, none⟩ hl1).trans t0
  have a1 := fun o => (hk o ⟨tb, 1, none⟩ hl1).trans t1
  have d0 := fun o => (hk o ⟨w.heap.size, 0, none⟩ hl2).trans b0
  have d1 := fun o => (hk o ⟨w.heap.size, 1, none⟩ hl2).trans b1
  have H51 : Calls Try.prog 51 #[.agg #[.int .i64 x1, .int .i64 nodes], .slice (some ⟨w1.heap.size, 0, none⟩) 1 1] (w1.alloc (.cells #[.int .i64 x1, .int .i64 x2] 48)).drew fun e w' => e = .returned (.bool true) ∧ Hid (Bx w w' (x1, x2)) := by
    have hb : Below w1.heap.size w1 (w1.alloc (.cells #[.int .i64 x1, .int .i64 x2] 48)).drew := ((Below.refl _ _).alloc (Nat.le_refl _) _).drew
    refine (r51 x1 nodes _ 1 1 [(x1, x2)] _ ((nm_one w1 (x1, x2) HH.out.2.1).below ((Below.refl _ _).drew)) (by omega)).mono ?_
    rintro e w' ⟨rfl, hb2⟩
    have e1 : allOwn x1 [(x1, x2)] = true := by simp [allOwn]
    rw [e1]
    exact ⟨rfl, H1.out.below (hb.trans (hb2.mono hb.size))⟩
  clear hk hl1 hl2
  go_wp2_with fail
  go_region_with (go_at_call 51; refine H51.mono ?_; rintro e w2 ⟨rfl, H2⟩)
  all_goals (
    clear H51 t0 t1 t2 t3 b0 b1 a0 a1 d0 d1
    obtain ⟨t0, t1, t2, t3⟩ := (HH.out.1.below H2.out.bel).cells
    obtain ⟨b0, b1⟩ := H2.out.cells
    have H52 : Calls Try.prog 52 #[.map (some eb), .agg #[.int .i64 x1, .int .i64 x2, .int .i64 to], .int .i64 (IntKind.i64.wrap (-ti))] w2.drew fun e w' => e = .returned (.tuple #[]) ∧ Hid (RtIs w B tb eb ib (n + 1) x1 nodes (addF f ((x1, x2), to) (-ti)) g w') := by
      rw [HNEG.out]
      have hR := (HH.out.1.below H2.out.bel).below ((Below.refl _ w2).drew)
      refine (r52 eb n _ ((x1, x2), to) (-ti) w2.drew hR.ex ⟨HH.out.2.1, HH.out.2.2⟩ (by omega)).mono ?_
      rintro e w' ⟨rfl, ha⟩
      obtain ⟨r1, r2⟩ := rt_ex hR ha
      exact ⟨rfl, r1, (RtTo.of (H2.out.bel.drew)).trans r2⟩
    go_wp2_with fail
    go_region_with (go_at_call 52; refine H52.mono ?_; rintro e w5 ⟨rfl, H5⟩)
    all_goals (
      clear H52 t0 t1 t2 t3 b0 b1
      go_wp2_with fail
      go_ret
      exact ⟨rfl, H5.out⟩))
/-- Is a variable exported? -/
def expB (f : Hk → Int) (nodes : Nat) (x : Nm) : Bool := (List.range nodes).any fun i => !decide (f (x, (i : Int)) = 0)
set_option maxRecDepth 100000 in
set_option maxHeartbeats 4000000 in
theorem r20 (B tb eb ib n : Nat) (own : Int) (nodes : Nat) (f g : Hk → Int) (x : Nm) (w : World) (h : RtAt w B tb eb ib n own nodes f g) (hx : wfN x) (hn4 : nodes ≤ 4) :
    Calls Try.prog 20 #[.pointer (some ⟨tb, 0, none⟩), .agg #[.int .i64 x.1, .int .i64 x.2]] w fun e w' => e = .returned (.bool (expB f nodes x)) ∧ Below w.heap.size w w' := by
  obtain ⟨W, hW⟩ : ∃ W, w.alloc (.cells #[.int .i64 x.1, .int .i64 x.2] 48) = W := ⟨_, rfl⟩
  have HX : Hid (Bx w W x) := by rw [← hW]; exact bx_new w x
  have HH : Hid (RtAt w B tb eb ib n own nodes f g ∧ wfN x) := ⟨h, hx⟩
  obtain ⟨t0, t1, t2, t3⟩ := (h.below HX.out.bel).cells
  obtain ⟨b0, b1⟩ := HX.out.cells
  clear h hx
  obtain ⟨x1, x2⟩ := x
  simp only at *
  go_enter Try.func20, Try.ntmps20
  go_wp2_with fail
  clear hW
  go_loopw [13] (fun i wr => ∃ k : Nat, k ≤ nodes ∧ i = .int .i64 k ∧ Hid (Below W.heap.size W wr ∧ expB f k (x1, x2) = false)) (fun i _ => nodes - (intOf i).toNat)
  case atStart => exact ⟨0, Nat.zero_le _, rfl, Below.refl _ _, rfl⟩
  case round =>
    clear t0 t1 t2 t3 b0 b1
    obtain ⟨k, hk, rfl, HK⟩ := hrel
    by_cases hlt : k < nodes
    · have hltI : (k : Int) < (nodes : Int) := by omega
      have hk0 : (0 : Int) ≤ (k : Int) := by omega
      have hXr := HX.out.below HK.out.1
      have hRr := HH.out.1.below hXr.bel
      obtain ⟨t0, t1, t2, t3⟩ := hRr.cells
      obtain ⟨b0, b1⟩ := hXr.cells
      have hwk : wfI (k : Int) := by
        unfold wfI
        exact WalkArith.wf_i64 (by omega)
      have hz : (zeroValue 3).run Try.prog wr.drew = .ok (.int .i64 0) wr.drew := by go_simp
      have hlk : (Instr.lookup 79 (.map (some eb)) (.agg #[.int .i64 x1, .int .i64 x2, .int .i64 (k : Int)]) false).run Try.prog wr.drew = .ok (.int .i64 (f ((x1, x2), (k : Int)))) wr.drew := by
        have := (hRr.below ((Below.refl _ wr).drew)).ex.look Try.underlying79 hz (x := ((x1, x2), (k : Int))) ⟨HH.out.2, hwk⟩
        rw [cF_get] at this
        exact this
      have HS : Hid (expB f (k + 1) (x1, x2) = (expB f k (x1, x2) || !decide (f ((x1, x2), (k : Int)) = 0))) := by
        show expB f (k + 1) (x1, x2) = _
        unfold expB
        rw [List.range_succ, List.any_append]
        simp
      have HE : Hid (¬ f ((x1, x2), (k : Int)) = 0 → expB f nodes (x1, x2) = true) := fun hne => by
        show expB f nodes (x1, x2) = true
        unfold expB
        rw [List.any_eq_true]
        exact ⟨k, List.mem_range.2 hlt, by simp [hne]⟩
      generalize f ((x1, x2), (k : Int)) = v at *
      clear hXr hRr hz hwk
      by_cases hv : v = 0
      · subst hv
        go_wp2_with fail
        go_region
        go_wp2_with fail
        go_roundw
        case rel => exact ⟨k + 1, by omega, by go_num, HK.out.1.drew, by
          show expB f (k + 1) (x1, x2) = false
          rw [HS.out, HK.out.2]; simp⟩
        case measure => simp [intOf]; omega
      · have hv2 : (v == 0) = false := by simp [hv]
        go_wp2_with fail
        go_region
        go_wp2_with fail
        go_ret
        rw [HE.out hv]
        exact ⟨rfl, HX.out.bel.trans ((HK.out.1.drew).mono HX.out.bel.size)⟩
    · go_wp2_with fail
      go_ret
      have hkm : k = nodes := by omega
      subst hkm
      rw [HK.out.2]
      exact ⟨rfl, HX.out.bel.trans (HK.out.1.mono HX.out.bel.size)⟩
end Go.Proofs.Ytjbgemmcbombfaa
