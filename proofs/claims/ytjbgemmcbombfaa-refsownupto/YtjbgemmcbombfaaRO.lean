/- Calls that have an error, or nothing to count, change nothing. -/
import Derived.Test.YtjbgemmcbombfaaRJ
namespace Go.Proofs.Ytjbgemmcbombfaa
open Go.RowKit
attribute [local go_sem ↓] Go.wp_at_zero Go.wp_at_succ
/-- An answer that changes nothing. -/
def NoE (e : Ending) (w w' : World) : Prop := (∃ c, e = .returned (.int .i64 c)) ∧ Below w.heap.size w w'
set_option maxRecDepth 100000 in
set_option maxHeartbeats 4000000 in
theorem r19_none (B tb eb ib n : Nat) (own nodes : Int) (f g : Hk → Int) (to : Int) (a : Option Addr) (m c : Nat) (xs : List Nm) (w : World) (h : RtAt w B tb eb ib n own nodes f g) (hto : (isN nodes to && !decide (to = own)) = true) (hwt : wfI to) (hx : NmR w a m xs) (hall : allOwn own xs = false) (hn : n + m ≤ 1000000000) :
    Calls Try.prog 19 #[.pointer (some ⟨tb, 0, none⟩), .int .i64 to, .slice a m c] w fun e w' => NoE e w w' := by
  have H50 := r50 own nodes to w
  rw [hto] at H50
  obtain ⟨c0, c1, c2, c3⟩ := h.cells
  have HH : Hid (RtAt w B tb eb ib n own nodes f g ∧ NmR w a m xs ∧ wfI to ∧ allOwn own xs = false) := ⟨h, hx, hwt, hall⟩
  clear h hx hwt hall
  go_enter Try.func19, Try.ntmps19
  go_wp2_with fail
  refine H50.mono ?_
  rintro e w1 ⟨rfl, hb⟩
  have HB : Hid (Below w.heap.size w w1) := hb
  clear hb H50 c0 c1 c2 c3
  obtain ⟨c0, c1, c2, c3⟩ := (HH.out.1.below HB.out).cells
  have H51 : Calls Try.prog 51 #[.agg #[.int .i64 own, .int .i64 nodes], .slice a m c] w1 fun e w' => e = .returned (.bool false) ∧ Hid (Below w.heap.size w w') := by
    refine (r51 own nodes a m c xs w1 (HH.out.2.1.below HB.out) (by omega)).mono ?_
    rintro e w' ⟨rfl, hb⟩
    rw [HH.out.2.2.2]
    exact ⟨rfl, HB.out.trans (hb.mono HB.out.size)⟩
  go_wp2_with fail
  refine H51.mono ?_
  rintro e w2 ⟨rfl, H2⟩
  clear H51 HB c0 c1 c2 c3
  go_wp2_with fail
  go_ret
  exact ⟨⟨_, rfl⟩, H2.out⟩
set_option maxRecDepth 100000 in
set_option maxHeartbeats 4000000 in
theorem r30_range (B tb eb ib n : Nat) (own nodes : Int) (f g : Hk → Int) (x : Nm) (to : Int) (w : World) (h : RtAt w B tb eb ib n own nodes f g) (hx : wfN x) (hto : isN nodes to = false) (hwt : wfI to) :
    Calls Try.prog 30 #[.pointer (some ⟨tb, 0, none⟩), .agg #[.int .i64 x.1, .int .i64 x.2], .int .i64 to] w fun e w' => NoE e w w' := by
  obtain ⟨W, hW⟩ : ∃ W, w.alloc (.cells #[.int .i64 x.1, .int .i64 x.2] 48) = W := ⟨_, rfl⟩
  have HX : Hid (Bx w W x) := by rw [← hW]; exact bx_new w x
  have HH : Hid (RtAt w B tb eb ib n own nodes f g ∧ wfN x ∧ wfI to) := ⟨h, hx, hwt⟩
  obtain ⟨t0, t1, t2, t3⟩ := (h.below HX.out.bel).cells
  obtain ⟨b0, b1⟩ := HX.out.cells
  obtain ⟨x1, x2⟩ := x
  simp only at *
  have H31 : Calls Try.prog 31 #[.agg #[.int .i64 own, .int .i64 nodes], .int .i64 to] W fun e w' => e = .returned (.bool false) ∧ Hid (Bx w w' (x1, x2)) := by
    refine (r31 own nodes to W).mono ?_
    rintro e w' ⟨rfl, hb⟩
    rw [hto]
    exact ⟨rfl, HX.out.below hb⟩
  clear h hx hwt HX
  go_enter Try.func30, Try.ntmps30
  go_wp2_with fail
  refine H31.mono ?_
  rintro e w1 ⟨rfl, H1⟩
  clear H31 hW t0 t1 t2 t3 b0 b1
  go_wp2_with fail
  go_ret
  exact ⟨⟨_, rfl⟩, H1.out.bel⟩
set_option maxRecDepth 100000 in
set_option maxHeartbeats 4000000 in
theorem r30_none (B tb eb ib n : Nat) (own nodes : Int) (f g : Hk → Int) (x : Nm) (to : Int) (w : World) (h : RtAt w B tb eb ib n own nodes f g) (hx : wfN x) (hxo : ¬ x.1 = own) (hto : isN nodes to = true) (hwt : wfI to) :
    Calls Try.prog 30 #[.pointer (some ⟨tb, 0, none⟩), .agg #[.int .i64 x.1, .int .i64 x.2], .int .i64 to] w fun e w' => NoE e w w' := by
  obtain ⟨W, hW⟩ : ∃ W, w.alloc (.cells #[.int .i64 x.1, .int .i64 x.2] 48) = W := ⟨_, rfl⟩
  have HX : Hid (Bx w W x) := by rw [← hW]; exact bx_new w x
  have HH : Hid (RtAt w B tb eb ib n own nodes f g ∧ wfN x ∧ wfI to) := ⟨h, hx, hwt⟩
  obtain ⟨t0, t1, t2, t3⟩ := (h.below HX.out.bel).cells
  obtain ⟨b0, b1⟩ := HX.out.cells
  obtain ⟨x1, x2⟩ := x
  simp only at *
  have H31 : Calls Try.prog 31 #[.agg #[.int .i64 own, .int .i64 nodes], .int .i64 to] W fun e w' => e = .returned (.bool true) ∧ Hid (Bx w w' (x1, x2)) := by
    refine (r31 own nodes to W).mono ?_
    rintro e w' ⟨rfl, hb⟩
    rw [hto]
    exact ⟨rfl, HX.out.below hb⟩
  clear h hx hwt HX
  have HXO : Hid (¬ x1 = own) := hxo
  clear hxo
  go_enter Try.func30, Try.ntmps30
  go_wp2_with fail
  refine H31.mono ?_
  rintro e w1 ⟨rfl, H1⟩
  clear H31 hW t0 t1 t2 t3 b0 b1
  obtain ⟨t0, t1, t2, t3⟩ := (HH.out.1.below H1.out.bel).cells
  obtain ⟨b0, b1⟩ := H1.out.cells
  have hk : ∀ (o : Obj) (p : Addr), p.block < w1.heap.size → (w1.alloc o).cell? p = w1.cell? p := fun o p hp => ((Below.refl w1.heap.size w1).alloc (Nat.le_refl _) o).cell hp
  have hl1 : tb < w1.heap.size := (HH.out.1.below H1.out.bel).lt
  have hl2 : w.heap.size < w1.heap.size := (Array.getElem?_eq_some_iff.1 H1.out.box).1
  have a0 := fun o => (hk o ⟨tb, 0, none⟩ hl1).trans t0
  have a1 := fun o => (hk o ⟨tb, 1, none⟩ hl1).trans t1
  have d0 := fun o => (hk o ⟨w.heap.size, 0, none⟩ hl2).trans b0
  have d1 := fun o => (hk o ⟨w.heap.size, 1, none⟩ hl2).trans b1
  have H51 : Calls Try.prog 51 #[.agg #[.int .i64 own, .int .i64 nodes], .slice (some ⟨w1.heap.size, 0, none⟩) 1 1] (w1.alloc (.cells #[.int .i64 x1, .int .i64 x2] 48)).drew fun e w' => e = .returned (.bool false) ∧ Hid (Bx w w' (x1, x2)) := by
    have hb : Below w1.heap.size w1 (w1.alloc (.cells #[.int .i64 x1, .int .i64 x2] 48)).drew := ((Below.refl _ _).alloc (Nat.le_refl _) _).drew
    refine (r51 own nodes _ 1 1 [(x1, x2)] _ ((nm_one w1 (x1, x2) HH.out.2.1).below ((Below.refl _ _).drew)) (by omega)).mono ?_
    rintro e w' ⟨rfl, hb2⟩
    have e1 : allOwn own [(x1, x2)] = false := by simp [allOwn, HXO.out]
    rw [e1]
    exact ⟨rfl, H1.out.below (hb.trans (hb2.mono hb.size))⟩
  clear hk hl1 hl2
  go_wp2_with fail
  go_region_with (go_at_call 51; refine H51.mono ?_; rintro e w2 ⟨rfl, H2⟩)
  all_goals (
    clear H51 t0 t1 t2 t3 b0 b1 a0 a1 d0 d1
    go_wp2_with fail
    go_ret
    exact ⟨⟨_, rfl⟩, H2.out.bel⟩)
set_option maxRecDepth 100000 in
set_option maxHeartbeats 4000000 in
theorem r30_own (B tb eb ib n : Nat) (own nodes : Int) (f g : Hk → Int) (x : Nm) (to : Int) (w : World) (h : RtAt w B tb eb ib n own nodes f g) (hx : wfN x) (hxo : x.1 = own) (hto : isN nodes to = true) (hne : to = own) (hwt : wfI to) :
    Calls Try.prog 30 #[.pointer (some ⟨tb, 0, none⟩), .agg #[.int .i64 x.1, .int .i64 x.2], .int .i64 to] w fun e w' => NoE e w w' := by
  obtain ⟨W, hW⟩ : ∃ W, w.alloc (.cells #[.int .i64 x.1, .int .i64 x.2] 48) = W := ⟨_, rfl⟩
  have HX : Hid (Bx w W x) := by rw [← hW]; exact bx_new w x
  have HH : Hid (RtAt w B tb eb ib n own nodes f g ∧ wfN x ∧ wfI to) := ⟨h, hx, hwt⟩
  obtain ⟨t0, t1, t2, t3⟩ := (h.below HX.out.bel).cells
  obtain ⟨b0, b1⟩ := HX.out.cells
  obtain ⟨x1, x2⟩ := x
  simp only at *
  subst hxo
  have hne2 := hne.symm
  subst hne2
  have H31 : Calls Try.prog 31 #[.agg #[.int .i64 x1, .int .i64 nodes], .int .i64 x1] W fun e w' => e = .returned (.bool true) ∧ Hid (Bx w w' (x1, x2)) := by
    refine (r31 x1 nodes x1 W).mono ?_
    rintro e w' ⟨rfl, hb⟩
    rw [hto]
    exact ⟨rfl, HX.out.below hb⟩
  clear h hx hwt HX
  go_enter Try.func30, Try.ntmps30
  go_wp2_with fail
  refine H31.mono ?_
  rintro e w1 ⟨rfl, H1⟩
  clear H31 hW t0 t1 t2 t3 b0 b1
  obtain ⟨t0, t1, t2, t3⟩ := (HH.out.1.below H1.out.bel).cells
  obtain ⟨b0, b1⟩ := H1.out.cells
  have hk : ∀ (o : Obj) (p : Addr), p.block < w1.heap.size → (w1.alloc o).cell? p = w1.cell? p := fun o p hp => ((Below.refl w1.heap.size w1).alloc (Nat.le_refl _) o).cell hp
  have hl1 : tb < w1.heap.size := (HH.out.1.below H1.out.bel).lt
  have hl2 : w.heap.size < w1.heap.size := (Array.getElem?_eq_some_iff.1 H1.out.box).1
  have a0 := fun o => (hk o ⟨tb, 0, none⟩ hl1).trans t0
  have a1 := fun o => (hk o ⟨tb, 1, none⟩ hl1).trans t1
  have d0 := fun o => (hk o ⟨w.heap.size, 0, none⟩ hl2).trans b0
  have d1 := fun o => (hk o ⟨w.heap.size, 1, none⟩ hl2).trans b1
  have H51 : Calls Try.prog 51 #[.agg #[.int .i64 x1, .int .i64 nodes], .slice (some ⟨w1.heap.size, 0, none⟩) 1 1] (w1.alloc (.cells #[.int .i64 x1, .int .i64 x2] 48)).drew fun e w' => e = .returned (.bool true) ∧ Hid (Bx w w' (x1, x2)) := by
    have hb : Below w1.heap.size w1 (w1.alloc (.cells #[.int .i64 x1, .int .i64 x2] 48)).drew := ((Below.refl _ _).alloc (Nat.le_refl _) _).drew
    refine (r51 x1 nodes _ 1 1 [(x1, x2)] _ ((nm_one w1 (x1, x2) HH.out.2.1).below ((Below.refl _ _).drew)) (by omega)).mono ?_
    rintro e w' ⟨rfl, hb2⟩
    have e1 : allOwn x1 [(x1, x2)] = true := by simp [allOwn]
    rw [e1]
    exact ⟨rfl, H1.out.below (hb.trans (hb2.mono hb.size))⟩
  clear hk hl1 hl2
  go_wp2_with fail
  go_region_with (go_at_call 51; refine H51.mono ?_; rintro e w2 ⟨rfl, H2⟩)
  all_goals (
    clear H51 t0 t1 t2 t3 b0 b1 a0 a1 d0 d1
    obtain ⟨t0, t1, t2, t3⟩ := (HH.out.1.below H2.out.bel).cells
    go_wp2_with fail
    go_ret
    exact ⟨⟨_, rfl⟩, H2.out.bel⟩)
set_option maxRecDepth 100000 in
set_option maxHeartbeats 4000000 in
theorem r21_range (B tb eb ib n : Nat) (own nodes : Int) (f g : Hk → Int) (x : Nm) (to ti : Int) (w : World) (h : RtAt w B tb eb ib n own nodes f g) (hx : wfN x) (hto : (isN nodes to && !decide (to = own)) = false) (hwt : wfI to) :
    Calls Try.prog 21 #[.pointer (some ⟨tb, 0, none⟩), .agg #[.int .i64 x.1, .int .i64 x.2], .int .i64 to, .int .i64 ti] w fun e w' => NoE e w w' := by
  obtain ⟨W, hW⟩ : ∃ W, w.alloc (.cells #[.int .i64 x.1, .int .i64 x.2] 48) = W := ⟨_, rfl⟩
  have HX : Hid (Bx w W x) := by rw [← hW]; exact bx_new w x
  have HH : Hid (RtAt w B tb eb ib n own nodes f g ∧ wfN x ∧ wfI to) := ⟨h, hx, hwt⟩
  obtain ⟨t0, t1, t2, t3⟩ := (h.below HX.out.bel).cells
  obtain ⟨b0, b1⟩ := HX.out.cells
  obtain ⟨x1, x2⟩ := x
  simp only at *
  have H50 : Calls Try.prog 50 #[.agg #[.int .i64 own, .int .i64 nodes], .int .i64 to] W fun e w' => e = .returned (.bool false) ∧ Hid (Bx w w' (x1, x2)) := by
    refine (r50 own nodes to W).mono ?_
    rintro e w' ⟨rfl, hb⟩
    rw [hto]
    exact ⟨rfl, HX.out.below hb⟩
  clear h hx hwt HX
  go_enter Try.func21, Try.ntmps21
  go_wp2_with fail
  refine H50.mono ?_
  rintro e w1 ⟨rfl, H1⟩
  clear H50 hW t0 t1 t2 t3 b0 b1
  go_wp2_with fail
  go_ret
  exact ⟨⟨_, rfl⟩, H1.out.bel⟩
set_option maxRecDepth 100000 in
set_option maxHeartbeats 4000000 in
theorem r21_low (B tb eb ib n : Nat) (own nodes : Int) (f g : Hk → Int) (x : Nm) (to ti : Int) (w : World) (h : RtAt w B tb eb ib n own nodes f g) (hx : wfN x) (hto : (isN nodes to && !decide (to = own)) = true) (hwt : wfI to) (ht : ti < 1) :
    Calls Try.prog 21 #[.pointer (some ⟨tb, 0, none⟩), .agg #[.int .i64 x.1, .int .i64 x.2], .int .i64 to, .int .i64 ti] w fun e w' => NoE e w w' := by
  obtain ⟨W, hW⟩ : ∃ W, w.alloc (.cells #[.int .i64 x.1, .int .i64 x.2] 48) = W := ⟨_, rfl⟩
  have HX : Hid (Bx w W x) := by rw [← hW]; exact bx_new w x
  have HH : Hid (RtAt w B tb eb ib n own nodes f g ∧ wfN x ∧ wfI to) := ⟨h, hx, hwt⟩
  obtain ⟨t0, t1, t2, t3⟩ := (h.below HX.out.bel).cells
  obtain ⟨b0, b1⟩ := HX.out.cells
  obtain ⟨x1, x2⟩ := x
  simp only at *
  have H50 : Calls Try.prog 50 #[.agg #[.int .i64 own, .int .i64 nodes], .int .i64 to] W fun e w' => e = .returned (.bool true) ∧ Hid (Bx w w' (x1, x2)) := by
    refine (r50 own nodes to W).mono ?_
    rintro e w' ⟨rfl, hb⟩
    rw [hto]
    exact ⟨rfl, HX.out.below hb⟩
  have hg1 : ti < 1 := ht
  clear h hx hwt HX
  go_enter Try.func21, Try.ntmps21
  go_wp2_with fail
  refine H50.mono ?_
  rintro e w1 ⟨rfl, H1⟩
  clear H50 hW t0 t1 t2 t3 b0 b1
  go_wp2_with fail
  go_ret
  exact ⟨⟨_, rfl⟩, H1.out.bel⟩
set_option maxRecDepth 100000 in
set_option maxHeartbeats 4000000 in
theorem r21_high (B tb eb ib n : Nat) (own nodes : Int) (f g : Hk → Int) (x : Nm) (to ti : Int) (w : World) (h : RtAt w B tb eb ib n own nodes f g) (hx : wfN x) (hto : (isN nodes to && !decide (to = own)) = true) (hwt : wfI to) (ht : 2147483647 < ti) :
    Calls Try.prog 21 #[.pointer (some ⟨tb, 0, none⟩), .agg #[.int .i64 x.1, .int .i64 x.2], .int .i64 to, .int .i64 ti] w fun e w' => NoE e w w' := by
  obtain ⟨W, hW⟩ : ∃ W, w.alloc (.cells #[.int .i64 x.1, .int .i64 x.2] 48) = W := ⟨_, rfl⟩
  have HX : Hid (Bx w W x) := by rw [← hW]; exact bx_new w x
  have HH : Hid (RtAt w B tb eb ib n own nodes f g ∧ wfN x ∧ wfI to) := ⟨h, hx, hwt⟩
  obtain ⟨t0, t1, t2, t3⟩ := (h.below HX.out.bel).cells
  obtain ⟨b0, b1⟩ := HX.out.cells
  obtain ⟨x1, x2⟩ := x
  simp only at *
  have H50 : Calls Try.prog 50 #[.agg #[.int .i64 own, .int .i64 nodes], .int .i64 to] W fun e w' => e = .returned (.bool true) ∧ Hid (Bx w w' (x1, x2)) := by
    refine (r50 own nodes to W).mono ?_
    rintro e w' ⟨rfl, hb⟩
    rw [hto]
    exact ⟨rfl, HX.out.below hb⟩
  have hg1 : ¬ ti < 1 := by omega
  have hg2 : ti > 2147483647 := ht
  clear h hx hwt HX
  go_enter Try.func21, Try.ntmps21
  go_wp2_with fail
  refine H50.mono ?_
  rintro e w1 ⟨rfl, H1⟩
  clear H50 hW t0 t1 t2 t3 b0 b1
  go_wp2_with fail
  go_ret
  exact ⟨⟨_, rfl⟩, H1.out.bel⟩
set_option maxRecDepth 100000 in
set_option maxHeartbeats 4000000 in
theorem r21_none (B tb eb ib n : Nat) (own nodes : Int) (f g : Hk → Int) (x : Nm) (to ti : Int) (w : World) (h : RtAt w B tb eb ib n own nodes f g) (hx : wfN x) (hxo : ¬ x.1 = own) (hto : (isN nodes to && !decide (to = own)) = true) (hwt : wfI to) (ht1 : 1 ≤ ti) (ht2 : ti ≤ 2147483647) :
    Calls Try.prog 21 #[.pointer (some ⟨tb, 0, none⟩), .agg #[.int .i64 x.1, .int .i64 x.2], .int .i64 to, .int .i64 ti] w fun e w' => NoE e w w' := by
  obtain ⟨W, hW⟩ : ∃ W, w.alloc (.cells #[.int .i64 x.1, .int .i64 x.2] 48) = W := ⟨_, rfl⟩
  have HX : Hid (Bx w W x) := by rw [← hW]; exact bx_new w x
  have HH : Hid (RtAt w B tb eb ib n own nodes f g ∧ wfN x ∧ wfI to) := ⟨h, hx, hwt⟩
  obtain ⟨t0, t1, t2, t3⟩ := (h.below HX.out.bel).cells
  obtain ⟨b0, b1⟩ := HX.out.cells
  obtain ⟨x1, x2⟩ := x
  simp only at *
  have H50 : Calls Try.prog 50 #[.agg #[.int .i64 own, .int .i64 nodes], .int .i64 to] W fun e w' => e = .returned (.bool true) ∧ Hid (Bx w w' (x1, x2)) := by
    refine (r50 own nodes to W).mono ?_
    rintro e w' ⟨rfl, hb⟩
    rw [hto]
    exact ⟨rfl, HX.out.below hb⟩
  have hg1 : ¬ ti < 1 := by omega
  have hg2 : ¬ ti > 2147483647 := by omega
  clear h hx hwt HX
  have HXO : Hid (¬ x1 = own) := hxo
  clear hxo
  go_enter Try.func21, Try.ntmps21
  go_wp2_with fail
  refine H50.mono ?_
  rintro e w1 ⟨rfl, H1⟩
  clear H50 hW t0 t1 t2 t3 b0 b1
  obtain ⟨t0, t1, t2, t3⟩ := (HH.out.1.below H1.out.bel).cells
  obtain ⟨b0, b1⟩ := H1.out.cells
  have hk : ∀ (o : Obj) (p : Addr), p.block < w1.heap.size → (w1.alloc o).cell? p = w1.cell? p := fun o p hp => ((Below.refl w1.heap.size w1).alloc (Nat.le_refl _) o).cell hp
  have hl1 : tb < w1.heap.size := (HH.out.1.below H1.out.bel).lt
  have hl2 : w.heap.size < w1.heap.size := (Array.getElem?_eq_some_iff.1 H1.out.box).1
  have a0 := fun o => (hk o ⟨tb, 0, none⟩ hl1).trans t0
  have a1 := fun o => (hk o ⟨tb, 1, none⟩ hl1).trans t1
  have d0 := fun o => (hk o ⟨w.heap.size, 0, none⟩ hl2).trans b0
  have d1 := fun o => (hk o ⟨w.heap.size, 1, none⟩ hl2).trans b1
  have H51 : Calls Try.prog 51 #[.agg #[.int .i64 own, .int .i64 nodes], .slice (some ⟨w1.heap.size, 0, none⟩) 1 1] (w1.alloc (.cells #[.int .i64 x1, .int .i64 x2] 48)).drew fun e w' => e = .returned (.bool false) ∧ Hid (Bx w w' (x1, x2)) := by
    have hb : Below w1.heap.size w1 (w1.alloc (.cells #[.int .i64 x1, .int .i64 x2] 48)).drew := ((Below.refl _ _).alloc (Nat.le_refl _) _).drew
    refine (r51 own nodes _ 1 1 [(x1, x2)] _ ((nm_one w1 (x1, x2) HH.out.2.1).below ((Below.refl _ _).drew)) (by omega)).mono ?_
    rintro e w' ⟨rfl, hb2⟩
    have e1 : allOwn own [(x1, x2)] = false := by simp [allOwn, HXO.out]
    rw [e1]
    exact ⟨rfl, H1.out.below (hb.trans (hb2.mono hb.size))⟩
  clear hk hl1 hl2
  go_wp2_with fail
  go_region_with (go_at_call 51; refine H51.mono ?_; rintro e w2 ⟨rfl, H2⟩)
  all_goals (
    clear H51 t0 t1 t2 t3 b0 b1 a0 a1 d0 d1
    go_wp2_with fail
    go_ret
    exact ⟨⟨_, rfl⟩, H2.out.bel⟩)
set_option maxRecDepth 100000 in
set_option maxHeartbeats 8000000 in
theorem r22_none (B tb eb ib n : Nat) (own nodes : Int) (f g : Hk → Int) (a : Option Addr) (m c : Nat) (xs : List Nm) (w : World) (h : RtAt w B tb eb ib n own nodes f g) (hx : NmR w a m xs) (hall : ¬ ∀ x ∈ xs, isN nodes x.1 = true) (hn : n + m ≤ 1000000000) :
    Calls Try.prog 22 #[.pointer (some ⟨tb, 0, none⟩), .slice a m c] w fun e w' => NoE e w w' := by
  have HH : Hid (RtAt w B tb eb ib n own nodes f g ∧ NmR w a m xs ∧ ¬ ∀ x ∈ xs, isN nodes x.1 = true) := ⟨h, hx, hall⟩
  clear h hx hall
  go_enter Try.func22, Try.ntmps22
  go_wp2_with fail
  go_loopw [13] (fun i wr => ∃ k : Nat, k ≤ m ∧ i = .int .i64 k ∧ Hid (Below w.heap.size w wr ∧ ∀ x ∈ xs.take k, isN nodes x.1 = true)) (fun i _ => m - (intOf i).toNat)
  case atStart => exact ⟨0, Nat.zero_le _, rfl, Below.refl _ _, by simp⟩
  case round =>
    obtain ⟨k, hk, rfl, HK⟩ := hrel
    by_cases hlt : k < m
    · have hltI : (k : Int) < (m : Int) := by omega
      have hk0 : (0 : Int) ≤ (k : Int) := by omega
      obtain ⟨b, o, hxk, rfl, hb, p0, p1⟩ := (HH.out.2.1.below HK.out.1).at hlt
      have HT : Hid (xs.take (k + 1) = xs.take k ++ [xs[k]]) := (List.take_append_getElem hxk).symm
      generalize xs[k] = y at *
      obtain ⟨y1, y2⟩ := y
      simp only at p0 p1
      obtain ⟨W2, hW2⟩ : ∃ W2, wr.alloc (.cells #[.int .i64 0, .int .i64 0] 48) = W2 := ⟨_, rfl⟩
      obtain ⟨vb, hvb⟩ : ∃ vb, wr.heap.size = vb := ⟨_, rfl⟩
      obtain ⟨⟨c0, c1, g0, g1⟩, hbV, hcV⟩ := stored (y1 := y1) (y2 := y2) hW2 hvb
      obtain ⟨V, hV⟩ : ∃ V, (W2.setCell ⟨vb, 0, none⟩ (.int .i64 y1)).setCell ⟨vb, 1, none⟩ (.int .i64 y2) = V := ⟨_, rfl⟩
      rw [hV] at hbV hcV
      obtain ⟨q0, q1⟩ := box2 hcV
      have HV : Hid (Below w.heap.size w V) := HK.out.1.trans (hbV.mono HK.out.1.size)
      obtain ⟨t0, t1, t2, t3⟩ := (HH.out.1.below HV.out).cells
      obtain ⟨q, HQ⟩ : ∃ q, Hid (isN nodes y1 = q) := ⟨_, rfl⟩
      have H31 : Calls Try.prog 31 #[.agg #[.int .i64 own, .int .i64 nodes], .int .i64 y1] V.drew fun e w' => e = .returned (.bool q) ∧ Hid (Below w.heap.size w w') := by
        refine (r31 own nodes y1 V.drew).mono ?_
        rintro e w' ⟨rfl, hb2⟩
        rw [HQ.out]
        have h3 := HV.out.drew
        exact ⟨rfl, h3.trans (hb2.mono h3.size)⟩
      clear hbV hcV
      cases q with
      | true =>
        go_wp2_with fail
        clear hW2 hvb c0 c1 g0 g1 hV
        go_region_with (go_at_call 31; refine H31.mono ?_; rintro e w5 ⟨rfl, H5⟩)
        all_goals (
          clear H31 q0 q1 t0 t1 t2 t3 p0 p1
          have H6 : Hid (Below w.heap.size w w5 ∧ ∀ x ∈ xs.take (k + 1), isN nodes x.1 = true) := ⟨H5.out, fun x hx => by
            rw [HT.out] at hx
            rcases List.mem_append.1 hx with hx | hx
            · exact HK.out.2 x hx
            · obtain rfl : x = (y1, y2) := by simpa using hx
              exact HQ.out⟩
          go_wp2_with fail
          go_roundw
          case rel => exact ⟨k + 1, by omega, by go_num, H6⟩
          case measure => simp [intOf]; omega)
      | false =>
        go_wp2_with fail
        clear hW2 hvb c0 c1 g0 g1 hV
        go_region_with (go_at_call 31; refine H31.mono ?_; rintro e w5 ⟨rfl, H5⟩)
        all_goals (
          clear H31 q0 q1 t0 t1 t2 t3 p0 p1
          go_wp2_with fail
          go_ret
          exact ⟨⟨_, rfl⟩, H5.out⟩)
    · have hm : k = m := by omega
      have h1 := HK.out.2
      rw [hm, List.take_of_length_le (by rw [HH.out.2.1.len]; exact Nat.le_refl _)] at h1
      exact absurd h1 HH.out.2.2
end Go.Proofs.Ytjbgemmcbombfaa
