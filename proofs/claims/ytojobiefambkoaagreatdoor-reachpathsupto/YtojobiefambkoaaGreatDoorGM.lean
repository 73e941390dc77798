/- Contract of Cyclic: does a variable lead to itself. -/
import Derived.Test.YtojobiefambkoaaGreatDoorFD
namespace Go.Proofs.YtojobiefambkoaaGreatDoor
open Go.RowKit Go.Shelf Go.Sort
attribute [local go_sem] Oper.semAt_some
def cycF (m : Hp) (x : Nm) : Bool := (allC m (leadsH m x)).any fun c => eqN (hd0 c) x
/-- What stands in the call's own blocks. -/
def CyI (n0 b1 : Nat) (w : World) (x : Nm) (pre : List Pc) (W : World) : Prop := (W.heap[n0]? = some (.cells #[.int .i64 x.1, .int .i64 x.2] 49 (0, 0)) ∧ W.heap[b1]? = some (.cells #[.bool false] 4 (0, 0))) ∧ Below n0 w W ∧ ∀ z ∈ pre, eqN (hd0 z.c) x = false
def CyX (m : Hp) (n0 b1 : Nat) (w : World) (x : Nm) (c : Code) (W : World) : Prop := c = .ret ∧ cycF m x = true ∧ W.heap[b1]? = some (.cells #[.bool true] 4 (0, 0)) ∧ Below n0 w W
theorem cyI_it {n0 b1 B : Nat} {w : World} {x : Nm} {s : List Pc} {A C : World} (h : CyI n0 b1 w x s A) (hi : ItL B A C) (hB : n0 ≤ B) : CyI n0 b1 w x s C :=
  ⟨⟨hi.kt.2 _ _ 49 _ (by decide) h.1.1, hi.kt.2 _ _ 4 _ (by decide) h.1.2⟩, h.2.1.trans (hi.bel.mono hB), h.2.2⟩
theorem cyX_it {m : Hp} {n0 b1 B : Nat} {w : World} {x : Nm} {c : Code} {A C : World} (h : CyX m n0 b1 w x c A) (hi : ItL B A C) (hB : n0 ≤ B) : CyX m n0 b1 w x c C :=
  ⟨h.1, h.2.1, hi.kt.2 _ _ 4 _ (by decide) h.2.2.1, h.2.2.2.trans (hi.bel.mono hB)⟩
set_option maxRecDepth 100000 in
set_option maxHeartbeats 4000000 in
theorem f23 (m : Hp) (p : Value) (x : Nm) (w : World) (hp : HpV w p m) (hx : wfN x) (hm : GoodH m) (hw : WfH m) (hu : 256 + 256 * (univ m (leadsH m x)).length ≤ 1000000000000) :
    Calls Tryz.prog 23 #[p, .agg #[.int .i64 x.1, .int .i64 x.2]] w fun e w' => e = .returned (.bool (cycF m x)) ∧ Below w.heap.size w w' := by
  refine (callsIn_wide (n := 6)).1 ?_
  obtain ⟨x1, x2⟩ := x
  simp only
  obtain ⟨n0, hn0⟩ : ∃ n0, w.heap.size = n0 := ⟨_, rfl⟩
  have HN0 : Hid (w.heap.size = n0) := hn0
  obtain ⟨b1, hb1⟩ : ∃ b, n0 + 1 = b := ⟨_, rfl⟩
  have HB1 : Hid (b1 = n0 + 1) := hb1.symm
  have hpf : ∃ q, p = .pointer q := by
    rcases hp with ⟨h, _⟩ | ⟨_, _, _, _, h, _⟩ <;> exact ⟨_, h⟩
  obtain ⟨hv, rfl⟩ := hpf
  obtain ⟨W2, hW2⟩ : ∃ W2, (w.alloc (.cells #[.int .i64 x1, .int .i64 x2] 49)).alloc (.cells #[.bool false] 4) = W2 := ⟨_, rfl⟩
  have HW2 : Hid (W2.heap[n0]? = some (.cells #[.int .i64 x1, .int .i64 x2] 49 (0, 0)) ∧ W2.heap[b1]? = some (.cells #[.bool false] 4 (0, 0)) ∧ Below n0 w W2 ∧ W2.heap.size = n0 + 2) := by
    subst hb1 hn0
    rw [← hW2]
    refine ⟨heap_at _ (heap_alloc_new w _) ((Below.refl _ _).alloc (Nat.le_refl _) _), ?_, ((Below.refl _ w).alloc (Nat.le_refl _) _).alloc (by simp only [World.size_alloc]; omega) _, by simp only [World.size_alloc]⟩
    have h := heap_alloc_new (w.alloc (.cells #[.int .i64 x1, .int .i64 x2] 49)) (.cells #[.bool false] 4)
    rw [World.size_alloc] at h
    exact h
  have k0 : W2.cell? ⟨n0, 0, none⟩ = some (.int .i64 x1) := by rw [cell_of_row W2 n0 0 _ 49 (0, 0) HW2.out.1]; rfl
  have k1 : W2.cell? ⟨n0, 1, none⟩ = some (.int .i64 x2) := by rw [cell_of_row W2 n0 1 _ 49 (0, 0) HW2.out.1]; rfl
  have hbw2 : Below w.heap.size w W2 := by rw [hn0]; exact HW2.out.2.2.1
  have H42 : Calls Tryz.prog 49 #[.pointer hv, .agg #[.int .i64 x1, .int .i64 x2]] W2 fun e w' => ∃ a k c, e = .returned (.slice a k c) ∧ Hid (OwnN w' W2.heap.size (.slice a k c) (leadsH m (x1, x2)) ∧ Below W2.heap.size W2 w') := f42 m (.pointer hv) (x1, x2) W2 (hp.below hbw2) hx hm hw
  have HX : Hid (HpV w (.pointer hv) m ∧ GoodH m ∧ WfH m ∧ 256 + 256 * (univ m (leadsH m (x1, x2))).length ≤ 1000000000000) := ⟨hp, hm, hw, hu⟩
  have H26 : Hid (∀ W a k c, Calls Tryz.prog 31 #[.pointer hv, .slice a k c] W fun e w' => e = .returned (.func (.func 60) #[] #[.pointer (some ⟨W.heap.size + 1, 0, none⟩), .pointer (some ⟨W.heap.size, 0, none⟩)]) ∧ w' = (W.alloc (.cells #[.pointer hv] 25)).alloc (.cells #[.slice a k c] 23)) := fun W a k c => f26 hv a k c W
  clear hp hx hm hw hu hbw2
  refine callsIn_of_wp_marks Tryz.func23 rfl trivial ?_ rfl
  simp only [Tryz.ntmps23, List.size_toArray, List.length_cons, List.length_nil, Nat.reduceAdd, Nat.reduceSub, Array.replicate_succ, Array.replicate_zero, List.push_toArray, List.append_toArray, List.nil_append, List.cons_append]
  gi_wp2_with (first
    | (refine ⟨trivial, ?_⟩; gi_at_call 49; refine (callsIn_wide.2 H42).mono ?_; rintro e w1 ⟨la, lk, lc, rfl, HL⟩; obtain ⟨b2, hb2⟩ : ∃ b, w1.heap.size = b := ⟨_, rfl⟩; obtain ⟨b3, hb3⟩ : ∃ b, b2 + 1 = b := ⟨_, rfl⟩; obtain ⟨W0, hW0⟩ : ∃ W0, (w1.alloc (.cells #[.pointer hv] 25)).alloc (.cells #[.slice la lk lc] 23) = W0 := ⟨_, rfl⟩)
    | (refine ⟨trivial, ?_⟩; gi_at_call 31; refine (callsIn_wide.2 (H26.out _ _ _ _)).mono ?_; rintro e w' ⟨rfl, rfl⟩))
  have hlk : (leadsH m (x1, x2)).length = lk := by
    obtain ⟨a, c, e⟩ := owns_form HL.out.1
    simp only [Value.slice.injEq] at e
    omega
  have HW0 : Hid (W0.heap[b2]? = some (.cells #[.pointer hv] 25 (0, 0)) ∧ W0.heap[b3]? = some (.cells #[.slice la lk lc] 23 (0, 0)) ∧ Below w1.heap.size w1 W0 ∧ W0.heap.size = b3 + 1 ∧ b3 = b2 + 1 ∧ w1.heap.size = b2 ∧ n0 + 2 ≤ b2) := by
    have hle : n0 + 2 ≤ w1.heap.size := by have := HL.out.2.size; have := HW2.out.2.2.2; omega
    subst hb3 hb2
    rw [← hW0]
    refine ⟨heap_at _ (heap_alloc_new w1 _) ((Below.refl _ _).alloc (Nat.le_refl _) _), ?_, ((Below.refl _ w1).alloc (Nat.le_refl _) _).alloc (by simp only [World.size_alloc]; omega) _, by simp only [World.size_alloc], rfl, rfl, hle⟩
    have h := heap_alloc_new (w1.alloc (.cells #[.pointer hv] 25)) (.cells #[.slice la lk lc] 23)
    rw [World.size_alloc] at h
    exact h
  have HLk : Hid ((leadsH m (x1, x2)).length = lk) := hlk
  clear H26 H42 hW0 hW2 hb1 hb2 hb3 hn0 k0 k1 hlk
  have HWb : Hid (Below n0 w w1) := HW2.out.2.2.1.trans (HL.out.2.mono (by have := HW2.out.2.2.2; omega))
  have HSq : ItSeq Fence.wide 5 Tryz.prog 60 #[.pointer (some ⟨b3, 0, none⟩), .pointer (some ⟨b2, 0, none⟩)] encP (GdP m (leadsH m (x1, x2))) (KpR (fun _ => False) b2) (fun xs => xs.map Pc.c = allC m (leadsH m (x1, x2))) (fun _ => True) (fun l => l.map Pc.c <+: allC m (leadsH m (x1, x2))) W0 := by
    intro l J Jx W hW hJ _ hY h0
    obtain ⟨k1, k3, k4, k6⟩ := HX.out
    obtain ⟨c5, c6, d1, d2, d3, d4, d5⟩ := HW0.out
    have hwW : Below w1.heap.size w1 W := d1.trans (hW.mono d1.size)
    have hlt5 : b2 < W0.heap.size := (Array.getElem?_eq_some_iff.1 c5).1
    have hlt6 : b3 < W0.heap.size := (Array.getElem?_eq_some_iff.1 c6).1
    have hl2 := (leads_len k3 (x1, x2)).1
    refine (pt_in (fun _ => False) m (.pointer hv) (leadsH m (x1, x2)) la lc b2 b3 b2 l 5 (by decide) w1 W J Jx (k1.below (by rw [HN0.out]; exact HWb.out)) (namesAt_of_owns (by rw [HLk.out]; exact HL.out.1) (by unfold maxLen; omega)) (by omega) hwW (by have := hW.size; omega) k3 k4 (leadsH_wf k4 _) (by omega) (by rw [HLk.out]; exact (hW.block b3 hlt6).trans c6) ((hW.block b2 hlt5).trans c5) ⟨by simp, by simp⟩ hJ hY h0).mono ?_
    rintro e W' ⟨h1, h2 | ⟨pre, h2⟩⟩
    · exact ⟨h1, .inl h2⟩
    · exact ⟨h1, .inr ⟨pre, trivial, h2⟩⟩
  have hI0 : CyI n0 b1 w (x1, x2) [] W0 := by
    obtain ⟨c1, c2, d0, d1⟩ := HW2.out
    have hb : Below W2.heap.size W2 W0 := HL.out.2.trans (HW0.out.2.2.1.mono HL.out.2.size)
    exact ⟨⟨heap_at _ c1 hb, heap_at _ c2 hb⟩, d0.trans (hb.mono (by omega)), by simp⟩
  refine rf_it (encs := encP) rfl (by decide) (gf := 60) (lb := #[.pointer (some ⟨b3, 0, none⟩), .pointer (some ⟨b2, 0, none⟩)]) rfl trivial (enters_of Tryz.func60 (by kernel_rfl) rfl) HSq kpR_t (fun W l r r' hl h => kpR_b W l r r' (by have := HW0.out; omega) h) (fun _ => rfl)
    (CyI n0 b1 w (x1, x2)) (fun c _ W => CyX m n0 b1 w (x1, x2) c W) (fun s A C h hi => cyI_it h hi (by have := HW0.out; omega)) (fun c _ A C h hi => cyX_it h hi (by have := HW0.out; omega)) hI0
    (fun x a' W => a' = { tmps := #[.pointer hv, .agg #[.int .i64 x1, .int .i64 x2], undef, .pointer (some ⟨n0, 0, none⟩), .pointer (some ⟨b1, 0, none⟩), .pointer x.v, .pointer hv, .pointer hv, .agg #[.int .i64 x1, .int .i64 x2], .slice la lk lc, .func (.func 60) #[] #[.pointer (some ⟨b3, 0, none⟩), .pointer (some ⟨b2, 0, none⟩)], .pointer x.v, undef, undef, undef, undef, undef, undef], defers := [] } ∧ GdP m (leadsH m (x1, x2)) x W)
    (fun x a' A C h hi => ⟨h.1, h.2.1.kt hi.kt, h.2.2⟩)
    ?assign ?body ?done ?stop
  case assign =>
    rintro lp pre x W K hI hG hK
    gi_wp2
    exact hK _ _ (KeepsFrom.refl _ _) ⟨Below.refl _ _, fun _ _ h _ => h⟩ hI ⟨rfl, hG⟩
  case body =>
    rintro lp pre ⟨xv, xc⟩ a' W ⟨⟨c1, c2⟩, hbw, hpre⟩ ⟨rfl, hG⟩ hNx
    obtain ⟨⟨z1, z2⟩, r, hc⟩ := chn_cons hG.2.1
    have hxc : xc = (z1, z2) :: r := hc
    subst hxc
    have hG1 := hG.1
    obtain ⟨pg, av, hpe, hpb, hpr⟩ := hG1
    simp only [Value.pointer.injEq] at hpe
    subst hpe
    have HI : Hid ((W.heap[n0]? = some (.cells #[.int .i64 x1, .int .i64 x2] 49 (0, 0)) ∧ W.heap[b1]? = some (.cells #[.bool false] 4 (0, 0))) ∧ Below n0 w W ∧ (∀ x ∈ pre, eqN (hd0 x.c) (x1, x2) = false) ∧ (pre ++ [(⟨some ⟨pg, 0, none⟩, (z1, z2) :: r⟩ : Pc)]).map Pc.c <+: allC m (leadsH m (x1, x2))) := ⟨⟨c1, c2⟩, hbw, hpre, hNx⟩
    have p0 : W.cell? ⟨pg, 0, none⟩ = some (.int .i64 z1) := by rw [cell_of_row W pg 0 _ 73 (0, 0) hpb]; rfl
    have p1 : W.cell? ⟨pg, 1, none⟩ = some (.int .i64 z2) := by rw [cell_of_row W pg 1 _ 73 (0, 0) hpb]; rfl
    have t0 : W.cell? ⟨n0, 0, none⟩ = some (.int .i64 x1) := by rw [cell_of_row W n0 0 _ 49 (0, 0) c1]; rfl
    have t1 : W.cell? ⟨n0, 1, none⟩ = some (.int .i64 x2) := by rw [cell_of_row W n0 1 _ 49 (0, 0) c1]; rfl
    have HS1 : W.drew.cell? ⟨pg, 0, none⟩ = some (.int .i64 z1) ∧ W.drew.cell? ⟨pg, 1, none⟩ = some (.int .i64 z2) ∧ W.drew.cell? ⟨n0, 0, none⟩ = some (.int .i64 x1) ∧ W.drew.cell? ⟨n0, 1, none⟩ = some (.int .i64 x2) := ⟨p0, p1, t0, t1⟩
    have hq := eql23b z1 z2 x1 x2
    have hWd : Below W.heap.size W W.drew := (Below.refl _ _).drew
    have HWd : Hid (Below W.heap.size W W.drew) := hWd
    have q1 : W.drew.cell? ⟨b1, 0, none⟩ = some (.bool false) := by rw [cell_of_row _ b1 0 _ 4 (0, 0) (heap_at _ c2 hWd)]; rfl
    have q2 : W.drew.frozen? ⟨b1, 0, none⟩ = false := frozen_of_row _ b1 0 _ 4 (heap_at _ c2 hWd)
    clear c1 c2 hbw hpre hG hNx hpb hpr hc p0 p1 t0 t1 hWd
    gi_wp2
    refine region_in (S := fun u => u.cell? ⟨pg, 0, none⟩ = some (.int .i64 z1) ∧ u.cell? ⟨pg, 1, none⟩ = some (.int .i64 z2) ∧ u.cell? ⟨n0, 0, none⟩ = some (.int .i64 x1) ∧ u.cell? ⟨n0, 1, none⟩ = some (.int .i64 x2)) (by kernel_rfl) (by kernel_rfl) HS1 (fun hHeld => ?_)
    (refine wpAnyH_take (i := 0) (v := ?_) (by simp only [List.getElem?_toArray, List.getElem?_cons_zero]; rfl) (by kernel_rfl) (by kernel_rfl) (by kernel_rfl) (fun _ _ _ h => h) (Or.inl ⟨by rfl, ?_⟩) (by assumption) ?_; rotate_left; (· (intro w hSw; (try dsimp only at hSw); go_simp <;> with_reducible rfl)); try simp only [Act.put, List.setIfInBounds_toArray, List.set_cons_zero, List.set_cons_succ])
    (refine wpAnyH_take (i := 1) (v := ?_) (by simp only [List.getElem?_toArray, List.getElem?_cons_zero, List.getElem?_cons_succ]; rfl) (by kernel_rfl) (by kernel_rfl) (by kernel_rfl) (fun _ _ _ h => h) (Or.inl ⟨by rfl, ?_⟩) (by assumption) ?_; rotate_left; (· (intro w hSw; (try dsimp only at hSw); go_simp <;> with_reducible rfl)); try simp only [Act.put, List.setIfInBounds_toArray, List.set_cons_zero, List.set_cons_succ])
    (refine wpAnyH_take (i := 2) (v := ?_) (by simp only [List.getElem?_toArray, List.getElem?_cons_zero, List.getElem?_cons_succ]; rfl) (by kernel_rfl) (by kernel_rfl) (by kernel_rfl) (fun _ _ _ h => h) (Or.inl ⟨by rfl, ?_⟩) (by assumption) ?_; rotate_left; (· (intro w hSw; (try dsimp only at hSw); go_simp <;> with_reducible rfl)); try simp only [Act.put, List.setIfInBounds_toArray, List.set_cons_zero, List.set_cons_succ])
    (refine wpAnyH_take (i := 3) (v := ?_) (by simp only [List.getElem?_toArray, List.getElem?_cons_zero, List.getElem?_cons_succ]; rfl) (by kernel_rfl) (by kernel_rfl) (by kernel_rfl) (fun _ _ _ h => h) (Or.inl ⟨by rfl, ?_⟩) (by assumption) ?_; rotate_left; (· (intro w hSw; (try dsimp only at hSw); go_simp <;> with_reducible rfl)); try simp only [Act.put, List.setIfInBounds_toArray, List.set_cons_zero, List.set_cons_succ])
    (refine wpAnyH_take (i := 4) (v := ?_) (by simp only [List.getElem?_toArray, List.getElem?_cons_zero, List.getElem?_cons_succ]; rfl) (by kernel_rfl) (by kernel_rfl) (by kernel_rfl) (fun _ _ _ h => h) (Or.inl ⟨by rfl, ?_⟩) (by assumption) ?_; rotate_left; (· (intro w hSw; (try dsimp only at hSw); go_simp <;> with_reducible rfl)); try simp only [Act.put, List.setIfInBounds_toArray, List.set_cons_zero, List.set_cons_succ])
    (refine wpAnyH_take (i := 5) (v := ?_) (by simp only [List.getElem?_toArray, List.getElem?_cons_zero, List.getElem?_cons_succ]; rfl) (by kernel_rfl) (by kernel_rfl) (by kernel_rfl) (fun _ _ _ h => h) (Or.inl ⟨by rfl, ?_⟩) (by assumption) ?_; rotate_left; (· (intro w hSw; (try dsimp only at hSw); go_simp <;> with_reducible rfl)); try simp only [Act.put, List.setIfInBounds_toArray, List.set_cons_zero, List.set_cons_succ])
    refine wpAnyH_done (by kernel_rfl) ?_ _
    simp only [OnlyN]
    cases he : (z1 == x1 && z2 == x2)
    · have HF : Hid (KeepsFrom W0.heap.size W W.drew ∧ KpR (fun _ => False) b2 W W.drew ∧ CyI n0 b1 w (x1, x2) (pre ++ [(⟨some ⟨pg, 0, none⟩, (z1, z2) :: r⟩ : Pc)]) W.drew) := by
        obtain ⟨⟨c1, c2⟩, hbw, hpre, _⟩ := HI.out
        refine ⟨⟨HWd.out.size, fun k o _ hk _ => heap_at _ hk HWd.out⟩, ⟨⟨rfl, rfl, rfl, Nat.le_refl _, fun _ _ => rfl⟩, fun k o hk _ => hk⟩, ⟨⟨c1, c2⟩, hbw.drew, fun x hx => ?_⟩⟩
        rcases List.mem_append.1 hx with hx | hx
        · exact hpre x hx
        · simp only [List.mem_singleton] at hx
          rw [hx]
          exact he
      clear HS1 hHeld hq q1 q2
      gi_wp2
      exact HF.out
    · have HCy : Hid (cycF m (x1, x2) = true) := by
        obtain ⟨_, _, hpre, hNx⟩ := HI.out
        show cycF m (x1, x2) = true
        unfold cycF
        rw [List.any_eq_true]
        exact ⟨(z1, z2) :: r, hNx.subset (by simp), he⟩
      clear HS1 hHeld hq
      gi_wp2
      have e2 := heap_at _ HI.out.1.2 HWd.out
      refine ⟨((KeepsOthers.mk HWd.out.size (fun j o hj _ => heap_at _ hj HWd.out)).trans (KeepsOthers.setCell _ _ _)).from _, rfl, HCy.out, (heap_setCell_same W.drew b1 0 _ 4 _ e2).trans rfl, ?_⟩
      exact (HI.out.2.1.drew).setCell (p := ⟨b1, 0, none⟩) (by have := HB1.out; show n0 ≤ b1; omega) _
  case done =>
    rintro D zs W hD hall ⟨⟨c1, c2⟩, hbw, hpre⟩ hK
    have HI : Hid (W.heap[b1]? = some (.cells #[.bool false] 4 (0, 0)) ∧ Below n0 w W ∧ W.heap[D]? = some (.deferred (some [])) ∧ W0.heap.size ≤ D ∧ cycF m (x1, x2) = false) := by
      refine ⟨c2, hbw, hK, hD, ?_⟩
      unfold cycF
      rw [← hall, List.any_eq_false]
      intro c hc
      obtain ⟨x, hx, rfl⟩ := List.mem_map.1 hc
      rw [hpre x hx]
      simp
    have k1 : W.cell? ⟨b1, 0, none⟩ = some (.bool false) := by rw [cell_of_row W b1 0 _ 4 (0, 0) c2]; rfl
    have k2 : W.frozen? ⟨b1, 0, none⟩ = false := frozen_of_row W b1 0 _ 4 c2
    clear c1 c2 hbw hpre hK hD hall
    gi_wp2
    have hD2 : D ≠ b1 := by
      have h1 := HI.out.2.2.2.1
      have h2 := HW0.out
      have h3 := HB1.out
      omega
    have g3 : (W.setCell ⟨b1, 0, none⟩ (.bool false)).heap[b1]? = some (.cells #[.bool false] 4 (0, 0)) := (heap_setCell_same W b1 0 _ 4 _ HI.out.1).trans rfl
    have hKf : (W.setCell ⟨b1, 0, none⟩ (.bool false)).heap[D]? = some (.deferred (some [])) := by
      rw [heap_setCell_other _ ⟨b1, 0, none⟩ D _ hD2]
      exact HI.out.2.2.1
    have hbf : Below n0 w (W.setCell ⟨b1, 0, none⟩ (.bool false)) := HI.out.2.1.setCell (p := ⟨b1, 0, none⟩) (by have := HB1.out; show n0 ≤ b1; omega) _
    have HPf : Hid (cycF m (x1, x2) = false) := HI.out.2.2.2.2
    clear k1 k2
    generalize (W.setCell ⟨b1, 0, none⟩ (.bool false)) = Wf at *
    have r3 : (Wf.putObj D (.deferred none)).cell? ⟨b1, 0, none⟩ = some (.bool false) := by
      rw [cell_of_row _ b1 0 _ 4 (0, 0) ((World.putObj_heap_other (Ne.symm hD2)).trans g3)]; rfl
    refine ⟨by simp, .inl ⟨_, _, rfl, run_takeDeferred hKf, ?_⟩⟩
    refine ⟨.bool false, by simp [results, Tryz.f23, go_sem, r3], by rw [HPf.out], ?_⟩
    rw [HN0.out]
    exact hbf.trans (itL_putObj (B := n0) _ (by have := HI.out.2.2.2.1; have := HW0.out; omega) hKf rfl).bel
  case stop =>
    rintro D c pre W hD _ ⟨rfl, h1, h3, h6⟩ hK
    have HH : Hid (cycF m (x1, x2) = true ∧ W.heap[b1]? = some (.cells #[.bool true] 4 (0, 0)) ∧ Below n0 w W ∧ W.heap[D]? = some (.deferred (some [])) ∧ W0.heap.size ≤ D) := ⟨h1, h3, h6, hK, hD⟩
    clear h1 h3 h6 hK hD
    gi_wp2
    obtain ⟨h1, h3, h6, hK, hD⟩ := HH.out
    have hD2 : D ≠ b1 := by
      have h2 := HW0.out
      have h3 := HB1.out
      omega
    have r3 : (W.putObj D (.deferred none)).cell? ⟨b1, 0, none⟩ = some (.bool true) := by
      rw [cell_of_row _ b1 0 _ 4 (0, 0) ((World.putObj_heap_other (Ne.symm hD2)).trans h3)]; rfl
    refine ⟨by simp, .inl ⟨_, _, rfl, run_takeDeferred hK, ?_⟩⟩
    refine ⟨.bool true, by simp [results, Tryz.f23, go_sem, r3], by rw [h1], ?_⟩
    rw [HN0.out]
    exact h6.trans (itL_putObj (B := n0) _ (by have := HW0.out; omega) hK rfl).bel
end Go.Proofs.YtojobiefambkoaaGreatDoor
