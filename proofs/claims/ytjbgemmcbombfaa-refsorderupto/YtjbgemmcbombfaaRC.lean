/- Contracts of Sent, Added, Released, Exported. -/
import Derived.Test.YtjbgemmcbombfaaRB
namespace Go.Proofs.Ytjbgemmcbombfaa
open Go.RowKit
attribute [local go_sem ↓] Go.wp_at_zero Go.wp_at_succ
theorem mp_more {w : World} {b n : Nat} {f : Hk → Option Value} (h : MpAt hkK w b n f) : MpAt hkK w b (n + 1) f := by
  obtain ⟨D, ⟨es, ck, h2, h3, h4, h5⟩, h6⟩ := h
  exact ⟨D, ⟨es, ck, h2, h3, by omega, h5⟩, h6⟩
theorem rt_ex {w w' : World} {B tb eb ib n : Nat} {own nodes : Int} {f g : Hk → Int} {k : Hk} {t : Int} (h : RtAt w B tb eb ib n own nodes f g) (ha : AddTo w eb n f k t w') : RtAt w' B tb eb ib (n + 1) own nodes (addF f k t) g ∧ RtTo w w' eb ib := by
  obtain ⟨q1, q2, q3, q4, q5, q6⟩ := ha
  exact ⟨⟨(q6 tb h.lt (h.ex.ne_cells h.blk)).trans h.blk, q1, mp_more (h.im.keeps (q6 ib h.im.lt (Ne.symm h.ne))), h.ne, h.hb⟩, q2, q3, q4, q5, fun j hj h1 _ => q6 j hj h1⟩
theorem rt_im {w w' : World} {B tb eb ib n : Nat} {own nodes : Int} {f g : Hk → Int} {k : Hk} {t : Int} (h : RtAt w B tb eb ib n own nodes f g) (ha : AddTo w ib n g k t w') : RtAt w' B tb eb ib (n + 1) own nodes f (addF g k t) ∧ RtTo w w' eb ib := by
  obtain ⟨q1, q2, q3, q4, q5, q6⟩ := ha
  exact ⟨⟨(q6 tb h.lt (h.im.ne_cells h.blk)).trans h.blk, mp_more (h.ex.keeps (q6 eb h.ex.lt h.ne)), q1, h.ne, h.hb⟩, q2, q3, q4, q5, fun j hj _ h2 => q6 j hj h2⟩
/-- Behind a call on a table. -/
def RtIs (w : World) (B tb eb ib n : Nat) (own nodes : Int) (f g : Hk → Int) (w' : World) : Prop := RtAt w' B tb eb ib n own nodes f g ∧ RtTo w w' eb ib
theorem RtIs.of {w w' : World} {B tb eb ib n : Nat} {own nodes : Int} {f g : Hk → Int} (h : RtAt w B tb eb ib n own nodes f g) (hb : Below w.heap.size w w') : RtIs w B tb eb ib n own nodes f g w' := ⟨h.below hb, RtTo.of hb⟩
theorem RtIs.trans {w w1 w2 : World} {B tb eb ib n n' : Nat} {own nodes : Int} {f g f' g' : Hk → Int} (h : RtIs w B tb eb ib n own nodes f g w1) (k : RtIs w1 B tb eb ib n' own nodes f' g' w2) : RtIs w B tb eb ib n' own nodes f' g' w2 := ⟨k.1, h.2.trans k.2⟩
def sentF (f : Hk → Int) (to : Int) (xs : List Nm) : Hk → Int := xs.foldl (fun f x => addF f (x, to) 1) f
set_option maxRecDepth 100000 in
set_option maxHeartbeats 2000000 in
theorem r19_range (B tb eb ib n : Nat) (own nodes : Int) (f g : Hk → Int) (to : Int) (v : Value) (w : World) (h : RtAt w B tb eb ib n own nodes f g) (hto : (isN nodes to && !decide (to = own)) = false) :
    Calls Try.prog 19 #[.pointer (some ⟨tb, 0, none⟩), .int .i64 to, v] w fun e w' => e = .returned (.int .i64 2) ∧ Below w.heap.size w w' := by
  have H50 := r50 own nodes to w
  rw [hto] at H50
  obtain ⟨c0, c1, c2, c3⟩ := h.cells
  clear h
  go_enter Try.func19, Try.ntmps19
  go_wp2_with fail
  refine H50.mono ?_
  rintro e w1 ⟨rfl, hb⟩
  have HB : Hid (Below w.heap.size w w1) := hb
  clear hb H50
  go_wp2_with fail
  go_ret
  exact ⟨rfl, HB.out⟩
set_option maxRecDepth 100000 in
set_option maxHeartbeats 4000000 in
theorem r19 (B tb eb ib n : Nat) (own nodes : Int) (f g : Hk → Int) (to : Int) (a : Option Addr) (m c : Nat) (xs : List Nm) (w : World) (h : RtAt w B tb eb ib n own nodes f g) (hto : (isN nodes to && !decide (to = own)) = true) (hwt : wfI to) (hx : NmR w a m xs) (hoff : ∀ k, blk a = some k → k ≠ eb ∧ k ≠ ib) (hall : allOwn own xs = true) (hn : n + m ≤ 1000000000) :
    Calls Try.prog 19 #[.pointer (some ⟨tb, 0, none⟩), .int .i64 to, .slice a m c] w fun e w' => e = .returned (.int .i64 0) ∧ RtIs w B tb eb ib (n + m) own nodes (sentF f to xs) g w' := by
  have H50 := r50 own nodes to w
  rw [hto] at H50
  obtain ⟨c0, c1, c2, c3⟩ := h.cells
  have HH : Hid (RtAt w B tb eb ib n own nodes f g ∧ NmR w a m xs ∧ (∀ k, blk a = some k → k ≠ eb ∧ k ≠ ib) ∧ wfI to ∧ allOwn own xs = true) := ⟨h, hx, hoff, hwt, hall⟩
  clear h hx hoff hwt hall
  go_enter Try.func19, Try.ntmps19
  go_wp2_with fail
  refine H50.mono ?_
  rintro e w1 ⟨rfl, hb⟩
  have HB : Hid (Below w.heap.size w w1) := hb
  clear hb H50 c0 c1 c2 c3
  obtain ⟨c0, c1, c2, c3⟩ := (HH.out.1.below HB.out).cells
  have H51 : Calls Try.prog 51 #[.agg #[.int .i64 own, .int .i64 nodes], .slice a m c] w1 fun e w' => e = .returned (.bool true) ∧ Hid (Below w.heap.size w w') := by
    refine (r51 own nodes a m c xs w1 (HH.out.2.1.below HB.out) (by omega)).mono ?_
    rintro e w' ⟨rfl, hb⟩
    rw [HH.out.2.2.2.2]
    exact ⟨rfl, HB.out.trans (hb.mono HB.out.size)⟩
  go_wp2_with fail
  refine H51.mono ?_
  rintro e w2 ⟨rfl, H2⟩
  clear H51 HB c0 c1 c2 c3
  have HI0 : Hid (RtIs w B tb eb ib (n + 0) own nodes (sentF f to (xs.take 0)) g w2) := RtIs.of HH.out.1 H2.out
  go_wp2_with fail
  go_loopw [30] (fun i wr => ∃ k : Nat, k ≤ m ∧ i = .int .i64 k ∧ Hid (RtIs w B tb eb ib (n + k) own nodes (sentF f to (xs.take k)) g wr)) (fun i _ => m - (intOf i).toNat)
  case atStart => exact ⟨0, Nat.zero_le _, rfl, HI0⟩
  case round =>
    clear HI0
    obtain ⟨k, hk, rfl, HK⟩ := hrel
    by_cases hlt : k < m
    · have hltI : (k : Int) < (m : Int) := by omega
      have hk0 : (0 : Int) ≤ (k : Int) := by omega
      have hkeep : ∀ j, blk a = some j → wr.heap[j]? = w.heap[j]? := fun j hj => by
        obtain ⟨h1, h2, h3, _⟩ := HH.out
        rcases h2.mem with e | ⟨b, o, e, hl, _⟩
        · omega
        · subst e; cases hj
          exact HK.out.2.block _ hl (h3 _ rfl).1 (h3 _ rfl).2
      obtain ⟨b, o, hxk, rfl, hb, p0, p1⟩ := (HH.out.2.1.keeps hkeep).at hlt
      have HT : Hid (xs.take (k + 1) = xs.take k ++ [xs[k]]) := (List.take_append_getElem hxk).symm
      have HW : Hid (wfN xs[k]) := HH.out.2.1.wf _ (List.getElem_mem hxk)
      generalize xs[k] = y at *
      obtain ⟨y1, y2⟩ := y
      simp only at p0 p1
      obtain ⟨W2, hW2⟩ : ∃ W2, wr.alloc (.cells #[.int .i64 0, .int .i64 0] 48) = W2 := ⟨_, rfl⟩
      obtain ⟨vb, hvb⟩ : ∃ vb, wr.heap.size = vb := ⟨_, rfl⟩
      have hc : W2.heap[vb]? = some (.cells #[.int .i64 0, .int .i64 0] 48 (0, 0)) := by rw [← hW2, ← hvb]; exact heap_alloc_new wr _
      obtain ⟨c0, c1⟩ := box2 hc
      have g0 := frozen_of_row W2 vb 0 _ 48 hc
      have g1 := frozen_of_row W2 vb 1 _ 48 hc
      obtain ⟨V, hV⟩ : ∃ V, (W2.setCell ⟨vb, 0, none⟩ (.int .i64 y1)).setCell ⟨vb, 1, none⟩ (.int .i64 y2) = V := ⟨_, rfl⟩
      have HVb : Hid (Below wr.heap.size wr V ∧ V.heap[vb]? = some (.cells #[.int .i64 y1, .int .i64 y2] 48 (0, 0))) := by
        have h1 : Below wr.heap.size wr W2 := by rw [← hW2]; exact (Below.refl _ _).alloc (Nat.le_refl _) _
        have h0 : wr.heap.size ≤ vb := by omega
        have e1 := heap_setCell_same W2 vb 0 _ 48 (.int .i64 y1) hc
        rw [← hV]
        exact ⟨(h1.setCell (p := ⟨vb, 0, none⟩) h0 _).setCell (p := ⟨vb, 1, none⟩) h0 _, heap_setCell_same _ vb 1 _ 48 (.int .i64 y2) e1⟩
      obtain ⟨q0, q1⟩ := box2 HVb.out.2
      obtain ⟨t0, t1, t2, t3⟩ := (HK.out.1.below HVb.out.1).cells
      have H52 : Calls Try.prog 52 #[.map (some eb), .agg #[.int .i64 y1, .int .i64 y2, .int .i64 to], .int .i64 1] V.drew fun e w' => e = .returned (.tuple #[]) ∧ Hid (RtIs w B tb eb ib (n + (k + 1)) own nodes (sentF f to (xs.take (k + 1))) g w') := by
        have hR := (HK.out.1.below HVb.out.1).below ((Below.refl _ V).drew)
        refine (r52 eb (n + k) _ ((y1, y2), to) 1 V.drew hR.ex ⟨HW.out, HH.out.2.2.2.1⟩ (by omega)).mono ?_
        rintro e w' ⟨rfl, ha⟩
        obtain ⟨r1, r2⟩ := rt_ex hR ha
        refine ⟨rfl, ?_, HK.out.2.trans ((RtTo.of (HVb.out.1.drew)).trans r2)⟩
        rw [HT.out]
        simp only [sentF, List.foldl_append, List.foldl_cons, List.foldl_nil]
        exact r1
      clear hkeep hc HVb
      go_wp2_with fail
      clear hW2 hvb c0 c1 g0 g1 hV
      go_region_with (go_at_call 52; refine H52.mono ?_; rintro e w5 ⟨rfl, H5⟩)
      all_goals (
        clear H52 q0 q1 t0 t1 t2 t3 p0 p1
        go_wp2_with fail
        go_roundw
        case rel => exact ⟨k + 1, by omega, by go_num, H5⟩
        case measure => simp [intOf]; omega)
    · go_wp2_with fail
      go_ret
      have hkm : k = m := by omega
      subst hkm
      have h1 := HK.out
      rw [List.take_of_length_le (by rw [HH.out.2.1.len]; omega)] at h1
      exact ⟨rfl, h1⟩
end Go.Proofs.Ytjbgemmcbombfaa
