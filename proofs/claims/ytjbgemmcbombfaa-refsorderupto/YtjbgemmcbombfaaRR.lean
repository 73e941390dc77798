/- Sent and Got once more, of lists that may be empty; each call whatever its arguments. -/
import Derived.Test.YtjbgemmcbombfaaRO
namespace Go.Proofs.Ytjbgemmcbombfaa
open Go.RowKit
attribute [local go_sem ↓] Go.wp_at_zero Go.wp_at_succ
set_option maxRecDepth 100000 in
set_option maxHeartbeats 8000000 in
theorem r19b (B tb eb ib n : Nat) (own nodes : Int) (f g : Hk → Int) (to : Int) (a : Option Addr) (m c : Nat) (xs : List Nm) (w : World) (h : RtAt w B tb eb ib n own nodes f g) (hto : (isN nodes to && !decide (to = own)) = true) (hwt : wfI to) (hx : NmR w a m xs) (hoff : m = 0 ∨ ∀ k, blk a = some k → k ≠ eb ∧ k ≠ ib) (hall : allOwn own xs = true) (hn : n + m ≤ 1000000000) :
    Calls Try.prog 19 #[.pointer (some ⟨tb, 0, none⟩), .int .i64 to, .slice a m c] w fun e w' => e = .returned (.int .i64 0) ∧ RtIs w B tb eb ib (n + m) own nodes (sentF f to xs) g w' := by
  have H50 := r50 own nodes to w
  rw [hto] at H50
  obtain ⟨c0, c1, c2, c3⟩ := h.cells
  have HH : Hid (RtAt w B tb eb ib n own nodes f g ∧ NmR w a m xs ∧ (m = 0 ∨ ∀ k, blk a = some k → k ≠ eb ∧ k ≠ ib) ∧ wfI to ∧ allOwn own xs = true) := ⟨h, hx, hoff, hwt, hall⟩
  clear h hx hoff hwt hall
  go_enter Try.func19, Try.ntmps19
  go_wp2_with fail
  refine H50.mono ?_
  rintro e w1 ⟨rfl, hb⟩
  have HB : Hid (Below w.heap.size w w1) := hb
  clear hb H50 c0 c1 c2 c3
  obtain ⟨c0, c1, c2, c3⟩ := (HH.out.1.below HB.out).cells
  have H51 : Calls Try.prog 51 #[.agg #[.int .i64 own, .int .i64 nodes], .slice a m c] w1 fun e w' => e = .returned (.bool true) ∧ Hid (Below w.heap.size w w') := by
    refine (r51 own nodes a m c xs w1 (HH.out.2.1.below HB.out) (by omega)).mono ?_
    rintro e w' ⟨rfl, hb⟩
    rw [HH.out.2.2.2.2]
    exact ⟨rfl, HB.out.trans (hb.mono HB.out.size)⟩
  go_wp2_with fail
  refine H51.mono ?_
  rintro e w2 ⟨rfl, H2⟩
  clear H51 HB c0 c1 c2 c3
  have HI0 : Hid (RtIs w B tb eb ib (n + 0) own nodes (sentF f to (xs.take 0)) g w2) := RtIs.of HH.out.1 H2.out
  go_wp2_with fail
  go_loopw [30] (fun i wr => ∃ k : Nat, k ≤ m ∧ i = .int .i64 k ∧ Hid (RtIs w B tb eb ib (n + k) own nodes (sentF f to (xs.take k)) g wr)) (fun i _ => m - (intOf i).toNat)
  case atStart => exact ⟨0, Nat.zero_le _, rfl, HI0⟩
  case round =>
    clear HI0
    obtain ⟨k, hk, rfl, HK⟩ := hrel
    by_cases hlt : k < m
    · have hltI : (k : Int) < (m : Int) := by omega
      have hk0 : (0 : Int) ≤ (k : Int) := by omega
      have hkeep : ∀ j, blk a = some j → wr.heap[j]? = w.heap[j]? := fun j hj => by
        obtain ⟨h1, h2, h3, _⟩ := HH.out
        rcases h2.mem with e | ⟨b, o, e, hl, _⟩
        · omega
        · subst e; cases hj
          exact HK.out.2.block _ hl (h3.resolve_left (by omega) _ rfl).1 (h3.resolve_left (by omega) _ rfl).2
      obtain ⟨b, o, hxk, rfl, hb, p0, p1⟩ := (HH.out.2.1.keeps hkeep).at hlt
      have HT : Hid (xs.take (k + 1) = xs.take k ++ [xs[k]]) := (List.take_append_getElem hxk).symm
      have HW : Hid (wfN xs[k]) := HH.out.2.1.wf _ (List.getElem_mem hxk)
      generalize xs[k] = y at *
      obtain ⟨y1, y2⟩ := y
      simp only at p0 p1
      obtain ⟨W2, hW2⟩ : ∃ W2, wr.alloc (.cells #[.int .i64 0, .int .i64 0] 48) = W2 := ⟨_, rfl⟩
      obtain ⟨vb, hvb⟩ : ∃ vb, wr.heap.size = vb := ⟨_, rfl⟩
      have hc : W2.heap[vb]? = some (.cells #[.int .i64 0, .int .i64 0] 48 (0, 0)) := by rw [← hW2, ← hvb]; exact heap_alloc_new wr _
      obtain ⟨c0, c1⟩ := box2 hc
      have g0 := frozen_of_row W2 vb 0 _ 48 hc
      have g1 := frozen_of_row W2 vb 1 _ 48 hc
      obtain ⟨V, hV⟩ : ∃ V, (W2.setCell ⟨vb, 0, none⟩ (.int .i64 y1)).setCell ⟨vb, 1, none⟩ (.int .i64 y2) = V := ⟨_, rfl⟩
      have HVb : Hid (Below wr.heap.size wr V ∧ V.heap[vb]? = some (.cells #[.int .i64 y1, .int .i64 y2] 48 (0, 0))) := by
        have h1 : Below wr.heap.size wr W2 := by rw [← hW2]; exact (Below.refl _ _).alloc (Nat.le_refl _) _
        have h0 : wr.heap.size ≤ vb := by omega
        have e1 := heap_setCell_same W2 vb 0 _ 48 (.int .i64 y1) hc
        rw [← hV]
        exact ⟨(h1.setCell (p := ⟨vb, 0, none⟩) h0 _).setCell (p := ⟨vb, 1, none⟩) h0 _, heap_setCell_same _ vb 1 _ 48 (.int .i64 y2) e1⟩
      obtain ⟨q0, q1⟩ := box2 HVb.out.2
      obtain ⟨t0, t1, t2, t3⟩ := (HK.out.1.below HVb.out.1).cells
      have H52 : Calls Try.prog 52 #[.map (some eb), .agg #[.int .i64 y1, .int .i64 y2, .int .i64 to], .int .i64 1] V.drew fun e w' => e = .returned (.tuple #[]) ∧ Hid (RtIs w B tb eb ib (n + (k + 1)) own nodes (sentF f to (xs.take (k + 1))) g w') := by
        have hR := (HK.out.1.below HVb.out.1).below ((Below.refl _ V).drew)
        refine (r52 eb (n + k) _ ((y1, y2), to) 1 V.drew hR.ex ⟨HW.out, HH.out.2.2.2.1⟩ (by omega)).mono ?_
        rintro e w' ⟨rfl, ha⟩
        obtain ⟨r1, r2⟩ := rt_ex hR ha
        refine ⟨rfl, ?_, HK.out.2.trans ((RtTo.of (HVb.out.1.drew)).trans r2)⟩
        rw [HT.out]
        simp only [sentF, List.foldl_append, List.foldl_cons, List.foldl_nil]
        exact r1
      clear hkeep hc HVb
      go_wp2_with fail
      clear hW2 hvb c0 c1 g0 g1 hV
      go_region_with (go_at_call 52; refine H52.mono ?_; rintro e w5 ⟨rfl, H5⟩)
      all_goals (
        clear H52 q0 q1 t0 t1 t2 t3 p0 p1
        go_wp2_with fail
        go_roundw
        case rel => exact ⟨k + 1, by omega, by go_num, H5⟩
        case measure => simp [intOf]; omega)
    · go_wp2_with fail
      go_ret
      have hkm : k = m := by omega
      subst hkm
      have h1 := HK.out
      rw [List.take_of_length_le (by rw [HH.out.2.1.len]; omega)] at h1
      exact ⟨rfl, h1⟩
set_option maxRecDepth 100000 in
set_option maxHeartbeats 8000000 in
theorem r22b (B tb eb ib n : Nat) (own nodes : Int) (f g : Hk → Int) (a : Option Addr) (m c : Nat) (xs : List Nm) (w : World) (h : RtAt w B tb eb ib n own nodes f g) (hx : NmR w a m xs) (hoff : m = 0 ∨ ∀ k, blk a = some k → k ≠ eb ∧ k ≠ ib) (hall : ∀ x ∈ xs, isN nodes x.1 = true) (hn : n + m ≤ 1000000000) :
    Calls Try.prog 22 #[.pointer (some ⟨tb, 0, none⟩), .slice a m c] w fun e w' => e = .returned (.int .i64 0) ∧ RtIs w B tb eb ib (n + m) own nodes f (gotF g own xs) w' := by
  have HH : Hid (RtAt w B tb eb ib n own nodes f g ∧ NmR w a m xs ∧ (m = 0 ∨ ∀ k, blk a = some k → k ≠ eb ∧ k ≠ ib) ∧ ∀ x ∈ xs, isN nodes x.1 = true) := ⟨h, hx, hoff, hall⟩
  clear h hx hoff hall
  go_enter Try.func22, Try.ntmps22
  go_wp2_with fail
  go_loopw [13] (fun i wr => ∃ k : Nat, k ≤ m ∧ i = .int .i64 k ∧ Hid (Below w.heap.size w wr)) (fun i _ => m - (intOf i).toNat)
  case atStart => exact ⟨0, Nat.zero_le _, rfl, Below.refl _ _⟩
  case round =>
    obtain ⟨k, hk, rfl, HK⟩ := hrel
    by_cases hlt : k < m
    · have hltI : (k : Int) < (m : Int) := by omega
      have hk0 : (0 : Int) ≤ (k : Int) := by omega
      obtain ⟨b, o, hxk, rfl, hb, p0, p1⟩ := (HH.out.2.1.below HK.out).at hlt
      have hin : isN nodes xs[k].1 = true := HH.out.2.2.2 _ (List.getElem_mem hxk)
      generalize xs[k] = y at *
      obtain ⟨y1, y2⟩ := y
      simp only at p0 p1 hin
      obtain ⟨W2, hW2⟩ : ∃ W2, wr.alloc (.cells #[.int .i64 0, .int .i64 0] 48) = W2 := ⟨_, rfl⟩
      obtain ⟨vb, hvb⟩ : ∃ vb, wr.heap.size = vb := ⟨_, rfl⟩
      obtain ⟨⟨c0, c1, g0, g1⟩, hbV, hcV⟩ := stored (y1 := y1) (y2 := y2) hW2 hvb
      obtain ⟨V, hV⟩ : ∃ V, (W2.setCell ⟨vb, 0, none⟩ (.int .i64 y1)).setCell ⟨vb, 1, none⟩ (.int .i64 y2) = V := ⟨_, rfl⟩
      rw [hV] at hbV hcV
      obtain ⟨q0, q1⟩ := box2 hcV
      have HV : Hid (Below w.heap.size w V) := HK.out.trans (hbV.mono HK.out.size)
      obtain ⟨t0, t1, t2, t3⟩ := (HH.out.1.below HV.out).cells
      have H31 : Calls Try.prog 31 #[.agg #[.int .i64 own, .int .i64 nodes], .int .i64 y1] V.drew fun e w' => e = .returned (.bool true) ∧ Hid (Below w.heap.size w w') := by
        refine (r31 own nodes y1 V.drew).mono ?_
        rintro e w' ⟨rfl, hb2⟩
        rw [hin]
        have h3 := HV.out.drew
        exact ⟨rfl, h3.trans (hb2.mono h3.size)⟩
      clear hbV hcV hin
      go_wp2_with fail
      clear hW2 hvb c0 c1 g0 g1 hV
      go_region_with (go_at_call 31; refine H31.mono ?_; rintro e w5 ⟨rfl, H5⟩)
      all_goals (
        clear H31 q0 q1 t0 t1 t2 t3 p0 p1
        go_wp2_with fail
        go_roundw
        case rel => exact ⟨k + 1, by omega, by go_num, H5⟩
        case measure => simp [intOf]; omega)
    · have HI0 : Hid (RtIs w B tb eb ib (n + 0) own nodes f (gotF g own (xs.take 0)) wr) := RtIs.of HH.out.1 HK.out
      go_wp2_with fail
      go_loopw [28] (fun i wr => ∃ k : Nat, k ≤ m ∧ i = .int .i64 k ∧ Hid (RtIs w B tb eb ib (n + k) own nodes f (gotF g own (xs.take k)) wr)) (fun i _ => m - (intOf i).toNat)
      case atStart => exact ⟨0, Nat.zero_le _, rfl, HI0⟩
      case round =>
        clear HI0 HK
        obtain ⟨j, hj, rfl, HJ⟩ := hrel
        by_cases hjl : j < m
        · have hjI : (j : Int) < (m : Int) := by omega
          have hj0 : (0 : Int) ≤ (j : Int) := by omega
          have hkeep : ∀ i, blk a = some i → wr.heap[i]? = w.heap[i]? := fun i hi => by
            obtain ⟨_, h2, h3, _⟩ := HH.out
            rcases h2.mem with e | ⟨b, o, e, hl, _⟩
            · omega
            · subst e; cases hi
              exact HJ.out.2.block _ hl (h3.resolve_left (by omega) _ rfl).1 (h3.resolve_left (by omega) _ rfl).2
          obtain ⟨b, o, hxj, rfl, hb, p0, p1⟩ := (HH.out.2.1.keeps hkeep).at hjl
          have HT : Hid (gotF g own (xs.take (j + 1)) = if xs[j].1 = own then gotF g own (xs.take j) else addF (gotF g own (xs.take j)) (xs[j], xs[j].1) 1) := by
            show gotF g own (xs.take (j + 1)) = _
            rw [← gotF_snoc, List.take_append_getElem]
          have HW : Hid (wfN xs[j]) := HH.out.2.1.wf _ (List.getElem_mem hxj)
          generalize xs[j] = y at *
          obtain ⟨y1, y2⟩ := y
          simp only at p0 p1 HT
          obtain ⟨W2, hW2⟩ : ∃ W2, wr.alloc (.cells #[.int .i64 0, .int .i64 0] 48) = W2 := ⟨_, rfl⟩
          obtain ⟨vb, hvb⟩ : ∃ vb, wr.heap.size = vb := ⟨_, rfl⟩
          obtain ⟨⟨c0, c1, g0, g1⟩, hbV, hcV⟩ := stored (y1 := y1) (y2 := y2) hW2 hvb
          obtain ⟨V, hV⟩ : ∃ V, (W2.setCell ⟨vb, 0, none⟩ (.int .i64 y1)).setCell ⟨vb, 1, none⟩ (.int .i64 y2) = V := ⟨_, rfl⟩
          rw [hV] at hbV hcV
          obtain ⟨q0, q1⟩ := box2 hcV
          have HV : Hid (RtIs w B tb eb ib (n + j) own nodes f (gotF g own (xs.take j)) V ∧ V.heap[vb]? = some (.cells #[.int .i64 y1, .int .i64 y2] 48 (0, 0))) := ⟨HJ.out.trans (RtIs.of HJ.out.1 hbV), hcV⟩
          obtain ⟨t0, t1, t2, t3⟩ := HV.out.1.1.cells
          have hk : ∀ (ob : Obj) (q : Addr), q.block < V.heap.size → (V.alloc ob).cell? q = V.cell? q := fun ob q hq => ((Below.refl V.heap.size V).alloc (Nat.le_refl _) ob).cell hq
          have hl1 : tb < V.heap.size := HV.out.1.1.lt
          have hl2 : vb < V.heap.size := (Array.getElem?_eq_some_iff.1 hcV).1
          have a0 := fun ob => (hk ob ⟨tb, 0, none⟩ hl1).trans t0
          have a1 := fun ob => (hk ob ⟨tb, 1, none⟩ hl1).trans t1
          have d0 := fun ob => (hk ob ⟨vb, 0, none⟩ hl2).trans q0
          have d1 := fun ob => (hk ob ⟨vb, 1, none⟩ hl2).trans q1
          have H51 : Calls Try.prog 51 #[.agg #[.int .i64 own, .int .i64 nodes], .slice (some ⟨V.heap.size, 0, none⟩) 1 1] (V.alloc (.cells #[.int .i64 y1, .int .i64 y2] 48)).drew fun e w' => e = .returned (.bool (decide (y1 = own))) ∧ Hid (RtIs w B tb eb ib (n + j) own nodes f (gotF g own (xs.take j)) w' ∧ w'.heap[vb]? = some (.cells #[.int .i64 y1, .int .i64 y2] 48 (0, 0))) := by
            have hb : Below V.heap.size V (V.alloc (.cells #[.int .i64 y1, .int .i64 y2] 48)).drew := ((Below.refl _ _).alloc (Nat.le_refl _) _).drew
            refine (r51 own nodes _ 1 1 [(y1, y2)] _ ((nm_one V (y1, y2) HW.out).below ((Below.refl _ _).drew)) (by omega)).mono ?_
            rintro e w' ⟨rfl, hb2⟩
            have hb3 := hb.trans (hb2.mono hb.size)
            have e1 : allOwn own [(y1, y2)] = decide (y1 = own) := by
              by_cases h : y1 = own <;> simp [allOwn, h]
            rw [e1]
            exact ⟨rfl, HV.out.1.trans (RtIs.of HV.out.1.1 hb3), (hb3.block vb hl2).trans hcV⟩
          clear hkeep hbV hcV hk hl1 hl2
          by_cases hy : y1 = own
          · have hd : decide (y1 = own) = true := by simp [hy]
            rw [hd] at H51
            rw [if_pos hy] at HT
            subst hy
            clear hd
            go_wp2_with fail
            clear hW2 hvb c0 c1 g0 g1 hV
            go_region_with (go_at_call 51; refine H51.mono ?_; rintro e w5 ⟨rfl, H5⟩)
            all_goals (
              clear H51 q0 q1 t0 t1 t2 t3 p0 p1 a0 a1 d0 d1
              go_wp2_with fail
              go_roundw
              case rel => exact ⟨j + 1, by omega, by go_num, by
                rw [HT.out]
                exact ⟨H5.out.1.1.le (by omega), H5.out.1.2⟩⟩
              case measure => simp [intOf]; omega)
          · have hd : decide (y1 = own) = false := by simp [hy]
            rw [hd] at H51
            rw [if_neg hy] at HT
            clear hd hy
            go_wp2_with fail
            clear hW2 hvb c0 c1 g0 g1 hV
            go_region_with (go_at_call 51; refine H51.mono ?_; rintro e w5 ⟨rfl, H5⟩)
            all_goals (
              clear H51 q0 q1 t0 t1 t2 t3 p0 p1 a0 a1 d0 d1
              obtain ⟨q0, q1⟩ := box2 H5.out.2
              obtain ⟨t0, t1, t2, t3⟩ := H5.out.1.1.cells
              have H53 : Calls Try.prog 53 #[.agg #[.int .i64 y1, .int .i64 y2]] w5.drew fun e w' => e = .returned (.agg #[.int .i64 y1, .int .i64 y2, .int .i64 y1]) ∧ w'.cell? ⟨tb, 3, none⟩ = some (.map (some ib)) ∧ Hid (RtIs w B tb eb ib (n + j) own nodes f (gotF g own (xs.take j)) w') := by
                refine (r53 y1 y2 w5.drew).mono ?_
                rintro e w' ⟨rfl, hb2⟩
                have hb3 : Below w5.heap.size w5 w' := ((Below.refl _ w5).drew).trans hb2
                have hI := H5.out.1.trans (RtIs.of H5.out.1.1 hb3)
                exact ⟨rfl, hI.1.cells.2.2.2, hI⟩
              have H52 : Hid (∀ w', Hid (RtIs w B tb eb ib (n + j) own nodes f (gotF g own (xs.take j)) w') → Calls Try.prog 52 #[.map (some ib), .agg #[.int .i64 y1, .int .i64 y2, .int .i64 y1], .int .i64 1] w' fun e w'' => e = .returned (.tuple #[]) ∧ Hid (RtIs w B tb eb ib (n + (j + 1)) own nodes f (gotF g own (xs.take (j + 1))) w'')) := fun w' hw => by
                refine (r52 ib (n + j) _ ((y1, y2), y1) 1 w' hw.out.1.im ⟨HW.out, HW.out.1⟩ (by omega)).mono ?_
                rintro e w'' ⟨rfl, ha⟩
                obtain ⟨r1, r2⟩ := rt_im hw.out.1 ha
                rw [HT.out]
                exact ⟨rfl, r1, hw.out.2.trans r2⟩
              go_wp2_with fail
              go_region_with (first
                | (go_at_call 53; refine H53.mono ?_; rintro e w6 ⟨rfl, d3, H6⟩)
                | (go_at_call 52; refine (H52.out _ H6).mono ?_; rintro e w7 ⟨rfl, H7⟩))
              all_goals (
                clear H53 H52 q0 q1 t0 t1 t2 t3 d3
                go_wp2_with fail
                go_roundw
                case rel => exact ⟨j + 1, by omega, by go_num, H7⟩
                case measure => simp [intOf]; omega))
        · go_wp2_with fail
          go_ret
          have hkm : j = m := by omega
          subst hkm
          have h1 := HJ.out
          rw [List.take_of_length_le (by rw [HH.out.2.1.len]; omega)] at h1
          exact ⟨rfl, h1⟩
/-- An answer that is nobody's business, and the table behind it. -/
def AnyE (e : Ending) (w : World) (B tb eb ib n : Nat) (own nodes : Int) (f g : Hk → Int) (w' : World) : Prop := (∃ c, e = .returned (.int .i64 c)) ∧ RtIs w B tb eb ib n own nodes f g w'
theorem any_of {e : Ending} {w w' : World} {B tb eb ib n n' : Nat} {own nodes : Int} {f g : Hk → Int} (h : RtAt w B tb eb ib n own nodes f g) (hn : n ≤ n') (hE : NoE e w w') : AnyE e w B tb eb ib n' own nodes f g w' := ⟨hE.1, (RtIs.of h hE.2).1.le hn, RtTo.of hE.2⟩
theorem any_is {e : Ending} {w w' : World} {B tb eb ib n : Nat} {own nodes : Int} {f g : Hk → Int} {c : Int} (h : e = .returned (.int .i64 c) ∧ RtIs w B tb eb ib n own nodes f g w') : AnyE e w B tb eb ib n own nodes f g w' := ⟨⟨c, h.1⟩, h.2⟩
def othB (own nodes to : Int) : Bool := isN nodes to && !decide (to = own)
def sentG (own nodes : Int) (f : Hk → Int) (to : Int) (xs : List Nm) : Hk → Int := if (othB own nodes to && allOwn own xs) = true then sentF f to xs else f
def addG (own nodes : Int) (f : Hk → Int) (to : Int) (x : Nm) : Hk → Int := if (othB own nodes to && decide (x.1 = own)) = true then addF f (x, to) 1 else f
def relG (own nodes : Int) (f : Hk → Int) (to ti : Int) (x : Nm) : Hk → Int := if ((othB own nodes to && decide (x.1 = own)) && (decide (1 ≤ ti) && decide (ti ≤ 2147483647))) = true then addF f (x, to) (-ti) else f
def gotG (own nodes : Int) (g : Hk → Int) (xs : List Nm) : Hk → Int := if (xs.all fun x => isN nodes x.1) = true then gotF g own xs else g
theorem r19a (B tb eb ib n : Nat) (own nodes : Int) (f g : Hk → Int) (to : Int) (a : Option Addr) (m c : Nat) (xs : List Nm) (w : World) (h : RtAt w B tb eb ib n own nodes f g) (hwt : wfI to) (hx : NmR w a m xs) (hoff : m = 0 ∨ ∀ k, blk a = some k → k ≠ eb ∧ k ≠ ib) (hn : n + m ≤ 1000000000) :
    Calls Try.prog 19 #[.pointer (some ⟨tb, 0, none⟩), .int .i64 to, .slice a m c] w fun e w' => AnyE e w B tb eb ib (n + m) own nodes (sentG own nodes f to xs) g w' := by
  unfold sentG othB
  cases hto : (isN nodes to && !decide (to = own)) with
  | false =>
    rw [Bool.false_and, if_neg (by simp)]
    exact (r19_range B tb eb ib n own nodes f g to _ w h hto).mono fun e w' h1 => any_of h (by omega) ⟨⟨_, h1.1⟩, h1.2⟩
  | true =>
    cases hall : allOwn own xs with
    | false =>
      rw [Bool.and_false, if_neg (by simp)]
      exact (r19_none B tb eb ib n own nodes f g to a m c xs w h hto hwt hx hall hn).mono fun e w' h1 => any_of h (by omega) h1
    | true =>
      rw [Bool.and_true, if_pos rfl]
      exact (r19b B tb eb ib n own nodes f g to a m c xs w h hto hwt hx hoff hall hn).mono fun e w' h1 => any_is h1
theorem r30a (B tb eb ib n : Nat) (own nodes : Int) (f g : Hk → Int) (x : Nm) (to : Int) (w : World) (h : RtAt w B tb eb ib n own nodes f g) (hx : wfN x) (hwt : wfI to) (hn : n + 1 ≤ 1000000000) :
    Calls Try.prog 30 #[.pointer (some ⟨tb, 0, none⟩), .agg #[.int .i64 x.1, .int .i64 x.2], .int .i64 to] w fun e w' => AnyE e w B tb eb ib (n + 1) own nodes (addG own nodes f to x) g w' := by
  unfold addG othB
  cases hto : isN nodes to with
  | false =>
    rw [Bool.false_and, Bool.false_and, if_neg (by simp)]
    exact (r30_range B tb eb ib n own nodes f g x to w h hx hto hwt).mono fun e w' h1 => any_of h (by omega) h1
  | true =>
    by_cases hxo : x.1 = own
    · by_cases hne : to = own
      · rw [if_neg (by simp [hne])]
        exact (r30_own B tb eb ib n own nodes f g x to w h hx hxo hto hne hwt).mono fun e w' h1 => any_of h (by omega) h1
      · rw [if_pos (by simp [hne, hxo])]
        exact (r30 B tb eb ib n own nodes f g x to w h hx hxo hto hne hwt (by omega)).mono fun e w' h1 => any_is h1
    · rw [if_neg (by simp [hxo])]
      exact (r30_none B tb eb ib n own nodes f g x to w h hx hxo hto hwt).mono fun e w' h1 => any_of h (by omega) h1
theorem r21a (B tb eb ib n : Nat) (own nodes : Int) (f g : Hk → Int) (x : Nm) (to ti : Int) (w : World) (h : RtAt w B tb eb ib n own nodes f g) (hx : wfN x) (hwt : wfI to) (hn : n + 1 ≤ 1000000000) :
    Calls Try.prog 21 #[.pointer (some ⟨tb, 0, none⟩), .agg #[.int .i64 x.1, .int .i64 x.2], .int .i64 to, .int .i64 ti] w fun e w' => AnyE e w B tb eb ib (n + 1) own nodes (relG own nodes f to ti x) g w' := by
  unfold relG othB
  cases hto : (isN nodes to && !decide (to = own)) with
  | false =>
    rw [Bool.false_and, Bool.false_and, if_neg (by simp)]
    exact (r21_range B tb eb ib n own nodes f g x to ti w h hx hto hwt).mono fun e w' h1 => any_of h (by omega) h1
  | true =>
    by_cases h1 : ti < 1
    · rw [if_neg (by simp; omega)]
      exact (r21_low B tb eb ib n own nodes f g x to ti w h hx hto hwt h1).mono fun e w' h1 => any_of h (by omega) h1
    · by_cases h2 : 2147483647 < ti
      · rw [if_neg (by simp; omega)]
        exact (r21_high B tb eb ib n own nodes f g x to ti w h hx hto hwt h2).mono fun e w' h1 => any_of h (by omega) h1
      · by_cases hxo : x.1 = own
        · rw [if_pos (by simp [hxo]; omega)]
          exact (r21 B tb eb ib n own nodes f g x to ti w h hx hxo hto hwt (by omega) (by omega) (by omega)).mono fun e w' h1 => any_is h1
        · rw [if_neg (by simp [hxo])]
          exact (r21_none B tb eb ib n own nodes f g x to ti w h hx hxo hto hwt (by omega) (by omega)).mono fun e w' h1 => any_of h (by omega) h1
theorem r22a (B tb eb ib n : Nat) (own nodes : Int) (f g : Hk → Int) (a : Option Addr) (m c : Nat) (xs : List Nm) (w : World) (h : RtAt w B tb eb ib n own nodes f g) (hx : NmR w a m xs) (hoff : m = 0 ∨ ∀ k, blk a = some k → k ≠ eb ∧ k ≠ ib) (hn : n + m ≤ 1000000000) :
    Calls Try.prog 22 #[.pointer (some ⟨tb, 0, none⟩), .slice a m c] w fun e w' => AnyE e w B tb eb ib (n + m) own nodes f (gotG own nodes g xs) w' := by
  unfold gotG
  by_cases hall : ∀ x ∈ xs, isN nodes x.1 = true
  · rw [if_pos (by simpa using hall)]
    exact (r22b B tb eb ib n own nodes f g a m c xs w h hx hoff hall hn).mono fun e w' h1 => any_is h1
  · rw [if_neg (by simpa using hall)]
    exact (r22_none B tb eb ib n own nodes f g a m c xs w h hx hall hn).mono fun e w' h1 => any_of h (by omega) h1
end Go.Proofs.Ytjbgemmcbombfaa
