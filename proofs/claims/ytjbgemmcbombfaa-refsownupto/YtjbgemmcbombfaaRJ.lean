/- Contract of Got. -/
import Derived.Test.YtjbgemmcbombfaaRI
namespace Go.Proofs.Ytjbgemmcbombfaa
open Go.RowKit
attribute [local go_sem ↓] Go.wp_at_zero Go.wp_at_succ
/-- What has come is held. -/
def gotF (g : Hk → Int) (own : Int) (xs : List Nm) : Hk → Int := xs.foldl (fun g x => if x.1 = own then g else addF g (x, x.1) 1) g
theorem gotF_snoc (g : Hk → Int) (own : Int) (xs : List Nm) (x : Nm) : gotF g own (xs ++ [x]) = if x.1 = own then gotF g own xs else addF (gotF g own xs) (x, x.1) 1 := by
  simp [gotF, List.foldl_append]
theorem mp_le {w : World} {b n n' : Nat} {f : Hk → Option Value} (h : MpAt hkK w b n f) (hn : n ≤ n') : MpAt hkK w b n' f := by
  obtain ⟨D, ⟨es, ck, h2, h3, h4, h5⟩, h6⟩ := h
  exact ⟨D, ⟨es, ck, h2, h3, by omega, h5⟩, h6⟩
theorem RtAt.le {w : World} {B tb eb ib n n' : Nat} {own nodes : Int} {f g : Hk → Int} (h : RtAt w B tb eb ib n own nodes f g) (hn : n ≤ n') : RtAt w B tb eb ib n' own nodes f g := ⟨h.blk, mp_le h.ex hn, mp_le h.im hn, h.ne, h.hb⟩
/-- A name that a round has stored. -/
theorem stored {wr W2 : World} {vb : Nat} {y1 y2 : Int} (hW2 : wr.alloc (.cells #[.int .i64 0, .int .i64 0] 48) = W2) (hvb : wr.heap.size = vb) :
    (W2.cell? ⟨vb, 0, none⟩ = some (.int .i64 0) ∧ W2.cell? ⟨vb, 1, none⟩ = some (.int .i64 0) ∧ W2.frozen? ⟨vb, 0, none⟩ = false ∧ W2.frozen? ⟨vb, 1, none⟩ = false) ∧ Below wr.heap.size wr ((W2.setCell ⟨vb, 0, none⟩ (.int .i64 y1)).setCell ⟨vb, 1, none⟩ (.int .i64 y2)) ∧ ((W2.setCell ⟨vb, 0, none⟩ (.int .i64 y1)).setCell ⟨vb, 1, none⟩ (.int .i64 y2)).heap[vb]? = some (.cells #[.int .i64 y1, .int .i64 y2] 48 (0, 0)) := by
  have hc : W2.heap[vb]? = some (.cells #[.int .i64 0, .int .i64 0] 48 (0, 0)) := by rw [← hW2, ← hvb]; exact heap_alloc_new wr _
  obtain ⟨c0, c1⟩ := box2 hc
  have h1 : Below wr.heap.size wr W2 := by rw [← hW2]; exact (Below.refl _ _).alloc (Nat.le_refl _) _
  have h0 : wr.heap.size ≤ vb := by omega
  have e1 := heap_setCell_same W2 vb 0 _ 48 (.int .i64 y1) hc
  exact ⟨⟨c0, c1, frozen_of_row W2 vb 0 _ 48 hc, frozen_of_row W2 vb 1 _ 48 hc⟩, (h1.setCell (p := ⟨vb, 0, none⟩) h0 _).setCell (p := ⟨vb, 1, none⟩) h0 _, heap_setCell_same _ vb 1 _ 48 (.int .i64 y2) e1⟩
set_option maxRecDepth 100000 in
set_option maxHeartbeats 8000000 in
theorem r22 (B tb eb ib n : Nat) (own nodes : Int) (f g : Hk → Int) (a : Option Addr) (m c : Nat) (xs : List Nm) (w : World) (h : RtAt w B tb eb ib n own nodes f g) (hx : NmR w a m xs) (hoff : ∀ k, blk a = some k → k ≠ eb ∧ k ≠ ib) (hall : ∀ x ∈ xs, isN nodes x.1 = true) (hn : n + m ≤ 1000000000) :
    Calls Try.prog 22 #[.pointer (some ⟨tb, 0, none⟩), .slice a m c] w fun e w' => e = .returned (.int .i64 0) ∧ RtIs w B tb eb ib (n + m) own nodes f (gotF g own xs) w' := by
  have HH : Hid (RtAt w B tb eb ib n own nodes f g ∧ NmR w a m xs ∧ (∀ k, blk a = some k → k ≠ eb ∧ k ≠ ib) ∧ ∀ x ∈ xs, isN nodes x.1 = true) := ⟨h, hx, hoff, hall⟩
  clear h hx hoff hall
  go_enter Try.func22, Try.ntmps22
  go_wp2_with fail
  go_loopw [13] (fun i wr => ∃ k : Nat, k ≤ m ∧ i = .int .i64 k ∧ Hid (Below w.heap.size w wr)) (fun i _ => m - (intOf i).toNat)
  case atStart => exact ⟨0, Nat.zero_le _, rfl, Below.refl _ _⟩
  case round =>
    obtain ⟨k, hk, rfl, HK⟩ := hrel
    by_cases hlt : k < m
    · have hltI : (k : Int) < (m : Int) := by omega
      have hk0 : (0 : Int) ≤ (k : Int) := by omega
      obtain ⟨b, o, hxk, rfl, hb, p0, p1⟩ := (HH.out.2.1.below HK.out).at hlt
      have hin : isN nodes xs[k].1 = true := HH.out.2.2.2 _ (List.getElem_mem hxk)
      generalize xs[k] = y at *
      obtain ⟨y1, y2⟩ := y
      simp only at p0 p1 hin
      obtain ⟨W2, hW2⟩ : ∃ W2, wr.alloc (.cells #[.int .i64 0, .int .i64 0] 48) = W2 := ⟨_, rfl⟩
      obtain ⟨vb, hvb⟩ : ∃ vb, wr.heap.size = vb := ⟨_, rfl⟩
      obtain ⟨⟨c0, c1, g0, g1⟩, hbV, hcV⟩ := stored (y1 := y1) (y2 := y2) hW2 hvb
      obtain ⟨V, hV⟩ : ∃ V, (W2.setCell ⟨vb, 0, none⟩ (.int .i64 y1)).setCell ⟨vb, 1, none⟩ (.int .i64 y2) = V := ⟨_, rfl⟩
      rw [hV] at hbV hcV
      obtain ⟨q0, q1⟩ := box2 hcV
      have HV : Hid (Below w.heap.size w V) := HK.out.trans (hbV.mono HK.out.size)
      obtain ⟨t0, t1, t2, t3⟩ := (HH.out.1.below HV.out).cells
      have H31 : Calls Try.prog 31 #[.agg #[.int .i64 own, .int .i64 nodes], .int .i64 y1] V.drew fun e w' => e = .returned (.bool true) ∧ Hid (Below w.heap.size w w') := by
        refine (r31 own nodes y1 V.drew).mono ?_
        rintro e w' ⟨rfl, hb2⟩
        rw [hin]
        have h3 := HV.out.drew
        exact ⟨rfl, h3.trans (hb2.mono h3.size)⟩
      clear hbV hcV hin
      go_wp2_with fail
      clear hW2 hvb c0 c1 g0 g1 hV
      go_region_with (go_at_call 31; refine H31.mono ?_; rintro e w5 ⟨rfl, H5⟩)
      all_goals (
        clear H31 q0 q1 t0 t1 t2 t3 p0 p1
        go_wp2_with fail
        go_roundw
        case rel => exact ⟨k + 1, by omega, by go_num, H5⟩
        case measure => simp [intOf]; omega)
    · have HI0 : Hid (RtIs w B tb eb ib (n + 0) own nodes f (gotF g own (xs.take 0)) wr) := RtIs.of HH.out.1 HK.out
      go_wp2_with fail
      go_loopw [28] (fun i wr => ∃ k : Nat, k ≤ m ∧ i = .int .i64 k ∧ Hid (RtIs w B tb eb ib (n + k) own nodes f (gotF g own (xs.take k)) wr)) (fun i _ => m - (intOf i).toNat)
      case atStart => exact ⟨0, Nat.zero_le _, rfl, HI0⟩
      case round =>
        clear HI0 HK
        obtain ⟨j, hj, rfl, HJ⟩ := hrel
        by_cases hjl : j < m
        · have hjI : (j : Int) < (m : Int) := by omega
          have hj0 : (0 : Int) ≤ (j : Int) := by omega
          have hkeep : ∀ i, blk a = some i → wr.heap[i]? = w.heap[i]? := fun i hi => by
            obtain ⟨_, h2, h3, _⟩ := HH.out
            rcases h2.mem with e | ⟨b, o, e, hl, _⟩
            · omega
            · subst e; cases hi
              exact HJ.out.2.block _ hl (h3 _ rfl).1 (h3 _ rfl).2
          obtain ⟨b, o, hxj, rfl, hb, p0, p1⟩ := (HH.out.2.1.keeps hkeep).at hjl
          have HT : Hid (gotF g own (xs.take (j + 1)) = if xs[j].1 = own then gotF g own (xs.take j) else addF (gotF g own (xs.take j)) (xs[j], xs[j].1) 1) := by
            show gotF g own (xs.take (j + 1)) = _
            rw [← gotF_snoc, List.take_append_getElem]
          have HW : Hid (wfN xs[j]) := HH.out.2.1.wf _ (List.getElem_mem hxj)
          generalize xs[j] = y at *
          obtain ⟨y1, y2⟩ := y
          simp only at p0 p1 HT
          obtain ⟨W2, hW2⟩ : ∃ W2, wr.alloc (.cells #[.int .i64 0, .int .i64 0] 48) = W2 := ⟨_, rfl⟩
          obtain ⟨vb, hvb⟩ : ∃ vb, wr.heap.size = vb := ⟨_, rfl⟩
          obtain ⟨⟨c0, c1, g0, g1⟩, hbV, hcV⟩ := stored (y1 := y1) (y2 := y2) hW2 hvb
          obtain ⟨V, hV⟩ : ∃ V, (W2.setCell ⟨vb, 0, none⟩ (.int .i64 y1)).setCell ⟨vb, 1, none⟩ (.int .i64 y2) = V := ⟨_, rfl⟩
          rw [hV] at hbV hcV
          obtain ⟨q0, q1⟩ := box2 hcV
          have HV : Hid (RtIs w B tb eb ib (n + j) own nodes f (gotF g own (xs.take j)) V ∧ V.heap[vb]? = some (.cells #[.int .i64 y1, .int .i64 y2] 48 (0, 0))) := ⟨HJ.out.trans (RtIs.of HJ.out.1 hbV), hcV⟩
          obtain ⟨t0, t1, t2, t3⟩ := HV.out.1.1.cells
          have hk : ∀ (ob : Obj) (q : Addr), q.block < V.heap.size → (V.alloc ob).cell? q = V.cell? q := fun ob q hq => ((Below.refl V.heap.size V).alloc (Nat.le_refl _) ob).cell hq
          have hl1 : tb < V.heap.size := HV.out.1.1.lt
          have hl2 : vb < V.heap.size := (Array.getElem?_eq_some_iff.1 hcV).1
          have a0 := fun ob => (hk ob ⟨tb, 0, none⟩ hl1).trans t0
          have a1 := fun ob => (hk ob ⟨tb, 1, none⟩ hl1).trans t1
          have d0 := fun ob => (hk ob ⟨vb, 0, none⟩ hl2).trans q0
          have d1 := fun ob => (hk ob ⟨vb, 1, none⟩ hl2).trans q1
          have H51 : Calls Try.prog 51 #[.agg #[.int .i64 own, .int .i64 nodes], .slice (some ⟨V.heap.size, 0, none⟩) 1 1] (V.alloc (.cells #[.int .i64 y1, .int .i64 y2] 48)).drew fun e w' => e = .returned (.bool (decide (y1 = own))) ∧ Hid (RtIs w B tb eb ib (n + j) own nodes f (gotF g own (xs.take j)) w' ∧ w'.heap[vb]? = some (.cells #[.int .i64 y1, .int .i64 y2] 48 (0, 0))) := by
            have hb : Below V.heap.size V (V.alloc (.cells #[.int .i64 y1, .int .i64 y2] 48)).drew := ((Below.refl _ _).alloc (Nat.le_refl _) _).drew
            refine (r51 own nodes _ 1 1 [(y1, y2)] _ ((nm_one V (y1, y2) HW.out).below ((Below.refl _ _).drew)) (by omega)).mono ?_
            rintro e w' ⟨rfl, hb2⟩
            have hb3 := hb.trans (hb2.mono hb.size)
            have e1 : allOwn own [(y1, y2)] = decide (y1 = own) := by
              by_cases h : y1 = own <;> simp [allOwn, h]
            rw [e1]
            exact ⟨rfl, HV.out.1.trans (RtIs.of HV.out.1.1 hb3), (hb3.block vb hl2).trans hcV⟩
          clear hkeep hbV hcV hk hl1 hl2
          by_cases hy : y1 = own
          · have hd : decide (y1 = own) = true := by simp [hy]
            rw [hd] at H51
            rw [if_pos hy] at HT
            subst hy
            clear hd
            go_wp2_with fail
            clear hW2 hvb c0 c1 g0 g1 hV
            go_region_with (go_at_call 51; refine H51.mono ?_; rintro e w5 ⟨rfl, H5⟩)
            all_goals (
              clear H51 q0 q1 t0 t1 t2 t3 p0 p1 a0 a1 d0 d1
              go_wp2_with fail
              go_roundw
              case rel => exact ⟨j + 1, by omega, by go_num, by
                rw [HT.out]
                exact ⟨H5.out.1.1.le (by omega), H5.out.1.2⟩⟩
              case measure => simp [intOf]; omega)
          · have hd : decide (y1 = own) = false := by simp [hy]
            rw [hd] at H51
            rw [if_neg hy] at HT
            clear hd hy
            go_wp2_with fail
            clear hW2 hvb c0 c1 g0 g1 hV
            go_region_with (go_at_call 51; refine H51.mono ?_; rintro e w5 ⟨rfl, H5⟩)
            all_goals (
              clear H51 q0 q1 t0 t1 t2 t3 p0 p1 a0 a1 d0 d1
              obtain ⟨q0, q1⟩ := box2 H5.out.2
              obtain ⟨t0, t1, t2, t3⟩ := H5.out.1.1.cells
              have H53 : Calls Try.prog 53 #[.agg #[.int .i64 y1, .int .i64 y2]] w5.drew fun e w' => e = .returned (.agg #[.int .i64 y1, .int .i64 y2, .int .i64 y1]) ∧ w'.cell? ⟨tb, 3, none⟩ = some (.map (some ib)) ∧ Hid (RtIs w B tb eb ib (n + j) own nodes f (gotF g own (xs.take j)) w') := by
                refine (r53 y1 y2 w5.drew).mono ?_
                rintro e w' ⟨rfl, hb2⟩
                have hb3 : Below w5.heap.size w5 w' := ((Below.refl _ w5).drew).trans hb2
                have hI := H5.out.1.trans (RtIs.of H5.out.1.1 hb3)
                exact ⟨rfl, hI.1.cells.2.2.2, hI⟩
              have H52 : Hid (∀ w', Hid (RtIs w B tb eb ib (n + j) own nodes f (gotF g own (xs.take j)) w') → Calls Try.prog 52 #[.map (some ib), .agg #[.int .i64 y1, .int .i64 y2, .int .i64 y1], .int .i64 1] w' fun e w'' => e = .returned (.tuple #[]) ∧ Hid (RtIs w B tb eb ib (n + (j + 1)) own nodes f (gotF g own (xs.take (j + 1))) w'')) := fun w' hw => by
                refine (r52 ib (n + j) _ ((y1, y2), y1) 1 w' hw.out.1.im ⟨HW.out, HW.out.1⟩ (by omega)).mono ?_
                rintro e w'' ⟨rfl, ha⟩
                obtain ⟨r1, r2⟩ := rt_im hw.out.1 ha
                rw [HT.out]
                exact ⟨rfl, r1, hw.out.2.trans r2⟩
              go_wp2_with fail
              go_region_with (first
                | (go_at_call 53; refine H53.mono ?_; rintro e w6 ⟨rfl, d3, H6⟩)
                | (go_at_call 52; refine (H52.out _ H6).mono ?_; rintro e w7 ⟨rfl, H7⟩))
              all_goals (
                clear H53 H52 q0 q1 t0 t1 t2 t3 d3
                go_wp2_with fail
                go_roundw
                case rel => exact ⟨j + 1, by omega, by go_num, H7⟩
                case measure => simp [intOf]; omega))
        · go_wp2_with fail
          go_ret
          have hkm : j = m := by omega
          subst hkm
          have h1 := HJ.out
          rw [List.take_of_length_le (by rw [HH.out.2.1.len]; omega)] at h1
          exact ⟨rfl, h1⟩
end Go.Proofs.Ytjbgemmcbombfaa
