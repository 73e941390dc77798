/- Contract of row.add on a new row. -/
import Derived.Test.YtlfccjlifjppdaaGreatDoorQ14
namespace Go.Proofs.YtlfccjlifjppdaaGreatDoor
open Go.RowKit
attribute [local go_sem ↓] Go.wp_at_zero Go.wp_at_succ
set_option maxRecDepth 100000 in
set_option maxHeartbeats 4000000 in
theorem k39_new (xs : List Pd) (base R b o cap : Nat) (w : World) (hR0 : w.heap[R]? = some (.cells #[.slice none 0 0, .map none] 90 (0, 0))) (hbR0 : base ≤ R) (hr : w.rangeAt b o (flatP xs)) (hb : b < w.heap.size) (hbR : b ≠ R)
    (hx : ∀ y ∈ xs, wfP y) (hn : xs.length ≤ 5864062014805) (hbase : base ≤ w.heap.size) :
    Calls Tryz.prog 39 #[.pointer (some ⟨R, 0, none⟩), .slice (some ⟨b, o, none⟩) xs.length cap] w fun e w' => e = .returned (.tuple #[]) ∧ (∃ m lv', RowSt w' base R m lv' (xs.foldl addP [])) ∧ Below base w w' := by
  obtain ⟨acc, hacc⟩ : ∃ acc : List Pd, acc = [] := ⟨_, rfl⟩
  rw [← hacc]
  have hn : acc.length + xs.length ≤ 5864062014805 := by rw [hacc]; simpa using hn
  obtain ⟨i0, hi, hz, hs, hby⟩ := info40
  have hxl : (xs.length : Int) ≤ 5864062014805 := by omega
  have hRlt0 : R < w.heap.size := (Array.getElem?_eq_some_iff.1 hR0).1
  have cR1 : w.cell? ⟨R, 1, none⟩ = some (.map none) := by rw [cell_of_row w R 1 _ 90 (0, 0) hR0]; rfl
  have hR0a : (w.alloc (.map #[] 0)).heap[R]? = some (.cells #[.slice none 0 0, .map none] 90 (0, 0)) := by rw [heap_alloc_old w _ hRlt0]; exact hR0
  have cR1a : (w.alloc (.map #[] 0)).cell? ⟨R, 1, none⟩ = some (.map none) := by rw [cell_of_row _ R 1 _ 90 (0, 0) hR0a]; rfl
  have fR1a : (w.alloc (.map #[] 0)).frozen? ⟨R, 1, none⟩ = false := frozen_of_row _ R 1 _ 90 hR0a
  have hnil := mapnil0
  have hmm := @run_makeMap Tryz.prog
  have HX : Hid (∀ y ∈ xs, wfP y) := hx
  have HW0 : Hid (RowSt ((w.setCell ⟨R, 1, none⟩ (.map (some w.heap.size))).alloc (.map #[] 0)) base R w.heap.size (.slice none 0 0) acc ∧ ((w.setCell ⟨R, 1, none⟩ (.map (some w.heap.size))).alloc (.map #[] 0)).rangeAt b o (flatP xs) ∧ ((w.setCell ⟨R, 1, none⟩ (.map (some w.heap.size))).alloc (.map #[] 0)).heap.size = w.heap.size + 1 ∧ Below base w ((w.setCell ⟨R, 1, none⟩ (.map (some w.heap.size))).alloc (.map #[] 0))) := by
    subst hacc
    have hzs : (w.setCell ⟨R, 1, none⟩ (.map (some w.heap.size))).heap.size = w.heap.size := by simp
    have hm := World.ownsMap_made (w.setCell ⟨R, 1, none⟩ (.map (some w.heap.size))) Tryz.prog 61 (unitElem (H := Unit))
    rw [hzs] at hm
    refine ⟨⟨?_, hbR0, hbase, World.ownsRow_nil _ _ _ _, hm, by simp⟩, fun j v hv => ?_, by simp, ?_⟩
    · rw [heap_alloc_old _ _ (by omega), heap_setCell_same w R 1 _ 90 _ hR0]; rfl
    · refine cell_alloc (show b < _ by omega) ?_
      rw [World.cell?_setCell_other _ _ _ _ (fun e => hbR (congrArg Addr.block e).symm)]
      exact hr j v hv
    · have x1 : Below base w (w.setCell ⟨R, 1, none⟩ (.map (some w.heap.size))) := ⟨rfl, rfl, rfl, by simp, fun k hk => heap_setCell_other _ _ _ _ (by show k ≠ R; omega)⟩
      exact x1.alloc (by omega) _
  clear hx hr
  go_enter Tryz.func39, Tryz.ntmps39
  go_wp2_with fail
  clear cR1 cR1a fR1a hmm hR0a
  have hnil := mapnil1
  generalize (w.setCell ⟨R, 1, none⟩ (.map (some w.heap.size))).alloc (.map #[] 0) = W0 at *
  generalize hmw : w.heap.size = m at *
  generalize hlv : Value.slice none 0 0 = lv at HW0
  have HS : Hid (RowSt W0 base R m lv acc) := HW0.out.1
  have HR : Hid (W0.rangeAt b o (flatP xs)) := HW0.out.2.1
  have HBw : Hid (Below base w W0) := HW0.out.2.2.2
  have HB : Hid (b < W0.heap.size ∧ b ≠ R ∧ b ≠ m ∧ lv.ownBlock ≠ some b ∧ base ≤ W0.heap.size) := by
    have := HW0.out.2.2.1
    exact ⟨by omega, hbR, by omega, by rw [← hlv]; simp [Value.ownBlock], by omega⟩
  clear HW0 hlv hR0 hRlt0 hb hbR hbase hbR0 hmw hacc
  go_loopw [19] (fun i wr => ∃ k : Nat, k ≤ xs.length ∧ i = .int .i64 k ∧ Hid (∃ lv', RowSt wr base R m lv' ((xs.take k).foldl addP acc) ∧ wr.rangeAt b o (flatP xs) ∧ b < wr.heap.size ∧ b ≠ R ∧ b ≠ m ∧ lv'.ownBlock ≠ some b ∧ base ≤ wr.heap.size) ∧ Below base w wr) (fun i _ => xs.length - (intOf i).toNat)
  case atStart => exact ⟨0, by omega, rfl, ⟨lv, HS.out, HR.out, HB.out⟩, HBw.out⟩
  case round =>
    obtain ⟨k, hk, rfl, HI, hbr⟩ := hrel
    by_cases hlt : k < xs.length
    · have hlt' : (k : Int) < (xs.length : Int) := by omega
      have hk0 : (0 : Int) ≤ (k : Int) := by omega
      obtain ⟨lv', hRS, hra, hbw, hbR, hbm, hbl, hbs⟩ := HI.out
      obtain ⟨p0, p1⟩ := pred_cells hra k hlt
      have hwx : wfP xs[k] := HX.out _ (List.getElem_mem hlt)
      have hRS1 := hRS.alloc (.cells #[.string xs[k].1, .int .i64 xs[k].2] 61)
      have HL1 := look64 hRS1 xs[k] hwx
      obtain ⟨cR0, cR1, fR⟩ := hRS1.cells
      have hbD : lv'.ownBlock ≠ some wr.heap.size := fun e => by
        have := (hRS.2.2.2.1.lt _ e).2
        omega
      generalize hxk : xs[k] = x at *
      go_wp2_with fail
      have hD := heap_alloc_new wr (.cells #[.string x.1, .int .i64 x.2] 61)
      have hszW : (wr.alloc (.cells #[.string x.1, .int .i64 x.2] 61)).heap.size = wr.heap.size + 1 := by simp
      have hra1 : (wr.alloc (.cells #[.string x.1, .int .i64 x.2] 61)).rangeAt b o (flatP xs) := fun j v hv => (cell_alloc hbw (hra j v hv))
      have hb1 : Below base w (wr.alloc (.cells #[.string x.1, .int .i64 x.2] 61)) := hbr.alloc hbs _
      generalize hDn : wr.heap.size = D at *
      generalize wr.alloc (.cells #[.string x.1, .int .i64 x.2] 61) = W1 at *
      have cD0 : W1.cell? ⟨D, 0, none⟩ = some (.string x.1) := by rw [cell_of_row W1 D 0 _ 61 (0, 0) hD]; rfl
      have cD1 : W1.cell? ⟨D, 1, none⟩ = some (.int .i64 x.2) := by rw [cell_of_row W1 D 1 _ 61 (0, 0) hD]; rfl
      have HRS1 : Hid (RowSt W1 base R m lv' ((xs.take k).foldl addP acc)) := hRS1
      clear hRS1 hRS p0 p1
      go_region_held3 (fun w' => w'.cell? ⟨R, 1, none⟩ = some (.map (some m)) ∧ w'.cell? ⟨D, 0, none⟩ = some (.string x.1) ∧ w'.cell? ⟨D, 1, none⟩ = some (.int .i64 x.2) ∧ (Instr.lookup 88 (.map (some m)) (.agg #[.string x.1, .int .i64 x.2]) true).run Tryz.prog w' = .ok (.tuple #[.agg #[], .bool (hasP ((xs.take k).foldl addP acc) x)]) w')
        (first
          | (go_split_ands
             refine ⟨by go_keep, by go_keep, by go_keep, ?_⟩
             first | assumption | exact look64 HRS1.out.drew x hwx | exact look64 (HRS1.out.drew.alloc _) x hwx | exact look64 (HRS1.out.alloc _) x hwx | exact look64 (HRS1.out.alloc _).drew x hwx))
        (fail)
      all_goals (
        have hRS2 : RowSt (W1.alloc (.cells #[] 112)).drew base R m lv' ((xs.take k).foldl addP acc) := (HRS1.out.alloc _).drew
        have hD2 : (W1.alloc (.cells #[] 112)).drew.heap[D]? = some (.cells #[.string x.1, .int .i64 x.2] 61 (0, 0)) := by
          show (W1.alloc (.cells #[] 112)).heap[D]? = _
          rw [heap_alloc_old W1 _ (by omega)]; exact hD
        have hra2 : (W1.alloc (.cells #[] 112)).drew.rangeAt b o (flatP xs) := fun j v hv => (cell_alloc (show b < W1.heap.size by omega) (hra1 j v hv))
        have hb2 : Below base w (W1.alloc (.cells #[] 112)).drew := (hb1.alloc (by omega) _).trans ⟨rfl, rfl, rfl, Nat.le_refl _, fun _ _ => rfl⟩
        have hsz2 : (W1.alloc (.cells #[] 112)).drew.heap.size = D + 2 := by show (W1.alloc (.cells #[] 112)).heap.size = _; simp; omega
        clear cR0 cR1 fR cD0 cD1 HL1 HRS1 hra1 hb1 hD hra
        generalize (W1.alloc (.cells #[] 112)).drew = W2 at *
        generalize hac : (xs.take k).foldl addP acc = ac at *
        have hacl : ac.length ≤ acc.length + k := by
          rw [← hac]; have := foldP_len (xs.take k) acc; rw [List.length_take] at this; omega
        have hstep : (xs.take (k + 1)).foldl addP acc = addP ac x := by
          rw [List.take_succ_eq_append_getElem hlt, List.foldl_append, hac, hxk]; rfl
        have HST : Hid ((xs.take (k + 1)).foldl addP acc = addP ac x) := hstep
        clear hstep hac
        cases hh : hasP ac x
        · have hE : Hid (addP ac x = ac ++ [x]) := by
            show addP ac x = ac ++ [x]
            unfold addP; rw [hh]; rfl
          obtain ⟨w3, hrun, hmap3, hgr3⟩ := hRS2.drew.2.2.2.2.1.update (val := .agg #[]) keyed40 Tryz.underlying88 (by unfold maxLen; omega) (key40 x hwx) unitElem_mk
          rw [← setP_snoc] at hmap3
          obtain ⟨hR3, hl3⟩ := hRS2.drew.met hgr3
          obtain ⟨cR0, cR1, fR⟩ := hRS2.cells
          have cD0 : W2.cell? ⟨D, 0, none⟩ = some (.string x.1) := by rw [cell_of_row W2 D 0 _ 61 (0, 0) hD2]; rfl
          have cD1 : W2.cell? ⟨D, 1, none⟩ = some (.int .i64 x.2) := by rw [cell_of_row W2 D 1 _ 61 (0, 0) hD2]; rfl
          have hrun' : (Instr.mapUpdate 88 (.map (some m)) (.agg #[.string x.1, .int .i64 x.2]) (.agg #[])).run Tryz.prog W2.drew = .ok () w3 := hrun
          clear hrun
          have hDm : D ≠ m := by
            intro e
            obtain ⟨es, ck, hh, _⟩ := hRS2.2.2.2.2.1
            rw [← e, hD2] at hh; cases hh
          have hD3 : w3.heap[D]? = some (.cells #[.string x.1, .int .i64 x.2] 61 (0, 0)) := (hgr3.block D (by show D < W2.heap.size; omega) (by simpa using hDm)).trans hD2
          have eR0 : w3.cell? ⟨R, 0, none⟩ = some lv' := by rw [cell_of_row w3 R 0 _ 90 (0, 0) hR3]; rfl
          have eR1 : w3.cell? ⟨R, 1, none⟩ = some (.map (some m)) := by rw [cell_of_row w3 R 1 _ 90 (0, 0) hR3]; rfl
          have eD0 : w3.cell? ⟨D, 0, none⟩ = some (.string x.1) := by rw [cell_of_row w3 D 0 _ 61 (0, 0) hD3]; rfl
          have eD1 : w3.cell? ⟨D, 1, none⟩ = some (.int .i64 x.2) := by rw [cell_of_row w3 D 1 _ 61 (0, 0) hD3]; rfl
          go_wp2_with fail
          go_region_held3 (fun w' => w'.cell? ⟨R, 1, none⟩ = some (.map (some m)) ∧ w'.cell? ⟨D, 0, none⟩ = some (.string x.1) ∧ w'.cell? ⟨D, 1, none⟩ = some (.int .i64 x.2)) (first | exact ⟨eR1, eD0, eD1⟩ | go_keep) (fail)
          all_goals (
            have hz3 : W2.heap.size ≤ w3.heap.size := hgr3.size
            have hRlt : R < w3.heap.size := (Array.getElem?_eq_some_iff.1 hR3).1
            have eR0a : ∀ ob : Obj, (w3.alloc ob).cell? ⟨R, 0, none⟩ = some lv' := fun ob => cell_alloc hRlt eR0
            have hbRl : lv'.ownBlock ≠ some R := row_not_box hl3 hR3
            have hRa : ∀ ob : Obj, R < (w3.alloc ob).drew.heap.size := fun ob => by
              show R < (w3.alloc ob).heap.size
              simp; omega
            have hDa : ∀ ob : Obj, D < (w3.alloc ob).drew.heap.size := fun ob => by
              show D < (w3.alloc ob).heap.size
              simp; omega
            have hDR : D ≠ R := fun e => by rw [e, hR3] at hD3; cases hD3
            have eD0a : ∀ ob : Obj, (w3.alloc ob).cell? ⟨D, 0, none⟩ = some (.string x.1) := fun ob => cell_alloc (show D < w3.heap.size by omega) eD0
            have eD1a : ∀ ob : Obj, (w3.alloc ob).cell? ⟨D, 1, none⟩ = some (.int .i64 x.2) := fun ob => cell_alloc (show D < w3.heap.size by omega) eD1
            have eF : ∀ ob : Obj, (w3.alloc ob).frozen? ⟨R, 0, none⟩ = false := fun ob => frozen_of_row (w3.alloc ob) R 0 _ 90 (by rw [heap_alloc_old w3 ob hRlt]; exact hR3)
            go_wp2_with fail
            go_region_law
              ((refine step_append_lies _ (by rfl) _ _ _ (by rfl) base 61 i0 _ 2 24 Tryz.underlying39 hi hz hs hby rfl (by omega) lv' ac.length (flatP ac) (by rfl) ((hl3.alloc _).drew)
                  ⟨w3.heap.size, 0, none⟩ 1 1 [.string x.1, .int .i64 x.2] (by rfl) (by rfl) (World.news_of_block (cs := #[.string x.1, .int .i64 x.2]) (t := 61) (fr := (0, 0)) (heap_alloc_new w3 _)) (by simp [Value.oneCell'])
                  (by omega) (by unfold maxLen; omega) (by omega) (by simp; omega) (w3.heap.size + 1) (by simp) ?_; intro gg cp w4 hown4 hgrow hat hlt4; have dR0 : w4.cell? ⟨R, 0, none⟩ = some lv' := (hgrow.cell_far ⟨R, 0, none⟩ (hRa _) (Ne.symm hbRl)).trans (eR0a _); have dF : w4.frozen? ⟨R, 0, none⟩ = false := (hgrow.frozen_far ⟨R, 0, none⟩ (hRa _) (Ne.symm hbRl)).trans (eF _); have dD0 : w4.cell? ⟨D, 0, none⟩ = some (.string x.1) := (hgrow.cell_far ⟨D, 0, none⟩ (hDa _) (Ne.symm hbD)).trans (eD0a _); have dD1 : w4.cell? ⟨D, 1, none⟩ = some (.int .i64 x.2) := (hgrow.cell_far ⟨D, 1, none⟩ (hDa _) (Ne.symm hbD)).trans (eD1a _)))
            all_goals (
              have HN : Hid (∃ lv'', RowSt (w4.setCell ⟨R, 0, none⟩ (.slice (some ⟨gg, 0, none⟩) (ac.length + 1) cp)) base R m lv'' (ac ++ [x]) ∧ (w4.setCell ⟨R, 0, none⟩ (.slice (some ⟨gg, 0, none⟩) (ac.length + 1) cp)).rangeAt b o (flatP xs) ∧ b < (w4.setCell ⟨R, 0, none⟩ (.slice (some ⟨gg, 0, none⟩) (ac.length + 1) cp)).heap.size ∧ b ≠ R ∧ b ≠ m ∧ lv''.ownBlock ≠ some b ∧ base ≤ (w4.setCell ⟨R, 0, none⟩ (.slice (some ⟨gg, 0, none⟩) (ac.length + 1) cp)).heap.size) := by
                have hz4 : w3.heap.size + 1 ≤ w4.heap.size := by have := hgrow.size; simpa using this
                have hzs : (w4.setCell ⟨R, 0, none⟩ (.slice (some ⟨gg, 0, none⟩) (ac.length + 1) cp)).heap.size = w4.heap.size := by simp
                have h1 := RowSt.added (w3 := (w3.alloc _).drew) (w4 := w4) (base := base) (R := R) (m := m) (g := gg) (cap := cp) (lv := lv') (acc := ac) (x := x) (by show (w3.alloc _).heap[R]? = _; rw [heap_alloc_old w3 _ hRlt]; exact hR3) ((hl3.alloc _).drew) (by rw [List.length_append]; exact (hmap3.alloc _).drew) (fun y hy => by rcases List.mem_append.1 hy with h | h; exact hRS2.2.2.2.2.2 y h; simp at h; rw [h]; exact hwx) hRS2.2.1 hRS2.2.2.1 hgrow (by rw [List.length_append, flatP_append]; exact hown4)
                rw [List.length_append] at h1
                refine ⟨_, h1, fun j v hv => ?_, by omega, hbR, hbm, ?_, by omega⟩
                · rw [World.cell?_setCell_other _ _ _ _ (fun e => hbR (congrArg Addr.block e).symm), hgrow.cell_far ⟨b, o + j, none⟩ (by show b < (w3.alloc _).heap.size; simp; omega) (Ne.symm hbl)]
                  exact cell_alloc (show b < w3.heap.size by omega) ((hgr3.cell_far ⟨b, o + j, none⟩ (show b < W2.heap.size by omega) (by simpa using hbm)).trans (hra2 j v hv))
                · intro e
                  simp [Value.ownBlock] at e
                  rcases hat with h | h
                  · rw [e] at h; exact hbl h
                  · omega
              have HBN : Hid (Below base w (w4.setCell ⟨R, 0, none⟩ (.slice (some ⟨gg, 0, none⟩) (ac.length + 1) cp))) := by
                have hm0 : base ≤ m := hRS2.2.2.1
                have hR0 : base ≤ R := hRS2.2.1
                have x1 : Below base w W2.drew := hb2.trans ⟨rfl, rfl, rfl, Nat.le_refl _, fun _ _ => rfl⟩
                have x2 := x1.grown hgr3 (by show base ≤ W2.heap.size; omega) (fun k e => by cases e; exact hm0)
                have x3 : Below base w (w3.alloc (.cells #[.string x.1, .int .i64 x.2] 61)).drew := (x2.alloc (by omega) _).trans ⟨rfl, rfl, rfl, Nat.le_refl _, fun _ _ => rfl⟩
                have x4 := x3.grown hgrow (by show base ≤ (w3.alloc _).heap.size; simp; omega) (fun k e => (hl3.lt k e).1)
                exact x4.trans ⟨rfl, rfl, rfl, by simp, fun k hk => heap_setCell_other _ _ _ _ (by simp; omega)⟩
              clear hown4 hgrow hat hlt4 dR0 dF dD0 dD1
              go_wp2_with fail
              go_roundw
              case rel => exact ⟨k + 1, by omega, by go_num, by rw [HST.out, hE.out]; exact HN, HBN.out⟩
              case measure => simp [intOf]; omega))
        · have hE : Hid (addP ac x = ac) := by
            show addP ac x = ac
            unfold addP; rw [hh]; rfl
          go_wp2_with fail
          go_roundw
          case rel => exact ⟨k + 1, by omega, by go_num, ⟨lv', by rw [HST.out, hE.out]; exact hRS2, hra2, by omega, hbR, hbm, hbl, by omega⟩, hb2⟩
          case measure => simp [intOf]; omega)
    · have hlt' : ¬ ((k : Int) < (xs.length : Int)) := by omega
      have HF : Hid (∃ lv', RowSt wr base R m lv' (xs.foldl addP acc)) := by
        obtain ⟨lv', h, _⟩ := HI.out
        rw [List.take_of_length_le (by omega)] at h
        exact ⟨lv', h⟩
      go_wp2_with fail
      go_end0
      exact ⟨rfl, ⟨m, HF.out⟩, hbr⟩
end Go.Proofs.YtlfccjlifjppdaaGreatDoor
