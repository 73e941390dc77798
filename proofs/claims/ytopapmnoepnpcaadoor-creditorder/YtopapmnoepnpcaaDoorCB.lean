/- Contracts of a term without cells: variables, Global, rightTerm. -/
import Derived.Test.YtopapmnoepnpcaaDoorCA
import Derived.RangeFuncNested
import Derived.RangeFuncBound
import Derived.RangeFuncCalls
import Derived.RangeFuncLeaves
import Derived.Shelf.Abstract
import Derived.Shelf.RegionOpen
import Derived.OwnWalkIn
import Derived.TacticsInMore
import Derived.LoopNIn
import Derived.LoopIn
import Derived.Sort.EveryDepth
namespace Go.Proofs.YtopapmnoepnpcaaDoor
open Go.RowKit Go.Shelf
section
attribute [local go_sem] Oper.semAt_some
set_option maxRecDepth 100000 in
set_option maxHeartbeats 4000000 in
theorem vars_none (F : Fence) (n : Nat) (h65 : F.fn 77) (hro : F.round = none) (l Bs b o : Nat) (J : World → Prop) (ad : Option Addr) (c : Nat) (W : World) (hBs : W.cell? ⟨Bs, 0, none⟩ = some (.slice (some ⟨b, o, none⟩) 1 1)) (hc : W.cell? ⟨b, o, none⟩ = some (.slice ad 0 c)) (h0 : J W) :
    CallsIn F n Tryd.prog 77 #[.func (.yield l) #[] #[], .pointer (some ⟨Bs, 0, none⟩)] W fun e W' => (∃ v, e = .returned v) ∧ J W' := by
  have H0 : Hid (J W) := h0
  clear h0
  refine callsIn_of_wp Tryd.func77 rfl h65 ?_ hro
  simp only [Tryd.ntmps77, List.size_toArray, List.length_cons, List.length_nil, Nat.reduceAdd, Nat.reduceSub, Array.replicate_succ, Array.replicate_zero, List.push_toArray, List.append_toArray, List.nil_append, List.cons_append]
  gi_wp2
  gi_loopw [9] (fun i wr => (i = .int .i64 0 ∨ i = .int .i64 1) ∧ wr = W) (fun i _ => 1 - (intOf i).toNat)
  case atStart => exact ⟨.inl rfl, rfl⟩
  case round =>
    obtain ⟨rfl | rfl, rfl⟩ := hrel
    · obtain ⟨W, hWr⟩ : ∃ W, W = wr := ⟨_, rfl⟩
      gi_wp2
      gi_loopw [15] (fun i wr => i = .int .i64 0 ∧ wr = W) (fun _ _ => 0)
      case atStart => exact ⟨rfl, hWr.symm⟩
      case round =>
        obtain ⟨rfl, rfl⟩ := hrel
        gi_wp2
        go_roundw
        case rel => exact ⟨.inr rfl, by first | trivial | exact hWr | exact hWr.symm⟩
        case measure => simp [intOf]
    · gi_wp2
      go_end0
      exact ⟨⟨_, rfl⟩, H0.out⟩
set_option maxHeartbeats 1000000 in
theorem variables_in (F : Fence) (n : Nat) (h57 : F.fn 68) (hro : F.round = none) (v : Value) (w : World) (hv : ∃ ad len cap, v = .slice ad len cap) :
    CallsIn F n Tryd.prog 68 #[v] w fun e w' => e = .returned (.func (.func 77) #[] #[.pointer (some ⟨w.heap.size, 0, none⟩)]) ∧ w' = w.alloc (.cells #[v] 104) := by
  obtain ⟨ad, len, cap, rfl⟩ := hv
  refine callsIn_of_wp Tryd.func68 rfl h57 ?_ hro
  simp only [Tryd.ntmps68, List.size_toArray, List.length_cons, List.length_nil, Nat.reduceAdd, Nat.reduceSub, Array.replicate_succ, Array.replicate_zero, List.push_toArray, List.append_toArray, List.nil_append, List.cons_append]
  gi_wp2
  go_ret
  exact ⟨rfl, rfl⟩
theorem seq_none (F : Fence) (n : Nat) (h65 : F.fn 77) (hro : F.round = none) (Bs b o : Nat) (ad : Option Addr) (c : Nat) (w0 w : World) (hBs : Bs < w.heap.size) (hb : b < w.heap.size)
    (hc : w.cell? ⟨Bs, 0, none⟩ = some (.slice (some ⟨b, o, none⟩) 1 1)) (hc2 : w.cell? ⟨b, o, none⟩ = some (.slice ad 0 c)) :
    SeqStopsK F n Tryd.prog 77 #[.pointer (some ⟨Bs, 0, none⟩)] (fun x : { _x : Int × Int // False } => #[Value.agg #[.int .i64 x.1.1, .int .i64 x.1.2]]) (Below w0.heap.size) (fun ys => ys = []) (fun _ => False) 0 w := by
  intro l J Jx W hW hJ hJx hY h0
  refine (vars_none F n h65 hro l Bs b o (J []) ad c W ((hW.cell (p := ⟨Bs, 0, none⟩) hBs).trans hc) ((hW.cell (p := ⟨b, o, none⟩) hb).trans hc2) h0).mono ?_
  rintro e W' ⟨hv, h1⟩
  exact ⟨hv, .inl ⟨[], rfl, h1⟩⟩
theorem r70_nil (ad : Option Addr) (c : Nat) (w : World) : Calls Tryd.prog 70 #[.slice ad 0 c] w fun e w' => e = .returned (.bool false) ∧ w' = w := by
  go_enter Tryd.func70, Tryd.ntmps70
  go_wp2_with fail
  go_ret
  exact ⟨rfl, rfl⟩
set_option maxRecDepth 100000 in
set_option maxHeartbeats 4000000 in
theorem d54 (ad : Option Addr) (cap : Nat) (w : World) :
    Calls Tryd.prog 54 #[.slice ad 0 cap] w fun e w' => e = .returned (.bool false) ∧ Below w.heap.size w w' := by
  refine (callsIn_wide (n := 6)).1 ?_
  refine callsIn_of_wp_marks Tryd.func54 rfl trivial ?_ rfl
  simp only [Tryd.ntmps54, List.size_toArray, List.length_cons, List.length_nil, Nat.reduceAdd, Nat.reduceSub, Array.replicate_succ, Array.replicate_zero, List.push_toArray, List.append_toArray, List.nil_append, List.cons_append]
  gi_wp2_with (refine ⟨trivial, ?_⟩; gi_at_call 68; refine (variables_in Fence.wide _ trivial rfl _ _ ⟨_, _, _, rfl⟩).mono ?_; rintro e w' ⟨rfl, rfl⟩)
  have bS := ((Boxed.new w 4 (.bool false)).alloc (.cells #[.slice ad 0 cap] 47)).alloc (.cells #[.slice (some ⟨w.heap.size + 1, 0, none⟩) 1 1] 104)
  have bT := (Boxed.new (w.alloc (.cells #[.bool false] 4)) 47 (.slice ad 0 cap)).alloc (.cells #[.slice (some ⟨w.heap.size + 1, 0, none⟩) 1 1] 104)
  have bL := Boxed.new ((w.alloc (.cells #[.bool false] 4)).alloc (.cells #[.slice ad 0 cap] 47)) 104 (.slice (some ⟨w.heap.size + 1, 0, none⟩) 1 1)
  simp only [World.size_alloc] at bT bL
  have hB0 : Below w.heap.size w (((w.alloc (.cells #[.bool false] 4)).alloc (.cells #[.slice ad 0 cap] 47)).alloc (.cells #[.slice (some ⟨w.heap.size + 1, 0, none⟩) 1 1] 104)) := (((Below.refl _ w).alloc (Nat.le_refl _) _).alloc (by simp) _).alloc (by simp; omega) _
  have hsz : (((w.alloc (.cells #[.bool false] 4)).alloc (.cells #[.slice ad 0 cap] 47)).alloc (.cells #[.slice (some ⟨w.heap.size + 1, 0, none⟩) 1 1] 104)).heap.size = w.heap.size + 3 := by simp
  obtain ⟨W0, hW0⟩ : ∃ W0, (((w.alloc (.cells #[.bool false] 4)).alloc (.cells #[.slice ad 0 cap] 47)).alloc (.cells #[.slice (some ⟨w.heap.size + 1, 0, none⟩) 1 1] 104)) = W0 := ⟨_, rfl⟩
  rw [hW0] at bS bT bL hB0 hsz ⊢
  clear hW0
  refine wpIn_rangeFunc_ownH rfl (by decide) (gf := 77) (lb := #[.pointer (some ⟨w.heap.size + 1 + 1, 0, none⟩)]) rfl trivial (enters_of Tryd.func77 (by kernel_rfl) rfl)
    (seq_none Fence.wide 5 trivial rfl (w.heap.size + 1 + 1) (w.heap.size + 1) 0 ad cap W0 W0 (by omega) (by omega) bL.cell bT.cell) belowK_t (belowK_b (Nat.le_refl _)) (Below.refl _ _) (fun _ => rfl)
    (fun _ W => Boxed W w.heap.size 4 (.bool false) ∧ Below W0.heap.size W0 W)
    (fun _ _ _ => False)
    (OwnFrom.and (Own.from (fun s A B row hs hg hr => boxed_own w.heap.size 4 (fun (_ : Unit) => Value.bool false) () A B row hs hg hr) _) (ownFrom_below (Nat.le_refl _) (Nat.le_refl _)))
    (fun c s A B row hs hg hr => hs)
    ⟨bS, Below.refl _ _⟩
    (fun x _ _ => False)
    (fun x a' _ X Y row hs hg hr => hs)
    ?assign ?body ?done ?stop
  case assign =>
    rintro lp pre ⟨x, hx⟩ W K _ hK
    exact hx.elim
  case body =>
    rintro lp pre ⟨x, hx⟩ a' W hl _ _ _ hlt
    exact hx.elim
  case done =>
    rintro D zs W hD hzs ⟨b1, hB1⟩ hK
    have c1 := b1.cell
    have f1 := b1.frozen
    have HBW : Hid (Below w.heap.size w W) := hB0.trans (hB1.mono hB0.size)
    have hlt1 := b1.lt
    have hDl : D < W.heap.size := (Array.getElem?_eq_some_iff.1 hK).1
    gi_wp2_with (refine ⟨trivial, ?_⟩; gi_at_call 70; refine (callsIn_wide.2 (r70_nil ad cap W)).mono ?_; rintro e w' ⟨rfl, hw70⟩; obtain rfl := hw70.symm)
    have hK' := (KeepsOthers.setCell W ⟨w.heap.size, 0, none⟩ (.bool false)).same D _ hK rfl
    refine ⟨by simp, .inl ⟨_, _, rfl, run_takeDeferred hK', ?_⟩⟩
    have hc5 := cell_kept (b1.set (.bool false)).cell (grownBy_putObj' _ D (.deferred none)) (fun r e => by cases e; exact ⟨_, hK', rfl⟩)
    refine ⟨.bool false, ?_, rfl, (HBW.out.setCell (p := ⟨w.heap.size, 0, none⟩) (Nat.le_refl _) _).trans (belowK_b (w := w) (Nat.le_refl _) _ D _ _ (by omega) hK' rfl rfl)⟩
    simp [results, Tryd.f54, go_sem, hc5]
  case stop =>
    rintro D c pre W hD hpre h _
    exact h.elim
end
attribute [local go_sem ↓] Go.wp_at_zero Go.wp_at_succ
set_option maxRecDepth 100000 in
theorem d38 (ad : Option Addr) (c : Nat) (w : World) : Calls Tryd.prog 38 #[.slice ad 0 c] w fun e w' => e = .returned (.bool false) ∧ Below w.heap.size w w' := by
  have H54 : Calls Tryd.prog 54 #[.slice ad 0 c] w fun e w' => e = .returned (.bool false) ∧ Hid (Below w.heap.size w w') := d54 ad c w
  go_enter Tryd.func38, Tryd.ntmps38
  go_wp2_with fail
  refine H54.mono ?_
  rintro e w1 ⟨rfl, H1⟩
  go_wp2_with fail
  go_ret
  exact ⟨rfl, H1.out⟩
set_option maxRecDepth 100000 in
set_option maxHeartbeats 2000000 in
theorem d28 (w : World) : Calls Tryd.prog 28 #[.int .u8 6] w fun e w' => e = .returned (.tuple #[.agg #[.bool false, .bool false, .bool false, .int .i64 0, .int .i64 2147483647, .int .i64 0, .int .i64 3, .bool true], .bool true]) ∧ Below w.heap.size w w' := by
  obtain ⟨W, hW⟩ : ∃ W, w.alloc (.cells #[.bool false, .bool false, .bool false, .int .i64 0, .int .i64 0, .int .i64 0, .int .i64 0, .bool false] 61) = W := ⟨_, rfl⟩
  have H35 : Calls Tryd.prog 35 #[] W fun e w' => e = .returned (.agg #[.int .i64 0, .int .i64 2147483647]) ∧ Hid (Below W.heap.size W w') := d35 W
  go_enter Tryd.func28, Tryd.ntmps28
  go_wp2_with fail
  refine H35.mono ?_
  rintro e w1 ⟨rfl, H1⟩
  clear H35
  obtain ⟨b, hb⟩ : ∃ b, w.heap.size = b := ⟨_, rfl⟩
  have hc : w1.heap[b]? = some (.cells #[.bool false, .bool false, .bool false, .int .i64 0, .int .i64 0, .int .i64 0, .int .i64 0, .bool false] 61 (0, 0)) := by
    have e0 : W.heap[b]? = some (.cells #[.bool false, .bool false, .bool false, .int .i64 0, .int .i64 0, .int .i64 0, .int .i64 0, .bool false] 61 (0, 0)) := by rw [← hW, ← hb]; exact heap_alloc_new w _
    exact (H1.out.block b (Array.getElem?_eq_some_iff.1 e0).1).trans e0
  have HB : Hid (Below w.heap.size w w1) := by
    have e1 : Below w.heap.size w W := by rw [← hW]; exact (Below.refl _ w).alloc (Nat.le_refl _) _
    exact e1.trans (H1.out.mono e1.size)
  have c0 : w1.cell? ⟨b, 0, none⟩ = some (.bool false) := by rw [cell_of_row w1 b 0 _ 61 (0, 0) hc]; rfl
  have c1 : w1.cell? ⟨b, 1, none⟩ = some (.bool false) := by rw [cell_of_row w1 b 1 _ 61 (0, 0) hc]; rfl
  have c2 : w1.cell? ⟨b, 2, none⟩ = some (.bool false) := by rw [cell_of_row w1 b 2 _ 61 (0, 0) hc]; rfl
  have c3 : w1.cell? ⟨b, 3, none⟩ = some (.int .i64 0) := by rw [cell_of_row w1 b 3 _ 61 (0, 0) hc]; rfl
  have c4 : w1.cell? ⟨b, 4, none⟩ = some (.int .i64 0) := by rw [cell_of_row w1 b 4 _ 61 (0, 0) hc]; rfl
  have c5 : w1.cell? ⟨b, 5, none⟩ = some (.int .i64 0) := by rw [cell_of_row w1 b 5 _ 61 (0, 0) hc]; rfl
  have c6 : w1.cell? ⟨b, 6, none⟩ = some (.int .i64 0) := by rw [cell_of_row w1 b 6 _ 61 (0, 0) hc]; rfl
  have c7 : w1.cell? ⟨b, 7, none⟩ = some (.bool false) := by rw [cell_of_row w1 b 7 _ 61 (0, 0) hc]; rfl
  have g0 := frozen_of_row w1 b 0 _ 61 hc
  have g1 := frozen_of_row w1 b 1 _ 61 hc
  have g2 := frozen_of_row w1 b 2 _ 61 hc
  have g3 := frozen_of_row w1 b 3 _ 61 hc
  have g4 := frozen_of_row w1 b 4 _ 61 hc
  have g5 := frozen_of_row w1 b 5 _ 61 hc
  have g6 := frozen_of_row w1 b 6 _ 61 hc
  have g7 := frozen_of_row w1 b 7 _ 61 hc
  obtain ⟨V, hV⟩ : ∃ V, V = (((((((((((((w1.setCell ⟨b, 3, none⟩ (.int .i64 0)).setCell ⟨b, 4, none⟩ (.int .i64 2147483647)).setCell ⟨b, 5, none⟩ (.int .i64 0)).setCell ⟨b, 6, none⟩ (.int .i64 3)).setCell ⟨b, 7, none⟩ (.bool true)).setCell ⟨b, 0, none⟩ (.bool false)).setCell ⟨b, 1, none⟩ (.bool false)).setCell ⟨b, 2, none⟩ (.bool false)).setCell ⟨b, 3, none⟩ (.int .i64 0)).setCell ⟨b, 4, none⟩ (.int .i64 2147483647)).setCell ⟨b, 5, none⟩ (.int .i64 0)).setCell ⟨b, 6, none⟩ (.int .i64 3)).setCell ⟨b, 7, none⟩ (.bool true)) := ⟨_, rfl⟩
  have HV : Hid (V.heap[b]? = some (.cells #[.bool false, .bool false, .bool false, .int .i64 0, .int .i64 2147483647, .int .i64 0, .int .i64 3, .bool true] 61 (0, 0)) ∧ Below w.heap.size w V) := by
    have e1 := heap_setCell_same w1 b 3 _ 61 (.int .i64 0) hc
    have e2 := heap_setCell_same _ b 4 _ 61 (.int .i64 2147483647) e1
    have e3 := heap_setCell_same _ b 5 _ 61 (.int .i64 0) e2
    have e4 := heap_setCell_same _ b 6 _ 61 (.int .i64 3) e3
    have e5 := heap_setCell_same _ b 7 _ 61 (.bool true) e4
    have e6 := heap_setCell_same _ b 0 _ 61 (.bool false) e5
    have e7 := heap_setCell_same _ b 1 _ 61 (.bool false) e6
    have e8 := heap_setCell_same _ b 2 _ 61 (.bool false) e7
    have e9 := heap_setCell_same _ b 3 _ 61 (.int .i64 0) e8
    have e10 := heap_setCell_same _ b 4 _ 61 (.int .i64 2147483647) e9
    have e11 := heap_setCell_same _ b 5 _ 61 (.int .i64 0) e10
    have e12 := heap_setCell_same _ b 6 _ 61 (.int .i64 3) e11
    have e13 := heap_setCell_same _ b 7 _ 61 (.bool true) e12
    have h0 : w.heap.size ≤ b := by omega
    rw [hV]
    exact ⟨e13, (((((((((((((HB.out.setCell (p := ⟨b, 3, none⟩) h0 _).setCell (p := ⟨b, 4, none⟩) h0 _).setCell (p := ⟨b, 5, none⟩) h0 _).setCell (p := ⟨b, 6, none⟩) h0 _).setCell (p := ⟨b, 7, none⟩) h0 _).setCell (p := ⟨b, 0, none⟩) h0 _).setCell (p := ⟨b, 1, none⟩) h0 _).setCell (p := ⟨b, 2, none⟩) h0 _).setCell (p := ⟨b, 3, none⟩) h0 _).setCell (p := ⟨b, 4, none⟩) h0 _).setCell (p := ⟨b, 5, none⟩) h0 _).setCell (p := ⟨b, 6, none⟩) h0 _).setCell (p := ⟨b, 7, none⟩) h0 _)⟩
  clear hc hW H1 HB
  go_wp2_with fail
  rw [← hV]
  clear hb c0 c1 c2 c3 c4 c5 c6 c7 g0 g1 g2 g3 g4 g5 g6 g7 hV
  have c0 : V.cell? ⟨b, 0, none⟩ = some (.bool false) := by rw [cell_of_row V b 0 _ 61 (0, 0) HV.out.1]; rfl
  have c1 : V.cell? ⟨b, 1, none⟩ = some (.bool false) := by rw [cell_of_row V b 1 _ 61 (0, 0) HV.out.1]; rfl
  have c2 : V.cell? ⟨b, 2, none⟩ = some (.bool false) := by rw [cell_of_row V b 2 _ 61 (0, 0) HV.out.1]; rfl
  have c3 : V.cell? ⟨b, 3, none⟩ = some (.int .i64 0) := by rw [cell_of_row V b 3 _ 61 (0, 0) HV.out.1]; rfl
  have c4 : V.cell? ⟨b, 4, none⟩ = some (.int .i64 2147483647) := by rw [cell_of_row V b 4 _ 61 (0, 0) HV.out.1]; rfl
  have c5 : V.cell? ⟨b, 5, none⟩ = some (.int .i64 0) := by rw [cell_of_row V b 5 _ 61 (0, 0) HV.out.1]; rfl
  have c6 : V.cell? ⟨b, 6, none⟩ = some (.int .i64 3) := by rw [cell_of_row V b 6 _ 61 (0, 0) HV.out.1]; rfl
  have c7 : V.cell? ⟨b, 7, none⟩ = some (.bool true) := by rw [cell_of_row V b 7 _ 61 (0, 0) HV.out.1]; rfl
  exact bodyPost_ret (v := .tuple #[.agg #[.bool false, .bool false, .bool false, .int .i64 0, .int .i64 2147483647, .int .i64 0, .int .i64 3, .bool true], .bool true]) (by simp [results, Tryd.results28, go_sem, c0, c1, c2, c3, c4, c5, c6, c7]) rfl ⟨rfl, HV.out.2⟩
end Go.Proofs.YtopapmnoepnpcaaDoor
