/- Contracts of AppendSeq and Collect over a map's keys. -/
import Derived.Test.YtgcpkkeonameeaaGreatDoorKY1
import Derived.RangeFuncBox
import Derived.Maps.AppendAt
import Derived.Deep.MidRow
namespace Go.Proofs.YtgcpkkeonameeaaGreatDoor
open Go.RowKit Go.Shelf
attribute [local go_sem] Oper.semAt_some
theorem infoN : ∃ i, Tryz.prog.info? 24 = some i ∧ i.zero = some (.agg #[.int .i64 0, .int .i64 0]) ∧ i.size = 2 ∧ i.bytes = 16 := by
  have h : (Tryz.prog.info? 24).map (fun i => (i.zero, i.size, i.bytes)) = some (some (.agg #[.int .i64 0, .int .i64 0]), 2, 16) := by kernel_rfl
  cases hq : Tryz.prog.info? 24 with
  | none => rw [hq] at h; cases h
  | some i =>
    rw [hq] at h
    simp only [Option.map_some, Option.some.injEq, Prod.mk.injEq] at h
    exact ⟨i, rfl, h.1, h.2.1, h.2.2⟩
def encM (x : Nm) : List Value := [.int .i64 x.1, .int .i64 x.2]
theorem encM_len (x : Nm) : (encM x).length = 2 := rfl
theorem encM_one (x : Nm) : ∀ v ∈ encM x, v.oneCell' = true := fun v hv => by
  simp [encM] at hv
  rcases hv with rfl | rfl <;> rfl
theorem kept_cells {A B : World} {row : Option Nat} (hg : A.grownBy B row) (hr : ∀ r, row = some r → ∃ o : Obj, A.heap[r]? = some o ∧ o.isCells = false) {k : Nat} {cs : Array Value} {t : TypeId} {fr : Nat × Nat} (h : A.heap[k]? = some (.cells cs t fr)) : B.heap[k]? = some (.cells cs t fr) :=
  (hg.block k (Array.getElem?_eq_some_iff.1 h).1 (fun e => by
    obtain ⟨o, h1, h2⟩ := hr k e.symm
    rw [h] at h1; cases h1; cases h2)).trans h
theorem kept_row {A B : World} {row : Option Nat} (hg : A.grownBy B row) (hr : ∀ r, row = some r → ∃ o : Obj, A.heap[r]? = some o ∧ o.isCells = false) {n0 : Nat} {e : TypeId} {s n : Nat} {u : Value} {xs : List Value} (h : A.ownsRow n0 e s u n xs) : B.ownsRow n0 e s u n xs := by
  refine ⟨h.1, ?_⟩
  rcases h.2 with h1 | ⟨g, cap, cur, h1, h2, h3, h4⟩
  · exact .inl h1
  · exact .inr ⟨g, cap, cur, h1, h2, kept_cells hg hr h3, h4⟩
/-- Between two rounds: what has come lies in a row of the call's own. -/
def ApI (n0 : Nat) (pre : List Nm) (W : World) : Prop :=
  ∃ ua uc, Boxed W n0 27 (.slice ua pre.length uc) ∧ W.ownsRow n0 24 2 (.slice ua pre.length uc) pre.length (pre.flatMap encM)
theorem apI_own (n0 : Nat) : Own (ApI n0) := by
  rintro s A B row ⟨ua, uc, h1, h2⟩ hg hr
  exact ⟨ua, uc, kept_cells hg hr h1, kept_row hg hr h2⟩
/-- All keys of a map, each once, in a row of the call's own. -/
def ColTo {H : Type} (D : DataW H) (nn : Nat) (w : World) (u : Value) (w' : World) : Prop := ∃ ys, (AllK D ys ∧ ys.length ≤ nn) ∧ (∃ a c, u = .slice a ys.length c) ∧ w'.ownsRow w.heap.size 24 2 u ys.length (ys.flatMap encM) ∧ Below w.heap.size w w'
set_option maxRecDepth 100000 in
set_option maxHeartbeats 4000000 in
theorem y89 {H : Type} {R : Value → Option (DataW H × List MemPlace)} (Bm b nn : Nat) (D : DataW H) (w : World) (hBm : Bm < w.heap.size) (hm : w.cell? ⟨Bm, 0, none⟩ = some (.map (some b))) (hown : w.ownsMap Tryz.prog 24 R b nn D) (hnn : nn ≤ 4000000000000) :
    Calls Tryz.prog 79 #[.slice none 0 0, .func (.func 64) #[] #[.pointer (some ⟨Bm, 0, none⟩)]] w fun e w' => ∃ u, e = .returned u ∧ ColTo D nn w u w' := by
  refine (callsIn_wide (n := 6)).1 ?_
  obtain ⟨i0, hi, hz, hsz, hby⟩ := infoN
  refine callsIn_of_wp_marks Tryz.func79 rfl trivial ?_ rfl
  simp only [Tryz.ntmps79, List.size_toArray, List.length_cons, List.length_nil, Nat.reduceAdd, Nat.reduceSub, Array.replicate_succ, Array.replicate_zero, List.push_toArray, List.append_toArray, List.nil_append, List.cons_append]
  gi_wp2
  have hL0 : Below w.heap.size w (w.alloc (.cells #[.slice none 0 0] 27)) := (Below.refl _ w).alloc (Nat.le_refl _) _
  have bS := Boxed.new w 27 (.slice none 0 0)
  obtain ⟨W0, hW0⟩ : ∃ W0, w.alloc (.cells #[.slice none 0 0] 27) = W0 := ⟨_, rfl⟩
  have hs0 : W0.heap.size = w.heap.size + 1 := by rw [← hW0]; simp
  rw [hW0] at hL0 bS ⊢
  clear hW0
  have hown0 : W0.ownsMap Tryz.prog 24 R b nn D := by
    have hbl := hown.lt
    obtain ⟨es, clock, hb, Ft, hs, hD⟩ := hown
    exact ⟨es, clock, (hL0.block b hbl).trans hb, Ft, hs, hD⟩
  have HST := keys_stops 5 (by decide) Bm b nn D W0 (by omega) ((hL0.cell (p := ⟨Bm, 0, none⟩) hBm).trans hm) hown0
  obtain ⟨n0, hn0⟩ : ∃ n0, w.heap.size = n0 := ⟨_, rfl⟩
  rw [hn0] at hL0 bS hs0 ⊢
  clear hown hown0
  refine wpIn_rangeFunc_ownH rfl (by decide) (gf := 64) (lb := #[.pointer (some ⟨Bm, 0, none⟩)]) rfl trivial (enters_of Tryz.func64 (by kernel_rfl) rfl)
    HST walksK_t walksK_b (Below.refl _ _) (fun _ => rfl)
    (fun pre W => ApI n0 pre W ∧ Below n0 w W)
    (fun _ _ _ => False)
    (OwnFrom.and (Own.from (apI_own n0) _) (ownFrom_below (by omega) (by omega)))
    (fun _ _ _ _ _ hs _ _ => hs)
    ⟨⟨none, 0, bS, World.ownsRow_nil _ _ _ _⟩, hL0⟩
    (fun x a' W => ∃ Bx, n0 < Bx ∧ W.heap[Bx]? = some (.cells #[.int .i64 x.1, .int .i64 x.2] 24 (0, 0)) ∧ a' = { tmps := #[.slice none 0 0, .func (.func 64) #[] #[.pointer (some ⟨Bm, 0, none⟩)], .pointer (some ⟨n0, 0, none⟩), undef, .slice none 0 0, .pointer (some ⟨Bx, 0, none⟩), .func (.func 64) #[] #[.pointer (some ⟨Bm, 0, none⟩)], .agg #[.int .i64 x.1, .int .i64 x.2], undef, undef, undef, undef, undef], defers := [] })
    (fun x a' _ X Y row hs hg hr => by obtain ⟨Bx, h1, h2, h3⟩ := hs; exact ⟨Bx, h1, kept_cells hg (fun r e => (hr r e).2) h2, h3⟩)
    ?assign ?body ?done ?stop
  case assign =>
    rintro lp pre x W K ⟨⟨ua, uc, h1, h2⟩, hB1⟩ hK
    gi_wp2
    exact hK _ _ ((KeepsOthers.alloc _ _).from _) (KeepsOthers.alloc _ _).walks ⟨⟨ua, uc, h1.alloc _, h2.alloc _⟩, hB1.alloc (by have := hB1.size; omega) _⟩ ⟨W.heap.size, h1.lt, heap_alloc_new W _, rfl⟩
  case body =>
    rintro lp pre ⟨x1, x2⟩ a' W hlp ⟨r, hr⟩ ⟨⟨ua, uc, bU, rU⟩, hB1⟩ ⟨Bx, hBx, bX, rfl⟩ hlt
    have hszn : n0 ≤ W.heap.size := by have := bU.lt; omega
    have e0 : W.cell? ⟨Bx, 0, none⟩ = some (.int .i64 x1) := by rw [cell_of_row W Bx 0 _ 24 (0, 0) bX]; rfl
    have e1 : W.cell? ⟨Bx, 1, none⟩ = some (.int .i64 x2) := by rw [cell_of_row W Bx 1 _ 24 (0, 0) bX]; rfl
    have eU := bU.cell
    have HL : Hid (pre.length < nn) := hlt
    have HC : Hid (∀ j u, (encM (x1, x2))[j]? = some u → (W.alloc (.cells #[.int .i64 x1, .int .i64 x2] 24)).cell? ((⟨W.heap.size, 0, none⟩ : Addr).add j) = some u) := fun j u hu => by
      rw [Addr.add_mid, Nat.zero_add, cell_of_row _ W.heap.size j _ 24 (0, 0) (heap_alloc_new W _)]
      simpa [encM] using hu
    have HS2 : Hid (pre.length + 1 ≤ maxLen ∧ (pre.length + 1) * 16 ≤ 140737488355328 ∧ n0 ≤ (W.alloc (.cells #[.int .i64 x1, .int .i64 x2] 24)).heap.size) := by
      refine ⟨by unfold maxLen; omega, by omega, by simp; omega⟩
    have HG : Hid (∀ v' w2, w2.ownsRow n0 24 2 v' (pre.length + 1) (pre.flatMap encM ++ encM (x1, x2)) → (W.alloc (.cells #[.int .i64 x1, .int .i64 x2] 24)).grownBy w2 (Value.slice ua pre.length uc).ownBlock → ∃ g' cap', v' = .slice (some ⟨g', 0, none⟩) (pre.length + 1) cap' ∧ (w2.cell? ⟨n0, 0, none⟩ = some (.slice ua pre.length uc) ∧ w2.frozen? ⟨n0, 0, none⟩ = false) ∧ Boxed (w2.setCell ⟨n0, 0, none⟩ v') n0 27 v' ∧ (w2.setCell ⟨n0, 0, none⟩ v').ownsRow n0 24 2 v' (pre.length + 1) (pre.flatMap encM ++ encM (x1, x2)) ∧ KeepsOthers W (w2.setCell ⟨n0, 0, none⟩ v') ∧ Below n0 W (w2.setCell ⟨n0, 0, none⟩ v')) := fun v' w2 h1 h2 => by
      obtain ⟨g', cap', rfl⟩ := ownsRow_succ h1
      obtain ⟨hv1, hv2, hr2, hk2, hb2⟩ := bU.appended (by decide) rU hszn (Nat.le_refl _) h1 h2
      exact ⟨g', cap', rfl, ⟨hv1.cell, hv1.frozen⟩, hv2, hr2, hk2, hb2⟩
    gi_wp2_with (gi_at_builtin; refine wpListIn_append_own _ rfl _ _ 27 rfl n0 24 i0 (.agg #[.int .i64 0, .int .i64 0]) 2 16 Tryz.underlying27 hi hz hsz hby rfl (by decide) _ _ _ rfl (rU.alloc _) ⟨W.heap.size, 0, none⟩ 1 1 (encM (x1, x2)) rfl rfl HC.out (encM_one _) HS2.out.1 HS2.out.2.1 HS2.out.2.2 ?_; intro v' w2 hown' hgrow2 _; obtain ⟨g', cap', rfl, ⟨hc1, hf1⟩, hv2, hr2, hk2, hb2⟩ := HG.out v' w2 hown' hgrow2)
    refine ⟨hk2.from _, hk2.walks, ⟨some ⟨g', 0, none⟩, cap', ?_, ?_⟩, hB1.trans hb2⟩
    · rw [List.length_append]; exact hv2
    · rw [List.length_append, List.flatMap_append]; simpa using hr2
  case done =>
    rintro E zs W hE hzs ⟨⟨ua, uc, b1, r1⟩, hB1⟩ hK
    have e1 := b1.cell
    have hg := grownBy_putObj' W E (.deferred none)
    have hr : ∀ r, some E = some r → ∃ o : Obj, W.heap[r]? = some o ∧ o.isCells = false := fun r e => by cases e; exact ⟨_, hK, rfl⟩
    have HR : Hid ((W.putObj E (.deferred none)).ownsRow n0 24 2 (.slice ua zs.length uc) zs.length (zs.flatMap encM)) := kept_row hg hr r1
    have HBW : Hid (Below n0 w (W.putObj E (.deferred none))) := hB1.trans (belowK_b (w := W0) (by omega) W E _ _ hE hK rfl rfl)
    have HZ : Hid (AllK D zs ∧ zs.length ≤ nn) := hzs
    clear r1 hg hr hzs
    gi_wp2
    refine ⟨by simp, .inl ⟨_, _, rfl, run_takeDeferred hK, ?_⟩⟩
    refine ⟨.slice ua zs.length uc, ?_, _, rfl, zs, HZ.out, ⟨_, _, rfl⟩, ?_, ?_⟩
    · simp [results, Tryz.f79, go_sem]
    · rw [hn0]; exact HR.out
    · rw [hn0]; exact HBW.out
  case stop =>
    rintro E c pre W hE hpre hF
    exact hF.elim
set_option maxRecDepth 100000 in
theorem y69 {H : Type} {R : Value → Option (DataW H × List MemPlace)} (Bm b nn : Nat) (D : DataW H) (w : World) (hBm : Bm < w.heap.size) (hm : w.cell? ⟨Bm, 0, none⟩ = some (.map (some b))) (hown : w.ownsMap Tryz.prog 24 R b nn D) (hnn : nn ≤ 4000000000000) :
    Calls Tryz.prog 62 #[.func (.func 64) #[] #[.pointer (some ⟨Bm, 0, none⟩)]] w fun e w' => ∃ u, e = .returned u ∧ ColTo D nn w u w' := by
  have H89 : Calls Tryz.prog 79 #[.slice none 0 0, .func (.func 64) #[] #[.pointer (some ⟨Bm, 0, none⟩)]] w fun e w' => ∃ u, e = .returned u ∧ Hid (ColTo D nn w u w') := y89 Bm b nn D w hBm hm hown hnn
  clear hBm hm hown hnn
  go_enter Tryz.func62, Tryz.ntmps62
  go_wp2_with fail
  refine H89.mono ?_
  rintro e w1 ⟨u, rfl, H1⟩
  go_wp2_with fail
  go_ret
  exact ⟨u, rfl, H1.out⟩
end Go.Proofs.YtgcpkkeonameeaaGreatDoor
