/- Contracts of units, of one Bit, of a row of Bits copied. -/
import Derived.Test.YtopapmnoepnpcaaDoorCD
namespace Go.Proofs.YtopapmnoepnpcaaDoor
open Go.RowKit
attribute [local go_sem ↓] Go.wp_at_zero Go.wp_at_succ
theorem infoI64 : ∃ i, Tryd.prog.info? 3 = some i ∧ i.zero = some (.int .i64 0) ∧ i.size = 1 ∧ i.bytes = 8 := by
  have h : (Tryd.prog.info? 3).map (fun i => (i.zero, i.size, i.bytes)) = some (some (.int .i64 0), 1, 8) := by kernel_rfl
  cases hq : Tryd.prog.info? 3 with
  | none => rw [hq] at h; cases h
  | some i =>
    rw [hq] at h
    simp only [Option.map_some, Option.some.injEq, Prod.mk.injEq] at h
    exact ⟨i, rfl, h.1, h.2.1, h.2.2⟩
theorem i64s_one (xs : List Int) : ∀ u ∈ i64s xs, u.oneCell' = true := fun u hu => by
  unfold i64s at hu
  obtain ⟨x, _, rfl⟩ := List.mem_map.1 hu
  rfl
theorem cell_set_ne (w : World) (p q : Addr) (v : Value) (h : q.block ≠ p.block) : (w.setCell p v).cell? q = w.cell? q := by
  have := heap_setCell_other w p q.block v h
  unfold World.cell?
  rw [this]
theorem in_nil (w : World) (a : Option Addr) : In w a 0 [] := ⟨rfl, .inl rfl⟩
theorem in_one (w : World) (k : Int) : In (w.alloc (.cells #[.int .i64 k] 3)) (some ⟨w.heap.size, 0, none⟩) 1 [k] :=
  ⟨rfl, .inr ⟨_, _, rfl, by simp, fun j u hu => by rw [Nat.zero_add, cell_of_row _ w.heap.size j _ 3 (0, 0) (heap_alloc_new w _)]; simpa [i64s] using hu⟩⟩
set_option maxRecDepth 100000 in
set_option maxHeartbeats 2000000 in
theorem d21 (a : Option Addr) (n c : Nat) (B : List Int) (w : World) (h : In w a n B) (hn : n ≤ 1000000000) (hnil : a = none → n = 0) : Calls Tryd.prog 21 #[.slice a n c] w fun e w' => ∃ a' c', e = .returned (.slice a' n c') ∧ Row w' w.heap.size 3 a' n c' (i64s B) ∧ Below w.heap.size w w' := by
  obtain ⟨i0, hi, hz, hsz, hby⟩ := infoI64
  have HN : Hid (In w a n B) := h
  clear h
  go_enter Tryd.func21, Tryd.ntmps21
  go_wp2_with (at_builtin; refine wpList_append_row _ rfl _ _ 22 rfl w.heap.size 3 i0 (.int .i64 0) 8 Tryd.underlying22 hi hz hsz hby rfl none 0 0 [] rfl (row_nil _ _ _) a n c (i64s B) rfl HN.out.reads (i64s_one _) hnil (by unfold maxLen; omega) (by omega) (Nat.le_refl _) ?_)
  intro a' c' w' h1 h2 _ _
  have H1 : Hid (Row w' w.heap.size 3 a' n c' (i64s B) ∧ Below w.heap.size w w') := ⟨h1, ⟨h2.os, h2.tape, h2.output, h2.size, fun k hk => h2.block k hk (by simp)⟩⟩
  clear h1 h2
  go_wp2_with fail
  go_ret
  exact ⟨a', c', by simp, H1.out⟩
set_option maxRecDepth 100000 in
set_option maxHeartbeats 2000000 in
theorem d26 (b : Int) (w : World) : Calls Tryd.prog 26 #[.int .i64 b] w fun e w' => ∃ g, e = .returned (.agg #[.int .i64 0, .slice (some ⟨g, 0, none⟩) 1 1]) ∧ In w' (some ⟨g, 0, none⟩) 1 [b] ∧ Below w.heap.size w w' ∧ w.heap.size ≤ g := by
  obtain ⟨U, hU⟩ : ∃ U, (w.alloc (.cells #[.int .i64 0, .slice none 0 0] 24)).alloc (.cells #[.int .i64 b] 3) = U := ⟨_, rfl⟩
  obtain ⟨r, hr⟩ : ∃ r, w.heap.size = r := ⟨_, rfl⟩
  have HB : Hid (Below w.heap.size w U ∧ In U (some ⟨r + 1, 0, none⟩) 1 [b]) := by
    rw [← hU, ← hr]
    have b1 : Below w.heap.size w (w.alloc (.cells #[.int .i64 0, .slice none 0 0] 24)) := (Below.refl _ w).alloc (Nat.le_refl _) _
    refine ⟨b1.alloc b1.size _, ?_⟩
    have := in_one (w.alloc (.cells #[.int .i64 0, .slice none 0 0] 24)) b
    simpa using this
  have hc : U.heap[r]? = some (.cells #[.int .i64 0, .slice none 0 0] 24 (0, 0)) := by
    rw [← hU, ← hr, heap_alloc_old _ _ (by simp)]; exact heap_alloc_new w _
  obtain ⟨c0, c1⟩ := box2 hc
  have g0 := frozen_of_row U r 0 _ 24 hc
  have g1 := frozen_of_row U r 1 _ 24 hc
  clear hc
  go_enter Tryd.func26, Tryd.ntmps26
  go_wp2_with fail
  refine bodyPost_ret (v := .agg #[.int .i64 0, .slice (some ⟨r + 1, 0, none⟩) 1 1]) (by simp [results, Tryd.results26, go_sem, c0, c1]) rfl ⟨_, rfl, ?_, ?_, by omega⟩
  · obtain ⟨b1, b2⟩ := HB.out
    have h0 : U.heap.size ≤ U.heap.size := Nat.le_refl _
    refine ⟨b2.len, ?_⟩
    rcases b2.mem with e | ⟨g, o, e, hl, hg⟩
    · omega
    · cases e
      refine .inr ⟨_, _, rfl, by simpa using hl, fun j u hu => ?_⟩
      rw [cell_set_ne _ _ _ _ (by simp), cell_set_ne _ _ _ _ (by simp)]
      exact hg j u hu
  · have h0 : w.heap.size ≤ r := by omega
    exact (HB.out.1.setCell (p := ⟨r, 0, none⟩) h0 _).setCell (p := ⟨r, 1, none⟩) h0 _
set_option maxRecDepth 100000 in
set_option maxHeartbeats 2000000 in
theorem d14 (n : Int) (w : World) (h0 : 0 ≤ n) (h1 : n ≤ 2147483647) : Calls Tryd.prog 14 #[.int .i64 n] w fun e w' => e = .returned (.agg #[.int .i64 n, .slice none 0 0]) ∧ Below w.heap.size w w' := by
  obtain ⟨U, hU⟩ : ∃ U, (w.alloc (.cells #[.int .i64 0, .slice none 0 0] 24)).alloc (.cells #[.int .i64 0, .slice none 0 0] 24) = U := ⟨_, rfl⟩
  obtain ⟨r, hr⟩ : ∃ r, w.heap.size = r := ⟨_, rfl⟩
  obtain ⟨q, hq⟩ : ∃ q, r + 1 = q := ⟨_, rfl⟩
  have hcr : U.heap[r]? = some (.cells #[.int .i64 0, .slice none 0 0] 24 (0, 0)) := by
    rw [← hU, ← hr, heap_alloc_old _ _ (by simp)]; exact heap_alloc_new w _
  have hcq : U.heap[q]? = some (.cells #[.int .i64 0, .slice none 0 0] 24 (0, 0)) := by
    rw [← hU, ← hq, ← hr]
    have := heap_alloc_new (w.alloc (.cells #[.int .i64 0, .slice none 0 0] 24)) (.cells #[.int .i64 0, .slice none 0 0] 24)
    simpa using this
  have HU : Hid (Below w.heap.size w U) := by
    rw [← hU]
    have b1 : Below w.heap.size w (w.alloc (.cells #[.int .i64 0, .slice none 0 0] 24)) := (Below.refl _ w).alloc (Nat.le_refl _) _
    exact b1.alloc b1.size _
  obtain ⟨V, hV⟩ : ∃ V, (U.setCell ⟨q, 0, none⟩ (.int .i64 n)).setCell ⟨q, 1, none⟩ (.slice none 0 0) = V := ⟨_, rfl⟩
  have HV : Hid (V.heap[r]? = some (.cells #[.int .i64 0, .slice none 0 0] 24 (0, 0)) ∧ Bk w V q (.int .i64 n) (.slice none 0 0) 24) := by
    have e1 := heap_setCell_same U q 0 _ 24 (.int .i64 n) hcq
    have e2 := heap_setCell_same _ q 1 _ 24 (.slice none 0 0) e1
    have h2 : w.heap.size ≤ q := by omega
    rw [← hV]
    refine ⟨?_, e2, (HU.out.setCell (p := ⟨q, 0, none⟩) h2 _).setCell (p := ⟨q, 1, none⟩) h2 _⟩
    rw [heap_setCell_other _ ⟨q, 1, none⟩ r _ (show r ≠ q by omega), heap_setCell_other _ ⟨q, 0, none⟩ r _ (show r ≠ q by omega)]
    exact hcr
  obtain ⟨c0, c1⟩ := box2 hcq
  have g0 := frozen_of_row U q 0 _ 24 hcq
  have g1 := frozen_of_row U q 1 _ 24 hcq
  obtain ⟨v0, v1⟩ := box2 HV.out.2.box
  have H9 : Calls Tryd.prog 9 #[.agg #[.int .i64 n, .slice none 0 0]] V fun e w' => e = .returned (.bool true) ∧ Hid (w'.heap[r]? = some (.cells #[.int .i64 0, .slice none 0 0] 24 (0, 0)) ∧ Bk w w' q (.int .i64 n) (.slice none 0 0) 24) := by
    refine (d9 _ n [] V ⟨none, 0, 0, rfl, in_nil _ _, by omega, by omega, fun _ => rfl⟩).mono ?_
    rintro e w' ⟨rfl, h2⟩
    have : rightB n [] = true := by simp [rightB, riseB, h0, h1]
    rw [this]
    exact ⟨rfl, (h2.block r (Array.getElem?_eq_some_iff.1 HV.out.1).1).trans HV.out.1, HV.out.2.below h2⟩
  have HR : Hid (w.heap.size ≤ r) := by show w.heap.size ≤ r; omega
  clear hcr hcq HU
  go_enter Tryd.func14, Tryd.ntmps14
  go_wp2_with fail
  refine H9.mono ?_
  rintro e w1 ⟨rfl, H1⟩
  clear H9 hU hr hq hV HV c0 c1 g0 g1 v0 v1
  obtain ⟨v0, v1⟩ := box2 H1.out.2.box
  obtain ⟨c0, c1⟩ := box2 H1.out.1
  have g0 := frozen_of_row w1 r 0 _ 24 H1.out.1
  have g1 := frozen_of_row w1 r 1 _ 24 H1.out.1
  go_wp2_with fail
  refine bodyPost_ret (v := .agg #[.int .i64 n, .slice none 0 0]) (by simp [results, Tryd.results14, go_sem, c0, c1]) rfl ⟨rfl, ?_⟩
  have h2 : w.heap.size ≤ r := HR.out
  exact (H1.out.2.bel.setCell (p := ⟨r, 0, none⟩) h2 _).setCell (p := ⟨r, 1, none⟩) h2 _
end Go.Proofs.YtopapmnoepnpcaaDoor
