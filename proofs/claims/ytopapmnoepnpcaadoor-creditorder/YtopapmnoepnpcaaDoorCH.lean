/- Contract of which of two amounts is greater. -/
import Derived.Test.YtopapmnoepnpcaaDoorCG
namespace Go.Proofs.YtopapmnoepnpcaaDoor
open Go.RowKit
attribute [local go_sem ↓] Go.wp_at_zero Go.wp_at_succ
/-- Two amounts in blocks. -/
structure Cm (w0 w : World) (p q : Nat) (x y x' y' : Value) : Prop where
  b1 : w.heap[p]? = some (.cells #[x, y] 24 (0, 0))
  b2 : w.heap[q]? = some (.cells #[x', y'] 24 (0, 0))
  bel : Below w0.heap.size w0 w
theorem Cm.below {w0 w w' : World} {p q : Nat} {x y x' y' : Value} (h : Cm w0 w p q x y x' y') (hb : Below w.heap.size w w') : Cm w0 w' p q x y x' y' :=
  ⟨(hb.block p (Array.getElem?_eq_some_iff.1 h.b1).1).trans h.b1, (hb.block q (Array.getElem?_eq_some_iff.1 h.b2).1).trans h.b2, h.bel.trans (hb.mono h.bel.size)⟩
theorem in_two (w : World) (x y : Int) : In (w.alloc (.cells #[.int .i64 x, .int .i64 y] 3)) (some ⟨w.heap.size, 0, none⟩) 2 [x, y] :=
  ⟨rfl, .inr ⟨_, _, rfl, by simp, fun j u hu => by rw [Nat.zero_add, cell_of_row _ w.heap.size j _ 3 (0, 0) (heap_alloc_new w _)]; simpa [i64s] using hu⟩⟩
theorem or_cmp (W V : Int) (A B : List Int) : orI (cmpI W V) (cmpL A B) = cmpA W A V B := by
  unfold orI cmpA
  by_cases e : W = V
  · subst e; simp [cmpI]
  · have : ¬ cmpI W V = 0 := by unfold cmpI; split <;> (try split) <;> omega
    simp [e, this]
set_option maxRecDepth 100000 in
set_option maxHeartbeats 8000000 in
theorem d12 (u v : Value) (W V : Int) (A B : List Int) (w : World) (hu : Am w u W A) (hv : Am w v V B) (hA : rightB W A = true) (hB : rightB V B = true) : Calls Tryd.prog 12 #[u, v] w fun e w' => e = .returned (.int .i64 (cmpA W A V B)) ∧ Below w.heap.size w w' := by
  have HU : Hid (Am w u W A) := hu
  have HV : Hid (Am w v V B) := hv
  obtain ⟨a, n, c, rfl, hI⟩ := hu.val
  obtain ⟨a', n', c', rfl, hI'⟩ := hv.val
  obtain ⟨U, hU⟩ : ∃ U, (w.alloc (.cells #[.int .i64 W, .slice a n c] 24)).alloc (.cells #[.int .i64 V, .slice a' n' c'] 24) = U := ⟨_, rfl⟩
  obtain ⟨p, hp⟩ : ∃ p, w.heap.size = p := ⟨_, rfl⟩
  obtain ⟨q, hq⟩ : ∃ q, p + 1 = q := ⟨_, rfl⟩
  have H0 : Hid (Cm w U p q (.int .i64 W) (.slice a n c) (.int .i64 V) (.slice a' n' c')) := by
    rw [← hU, ← hq, ← hp]
    have b1 : Below w.heap.size w (w.alloc (.cells #[.int .i64 W, .slice a n c] 24)) := (Below.refl _ w).alloc (Nat.le_refl _) _
    refine ⟨?_, ?_, b1.alloc b1.size _⟩
    · rw [heap_alloc_old _ _ (by simp)]; exact heap_alloc_new w _
    · have := heap_alloc_new (w.alloc (.cells #[.int .i64 W, .slice a n c] 24)) (.cells #[.int .i64 V, .slice a' n' c'] 24)
      simpa using this
  have H9 : Calls Tryd.prog 9 #[.agg #[.int .i64 W, .slice a n c]] U fun e w' => e = .returned (.bool true) ∧ Hid (Cm w w' p q (.int .i64 W) (.slice a n c) (.int .i64 V) (.slice a' n' c')) := (d9 _ W A U (HU.out.below H0.out.bel)).mono fun e w' ⟨h1, h2⟩ => ⟨by rw [h1, hA], H0.out.below h2⟩
  have H9' : Hid (∀ X, Hid (Cm w X p q (.int .i64 W) (.slice a n c) (.int .i64 V) (.slice a' n' c')) → Calls Tryd.prog 9 #[.agg #[.int .i64 V, .slice a' n' c']] X fun e w' => e = .returned (.bool true) ∧ Hid (Cm w w' p q (.int .i64 W) (.slice a n c) (.int .i64 V) (.slice a' n' c'))) := fun X hX => (d9 _ V B X (HV.out.below hX.out.bel)).mono fun e w' ⟨h1, h2⟩ => ⟨by rw [h1, hB], hX.out.below h2⟩
  have H24 : Hid (∀ X, Hid (Cm w X p q (.int .i64 W) (.slice a n c) (.int .i64 V) (.slice a' n' c')) → Calls Tryd.prog 24 #[.slice a n c, .slice a' n' c'] X fun e w' => e = .returned (.int .i64 (cmpL A B)) ∧ Hid (Cm w w' p q (.int .i64 W) (.slice a n c) (.int .i64 V) (.slice a' n' c'))) := fun X hX => (d24 a a' n c n' c' A B X (hI.i.below hX.out.bel) (hI'.i.below hX.out.bel) hI.max hI'.max).mono fun e w' ⟨h1, h2⟩ => ⟨h1, hX.out.below h2⟩
  have H23 : Hid (∀ X, Calls Tryd.prog 23 #[.int .i64 W, .int .i64 V] X fun e w' => e = .returned (.int .i64 (cmpI W V)) ∧ w' = X) := d23 W V
  have H22 : Hid (∀ X Y, Hid (Cm w Y p q (.int .i64 W) (.slice a n c) (.int .i64 V) (.slice a' n' c')) → X = Y.alloc (.cells #[.int .i64 (cmpI W V), .int .i64 (cmpL A B)] 3) → Calls Tryd.prog 22 #[.slice (some ⟨Y.heap.size, 0, none⟩) 2 2] X fun e w' => e = .returned (.int .i64 (cmpA W A V B)) ∧ Hid (Below w.heap.size w w')) := fun X Y hY hX => by
    subst hX
    refine (d22 _ _ _ _ (in_two Y _ _)).mono ?_
    rintro e w' ⟨rfl, h2⟩
    have h3 := hY.out.bel.alloc hY.out.bel.size (.cells #[.int .i64 (cmpI W V), .int .i64 (cmpL A B)] 3)
    rw [or_cmp]
    exact ⟨rfl, h3.trans (h2.mono h3.size)⟩
  obtain ⟨s0, s1⟩ := box2 H0.out.b1
  clear hu hv hI hI' hA hB
  generalize cmpA W A V B = R at *
  generalize cmpI W V = R1 at *
  generalize cmpL A B = R2 at *
  go_enter Tryd.func12, Tryd.ntmps12
  go_wp2_with fail
  refine H9.mono ?_
  rintro e w1 ⟨rfl, H1⟩
  clear H9 hU hp hq s0 s1 H0
  obtain ⟨t0, t1⟩ := box2 H1.out.b2
  go_wp2_with fail
  refine (H9'.out _ H1).mono ?_
  rintro e w2 ⟨rfl, H2⟩
  clear t0 t1 H1
  have HD : Hid (Cm w w2.drew p q (.int .i64 W) (.slice a n c) (.int .i64 V) (.slice a' n' c')) := H2.out.below ((Below.refl _ w2).drew)
  obtain ⟨s0, s1⟩ := box2 HD.out.b1
  obtain ⟨t0, t1⟩ := box2 HD.out.b2
  go_wp2_with fail
  go_region_with (first
    | (go_at_call 23; refine (H23.out _).mono ?_; rintro e w6 ⟨rfl, hw⟩; obtain rfl := hw.symm)
    | (go_at_call 24; refine (H24.out _ HD).mono ?_; rintro e w7 ⟨rfl, H7⟩; obtain ⟨x0, x1⟩ := box2 H7.out.b1; obtain ⟨y0, y1⟩ := box2 H7.out.b2)
    | (go_at_call 22; refine (H22.out _ _ H7 rfl).mono ?_; rintro e w8 ⟨rfl, H8⟩))
  all_goals (
    go_wp2_with fail
    go_ret
    exact ⟨rfl, H8.out⟩)
end Go.Proofs.YtopapmnoepnpcaaDoor
