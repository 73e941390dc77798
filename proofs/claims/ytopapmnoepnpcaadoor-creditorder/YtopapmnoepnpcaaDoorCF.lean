/- Contract of both parts of an amount. -/
import Derived.Test.YtopapmnoepnpcaaDoorCE
namespace Go.Proofs.YtopapmnoepnpcaaDoor
open Go.RowKit
attribute [local go_sem ↓] Go.wp_at_zero Go.wp_at_succ
/-- An amount in a block, and two results that are zero. -/
structure Pt (w0 w : World) (p r q : Nat) (W : Int) (a : Option Addr) (n c : Nat) : Prop where
  box : w.heap[p]? = some (.cells #[.int .i64 W, .slice a n c] 24 (0, 0))
  r1 : w.heap[r]? = some (.cells #[.int .i64 0, .slice none 0 0] 24 (0, 0))
  r2 : w.heap[q]? = some (.cells #[.int .i64 0, .slice none 0 0] 24 (0, 0))
  bel : Below w0.heap.size w0 w
  hr : w0.heap.size ≤ r
  hq : w0.heap.size ≤ q
  ne : r ≠ q
section
variable {w0 w w' : World} {p r q : Nat} {W : Int} {a : Option Addr} {n c : Nat}
theorem Pt.below (h : Pt w0 w p r q W a n c) (hb : Below w.heap.size w w') : Pt w0 w' p r q W a n c :=
  ⟨(hb.block p (Array.getElem?_eq_some_iff.1 h.box).1).trans h.box, (hb.block r (Array.getElem?_eq_some_iff.1 h.r1).1).trans h.r1, (hb.block q (Array.getElem?_eq_some_iff.1 h.r2).1).trans h.r2, h.bel.trans (hb.mono h.bel.size), h.hr, h.hq, h.ne⟩
end
theorem pt_new (w : World) (W : Int) (a : Option Addr) (n c : Nat) : Pt w (((w.alloc (.cells #[.int .i64 W, .slice a n c] 24)).alloc (.cells #[.int .i64 0, .slice none 0 0] 24)).alloc (.cells #[.int .i64 0, .slice none 0 0] 24)) w.heap.size (w.heap.size + 1) (w.heap.size + 2) W a n c := by
  have b1 : Below w.heap.size w (w.alloc (.cells #[.int .i64 W, .slice a n c] 24)) := (Below.refl _ w).alloc (Nat.le_refl _) _
  have b2 := b1.alloc b1.size (.cells #[.int .i64 0, .slice none 0 0] 24)
  refine ⟨?_, ?_, ?_, b2.alloc b2.size _, by omega, by omega, by omega⟩
  · rw [heap_alloc_old _ _ (by simp; omega), heap_alloc_old _ _ (by simp)]; exact heap_alloc_new w _
  · rw [heap_alloc_old _ _ (by simp)]
    have := heap_alloc_new (w.alloc (.cells #[.int .i64 W, .slice a n c] 24)) (.cells #[.int .i64 0, .slice none 0 0] 24)
    simpa using this
  · have := heap_alloc_new ((w.alloc (.cells #[.int .i64 W, .slice a n c] 24)).alloc (.cells #[.int .i64 0, .slice none 0 0] 24)) (.cells #[.int .i64 0, .slice none 0 0] 24)
    simpa using this
/-- Two amounts behind a call. -/
def TwoE (e : Ending) (w w' : World) (P : (Int × List Int) × (Int × List Int)) : Prop :=
  ∃ a1 n1 c1 a2 n2 c2, e = .returned (.tuple #[.agg #[.int .i64 P.1.1, .slice a1 n1 c1], .agg #[.int .i64 P.2.1, .slice a2 n2 c2]]) ∧ Sl w' a1 n1 c1 P.1.2 ∧ Sl w' a2 n2 c2 P.2.2 ∧ Below w.heap.size w w' ∧ (∀ g, g < w.heap.size → blk a1 ≠ some g ∧ blk a2 ≠ some g)
theorem in_set {w : World} {a : Option Addr} {n : Nat} {B : List Int} (h : In w a n B) (p : Addr) (v : Value) (hne : blk a ≠ some p.block) : In (w.setCell p v) a n B :=
  ⟨h.len, by
    rcases h.mem with e | ⟨g, o, e, hl, hr⟩
    · exact .inl e
    · subst e
      exact .inr ⟨g, o, rfl, by simpa using hl, fun j u hu => by rw [cell_set_ne _ _ _ _ (fun e => hne (by simpa [blk] using e))]; exact hr j u hu⟩⟩
/-- What is stored into the results at the end. -/
structure Fin (w V' : World) (r q : Nat) (W1 : Int) (a1 : Option Addr) (n1 c1 : Nat) (B1 : List Int) (W2 : Int) (a2 : Option Addr) (n2 c2 : Nat) (B2 : List Int) : Prop where
  b1 : V'.heap[r]? = some (.cells #[.int .i64 W1, .slice a1 n1 c1] 24 (0, 0))
  b2 : V'.heap[q]? = some (.cells #[.int .i64 W2, .slice a2 n2 c2] 24 (0, 0))
  i1 : In V' a1 n1 B1
  i2 : In V' a2 n2 B2
  bel : Below w.heap.size w V'
section
variable {w V V' : World} {p r q n c n1 c1 n2 c2 : Nat} {W W1 W2 : Int} {a a1 a2 : Option Addr} {B1 B2 : List Int}
theorem fin_a (h : Pt w V p r q W a n c) (i1 : In V a1 n1 B1) (i2 : In V a2 n2 B2) (h1 : blk a1 ≠ some r ∧ blk a1 ≠ some q) (h2 : blk a2 ≠ some r ∧ blk a2 ≠ some q)
    (hV : (((V.setCell ⟨r, 0, none⟩ (.int .i64 W1)).setCell ⟨r, 1, none⟩ (.slice a1 n1 c1)).setCell ⟨q, 0, none⟩ (.int .i64 W2)).setCell ⟨q, 1, none⟩ (.slice a2 n2 c2) = V') : Fin w V' r q W1 a1 n1 c1 B1 W2 a2 n2 c2 B2 := by
  have e1 := heap_setCell_same V r 0 _ 24 (.int .i64 W1) h.r1
  have e2 := heap_setCell_same _ r 1 _ 24 (.slice a1 n1 c1) e1
  have f0 : ((V.setCell ⟨r, 0, none⟩ (.int .i64 W1)).setCell ⟨r, 1, none⟩ (.slice a1 n1 c1)).heap[q]? = some (.cells #[.int .i64 0, .slice none 0 0] 24 (0, 0)) := by
    rw [heap_setCell_other _ ⟨r, 1, none⟩ q _ (Ne.symm h.ne), heap_setCell_other _ ⟨r, 0, none⟩ q _ (Ne.symm h.ne)]; exact h.r2
  have f1 := heap_setCell_same _ q 0 _ 24 (.int .i64 W2) f0
  have f2 := heap_setCell_same _ q 1 _ 24 (.slice a2 n2 c2) f1
  rw [← hV]
  refine ⟨?_, f2, ?_, ?_, (((h.bel.setCell (p := ⟨r, 0, none⟩) h.hr _).setCell (p := ⟨r, 1, none⟩) h.hr _).setCell (p := ⟨q, 0, none⟩) h.hq _).setCell (p := ⟨q, 1, none⟩) h.hq _⟩
  · rw [heap_setCell_other _ ⟨q, 1, none⟩ r _ h.ne, heap_setCell_other _ ⟨q, 0, none⟩ r _ h.ne]; exact e2
  · exact in_set (in_set (in_set (in_set i1 _ _ h1.1) _ _ h1.1) _ _ h1.2) _ _ h1.2
  · exact in_set (in_set (in_set (in_set i2 _ _ h2.1) _ _ h2.1) _ _ h2.2) _ _ h2.2
theorem fin_b (h : Pt w V p r q W a n c) (i1 : In V a1 n1 B1) (i2 : In V a2 n2 B2) (h1 : blk a1 ≠ some r ∧ blk a1 ≠ some q) (h2 : blk a2 ≠ some r ∧ blk a2 ≠ some q)
    (hV : (((V.setCell ⟨q, 0, none⟩ (.int .i64 W2)).setCell ⟨q, 1, none⟩ (.slice a2 n2 c2)).setCell ⟨r, 0, none⟩ (.int .i64 W1)).setCell ⟨r, 1, none⟩ (.slice a1 n1 c1) = V') : Fin w V' r q W1 a1 n1 c1 B1 W2 a2 n2 c2 B2 := by
  have h' : Pt w V p q r W a n c := ⟨h.box, h.r2, h.r1, h.bel, h.hq, h.hr, Ne.symm h.ne⟩
  have := fin_a (W1 := W2) (W2 := W1) (c1 := c2) (c2 := c1) h' i2 i1 ⟨h2.2, h2.1⟩ ⟨h1.2, h1.1⟩ hV
  exact ⟨this.b2, this.b1, this.i2, this.i1, this.bel⟩
end
theorem wrap_mid (x : Int) (h1 : -1000000000000 ≤ x) (h2 : x ≤ 1000000000000) : IntKind.i64.wrap x = x := by
  simp only [IntKind.wrap, IntKind.bits, IntKind.signed]; simp; omega
theorem run_head (a : Option Addr) (n c k : Nat) (hk : k ≤ c) (W : World) : (Instr.slice 22 (.slice a n c) none (some (.int .i64 (k : Int))) none).run Tryd.prog W = .ok (.slice a k c) W := by
  obtain ⟨i0, hi, _⟩ := infoI64
  have h0 : (0 : Int) ≤ (k : Int) := by omega
  have h1 : (k : Int) ≤ (c : Int) := by omega
  have e : ∀ x : Addr, x.add 0 = x := fun x => by simp [Addr.add]
  cases a <;> simp [Instr.slice, run_underlying Tryd.underlying22, Instr.sliceBounds, run_sliceBound, sizeOf, typeInfo, hi, h0, h1, e]
theorem blk_none_ne (a : Option Addr) (h : a = none) (g : Nat) : blk a ≠ some g := by subst h; simp
set_option maxRecDepth 100000 in
set_option maxHeartbeats 4000000 in
theorem d16_one (a : Option Addr) (c : Nat) (w : World) : Calls Tryd.prog 16 #[.agg #[.int .i64 1, .slice a 0 c]] w fun e w' => TwoE e w w' ((0, [1]), (0, [1])) := by
  obtain ⟨U, hU⟩ : ∃ U, (((w.alloc (.cells #[.int .i64 1, .slice a 0 c] 24)).alloc (.cells #[.int .i64 0, .slice none 0 0] 24)).alloc (.cells #[.int .i64 0, .slice none 0 0] 24)) = U := ⟨_, rfl⟩
  obtain ⟨p, hp⟩ : ∃ p, w.heap.size = p := ⟨_, rfl⟩
  obtain ⟨r, hr⟩ : ∃ r, p + 1 = r := ⟨_, rfl⟩
  obtain ⟨q, hq⟩ : ∃ q, r + 1 = q := ⟨_, rfl⟩
  have H0 : Hid (Pt w U p r q 1 a 0 c) := by rw [← hU, ← hq, ← hr, ← hp]; exact pt_new w 1 a 0 c
  obtain ⟨s0, s1⟩ := box2 H0.out.box
  have H26 : Hid (∀ V, Pt w V p r q 1 a 0 c → Calls Tryd.prog 26 #[.int .i64 1] V fun e w' => ∃ g, e = .returned (.agg #[.int .i64 0, .slice (some ⟨g, 0, none⟩) 1 1]) ∧ Hid (In w' (some ⟨g, 0, none⟩) 1 [1] ∧ Pt w w' p r q 1 a 0 c ∧ Below V.heap.size V w' ∧ V.heap.size ≤ g)) := fun V hV => (d26 1 V).mono fun e w' ⟨g, h1, h2, h3, h4⟩ => ⟨g, h1, h2, hV.below h3, h3, h4⟩
  go_enter Tryd.func16, Tryd.ntmps16
  go_wp2_with fail
  refine (H26.out U H0.out).mono ?_
  rintro e w1 ⟨g1, rfl, H1⟩
  go_wp2_with fail
  refine (H26.out w1 H1.out.2.1).mono ?_
  rintro e w2 ⟨g2, rfl, H2⟩
  obtain ⟨V', hV'⟩ : ∃ V', (((w2.setCell ⟨r, 0, none⟩ (.int .i64 0)).setCell ⟨r, 1, none⟩ (.slice (some ⟨g1, 0, none⟩) 1 1)).setCell ⟨q, 0, none⟩ (.int .i64 0)).setCell ⟨q, 1, none⟩ (.slice (some ⟨g2, 0, none⟩) 1 1) = V' := ⟨_, rfl⟩
  have HF : Hid (Fin w V' r q 0 (some ⟨g1, 0, none⟩) 1 1 [1] 0 (some ⟨g2, 0, none⟩) 1 1 [1]) := by
    obtain ⟨x1, x2, x3, x4⟩ := H1.out
    obtain ⟨y1, y2, y3, y4⟩ := H2.out
    have l1 := (Array.getElem?_eq_some_iff.1 H0.out.r1).1
    have l2 := (Array.getElem?_eq_some_iff.1 H0.out.r2).1
    have := x3.size
    refine fin_a y2 (x1.below y3) y1 ⟨?_, ?_⟩ ⟨?_, ?_⟩ hV' <;> simp <;> omega
  obtain ⟨c0, c1⟩ := box2 H2.out.2.1.r1
  obtain ⟨d0, d1⟩ := box2 H2.out.2.1.r2
  have g0 := frozen_of_row w2 r 0 _ 24 H2.out.2.1.r1
  have g1' := frozen_of_row w2 r 1 _ 24 H2.out.2.1.r1
  have k0 := frozen_of_row w2 q 0 _ 24 H2.out.2.1.r2
  have k1 := frozen_of_row w2 q 1 _ 24 H2.out.2.1.r2
  have hne : ¬ q = r := Ne.symm H0.out.ne
  have hne' : ¬ r = q := H0.out.ne
  clear hU hp hr hq s0 s1
  have HG : Hid (∀ g, g < w.heap.size → blk (some (⟨g1, 0, none⟩ : Addr)) ≠ some g ∧ blk (some (⟨g2, 0, none⟩ : Addr)) ≠ some g) := fun g hg => by
    have t1 := H0.out.bel.size
    have t2 := H1.out.2.2.1.size
    have t3 := H1.out.2.2.2
    have t4 := H2.out.2.2.2
    simp
    omega
  go_wp2_with fail
  obtain ⟨z0, z1⟩ := box2 HF.out.b1
  obtain ⟨z2, z3⟩ := box2 HF.out.b2
  exact bodyPost_ret (v := .tuple #[.agg #[.int .i64 0, .slice (some ⟨g1, 0, none⟩) 1 1], .agg #[.int .i64 0, .slice (some ⟨g2, 0, none⟩) 1 1]]) (by simp [results, Tryd.results16, go_sem, z0, z1, z2, z3]) rfl ⟨_, _, _, _, _, _, rfl, ⟨HF.out.i1, by omega, by omega, fun e => (by cases e)⟩, ⟨HF.out.i2, by omega, by omega, fun e => (by cases e)⟩, HF.out.bel, HG.out⟩
set_option maxRecDepth 100000 in
set_option maxHeartbeats 4000000 in
theorem d16_units (W : Int) (a : Option Addr) (c : Nat) (w : World) (h2 : 2 ≤ W) (h3 : W ≤ 2147483647) : Calls Tryd.prog 16 #[.agg #[.int .i64 W, .slice a 0 c]] w fun e w' => TwoE e w w' ((W - 1, []), (1, [])) := by
  obtain ⟨U, hU⟩ : ∃ U, (((w.alloc (.cells #[.int .i64 W, .slice a 0 c] 24)).alloc (.cells #[.int .i64 0, .slice none 0 0] 24)).alloc (.cells #[.int .i64 0, .slice none 0 0] 24)) = U := ⟨_, rfl⟩
  obtain ⟨p, hp⟩ : ∃ p, w.heap.size = p := ⟨_, rfl⟩
  obtain ⟨r, hr⟩ : ∃ r, p + 1 = r := ⟨_, rfl⟩
  obtain ⟨q, hq⟩ : ∃ q, r + 1 = q := ⟨_, rfl⟩
  have H0 : Hid (Pt w U p r q W a 0 c) := by rw [← hU, ← hq, ← hr, ← hp]; exact pt_new w W a 0 c
  obtain ⟨s0, s1⟩ := box2 H0.out.box
  have H14 : Hid (∀ V m, Pt w V p r q W a 0 c → 0 ≤ m → m ≤ 2147483647 → Calls Tryd.prog 14 #[.int .i64 m] V fun e w' => e = .returned (.agg #[.int .i64 m, .slice none 0 0]) ∧ Hid (Pt w w' p r q W a 0 c)) := fun V m hV k0 k1 => (d14 m V k0 k1).mono fun e w' ⟨h1, h2⟩ => ⟨h1, hV.below h2⟩
  have hW1 : ¬ W = 1 := by omega
  go_enter Tryd.func16, Tryd.ntmps16
  go_wp2_with fail
  refine (H14.out U (W - 1) H0.out (by omega) (by omega)).mono ?_
  rintro e w1 ⟨rfl, H1⟩
  go_wp2_with fail
  refine (H14.out w1 1 H1.out (by omega) (by omega)).mono ?_
  rintro e w2 ⟨rfl, H2⟩
  obtain ⟨V', hV'⟩ : ∃ V', (((w2.setCell ⟨r, 0, none⟩ (.int .i64 (W - 1))).setCell ⟨r, 1, none⟩ (.slice none 0 0)).setCell ⟨q, 0, none⟩ (.int .i64 1)).setCell ⟨q, 1, none⟩ (.slice none 0 0) = V' := ⟨_, rfl⟩
  have HF : Hid (Fin w V' r q (W - 1) none 0 0 [] 1 none 0 0 []) := fin_a H2.out (in_nil _ _) (in_nil _ _) ⟨by simp, by simp⟩ ⟨by simp, by simp⟩ hV'
  obtain ⟨c0, c1⟩ := box2 H2.out.r1
  obtain ⟨d0, d1⟩ := box2 H2.out.r2
  have g0 := frozen_of_row w2 r 0 _ 24 H2.out.r1
  have g1' := frozen_of_row w2 r 1 _ 24 H2.out.r1
  have k0 := frozen_of_row w2 q 0 _ 24 H2.out.r2
  have k1 := frozen_of_row w2 q 1 _ 24 H2.out.r2
  have hne : ¬ q = r := Ne.symm H0.out.ne
  have hne' : ¬ r = q := H0.out.ne
  clear hU hp hr hq s0 s1
  go_wp2_with fail
  obtain ⟨z0, z1⟩ := box2 HF.out.b1
  obtain ⟨z2, z3⟩ := box2 HF.out.b2
  exact bodyPost_ret (v := .tuple #[.agg #[.int .i64 (W - 1), .slice none 0 0], .agg #[.int .i64 1, .slice none 0 0]]) (by simp [results, Tryd.results16, go_sem, z0, z1, z2, z3]) rfl ⟨_, _, _, _, _, _, rfl, ⟨HF.out.i1, by omega, by omega, fun _ => rfl⟩, ⟨HF.out.i2, by omega, by omega, fun _ => rfl⟩, HF.out.bel, fun g _ => ⟨by simp, by simp⟩⟩
set_option maxRecDepth 100000 in
set_option maxHeartbeats 4000000 in
theorem d16_bit (y : Int) (a : Option Addr) (c : Nat) (w : World) (hI : In w a 1 [y]) (h0 : 0 ≤ y) (h1 : y ≤ 1048576) : Calls Tryd.prog 16 #[.agg #[.int .i64 0, .slice a 1 c]] w fun e w' => TwoE e w w' ((0, [y + 1]), (0, [y + 1])) := by
  obtain ⟨U, hU⟩ : ∃ U, (((w.alloc (.cells #[.int .i64 0, .slice a 1 c] 24)).alloc (.cells #[.int .i64 0, .slice none 0 0] 24)).alloc (.cells #[.int .i64 0, .slice none 0 0] 24)) = U := ⟨_, rfl⟩
  obtain ⟨p, hp⟩ : ∃ p, w.heap.size = p := ⟨_, rfl⟩
  obtain ⟨r, hr⟩ : ∃ r, p + 1 = r := ⟨_, rfl⟩
  obtain ⟨q, hq⟩ : ∃ q, r + 1 = q := ⟨_, rfl⟩
  have H0 : Hid (Pt w U p r q 0 a 1 c) := by rw [← hU, ← hq, ← hr, ← hp]; exact pt_new w 0 a 1 c
  obtain ⟨s0, s1⟩ := box2 H0.out.box
  have H26 : Hid (∀ V, Pt w V p r q 0 a 1 c → Calls Tryd.prog 26 #[.int .i64 (y + 1)] V fun e w' => ∃ g, e = .returned (.agg #[.int .i64 0, .slice (some ⟨g, 0, none⟩) 1 1]) ∧ Hid (In w' (some ⟨g, 0, none⟩) 1 [y + 1] ∧ Pt w w' p r q 0 a 1 c ∧ Below V.heap.size V w' ∧ V.heap.size ≤ g)) := fun V hV => (d26 (y + 1) V).mono fun e w' ⟨g, h1, h2, h3, h4⟩ => ⟨g, h1, h2, hV.below h3, h3, h4⟩
  obtain ⟨b, o, hx, rfl, p0⟩ := hI.at (show 0 < 1 by omega)
  have HP : Hid (∀ V, Pt w V p r q 0 (some ⟨b, o, none⟩) 1 c → V.cell? ⟨b, o, none⟩ = some (.int .i64 y)) := fun V hV => by
    obtain ⟨b', o', _, e', p'⟩ := (hI.below hV.bel).at (show 0 < 1 by omega)
    cases e'
    simpa using p'
  clear p0 hI
  have u0 := HP.out U H0.out
  have HD : Hid (Pt w U.drew p r q 0 (some ⟨b, o, none⟩) 1 c) := H0.out.below ((Below.refl _ U).drew)
  have hne : ¬ q = r := Ne.symm H0.out.ne
  have hne' : ¬ r = q := H0.out.ne
  clear hx
  have hw : IntKind.i64.wrap (y + 1) = y + 1 := wrap_mid _ (by omega) (by omega)
  go_enter Tryd.func16, Tryd.ntmps16
  go_wp2_with fail
  clear hU hp hr hq
  go_region_with (go_at_call 26; first
    | (refine (H26.out _ HD.out).mono ?_; rintro e w6 ⟨g1, rfl, H6⟩
       obtain ⟨x0, x1⟩ := box2 H6.out.2.1.box
       have x2 := HP.out _ H6.out.2.1)
    | (refine (H26.out _ H6.out.2.1).mono ?_; rintro e w7 ⟨g2, rfl, H7⟩
       obtain ⟨c0, c1⟩ := box2 H7.out.2.1.r1
       obtain ⟨d0, d1⟩ := box2 H7.out.2.1.r2
       have z0 := frozen_of_row w7 r 0 _ 24 H7.out.2.1.r1
       have z1 := frozen_of_row w7 r 1 _ 24 H7.out.2.1.r1
       have k0 := frozen_of_row w7 q 0 _ 24 H7.out.2.1.r2
       have k1 := frozen_of_row w7 q 1 _ 24 H7.out.2.1.r2))
  all_goals (
    obtain ⟨V', hV'⟩ : ∃ V', (((w7.setCell ⟨r, 0, none⟩ (.int .i64 0)).setCell ⟨r, 1, none⟩ (.slice (some ⟨g1, 0, none⟩) 1 1)).setCell ⟨q, 0, none⟩ (.int .i64 0)).setCell ⟨q, 1, none⟩ (.slice (some ⟨g2, 0, none⟩) 1 1) = V' := ⟨_, rfl⟩
    have HF : Hid (Fin w V' r q 0 (some ⟨g1, 0, none⟩) 1 1 [y + 1] 0 (some ⟨g2, 0, none⟩) 1 1 [y + 1]) := by
      obtain ⟨x1, x2, x3, x4⟩ := H6.out
      obtain ⟨y1, y2, y3, y4⟩ := H7.out
      have l1 := (Array.getElem?_eq_some_iff.1 HD.out.r1).1
      have l2 := (Array.getElem?_eq_some_iff.1 HD.out.r2).1
      have := x3.size
      refine fin_a y2 (x1.below y3) y1 ⟨?_, ?_⟩ ⟨?_, ?_⟩ hV' <;> simp <;> omega
    have HG : Hid (∀ g, g < w.heap.size → blk (some (⟨g1, 0, none⟩ : Addr)) ≠ some g ∧ blk (some (⟨g2, 0, none⟩ : Addr)) ≠ some g) := fun g hg => by
      have t1 := HD.out.bel.size
      have t2 := H6.out.2.2.1.size
      have t3 := H6.out.2.2.2
      have t4 := H7.out.2.2.2
      simp
      omega
    rw [hV']
    clear hV'
    go_wp2_with fail
    obtain ⟨z0, z1⟩ := box2 HF.out.b1
    obtain ⟨z2, z3⟩ := box2 HF.out.b2
    exact bodyPost_ret (v := .tuple #[.agg #[.int .i64 0, .slice (some ⟨g1, 0, none⟩) 1 1], .agg #[.int .i64 0, .slice (some ⟨g2, 0, none⟩) 1 1]]) (by simp [results, Tryd.results16, go_sem, z0, z1, z2, z3]) rfl ⟨_, _, _, _, _, _, rfl, ⟨HF.out.i1, by omega, by omega, fun e => (by cases e)⟩, ⟨HF.out.i2, by omega, by omega, fun e => (by cases e)⟩, HF.out.bel, HG.out⟩)
end Go.Proofs.YtopapmnoepnpcaaDoor
