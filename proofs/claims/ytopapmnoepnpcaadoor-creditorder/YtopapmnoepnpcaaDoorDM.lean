/- CreditOrder. -/
import Derived.Test.YtopapmnoepnpcaaDoorDK
import Derived.Test.YtopapmnoepnpcaaDoorDG
namespace Go.Proofs.YtopapmnoepnpcaaDoor
open Go.RowKit
attribute [local go_sem ↓] Go.wp_at_zero Go.wp_at_succ
/-- An amount as it is handed on, and its Bits. -/
structure AD where
  W : Int
  a : Option Addr
  n : Nat
  c : Nat
  B : List Int
def Bx (w : World) (p : Nat) (x : AD) : Prop := w.heap[p]? = some (.cells #[.int .i64 x.W, .slice x.a x.n x.c] 24 (0, 0)) ∧ Sl w x.a x.n x.c x.B
theorem Bx.below {w w' : World} {p : Nat} {x : AD} (h : Bx w p x) (hb : Below w.heap.size w w') : Bx w' p x := ⟨(hb.block p (Array.getElem?_eq_some_iff.1 h.1).1).trans h.1, h.2.below hb⟩
theorem Bx.am {w : World} {p : Nat} {x : AD} (h : Bx w p x) : Am w (.agg #[.int .i64 x.W, .slice x.a x.n x.c]) x.W x.B := ⟨x.a, x.n, x.c, rfl, h.2⟩
/-- Three amounts in blocks. -/
def Tri (w0 w : World) (p r q : Nat) (x y z : AD) : Prop := Bx w p x ∧ Bx w r y ∧ Bx w q z ∧ Below w0.heap.size w0 w
theorem Tri.below {w0 w w' : World} {p r q : Nat} {x y z : AD} (h : Tri w0 w p r q x y z) (hb : Below w.heap.size w w') : Tri w0 w' p r q x y z := ⟨h.1.below hb, h.2.1.below hb, h.2.2.1.below hb, h.2.2.2.trans (hb.mono h.2.2.2.size)⟩
/-- And a fourth one. -/
def Tet (w0 w : World) (p r q s : Nat) (x y z u : AD) : Prop := Tri w0 w p r q x y z ∧ Bx w s u
theorem Tet.below {w0 w w' : World} {p r q s : Nat} {x y z u : AD} (h : Tet w0 w p r q s x y z u) (hb : Below w.heap.size w w') : Tet w0 w' p r q s x y z u := ⟨h.1.below hb, h.2.below hb⟩
abbrev TriS (w0 w : World) (p r q : Nat) (x y z : AD) : Prop :=
  w.cell? ⟨p, 0, none⟩ = some (.int .i64 x.W) ∧ w.cell? ⟨p, 1, none⟩ = some (.slice x.a x.n x.c) ∧ w.cell? ⟨r, 0, none⟩ = some (.int .i64 y.W) ∧ w.cell? ⟨r, 1, none⟩ = some (.slice y.a y.n y.c) ∧ w.cell? ⟨q, 0, none⟩ = some (.int .i64 z.W) ∧ w.cell? ⟨q, 1, none⟩ = some (.slice z.a z.n z.c) ∧ Hid (Tri w0 w p r q x y z)
abbrev TetS (w0 w : World) (p r q s : Nat) (x y z u : AD) : Prop :=
  w.cell? ⟨p, 0, none⟩ = some (.int .i64 x.W) ∧ w.cell? ⟨p, 1, none⟩ = some (.slice x.a x.n x.c) ∧ w.cell? ⟨r, 0, none⟩ = some (.int .i64 y.W) ∧ w.cell? ⟨r, 1, none⟩ = some (.slice y.a y.n y.c) ∧ w.cell? ⟨s, 0, none⟩ = some (.int .i64 u.W) ∧ w.cell? ⟨s, 1, none⟩ = some (.slice u.a u.n u.c) ∧ Hid (Tet w0 w p r q s x y z u)
section
variable {w0 w : World} {p r q s : Nat} {x y z u : AD}
theorem tris (h : Hid (Tri w0 w p r q x y z)) : TriS w0 w p r q x y z := ⟨(box2 h.out.1.1).1, (box2 h.out.1.1).2, (box2 h.out.2.1.1).1, (box2 h.out.2.1.1).2, (box2 h.out.2.2.1.1).1, (box2 h.out.2.2.1.1).2, h⟩
theorem tris_drew (h : Hid (Tri w0 w p r q x y z)) : TriS w0 w.drew p r q x y z := tris (h.out.below ((Below.refl _ w).drew))
theorem tris_get (h : TriS w0 w p r q x y z) : Hid (Tri w0 w p r q x y z) := h.2.2.2.2.2.2
theorem tets (h : Hid (Tet w0 w p r q s x y z u)) : TetS w0 w p r q s x y z u := ⟨(box2 h.out.1.1.1).1, (box2 h.out.1.1.1).2, (box2 h.out.1.2.1.1).1, (box2 h.out.1.2.1.1).2, (box2 h.out.2.1).1, (box2 h.out.2.1).2, h⟩
theorem tets_drew (h : Hid (Tet w0 w p r q s x y z u)) : TetS w0 w.drew p r q s x y z u := tets (h.out.below ((Below.refl _ w).drew))
theorem tets_get (h : TetS w0 w p r q s x y z u) : Hid (Tet w0 w p r q s x y z u) := h.2.2.2.2.2.2
end
theorem tri_new {w U : World} {p r q : Nat} {x y z : AD} (hU : ((w.alloc (.cells #[.int .i64 x.W, .slice x.a x.n x.c] 24)).alloc (.cells #[.int .i64 y.W, .slice y.a y.n y.c] 24)).alloc (.cells #[.int .i64 z.W, .slice z.a z.n z.c] 24) = U) (hp : w.heap.size = p) (hr : p + 1 = r) (hq : r + 1 = q)
    (hx : Sl w x.a x.n x.c x.B) (hy : Sl w y.a y.n y.c y.B) (hz : Sl w z.a z.n z.c z.B) : Tri w U p r q x y z := by
  subst hq hr hp
  have b1 : Below w.heap.size w (w.alloc (.cells #[.int .i64 x.W, .slice x.a x.n x.c] 24)) := (Below.refl _ w).alloc (Nat.le_refl _) _
  have b2 := b1.alloc b1.size (.cells #[.int .i64 y.W, .slice y.a y.n y.c] 24)
  have b3 := b2.alloc b2.size (.cells #[.int .i64 z.W, .slice z.a z.n z.c] 24)
  rw [hU] at b3
  have c1 : (w.alloc (.cells #[.int .i64 x.W, .slice x.a x.n x.c] 24)).heap[w.heap.size]? = some (.cells #[.int .i64 x.W, .slice x.a x.n x.c] 24 (0, 0)) := heap_alloc_new w _
  have c2 : ((w.alloc (.cells #[.int .i64 x.W, .slice x.a x.n x.c] 24)).alloc (.cells #[.int .i64 y.W, .slice y.a y.n y.c] 24)).heap[w.heap.size + 1]? = some (.cells #[.int .i64 y.W, .slice y.a y.n y.c] 24 (0, 0)) := by
    have := heap_alloc_new (w.alloc (.cells #[.int .i64 x.W, .slice x.a x.n x.c] 24)) (.cells #[.int .i64 y.W, .slice y.a y.n y.c] 24)
    simpa using this
  have c3 : U.heap[w.heap.size + 1 + 1]? = some (.cells #[.int .i64 z.W, .slice z.a z.n z.c] 24 (0, 0)) := by
    have := heap_alloc_new ((w.alloc (.cells #[.int .i64 x.W, .slice x.a x.n x.c] 24)).alloc (.cells #[.int .i64 y.W, .slice y.a y.n y.c] 24)) (.cells #[.int .i64 z.W, .slice z.a z.n z.c] 24)
    rw [← hU]
    simpa using this
  refine ⟨⟨?_, hx.below b3⟩, ⟨?_, hy.below b3⟩, ⟨c3, hz.below b3⟩, b3⟩
  · rw [← hU, heap_alloc_old _ _ (by simp; omega), heap_alloc_old _ _ (by simp)]; exact c1
  · rw [← hU, heap_alloc_old _ _ (by simp)]; exact c2
theorem amr_three (w : World) (x y z : AD) (s1 : Sl w x.a x.n x.c x.B) (s2 : Sl w y.a y.n y.c y.B) (s3 : Sl w z.a z.n z.c z.B) :
    AmR (w.alloc (.cells #[.int .i64 x.W, .slice x.a x.n x.c, .int .i64 y.W, .slice y.a y.n y.c, .int .i64 z.W, .slice z.a z.n z.c] 24)) (some ⟨w.heap.size, 0, none⟩) 3 [(x.W, x.B), (y.W, y.B), (z.W, z.B)] := by
  have hb : Below w.heap.size w (w.alloc (.cells #[.int .i64 x.W, .slice x.a x.n x.c, .int .i64 y.W, .slice y.a y.n y.c, .int .i64 z.W, .slice z.a z.n z.c] 24)) := (Below.refl _ w).alloc (Nat.le_refl _) _
  have hc := heap_alloc_new w (.cells #[.int .i64 x.W, .slice x.a x.n x.c, .int .i64 y.W, .slice y.a y.n y.c, .int .i64 z.W, .slice z.a z.n z.c] 24)
  refine ⟨rfl, fun i hi => ?_⟩
  have hl : w.heap.size < (w.alloc (.cells #[.int .i64 x.W, .slice x.a x.n x.c, .int .i64 y.W, .slice y.a y.n y.c, .int .i64 z.W, .slice z.a z.n z.c] 24)).heap.size := by simp
  match i, hi with
  | 0, _ => exact ⟨_, _, x.a, x.n, x.c, rfl, hl, by rw [cell_of_row _ w.heap.size _ _ 24 (0, 0) hc]; rfl, by rw [cell_of_row _ w.heap.size _ _ 24 (0, 0) hc]; rfl, s1.below hb⟩
  | 1, _ => exact ⟨_, _, y.a, y.n, y.c, rfl, hl, by rw [cell_of_row _ w.heap.size _ _ 24 (0, 0) hc]; rfl, by rw [cell_of_row _ w.heap.size _ _ 24 (0, 0) hc]; rfl, s2.below hb⟩
  | 2, _ => exact ⟨_, _, z.a, z.n, z.c, rfl, hl, by rw [cell_of_row _ w.heap.size _ _ 24 (0, 0) hc]; rfl, by rw [cell_of_row _ w.heap.size _ _ 24 (0, 0) hc]; rfl, s3.below hb⟩
/-- Sums of the same worth are the same. -/
theorem sum_like {l m : List Amt} {k k' W W' : Int} {B B' : List Int} (h : SumIs l k W B) (h' : SumIs m k' W' B') (hv : ∀ N : Nat, 1048576 ≤ N → valS N l = valS N m) : k' = k ∧ W = W' ∧ B = B' := by
  obtain ⟨N, hN⟩ : ∃ N : Nat, 1048576 ≤ N := ⟨1048576, Nat.le_refl _⟩
  have e := hv N hN
  rcases h with ⟨rfl, h1, h2⟩ | ⟨rfl, rfl, rfl, h2⟩ <;> rcases h' with ⟨rfl, h3, h4⟩ | ⟨rfl, rfl, rfl, h4⟩
  · exact ⟨rfl, val_inj N hN h1 h3 (by rw [h2 N hN, h4 N hN, e])⟩
  · have a1 := h2 N hN; have a2 := h4 N hN; have a3 := val_bd N hN h1; omega
  · have a1 := h2 N hN; have a2 := h4 N hN; have a3 := val_bd N hN h3; omega
  · exact ⟨rfl, rfl, rfl⟩
/-- A sum with more is greater; with nothing more it is the same. -/
theorem sum_cmp {x y : AD} {W : Int} {B : List Int} (h : SumIs [(x.W, x.B), (y.W, y.B)] 0 W B) (hx : rightB x.W x.B = true) (hy : rightB y.W y.B = true) : rightB W B = true ∧ ((cmpA W B x.W x.B = 0 ∧ zeroB y.W y.B.length = true) ∨ (cmpA W B x.W x.B = 1 ∧ zeroB y.W y.B.length = false)) := by
  obtain ⟨N, hN⟩ : ∃ N : Nat, 1048576 ≤ N := ⟨1048576, Nat.le_refl _⟩
  rcases h with ⟨_, h1, h2⟩ | ⟨h, _⟩
  · refine ⟨h1, ?_⟩
    have a1 := h2 N hN
    have a2 := val_bd N hN hy
    have a3 := val_zero N hN hy
    simp only [valS] at a1
    by_cases hz : val N y.W y.B = 0
    · obtain ⟨e1, e2⟩ := a3.1 hz
      refine .inl ⟨?_, by simp [zeroB, e1, e2]⟩
      rcases cmpA_val N hN W x.W B x.B h1 hx with ⟨_, e⟩ | ⟨e, _⟩ | ⟨_, e⟩
      · omega
      · exact e
      · omega
    · refine .inr ⟨?_, ?_⟩
      · rcases cmpA_val N hN W x.W B x.B h1 hx with ⟨_, e⟩ | ⟨_, e1, e2⟩ | ⟨e, _⟩
        · omega
        · rw [e1, e2] at a1; omega
        · exact e
      · cases hq : zeroB y.W y.B.length with
        | false => rfl
        | true =>
          simp only [zeroB, Bool.and_eq_true, decide_eq_true_eq] at hq
          exact absurd (a3.2 ⟨hq.1, List.length_eq_zero_iff.1 hq.2⟩) hz
  · cases h
/-- The order is one. -/
theorem cmp_pair {x y : AD} (hx : rightB x.W x.B = true) (hy : rightB y.W y.B = true) : (cmpA x.W x.B y.W y.B = -1 ∧ cmpA y.W y.B x.W x.B = 1 ∧ sameB x.W x.B y.W y.B = false) ∨ (cmpA x.W x.B y.W y.B = 0 ∧ cmpA y.W y.B x.W x.B = 0 ∧ sameB x.W x.B y.W y.B = true) ∨ (cmpA x.W x.B y.W y.B = 1 ∧ cmpA y.W y.B x.W x.B = -1 ∧ sameB x.W x.B y.W y.B = false) := by
  obtain ⟨N, hN⟩ : ∃ N : Nat, 1048576 ≤ N := ⟨1048576, Nat.le_refl _⟩
  rcases cmpA_val N hN x.W y.W x.B y.B hx hy with ⟨e1, e2⟩ | ⟨e1, e2, e3⟩ | ⟨e1, e2⟩ <;> rcases cmpA_val N hN y.W x.W y.B x.B hy hx with ⟨f1, f2⟩ | ⟨f1, f2, f3⟩ | ⟨f1, f2⟩
  · omega
  · rw [f2, f3] at e2; omega
  · refine .inl ⟨e1, f1, ?_⟩
    simp only [sameB, decide_eq_false_iff_not]
    rintro ⟨a, b⟩
    rw [a, b] at e2; omega
  · rw [e2, e3] at f2; omega
  · exact .inr (.inl ⟨e1, f1, by simp [sameB, e2, e3]⟩)
  · rw [e2, e3] at f2; omega
  · refine .inr (.inr ⟨e1, f1, ?_⟩)
    simp only [sameB, decide_eq_false_iff_not]
    rintro ⟨a, b⟩
    rw [a, b] at e2; omega
  · rw [f2, f3] at e2; omega
  · omega
theorem cmp_row {x y z : AD} (hx : rightB x.W x.B = true) (hy : rightB y.W y.B = true) (hz : rightB z.W z.B = true) : cmpA x.W x.B y.W y.B ≤ 0 → cmpA y.W y.B z.W z.B ≤ 0 → ¬ 0 < cmpA x.W x.B z.W z.B := by
  obtain ⟨N, hN⟩ : ∃ N : Nat, 1048576 ≤ N := ⟨1048576, Nat.le_refl _⟩
  intro h1 h2 h3
  have g1 : val N x.W x.B ≤ val N y.W y.B := by
    rcases cmpA_val N hN x.W y.W x.B y.B hx hy with ⟨_, e⟩ | ⟨_, e, f⟩ | ⟨e, _⟩
    · omega
    · rw [e, f]; exact Int.le_refl _
    · omega
  have g2 : val N y.W y.B ≤ val N z.W z.B := by
    rcases cmpA_val N hN y.W z.W y.B z.B hy hz with ⟨_, e⟩ | ⟨_, e, f⟩ | ⟨e, _⟩
    · omega
    · rw [e, f]; exact Int.le_refl _
    · omega
  rcases cmpA_val N hN x.W z.W x.B z.B hx hz with ⟨e, _⟩ | ⟨e, _⟩ | ⟨_, e⟩ <;> omega
set_option maxRecDepth 100000 in
set_option maxHeartbeats 16000000 in
theorem d4_w1 (x y z : AD) (w : World) (h : Sl w x.a x.n x.c x.B) (h1 : Sl w y.a y.n y.c y.B) (h2 : Sl w z.a z.n z.c z.B) (hT : Tb w) (gx : rightB x.W x.B = false) : Calls Tryd.prog 4 #[.agg #[.int .i64 x.W, .slice x.a x.n x.c], .agg #[.int .i64 y.W, .slice y.a y.n y.c], .agg #[.int .i64 z.W, .slice z.a z.n z.c]] w fun e w' => e = .returned (.bool true) ∧ Below w.heap.size w w' := by
  have HT : Hid (Tb w) := hT
  obtain ⟨p, hp⟩ : ∃ p, w.heap.size = p := ⟨_, rfl⟩
  obtain ⟨r, hr⟩ : ∃ r, p + 1 = r := ⟨_, rfl⟩
  obtain ⟨q, hq⟩ : ∃ q, r + 1 = q := ⟨_, rfl⟩
  obtain ⟨U, hU⟩ : ∃ U, ((w.alloc (.cells #[.int .i64 x.W, .slice x.a x.n x.c] 24)).alloc (.cells #[.int .i64 y.W, .slice y.a y.n y.c] 24)).alloc (.cells #[.int .i64 z.W, .slice z.a z.n z.c] 24) = U := ⟨_, rfl⟩
  have H0 : Hid (Tri w U p r q x y z) := tri_new hU hp hr hq h h1 h2
  have C7 : Hid (∀ V, Tri w V p r q x y z → Calls Tryd.prog 7 #[] V fun e w' => e = .returned (.bool true) ∧ Hid (Tri w w' p r q x y z)) := fun V hV => (d7 V (HT.out.below hV.2.2.2)).mono fun e w' ⟨h1, h2⟩ => ⟨h1, hV.below h2⟩
  have C9x : Hid (∀ V, Tri w V p r q x y z → Calls Tryd.prog 9 #[.agg #[.int .i64 x.W, .slice x.a x.n x.c]] V fun e w' => e = .returned (.bool false) ∧ Hid (Tri w w' p r q x y z)) := fun V hV => (d9 _ x.W x.B V hV.1.am).mono fun e w' ⟨h1, h2⟩ => ⟨by rw [h1, gx], hV.below h2⟩
  have C13x : Hid (∀ V, Tri w V p r q x y z → Calls Tryd.prog 13 #[.agg #[.int .i64 x.W, .slice x.a x.n x.c]] V fun e w' => e = .returned (.bool false) ∧ Hid (Tri w w' p r q x y z)) := fun V hV => (d13 _ x.W x.B V hV.1.am).mono fun e w' ⟨h1, h2⟩ => ⟨by rw [h1, gx], hV.below h2⟩
  clear h h1 h2 hT gx
  obtain ⟨m0, m1⟩ := box2 H0.out.1.1
  obtain ⟨m2, m3⟩ := box2 H0.out.2.1.1
  obtain ⟨m4, m5⟩ := box2 H0.out.2.2.1.1
  go_enter Tryd.func4, Tryd.ntmps4
  go_wp2_with fail
  refine (C9x.out _ H0.out).mono ?_
  rintro e w1 ⟨rfl, H1⟩
  clear m0 m1 m2 m3 m4 m5 H0 hU hp hr hq
  obtain ⟨m0, m1⟩ := box2 H1.out.1.1
  obtain ⟨m2, m3⟩ := box2 H1.out.2.1.1
  obtain ⟨m4, m5⟩ := box2 H1.out.2.2.1.1
  go_wp2_with fail
  refine (C7.out _ H1.out).mono ?_
  rintro e w2 ⟨rfl, H2⟩
  clear m0 m1 m2 m3 m4 m5 H1
  obtain ⟨m0, m1⟩ := box2 H2.out.1.1
  obtain ⟨m2, m3⟩ := box2 H2.out.2.1.1
  obtain ⟨m4, m5⟩ := box2 H2.out.2.2.1.1
  go_wp2_with fail
  refine (C13x.out _ H2.out).mono ?_
  rintro e w3 ⟨rfl, H3⟩
  clear m0 m1 m2 m3 m4 m5 H2
  obtain ⟨m0, m1⟩ := box2 H3.out.1.1
  obtain ⟨m2, m3⟩ := box2 H3.out.2.1.1
  obtain ⟨m4, m5⟩ := box2 H3.out.2.2.1.1
  go_wp2_with fail
  go_ret
  exact ⟨rfl, H3.out.2.2.2⟩
set_option maxRecDepth 100000 in
set_option maxHeartbeats 16000000 in
theorem d4_w2 (x y z : AD) (w : World) (h : Sl w x.a x.n x.c x.B) (h1 : Sl w y.a y.n y.c y.B) (h2 : Sl w z.a z.n z.c z.B) (hT : Tb w) (gx : rightB x.W x.B = true) (gy : rightB y.W y.B = false) : Calls Tryd.prog 4 #[.agg #[.int .i64 x.W, .slice x.a x.n x.c], .agg #[.int .i64 y.W, .slice y.a y.n y.c], .agg #[.int .i64 z.W, .slice z.a z.n z.c]] w fun e w' => e = .returned (.bool true) ∧ Below w.heap.size w w' := by
  have HT : Hid (Tb w) := hT
  obtain ⟨p, hp⟩ : ∃ p, w.heap.size = p := ⟨_, rfl⟩
  obtain ⟨r, hr⟩ : ∃ r, p + 1 = r := ⟨_, rfl⟩
  obtain ⟨q, hq⟩ : ∃ q, r + 1 = q := ⟨_, rfl⟩
  obtain ⟨U, hU⟩ : ∃ U, ((w.alloc (.cells #[.int .i64 x.W, .slice x.a x.n x.c] 24)).alloc (.cells #[.int .i64 y.W, .slice y.a y.n y.c] 24)).alloc (.cells #[.int .i64 z.W, .slice z.a z.n z.c] 24) = U := ⟨_, rfl⟩
  have H0 : Hid (Tri w U p r q x y z) := tri_new hU hp hr hq h h1 h2
  have C7 : Hid (∀ V, Tri w V p r q x y z → Calls Tryd.prog 7 #[] V fun e w' => e = .returned (.bool true) ∧ Hid (Tri w w' p r q x y z)) := fun V hV => (d7 V (HT.out.below hV.2.2.2)).mono fun e w' ⟨h1, h2⟩ => ⟨h1, hV.below h2⟩
  have C9x : Hid (∀ V, Tri w V p r q x y z → Calls Tryd.prog 9 #[.agg #[.int .i64 x.W, .slice x.a x.n x.c]] V fun e w' => e = .returned (.bool true) ∧ Hid (Tri w w' p r q x y z)) := fun V hV => (d9 _ x.W x.B V hV.1.am).mono fun e w' ⟨h1, h2⟩ => ⟨by rw [h1, gx], hV.below h2⟩
  have C13x : Hid (∀ V, Tri w V p r q x y z → Calls Tryd.prog 13 #[.agg #[.int .i64 x.W, .slice x.a x.n x.c]] V fun e w' => e = .returned (.bool true) ∧ Hid (Tri w w' p r q x y z)) := fun V hV => (d13 _ x.W x.B V hV.1.am).mono fun e w' ⟨h1, h2⟩ => ⟨by rw [h1, gx], hV.below h2⟩
  have C9y : Hid (∀ V, Tri w V p r q x y z → Calls Tryd.prog 9 #[.agg #[.int .i64 y.W, .slice y.a y.n y.c]] V fun e w' => e = .returned (.bool false) ∧ Hid (Tri w w' p r q x y z)) := fun V hV => (d9 _ y.W y.B V hV.2.1.am).mono fun e w' ⟨h1, h2⟩ => ⟨by rw [h1, gy], hV.below h2⟩
  have C13y : Hid (∀ V, Tri w V p r q x y z → Calls Tryd.prog 13 #[.agg #[.int .i64 y.W, .slice y.a y.n y.c]] V fun e w' => e = .returned (.bool false) ∧ Hid (Tri w w' p r q x y z)) := fun V hV => (d13 _ y.W y.B V hV.2.1.am).mono fun e w' ⟨h1, h2⟩ => ⟨by rw [h1, gy], hV.below h2⟩
  clear h h1 h2 hT gx gy
  obtain ⟨m0, m1⟩ := box2 H0.out.1.1
  obtain ⟨m2, m3⟩ := box2 H0.out.2.1.1
  obtain ⟨m4, m5⟩ := box2 H0.out.2.2.1.1
  go_enter Tryd.func4, Tryd.ntmps4
  go_wp2_with fail
  refine (C9x.out _ H0.out).mono ?_
  rintro e w1 ⟨rfl, H1⟩
  clear m0 m1 m2 m3 m4 m5 H0 hU hp hr hq
  obtain ⟨m0, m1⟩ := box2 H1.out.1.1
  obtain ⟨m2, m3⟩ := box2 H1.out.2.1.1
  obtain ⟨m4, m5⟩ := box2 H1.out.2.2.1.1
  go_wp2_with fail
  refine (C9y.out _ H1.out).mono ?_
  rintro e w2 ⟨rfl, H2⟩
  clear m0 m1 m2 m3 m4 m5 H1
  obtain ⟨m0, m1⟩ := box2 H2.out.1.1
  obtain ⟨m2, m3⟩ := box2 H2.out.2.1.1
  obtain ⟨m4, m5⟩ := box2 H2.out.2.2.1.1
  go_wp2_with fail
  refine (C7.out _ H2.out).mono ?_
  rintro e w3 ⟨rfl, H3⟩
  clear m0 m1 m2 m3 m4 m5 H2
  obtain ⟨m0, m1⟩ := box2 H3.out.1.1
  obtain ⟨m2, m3⟩ := box2 H3.out.2.1.1
  obtain ⟨m4, m5⟩ := box2 H3.out.2.2.1.1
  go_wp2_with fail
  refine (C13x.out _ H3.out).mono ?_
  rintro e w4 ⟨rfl, H4⟩
  clear m0 m1 m2 m3 m4 m5 H3
  obtain ⟨m0, m1⟩ := box2 H4.out.1.1
  obtain ⟨m2, m3⟩ := box2 H4.out.2.1.1
  obtain ⟨m4, m5⟩ := box2 H4.out.2.2.1.1
  go_wp2_with fail
  refine (C13y.out _ H4.out).mono ?_
  rintro e w5 ⟨rfl, H5⟩
  clear m0 m1 m2 m3 m4 m5 H4
  obtain ⟨m0, m1⟩ := box2 H5.out.1.1
  obtain ⟨m2, m3⟩ := box2 H5.out.2.1.1
  obtain ⟨m4, m5⟩ := box2 H5.out.2.2.1.1
  go_wp2_with fail
  go_ret
  exact ⟨rfl, H5.out.2.2.2⟩
set_option maxRecDepth 100000 in
set_option maxHeartbeats 16000000 in
theorem d4_w3 (x y z : AD) (w : World) (h : Sl w x.a x.n x.c x.B) (h1 : Sl w y.a y.n y.c y.B) (h2 : Sl w z.a z.n z.c z.B) (hT : Tb w) (gx : rightB x.W x.B = true) (gy : rightB y.W y.B = true) (gz : rightB z.W z.B = false) : Calls Tryd.prog 4 #[.agg #[.int .i64 x.W, .slice x.a x.n x.c], .agg #[.int .i64 y.W, .slice y.a y.n y.c], .agg #[.int .i64 z.W, .slice z.a z.n z.c]] w fun e w' => e = .returned (.bool true) ∧ Below w.heap.size w w' := by
  have HT : Hid (Tb w) := hT
  obtain ⟨p, hp⟩ : ∃ p, w.heap.size = p := ⟨_, rfl⟩
  obtain ⟨r, hr⟩ : ∃ r, p + 1 = r := ⟨_, rfl⟩
  obtain ⟨q, hq⟩ : ∃ q, r + 1 = q := ⟨_, rfl⟩
  obtain ⟨U, hU⟩ : ∃ U, ((w.alloc (.cells #[.int .i64 x.W, .slice x.a x.n x.c] 24)).alloc (.cells #[.int .i64 y.W, .slice y.a y.n y.c] 24)).alloc (.cells #[.int .i64 z.W, .slice z.a z.n z.c] 24) = U := ⟨_, rfl⟩
  have H0 : Hid (Tri w U p r q x y z) := tri_new hU hp hr hq h h1 h2
  have C7 : Hid (∀ V, Tri w V p r q x y z → Calls Tryd.prog 7 #[] V fun e w' => e = .returned (.bool true) ∧ Hid (Tri w w' p r q x y z)) := fun V hV => (d7 V (HT.out.below hV.2.2.2)).mono fun e w' ⟨h1, h2⟩ => ⟨h1, hV.below h2⟩
  have C9x : Hid (∀ V, Tri w V p r q x y z → Calls Tryd.prog 9 #[.agg #[.int .i64 x.W, .slice x.a x.n x.c]] V fun e w' => e = .returned (.bool true) ∧ Hid (Tri w w' p r q x y z)) := fun V hV => (d9 _ x.W x.B V hV.1.am).mono fun e w' ⟨h1, h2⟩ => ⟨by rw [h1, gx], hV.below h2⟩
  have C13x : Hid (∀ V, Tri w V p r q x y z → Calls Tryd.prog 13 #[.agg #[.int .i64 x.W, .slice x.a x.n x.c]] V fun e w' => e = .returned (.bool true) ∧ Hid (Tri w w' p r q x y z)) := fun V hV => (d13 _ x.W x.B V hV.1.am).mono fun e w' ⟨h1, h2⟩ => ⟨by rw [h1, gx], hV.below h2⟩
  have C9y : Hid (∀ V, Tri w V p r q x y z → Calls Tryd.prog 9 #[.agg #[.int .i64 y.W, .slice y.a y.n y.c]] V fun e w' => e = .returned (.bool true) ∧ Hid (Tri w w' p r q x y z)) := fun V hV => (d9 _ y.W y.B V hV.2.1.am).mono fun e w' ⟨h1, h2⟩ => ⟨by rw [h1, gy], hV.below h2⟩
  have C13y : Hid (∀ V, Tri w V p r q x y z → Calls Tryd.prog 13 #[.agg #[.int .i64 y.W, .slice y.a y.n y.c]] V fun e w' => e = .returned (.bool true) ∧ Hid (Tri w w' p r q x y z)) := fun V hV => (d13 _ y.W y.B V hV.2.1.am).mono fun e w' ⟨h1, h2⟩ => ⟨by rw [h1, gy], hV.below h2⟩
  have C9z : Hid (∀ V, Tri w V p r q x y z → Calls Tryd.prog 9 #[.agg #[.int .i64 z.W, .slice z.a z.n z.c]] V fun e w' => e = .returned (.bool false) ∧ Hid (Tri w w' p r q x y z)) := fun V hV => (d9 _ z.W z.B V hV.2.2.1.am).mono fun e w' ⟨h1, h2⟩ => ⟨by rw [h1, gz], hV.below h2⟩
  have C13z : Hid (∀ V, Tri w V p r q x y z → Calls Tryd.prog 13 #[.agg #[.int .i64 z.W, .slice z.a z.n z.c]] V fun e w' => e = .returned (.bool false) ∧ Hid (Tri w w' p r q x y z)) := fun V hV => (d13 _ z.W z.B V hV.2.2.1.am).mono fun e w' ⟨h1, h2⟩ => ⟨by rw [h1, gz], hV.below h2⟩
  clear h h1 h2 hT gx gy gz
  obtain ⟨m0, m1⟩ := box2 H0.out.1.1
  obtain ⟨m2, m3⟩ := box2 H0.out.2.1.1
  obtain ⟨m4, m5⟩ := box2 H0.out.2.2.1.1
  go_enter Tryd.func4, Tryd.ntmps4
  go_wp2_with fail
  refine (C9x.out _ H0.out).mono ?_
  rintro e w1 ⟨rfl, H1⟩
  clear m0 m1 m2 m3 m4 m5 H0 hU hp hr hq
  obtain ⟨m0, m1⟩ := box2 H1.out.1.1
  obtain ⟨m2, m3⟩ := box2 H1.out.2.1.1
  obtain ⟨m4, m5⟩ := box2 H1.out.2.2.1.1
  go_wp2_with fail
  refine (C9y.out _ H1.out).mono ?_
  rintro e w2 ⟨rfl, H2⟩
  clear m0 m1 m2 m3 m4 m5 H1
  obtain ⟨m0, m1⟩ := box2 H2.out.1.1
  obtain ⟨m2, m3⟩ := box2 H2.out.2.1.1
  obtain ⟨m4, m5⟩ := box2 H2.out.2.2.1.1
  go_wp2_with fail
  refine (C9z.out _ H2.out).mono ?_
  rintro e w3 ⟨rfl, H3⟩
  clear m0 m1 m2 m3 m4 m5 H2
  obtain ⟨m0, m1⟩ := box2 H3.out.1.1
  obtain ⟨m2, m3⟩ := box2 H3.out.2.1.1
  obtain ⟨m4, m5⟩ := box2 H3.out.2.2.1.1
  go_wp2_with fail
  refine (C7.out _ H3.out).mono ?_
  rintro e w4 ⟨rfl, H4⟩
  clear m0 m1 m2 m3 m4 m5 H3
  obtain ⟨m0, m1⟩ := box2 H4.out.1.1
  obtain ⟨m2, m3⟩ := box2 H4.out.2.1.1
  obtain ⟨m4, m5⟩ := box2 H4.out.2.2.1.1
  go_wp2_with fail
  refine (C13x.out _ H4.out).mono ?_
  rintro e w5 ⟨rfl, H5⟩
  clear m0 m1 m2 m3 m4 m5 H4
  obtain ⟨m0, m1⟩ := box2 H5.out.1.1
  obtain ⟨m2, m3⟩ := box2 H5.out.2.1.1
  obtain ⟨m4, m5⟩ := box2 H5.out.2.2.1.1
  go_wp2_with fail
  refine (C13y.out _ H5.out).mono ?_
  rintro e w6 ⟨rfl, H6⟩
  clear m0 m1 m2 m3 m4 m5 H5
  obtain ⟨m0, m1⟩ := box2 H6.out.1.1
  obtain ⟨m2, m3⟩ := box2 H6.out.2.1.1
  obtain ⟨m4, m5⟩ := box2 H6.out.2.2.1.1
  go_wp2_with fail
  refine (C13z.out _ H6.out).mono ?_
  rintro e w7 ⟨rfl, H7⟩
  clear m0 m1 m2 m3 m4 m5 H6
  obtain ⟨m0, m1⟩ := box2 H7.out.1.1
  obtain ⟨m2, m3⟩ := box2 H7.out.2.1.1
  obtain ⟨m4, m5⟩ := box2 H7.out.2.2.1.1
  go_wp2_with fail
  go_ret
  exact ⟨rfl, H7.out.2.2.2⟩
end Go.Proofs.YtopapmnoepnpcaaDoor
