/- Contract of step of what is being solved, where it binds, or is done. -/
import Derived.Test.YtljggjllijacjaaGreatDoorQAg
import Derived.Test.YtljggjllijacjaaGreatDoorU6g
import Derived.Test.YtljggjllijacjaaGreatDoorIKg
namespace Go.Proofs.YtljggjllijacjaaGreatDoor
open Go.RowKit
attribute [local go_sem ↓] Go.wp_at_zero Go.wp_at_succ
theorem ownRow_last {w : World} {B : Nat} {v : Value} {r : List (List C)} {E : List C} (h : OwnRow w B v (r ++ [E])) : ∃ g cap u, v = .slice (some ⟨g, 0, none⟩) (r.length + 1) cap ∧ r.length + 1 ≤ cap ∧ B ≤ g ∧ g < w.heap.size ∧ w.cell? ⟨g, r.length, none⟩ = some u ∧ OwnT w B u E ∧ OwnRow w B (.slice (some ⟨g, 0, none⟩) r.length cap) r := by
 obtain ⟨us, h1, h2, h3⟩ := h
 have hl : (r ++ [E]).length = r.length + 1 := by simp
 rw [hl] at h1
 have hul : us.length = r.length + 1 := by have := h1.1; omega
 rcases h1.2 with ⟨_, e⟩ | ⟨g, c, cur, e1, e2, e3, e4, e5, e6, e7⟩
 ·omega
 ·have hu : us[r.length]? = some us[r.length] := List.getElem?_eq_getElem (by omega)
  refine ⟨g, c, us[r.length], e1, e4, e2, (Array.getElem?_eq_some_iff.1 e3).1, ?_, h2 r.length _ E hu (by simp), us.take r.length, ⟨?_, .inr ⟨g, c, cur, rfl, e2, e3, by omega, e5, e6, ?_⟩⟩, ?_, ?_⟩
  ·have := range_of_owns' e3 e7 r.length _ hu
   simpa using this
  ·rw [List.length_take]; omega
  ·rw [← e7, List.take_take]; congr 1; omega
  ·intro j v x hv hx
   have hj : j < r.length := (List.getElem?_eq_some_iff.1 hx).1
   rw [List.getElem?_take_of_lt hj] at hv
   exact h2 j v x hv (by rw [List.getElem?_append_left hj]; exact hx)
  ·intro j j' x y g' hne hx hy
   have hj : j < r.length := by have := (List.getElem?_eq_some_iff.1 hx).1; rw [List.length_take] at this; omega
   have hj' : j' < r.length := by have := (List.getElem?_eq_some_iff.1 hy).1; rw [List.length_take] at this; omega
   rw [List.getElem?_take_of_lt hj] at hx
   rw [List.getElem?_take_of_lt hj'] at hy
   exact h3 j j' x y g' hne hx hy
/-- The record, its heap, its row. -/
structure Sv (w : World) (B sb hb M : Nat) (m : Hp) (nb : Nat) (st : Int) (r : List (List C)) : Prop where
 rec_ : ∃ bv rv n D V, SvAt w sb hb bv rv st ∧ (∃ xs, w.ownsRow B 73 3 bv nb xs) ∧ OwnRow w B rv r ∧ HpAt w hb M n D m ∧ n ≤ nb ∧ VB D V ∧ ∀ g, V g → g < w.heap.size ∧ g ≠ sb ∧ B ≤ g ∧ bv.ownBlock ≠ some g
 low : B ≤ sb ∧ B ≤ hb ∧ B ≤ M ∧ B ≤ w.heap.size
/-- The equation is one that can be stepped. -/
structure EqOk (E x y : List C) : Prop where
 eq : eqB E = true
 args : argsL E = [x, y]
 gx : globalB x = true
 gy : globalB y = true
 wx : ∀ c ∈ x, wfN (c.vn, c.vk)
 wy : ∀ c ∈ y, wfN (c.vn, c.vk)
 len : E.length ≤ maxLen
 txt : ∀ c ∈ E, c.t.size ≤ maxLen
theorem rowv_form' {w : World} {B e s n : Nat} {v : Value} {xs : List Value} (h : w.ownsRow B e s v n xs) : ∃ ad cap, v = .slice ad n cap := by
 rcases h.2 with ⟨h1, h2⟩ | ⟨g, c, cur, h1, _⟩
 ·exact ⟨none, 0, by rw [h1, h2]⟩
 ·exact ⟨_, _, h1⟩
theorem owns_blocks {w w' : World} {B e s m : Nat} {v : Value} {xs : List Value} (h : w.ownsRow B e s v m xs) (hk : ∀ (k : Nat) (cur : Array Value), w.heap[k]? = some (Obj.cells cur e (0, 0)) → w'.heap[k]? = w.heap[k]?) : w'.ownsRow B e s v m xs := by
 refine ⟨h.1, ?_⟩
 rcases h.2 with hh | ⟨g', cap, cu, e1, e2, e3, e4⟩
 ·exact .inl hh
 ·exact .inr ⟨g', cap, cu, e1, e2, (hk g' cu e3).trans e3, e4⟩
theorem ownRow_blocks {w w' : World} {B : Nat} {v : Value} {ls : List (List C)} (h : OwnRow w B v ls) (hk : ∀ (k : Nat) (cur : Array Value) (t : TypeId), t ≠ 104 → t ≠ 73 → w.heap[k]? = some (Obj.cells cur t (0, 0)) → w'.heap[k]? = w.heap[k]?) : OwnRow w' B v ls := by
 obtain ⟨us, h1, h2, h3⟩ := h
 exact ⟨us, owns_blocks h1 (fun k cur => hk k cur 24 (by decide) (by decide)), fun j v x hv hx => owns_blocks (h2 j v x hv hx) (fun k cur => hk k cur 78 (by decide) (by decide)), h3⟩
abbrev St49 (sb hb r0 : Nat) (X1 X2 : Int) (tv : Value) (W : World) : Prop := W.cell? ⟨sb, 4, none⟩ = some (.pointer (some ⟨hb, 0, none⟩)) ∧ W.cell? ⟨r0, 1, none⟩ = some (.int .i64 X1) ∧ W.cell? ⟨r0, 2, none⟩ = some (.int .i64 X2) ∧ W.cell? ⟨r0, 3, none⟩ = some tv
abbrev St49b (r0 : Nat) (X1 X2 : Int) (tv : Value) (W : World) : Prop := W.cell? ⟨r0, 1, none⟩ = some (.int .i64 X1) ∧ W.cell? ⟨r0, 2, none⟩ = some (.int .i64 X2) ∧ W.cell? ⟨r0, 3, none⟩ = some tv
set_option maxRecDepth 100000 in
set_option maxHeartbeats 4000000 in
theorem u49_b (B sb hb M nb : Nat) (m : Hp) (st : Int) (r : List (List C)) (E x y T : List C) (X : Nm) (w : World) (h : Sv w B sb hb M m nb st (r ++ [E])) (hE : EqOk E x y) (hS : Signs w) (hm : ∀ x l, lookH m x = some l → l.length * 48 ≤ 140737488355328 ∧ l ≠ [] ∧ rightB l = true)
  (hK : ∀ a b, IsFol m x a → IsFol m y b → stK a b = 2 ∧ stV a b = X ∧ stT a b = T) (hst : 0 ≤ st ∧ st ≤ 1000000) (hr : r.length ≤ 1000000) (hnb : nb ≤ 1000000) (hX : wfN X) (hT : rightB T = true ∧ ∀ c ∈ T, wfN (c.vn, c.vk)) (hTt : ∀ c ∈ T, c.t.size ≤ maxLen) :
  Calls Tryz.prog 60 #[.pointer (some ⟨sb, 0, none⟩)] w fun e w' => e = .returned (.bool true) ∧ Sv w' B sb hb M (bindH m X T) (nb + 1) (st + 1) r ∧ Below B w w' := by
 obtain ⟨⟨bv, rv, n, D, V, hs, ⟨xsb, hbv⟩, hrow, hhp, hnn, hVB, hV⟩, hlow⟩ := h
 obtain ⟨g, cap, u, hrv, hcap, hBg, hgw, hcu, hOE, hrow'⟩ := ownRow_last hrow
 subst hrv
 have hTE : TermAt w u E := ownT_term hOE hE.len hE.txt
 obtain ⟨i0, hi, hz, hsz0, hbyt⟩ := infoB
 have H6 := u6 E u w hTE hS
 have HS : Hid (SvAt w sb hb bv (.slice (some ⟨g, 0, none⟩) (r.length + 1) cap) st) := hs
 have hs0 := hs
 obtain ⟨x0, x1, x2, x3, x4, x5⟩ : w.cell? ⟨sb, 0, none⟩ = some (.int .u8 0) ∧ w.cell? ⟨sb, 1, none⟩ = some bv ∧ w.cell? ⟨sb, 2, none⟩ = some (.slice none 0 0) ∧ w.cell? ⟨sb, 3, none⟩ = some (.int .i64 st) ∧ w.cell? ⟨sb, 4, none⟩ = some (.pointer (some ⟨hb, 0, none⟩)) ∧ w.cell? ⟨sb, 5, none⟩ = some (.slice (some ⟨g, 0, none⟩) (r.length + 1) cap) := by
  refine ⟨?_, ?_, ?_, ?_, ?_, ?_⟩ <;> (rw [cell_of_row w sb _ _ 104 (0, 0) hs]; rfl)
 have hsbw : sb < w.heap.size := (Array.getElem?_eq_some_iff.1 hs).1
 obtain ⟨q, hq⟩ : ∃ q, r.length = q := ⟨_, rfl⟩
 rw [hq] at x5 hcap hcu HS
 have hq1 : ((q + 1 : Nat) : Int) - 1 = (q : Int) := by omega
 obtain ⟨ua, un, uc, huf⟩ : ∃ a b c, u = .slice a b c := by obtain ⟨a, c, e⟩ := hTE.form; exact ⟨_, _, _, e⟩
 subst huf
 go_enter Tryz.func60, Tryz.ntmps60
 go_wp2_with fail
 refine H6.mono ?_
 rintro e w1 hp6
 have hp6' : ∃ a b, e = .returned (.tuple #[a, b, .bool true]) ∧ OwnT w1 w.heap.size a x ∧ OwnT w1 w.heap.size b y ∧ Below w.heap.size w w1 := by
  rcases hp6 with ⟨h1, _⟩ | ⟨_, a, b, x', y', h2, h3, h4, h5, _, h6⟩
  ·rw [hE.eq] at h1; cases h1
  ·rw [hE.args] at h2
   simp only [List.cons.injEq, and_true] at h2
   obtain ⟨rfl, rfl⟩ := h2
   exact ⟨a, b, h3, h4, h5, h6⟩
 obtain ⟨a, b, rfl, hOa, hOb, hb1⟩ := hp6'
 have hmem : ∀ s ∈ argsL E, s.length ≤ 256 ∧ ∀ c ∈ s, c.t.size ≤ maxLen := fun s hs => ⟨(argsL_mem E s hs).1, fun c hc => hE.txt c ((argsL_mem E s hs).2 c hc)⟩
 rw [hE.args] at hmem
 have hTa : TermAt w1 a x := ownT_term hOa (by have := (hmem x (by simp)).1; unfold maxLen; omega) (hmem x (by simp)).2
 have hTb : TermAt w1 b y := ownT_term hOb (by have := (hmem y (by simp)).1; unfold maxLen; omega) (hmem y (by simp)).2
 have H14 := u14 m (.pointer (some ⟨hb, 0, none⟩)) x y a b w1 (.inr ⟨hb, M, n, D, rfl, hhp.below hb1⟩) hTa hTb hE.wx hE.wy (hS.below hb1) hE.gx hE.gy hm
 have H14 : Hid (Calls Tryz.prog 8 #[.pointer (some ⟨hb, 0, none⟩), a, b] w1 fun e w' => ∃ ad n c, e = .returned (.agg #[.int .u8 2, .int .i64 X.1, .int .i64 X.2, .slice ad n c, .slice none 0 0]) ∧ OwnT w' w1.heap.size (.slice ad n c) T ∧ Below w1.heap.size w1 w') := H14.mono fun e w' ⟨p, q, h1, h2, _, _, h3, h4⟩ => by
  obtain ⟨k1, k2, k3⟩ := hK p q h1 h2
  rcases h4 with ⟨h5, _⟩ | ⟨h5, _⟩ | ⟨_, ad, n, c, h6, h7⟩ | ⟨h5, _⟩
  ·rw [k1] at h5; cases h5
  ·rw [k1] at h5; cases h5
  ·rw [k2] at h6
   rw [k3] at h7
   exact ⟨ad, n, c, h6, h7, h3⟩
  ·rw [k1] at h5; cases h5
 have HB1 : Hid (Below w.heap.size w w1) := hb1
 obtain ⟨y0, y1, y2, y3, y4, y5⟩ : w1.cell? ⟨sb, 0, none⟩ = some (.int .u8 0) ∧ w1.cell? ⟨sb, 1, none⟩ = some bv ∧ w1.cell? ⟨sb, 2, none⟩ = some (.slice none 0 0) ∧ w1.cell? ⟨sb, 3, none⟩ = some (.int .i64 st) ∧ w1.cell? ⟨sb, 4, none⟩ = some (.pointer (some ⟨hb, 0, none⟩)) ∧ w1.cell? ⟨sb, 5, none⟩ = some (.slice (some ⟨g, 0, none⟩) (q + 1) cap) := by
  have e := (hb1.block sb hsbw).trans HS.out
  refine ⟨?_, ?_, ?_, ?_, ?_, ?_⟩ <;> (rw [cell_of_row w1 sb _ _ 104 (0, 0) e]; rfl)
 obtain ⟨aa, ac, haf⟩ := hTa.form
 obtain ⟨ba, bc, hbf⟩ := hTb.form
 have hsb1 : sb < w1.heap.size := by have := hb1.size; omega
 generalize x.length = lx at haf
 generalize y.length = ly at hbf
 subst haf hbf
 clear x0 x1 x2 x3 x4 x5 hTa hTb hOa hOb hb1 H6 hs hTE hOE hcu hp6
 go_wp2_with fail
 refine H14.out.mono ?_
 rintro e w2 ⟨ta, tn, tc, rfl, hOT, hb2⟩
 have HB2 : Hid (Below w.heap.size w w2) := HB1.out.trans (hb2.mono HB1.out.size)
 have HOT : Hid (OwnT w2 w.heap.size (.slice ta tn tc) T) := ownT_base hOT HB1.out.size
 obtain ⟨z0, z1, z2, z3, z4, z5⟩ : w2.cell? ⟨sb, 0, none⟩ = some (.int .u8 0) ∧ w2.cell? ⟨sb, 1, none⟩ = some bv ∧ w2.cell? ⟨sb, 2, none⟩ = some (.slice none 0 0) ∧ w2.cell? ⟨sb, 3, none⟩ = some (.int .i64 st) ∧ w2.cell? ⟨sb, 4, none⟩ = some (.pointer (some ⟨hb, 0, none⟩)) ∧ w2.cell? ⟨sb, 5, none⟩ = some (.slice (some ⟨g, 0, none⟩) (q + 1) cap) := by
  have e := (HB2.out.block sb hsbw).trans HS.out
  refine ⟨?_, ?_, ?_, ?_, ?_, ?_⟩ <;> (rw [cell_of_row w2 sb _ _ 104 (0, 0) e]; rfl)
 have fz : ∀ j, w2.frozen? ⟨sb, j, none⟩ = false := fun j => frozen_of_row w2 sb j _ 104 ((HB2.out.block sb hsbw).trans HS.out)
 have f1 := fz 1
 have f3 := fz 3
 have f5 := fz 5
 have hsb2 : sb < w2.heap.size := by have := hb2.size; omega
 have hst1 : 0 ≤ st := hst.1
 have hst2 : st ≤ 1000000 := hst.2
 have hqc : (q : Int) ≤ (cap : Int) := by omega
 clear y0 y1 y2 y3 y4 y5 hOT hb2 fz H14
 go_wp2_with fail
 have hcs : (w2.setCell ⟨sb, 3, none⟩ (.int .i64 (st + 1))).heap[sb]? = some (.cells #[.int .u8 0, bv, .slice none 0 0, .int .i64 (st + 1), .pointer (some ⟨hb, 0, none⟩), .slice (some ⟨g, 0, none⟩) (q + 1) cap] 104 (0, 0)) := by
  rw [heap_setCell_same w2 sb 3 _ 104 _ ((HB2.out.block sb hsbw).trans HS.out)]; rfl
 have hcs2 : ((w2.setCell ⟨sb, 3, none⟩ (.int .i64 (st + 1))).setCell ⟨sb, 5, none⟩ (.slice (some ⟨g, 0, none⟩) q cap)).heap[sb]? = some (.cells #[.int .u8 0, bv, .slice none 0 0, .int .i64 (st + 1), .pointer (some ⟨hb, 0, none⟩), .slice (some ⟨g, 0, none⟩) q cap] 104 (0, 0)) := by
  rw [heap_setCell_same _ sb 5 _ 104 _ hcs]; rfl
 have hoth : ∀ k, k ≠ sb → ((w2.setCell ⟨sb, 3, none⟩ (.int .i64 (st + 1))).setCell ⟨sb, 5, none⟩ (.slice (some ⟨g, 0, none⟩) q cap)).heap[k]? = w2.heap[k]? := fun k hk => (heap_setCell_other _ ⟨sb, 5, none⟩ k _ hk).trans (heap_setCell_other w2 ⟨sb, 3, none⟩ k _ hk)
 have hsz : ((w2.setCell ⟨sb, 3, none⟩ (.int .i64 (st + 1))).setCell ⟨sb, 5, none⟩ (.slice (some ⟨g, 0, none⟩) q cap)).heap.size = w2.heap.size := by simp
 have hbel : Below B w ((w2.setCell ⟨sb, 3, none⟩ (.int .i64 (st + 1))).setCell ⟨sb, 5, none⟩ (.slice (some ⟨g, 0, none⟩) q cap)) := ((HB2.out.mono hlow.2.2.2).setCell (p := ⟨sb, 3, none⟩) hlow.1 _).setCell (p := ⟨sb, 5, none⟩) hlow.1 _
 obtain ⟨W4, hW4⟩ : ∃ W4, ((w2.setCell ⟨sb, 3, none⟩ (.int .i64 (st + 1))).setCell ⟨sb, 5, none⟩ (.slice (some ⟨g, 0, none⟩) q cap)) = W4 := ⟨_, rfl⟩
 rw [hW4] at hcs2 hoth hsz hbel ⊢
 rw [← hsz]
 have hall : ∀ k, k < w.heap.size → k ≠ sb → (W4.alloc (.cells #[.int .u8 2, .int .i64 X.1, .int .i64 X.2, .slice ta tn tc, .slice none 0 0] 35)).heap[k]? = w.heap[k]? := fun k hkw hne => by
  have hz := HB2.out.size
  exact (heap_alloc_old W4 _ (by omega)).trans ((hoth k hne).trans (HB2.out.block k hkw))
 have hsame : ∀ (k : Nat) (cur : Array Value) (t : TypeId), t ≠ 104 → w.heap[k]? = some (Obj.cells cur t (0, 0)) → (W4.alloc (.cells #[.int .u8 2, .int .i64 X.1, .int .i64 X.2, .slice ta tn tc, .slice none 0 0] 35)).heap[k]? = w.heap[k]? := fun k cur t ht hk => by
  refine hall k (Array.getElem?_eq_some_iff.1 hk).1 ?_
  rintro rfl
  rw [hs0] at hk
  simp only [Option.some.injEq, Obj.cells.injEq] at hk
  exact ht hk.2.1.symm
 have hs5 : SvAt (W4.alloc (.cells #[.int .u8 2, .int .i64 X.1, .int .i64 X.2, .slice ta tn tc, .slice none 0 0] 35)) sb hb bv (.slice (some ⟨g, 0, none⟩) q cap) (st + 1) := (heap_alloc_old W4 _ (by omega)).trans hcs2
 have hMlt := hhp.map.lt
 have hMne : M ≠ sb := by
  rintro rfl
  obtain ⟨es, ck, k1, _⟩ := hhp.map
  rw [hs0] at k1
  simp at k1
 have hp5 : HpAt (W4.alloc (.cells #[.int .u8 2, .int .i64 X.1, .int .i64 X.2, .slice ta tn tc, .slice none 0 0] 35)) hb M n D m := hhp.keeps hVB (hsame hb _ 99 (by decide) hhp.blk) (hall M hMlt hMne) (fun g hg => hall g (hV g hg).1 (hV g hg).2.1)
 have hr5 : OwnRow (W4.alloc (.cells #[.int .u8 2, .int .i64 X.1, .int .i64 X.2, .slice ta tn tc, .slice none 0 0] 35)) B (.slice (some ⟨g, 0, none⟩) q cap) r := ownRow_blocks (by rw [← hq]; exact hrow') (fun k cur t h84 _ => hsame k cur t h84)
 have hb5 : (W4.alloc (.cells #[.int .u8 2, .int .i64 X.1, .int .i64 X.2, .slice ta tn tc, .slice none 0 0] 35)).ownsRow B 73 3 bv nb xsb := owns_blocks hbv (fun k cur => hsame k cur 73 (by decide))
 have hbel5 : Below B w (W4.alloc (.cells #[.int .u8 2, .int .i64 X.1, .int .i64 X.2, .slice ta tn tc, .slice none 0 0] 35)) := hbel.alloc (by have := HB2.out.size; have := hlow.2.2.2; omega) _
 have hc5 := heap_alloc_new W4 (.cells #[.int .u8 2, .int .i64 X.1, .int .i64 X.2, .slice ta tn tc, .slice none 0 0] 35)
 have hz5 : w.heap.size ≤ W4.heap.size ∧ (W4.alloc (.cells #[.int .u8 2, .int .i64 X.1, .int .i64 X.2, .slice ta tn tc, .slice none 0 0] 35)).heap.size = W4.heap.size + 1 := ⟨by have := HB2.out.size; omega, by simp⟩
 have ho5 : OwnT (W4.alloc (.cells #[.int .u8 2, .int .i64 X.1, .int .i64 X.2, .slice ta tn tc, .slice none 0 0] 35)) w.heap.size (.slice ta tn tc) T := owns_blocks HOT.out (fun k cur hk => by
  have hkw := (Array.getElem?_eq_some_iff.1 hk).1
  refine (heap_alloc_old W4 _ (by omega)).trans (hoth k ?_)
  rintro rfl
  rw [(HB2.out.block k hsbw).trans HS.out] at hk
  simp at hk)
 have hS5 : Signs (W4.alloc (.cells #[.int .u8 2, .int .i64 X.1, .int .i64 X.2, .slice ta tn tc, .slice none 0 0] 35)) := by
  refine ⟨by simp, fun j v hv => ?_⟩
  have e := hall 0 hS.1 (fun e0 => ?_)
  ·exact (World.cell?_of_block (a := ⟨0, 0 + j, none⟩) e).trans (hS.2 j v hv)
  ·have h2 := hS.2 0 _ rfl
   have h3 := hs0
   rw [← e0] at h3
   rw [cell_of_row w 0 _ _ 104 (0, 0) h3] at h2
   simp at h2
 obtain ⟨r0, hr0⟩ : ∃ r0, W4.heap.size = r0 := ⟨_, rfl⟩
 rw [hr0] at hc5 hz5 ⊢
 generalize (W4.alloc (.cells #[.int .u8 2, .int .i64 X.1, .int .i64 X.2, .slice ta tn tc, .slice none 0 0] 35)) = W5 at *
 clear hcs hcs2 hoth hsz hbel hsame hall hW4 hS HB2 HOT HB1 hhp hbv hrow hrow' HS hs0 z0 z1 z2 z3 z4 z5 f1 f3 f5
 have H33 : ∀ W, Hid (Below W5.heap.size W5 W) → Calls Tryz.prog 27 #[.pointer (some ⟨hb, 0, none⟩), .agg #[.int .i64 X.1, .int .i64 X.2], .slice ta tn tc] W fun e w' => e = .returned (.int .i64 (bindE m X T)) ∧ Hid (BindPost m X T hb M n D W w' ∧ Below W5.heap.size W5 W) := fun W hW => by
  have hTT : TermAt W (.slice ta tn tc) T := (ownT_term ho5 (by have := (right_len hT.1).2; unfold maxLen; omega) hTt).below hW.out
  exact (h11 m hb M n D X T _ W (hp5.below hW.out) hX hTT hT.2 (hS5.below hW.out) (by have := (right_len hT.1).2; omega) (by unfold maxLen; omega)).mono fun e w' ⟨k1, k2⟩ => ⟨k1, k2, hW.out⟩
 obtain ⟨t0, t1, t2, t3, t4⟩ : W5.cell? ⟨r0, 0, none⟩ = some (.int .u8 2) ∧ W5.cell? ⟨r0, 1, none⟩ = some (.int .i64 X.1) ∧ W5.cell? ⟨r0, 2, none⟩ = some (.int .i64 X.2) ∧ W5.cell? ⟨r0, 3, none⟩ = some (.slice ta tn tc) ∧ W5.cell? ⟨r0, 4, none⟩ = some (.slice none 0 0) := by
  refine ⟨?_, ?_, ?_, ?_, ?_⟩ <;> (rw [cell_of_row W5 r0 _ _ 35 (0, 0) hc5]; rfl)
 have v4 : W5.cell? ⟨sb, 4, none⟩ = some (.pointer (some ⟨hb, 0, none⟩)) := by rw [cell_of_row W5 sb 4 _ 104 (0, 0) hs5]; rfl
 obtain ⟨E33, hE33⟩ : ∃ E, bindE m X T = E := ⟨_, rfl⟩
 rw [hE33] at H33
 obtain ⟨X1, X2⟩ := X
 simp only at t1 t2 H33 ⊢
 have hS0 : St49 sb hb r0 X1 X2 (.slice ta tn tc) W5.drew := ⟨v4, t1, t2, t3⟩
 go_wp2_with fail
 refine wp_region_noPanic ?_
 refine wp_region_held_drew (S := fun u => St49 sb hb r0 X1 X2 (.slice ta tn tc) u) (by kernel_rfl) hS0 (fun hHeld => ?_)
 refine wpAnyH_take (i := 0) (v := ?_) (by simp only [qA, qB]; rfl) (by kernel_rfl) (by kernel_rfl) (by kernel_rfl) (fun _ _ _ h => h) (Or.inl ⟨by rfl, ?_⟩) (by assumption) ?_
 rotate_left
 ·(intro w hSw; (try dsimp only at hSw); go_simp <;> with_reducible rfl)
 try simp only [Act.put, qD, qE, qF]
 refine wpAnyH_take (i := 1) (v := ?_) (by simp only [qA, qB, qC]; rfl) (by kernel_rfl) (by kernel_rfl) (by kernel_rfl) (fun _ _ _ h => h) (Or.inl ⟨by rfl, ?_⟩) (by assumption) ?_
 rotate_left
 ·(intro w hSw; (try dsimp only at hSw); go_simp <;> with_reducible rfl)
 try simp only [Act.put, qD, qE, qF]
 refine wpAnyH_take (i := 2) (v := ?_) (by simp only [qA, qB, qC]; rfl) (by kernel_rfl) (by kernel_rfl) (by kernel_rfl) (fun _ _ _ h => h) (Or.inl ⟨by rfl, ?_⟩) (by assumption) ?_
 rotate_left
 ·(intro w hSw; (try dsimp only at hSw); go_simp <;> with_reducible rfl)
 try simp only [Act.put, qD, qE, qF]
 refine wpAnyH_take (i := 3) (v := ?_) (by simp only [qA, qB, qC]; rfl) (by kernel_rfl) (by kernel_rfl) (by kernel_rfl) (fun _ _ _ h => h) (Or.inl ⟨by rfl, ?_⟩) (by assumption) ?_
 rotate_left
 ·(intro w hSw; (try dsimp only at hSw); go_simp <;> with_reducible rfl)
 try simp only [Act.put, qD, qE, qF]
 refine wpAnyH_take (i := 4) (v := ?_) (by simp only [qA, qB, qC]; rfl) (by kernel_rfl) (by kernel_rfl) (by kernel_rfl) (fun _ _ _ h => h) (Or.inl ⟨by rfl, ?_⟩) (by assumption) ?_
 rotate_left
 ·(intro w hSw; (try dsimp only at hSw); go_simp <;> with_reducible rfl)
 try simp only [Act.put, qD, qE, qF]
 refine wpAnyH_take (i := 5) (v := ?_) (by simp only [qA, qB, qC]; rfl) (by kernel_rfl) (by kernel_rfl) (by kernel_rfl) (fun _ _ _ h => h) (Or.inl ⟨by rfl, ?_⟩) (by assumption) ?_
 rotate_left
 ·(intro w hSw; (try dsimp only at hSw); go_simp <;> with_reducible rfl)
 try simp only [Act.put, qD, qE, qF]
 refine wpAnyH_take (i := 6) (v := ?_) (by simp only [qA, qB, qC]; rfl) (by kernel_rfl) (by kernel_rfl) (by kernel_rfl) (fun _ _ _ h => h) (Or.inl ⟨by rfl, ?_⟩) (by assumption) ?_
 rotate_left
 ·(intro w hSw; (try dsimp only at hSw); go_simp <;> with_reducible rfl)
 try simp only [Act.put, qD, qE, qF]
 refine wpAnyH_take (i := 7) (v := ?_) (by simp only [qA, qB, qC]; rfl) (by kernel_rfl) (by kernel_rfl) (by kernel_rfl) (fun _ _ _ h => h) (Or.inl ⟨by rfl, ?_⟩) (by assumption) ?_
 rotate_left
 ·(intro w hSw; (try dsimp only at hSw); go_simp <;> with_reducible rfl)
 try simp only [Act.put, qD, qE, qF]
 refine wpAnyH_ready (rs := [8]) (by kernel_rfl) (by simp) ?_
 refine AllReadyH.cons (by simp only [qA, qB, qC]; rfl) (fun K hK => ?_) AllReadyH.nil
 go_simp
 go_at_call 27
 refine (H33 _ (Below.drew (Below.refl _ _))).mono ?_
 rintro e w6 ⟨rfl, HP6⟩
 have hk6 : (∀ k, k < W5.heap.size → k ≠ M → w6.heap[k]? = W5.heap[k]?) ∧ Below B W5 w6 ∧ W5.heap.size ≤ w6.heap.size := by
  obtain ⟨⟨n', D', _, _, kk, _⟩, kb⟩ := HP6.out
  have zb := kb.size
  refine ⟨fun k hk hne => (kk.2.2.2.2 k (by omega) hne).trans (kb.block k hk), ?_, Nat.le_trans zb kk.2.2.2.1⟩
  exact (kb.mono (by omega)).trans (kk.below hlow.2.2.1 (by omega))
 have hz66 := hk6.2.2
 have hr0M : r0 ≠ M := by omega
 have hsM : sb ≠ M := Ne.symm hMne
 have hS6 : St49b r0 X1 X2 (.slice ta tn tc) w6 := by
  have e := (hk6.1 r0 (by omega) hr0M).trans hc5
  refine ⟨?_, ?_, ?_⟩ <;> (rw [cell_of_row w6 r0 _ _ 35 (0, 0) e]; rfl)
 have hs6 : SvAt w6 sb hb bv (.slice (some ⟨g, 0, none⟩) q cap) (st + 1) := (hk6.1 sb (by omega) hsM).trans hs5
 have w4c : w6.cell? ⟨sb, 4, none⟩ = some (.pointer (some ⟨hb, 0, none⟩)) := by rw [cell_of_row w6 sb 4 _ 104 (0, 0) hs6]; rfl
 have w1c : w6.cell? ⟨sb, 1, none⟩ = some bv := by rw [cell_of_row w6 sb 1 _ 104 (0, 0) hs6]; rfl
 refine hK.out _ _ ?_ (fun hHeld => ?_)
 ·exact ⟨w4c, hS6.1, hS6.2.1, hS6.2.2⟩
 clear hK K
 try simp only [Act.put, qD, qE, qF]
 refine wpAnyH_done (by kernel_rfl) ?_ _
 refine NoPanic.normal ?_
 have hown6 : w6.ownsRow B 73 3 bv nb xsb := owns_blocks hb5 (fun k cur hk => hk6.1 k (Array.getElem?_eq_some_iff.1 hk).1 (fun e => by
  obtain ⟨es, ck, k1, _⟩ := hp5.map
  rw [e, k1] at hk
  simp at hk))
 have hkM : ∀ (k : Nat) (cur : Array Value) (t : TypeId), W5.heap[k]? = some (Obj.cells cur t (0, 0)) → w6.heap[k]? = W5.heap[k]? := fun k cur t hk => hk6.1 k (Array.getElem?_eq_some_iff.1 hk).1 (fun e => by
  obtain ⟨es, ck, k1, _⟩ := hp5.map
  rw [e, k1] at hk
  simp at hk)
 have hr6 : OwnRow w6 B (.slice (some ⟨g, 0, none⟩) q cap) r := ownRow_blocks hr5 (fun k cur t _ _ hk => hkM k cur t hk)
 have hbvt : ∀ z, bv.ownBlock = some z → ∃ cu, w6.heap[z]? = some (.cells cu 73 (0, 0)) := fun z hz => by
  rcases hown6.2 with ⟨h1, _⟩ | ⟨g', cap', cu, h1, h2, h3, h4⟩
  ·rw [h1] at hz; cases hz
  ·rw [h1] at hz
   simp only [Value.ownBlock, Option.some.injEq] at hz
   subst hz
   exact ⟨cu, h3⟩
 have hbv84 : ∀ z, bv.ownBlock = some z → z = sb → False := fun z hz e => by
  obtain ⟨cu, h⟩ := hbvt z hz
  rw [e, hs6] at h
  simp at h
 have hbv49 : ∀ z, bv.ownBlock = some z → z = r0 → False := fun z hz e => by
  obtain ⟨cu, h⟩ := hbvt z hz
  rw [e, (hk6.1 r0 (by omega) hr0M).trans hc5] at h
  simp at h
 have hbvlt : ∀ z, bv.ownBlock = some z → z < W5.heap.size ∧ B ≤ z := fun z hz => ⟨(hb5.lt z hz).2, (hb5.lt z hz).1⟩
 have HBV : Hid (∀ z, bv.ownBlock = some z → z < W5.heap.size ∧ B ≤ z) := hbvlt
 have HFIN : Hid (∀ W7 bv7 xs7, (∀ k, k < w6.heap.size → k ≠ sb → bv.ownBlock ≠ some k → W7.heap[k]? = w6.heap[k]?) → (bv7.ownBlock = bv.ownBlock ∨ ∃ z, bv7.ownBlock = some z ∧ w6.heap.size ≤ z) → w6.heap.size ≤ W7.heap.size → SvAt W7 sb hb bv7 (.slice (some ⟨g, 0, none⟩) q cap) (st + 1) → W7.ownsRow B 73 3 bv7 (nb + 1) xs7 → Below B w6 W7 → Sv W7 B sb hb M (bindH m (X1, X2) T) (nb + 1) (st + 1) r ∧ Below B w W7) := fun W7 bv7 xs7 k1 k5 k6 k2 k3 k4 => by
  obtain ⟨⟨n', D', b1, b2, b3, b4⟩, bb⟩ := HP6.out
  have hz6 := hk6.2.2
  have hty : ∀ (k : Nat) (cur : Array Value) (t : TypeId), t ≠ 104 → t ≠ 73 → w6.heap[k]? = some (Obj.cells cur t (0, 0)) → W7.heap[k]? = w6.heap[k]? := fun k cur t h84 h71 hk => by
   refine k1 k (Array.getElem?_eq_some_iff.1 hk).1 ?_ ?_
   ·rintro rfl
    rw [hs6] at hk
    simp only [Option.some.injEq, Obj.cells.injEq] at hk
    exact h84 hk.2.1.symm
   ·intro e
    rcases hown6.2 with ⟨h1, _⟩ | ⟨g', cap', cu, h1, h2, h3, h4⟩
    ·rw [h1] at e; cases e
    ·rw [h1] at e
     simp only [Value.ownBlock, Option.some.injEq] at e
     subst e
     rw [h3] at hk
     simp only [Option.some.injEq, Obj.cells.injEq] at hk
     exact h71 hk.2.1.symm
  have hM7 : W7.heap[M]? = w6.heap[M]? := by
   refine k1 M b1.map.lt (Ne.symm hsM) (fun e => ?_)
   rcases hown6.2 with ⟨h1, _⟩ | ⟨g', cap', cu, h1, h2, h3, h4⟩
   ·rw [h1] at e; cases e
   ·rw [h1] at e
    simp only [Value.ownBlock, Option.some.injEq] at e
    subst e
    obtain ⟨es, ck, c1, _⟩ := b1.map
    rw [h3] at c1
    simp at c1
  have hlen : ∀ x l, lookH (bindH m (X1, X2) T) x = some l → l ≠ [] := fun x l hl => (len_bind hm (by have := (right_len hT.1).2; omega) x l hl).2.1
  have hV' := vb_cut b1 hlen (b4 V hVB)
  have hVf : ∀ g, ((V g ∨ W5.drew.heap.size ≤ g) ∧ g < w6.heap.size) → g ≠ sb ∧ B ≤ g ∧ bv.ownBlock ≠ some g := fun g hg => by
   rcases hg.1 with h | h
   ·exact ⟨(hV g h).2.1, (hV g h).2.2.1, (hV g h).2.2.2⟩
   ·have h' : W5.heap.size ≤ g := h
    exact ⟨by omega, by omega, fun e => by have := (hbvlt g e).1; omega⟩
  refine ⟨⟨⟨bv7, _, n', D', _, k2, ⟨_, k3⟩, ownRow_blocks hr6 hty, b1.keeps hV' (hty hb _ 99 (by decide) (by decide) b1.blk) hM7 (fun g hg => k1 g hg.2 (hVf g hg).1 (hVf g hg).2.2), by omega, hV', fun g hg => ⟨by omega, (hVf g hg).1, (hVf g hg).2.1, fun e => ?_⟩⟩, hlow.1, hlow.2.1, hlow.2.2.1, by omega⟩, hbel5.trans (hk6.2.1.trans k4)⟩
  ·rcases k5 with h | ⟨z, h1, h2⟩
   ·rw [h] at e; exact (hVf g hg).2.2 e
   ·rw [h1] at e; cases e; omega
 have f1 : w6.frozen? ⟨sb, 1, none⟩ = false := frozen_of_row w6 sb 1 _ 104 hs6
 clear HP6 hk6 H33 hp5 hr5 hb5 ho5 hS5 hE hm hK hbel5
 go_wp2_with fail
 refine wp_region_noPanic ?_
 refine wp_region_held_drew (S := fun u => St49b r0 X1 X2 (.slice ta tn tc) u) (by kernel_rfl) (by exact hS6) (fun hHeld => ?_)
 have hsbl : sb < w6.drew.heap.size := (Array.getElem?_eq_some_iff.1 hs6).1
 have c1a : w6.drew.cell? ⟨sb, 1, none⟩ = some bv := w1c
 have HC1 : Hid (∀ ob : Obj, (w6.drew.alloc ob).cell? ⟨sb, 1, none⟩ = some bv) := fun ob => cell_alloc hsbl c1a
 have HRa : Hid (∀ ob : Obj, (w6.drew.alloc ob).ownsRow B 73 3 bv nb xsb) := fun ob => World.ownsRow.alloc (owns_low hown6 (Below.drew (Below.refl _ _))) ob
 have HD : Hid (∀ ob : Obj, Below w6.heap.size w6 (w6.drew.alloc ob) ∧ B ≤ w6.heap.size) := fun ob => ⟨(Below.drew (Below.refl _ _)).alloc (Nat.le_refl _) ob, by omega⟩
 have HSd : Hid (∀ ob : Obj, St49b r0 X1 X2 (.slice ta tn tc) (w6.drew.alloc ob)) := fun ob => by
  have hr6l : r0 < w6.drew.heap.size := by
   have hz : w6.drew.heap.size = w6.heap.size := rfl
   omega
  exact ⟨cell_alloc hr6l hS6.1, cell_alloc hr6l hS6.2.1, cell_alloc hr6l hS6.2.2⟩
 have HSz : Hid (w6.drew.heap.size = w6.heap.size) := rfl
 obtain ⟨bva, bvc, hbvf⟩ := rowv_form' hown6
 subst hbvf
 generalize w6.drew = WD at *
 refine wpAnyH_take (i := 0) (v := ?_) (by simp only [qA, qB]; rfl) (by kernel_rfl) (by kernel_rfl) (by kernel_rfl) (fun _ _ _ h => h) (Or.inl ⟨by rfl, ?_⟩) (by assumption) ?_
 rotate_left
 ·(intro w hSw; (try dsimp only at hSw); go_simp <;> with_reducible rfl)
 try simp only [Act.put, qD, qE, qF]
 refine wpAnyH_take (i := 1) (v := ?_) (by simp only [qA, qB, qC]; rfl) (by kernel_rfl) (by kernel_rfl) (by kernel_rfl) (fun _ _ _ h => h) (Or.inl ⟨by rfl, ?_⟩) (by assumption) ?_
 rotate_left
 ·(intro w hSw; (try dsimp only at hSw); go_simp <;> with_reducible rfl)
 try simp only [Act.put, qD, qE, qF]
 refine wpAnyH_take (i := 2) (v := ?_) (by simp only [qA, qB, qC]; rfl) (by kernel_rfl) (by kernel_rfl) (by kernel_rfl) (fun _ _ _ h => h) (Or.inl ⟨by rfl, ?_⟩) (by assumption) ?_
 rotate_left
 ·(intro w hSw; (try dsimp only at hSw); go_simp <;> with_reducible rfl)
 try simp only [Act.put, qD, qE, qF]
 refine wpAnyH_take (i := 3) (v := ?_) (by simp only [qA, qB, qC]; rfl) (by kernel_rfl) (by kernel_rfl) (by kernel_rfl) (fun _ _ _ h => h) (Or.inl ⟨by rfl, ?_⟩) (by assumption) ?_
 rotate_left
 ·(intro w hSw; (try dsimp only at hSw); go_simp <;> with_reducible rfl)
 try simp only [Act.put, qD, qE, qF]
 refine wpAnyH_take (i := 4) (v := ?_) (by simp only [qA, qB, qC]; rfl) (by kernel_rfl) (by kernel_rfl) (by kernel_rfl) (fun _ _ _ h => h) (Or.inl ⟨by rfl, ?_⟩) (by assumption) ?_
 rotate_left
 ·(intro w hSw; (try dsimp only at hSw); go_simp <;> with_reducible rfl)
 try simp only [Act.put, qD, qE, qF]
 refine wpAnyH_take (i := 6) (v := ?_) (by simp only [qA, qB, qC]; rfl) (by kernel_rfl) (by kernel_rfl) (by kernel_rfl) (fun _ _ _ h => h) (Or.inl ⟨by rfl, ?_⟩) (by assumption) ?_
 rotate_left
 ·(intro w hSw; (try dsimp only at hSw); go_simp <;> with_reducible rfl)
 try simp only [Act.put, qD, qE, qF]
 refine wpAnyH_take (i := 7) (v := ?_) (by simp only [qA, qB, qC]; rfl) (by kernel_rfl) (by kernel_rfl) (by kernel_rfl) (fun _ _ _ h => h) (Or.inl ⟨by rfl, ?_⟩) (by assumption) ?_
 rotate_left
 ·(intro w hSw; (try dsimp only at hSw); go_simp <;> with_reducible rfl)
 try simp only [Act.put, qD, qE, qF]
 refine wpAnyH_take (i := 8) (v := ?_) (by simp only [qA, qB, qC]; rfl) (by kernel_rfl) (by kernel_rfl) (by kernel_rfl) (fun _ _ _ h => h) (Or.inl ⟨by rfl, ?_⟩) (by assumption) ?_
 rotate_left
 ·(intro w hSw; (try dsimp only at hSw); go_simp <;> with_reducible rfl)
 try simp only [Act.put, qD, qE, qF]
 refine wpAnyH_take (i := 9) (v := ?_) (by simp only [qA, qB, qC]; rfl) (by kernel_rfl) (by kernel_rfl) (by kernel_rfl) (fun _ _ _ h => h) (Or.inl ⟨by rfl, ?_⟩) (by assumption) ?_
 rotate_left
 ·(intro w hSw; (try dsimp only at hSw); go_simp <;> with_reducible rfl)
 try simp only [Act.put, qD, qE, qF]
 refine wpAnyH_take (i := 10) (v := ?_) (by simp only [qA, qB, qC]; rfl) (by kernel_rfl) (by kernel_rfl) (by kernel_rfl) (fun _ _ _ h => h) (Or.inl ⟨by rfl, ?_⟩) (by assumption) ?_
 rotate_left
 ·(intro w hSw; (try dsimp only at hSw); go_simp <;> with_reducible rfl)
 try simp only [Act.put, qD, qE, qF]
 refine wpAnyH_ready (rs := [5, 11]) (by kernel_rfl) (by simp) ?_
 refine AllReadyH.cons (by simp only [qA, qB, qC]; rfl) (fun K hK => ?_) ?_
 ·skip
  go_simp
  refine hK.out _ _ ?_ (fun hHeld => ?_)
  ·exact hHeld
  clear hK K
  try simp only [Act.put, qD, qE, qF]
  refine wpAnyH_ready (rs := [11]) (by kernel_rfl) (by simp) ?_
  refine AllReadyH.cons (by simp only [qA, qB, qC]; rfl) (fun K hK => ?_) AllReadyH.nil
  go_simp
  refine hK.out _ _ ?_ (fun hHeld => ?_)
  ·exact HSd.out _
  clear hK K
  try simp only [Act.put, qD, qE, qF]
  refine wpAnyH_ready (rs := [12]) (by kernel_rfl) (by simp) ?_
  refine AllReadyH.cons (by simp only [qA, qB, qC]; rfl) (fun K hK => ?_) AllReadyH.nil
  refine stepH_append (by rfl) _ _ 22 (by rfl) B 73 i0 _ 3 40 Tryz.underlying22 hi hz hsz0 hbyt rfl (by decide) (.slice bva nb bvc) nb xsb (by rfl) (HRa.out _) ⟨WD.heap.size, 0, none⟩ 1 1 [.int .i64 X1, .int .i64 X2, .slice ta tn tc] (by rfl) (by rfl) (fun j u hu => by rw [Addr.add_mid]; exact range_new WD [.int .i64 X1, .int .i64 X2, .slice ta tn tc] 73 j u hu) (fun u hu => by simp at hu; rcases hu with rfl | rfl | rfl <;> rfl) (by unfold maxLen; omega) (by omega) (by have := (HD.out (.cells #[.int .i64 X1, .int .i64 X2, .slice ta tn tc] 73)).2; have := HSz.out; simp; omega) ?_
  intro v' w8 hown8 hgr8 hat8
  obtain ⟨g8, c8x, hv8⟩ := ownsRow_succ hown8
  subst hv8
  have hk8 : ∀ k, k < w6.heap.size → (Value.slice bva nb bvc).ownBlock ≠ some k → w8.heap[k]? = w6.heap[k]? := fun k hk hne => by
   have hz8 := HSz.out
   exact (hgr8.block k (by simp; omega) (fun e => hne e.symm)).trans ((HD.out (.cells #[.int .i64 X1, .int .i64 X2, .slice ta tn tc] 73)).1.block k hk)
  have hsb8 : w8.heap[sb]? = some (.cells #[.int .u8 0, .slice bva nb bvc, .slice none 0 0, .int .i64 (st + 1), .pointer (some ⟨hb, 0, none⟩), .slice (some ⟨g, 0, none⟩) q cap] 104 (0, 0)) := (hk8 sb (by have := HSz.out; omega) (fun e => hbv84 sb e rfl)).trans hs6
  have hr08 : St49b r0 X1 X2 (.slice ta tn tc) w8 := by
   have e := hk8 r0 (by have := HSz.out; omega) (fun e => hbv49 r0 e rfl)
   refine ⟨?_, ?_, ?_⟩
   ·exact (World.cell?_of_block (a := ⟨r0, 1, none⟩) e).trans hS6.1
   ·exact (World.cell?_of_block (a := ⟨r0, 2, none⟩) e).trans hS6.2.1
   ·exact (World.cell?_of_block (a := ⟨r0, 3, none⟩) e).trans hS6.2.2
  have c8 : w8.cell? ⟨sb, 1, none⟩ = some (.slice bva nb bvc) := by rw [cell_of_row w8 sb 1 _ 104 (0, 0) hsb8]; rfl
  have f8 : w8.frozen? ⟨sb, 1, none⟩ = false := frozen_of_row w8 sb 1 _ 104 hsb8
  have hr09 : St49b r0 X1 X2 (.slice ta tn tc) (w8.setCell ⟨sb, 1, none⟩ (.slice (some ⟨g8, 0, none⟩) (nb + 1) c8x)) := by
   have hne : r0 ≠ sb := by omega
   have e := heap_setCell_other w8 ⟨sb, 1, none⟩ r0 (.slice (some ⟨g8, 0, none⟩) (nb + 1) c8x) hne
   exact ⟨(World.cell?_of_block (a := ⟨r0, 1, none⟩) e).trans hr08.1, (World.cell?_of_block (a := ⟨r0, 2, none⟩) e).trans hr08.2.1, (World.cell?_of_block (a := ⟨r0, 3, none⟩) e).trans hr08.2.2⟩
  have HF : Hid (Sv (w8.setCell ⟨sb, 1, none⟩ (.slice (some ⟨g8, 0, none⟩) (nb + 1) c8x)) B sb hb M (bindH m (X1, X2) T) (nb + 1) (st + 1) r ∧ Below B w (w8.setCell ⟨sb, 1, none⟩ (.slice (some ⟨g8, 0, none⟩) (nb + 1) c8x))) := by
   have hz8 := hgr8.size
   have hzD := (HD.out (.cells #[.int .i64 X1, .int .i64 X2, .slice ta tn tc] 73)).1.size
   refine HFIN.out _ _ _ (fun k h1 h2 h3 => (heap_setCell_other w8 ⟨sb, 1, none⟩ k _ h2).trans (hk8 k h1 h3)) ?_ (by simp; omega) ?_ (owns_blocks hown8 (fun k cur hk => heap_setCell_other w8 ⟨sb, 1, none⟩ k _ (fun e => ?_))) ((((HD.out (.cells #[.int .i64 X1, .int .i64 X2, .slice ta tn tc] 73)).1.mono (HD.out (.cells #[.int .i64 X1, .int .i64 X2, .slice ta tn tc] 73)).2).grown hgr8 (by have := (HD.out (.cells #[.int .i64 X1, .int .i64 X2, .slice ta tn tc] 73)).2; omega) (fun z hz => (HBV.out z hz).2)).setCell (p := ⟨sb, 1, none⟩) hlow.1 _)
   ·rcases hat8 with h | h
    ·exact .inl h
    ·exact .inr ⟨_, h, by simp; have := HSz.out; omega⟩
   ·show _ = _
    rw [heap_setCell_same w8 sb 1 _ 104 _ hsb8]; rfl
   ·rw [e, hsb8] at hk
    simp at hk
  clear hown8 hgr8 hat8 hk8
  refine hK.out _ _ ?_ (fun hHeld => ?_)
  ·exact hr08
  clear hK K
  try simp only [Act.put, qD, qE, qF]
  refine wpAnyH_take (i := 13) (v := ?_) (by simp only [qA, qB, qC]; rfl) (by kernel_rfl) (by kernel_rfl) (by kernel_rfl) (fun _ _ _ h => h) (Or.inl ⟨by rfl, ?_⟩) (by assumption) ?_
  rotate_left
  ·(intro w hSw; (try dsimp only at hSw); go_simp <;> with_reducible rfl)
  try simp only [Act.put, qD, qE, qF]
  refine wpAnyH_take (i := 14) (v := ?_) (by simp only [qA, qB, qC]; rfl) (by kernel_rfl) (by kernel_rfl) (by kernel_rfl) (fun _ _ _ h => h) (Or.inl ⟨by rfl, ?_⟩) (by assumption) ?_
  rotate_left
  ·(intro w hSw; (try dsimp only at hSw); go_simp <;> with_reducible rfl)
  try simp only [Act.put, qD, qE, qF]
  refine wpAnyH_take (i := 15) (v := ?_) (by simp only [qA, qB, qC]; rfl) (by kernel_rfl) (by kernel_rfl) (by kernel_rfl) (fun _ _ _ h => h) (Or.inl ⟨by rfl, ?_⟩) (by assumption) ?_
  rotate_left
  ·(intro w hSw; (try dsimp only at hSw); go_simp <;> with_reducible rfl)
  try simp only [Act.put, qD, qE, qF]
  refine wpAnyH_ready (rs := [16]) (by kernel_rfl) (by simp) ?_
  refine AllReadyH.cons (by simp only [qA, qB, qC]; rfl) (fun K hK => ?_) AllReadyH.nil
  go_simp
  refine hK.out _ _ ?_ (fun hHeld => ?_)
  ·exact hr09
  clear hK K
  try simp only [Act.put, qD, qE, qF]
  refine wpAnyH_done (by kernel_rfl) ?_ _
  refine NoPanic.normal ?_
  go_wp2_with fail
  go_ret
  exact ⟨rfl, HF.out.1, HF.out.2⟩
 refine AllReadyH.cons (by simp only [qA, qB, qC]; rfl) (fun K hK => ?_) AllReadyH.nil
 go_simp
 refine hK.out _ _ ?_ (fun hHeld => ?_)
 ·exact HSd.out _
 clear hK K
 try simp only [Act.put, qD, qE, qF]
 refine wpAnyH_ready (rs := [5]) (by kernel_rfl) (by simp) ?_
 refine AllReadyH.cons (by simp only [qA, qB, qC]; rfl) (fun K hK => ?_) AllReadyH.nil
 have c1b := HC1.out (.cells #[.int .i64 X1, .int .i64 X2, .slice ta tn tc] 73)
 go_simp
 refine hK.out _ _ ?_ (fun hHeld => ?_)
 ·exact hHeld
 clear hK K
 try simp only [Act.put, qD, qE, qF]
 refine wpAnyH_ready (rs := [12]) (by kernel_rfl) (by simp) ?_
 refine AllReadyH.cons (by simp only [qA, qB, qC]; rfl) (fun K hK => ?_) AllReadyH.nil
 refine stepH_append (by rfl) _ _ 22 (by rfl) B 73 i0 _ 3 40 Tryz.underlying22 hi hz hsz0 hbyt rfl (by decide) (.slice bva nb bvc) nb xsb (by rfl) (HRa.out _) ⟨WD.heap.size, 0, none⟩ 1 1 [.int .i64 X1, .int .i64 X2, .slice ta tn tc] (by rfl) (by rfl) (fun j u hu => by rw [Addr.add_mid]; exact range_new WD [.int .i64 X1, .int .i64 X2, .slice ta tn tc] 73 j u hu) (fun u hu => by simp at hu; rcases hu with rfl | rfl | rfl <;> rfl) (by unfold maxLen; omega) (by omega) (by have := (HD.out (.cells #[.int .i64 X1, .int .i64 X2, .slice ta tn tc] 73)).2; have := HSz.out; simp; omega) ?_
 intro v' w8 hown8 hgr8 hat8
 obtain ⟨g8, c8x, hv8⟩ := ownsRow_succ hown8
 subst hv8
 have hk8 : ∀ k, k < w6.heap.size → (Value.slice bva nb bvc).ownBlock ≠ some k → w8.heap[k]? = w6.heap[k]? := fun k hk hne => by
  have hz8 := HSz.out
  exact (hgr8.block k (by simp; omega) (fun e => hne e.symm)).trans ((HD.out (.cells #[.int .i64 X1, .int .i64 X2, .slice ta tn tc] 73)).1.block k hk)
 have hsb8 : w8.heap[sb]? = some (.cells #[.int .u8 0, .slice bva nb bvc, .slice none 0 0, .int .i64 (st + 1), .pointer (some ⟨hb, 0, none⟩), .slice (some ⟨g, 0, none⟩) q cap] 104 (0, 0)) := (hk8 sb (by have := HSz.out; omega) (fun e => hbv84 sb e rfl)).trans hs6
 have hr08 : St49b r0 X1 X2 (.slice ta tn tc) w8 := by
  have e := hk8 r0 (by have := HSz.out; omega) (fun e => hbv49 r0 e rfl)
  refine ⟨?_, ?_, ?_⟩
  ·exact (World.cell?_of_block (a := ⟨r0, 1, none⟩) e).trans hS6.1
  ·exact (World.cell?_of_block (a := ⟨r0, 2, none⟩) e).trans hS6.2.1
  ·exact (World.cell?_of_block (a := ⟨r0, 3, none⟩) e).trans hS6.2.2
 have c8 : w8.cell? ⟨sb, 1, none⟩ = some (.slice bva nb bvc) := by rw [cell_of_row w8 sb 1 _ 104 (0, 0) hsb8]; rfl
 have f8 : w8.frozen? ⟨sb, 1, none⟩ = false := frozen_of_row w8 sb 1 _ 104 hsb8
 have hr09 : St49b r0 X1 X2 (.slice ta tn tc) (w8.setCell ⟨sb, 1, none⟩ (.slice (some ⟨g8, 0, none⟩) (nb + 1) c8x)) := by
  have hne : r0 ≠ sb := by omega
  have e := heap_setCell_other w8 ⟨sb, 1, none⟩ r0 (.slice (some ⟨g8, 0, none⟩) (nb + 1) c8x) hne
  exact ⟨(World.cell?_of_block (a := ⟨r0, 1, none⟩) e).trans hr08.1, (World.cell?_of_block (a := ⟨r0, 2, none⟩) e).trans hr08.2.1, (World.cell?_of_block (a := ⟨r0, 3, none⟩) e).trans hr08.2.2⟩
 have HF : Hid (Sv (w8.setCell ⟨sb, 1, none⟩ (.slice (some ⟨g8, 0, none⟩) (nb + 1) c8x)) B sb hb M (bindH m (X1, X2) T) (nb + 1) (st + 1) r ∧ Below B w (w8.setCell ⟨sb, 1, none⟩ (.slice (some ⟨g8, 0, none⟩) (nb + 1) c8x))) := by
  have hz8 := hgr8.size
  have hzD := (HD.out (.cells #[.int .i64 X1, .int .i64 X2, .slice ta tn tc] 73)).1.size
  refine HFIN.out _ _ _ (fun k h1 h2 h3 => (heap_setCell_other w8 ⟨sb, 1, none⟩ k _ h2).trans (hk8 k h1 h3)) ?_ (by simp; omega) ?_ (owns_blocks hown8 (fun k cur hk => heap_setCell_other w8 ⟨sb, 1, none⟩ k _ (fun e => ?_))) ((((HD.out (.cells #[.int .i64 X1, .int .i64 X2, .slice ta tn tc] 73)).1.mono (HD.out (.cells #[.int .i64 X1, .int .i64 X2, .slice ta tn tc] 73)).2).grown hgr8 (by have := (HD.out (.cells #[.int .i64 X1, .int .i64 X2, .slice ta tn tc] 73)).2; omega) (fun z hz => (HBV.out z hz).2)).setCell (p := ⟨sb, 1, none⟩) hlow.1 _)
  ·rcases hat8 with h | h
   ·exact .inl h
   ·exact .inr ⟨_, h, by simp; have := HSz.out; omega⟩
  ·show _ = _
   rw [heap_setCell_same w8 sb 1 _ 104 _ hsb8]; rfl
  ·rw [e, hsb8] at hk
   simp at hk
 clear hown8 hgr8 hat8 hk8
 refine hK.out _ _ ?_ (fun hHeld => ?_)
 ·exact hr08
 clear hK K
 try simp only [Act.put, qD, qE, qF]
 refine wpAnyH_take (i := 13) (v := ?_) (by simp only [qA, qB, qC]; rfl) (by kernel_rfl) (by kernel_rfl) (by kernel_rfl) (fun _ _ _ h => h) (Or.inl ⟨by rfl, ?_⟩) (by assumption) ?_
 rotate_left
 ·(intro w hSw; (try dsimp only at hSw); go_simp <;> with_reducible rfl)
 try simp only [Act.put, qD, qE, qF]
 refine wpAnyH_take (i := 14) (v := ?_) (by simp only [qA, qB, qC]; rfl) (by kernel_rfl) (by kernel_rfl) (by kernel_rfl) (fun _ _ _ h => h) (Or.inl ⟨by rfl, ?_⟩) (by assumption) ?_
 rotate_left
 ·(intro w hSw; (try dsimp only at hSw); go_simp <;> with_reducible rfl)
 try simp only [Act.put, qD, qE, qF]
 refine wpAnyH_take (i := 15) (v := ?_) (by simp only [qA, qB, qC]; rfl) (by kernel_rfl) (by kernel_rfl) (by kernel_rfl) (fun _ _ _ h => h) (Or.inl ⟨by rfl, ?_⟩) (by assumption) ?_
 rotate_left
 ·(intro w hSw; (try dsimp only at hSw); go_simp <;> with_reducible rfl)
 try simp only [Act.put, qD, qE, qF]
 refine wpAnyH_ready (rs := [16]) (by kernel_rfl) (by simp) ?_
 refine AllReadyH.cons (by simp only [qA, qB, qC]; rfl) (fun K hK => ?_) AllReadyH.nil
 go_simp
 refine hK.out _ _ ?_ (fun hHeld => ?_)
 ·exact hr09
 clear hK K
 try simp only [Act.put, qD, qE, qF]
 refine wpAnyH_done (by kernel_rfl) ?_ _
 refine NoPanic.normal ?_
 go_wp2_with fail
 go_ret
 exact ⟨rfl, HF.out.1, HF.out.2⟩
end Go.Proofs.YtljggjllijacjaaGreatDoor
