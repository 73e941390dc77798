/- Contract of part: the step of two structures of one name and arity. -/
import Derived.Test.YtljggjllijacjaaGreatDoorU1g
namespace Go.Proofs.YtljggjllijacjaaGreatDoor
open Go.RowKit
attribute [local go_sem ↓] Go.wp_at_zero Go.wp_at_succ
/-- The equations of the arguments, and whether each can be made. -/
def partsL (xs ys : List (List C)) : List (List C) := (xs.zip ys).map fun p => makeL eqS [p.1, p.2]
def partsB (xs ys : List (List C)) : Bool := (xs.zip ys).all fun p => makeE eqS [p.1, p.2] == 0
theorem parts_get {xs ys : List (List C)} {k : Nat} (hx : k < xs.length) (hy : k < ys.length) : (partsL xs ys)[k]? = some (makeL eqS [xs[k], ys[k]]) := by
 unfold partsL
 rw [List.getElem?_map, List.getElem?_eq_getElem (by rw [List.length_zip]; omega), List.getElem_zip]; rfl
theorem parts_no {xs ys : List (List C)} {k : Nat} (hx : k < xs.length) (hy : k < ys.length) (h : makeE eqS [xs[k], ys[k]] ≠ 0) : partsB xs ys = false := by
 unfold partsB
 rw [List.all_eq_false]
 exact ⟨(xs[k], ys[k]), by rw [← List.getElem_zip (h := by rw [List.length_zip]; omega)]; exact List.getElem_mem _, by simpa using h⟩
theorem parts_yes {xs ys : List (List C)} (h : ∀ k (hx : k < xs.length) (hy : k < ys.length), makeE eqS [xs[k], ys[k]] = 0) : partsB xs ys = true := by
 unfold partsB
 rw [List.all_eq_true]
 intro p hp
 obtain ⟨j, hj, rfl⟩ := List.getElem_of_mem hp
 rw [List.length_zip] at hj
 rw [List.getElem_zip]
 simpa using h j (by omega) (by omega)
theorem parts_len (xs ys : List (List C)) (h : xs.length = ys.length) : (partsL xs ys).length = xs.length := by
 unfold partsL; rw [List.length_map, List.length_zip]; omega
theorem ownRow_base {w : World} {b b' : Nat} {u : Value} {ls : List (List C)} (h : OwnRow w b u ls) (hb : b' ≤ b) : OwnRow w b' u ls := by
 obtain ⟨us, h1, h2, h3⟩ := h
 refine ⟨us, ⟨h1.1, ?_⟩, fun j v x hv hx => ownT_base (h2 j v x hv hx) hb, h3⟩
 rcases h1.2 with hh | ⟨g, cap, cur, e1, e2, e3⟩
 ·exact .inl hh
 ·exact .inr ⟨g, cap, cur, e1, Nat.le_trans hb e2, e3⟩
theorem ownRow_low {w w' : World} {b : Nat} {u : Value} {ls : List (List C)} (h : OwnRow w b u ls) (hb : Below w.heap.size w w') : OwnRow w' b u ls := by
 obtain ⟨us, h1, h2, h3⟩ := h
 refine ⟨us, ⟨h1.1, ?_⟩, fun j v x hv hx => ownT_below (h2 j v x hv hx) hb, h3⟩
 rcases h1.2 with hh | ⟨g, cap, cur, e1, e2, e3, e4⟩
 ·exact .inl hh
 ·exact .inr ⟨g, cap, cur, e1, e2, (hb.block g (Array.getElem?_eq_some_iff.1 e3).1).trans e3, e4⟩
/-- The row of parts behind k of them. -/
structure PtAt (w0 : World) (g n k : Nat) (ls : List (List C)) (us : List Value) (wr : World) : Prop where
 len : us.length = k
 own : wr.ownsRow w0.heap.size 24 1 (.slice (some ⟨g, 0, none⟩) n n) n (us ++ List.replicate (n - k) (.slice none 0 0))
 each : ∀ (j : Nat) (u : Value) (x : List C), us[j]? = some u → ls[j]? = some x → OwnT wr w0.heap.size u x
 ap : Ap us
 bel : Below w0.heap.size w0 wr
theorem ownT_set {w : World} {b g k : Nat} {u x : Value} {l : List C} {cur : Array Value} (h : OwnT w b u l) (hg : w.heap[g]? = some (.cells cur 24 (0, 0))) : OwnT (w.setCell ⟨g, k, none⟩ x) b u l := by
 refine ⟨h.1, ?_⟩
 rcases h.2 with hh | ⟨g', cap, cu, e1, e2, e3, e4⟩
 ·exact .inl hh
 ·refine .inr ⟨g', cap, cu, e1, e2, (heap_setCell_other w ⟨g, k, none⟩ g' _ (fun e => ?_)).trans e3, e4⟩
  subst e
  rw [hg] at e3
  simp at e3
theorem owns_blk {w : World} {base e s m g n c : Nat} {xs : List Value} (h : w.ownsRow base e s (.slice (some ⟨g, 0, none⟩) n c) m xs) : ∃ cur, w.heap[g]? = some (.cells cur e (0, 0)) ∧ base ≤ g := by
 rcases h.2 with ⟨e1, _⟩ | ⟨g', cap, cu, e1, e2, e3, e4⟩
 ·simp at e1
 ·simp only [Value.slice.injEq, Option.some.injEq, Addr.mk.injEq, and_true] at e1
  obtain ⟨rfl, _⟩ := e1
  exact ⟨cu, e3, e2⟩
theorem owns_low {w w' : World} {base e s m : Nat} {v : Value} {xs : List Value} (h : w.ownsRow base e s v m xs) (hb : Below w.heap.size w w') : w'.ownsRow base e s v m xs := by
 refine ⟨h.1, ?_⟩
 rcases h.2 with hh | ⟨g', cap, cu, e1, e2, e3, e4⟩
 ·exact .inl hh
 ·exact .inr ⟨g', cap, cu, e1, e2, (hb.block g' (Array.getElem?_eq_some_iff.1 e3).1).trans e3, e4⟩
theorem PtAt.low {w0 w w' : World} {g n k : Nat} {ls : List (List C)} {us : List Value} (h : PtAt w0 g n k ls us w) (hb : Below w.heap.size w w') : PtAt w0 g n k ls us w' :=
 ⟨h.len, owns_low h.own hb, fun j u x h1 h2 => ownT_below (h.each j u x h1 h2) hb, h.ap, h.bel.trans (hb.mono h.bel.size)⟩
theorem PtAt.put {w0 w w' : World} {g n k : Nat} {ls : List (List C)} {us : List Value} (h : PtAt w0 g n k ls us w) (hb : Below w.heap.size w w') (hk : k < n) {u : Value} {x : List C} (hu : OwnT w' w.heap.size u x) (hx : ls[k]? = some x) : PtAt w0 g n (k + 1) ls (us ++ [u]) (w'.setCell ⟨g, k, none⟩ u) := by
 have h' := h.low hb
 obtain ⟨hs, hgr⟩ := h'.own.stored k u
 obtain ⟨cur, hg, hbg⟩ := owns_blk h'.own
 have hl := h.len
 have hkl : k < ls.length := (List.getElem?_eq_some_iff.1 hx).1
 refine ⟨by simp [hl], ?_, ?_, ?_, ?_⟩
 ·have e : (us ++ List.replicate (n - k) (Value.slice none 0 0)).set k u = (us ++ [u]) ++ List.replicate (n - (k + 1)) (.slice none 0 0) := by
   rw [List.set_append_right _ _ (by omega), hl, Nat.sub_self, show n - k = (n - (k + 1)) + 1 by omega, List.replicate_succ]
   simp
  rw [← e]; exact hs
 ·intro j v y h1 h2
  by_cases hj : j < us.length
  ·rw [List.getElem?_append_left hj] at h1
   exact ownT_set (h'.each j v y h1 h2) hg
  ·rw [List.getElem?_append_right (by omega)] at h1
   have h0 : j - us.length = 0 := by
    have := (List.getElem?_eq_some_iff.1 h1).1
    simp at this; omega
   rw [h0] at h1
   simp at h1
   subst h1
   obtain rfl : j = k := by omega
   rw [hx] at h2
   cases h2
   exact ownT_set (ownT_base hu h.bel.size) hg
 ·refine ap_snoc (n := w.heap.size) h.ap (fun j v g' hv hg' => ?_) (fun g' hg' => (World.ownsRow.lt hu g' hg').1)
  have hj : j < ls.length := by have := (List.getElem?_eq_some_iff.1 hv).1; omega
  exact (World.ownsRow.lt (h.each j v _ hv (List.getElem?_eq_getElem hj)) g' hg').2
 ·exact h'.bel.grown hgr h'.bel.size (fun g' hg' => by cases hg'; exact hbg)
/-- The result's own cells are as they were made. -/
def Fr (w wr : World) : Prop := Below (w.heap.size + 1) (w.alloc (.cells #[.int .u8 0, .int .i64 0, .int .i64 0, .slice none 0 0, .slice none 0 0] 35)) wr
theorem Fr.blk {w wr : World} (h : Fr w wr) : wr.heap[w.heap.size]? = some (.cells #[.int .u8 0, .int .i64 0, .int .i64 0, .slice none 0 0, .slice none 0 0] 35 (0, 0)) := by
 have h' : Below (w.heap.size + 1) (w.alloc (.cells #[.int .u8 0, .int .i64 0, .int .i64 0, .slice none 0 0, .slice none 0 0] 35)) wr := h
 exact (h'.block w.heap.size (by omega)).trans (heap_alloc_new w _)
theorem Fr.cells {w wr : World} (h : Fr w wr) : (wr.cell? ⟨w.heap.size, 0, none⟩ = some (.int .u8 0) ∧ wr.cell? ⟨w.heap.size, 1, none⟩ = some (.int .i64 0) ∧ wr.cell? ⟨w.heap.size, 2, none⟩ = some (.int .i64 0) ∧ wr.cell? ⟨w.heap.size, 3, none⟩ = some (.slice none 0 0) ∧ wr.cell? ⟨w.heap.size, 4, none⟩ = some (.slice none 0 0)) ∧ ∀ j, wr.frozen? ⟨w.heap.size, j, none⟩ = false := by
 have hb := h.blk
 refine ⟨⟨?_, ?_, ?_, ?_, ?_⟩, fun j => frozen_of_row wr _ j _ 35 hb⟩ <;> (rw [cell_of_row wr _ _ _ 35 (0, 0) hb]; rfl)
theorem Fr.low {w wr w' : World} (h : Fr w wr) (hb : Below wr.heap.size wr w') : Fr w w' := Below.trans h (hb.mono (by have := Below.size h; simp at this; omega))
theorem Fr.bel {w wr : World} (h : Fr w wr) : Below w.heap.size w wr := ((Below.refl w.heap.size w).alloc (Nat.le_refl _) _).trans (Below.mono h (by omega))
/-- A result is written. -/
def put49 (w : World) (g : Nat) (a b c d e : Value) : World := ((((w.setCell ⟨g, 0, none⟩ a).setCell ⟨g, 1, none⟩ b).setCell ⟨g, 2, none⟩ c).setCell ⟨g, 3, none⟩ d).setCell ⟨g, 4, none⟩ e
theorem put49_other (w : World) (g : Nat) (a b c d e : Value) (k : Nat) (hk : k ≠ g) : (put49 w g a b c d e).heap[k]? = w.heap[k]? :=
 (heap_setCell_other _ ⟨g, 4, none⟩ k e hk).trans ((heap_setCell_other _ ⟨g, 3, none⟩ k d hk).trans ((heap_setCell_other _ ⟨g, 2, none⟩ k c hk).trans ((heap_setCell_other _ ⟨g, 1, none⟩ k b hk).trans (heap_setCell_other w ⟨g, 0, none⟩ k a hk))))
theorem put49_bel {w0 w : World} {g : Nat} (h : Below w0.heap.size w0 w) (hg : w0.heap.size ≤ g) (a b c d e : Value) : Below w0.heap.size w0 (put49 w g a b c d e) :=
 ((((h.setCell (p := ⟨g, 0, none⟩) hg a).setCell (p := ⟨g, 1, none⟩) hg b).setCell (p := ⟨g, 2, none⟩) hg c).setCell (p := ⟨g, 3, none⟩) hg d).setCell (p := ⟨g, 4, none⟩) hg e
theorem put49_owns {w : World} {g base e s m : Nat} {v : Value} {xs : List Value} {cur : Array Value} (h : w.ownsRow base e s v m xs) (hg : w.heap[g]? = some (.cells cur 35 (0, 0))) (he : e ≠ 35) (a b c d f : Value) : (put49 w g a b c d f).ownsRow base e s v m xs := by
 refine ⟨h.1, ?_⟩
 rcases h.2 with hh | ⟨g', cap, cu, e1, e2, e3, e4⟩
 ·exact .inl hh
 ·refine .inr ⟨g', cap, cu, e1, e2, (put49_other w g a b c d f g' (fun e => ?_)).trans e3, e4⟩
  subst e
  rw [hg] at e3
  simp at e3
  exact he e3.2.symm
theorem put49_row {w : World} {g base : Nat} {u : Value} {ls : List (List C)} {cur : Array Value} (h : OwnRow w base u ls) (hg : w.heap[g]? = some (.cells cur 35 (0, 0))) (a b c d f : Value) : OwnRow (put49 w g a b c d f) base u ls := by
 obtain ⟨us, h1, h2, h3⟩ := h
 exact ⟨us, put49_owns h1 hg (by decide) _ _ _ _ _, fun j v x hv hx => put49_owns (h2 j v x hv hx) hg (by decide) _ _ _ _ _, h3⟩
/-- What part tells. -/
def PtPost (a b : List C) (e : Ending) (w w' : World) : Prop :=
 Below w.heap.size w w' ∧ ((partsB (argsL a) (argsL b) = false ∧ e = .returned (.agg #[.int .u8 4, .int .i64 0, .int .i64 0, .slice none 0 0, .slice none 0 0])) ∨ (partsB (argsL a) (argsL b) = true ∧ ∃ ad n c, e = .returned (.agg #[.int .u8 3, .int .i64 0, .int .i64 0, .slice none 0 0, .slice ad n c]) ∧ OwnRow w' w.heap.size (.slice ad n c) (partsL (argsL a) (argsL b))))
def PtQ (xs ys : List (List C)) (e : Ending) (w w' : World) : Prop :=
 Below w.heap.size w w' ∧ ((partsB xs ys = false ∧ e = .returned (.agg #[.int .u8 4, .int .i64 0, .int .i64 0, .slice none 0 0, .slice none 0 0])) ∨ (partsB xs ys = true ∧ ∃ ad n c, e = .returned (.agg #[.int .u8 3, .int .i64 0, .int .i64 0, .slice none 0 0, .slice ad n c]) ∧ OwnRow w' w.heap.size (.slice ad n c) (partsL xs ys)))
theorem made_nil (q : Nat) : (madeCells #[Value.slice none 0 0] q).toList = [] ++ List.replicate (q - 0) (.slice none 0 0) := by
 refine List.ext_getElem (by simp [madeCells]) fun i h1 h2 => ?_
 have h0 : i % 1 = 0 := Nat.mod_one i
 simp [madeCells, h0]
theorem row_at {w : World} {v : Value} {ls : List (List C)} (h : RowAt w v ls) (k : Nat) (hk : k < ls.length) : ∃ b o cap u, v = .slice (some ⟨b, o, none⟩) ls.length cap ∧ b < w.heap.size ∧ w.cell? ⟨b, o + k, none⟩ = some u ∧ TermAt w u ls[k] := by
 rcases h.2 with ⟨rfl, _⟩ | ⟨b, o, cap, vs, h1, h2, h3, h4, h5, h6, h7⟩
 ·simp at hk
 ·have hv : k < vs.length := by omega
  exact ⟨b, o, cap, vs[k], h1, h4, row_cell h6 k hv, h7 k _ _ (List.getElem?_eq_getElem hv) (List.getElem?_eq_getElem hk)⟩
/-- The call that makes an equation of two terms. -/
def MkPost (x y : List C) (e : Ending) (w w' : World) : Prop := ∃ ad n c, e = .returned (.tuple #[.slice ad n c, .int .i64 (makeE eqS [x, y])]) ∧ OwnT w' w.heap.size (.slice ad n c) (makeL eqS [x, y]) ∧ Below w.heap.size w w'
theorem mk_two (x y : List C) (a b : Value) (w : World) (hx : TermAt w a x) (hy : TermAt w b y) (hS : Signs w) : Calls Tryz.prog 77 #[.string ⟨#[61]⟩, .slice (some ⟨w.heap.size, 0, none⟩) 2 2] (w.alloc (.cells #[a, b] 24)) fun e w' => MkPost x y e w w' := by
 have hb : Below w.heap.size w (w.alloc (.cells #[a, b] 24)) := (Below.refl _ _).alloc (Nat.le_refl _) _
 have hrow : RowAt (w.alloc (.cells #[a, b] 24)) (.slice (some ⟨w.heap.size, 0, none⟩) 2 2) [x, y] := by
  refine ⟨by simp [maxLen], .inr ⟨w.heap.size, 0, 2, [a, b], rfl, Nat.le_refl _, by simp [maxLen], by simp, rfl, ?_, ?_⟩⟩
  ·exact range_new w [a, b] 24
  ·intro i u l hu hl
   match i with
   | 0 => simp at hu hl; subst hu hl; exact hx.below hb
   | 1 => simp at hu hl; subst hu hl; exact hy.below hb
   | _ + 2 => simp at hu
 refine (c10 eqS [x, y] _ _ hrow (hS.below hb) (by decide)).mono ?_
 rintro e w' ⟨u, rfl, _, hb2, hO⟩
 obtain ⟨ad, c, hf⟩ := ownT_form hO
 have hO' := ownT_base hO (b' := w.heap.size) (by simp)
 rw [hf] at hO'
 exact ⟨ad, _, c, by rw [hf], hO', hb.trans (hb2.mono (by simp))⟩
set_option maxRecDepth 100000 in
set_option maxHeartbeats 4000000 in
theorem u37 (a b : List C) (va vb : Value) (w : World) (hTa : TermAt w va a) (hTb : TermAt w vb b) (hS : Signs w) (hlen : (argsL a).length = (argsL b).length) :
  Calls Tryz.prog 39 #[va, vb] w fun e w' => PtPost a b e w w' := by
 obtain ⟨i0, hi, hz0, hs0, hby⟩ := info29
 have HS : Hid (Signs w) := hS
 have HA : Hid (∀ w', Below w.heap.size w w' → Calls Tryz.prog 70 #[va] w' fun e w'' => ∃ u, e = .returned u ∧ OwnRow w'' w'.heap.size u (argsL a) ∧ Below w'.heap.size w' w'') := fun w' hb => c26o a va w' (hTa.below hb) (hS.below hb)
 have HB : Hid (∀ w', Below w.heap.size w w' → Calls Tryz.prog 70 #[vb] w' fun e w'' => ∃ u, e = .returned u ∧ OwnRow w'' w'.heap.size u (argsL b) ∧ Below w'.heap.size w' w'') := fun w' hb => c26o b vb w' (hTb.below hb) (hS.below hb)
 have HX : Hid (∀ c ∈ a, c.t.size ≤ maxLen) := hTa.1.2
 have HY : Hid (∀ c ∈ b, c.t.size ≤ maxLen) := hTb.1.2
 have HF0 : Hid (Fr w (w.alloc (.cells #[.int .u8 0, .int .i64 0, .int .i64 0, .slice none 0 0, .slice none 0 0] 35))) := by
  show Below _ _ _
  exact Below.refl _ _
 have h8 := argsL_len a
 obtain ⟨a0, c0, hf⟩ := hTa.form
 subst hf
 obtain ⟨b0, d0, hf⟩ := hTb.form
 subst hf
 clear hTa hTb hS
 go_enter Tryz.func39, Tryz.ntmps39
 go_wp2_with fail
 refine (HA.out _ HF0.out.bel).mono ?_
 rintro e w1 ⟨ua, rfl, hOa, hb1⟩
 have HF1 : Hid (Fr w w1) := HF0.out.low hb1
 have HOa : Hid (OwnRow w1 w.heap.size ua (argsL a)) := ownRow_base hOa (by simp)
 clear hOa hb1
 go_wp2_with fail
 refine (HB.out _ HF1.out.bel).mono ?_
 rintro e w2 ⟨ub, rfl, hOb, hb2⟩
 have HF2 : Hid (Fr w w2) := HF1.out.low hb2
 have HRa : Hid (RowAt w2 ua (argsL a)) := args_row (ownRow_low HOa.out hb2) HX.out
 have HRb : Hid (RowAt w2 ub (argsL b)) := args_row hOb HY.out
 have hz2 : w.heap.size < w2.heap.size := by have := Below.size HF2.out; simp at this; omega
 have HQ : Hid (∀ e w', PtPost a b e w w' ↔ PtQ (argsL a) (argsL b) e w w') := fun e w' => Iff.rfl
 obtain ⟨xs, hxs⟩ : ∃ xs, argsL a = xs := ⟨_, rfl⟩
 obtain ⟨ys, hys⟩ : ∃ ys, argsL b = ys := ⟨_, rfl⟩
 rw [hxs, hys] at HQ
 rw [hxs] at HRa h8 hlen
 rw [hys] at HRb hlen
 obtain ⟨aa, ca, hua⟩ := HRa.out.form
 obtain ⟨ab, cb, hub⟩ := HRb.out.form
 obtain ⟨q, hq⟩ : ∃ q, xs.length = q := ⟨_, rfl⟩
 have HL : Hid (xs.length = q ∧ ys.length = q) := ⟨hq, by omega⟩
 rw [HL.out.1] at hua h8
 rw [HL.out.2] at hub
 subst hua hub
 have hbz2 : w.heap.size ≤ w2.heap.size := by omega
 clear hOb hxs hys hlen hq HOa HA HB hb2
 go_wp2_with (at_make; go_loud (refine wpList_make_full _ rfl _ _ 33 rfl w.heap.size 24 i0 (.slice none 0 0) 1 Tryz.underlying33 hi hz0 hs0 .i64 .i64 _ _ q rfl rfl rfl rfl (by rw [hby]; omega) (by unfold maxLen; omega) hbz2 ?_))
 intro w3 hown3 hgr3
 have HP0 : Hid (PtAt w w2.heap.size q 0 (partsL xs ys) [] w3) := by
  refine ⟨rfl, ?_, fun j u x h => by simp at h, fun j j' v v' g _ h => by simp at h, HF2.out.bel.grown hgr3 hbz2 (fun g hg => by cases hg)⟩
  have e : (madeCells #[Value.slice none 0 0] q).toList = [] ++ List.replicate (q - 0) (.slice none 0 0) := made_nil q
  rw [← e]; exact hown3
 have HB3 : Hid (Below w2.heap.size w2 w3) := (Below.refl _ _).grown hgr3 (Nat.le_refl _) (fun g hg => by cases hg)
 have HF3 : Hid (Fr w w3) := HF2.out.low HB3.out
 obtain ⟨g, hg⟩ : ∃ g, w2.heap.size = g := ⟨_, rfl⟩
 have HG : Hid (w2.heap.size = g ∧ w.heap.size + 1 ≤ g) := ⟨hg, by omega⟩
 rw [hg] at HP0
 clear hown3 hgr3 hz2 hbz2
 go_wp2_with fail
 rw [hg]
 clear hg
 go_loopw [20] (fun i wr => ∃ (k : Nat) (us : List Value), k ≤ q ∧ i = .int .i64 k ∧ Hid (PtAt w g q k (partsL xs ys) us wr ∧ Below w2.heap.size w2 wr ∧ Fr w wr ∧ ∀ j (_ : j < xs.length) (_ : j < ys.length), j < k → makeE eqS [xs[j], ys[j]] = 0)) (fun i _ => q - (intOf i).toNat)
 case atStart => exact ⟨0, [], Nat.zero_le _, rfl, HP0.out, HB3.out, HF3.out, fun j _ _ h => by omega⟩
 case round =>
  obtain ⟨k, us, hk, rfl, HK⟩ := hrel
  obtain ⟨⟨s0, s1, s2, s3, s4⟩, sf⟩ := HK.out.2.2.1.cells
  have f0 := sf 0
  have f1 := sf 1
  have f2 := sf 2
  have f3 := sf 3
  have f4 := sf 4
  clear sf
  by_cases hlt : k < q
  ·have hltI : (k : Int) < (q : Int) := by omega
   have hk0 : (0 : Int) ≤ (k : Int) := by omega
   have hx : k < xs.length := by rw [HL.out.1]; exact hlt
   have hy : k < ys.length := by rw [HL.out.2]; exact hlt
   obtain ⟨b1, o1, c1, u, ea, hbl1, cu, hTu⟩ := row_at (HRa.out.below HK.out.2.1) k hx
   obtain ⟨b2, o2, c2, v, eb, hbl2, cv, hTv⟩ := row_at (HRb.out.below HK.out.2.1) k hy
   simp only [Value.slice.injEq] at ea eb
   obtain ⟨rfl, hh1, rfl⟩ := ea
   obtain ⟨rfl, hh2, rfl⟩ := eb
   clear hh1 hh2
   obtain ⟨E, hE⟩ : ∃ E, makeE eqS [xs[k], ys[k]] = E := ⟨_, rfl⟩
   have HE : Hid (makeE eqS [xs[k], ys[k]] = E) := hE
   have HM : ∀ W, Hid (Below wr.heap.size wr W) → Calls Tryz.prog 77 #[.string ⟨#[61]⟩, .slice (some ⟨W.heap.size, 0, none⟩) 2 2] (W.alloc (.cells #[u, v] 24)) fun e w' => ∃ ad n c, e = .returned (.tuple #[.slice ad n c, .int .i64 E]) ∧ Hid (OwnT w' W.heap.size (.slice ad n c) (makeL eqS [xs[k], ys[k]]) ∧ Below W.heap.size W w') := fun W hW => by
    have h := mk_two xs[k] ys[k] u v W (hTu.below hW.out) (hTv.below hW.out) (HS.out.below (HK.out.1.bel.trans (hW.out.mono HK.out.1.bel.size)))
    refine h.mono ?_
    rintro e w' ⟨ad, n, c, rfl, h1, h2⟩
    exact ⟨ad, n, c, by rw [hE], h1, h2⟩
   obtain ⟨u1, u2, u3, huf⟩ : ∃ a b c, u = .slice a b c := by obtain ⟨a, c, h⟩ := hTu.form; exact ⟨_, _, _, h⟩
   obtain ⟨v1, v2, v3, hvf⟩ : ∃ a b c, v = .slice a b c := by obtain ⟨a, c, h⟩ := hTv.form; exact ⟨_, _, _, h⟩
   subst huf hvf
   have HXY : Hid (k < xs.length ∧ k < ys.length) := ⟨hx, hy⟩
   clear hTu hTv hE
   by_cases h0 : E = 0
   ·subst h0
    go_wp2_with fail
    first | go_region_with (go_at_call 77; refine (HM _ (Below.drew (Below.refl _ _))).mono ?_; rintro e w4 ⟨ad, n, c, rfl, HO4⟩) | fail
    all_goals (
     have HBw : Hid (Below wr.heap.size wr w4) := (Below.drew (Below.refl _ _)).trans HO4.out.2
     have HP4 := HK.out.1.low HBw.out
     obtain ⟨y, cy⟩ : ∃ y, w4.cell? ⟨g, k, none⟩ = some y := by
      rw [HP4.own.cellAt k (by omega), List.getElem?_eq_getElem (by simp [HP4.len]; omega)]
      exact ⟨_, rfl⟩
     have fy := HP4.own.frozenAt k
     have HF5 : Hid (PtAt w g q (k + 1) (partsL xs ys) (us ++ [.slice ad n c]) (w4.setCell ⟨g, k, none⟩ (.slice ad n c)) ∧ Below w2.heap.size w2 (w4.setCell ⟨g, k, none⟩ (.slice ad n c)) ∧ Fr w (w4.setCell ⟨g, k, none⟩ (.slice ad n c)) ∧ ∀ j (_ : j < xs.length) (_ : j < ys.length), j < k + 1 → makeE eqS [xs[j], ys[j]] = 0) := by
      refine ⟨HK.out.1.put HBw.out hlt HO4.out.1 (parts_get HXY.out.1 HXY.out.2), ?_, ?_, ?_⟩
      ·exact (HK.out.2.1.trans (HBw.out.mono HK.out.2.1.size)).setCell (p := ⟨g, k, none⟩) (by have := HG.out.1; simp; omega) _
      ·exact Below.setCell (HK.out.2.2.1.low HBw.out) (p := ⟨g, k, none⟩) HG.out.2 _
      ·intro j h1 h2 h3
       by_cases e : j = k
       ·subst e; exact HE.out
       ·exact HK.out.2.2.2 j h1 h2 (by omega)
     clear HO4 HP4 HK HM cu cv s0 s1 s2 s3 s4 f0 f1 f2 f3 f4 HBw
     go_wp2_with fail
     go_roundw
     case rel => exact ⟨k + 1, _, by omega, by go_num, HF5⟩
     case measure => simp [intOf]; omega)
   ·have h0b : (E == 0) = false := by simpa using h0
    go_wp2_with fail
    first | go_region_with (go_at_call 77; refine (HM _ (Below.drew (Below.refl _ _))).mono ?_; rintro e w4 ⟨ad, n, c, rfl, HO4⟩) | fail
    all_goals (
     have HBw : Hid (Below wr.heap.size wr w4) := (Below.drew (Below.refl _ _)).trans HO4.out.2
     have HF4 : Hid (Fr w w4) := HK.out.2.2.1.low HBw.out
     have HNo : Hid (partsB xs ys = false) := parts_no HXY.out.1 HXY.out.2 (by rw [HE.out]; exact h0)
     clear s0 s1 s2 s3 s4 f0 f1 f2 f3 f4
     obtain ⟨⟨s0, s1, s2, s3, s4⟩, sf⟩ := HF4.out.cells
     have f0 := sf 0
     have f1 := sf 1
     have f2 := sf 2
     have f3 := sf 3
     have f4 := sf 4
     have HR : Hid (∀ a b c d e, Below w.heap.size w (put49 w4 w.heap.size a b c d e)) := fun a b c d e => put49_bel HF4.out.bel (Nat.le_refl _) a b c d e
     clear sf HO4 HK HM cu cv HBw
     go_wp2_with fail
     exact bodyPost_ret (v := .agg #[.int .u8 4, .int .i64 0, .int .i64 0, .slice none 0 0, .slice none 0 0]) (by simp [results, Tryz.results39, go_sem, s0, s1, s2, s3, s4]) rfl ((HQ.out _ _).2 ⟨HR.out _ _ _ _ _, .inl ⟨HNo.out, rfl⟩⟩))
  ·have hltI : ¬ (k : Int) < (q : Int) := by omega
   obtain rfl : k = q := by omega
   have HYes : Hid (partsB xs ys = true) := parts_yes fun j h1 h2 => HK.out.2.2.2 j h1 h2 (by rw [HL.out.1] at h1; exact h1)
   have HRow : Hid (OwnRow wr w.heap.size (.slice (some ⟨g, 0, none⟩) k k) (partsL xs ys)) := by
    have hp := HK.out.1
    have hl := hp.len
    have h1 := hp.own
    rw [Nat.sub_self, List.replicate_zero, List.append_nil] at h1
    refine ⟨us, ?_, hp.each, hp.ap⟩
    rw [parts_len xs ys (by rw [HL.out.1, HL.out.2]), HL.out.1]
    exact h1
   have HR : Hid (∀ a b c d e, Below w.heap.size w (put49 wr w.heap.size a b c d e) ∧ OwnRow (put49 wr w.heap.size a b c d e) w.heap.size (.slice (some ⟨g, 0, none⟩) k k) (partsL xs ys)) := fun a b c d e => ⟨put49_bel HK.out.2.2.1.bel (Nat.le_refl _) a b c d e, put49_row HRow.out (Fr.blk HK.out.2.2.1) _ _ _ _ _⟩
   clear HK
   go_wp2_with fail
   exact bodyPost_ret (v := .agg #[.int .u8 3, .int .i64 0, .int .i64 0, .slice none 0 0, .slice (some ⟨g, 0, none⟩) k k]) (by simp [results, Tryz.results39, go_sem, s0, s1, s2, s3, s4]) rfl ((HQ.out _ _).2 ⟨(HR.out _ _ _ _ _).1, .inr ⟨HYes.out, _, _, _, rfl, (HR.out _ _ _ _ _).2⟩⟩)
end Go.Proofs.YtljggjllijacjaaGreatDoor
