/- Contract of step of what is being solved, where it is done. Contracts of solved and Solve. -/
import Derived.Test.YtljggjllijacjaaGreatDoorU7g
namespace Go.Proofs.YtljggjllijacjaaGreatDoor
open Go.RowKit
attribute [local go_sem ↓] Go.wp_at_zero Go.wp_at_succ
set_option maxRecDepth 100000 in
set_option maxHeartbeats 4000000 in
theorem u49_d (B sb hb M nb : Nat) (m : Hp) (st : Int) (r : List (List C)) (E x y : List C) (w : World) (h : Sv w B sb hb M m nb st (r ++ [E])) (hE : EqOk E x y) (hS : Signs w) (hm : ∀ x l, lookH m x = some l → l.length * 48 ≤ 140737488355328 ∧ l ≠ [] ∧ rightB l = true)
  (hK : ∀ a b, IsFol m x a → IsFol m y b → stK a b = 1) (hst : 0 ≤ st ∧ st ≤ 1000000) (hr : r.length ≤ 1000000) (_ : nb ≤ 1000000) :
  Calls Tryz.prog 60 #[.pointer (some ⟨sb, 0, none⟩)] w fun e w' => e = .returned (.bool true) ∧ Sv w' B sb hb M m nb (st + 1) r ∧ Below B w w' := by
 obtain ⟨⟨bv, rv, n, D, V, hs, ⟨xsb, hbv⟩, hrow, hhp, hnn, hVB, hV⟩, hlow⟩ := h
 obtain ⟨g, cap, u, hrv, hcap, hBg, hgw, hcu, hOE, hrow'⟩ := ownRow_last hrow
 subst hrv
 have hTE : TermAt w u E := ownT_term hOE hE.len hE.txt
 have H6 := u6 E u w hTE hS
 have HS : Hid (SvAt w sb hb bv (.slice (some ⟨g, 0, none⟩) (r.length + 1) cap) st) := hs
 have hs0 := hs
 obtain ⟨x0, x1, x2, x3, x4, x5⟩ : w.cell? ⟨sb, 0, none⟩ = some (.int .u8 0) ∧ w.cell? ⟨sb, 1, none⟩ = some bv ∧ w.cell? ⟨sb, 2, none⟩ = some (.slice none 0 0) ∧ w.cell? ⟨sb, 3, none⟩ = some (.int .i64 st) ∧ w.cell? ⟨sb, 4, none⟩ = some (.pointer (some ⟨hb, 0, none⟩)) ∧ w.cell? ⟨sb, 5, none⟩ = some (.slice (some ⟨g, 0, none⟩) (r.length + 1) cap) := by
  refine ⟨?_, ?_, ?_, ?_, ?_, ?_⟩ <;> (rw [cell_of_row w sb _ _ 104 (0, 0) hs]; rfl)
 have hsbw : sb < w.heap.size := (Array.getElem?_eq_some_iff.1 hs).1
 obtain ⟨q, hq⟩ : ∃ q, r.length = q := ⟨_, rfl⟩
 rw [hq] at x5 hcap hcu HS
 have hq1 : ((q + 1 : Nat) : Int) - 1 = (q : Int) := by omega
 obtain ⟨ua, un, uc, huf⟩ : ∃ a b c, u = .slice a b c := by obtain ⟨a, c, e⟩ := hTE.form; exact ⟨_, _, _, e⟩
 subst huf
 go_enter Tryz.func60, Tryz.ntmps60
 go_wp2_with fail
 refine H6.mono ?_
 rintro e w1 hp6
 have hp6' : ∃ a b, e = .returned (.tuple #[a, b, .bool true]) ∧ OwnT w1 w.heap.size a x ∧ OwnT w1 w.heap.size b y ∧ Below w.heap.size w w1 := by
  rcases hp6 with ⟨h1, _⟩ | ⟨_, a, b, x', y', h2, h3, h4, h5, _, h6⟩
  ·rw [hE.eq] at h1; cases h1
  ·rw [hE.args] at h2
   simp only [List.cons.injEq, and_true] at h2
   obtain ⟨rfl, rfl⟩ := h2
   exact ⟨a, b, h3, h4, h5, h6⟩
 obtain ⟨a, b, rfl, hOa, hOb, hb1⟩ := hp6'
 have hmem : ∀ s ∈ argsL E, s.length ≤ 256 ∧ ∀ c ∈ s, c.t.size ≤ maxLen := fun s hs => ⟨(argsL_mem E s hs).1, fun c hc => hE.txt c ((argsL_mem E s hs).2 c hc)⟩
 rw [hE.args] at hmem
 have hTa : TermAt w1 a x := ownT_term hOa (by have := (hmem x (by simp)).1; unfold maxLen; omega) (hmem x (by simp)).2
 have hTb : TermAt w1 b y := ownT_term hOb (by have := (hmem y (by simp)).1; unfold maxLen; omega) (hmem y (by simp)).2
 have H14 := u14 m (.pointer (some ⟨hb, 0, none⟩)) x y a b w1 (.inr ⟨hb, M, n, D, rfl, hhp.below hb1⟩) hTa hTb hE.wx hE.wy (hS.below hb1) hE.gx hE.gy hm
 have H14 : Hid (Calls Tryz.prog 8 #[.pointer (some ⟨hb, 0, none⟩), a, b] w1 fun e w' => e = .returned (.agg #[.int .u8 1, .int .i64 0, .int .i64 0, .slice none 0 0, .slice none 0 0]) ∧ Below w1.heap.size w1 w') := H14.mono fun e w' ⟨p, q, h1, h2, _, _, h3, h4⟩ => by
  have k1 := hK p q h1 h2
  rcases h4 with ⟨h5, _⟩ | ⟨_, h6⟩ | ⟨h5, _⟩ | ⟨h5, _⟩
  ·rw [k1] at h5; cases h5
  ·exact ⟨h6, h3⟩
  ·rw [k1] at h5; cases h5
  ·rw [k1] at h5; cases h5
 have HB1 : Hid (Below w.heap.size w w1) := hb1
 obtain ⟨y0, y1, y2, y3, y4, y5⟩ : w1.cell? ⟨sb, 0, none⟩ = some (.int .u8 0) ∧ w1.cell? ⟨sb, 1, none⟩ = some bv ∧ w1.cell? ⟨sb, 2, none⟩ = some (.slice none 0 0) ∧ w1.cell? ⟨sb, 3, none⟩ = some (.int .i64 st) ∧ w1.cell? ⟨sb, 4, none⟩ = some (.pointer (some ⟨hb, 0, none⟩)) ∧ w1.cell? ⟨sb, 5, none⟩ = some (.slice (some ⟨g, 0, none⟩) (q + 1) cap) := by
  have e := (hb1.block sb hsbw).trans HS.out
  refine ⟨?_, ?_, ?_, ?_, ?_, ?_⟩ <;> (rw [cell_of_row w1 sb _ _ 104 (0, 0) e]; rfl)
 obtain ⟨aa, ac, haf⟩ := hTa.form
 obtain ⟨ba, bc, hbf⟩ := hTb.form
 have hsb1 : sb < w1.heap.size := by have := hb1.size; omega
 generalize x.length = lx at haf
 generalize y.length = ly at hbf
 subst haf hbf
 clear x0 x1 x2 x3 x4 x5 hTa hTb hOa hOb hb1 H6 hs hTE hOE hcu hp6
 go_wp2_with fail
 refine H14.out.mono ?_
 rintro e w2 ⟨rfl, hb2⟩
 have HB2 : Hid (Below w.heap.size w w2) := HB1.out.trans (hb2.mono HB1.out.size)
 obtain ⟨z0, z1, z2, z3, z4, z5⟩ : w2.cell? ⟨sb, 0, none⟩ = some (.int .u8 0) ∧ w2.cell? ⟨sb, 1, none⟩ = some bv ∧ w2.cell? ⟨sb, 2, none⟩ = some (.slice none 0 0) ∧ w2.cell? ⟨sb, 3, none⟩ = some (.int .i64 st) ∧ w2.cell? ⟨sb, 4, none⟩ = some (.pointer (some ⟨hb, 0, none⟩)) ∧ w2.cell? ⟨sb, 5, none⟩ = some (.slice (some ⟨g, 0, none⟩) (q + 1) cap) := by
  have e := (HB2.out.block sb hsbw).trans HS.out
  refine ⟨?_, ?_, ?_, ?_, ?_, ?_⟩ <;> (rw [cell_of_row w2 sb _ _ 104 (0, 0) e]; rfl)
 have fz : ∀ j, w2.frozen? ⟨sb, j, none⟩ = false := fun j => frozen_of_row w2 sb j _ 104 ((HB2.out.block sb hsbw).trans HS.out)
 have f1 := fz 1
 have f3 := fz 3
 have f5 := fz 5
 have hsb2 : sb < w2.heap.size := by have := hb2.size; omega
 have hst1 : 0 ≤ st := hst.1
 have hst2 : st ≤ 1000000 := hst.2
 have hqc : (q : Int) ≤ (cap : Int) := by omega
 clear y0 y1 y2 y3 y4 y5 hb2 fz H14
 go_wp2_with fail
 have hcs : (w2.setCell ⟨sb, 3, none⟩ (.int .i64 (st + 1))).heap[sb]? = some (.cells #[.int .u8 0, bv, .slice none 0 0, .int .i64 (st + 1), .pointer (some ⟨hb, 0, none⟩), .slice (some ⟨g, 0, none⟩) (q + 1) cap] 104 (0, 0)) := by
  rw [heap_setCell_same w2 sb 3 _ 104 _ ((HB2.out.block sb hsbw).trans HS.out)]; rfl
 have hcs2 : ((w2.setCell ⟨sb, 3, none⟩ (.int .i64 (st + 1))).setCell ⟨sb, 5, none⟩ (.slice (some ⟨g, 0, none⟩) q cap)).heap[sb]? = some (.cells #[.int .u8 0, bv, .slice none 0 0, .int .i64 (st + 1), .pointer (some ⟨hb, 0, none⟩), .slice (some ⟨g, 0, none⟩) q cap] 104 (0, 0)) := by
  rw [heap_setCell_same _ sb 5 _ 104 _ hcs]; rfl
 have hoth : ∀ k, k ≠ sb → ((w2.setCell ⟨sb, 3, none⟩ (.int .i64 (st + 1))).setCell ⟨sb, 5, none⟩ (.slice (some ⟨g, 0, none⟩) q cap)).heap[k]? = w2.heap[k]? := fun k hk => (heap_setCell_other _ ⟨sb, 5, none⟩ k _ hk).trans (heap_setCell_other w2 ⟨sb, 3, none⟩ k _ hk)
 have hsz : ((w2.setCell ⟨sb, 3, none⟩ (.int .i64 (st + 1))).setCell ⟨sb, 5, none⟩ (.slice (some ⟨g, 0, none⟩) q cap)).heap.size = w2.heap.size := by simp
 have hbel : Below B w ((w2.setCell ⟨sb, 3, none⟩ (.int .i64 (st + 1))).setCell ⟨sb, 5, none⟩ (.slice (some ⟨g, 0, none⟩) q cap)) := ((HB2.out.mono hlow.2.2.2).setCell (p := ⟨sb, 3, none⟩) hlow.1 _).setCell (p := ⟨sb, 5, none⟩) hlow.1 _
 obtain ⟨W4, hW4⟩ : ∃ W4, ((w2.setCell ⟨sb, 3, none⟩ (.int .i64 (st + 1))).setCell ⟨sb, 5, none⟩ (.slice (some ⟨g, 0, none⟩) q cap)) = W4 := ⟨_, rfl⟩
 rw [hW4] at hcs2 hoth hsz hbel ⊢
 rw [← hsz]
 have hall : ∀ k, k < w.heap.size → k ≠ sb → (W4.alloc (.cells #[.int .u8 1, .int .i64 0, .int .i64 0, .slice none 0 0, .slice none 0 0] 35)).heap[k]? = w.heap[k]? := fun k hkw hne => by
  have hz := HB2.out.size
  exact (heap_alloc_old W4 _ (by omega)).trans ((hoth k hne).trans (HB2.out.block k hkw))
 have hsame : ∀ (k : Nat) (cur : Array Value) (t : TypeId), t ≠ 104 → w.heap[k]? = some (Obj.cells cur t (0, 0)) → (W4.alloc (.cells #[.int .u8 1, .int .i64 0, .int .i64 0, .slice none 0 0, .slice none 0 0] 35)).heap[k]? = w.heap[k]? := fun k cur t ht hk => by
  refine hall k (Array.getElem?_eq_some_iff.1 hk).1 ?_
  rintro rfl
  rw [hs0] at hk
  simp only [Option.some.injEq, Obj.cells.injEq] at hk
  exact ht hk.2.1.symm
 have hs5 : SvAt (W4.alloc (.cells #[.int .u8 1, .int .i64 0, .int .i64 0, .slice none 0 0, .slice none 0 0] 35)) sb hb bv (.slice (some ⟨g, 0, none⟩) q cap) (st + 1) := (heap_alloc_old W4 _ (by omega)).trans hcs2
 have hMlt := hhp.map.lt
 have hMne : M ≠ sb := by
  rintro rfl
  obtain ⟨es, ck, k1, _⟩ := hhp.map
  rw [hs0] at k1
  simp at k1
 have hp5 : HpAt (W4.alloc (.cells #[.int .u8 1, .int .i64 0, .int .i64 0, .slice none 0 0, .slice none 0 0] 35)) hb M n D m := hhp.keeps hVB (hsame hb _ 99 (by decide) hhp.blk) (hall M hMlt hMne) (fun g hg => hall g (hV g hg).1 (hV g hg).2.1)
 have hr5 : OwnRow (W4.alloc (.cells #[.int .u8 1, .int .i64 0, .int .i64 0, .slice none 0 0, .slice none 0 0] 35)) B (.slice (some ⟨g, 0, none⟩) q cap) r := ownRow_blocks (by rw [← hq]; exact hrow') (fun k cur t h84 _ => hsame k cur t h84)
 have hb5 : (W4.alloc (.cells #[.int .u8 1, .int .i64 0, .int .i64 0, .slice none 0 0, .slice none 0 0] 35)).ownsRow B 73 3 bv nb xsb := owns_blocks hbv (fun k cur => hsame k cur 73 (by decide))
 have hbel5 : Below B w (W4.alloc (.cells #[.int .u8 1, .int .i64 0, .int .i64 0, .slice none 0 0, .slice none 0 0] 35)) := hbel.alloc (by have := HB2.out.size; have := hlow.2.2.2; omega) _
 have hz5 : w.heap.size ≤ W4.heap.size ∧ (W4.alloc (.cells #[.int .u8 1, .int .i64 0, .int .i64 0, .slice none 0 0, .slice none 0 0] 35)).heap.size = W4.heap.size + 1 := ⟨by have := HB2.out.size; omega, by simp⟩
 have HF : Hid (Sv (W4.alloc (.cells #[.int .u8 1, .int .i64 0, .int .i64 0, .slice none 0 0, .slice none 0 0] 35)) B sb hb M m nb (st + 1) r ∧ Below B w (W4.alloc (.cells #[.int .u8 1, .int .i64 0, .int .i64 0, .slice none 0 0, .slice none 0 0] 35))) :=
  ⟨⟨⟨bv, _, n, D, V, hs5, ⟨_, hb5⟩, hr5, hp5, hnn, hVB, fun g hg => ⟨by have := (hV g hg).1; omega, (hV g hg).2.1, (hV g hg).2.2.1, (hV g hg).2.2.2⟩⟩, hlow.1, hlow.2.1, hlow.2.2.1, by omega⟩, hbel5⟩
 obtain ⟨r0, hr0⟩ : ∃ r0, W4.heap.size = r0 := ⟨_, rfl⟩
 rw [hr0] at hz5 ⊢
 have hc5 := heap_alloc_new W4 (.cells #[.int .u8 1, .int .i64 0, .int .i64 0, .slice none 0 0, .slice none 0 0] 35)
 rw [hr0] at hc5
 generalize (W4.alloc (.cells #[.int .u8 1, .int .i64 0, .int .i64 0, .slice none 0 0, .slice none 0 0] 35)) = W5 at *
 clear hcs hcs2 hoth hsz hbel hsame hall hW4 hS HB2 HB1 hhp hbv hrow hrow' HS hs0 z0 z1 z2 z3 z4 z5 f1 f3 f5 hV hVB hs5 hr5 hb5 hp5 hbel5
 obtain ⟨t0, t1, t2, t3, t4⟩ : W5.cell? ⟨r0, 0, none⟩ = some (.int .u8 1) ∧ W5.cell? ⟨r0, 1, none⟩ = some (.int .i64 0) ∧ W5.cell? ⟨r0, 2, none⟩ = some (.int .i64 0) ∧ W5.cell? ⟨r0, 3, none⟩ = some (.slice none 0 0) ∧ W5.cell? ⟨r0, 4, none⟩ = some (.slice none 0 0) := by
  refine ⟨?_, ?_, ?_, ?_, ?_⟩ <;> (rw [cell_of_row W5 r0 _ _ 35 (0, 0) hc5]; rfl)
 go_wp2_with fail
 go_ret
 exact ⟨rfl, HF.out.1, HF.out.2⟩
theorem Sv.cells {w : World} {B sb hb M nb : Nat} {m : Hp} {st : Int} {r : List (List C)} (h : Sv w B sb hb M m nb st r) : ∃ ba bc ra rc, SvAt w sb hb (.slice ba nb bc) (.slice ra r.length rc) st ∧ w.cell? ⟨sb, 0, none⟩ = some (.int .u8 0) ∧ w.cell? ⟨sb, 1, none⟩ = some (.slice ba nb bc) ∧ w.cell? ⟨sb, 2, none⟩ = some (.slice none 0 0) ∧ w.cell? ⟨sb, 3, none⟩ = some (.int .i64 st) ∧ w.cell? ⟨sb, 4, none⟩ = some (.pointer (some ⟨hb, 0, none⟩)) ∧ w.cell? ⟨sb, 5, none⟩ = some (.slice ra r.length rc) := by
 obtain ⟨⟨bv, rv, n, D, V, hs, ⟨xs, hbv⟩, ⟨us, hrow, _⟩, _⟩, _⟩ := h
 obtain ⟨ba, bc, rfl⟩ := rowv_form' hbv
 obtain ⟨ra, rc, rfl⟩ := rowv_form' hrow
 refine ⟨ba, bc, ra, rc, hs, ?_, ?_, ?_, ?_, ?_, ?_⟩ <;> (rw [cell_of_row w sb _ _ 104 (0, 0) hs]; rfl)
set_option maxRecDepth 100000 in
set_option maxHeartbeats 2000000 in
theorem u50 (B sb hb M nb : Nat) (m : Hp) (st : Int) (w : World) (h : Sv w B sb hb M m nb st []) :
  Calls Tryz.prog 61 #[.pointer (some ⟨sb, 0, none⟩)] w fun e w' => ∃ ba bc, e = .returned (.agg #[.int .u8 1, .slice ba nb bc, .slice none 0 0, .int .i64 st]) ∧ Below B w w' := by
 obtain ⟨ba, bc, ra, rc, hs, x0, x1, x2, x3, x4, x5⟩ := h.cells
 have hlow := h.low
 have f0 : w.frozen? ⟨sb, 0, none⟩ = false := frozen_of_row w sb 0 _ 104 hs
 have hsb : sb < w.heap.size := (Array.getElem?_eq_some_iff.1 hs).1
 have HB : Hid (∀ o : Obj, Below B w ((w.setCell ⟨sb, 0, none⟩ (.int .u8 1)).alloc o)) := fun o => ((Below.refl _ w).setCell (p := ⟨sb, 0, none⟩) hlow.1 _).alloc (by simp; omega) o
 simp only [List.length_nil] at x5
 clear h hs
 go_enter Tryz.func61, Tryz.ntmps61
 go_wp2_with fail
 exact bodyPost_ret (v := .agg #[.int .u8 1, .slice ba nb bc, .slice none 0 0, .int .i64 st]) (by simp [results, Tryz.results61, go_sem]) rfl ⟨ba, bc, rfl, HB.out _⟩
def X3 : List C := [⟨4, ⟨#[]⟩, 0, 1, 0⟩]
def T3 : List C := [⟨1, ⟨#[]⟩, 3, 0, 0⟩]
def E3 : List C := [⟨3, eqS, 2, 0, 0⟩, ⟨4, ⟨#[]⟩, 0, 1, 0⟩, ⟨1, ⟨#[]⟩, 3, 0, 0⟩]
def Y3 : List C := [⟨4, ⟨#[]⟩, 0, 0, 5⟩]
theorem made3 : makeE eqS [X3, T3] = 0 ∧ makeL eqS [X3, T3] = E3 := ⟨by kernel_rfl, by kernel_rfl⟩
theorem eqOk3 : EqOk E3 X3 T3 := ⟨by kernel_rfl, by kernel_rfl, by kernel_rfl, by kernel_rfl, by simp [X3]; exact ⟨by kernel_rfl, by kernel_rfl⟩, by simp [T3]; exact ⟨by kernel_rfl, by kernel_rfl⟩, by simp [E3, maxLen], by simp [E3, maxLen, eqS]; decide⟩
theorem fol_nil (l : List C) : IsFol [] l l := ⟨.here l, by unfold nextH lookH; split <;> rfl⟩
theorem fol_t3 (m : Hp) : IsFol m T3 T3 := ⟨.here _, rfl⟩
def M3 : Hp := bindH [] (1, 0) T3
theorem fol_x3 : IsFol M3 X3 T3 := ⟨.step (show nextH M3 X3 = some T3 by kernel_rfl) (.here _), rfl⟩
theorem step3a (a b : List C) (ha : IsFol [] X3 a) (hb : IsFol [] T3 b) : stK a b = 2 ∧ stV a b = (1, 0) ∧ stT a b = T3 := by
 rw [ha.uniq (fol_nil X3), hb.uniq (fol_nil T3)]
 exact ⟨by kernel_rfl, by kernel_rfl, by kernel_rfl⟩
theorem step3b (a b : List C) (ha : IsFol M3 X3 a) (hb : IsFol M3 T3 b) : stK a b = 1 := by
 rw [ha.uniq fol_x3, hb.uniq (fol_t3 M3)]
 kernel_rfl
theorem m3_len : ∀ x l, lookH M3 x = some l → l.length * 48 ≤ 140737488355328 ∧ l ≠ [] ∧ rightB l = true := len_bind (m := []) (x := (1, 0)) (l := T3) (fun x l h => by cases h) (by simp [T3])
set_option maxRecDepth 100000 in
set_option maxHeartbeats 4000000 in
theorem u24 (v : Value) (w : World) (h : RowAt w v [E3, E3]) (hS : Signs w) :
  Calls Tryz.prog 20 #[.pointer none, .int .i64 9, v] w fun e w' => ∃ ba bc, e = .returned (.agg #[.int .u8 1, .slice ba 1 bc, .slice none 0 0, .int .i64 2]) ∧ Below w.heap.size w w' := by
 have HR : Hid (RowAt w v [E3, E3] ∧ Signs w) := ⟨h, hS⟩
 have hany : ([E3, E3] : List (List C)).any noneB = false := by kernel_rfl
 obtain ⟨a, c, hf⟩ := h.form
 subst hf
 have HB0 : ∀ o : Obj, Hid (Below w.heap.size w (w.alloc o)) := fun o => below_alloc w o
 have H46 : ∀ o : Obj, Hid (Calls Tryz.prog 57 #[.slice a [E3, E3].length c, .func (.func 58) #[] #[]] (w.alloc o) fun e w' => e = .returned (.bool false) ∧ Below (w.alloc o).heap.size (w.alloc o) w') := fun o => by
  have h := u46 [E3, E3] _ (w.alloc o) (HR.out.1.below (HB0 o).out) (HR.out.2.below (HB0 o).out)
  rw [hany] at h
  exact h
 have HF0 : Hid (Below (w.heap.size + 1) (w.alloc (.cells #[.int .u8 0, .slice none 0 0, .slice none 0 0, .int .i64 0] 62)) (w.alloc (.cells #[.int .u8 0, .slice none 0 0, .slice none 0 0, .int .i64 0] 62))) := Below.refl _ _
 clear h hS hany
 go_enter Tryz.func20, Tryz.ntmps20
 go_wp2_with fail
 refine (H46 _).out.mono ?_
 rintro e w1 ⟨rfl, hb1⟩
 have HF1 : Hid (Below (w.heap.size + 1) (w.alloc (.cells #[.int .u8 0, .slice none 0 0, .slice none 0 0, .int .i64 0] 62)) w1) := by
  have := hb1; simp only [World.size_alloc] at this; exact this
 have HB1 : Hid (Below w.heap.size w w1) := (HB0 _).out.trans (hb1.mono (by simp))
 have H48 : Hid (Calls Tryz.prog 59 #[.pointer none, .slice a [E3, E3].length c] w1 fun e w' => SbPost [E3, E3] e w1 w') := u48 [E3, E3] _ w1 (HR.out.1.below HB1.out) (by intro l hl; simp at hl; subst hl; simp [E3]) (by simp)
 clear hb1 H46
 go_wp2_with fail
 refine H48.out.mono ?_
 rintro e w2 ⟨sb, hb, M, rv, rfl, hs2, hh2, hr2, hb2, l1, l2, l3⟩
 have hsv : Sv w2 w1.heap.size sb hb M [] 0 0 [E3, E3] := by
  refine ⟨⟨.slice none 0 0, rv, 0, _, fun _ => False, hs2, ⟨[], World.ownsRow_nil _ _ _ _⟩, hr2, hh2, Nat.le_refl _, fun x v hx hv g hg => ?_, fun g hg => hg.elim⟩, l1, l2, l3, hb2.size⟩
  have e1 := Maps.has_true_of_atKey hv
  rw [hh2.no x hx rfl] at e1
  cases e1
 have HB2 : Hid (Below w.heap.size w w2) := HB1.out.trans (hb2.mono HB1.out.size)
 have HF2 : Hid (Below (w.heap.size + 1) (w.alloc (.cells #[.int .u8 0, .slice none 0 0, .slice none 0 0, .int .i64 0] 62)) w2) := HF1.out.trans (hb2.mono (by have := HF1.out.size; simp at this; omega))
 obtain ⟨B, hB⟩ : ∃ B, w1.heap.size = B := ⟨_, rfl⟩
 have hwB : w.heap.size + 1 ≤ B := by have := HF1.out.size; simp at this; omega
 rw [hB] at hsv l1 l2 l3
 have hS2 : Signs w2 := HR.out.2.below HB2.out
 have H49a := u49_b B sb hb M 0 [] 0 [E3] E3 X3 T3 T3 (1, 0) w2 hsv eqOk3 hS2 (fun x l h => by cases h) step3a (by omega) (by simp) (by omega) ⟨by kernel_rfl, by kernel_rfl⟩ ⟨by kernel_rfl, by simp [T3]; exact ⟨by kernel_rfl, by kernel_rfl⟩⟩ (by simp [T3, maxLen]; decide)
 obtain ⟨ba, bc, ra, rc, hs, x0, x1, x2, x3, x4, x5⟩ := hsv.cells
 have hl2 : ([E3, E3] : List (List C)).length = 2 := rfl
 rw [hl2] at x5
 clear hs2 hh2 hr2 hb2 hs
 go_wp2_with fail
 refine wp_loop_rounds 3 ?_
 rw [rounds_succ]
 go_wp2_with fail
 refine H49a.mono ?_
 rintro e w3 ⟨rfl, hsv3, hb3⟩
 have HB3 : Hid (Below w.heap.size w w3) := HB2.out.trans (hb3.mono (by omega))
 have HF3 : Hid (Below (w.heap.size + 1) (w.alloc (.cells #[.int .u8 0, .slice none 0 0, .slice none 0 0, .int .i64 0] 62)) w3) := HF2.out.trans (hb3.mono hwB)
 have H49b := u49_d B sb hb M 1 M3 (0 + 1) [] E3 X3 T3 w3 hsv3 eqOk3 (HR.out.2.below HB3.out) m3_len step3b (by omega) (by simp) (by omega)
 clear x0 x1 x2 x3 x4 x5 H49a
 obtain ⟨ba3, bc3, ra3, rc3, hs3, x0, x1, x2, x3, x4, x5⟩ := hsv3.cells
 have hl1 : ([E3] : List (List C)).length = 1 := rfl
 rw [hl1] at x5
 clear hs3 hb3
 simp only [Int.zero_add] at x3 H49b
 go_wp2_with fail
 rw [rounds_succ]
 go_wp2_with fail
 refine H49b.mono ?_
 rintro e w4 ⟨rfl, hsv4, hb4⟩
 have HB4 : Hid (Below w.heap.size w w4) := HB3.out.trans (hb4.mono (by omega))
 have HF4 : Hid (Below (w.heap.size + 1) (w.alloc (.cells #[.int .u8 0, .slice none 0 0, .slice none 0 0, .int .i64 0] 62)) w4) := HF3.out.trans (hb4.mono hwB)
 have H50 := u50 B sb hb M 1 M3 (1 + 1) w4 hsv4
 clear x0 x1 x2 x3 x4 x5 H49b
 obtain ⟨ba4, bc4, ra4, rc4, hs4, x0, x1, x2, x3, x4, x5⟩ := hsv4.cells
 simp only [List.length_nil] at x5
 clear hs4 hb4
 go_wp2_with fail
 rw [rounds_succ]
 go_wp2_with fail
 refine H50.mono ?_
 rintro e w5 ⟨ba5, bc5, rfl, hb5⟩
 have HB5 : Hid (Below w.heap.size w w5) := HB4.out.trans (hb5.mono (by omega))
 have hF5 : Below (w.heap.size + 1) (w.alloc (.cells #[.int .u8 0, .slice none 0 0, .slice none 0 0, .int .i64 0] 62)) w5 := HF4.out.trans (hb5.mono hwB)
 have hblk : w5.heap[w.heap.size]? = some (.cells #[.int .u8 0, .slice none 0 0, .slice none 0 0, .int .i64 0] 62 (0, 0)) := (hF5.block w.heap.size (by omega)).trans (heap_alloc_new w _)
 obtain ⟨y0, y1, y2, y3⟩ : w5.cell? ⟨w.heap.size, 0, none⟩ = some (.int .u8 0) ∧ w5.cell? ⟨w.heap.size, 1, none⟩ = some (.slice none 0 0) ∧ w5.cell? ⟨w.heap.size, 2, none⟩ = some (.slice none 0 0) ∧ w5.cell? ⟨w.heap.size, 3, none⟩ = some (.int .i64 0) := by
  refine ⟨?_, ?_, ?_, ?_⟩ <;> (rw [cell_of_row w5 _ _ _ 62 (0, 0) hblk]; rfl)
 have g0 : ∀ j, w5.frozen? ⟨w.heap.size, j, none⟩ = false := fun j => frozen_of_row w5 _ j _ 62 hblk
 have g1 := g0 0
 have g2 := g0 1
 have g3 := g0 2
 have g4 := g0 3
 have HRr : ∀ a b c d, Hid (Below w.heap.size w ((((w5.setCell ⟨w.heap.size, 0, none⟩ a).setCell ⟨w.heap.size, 1, none⟩ b).setCell ⟨w.heap.size, 2, none⟩ c).setCell ⟨w.heap.size, 3, none⟩ d)) := fun a b c d => (((HB5.out.setCell (p := ⟨w.heap.size, 0, none⟩) (Nat.le_refl _) a).setCell (p := ⟨w.heap.size, 1, none⟩) (Nat.le_refl _) b).setCell (p := ⟨w.heap.size, 2, none⟩) (Nat.le_refl _) c).setCell (p := ⟨w.heap.size, 3, none⟩) (Nat.le_refl _) d
 clear x0 x1 x2 x3 x4 x5 H50 hF5 hblk hb5 g0
 go_wp2_with fail
 exact bodyPost_ret (v := .agg #[.int .u8 1, .slice ba5 1 bc5, .slice none 0 0, .int .i64 2]) (by simp [results, Tryz.results20, go_sem, y0, y1, y2, y3]) rfl ⟨ba5, bc5, rfl, (HRr _ _ _ _).out⟩
end Go.Proofs.YtljggjllijacjaaGreatDoor
