/- Contract of guard: the walk over the tests. Contract of guard: the test that fits. Contract of guard: what becomes of any one. Contracts of Guards, Guard: all together. -/
import Derived.Test.YtaehhophaaipdaaGreatDoorGRg
import Derived.Test.YtaehhophaaipdaaGreatDoorGQg
namespace Go.Proofs.YtaehhophaaipdaaGreatDoor
open Go.RowKit
attribute [local go_sem ↓] Go.wp_at_zero Go.wp_at_succ
def GvPost (w0 : World) (lb : Nat) (p : Value) (B g : Nat) (u : G2) (names : List Nm) (T : Nat) (w : World) (e : Ending) (w' : World) : Prop := ∃ names', (u.1 ≠ 2 → names' = bothN names u.2) ∧ GdPost w0 lb p B g u.1 names' T w e w'
theorem fv_form {w : World} {lb k : Nat} {fv : Value} (h : FvOk w lb k fv) : ∃ f fc, fv = .func (Fn.func f) #[] fc := by
 rcases h with ⟨_, h⟩ | ⟨_, _, _, _, h, _⟩ | ⟨_, _, _, _, h, _⟩ | ⟨_, _, _, _, h, _⟩ | ⟨_, _, _, _, h, _⟩ <;> exact ⟨_, _, h⟩
theorem TsAt.below {w w' : World} {lb g : Nat} (h : TsAt w lb g) (hb : Below w.heap.size w w') : TsAt w' lb g := by
 refine ⟨fun k hk => ?_, Nat.lt_of_lt_of_le h.lt hb.size⟩
 obtain ⟨fv, h1, h2, h3, h4⟩ := h.at_ k hk
 exact ⟨fv, (hb.cell (p := ⟨g, k * 3, none⟩) h.lt).trans h1, (hb.cell (p := ⟨g, k * 3 + 1, none⟩) h.lt).trans h2, (hb.cell (p := ⟨g, k * 3 + 2, none⟩) h.lt).trans h3, h4.below hb⟩
set_option maxRecDepth 100000 in
set_option maxHeartbeats 8000000 in
theorem z39_none (w0 : World) (lb : Nat) (p : Value) (B g : Nat) (t : List C) (names : List Nm) (K : Nat) (v : Value) (w : World) (hb : Below w0.heap.size w0 w) (hL : Lk w w0.heap.size lb p B g names K) (hT : TermAt w0 v t) (hS : Signs w0) (hr : rightB t = true) (hn : ∀ k, k < 13 → isB t (gT k) (gA k) = false) :
  Calls Tryz.prog 39 #[pv lb, v] w (GvPost w0 lb p B g (2, []) names K w) := by
 have H32 := c22 t v w (hT.below hb) (hS.below hb)
 rw [hr] at H32
 have K67 : Hid (∀ W, Below w.heap.size w W → ∀ k, Calls Tryz.prog 67 #[v, .string (gT k), .int .i64 (gA k)] W fun e w' => e = .returned (.bool (isB t (gT k) (gA k))) ∧ w' = W) := fun W hW k => c28 t v (gT k) (gA k) W (hT.below (hb.trans (hW.mono hb.size)))
 have HN : Hid (∀ k, k < 13 → isB t (gT k) (gA k) = false) := hn
 have HL : Hid (∀ W, Below w.heap.size w W → GvPost w0 lb p B g (2, []) names K w (.returned (.int .u8 2)) W) := fun W hW => ⟨names, fun h => absurd rfl h, rfl, K, hL.below hW, Nat.le_refl _, hb.trans (hW.mono hb.size), KeepT.of_below hW⟩
 obtain ⟨va, vc, hv⟩ := hT.form
 subst hv
 clear hT hS hL hn
 go_enter Tryz.func39, Tryz.ntmps39
 go_wp2_with fail
 refine H32.mono ?_
 rintro e w1 ⟨rfl, hb1⟩
 have HB1 : Hid (Below w.heap.size w w1) := hb1
 clear H32 hb1
 go_wp2_with fail
 refine (z76 lb w1).mono ?_
 rintro e w2 ⟨gt, rfl, H2⟩
 have HB2 : Hid (Below w.heap.size w w2) := HB1.out.trans (H2.out.2.mono HB1.out.size)
 go_wp2_with fail
 go_loopw [13] (fun iv wr => ∃ j : Nat, j ≤ 13 ∧ iv = .int .i64 j ∧ Hid (Below w2.heap.size w2 wr)) (fun iv _ => 13 - (intOf iv).toNat)
 case atStart => exact ⟨0, by omega, rfl, Below.refl _ _⟩
 case round =>
  obtain ⟨j, hj, rfl, HK⟩ := hrel
  by_cases hlt : j < 13
  ·have hlt' : (j : Int) < 13 := by omega
   have hj0 : (0 : Int) ≤ (j : Int) := by omega
   obtain ⟨fv, a0, a1, a2, hF⟩ := (H2.out.1.below HK.out).at_ j hlt
   obtain ⟨f, fc, hfv⟩ := fv_form hF
   subst hfv
   clear hF
   obtain ⟨X, hX⟩ : ∃ X, wr.alloc (.cells #[.string (gT j), .int .i64 (gA j), .func (Fn.func f) #[] fc] 123) = X := ⟨_, rfl⟩
   have hBX : Below wr.heap.size wr X := by rw [← hX]; exact below_alloc _ _
   have hx : X.heap[wr.heap.size]? = some (.cells #[.string (gT j), .int .i64 (gA j), .func (Fn.func f) #[] fc] 123 (0, 0)) := by rw [← hX]; exact heap_alloc_new _ _
   have d0 : X.cell? ⟨wr.heap.size, 0, none⟩ = some (.string (gT j)) := by rw [cell_of_row X _ 0 _ 123 (0, 0) hx]; rfl
   have d1 : X.cell? ⟨wr.heap.size, 1, none⟩ = some (.int .i64 (gA j)) := by rw [cell_of_row X _ 1 _ 123 (0, 0) hx]; rfl
   have HX : Hid (Below w2.heap.size w2 X) := HK.out.trans (hBX.mono HK.out.size)
   have H67 := K67.out X (HB2.out.trans (HX.out.mono HB2.out.size)) j
   rw [HN.out j hlt] at H67
   clear hBX hx HK
   generalize gT j = tx at *
   generalize gA j = ar at *
   go_wp2_with fail
   refine H67.mono ?_
   rintro e w4 ⟨rfl, hw4⟩
   obtain rfl := hw4
   go_wp2_with fail
   go_roundw
   case rel => exact ⟨j + 1, by omega, by go_num, HX⟩
   case measure => simp [intOf]; omega
  ·have hlt' : ¬ (j : Int) < 13 := by omega
   go_wp2_with fail
   go_ret
   exact HL.out wr (HB2.out.trans (HK.out.mono HB2.out.size))
end Go.Proofs.YtaehhophaaipdaaGreatDoor

namespace Go.Proofs.YtaehhophaaipdaaGreatDoor
open Go.RowKit
attribute [local go_sem ↓] Go.wp_at_zero Go.wp_at_succ
/-- What the closures tell, each where it is the guard's own. -/
structure Clo (w0 w : World) (lb : Nat) (p : Value) (B g : Nat) (u : G2) (names : List Nm) (T : Nat) (v : Value) (k : Nat) : Prop where
 c107 : k = 0 → ∀ W, Below w.heap.size w W → GvPost w0 lb p B g u names T w (.returned (.int .u8 1)) W
 c142 : 1 ≤ k → k ≤ 6 → ∀ W bl bf, Below w.heap.size w W → W.heap[bl]? = some (.cells #[pv lb] 78 (0, 0)) → W.heap[bf]? = some (.cells #[.func (Fn.func (108 + k)) #[] #[]] 145 (0, 0)) → Calls Tryz.prog 142 #[v, pv bl, pv bf] W (GvPost w0 lb p B g u names T w)
 c144 : 7 ≤ k → k ≤ 10 → ∀ W bl bf, Below w.heap.size w W → W.heap[bl]? = some (.cells #[pv lb] 78 (0, 0)) → W.heap[bf]? = some (.cells #[.func (Fn.func (109 + k)) #[] #[]] 147 (0, 0)) → Calls Tryz.prog 144 #[v, pv bl, pv bf] W (GvPost w0 lb p B g u names T w)
 c145 : ∀ fi ff, (k = 11 ∧ fi = .func (Fn.func 103) #[pv lb] #[] ∧ ff = .func (Fn.func 121) #[] #[]) ∨ (k = 12 ∧ fi = .func (Fn.func 123) #[] #[] ∧ ff = .func (Fn.func 124) #[] #[]) → ∀ W bl bi bf, Below w.heap.size w W → W.heap[bl]? = some (.cells #[pv lb] 78 (0, 0)) → W.heap[bi]? = some (.cells #[fi] 140 (0, 0)) → W.heap[bf]? = some (.cells #[ff] 149 (0, 0)) → Calls Tryz.prog 145 #[v, pv bl, pv bi, pv bf] W (GvPost w0 lb p B g u names T w)
set_option maxRecDepth 100000 in
set_option maxHeartbeats 8000000 in
theorem z39_hit (k0 : Nat) (u : G2) (T : Nat) (hk0 : k0 < 13) (w0 : World) (lb : Nat) (p : Value) (B g : Nat) (t : List C) (names : List Nm) (K : Nat) (v : Value) (w : World) (hb : Below w0.heap.size w0 w) (_hL : Lk w w0.heap.size lb p B g names K) (hT : TermAt w0 v t) (hS : Signs w0) (hr : rightB t = true) (hn : isB t (gT k0) (gA k0) = true) (hC : Clo w0 w lb p B g u names T v k0) :
  Calls Tryz.prog 39 #[pv lb, v] w (GvPost w0 lb p B g u names T w) := by
 have H32 := c22 t v w (hT.below hb) (hS.below hb)
 rw [hr] at H32
 have K67 : Hid (∀ W, Below w.heap.size w W → ∀ k, Calls Tryz.prog 67 #[v, .string (gT k), .int .i64 (gA k)] W fun e w' => e = .returned (.bool (isB t (gT k) (gA k))) ∧ w' = W) := fun W hW k => c28 t v (gT k) (gA k) W (hT.below (hb.trans (hW.mono hb.size)))
 have HN : Hid (isB t (gT k0) (gA k0) = true) := hn
 have HCl : Hid (Clo w0 w lb p B g u names T v k0) := hC
 obtain ⟨va, vc, hv⟩ := hT.form
 subst hv
 clear hT hS _hL hn hC
 go_enter Tryz.func39, Tryz.ntmps39
 go_wp2_with fail
 refine H32.mono ?_
 rintro e w1 ⟨rfl, hb1⟩
 have HB1 : Hid (Below w.heap.size w w1) := hb1
 clear H32 hb1
 go_wp2_with fail
 refine (z76 lb w1).mono ?_
 rintro e w2 ⟨gt, rfl, H2⟩
 have HB2 : Hid (Below w.heap.size w w2) := HB1.out.trans (H2.out.2.mono HB1.out.size)
 go_wp2_with fail
 go_loopw [13] (fun iv wr => ∃ j : Nat, j ≤ k0 ∧ iv = .int .i64 j ∧ Hid (Below w2.heap.size w2 wr)) (fun iv _ => 13 - (intOf iv).toNat)
 case atStart => exact ⟨0, by omega, rfl, Below.refl _ _⟩
 case round =>
  obtain ⟨j, hj, rfl, HK⟩ := hrel
  have hlt : j < 13 := by omega
  ·have hlt' : (j : Int) < 13 := by omega
   have hj0 : (0 : Int) ≤ (j : Int) := by omega
   obtain ⟨fv, a0, a1, a2, hF⟩ := (H2.out.1.below HK.out).at_ j hlt
   by_cases hjk : j = k0
   ·subst hjk
    have hn := HN.out
    rcases hF with ⟨h0, rfl⟩ | ⟨h1, h2, bl, bf, rfl, h4, h5⟩ | ⟨h1, h2, bl, bf, rfl, h4, h5⟩ | ⟨h1, bl, bi, bf, rfl, h4, h5, h6⟩ | ⟨h1, bl, bi, bf, rfl, h4, h5, h6⟩
    ·obtain ⟨X, hX⟩ : ∃ X, wr.alloc (.cells #[.string (gT j), .int .i64 (gA j), .func (Fn.func 107) #[] #[]] 123) = X := ⟨_, rfl⟩
     have hBX : Below wr.heap.size wr X := by rw [← hX]; exact below_alloc _ _
     have hx : X.heap[wr.heap.size]? = some (.cells #[.string (gT j), .int .i64 (gA j), .func (Fn.func 107) #[] #[]] 123 (0, 0)) := by rw [← hX]; exact heap_alloc_new _ _
     have d0 : X.cell? ⟨wr.heap.size, 0, none⟩ = some (.string (gT j)) := by rw [cell_of_row X _ 0 _ 123 (0, 0) hx]; rfl
     have d1 : X.cell? ⟨wr.heap.size, 1, none⟩ = some (.int .i64 (gA j)) := by rw [cell_of_row X _ 1 _ 123 (0, 0) hx]; rfl
     have d2 : X.cell? ⟨wr.heap.size, 2, none⟩ = some (.func (Fn.func 107) #[] #[]) := by rw [cell_of_row X _ 2 _ 123 (0, 0) hx]; rfl
     have HX : Hid (Below w.heap.size w X) := by have h := HK.out.trans (hBX.mono HK.out.size); exact HB2.out.trans (h.mono HB2.out.size)
     have H67 := K67.out X HX.out j
     rw [hn] at H67
     have HC := HCl.out.c107 h0 X HX.out
     have HC : Hid _ := HC
     clear hBX hx HK hn h0 HN HCl
     generalize gT j = tx at *
     generalize gA j = ar at *
     go_wp2_with fail
     refine H67.mono ?_
     rintro e w4 ⟨rfl, hw4⟩
     obtain rfl := hw4
     clear H67
     go_wp2_with fail
     refine (z107 _ _).mono ?_
     rintro e w5 ⟨rfl, hw5⟩
     obtain rfl := hw5.symm
     go_wp2_with fail
     go_ret
     exact HC.out
    ·obtain ⟨X, hX⟩ : ∃ X, wr.alloc (.cells #[.string (gT j), .int .i64 (gA j), .func (Fn.func 142) #[] #[pv bl, pv bf]] 123) = X := ⟨_, rfl⟩
     have hBX : Below wr.heap.size wr X := by rw [← hX]; exact below_alloc _ _
     have hx : X.heap[wr.heap.size]? = some (.cells #[.string (gT j), .int .i64 (gA j), .func (Fn.func 142) #[] #[pv bl, pv bf]] 123 (0, 0)) := by rw [← hX]; exact heap_alloc_new _ _
     have d0 : X.cell? ⟨wr.heap.size, 0, none⟩ = some (.string (gT j)) := by rw [cell_of_row X _ 0 _ 123 (0, 0) hx]; rfl
     have d1 : X.cell? ⟨wr.heap.size, 1, none⟩ = some (.int .i64 (gA j)) := by rw [cell_of_row X _ 1 _ 123 (0, 0) hx]; rfl
     have d2 : X.cell? ⟨wr.heap.size, 2, none⟩ = some (.func (Fn.func 142) #[] #[pv bl, pv bf]) := by rw [cell_of_row X _ 2 _ 123 (0, 0) hx]; rfl
     have HX : Hid (Below w.heap.size w X) := by have h := HK.out.trans (hBX.mono HK.out.size); exact HB2.out.trans (h.mono HB2.out.size)
     have H67 := K67.out X HX.out j
     rw [hn] at H67
     have HC := HCl.out.c142 h1 h2 X bl bf HX.out ((hBX.block bl (Array.getElem?_eq_some_iff.1 h4).1).trans h4) ((hBX.block bf (Array.getElem?_eq_some_iff.1 h5).1).trans h5)
     clear hBX hx HK hn h1 h2 h4 h5 HN HCl
     generalize gT j = tx at *
     generalize gA j = ar at *
     go_wp2_with fail
     refine H67.mono ?_
     rintro e w4 ⟨rfl, hw4⟩
     obtain rfl := hw4
     clear H67
     go_wp2_with fail
     refine HC.mono ?_
     rintro e w5 ⟨names', hq, rfl, hrest⟩
     have HR : Hid ((u.1 ≠ 2 → names' = bothN names u.2) ∧ _) := ⟨hq, hrest⟩
     clear hq hrest HC
     go_wp2_with fail
     go_ret
     exact ⟨names', HR.out.1, rfl, HR.out.2⟩
    ·obtain ⟨X, hX⟩ : ∃ X, wr.alloc (.cells #[.string (gT j), .int .i64 (gA j), .func (Fn.func 144) #[] #[pv bl, pv bf]] 123) = X := ⟨_, rfl⟩
     have hBX : Below wr.heap.size wr X := by rw [← hX]; exact below_alloc _ _
     have hx : X.heap[wr.heap.size]? = some (.cells #[.string (gT j), .int .i64 (gA j), .func (Fn.func 144) #[] #[pv bl, pv bf]] 123 (0, 0)) := by rw [← hX]; exact heap_alloc_new _ _
     have d0 : X.cell? ⟨wr.heap.size, 0, none⟩ = some (.string (gT j)) := by rw [cell_of_row X _ 0 _ 123 (0, 0) hx]; rfl
     have d1 : X.cell? ⟨wr.heap.size, 1, none⟩ = some (.int .i64 (gA j)) := by rw [cell_of_row X _ 1 _ 123 (0, 0) hx]; rfl
     have d2 : X.cell? ⟨wr.heap.size, 2, none⟩ = some (.func (Fn.func 144) #[] #[pv bl, pv bf]) := by rw [cell_of_row X _ 2 _ 123 (0, 0) hx]; rfl
     have HX : Hid (Below w.heap.size w X) := by have h := HK.out.trans (hBX.mono HK.out.size); exact HB2.out.trans (h.mono HB2.out.size)
     have H67 := K67.out X HX.out j
     rw [hn] at H67
     have HC := HCl.out.c144 h1 h2 X bl bf HX.out ((hBX.block bl (Array.getElem?_eq_some_iff.1 h4).1).trans h4) ((hBX.block bf (Array.getElem?_eq_some_iff.1 h5).1).trans h5)
     clear hBX hx HK hn h1 h2 h4 h5 HN HCl
     generalize gT j = tx at *
     generalize gA j = ar at *
     go_wp2_with fail
     refine H67.mono ?_
     rintro e w4 ⟨rfl, hw4⟩
     obtain rfl := hw4
     clear H67
     go_wp2_with fail
     refine HC.mono ?_
     rintro e w5 ⟨names', hq, rfl, hrest⟩
     have HR : Hid ((u.1 ≠ 2 → names' = bothN names u.2) ∧ _) := ⟨hq, hrest⟩
     clear hq hrest HC
     go_wp2_with fail
     go_ret
     exact ⟨names', HR.out.1, rfl, HR.out.2⟩
    ·obtain ⟨X, hX⟩ : ∃ X, wr.alloc (.cells #[.string (gT j), .int .i64 (gA j), .func (Fn.func 145) #[] #[pv bl, pv bi, pv bf]] 123) = X := ⟨_, rfl⟩
     have hBX : Below wr.heap.size wr X := by rw [← hX]; exact below_alloc _ _
     have hx : X.heap[wr.heap.size]? = some (.cells #[.string (gT j), .int .i64 (gA j), .func (Fn.func 145) #[] #[pv bl, pv bi, pv bf]] 123 (0, 0)) := by rw [← hX]; exact heap_alloc_new _ _
     have d0 : X.cell? ⟨wr.heap.size, 0, none⟩ = some (.string (gT j)) := by rw [cell_of_row X _ 0 _ 123 (0, 0) hx]; rfl
     have d1 : X.cell? ⟨wr.heap.size, 1, none⟩ = some (.int .i64 (gA j)) := by rw [cell_of_row X _ 1 _ 123 (0, 0) hx]; rfl
     have d2 : X.cell? ⟨wr.heap.size, 2, none⟩ = some (.func (Fn.func 145) #[] #[pv bl, pv bi, pv bf]) := by rw [cell_of_row X _ 2 _ 123 (0, 0) hx]; rfl
     have HX : Hid (Below w.heap.size w X) := by have h := HK.out.trans (hBX.mono HK.out.size); exact HB2.out.trans (h.mono HB2.out.size)
     have H67 := K67.out X HX.out j
     rw [hn] at H67
     have HC := HCl.out.c145 _ _ (.inl ⟨h1, rfl, rfl⟩) X bl bi bf HX.out ((hBX.block bl (Array.getElem?_eq_some_iff.1 h4).1).trans h4) ((hBX.block bi (Array.getElem?_eq_some_iff.1 h5).1).trans h5) ((hBX.block bf (Array.getElem?_eq_some_iff.1 h6).1).trans h6)
     clear hBX hx HK hn h1 h4 h5 h6 HN HCl
     generalize gT j = tx at *
     generalize gA j = ar at *
     go_wp2_with fail
     refine H67.mono ?_
     rintro e w4 ⟨rfl, hw4⟩
     obtain rfl := hw4
     clear H67
     go_wp2_with fail
     refine HC.mono ?_
     rintro e w5 ⟨names', hq, rfl, hrest⟩
     have HR : Hid ((u.1 ≠ 2 → names' = bothN names u.2) ∧ _) := ⟨hq, hrest⟩
     clear hq hrest HC
     go_wp2_with fail
     go_ret
     exact ⟨names', HR.out.1, rfl, HR.out.2⟩
    ·obtain ⟨X, hX⟩ : ∃ X, wr.alloc (.cells #[.string (gT j), .int .i64 (gA j), .func (Fn.func 145) #[] #[pv bl, pv bi, pv bf]] 123) = X := ⟨_, rfl⟩
     have hBX : Below wr.heap.size wr X := by rw [← hX]; exact below_alloc _ _
     have hx : X.heap[wr.heap.size]? = some (.cells #[.string (gT j), .int .i64 (gA j), .func (Fn.func 145) #[] #[pv bl, pv bi, pv bf]] 123 (0, 0)) := by rw [← hX]; exact heap_alloc_new _ _
     have d0 : X.cell? ⟨wr.heap.size, 0, none⟩ = some (.string (gT j)) := by rw [cell_of_row X _ 0 _ 123 (0, 0) hx]; rfl
     have d1 : X.cell? ⟨wr.heap.size, 1, none⟩ = some (.int .i64 (gA j)) := by rw [cell_of_row X _ 1 _ 123 (0, 0) hx]; rfl
     have d2 : X.cell? ⟨wr.heap.size, 2, none⟩ = some (.func (Fn.func 145) #[] #[pv bl, pv bi, pv bf]) := by rw [cell_of_row X _ 2 _ 123 (0, 0) hx]; rfl
     have HX : Hid (Below w.heap.size w X) := by have h := HK.out.trans (hBX.mono HK.out.size); exact HB2.out.trans (h.mono HB2.out.size)
     have H67 := K67.out X HX.out j
     rw [hn] at H67
     have HC := HCl.out.c145 _ _ (.inr ⟨h1, rfl, rfl⟩) X bl bi bf HX.out ((hBX.block bl (Array.getElem?_eq_some_iff.1 h4).1).trans h4) ((hBX.block bi (Array.getElem?_eq_some_iff.1 h5).1).trans h5) ((hBX.block bf (Array.getElem?_eq_some_iff.1 h6).1).trans h6)
     clear hBX hx HK hn h1 h4 h5 h6 HN HCl
     generalize gT j = tx at *
     generalize gA j = ar at *
     go_wp2_with fail
     refine H67.mono ?_
     rintro e w4 ⟨rfl, hw4⟩
     obtain rfl := hw4
     clear H67
     go_wp2_with fail
     refine HC.mono ?_
     rintro e w5 ⟨names', hq, rfl, hrest⟩
     have HR : Hid ((u.1 ≠ 2 → names' = bothN names u.2) ∧ _) := ⟨hq, hrest⟩
     clear hq hrest HC
     go_wp2_with fail
     go_ret
     exact ⟨names', HR.out.1, rfl, HR.out.2⟩
   ·obtain ⟨f, fc, hfv⟩ := fv_form hF
    subst hfv
    clear hF
    obtain ⟨X, hX⟩ : ∃ X, wr.alloc (.cells #[.string (gT j), .int .i64 (gA j), .func (Fn.func f) #[] fc] 123) = X := ⟨_, rfl⟩
    have hBX : Below wr.heap.size wr X := by rw [← hX]; exact below_alloc _ _
    have hx : X.heap[wr.heap.size]? = some (.cells #[.string (gT j), .int .i64 (gA j), .func (Fn.func f) #[] fc] 123 (0, 0)) := by rw [← hX]; exact heap_alloc_new _ _
    have d0 : X.cell? ⟨wr.heap.size, 0, none⟩ = some (.string (gT j)) := by rw [cell_of_row X _ 0 _ 123 (0, 0) hx]; rfl
    have d1 : X.cell? ⟨wr.heap.size, 1, none⟩ = some (.int .i64 (gA j)) := by rw [cell_of_row X _ 1 _ 123 (0, 0) hx]; rfl
    have HX : Hid (Below w2.heap.size w2 X) := HK.out.trans (hBX.mono HK.out.size)
    have H67 := K67.out X (HB2.out.trans (HX.out.mono HB2.out.size)) j
    have hno : isB t (gT j) (gA j) = false := by
     cases e : isB t (gT j) (gA j)
     ·rfl
     ·exact absurd (isB_one hlt hk0 e HN.out) hjk
    rw [hno] at H67
    clear hBX hx HK hno
    generalize gT j = tx at *
    generalize gA j = ar at *
    go_wp2_with fail
    refine H67.mono ?_
    rintro e w4 ⟨rfl, hw4⟩
    obtain rfl := hw4
    go_wp2_with fail
    go_roundw
    case rel => exact ⟨j + 1, by omega, by go_num, HX⟩
    case measure => simp [intOf]; omega
end Go.Proofs.YtaehhophaaipdaaGreatDoor

namespace Go.Proofs.YtaehhophaaipdaaGreatDoor
open Go.RowKit
attribute [local go_sem ↓] Go.wp_at_zero Go.wp_at_succ
theorem GdPost.up {w0 : World} {lb : Nat} {p : Value} {B g : Nat} {o : Int} {names' : List Nm} {T T' : Nat} {W w : World} {e : Ending} {w' : World} (h : GdPost w0 lb p B g o names' T W e w') (hk : KeepT w W) (hT : T ≤ T') : GdPost w0 lb p B g o names' T' w e w' := by
 obtain ⟨h1, K', h2, h3, h4, h5⟩ := h
 exact ⟨h1, K', h2, Nat.le_trans h3 hT, h4, hk.trans h5⟩
theorem GvPost.up {w0 : World} {lb : Nat} {p : Value} {B g : Nat} {u : G2} {names : List Nm} {T T' : Nat} {w : World} {e : Ending} {w' : World} (h : GvPost w0 lb p B g u names T w e w') (hT : T ≤ T') : GvPost w0 lb p B g u names T' w e w' := by
 obtain ⟨names', h1, h2⟩ := h
 exact ⟨names', h1, h2.up (KeepT.refl _) hT⟩
set_option maxRecDepth 100000 in
theorem z39_wrong (w0 : World) (lb : Nat) (p : Value) (B g : Nat) (t : List C) (names : List Nm) (K : Nat) (v : Value) (w : World) (hb : Below w0.heap.size w0 w) (hL : Lk w w0.heap.size lb p B g names K) (hT : TermAt w0 v t) (hS : Signs w0) (hr : rightB t = false) :
  Calls Tryz.prog 39 #[pv lb, v] w (GvPost w0 lb p B g (2, []) names K w) := by
 have H32 := c22 t v w (hT.below hb) (hS.below hb)
 rw [hr] at H32
 have HL : Hid (∀ W, Below w.heap.size w W → GvPost w0 lb p B g (2, []) names K w (.returned (.int .u8 2)) W) := fun W hW => ⟨names, fun h => absurd rfl h, rfl, K, hL.below hW, Nat.le_refl _, hb.trans (hW.mono hb.size), KeepT.of_below hW⟩
 obtain ⟨va, vc, hv⟩ := hT.form
 subst hv
 clear hT hS hL
 go_enter Tryz.func39, Tryz.ntmps39
 go_wp2_with fail
 refine H32.mono ?_
 rintro e w1 ⟨rfl, hb1⟩
 have HB1 : Hid (Below w.heap.size w w1) := hb1
 clear H32 hb1
 go_wp2_with fail
 go_ret
 exact HL.out w1 HB1.out
theorem fol_wf {m : Hp} (hm : HpOk m) {w0 : World} {p : Value} (hp : HpV w0 p m) {t : List C} {e : C} {r : List C} (ht : t ≠ []) (hW : ∀ c ∈ t, wfN (c.vn, c.vk)) (hf : IsFol m t (e :: r)) : wfN (e.vn, e.vk) :=
 (fol_ok hm (P := fun l => ∀ c ∈ l, wfN (c.vn, c.vk)) (fun _ _ h => hp.wf h) hf.1 ⟨ht, hW⟩).2 e (by simp)
theorem g39 (m : Hp) (hm : HpOk m) (w0 : World) (lb : Nat) (p : Option Addr) (B g : Nat) (t : List C) (u : G2) (names : List Nm) (K : Nat) (v : Value) (w : World) (hu : Gv m t u) (hp : HpV w0 (.pointer p) m) (hb : Below w0.heap.size w0 w) (hL : Lk w w0.heap.size lb (.pointer p) B g names K) (hT : TermAt w0 v t) (hS : Signs w0) (hW : ∀ c ∈ t, wfN (c.vn, c.vk)) (hK : K + 256 < 999999999) :
  Calls Tryz.prog 39 #[pv lb, v] w (GvPost w0 lb (.pointer p) B g u names (K + 256) w) := by
 cases hu with
 | wrong hr => exact (z39_wrong w0 lb _ B g t names K v w hb hL hT hS hr).mono fun e w' h => h.up (by omega)
 | none hr hn => exact (z39_none w0 lb _ B g t names K v w hb hL hT hS hr hn).mono fun e w' h => h.up (by omega)
 | yes hr hi =>
  refine z39_hit 0 (1, []) _ (by omega) w0 lb _ B g t names K v w hb hL hT hS hr hi ⟨fun _ W hW' => ⟨names, fun _ => rfl, rfl, K, hL.below hW', by omega, hb.trans (hW'.mono hb.size), KeepT.of_below hW'⟩, fun h => ?_, fun h => ?_, fun fi ff h => ?_⟩
  ·omega
  ·omega
  ·rcases h with ⟨h, _⟩ | ⟨h, _⟩ <;> omega
 | @cmp c t k d rs hr h1 h2 hi hl hv hx _ =>
  have h256 := ((right_iff _).1 hr).2.1
  simp only [List.length_cons] at h256
  refine z39_hit k _ _ (by omega) w0 lb _ B g (c :: t) names K v w hb hL hT hS hr hi ⟨fun h => ?_, fun _ _ W bl bf hW' hbl hbf => ?_, fun h => ?_, fun fi ff h => ?_⟩
  ·omega
  ·obtain ⟨nums, o, rest, names', s1, s2, s3⟩ := hx names
   obtain ⟨q1, q2⟩ := cmp_same k rs nums o names names' s2 s3
   have hb' := hb.trans (hW'.mono hb.size)
   refine (z142 k h1 h2 m w0 lb _ B g d (h62 m hm w0 lb _ B g hp d) c t names nums o rest names' K v W bl bf s1 (fun ho => ?_) hb' (hL.below hW') hT (fun x hx => hW x (List.mem_cons_of_mem _ hx)) (by omega) hbl hbf).mono fun e w' h => ?_
   ·have hf : failsR rs = false := by
     cases e : failsR rs
     ·rfl
     ·have := s2 e
      omega
    obtain ⟨_, e2, _⟩ := s3 hf
    match rs, hl with
    | [x, y], _ => exact ⟨x.1, y.1, e2⟩
   ·rw [q1] at h
    exact ⟨names', q2, h.up (KeepT.of_below hW') (by omega)⟩
  ·omega
  ·rcases h with ⟨h, _⟩ | ⟨h, _⟩ <;> omega
 | @ask c t k e r hr h1 h2 hi ht hf =>
  refine z39_hit k _ _ (by omega) w0 lb _ B g (c :: t) names K v w hb hL hT hS hr hi ⟨fun h => ?_, fun h => ?_, fun _ _ W bl bf hW' hbl hbf => ?_, fun fi ff h => ?_⟩
  ·omega
  ·omega
  ·obtain ⟨q1, q2⟩ := ask_same k e names
   have hb' := hb.trans (hW'.mono hb.size)
   have h256 := ((right_iff _).1 hr).2.1
   simp only [List.length_cons] at h256
   have ht1 : 1 ≤ t.length := by
    cases t with
    | nil => exact absurd rfl ht
    | cons a b => simp
   have hWt : ∀ x ∈ t, wfN (x.vn, x.vk) := fun x hx => hW x (List.mem_cons_of_mem _ hx)
   refine (z144 k h1 h2 m hm w0 lb p B g hp c t e r names K v W bl bf hf hb' (hL.below hW') hT hWt (by omega) (fol_wf hm hp ht hWt hf) (by omega) hbl hbf).mono fun e' w' h => ?_
   rw [q1, q2] at h
   exact ⟨_, fun _ => rfl, h.up (KeepT.of_below hW') (by omega)⟩
  ·rcases h with ⟨h, _⟩ | ⟨h, _⟩ <;> omega
 | @lik c x y k a b r s hr h1 hi hp' hq ha hb2 =>
  refine z39_hit k _ _ (by omega) w0 lb _ B g (c :: (x ++ y)) names K v w hb hL hT hS hr hi ⟨fun h => ?_, fun h => ?_, fun h => ?_, fun fi ff h W bl bi bf hW' hbl hbi hbf => ?_⟩
  ·omega
  ·omega
  ·omega
  ·obtain ⟨q1, q2⟩ := lik_same k a b names
   have hb' := hb.trans (hW'.mono hb.size)
   have h256 := ((right_iff _).1 hr).2.1
   obtain ⟨x1, _, _, x4⟩ := (right_iff _).1 hp'
   obtain ⟨y1, _, _, y4⟩ := (right_iff _).1 hq
   have hWt : ∀ z ∈ x ++ y, wfN (z.vn, z.vk) := fun z hz => hW z (List.mem_cons_of_mem _ hz)
   have hxn : x ≠ [] := fun e => by subst e; simp at x1
   have hyn : y ≠ [] := fun e => by subst e; simp at y1
   simp only [List.length_cons, List.length_append] at h256
   refine (z145 k fi ff m hm w0 lb p B g hp c x y a b r s names K v W bl bi bf x4 y4 ha hb2 hb' (hL.below hW') hT hWt (by rw [List.length_append]; omega) (fol_wf hm hp hxn (fun z hz => hWt z (List.mem_append_left _ hz)) ha) (fol_wf hm hp hyn (fun z hz => hWt z (List.mem_append_right _ hz)) hb2) (by omega) hbl hbi hbf h).mono fun e' w' h => ?_
   rw [q1] at h
   exact ⟨_, q2, h.up (KeepT.of_below hW') (by omega)⟩
end Go.Proofs.YtaehhophaaipdaaGreatDoor

namespace Go.Proofs.YtaehhophaaipdaaGreatDoor
open Go.RowKit
attribute [local go_sem ↓] Go.wp_at_zero Go.wp_at_succ
def wtsG (a : List Nm) (us : List G2) : List Nm := us.foldl (fun a u => bothN a u.2) a
def failsG (us : List G2) : Bool := us.any fun u => u.1 == 2
def allG (us : List G2) : Int := if wtsG [] us = [] then 1 else 3
/-- What becomes of all of them. -/
def allR (us : List G2) : G2 := if failsG us = true then (2, []) else (allG us, wtsG [] us)
def GnPost (u : G2) (w : World) (e : Ending) (w' : World) : Prop := ∃ q c, e = .returned (.tuple #[.int .u8 u.1, .slice q u.2.length c]) ∧ OwnN w' w.heap.size (.slice q u.2.length c) u.2 ∧ Below w.heap.size w w' ∧ (∀ x ∈ u.2, wfN x) ∧ u.2.length ≤ 999999999
theorem wts_snoc (us : List G2) (a : List Nm) (u : G2) : wtsG a (us ++ [u]) = bothN (wtsG a us) u.2 := by
 unfold wtsG
 rw [List.foldl_append]
 rfl
theorem fails_snoc (us : List G2) (u : G2) : failsG (us ++ [u]) = (failsG us || (u.1 == 2)) := by
 unfold failsG
 rw [List.any_append]
 simp
theorem wts_take {us : List G2} {k : Nat} (hk : k < us.length) : wtsG [] (us.take (k + 1)) = bothN (wtsG [] (us.take k)) us[k].2 := by
 rw [List.take_succ_eq_append_getElem hk, wts_snoc]
theorem fails_mem {us : List G2} {k : Nat} (hk : k < us.length) (h : us[k].1 = 2) : failsG us = true := by
 unfold failsG
 rw [List.any_eq_true]
 exact ⟨_, List.getElem_mem hk, by simp [h]⟩
theorem fails_none {us : List G2} (h : ∀ j (hj : j < us.length), us[j].1 ≠ 2) : failsG us = false := by
 cases e : failsG us
 ·rfl
 ·unfold failsG at e
  rw [List.any_eq_true] at e
  obtain ⟨u, hu, h2⟩ := e
  obtain ⟨j, hj, rfl⟩ := List.getElem_of_mem hu
  exact absurd (by simpa using h2) (h j hj)
/-- What is known of a row in the midst of the walk. -/
structure Gm (w0 : World) (lb : Nat) (p : Value) (B g : Nat) (us : List G2) (k : Nat) (wr : World) : Prop where
 lk : Lk wr w0.heap.size lb p B g (wtsG [] (us.take k)) (k * 256)
 bel : Below w0.heap.size w0 wr
 no : ∀ j (_ : j < us.length), j < k → us[j].1 ≠ 2
theorem Gm.next {w0 : World} {lb : Nat} {p : Value} {B g : Nat} {us : List G2} {k : Nat} {wr : World} (h : Gm w0 lb p B g us k wr) (hk : k < us.length) {m : Hp} {t : List C} (hG : Gv m t us[k]) {e : Ending} {w' : World} (hP : GvPost w0 lb p B g us[k] (wtsG [] (us.take k)) (k * 256 + 256) wr e w') :
  (us[k].1 = 2 ∧ e = .returned (.int .u8 2) ∧ Below w0.heap.size w0 w') ∨ (us[k].1 = 1 ∧ e = .returned (.int .u8 1) ∧ allG (us.take (k + 1)) = allG (us.take k) ∧ Gm w0 lb p B g us (k + 1) w') ∨ (us[k].1 = 3 ∧ e = .returned (.int .u8 3) ∧ allG (us.take (k + 1)) = 3 ∧ Gm w0 lb p B g us (k + 1) w') := by
 obtain ⟨names', h1, rfl, K', h2, h3, h4, h5⟩ := hP
 have key : us[k].1 ≠ 2 → Gm w0 lb p B g us (k + 1) w' := fun hne => by
  have e1 := h1 hne
  rw [← wts_take hk] at e1
  subst e1
  refine ⟨?_, h4, fun j hj hjk => ?_⟩
  ·obtain ⟨M, n, nv, a1, a2, a3⟩ := h2
   exact ⟨M, n, nv, a1, by omega, by omega⟩
  ·by_cases e : j = k
   ·subst e; exact hne
   ·exact h.no j hj (by omega)
 rcases gv_shape hG with ⟨a, b⟩ | ⟨a, b⟩ | ⟨a, b, c⟩
 ·refine .inr (.inl ⟨a, by rw [a], ?_, key (by omega)⟩)
  unfold allG
  rw [wts_take hk, b]
  rfl
 ·exact .inl ⟨a, by rw [a], h4⟩
 ·refine .inr (.inr ⟨a, by rw [a], ?_, key (by omega)⟩)
  unfold allG
  rw [wts_take hk, if_neg (both_ne2 _ _ b)]
theorem row_el {w : World} {a : Option Addr} {n c : Nat} {ls : List (List C)} (h : RowAt w (.slice a n c) ls) {k : Nat} (hk : k < ls.length) : ∃ b o u, a = some ⟨b, o, none⟩ ∧ n = ls.length ∧ (∃ ua un uc, u = .slice ua un uc) ∧ TermAt w u ls[k] ∧ ∀ W, Below w.heap.size w W → W.cell? ⟨b, o + k, none⟩ = some u := by
 rcases h.2 with ⟨e, _⟩ | ⟨b, o, cap, vs, e, h2, h3, h4, h5, h6, h7⟩
 ·rw [e] at hk; simp at hk
 ·simp only [Value.slice.injEq] at e
  obtain ⟨e1, e2, _⟩ := e
  have hk' : k < vs.length := by omega
  have ht := h7 k vs[k] ls[k] (List.getElem?_eq_getElem hk') (List.getElem?_eq_getElem hk)
  obtain ⟨ua, uc, hu⟩ := ht.form
  exact ⟨b, o, vs[k], e1, e2, ⟨_, _, _, hu⟩, ht, fun W hW => (hW.cell (p := ⟨b, o + k, none⟩) h4).trans (row_cell h6 k hk')⟩
set_option maxRecDepth 100000 in
set_option maxHeartbeats 4000000 in
theorem g15 (m : Hp) (hm : HpOk m) (a : Option Addr) (ls : List (List C)) (us : List G2) (v : Value) (w : World) (hp : HpV w (.pointer a) m) (hl : us.length = ls.length) (hG : ∀ i (h1 : i < ls.length) (h2 : i < us.length), Gv m ls[i] us[i]) (hR : RowAt w v ls) (hS : Signs w) (hW : ∀ l ∈ ls, ∀ c ∈ l, wfN (c.vn, c.vk)) (hn : ls.length ≤ 3000000) :
  Calls Tryz.prog 15 #[.pointer a, v] w (GnPost (allR us) w) := by
 obtain ⟨ra, rc, hv⟩ := hR.form
 subst hv
 have HR : Hid (RowAt w (.slice ra ls.length rc) ls ∧ Signs w ∧ (∀ l ∈ ls, ∀ c ∈ l, wfN (c.vn, c.vk)) ∧ us.length = ls.length) := ⟨hR, hS, hW, hl⟩
 have HG : Hid (∀ i (h1 : i < ls.length) (h2 : i < us.length), Gv m ls[i] us[i]) := hG
 have HP : Hid (HpV w (.pointer a) m) := hp
 have H33 := h61 a w.heap.size w (Nat.le_refl _)
 clear hR hS hW hG hp hl
 go_enter Tryz.func15, Tryz.ntmps15
 go_wp2_with fail
 refine H33.mono ?_
 rintro e w1 ⟨lb, B, g, rfl, hL, hb⟩
 have HI : Hid (Gm w lb (.pointer a) B g us 0 w1) := ⟨hL, hb, fun j _ hj => by omega⟩
 clear hL hb H33
 go_wp2_with fail
 go_loopw [7, 14] (fun av iv wr => ∃ k : Nat, k ≤ ls.length ∧ av = .int .u8 (allG (us.take k)) ∧ iv = .int .i64 k ∧ Hid (Gm w lb (.pointer a) B g us k wr)) (fun _ iv _ => ls.length - (intOf iv).toNat)
 case atStart => exact ⟨0, Nat.zero_le _, rfl, rfl, HI⟩
 case round =>
  clear HI
  obtain ⟨k, hk, rfl, rfl, HK⟩ := hrel
  by_cases hlt : k < ls.length
  ·have g1 : (k : Int) < (ls.length : Int) := by omega
   have g0 : (0 : Int) ≤ (k : Int) := by omega
   obtain ⟨b, o, u, rfl, _, ⟨ua, un, uc, rfl⟩, ht, hc⟩ := row_el HR.out.1 hlt
   have hlt' : k < us.length := by rw [HR.out.2.2.2]; exact hlt
   have p0 := hc wr HK.out.bel
   have HT := HG.out k hlt hlt'
   have H39 : Calls Tryz.prog 39 #[pv lb, .slice ua un uc] wr fun e w' => (us[k].1 = 2 ∧ e = .returned (.int .u8 2) ∧ Below w.heap.size w w') ∨ (us[k].1 = 1 ∧ e = .returned (.int .u8 1) ∧ allG (us.take (k + 1)) = allG (us.take k) ∧ Gm w lb (.pointer a) B g us (k + 1) w') ∨ (us[k].1 = 3 ∧ e = .returned (.int .u8 3) ∧ allG (us.take (k + 1)) = 3 ∧ Gm w lb (.pointer a) B g us (k + 1) w') :=
    (g39 m hm w lb a B g ls[k] us[k] (wtsG [] (us.take k)) (k * 256) _ wr HT HP.out HK.out.bel HK.out.lk ht HR.out.2.1 (HR.out.2.2.1 _ (List.getElem_mem hlt)) (by omega)).mono fun e w' h => HK.out.next hlt' HT h
   have HU : Hid (us[k].1 = 2 → failsG us = true) := fun h => fails_mem hlt' h
   clear HT ht hc
   generalize us[k].1 = o1 at H39 HU
   clear hlt'
   generalize allG (us.take k) = A at *
   go_wp2_with fail
   refine H39.mono ?_
   rintro e w2 (⟨q1, rfl, q2⟩ | ⟨q1, rfl, q2, q3⟩ | ⟨q1, rfl, q2, q3⟩)
   ·have HF : Hid (GnPost (allR us) w (.returned (.tuple #[.int .u8 2, .slice none 0 0])) w2) := by
     unfold allR
     rw [if_pos (HU.out q1)]
     exact ⟨none, 0, rfl, ⟨rfl, .inl ⟨rfl, rfl⟩⟩, q2, fun x hx => (by cases hx), Nat.zero_le _⟩
    clear q1 q2 H39 HU HK
    go_wp2_with fail
    exact bodyPost_ret (v := .tuple #[.int .u8 2, .slice none 0 0]) (by simp [results, Tryz.results15, go_sem]) rfl HF.out
   ·have HN : Hid (allG (us.take (k + 1)) = A ∧ Gm w lb (.pointer a) B g us (k + 1) w2) := ⟨q2, q3⟩
    clear q1 q2 q3 H39 HU HK
    go_wp2_with fail
    go_roundw
    case rel => exact ⟨k + 1, by omega, by rw [HN.out.1], by go_num, HN.out.2⟩
    case measure => simp [intOf]; omega
   ·have HN : Hid (allG (us.take (k + 1)) = 3 ∧ Gm w lb (.pointer a) B g us (k + 1) w2) := ⟨q2, q3⟩
    clear q1 q2 q3 H39 HU HK
    go_wp2_with fail
    go_roundw
    case rel => exact ⟨k + 1, by omega, by rw [HN.out.1], by go_num, HN.out.2⟩
    case measure => simp [intOf]; omega
  ·have g1 : ¬ (k : Int) < (ls.length : Int) := by omega
   obtain rfl : k = ls.length := by omega
   have e1 : us.take ls.length = us := List.take_of_length_le (by rw [HR.out.2.2.2]; exact Nat.le_refl _)
   obtain ⟨nv, n3, c3, e3, hc, HF⟩ : ∃ nv n3 c3, nv = .slice n3 (wtsG [] us).length c3 ∧ wr.cell? ⟨lb, 2, none⟩ = some nv ∧ Hid (GnPost (allR us) w (.returned (.tuple #[.int .u8 (allG us), nv])) wr) := by
    have h := HK.out
    obtain ⟨M, n, nv, a1, a2, a3⟩ := h.lk
    rw [e1] at a1
    obtain ⟨q, c, rfl, _⟩ := own_sl a1.row
    refine ⟨_, q, c, rfl, by rw [cell_of_row wr _ 2 _ 85 (0, 0) a1.blk]; rfl, ?_⟩
    have hf : failsG us = false := fails_none fun j hj => h.no j hj (by have := HR.out.2.2.2; omega)
    show GnPost _ _ _ _
    unfold allR
    rw [hf]
    exact ⟨q, c, rfl, a1.row, h.bel, a1.wf, by rw [e1] at a3; show (wtsG [] us).length ≤ 999999999; omega⟩
   rw [e1]
   subst e3
   clear HK
   generalize allG us = A at *
   go_wp2_with fail
   go_quiet (fail)
   go_wp2_with fail
   exact bodyPost_ret (v := .tuple #[.int .u8 A, .slice n3 (wtsG [] us).length c3]) (by simp [results, Tryz.results15, go_sem]) rfl (by
    obtain ⟨q, c, h1, h2, h3, h4⟩ := HF.out
    exact ⟨q, c, h1, owns_below h2 (below_drewN (Below.refl _ _) nq), below_drewN h3 nq, h4⟩)
theorem all_one {m : Hp} {t : List C} {u : G2} (h : Gv m t u) : allR [u] = u := by
 have e1 : failsG [u] = (u.1 == 2) := by simp [failsG]
 have e2 : wtsG [] [u] = bothN [] u.2 := rfl
 unfold allR allG
 rw [e1, e2]
 rcases gv_shape h with ⟨a, b⟩ | ⟨a, b⟩ | ⟨a, b, c⟩
 ·obtain ⟨x, y⟩ := u
  dsimp only at a b
  subst a b
  rfl
 ·obtain ⟨x, y⟩ := u
  dsimp only at a b
  subst a b
  rfl
 ·have e3 : (u.1 == 2) = false := by rw [a]; rfl
  rw [c, e3, if_neg b, ← a]
  rfl
set_option maxRecDepth 100000 in
theorem g18 (m : Hp) (hm : HpOk m) (a : Option Addr) (l : List C) (u : G2) (v : Value) (w : World) (hp : HpV w (.pointer a) m) (hG : Gv m l u) (hT : TermAt w v l) (hS : Signs w) (hW : ∀ c ∈ l, wfN (c.vn, c.vk)) :
  Calls Tryz.prog 18 #[.pointer a, v] w (GnPost u w) := by
 obtain ⟨ta, tc, hv⟩ := hT.form
 have hb := below_alloc w (.cells #[v] 24)
 have H15 : Calls Tryz.prog 15 #[.pointer a, .slice (some ⟨w.heap.size, 0, none⟩) 1 1] (w.alloc (.cells #[v] 24)) (GnPost u w) := by
  refine (g15 m hm a [l] [u] _ _ (hp.below hb) rfl (fun i h1 h2 => ?_) (row_one w v l hT) (hS.below hb) (fun x hx c hc => ?_) (by simp)).mono fun e w' h => ?_
  ·obtain rfl : i = 0 := by simpa using h1
   exact hG
  ·simp only [List.mem_singleton] at hx
   subst hx
   exact hW c hc
  ·rw [all_one hG] at h
   obtain ⟨q, c, h1, h2, h3, h4⟩ := h
   refine ⟨q, c, h1, ?_, hb.trans (h3.mono hb.size), h4⟩
   obtain ⟨k1, k2⟩ := h2
   refine ⟨k1, ?_⟩
   rcases k2 with k2 | ⟨g, cap, cur, j1, j2, j3⟩
   ·exact .inl k2
   ·exact .inr ⟨g, cap, cur, j1, Nat.le_trans hb.size j2, j3⟩
 subst hv
 clear hT hS hp hb
 go_enter Tryz.func18, Tryz.ntmps18
 go_wp2_with fail
 refine H15.mono ?_
 rintro e w1 ⟨q, c, rfl, h1, h2⟩
 have HF : Hid (OwnN w1 w.heap.size (.slice q u.2.length c) u.2 ∧ Below w.heap.size w w1 ∧ (∀ x ∈ u.2, wfN x) ∧ u.2.length ≤ 999999999) := ⟨h1, h2⟩
 clear h1 h2 H15
 go_wp2_with fail
 exact bodyPost_ret (v := .tuple #[.int .u8 u.1, .slice q u.2.length c]) (by simp [results, Tryz.results18, go_sem]) rfl ⟨q, c, rfl, HF.out.1, HF.out.2⟩
end Go.Proofs.YtaehhophaaipdaaGreatDoor
