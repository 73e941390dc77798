/- Contracts of solved and of the program's Solve. -/
import Derived.Test.YtljggjllijacjaaGreatDoorYEh
namespace Go.Proofs.YtljggjllijacjaaGreatDoor
open Go.RowKit
attribute [local go_sem ↓] Go.wp_at_zero Go.wp_at_succ
/-- What was bound and what is left, in memory of one's own. -/
def SvR (B : Nat) (w : World) (bv lv : Value) (bd : List (Nm × List C)) (left : List (List C)) : Prop := ∃ ts us, w.ownsRow B 73 3 bv bd.length (encBd bd ts) ∧ w.ownsRow B 24 1 lv left.length us ∧ ts.length = bd.length ∧ (∀ (j : Nat) (u : Value) (b : Nm × List C), ts[j]? = some u → bd[j]? = some b → OwnT w B u b.2) ∧ (∀ (j : Nat) (u : Value) (l : List C), us[j]? = some u → left[j]? = some l → OwnT w B u l) ∧ Ap ts ∧ Ap us ∧ ∀ t ∈ ts, ∀ u ∈ us, ∀ g, t.ownBlock = some g → u.ownBlock ≠ some g
theorem svR_nil (B : Nat) (w : World) : SvR B w (.slice none 0 0) (.slice none 0 0) [] [] :=
  ⟨[], [], World.ownsRow_nil _ _ _ _, World.ownsRow_nil _ _ _ _, rfl, fun j u b h => by simp at h, fun j u l h => by simp at h, fun j j' x y g _ h => by simp at h, fun j j' x y g _ h => by simp at h, fun t h => by simp at h⟩
section
variable {w w' : World} {B sb hb M : Nat} {m : Hp} {bd : List (Nm × List C)} {row : List (List C)} {d : Nat} {bv rv : Value} {n : Nat} {D : DataW Value} {V : Nat → Prop} {ts us : List Value}
theorem Sc.not_sb (h : Sc w B sb hb M m bd row d bv rv n D V ts us) {k : Nat} {cur : Array Value} {t : TypeId} {fr : Nat × Nat} (ht : t ≠ 104) (hc : w.heap[k]? = some (.cells cur t fr)) : k ≠ sb := fun e => by
  have h1 := h.rc
  unfold SvAt at h1
  rw [e, h1] at hc
  simp only [Option.some.injEq, Obj.cells.injEq] at hc
  exact ht hc.2.1.symm
/-- Told as it stands, the row turned. -/
theorem Sc.toR {lv : Value} (h : Sc w B sb hb M m bd row d bv rv n D V ts us) (hk : ∀ k, k < w.heap.size → k ≠ sb → rv.ownBlock ≠ some k → w'.heap[k]? = w.heap[k]?) (hl : w'.ownsRow B 24 1 lv us.length us.reverse) : SvR B w' bv lv bd row := by
  have hul : us.length = row.length := by have := h.ro.1; omega
  have hty : ∀ (k : Nat) (cur : Array Value) (t : TypeId), t ≠ 104 → t ≠ 24 → w.heap[k]? = some (Obj.cells cur t (0, 0)) → w'.heap[k]? = w.heap[k]? := fun k cur t h1 h2 hc => hk k (Array.getElem?_eq_some_iff.1 hc).1 (h.not_sb h1 hc) fun e => by
    obtain ⟨cu, e2⟩ := own_typed h.ro k e
    rw [e2] at hc
    simp only [Option.some.injEq, Obj.cells.injEq] at hc
    exact h2 hc.2.1.symm
  refine ⟨ts, us.reverse, owns_blocks h.bo fun k cu hc => hty k cu _ (by decide) (by decide) hc, by rw [← hul]; exact hl, h.tl, fun j u b h1 h2 => owns_blocks (h.to j u b h1 h2) fun k cu hc => hty k cu _ (by decide) (by decide) hc, fun j u l h1 h2 => ?_, h.apt, ap_rev h.apu, fun t ht u hu => h.apx t ht u (List.mem_reverse.1 hu)⟩
  have hj : j < us.length := by have := (List.getElem?_eq_some_iff.1 h1).1; simpa using this
  rw [List.getElem?_reverse hj] at h1
  refine owns_blocks (h.uo _ u l h1 ?_) fun k cu hc => hty k cu _ (by decide) (by decide) hc
  rw [List.getElem?_reverse (by omega), hul, show row.length - 1 - (row.length - 1 - j) = j by omega]
  exact h2
end
/-- What solved tells. -/
def SoR (B : Nat) (out : Int) (bd : List (Nm × List C)) (left : List (List C)) (st : Nat) (e : Ending) (w w' : World) : Prop := ∃ ba bn bc la ln lc, e = .returned (.agg #[.int .u8 out, .slice ba bn bc, .slice la ln lc, .int .i64 st]) ∧ Hid (SvR B w' (.slice ba bn bc) (.slice la ln lc) bd left ∧ Below B w w')
set_option maxRecDepth 100000 in
set_option maxHeartbeats 4000000 in
theorem y61_no (B sb hb M n0 : Nat) (s : Sta) (w : World) (hr : s.row = []) (h : Sq w B sb hb M n0 s) :
    Calls Tryz.prog 61 #[.pointer (some ⟨sb, 0, none⟩)] w fun e w' => SoR B 1 s.bd [] s.d e w w' := by
  obtain ⟨bv, rv, n, D, V, ts, us, hn, hsc⟩ := h
  rw [hr] at hsc
  obtain ⟨ba, bc, hbf⟩ := rowv_form' hsc.bo
  obtain ⟨ra, rc, hrf⟩ := rowv_form' hsc.ro
  subst hbf hrf
  have hs := hsc.rc
  obtain ⟨x0, x1, x2, x3, x4, x5⟩ : w.cell? ⟨sb, 0, none⟩ = some (.int .u8 0) ∧ w.cell? ⟨sb, 1, none⟩ = some (.slice ba s.bd.length bc) ∧ w.cell? ⟨sb, 2, none⟩ = some (.slice none 0 0) ∧ w.cell? ⟨sb, 3, none⟩ = some (.int .i64 (s.d : Int)) ∧ w.cell? ⟨sb, 4, none⟩ = some (.pointer (some ⟨hb, 0, none⟩)) ∧ w.cell? ⟨sb, 5, none⟩ = some (.slice ra 0 rc) := by
    refine ⟨?_, ?_, ?_, ?_, ?_, ?_⟩ <;> (rw [cell_of_row w sb _ _ 104 (0, 0) hs]; rfl)
  have f0 : w.frozen? ⟨sb, 0, none⟩ = false := frozen_of_row w sb 0 _ 104 hs
  have hsb : sb < w.heap.size := (Array.getElem?_eq_some_iff.1 hs).1
  have hlow := hsc.low
  have hus : us = [] := List.eq_nil_of_length_eq_zero (by have := hsc.ro.1; simpa using this)
  subst hus
  have HB : Hid (∀ o : Obj, Below B w ((w.setCell ⟨sb, 0, none⟩ (.int .u8 1)).alloc o) ∧ SvR B ((w.setCell ⟨sb, 0, none⟩ (.int .u8 1)).alloc o) (.slice ba s.bd.length bc) (.slice none 0 0) s.bd []) := fun o => ⟨((Below.refl _ w).setCell (p := ⟨sb, 0, none⟩) hlow.1 _).alloc (by simp; omega) o, hsc.toR (fun k h1 h2 _ => (heap_alloc_old _ _ (by simpa using h1)).trans (heap_setCell_other w ⟨sb, 0, none⟩ k _ h2)) (World.ownsRow_nil _ _ _ _)⟩
  obtain ⟨bn, hbn⟩ : ∃ bn, s.bd.length = bn := ⟨_, rfl⟩
  have HBN : Hid (s.bd.length = bn) := hbn
  rw [hbn] at x1
  clear hsc hs hbn
  go_enter Tryz.func61, Tryz.ntmps61
  go_wp2_with fail
  exact bodyPost_ret (v := .agg #[.int .u8 1, .slice ba bn bc, .slice none 0 0, .int .i64 s.d]) (by simp [results, Tryz.results61, go_sem]) rfl ⟨ba, bn, bc, none, 0, 0, rfl, by rw [← HBN.out]; exact (HB.out _).2, (HB.out _).1⟩
set_option maxRecDepth 100000 in
set_option maxHeartbeats 4000000 in
theorem y61_some (B sb hb M n0 : Nat) (s : Sta) (w : World) (hr : s.row ≠ []) (hrl : s.row.length ≤ 1000000000) (h : Sq w B sb hb M n0 s) :
    Calls Tryz.prog 61 #[.pointer (some ⟨sb, 0, none⟩)] w fun e w' => SoR B 3 s.bd s.row s.d e w w' := by
  obtain ⟨bv, rv, n, D, V, ts, us, hn, hsc⟩ := h
  obtain ⟨ba, bc, hbf⟩ := rowv_form' hsc.bo
  obtain ⟨ra, rc, hrf⟩ := rowv_form' hsc.ro
  subst hbf hrf
  have hs := hsc.rc
  have hul : us.length = s.row.length := by have := hsc.ro.1; omega
  have hpos : 0 < s.row.length := List.length_pos_iff.2 hr
  obtain ⟨bn, hbn⟩ : ∃ bn, s.bd.length = bn := ⟨_, rfl⟩
  obtain ⟨rn, hrn⟩ : ∃ rn, s.row.length = rn := ⟨_, rfl⟩
  obtain ⟨x0, x1, x2, x3, x4, x5⟩ : w.cell? ⟨sb, 0, none⟩ = some (.int .u8 0) ∧ w.cell? ⟨sb, 1, none⟩ = some (.slice ba bn bc) ∧ w.cell? ⟨sb, 2, none⟩ = some (.slice none 0 0) ∧ w.cell? ⟨sb, 3, none⟩ = some (.int .i64 (s.d : Int)) ∧ w.cell? ⟨sb, 4, none⟩ = some (.pointer (some ⟨hb, 0, none⟩)) ∧ w.cell? ⟨sb, 5, none⟩ = some (.slice ra rn rc) := by
    rw [← hbn, ← hrn]
    refine ⟨?_, ?_, ?_, ?_, ?_, ?_⟩ <;> (rw [cell_of_row w sb _ _ 104 (0, 0) hs]; rfl)
  have f0 : w.frozen? ⟨sb, 0, none⟩ = false := frozen_of_row w sb 0 _ 104 hs
  have hsb : sb < w.heap.size := (Array.getElem?_eq_some_iff.1 hs).1
  rw [hrn] at hpos hrl
  have hposI : (0 : Int) < (rn : Int) := by omega
  have HN : Hid (s.bd.length = bn ∧ s.row.length = rn ∧ us.length = rn) := ⟨hbn, hrn, by omega⟩
  have HSC : Hid (Sc w B sb hb M s.m s.bd s.row s.d (.slice ba s.bd.length bc) (.slice ra s.row.length rc) n D V ts us) := hsc
  clear hsc hs hbn hrn hul hr
  go_enter Tryz.func61, Tryz.ntmps61
  go_wp2_with fail
  obtain ⟨W1, hW1⟩ : ∃ W, ((w.setCell ⟨sb, 0, none⟩ (.int .u8 1)).setCell ⟨sb, 0, none⟩ (.int .u8 3)).alloc (.cells #[.int .u8 0, .slice none 0 0, .slice none 0 0, .int .i64 0] 62) = W := ⟨_, rfl⟩
  have HW1 : Hid ((∀ k, k < w.heap.size → k ≠ sb → W1.heap[k]? = w.heap[k]?) ∧ W1.heap[sb]? = some (.cells #[.int .u8 3, .slice ba bn bc, .slice none 0 0, .int .i64 (s.d : Int), .pointer (some ⟨hb, 0, none⟩), .slice ra rn rc] 104 (0, 0)) ∧ W1.heap[w.heap.size]? = some (.cells #[.int .u8 0, .slice none 0 0, .slice none 0 0, .int .i64 0] 62 (0, 0)) ∧ Below B w W1 ∧ W1.heap.size = w.heap.size + 1) := by
    have hlow := HSC.out.low
    have hs := HSC.out.rc
    rw [HN.out.1, HN.out.2.1] at hs
    subst hW1
    refine ⟨fun k h1 h2 => (heap_alloc_old _ _ (by simpa using h1)).trans ((heap_setCell_other _ ⟨sb, 0, none⟩ k _ h2).trans (heap_setCell_other w ⟨sb, 0, none⟩ k _ h2)), ?_, ?_, (((Below.refl _ w).setCell (p := ⟨sb, 0, none⟩) hlow.1 _).setCell (p := ⟨sb, 0, none⟩) hlow.1 _).alloc (by simp; omega) _, by simp⟩
    · rw [heap_alloc_old _ _ (by simpa using hsb), heap_setCell_same _ sb 0 _ 104 _ (heap_setCell_same w sb 0 _ 104 _ hs)]
      rfl
    · have := heap_alloc_new ((w.setCell ⟨sb, 0, none⟩ (.int .u8 1)).setCell ⟨sb, 0, none⟩ (.int .u8 3)) (.cells #[.int .u8 0, .slice none 0 0, .slice none 0 0, .int .i64 0] 62)
      simpa using this
  rw [hW1]
  clear hW1 x0 x1 x2 x3 x4 x5 f0
  have HU : Hid (∀ u ∈ us, ∃ a n c, u = .slice a n c) := by
    intro u hu
    obtain ⟨j, hj, rfl⟩ := List.getElem_of_mem hu
    have h1 := HSC.out.uo j _ _ (List.getElem?_eq_getElem hj) (List.getElem?_eq_getElem (by rw [List.length_reverse, HN.out.2.1, ← HN.out.2.2]; exact hj))
    obtain ⟨a, c, e⟩ := rowv_form' h1
    exact ⟨a, _, c, e⟩
  have HO1 : Hid (W1.ownsRow B 24 1 (.slice ra rn rc) us.length us) := by
    have h1 := HSC.out.ro
    rw [HN.out.2.1] at h1
    rw [HN.out.2.2]
    exact owns_blocks h1 fun k cu hc => HW1.out.1 k (Array.getElem?_eq_some_iff.1 hc).1 (HSC.out.not_sb (by decide) hc)
  have H90 := rv90 B (.slice ra rn rc) us W1 HO1.out HU.out
  refine H90.mono ?_
  rintro e w2 ⟨rfl, H2⟩
  clear H90
  obtain ⟨rz, hrz⟩ : ∃ rz, w.heap.size = rz := ⟨_, rfl⟩
  have HT2 : Hid ((∀ (k : Nat) (cu : Array Value) (t : TypeId) (fr : Nat × Nat), t ≠ 24 → W1.heap[k]? = some (Obj.cells cu t fr) → w2.heap[k]? = some (Obj.cells cu t fr)) ∧ (∀ k, k < W1.heap.size → (Value.slice ra rn rc).ownBlock ≠ some k → w2.heap[k]? = W1.heap[k]?) ∧ W1.heap.size ≤ w2.heap.size ∧ Below B W1 w2 ∧ w.heap.size = rz) := by
    have hgr := H2.out.2
    have hz1 := HW1.out.2.2.2.2
    have hlow := HSC.out.low
    refine ⟨fun k cu t fr ht hc => (hgr.block k (Array.getElem?_eq_some_iff.1 hc).1 fun e => ?_).trans hc, fun k hk hne => hgr.block k hk fun e => hne e.symm, hgr.size, (Below.refl B W1).grown hgr (by omega) (fun z hz => (HO1.out.lt z hz).1), hrz⟩
    obtain ⟨cu', e2⟩ := own_typed HO1.out k e.symm
    rw [e2] at hc
    simp only [Option.some.injEq, Obj.cells.injEq] at hc
    exact ht hc.2.1.symm
  have hs2 := HT2.out.1 sb _ _ _ (by decide) HW1.out.2.1
  have hr2 := HT2.out.1 _ _ _ _ (by decide) HW1.out.2.2.1
  rw [hrz] at hr2
  obtain ⟨x0, x1, x2, x3, x4, x5⟩ : w2.cell? ⟨sb, 0, none⟩ = some (.int .u8 3) ∧ w2.cell? ⟨sb, 1, none⟩ = some (.slice ba bn bc) ∧ w2.cell? ⟨sb, 2, none⟩ = some (.slice none 0 0) ∧ w2.cell? ⟨sb, 3, none⟩ = some (.int .i64 (s.d : Int)) ∧ w2.cell? ⟨sb, 4, none⟩ = some (.pointer (some ⟨hb, 0, none⟩)) ∧ w2.cell? ⟨sb, 5, none⟩ = some (.slice ra rn rc) := by
    refine ⟨?_, ?_, ?_, ?_, ?_, ?_⟩ <;> (rw [cell_of_row w2 sb _ _ 104 (0, 0) hs2]; rfl)
  obtain ⟨y0, y1, y2, y3⟩ : w2.cell? ⟨rz, 0, none⟩ = some (.int .u8 0) ∧ w2.cell? ⟨rz, 1, none⟩ = some (.slice none 0 0) ∧ w2.cell? ⟨rz, 2, none⟩ = some (.slice none 0 0) ∧ w2.cell? ⟨rz, 3, none⟩ = some (.int .i64 0) := by
    refine ⟨?_, ?_, ?_, ?_⟩ <;> (rw [cell_of_row w2 rz _ _ 62 (0, 0) hr2]; rfl)
  have f2 : w2.frozen? ⟨sb, 2, none⟩ = false := frozen_of_row w2 sb 2 _ 104 hs2
  have g0 : w2.frozen? ⟨rz, 0, none⟩ = false := frozen_of_row w2 rz 0 _ 62 hr2
  have g1 : w2.frozen? ⟨rz, 1, none⟩ = false := frozen_of_row w2 rz 1 _ 62 hr2
  have g2 : w2.frozen? ⟨rz, 2, none⟩ = false := frozen_of_row w2 rz 2 _ 62 hr2
  have g3 : w2.frozen? ⟨rz, 3, none⟩ = false := frozen_of_row w2 rz 3 _ 62 hr2
  have hsr : ¬ sb = rz := by omega
  have hrs : ¬ rz = sb := by omega
  have HF : Hid (∀ a b c d, SvR B (((((w2.setCell ⟨sb, 2, none⟩ (.slice ra rn rc)).setCell ⟨rz, 0, none⟩ a).setCell ⟨rz, 1, none⟩ b).setCell ⟨rz, 2, none⟩ c).setCell ⟨rz, 3, none⟩ d) (.slice ba bn bc) (.slice ra rn rc) s.bd s.row ∧ Below B w (((((w2.setCell ⟨sb, 2, none⟩ (.slice ra rn rc)).setCell ⟨rz, 0, none⟩ a).setCell ⟨rz, 1, none⟩ b).setCell ⟨rz, 2, none⟩ c).setCell ⟨rz, 3, none⟩ d)) := by
    intro a b c d
    have hlow := HSC.out.low
    have hz2 := HT2.out.2.2.1
    have hz1 := HW1.out.2.2.2.2
    have keep : ∀ k, k ≠ sb → k ≠ rz → (((((w2.setCell ⟨sb, 2, none⟩ (.slice ra rn rc)).setCell ⟨rz, 0, none⟩ a).setCell ⟨rz, 1, none⟩ b).setCell ⟨rz, 2, none⟩ c).setCell ⟨rz, 3, none⟩ d).heap[k]? = w2.heap[k]? := fun k h1 h2 => by
      rw [heap_setCell_other _ ⟨rz, 3, none⟩ k _ h2, heap_setCell_other _ ⟨rz, 2, none⟩ k _ h2, heap_setCell_other _ ⟨rz, 1, none⟩ k _ h2, heap_setCell_other _ ⟨rz, 0, none⟩ k _ h2, heap_setCell_other _ ⟨sb, 2, none⟩ k _ h1]
    have hBr : B ≤ rz := by omega
    refine ⟨?_, (((((HW1.out.2.2.2.1.trans HT2.out.2.2.2.1).setCell (p := ⟨sb, 2, none⟩) hlow.1 _).setCell (p := ⟨rz, 0, none⟩) hBr _).setCell (p := ⟨rz, 1, none⟩) hBr _).setCell (p := ⟨rz, 2, none⟩) hBr _).setCell (p := ⟨rz, 3, none⟩) hBr _⟩
    have h1 := HSC.out
    rw [HN.out.1, HN.out.2.1] at h1
    refine h1.toR (fun k k1 k2 k3 => (keep k k2 (by omega)).trans ((HT2.out.2.1 k (by omega) k3).trans (HW1.out.1 k k1 k2))) ?_
    refine owns_blocks H2.out.1 fun k cu hc => keep k (fun e => ?_) fun e => ?_
    · rw [e, hs2] at hc
      simp at hc
    · rw [e, hr2] at hc
      simp at hc
  have HE : Hid (s.row.length = rn ∧ s.bd.length = bn) := ⟨HN.out.2.1, HN.out.1⟩
  clear hs2 hr2 H2 HO1 HU HW1 HT2 HSC hsb
  rw [hrz]
  clear hrz
  go_wp2_with fail
  exact bodyPost_ret (v := .agg #[.int .u8 3, .slice ba bn bc, .slice ra rn rc, .int .i64 s.d]) (by simp [results, Tryz.results61, go_sem, y0, y1, y2, y3]) rfl ⟨ba, bn, bc, ra, rn, rc, rfl, (HF.out _ _ _ _).1, (HF.out _ _ _ _).2⟩
end Go.Proofs.YtljggjllijacjaaGreatDoor
