/- A drawn region that calls twice, lays two boxes and fills them: what stays. Contracts of the functions behind equal and unlike; the parts of a term in memory. -/
import Derived.Test.YtaehhophaaipdaaGreatDoorGDg
import Derived.Deep.RegionHeld3
import Derived.Test.YtaehhophaaipdaaGreatDoorQKg
namespace Go.Proofs.YtaehhophaaipdaaGreatDoor
open Go.RowKit
/-- More may be held from here on. -/
theorem wpAnyH_more {P : Program} {md : Region.Mode} {ops : Array Oper} {Q : Exit → Act → World → Prop} {S S' : World → Prop} (h : ∀ w, S' w → S w) : ∀ (fuel : Nat) (listed : Array Bool) (a : Act) (w : World), wpAnyH P md ops Q S' fuel listed a w → wpAnyH P md ops Q S fuel listed a w
 | 0, _, _, _, hh => hh
 | fuel + 1, _, _, _, hh => ⟨hh.1, fun i hi => wpOp_mono (fun a' w' h3 => ⟨h w' h3.1, wpAnyH_more h fuel _ a' w' h3.2⟩) (hh.2 i hi)⟩
abbrev LS0 (bl lb : Nat) (p : Option Addr) (w' : World) : Prop := w'.cell? ⟨bl, 0, none⟩ = some (pv lb) ∧ w'.cell? ⟨lb, 0, none⟩ = some (.pointer p)
abbrev LC (b o : Nat) (c : C) (w' : World) : Prop := w'.cell? ⟨b, o, none⟩ = some (.int .u8 c.k) ∧ w'.cell? ⟨b, o + 1, none⟩ = some (.string c.t) ∧ w'.cell? ⟨b, o + 2, none⟩ = some (.int .i64 c.n) ∧ w'.cell? ⟨b, o + 3, none⟩ = some (.int .i64 c.vn) ∧ w'.cell? ⟨b, o + 4, none⟩ = some (.int .i64 c.vk)
/-- What a step leaves: all blocks but one. -/
structure Stp (W W' : World) (x : Option Nat) : Prop where
 keep : ∀ q, q < W.heap.size → x ≠ some q → W'.heap[q]? = W.heap[q]?
 size : W.heap.size ≤ W'.heap.size
 bel : ∀ w1 : World, Below w1.heap.size w1 W → (∀ b, x = some b → w1.heap.size ≤ b) → Below w1.heap.size w1 W'
theorem Stp.call {W W' : World} (h : Below W.heap.size W W') : Stp W W' none := ⟨fun q hq _ => h.block q hq, h.size, fun _ h1 _ => h1.trans (h.mono h1.size)⟩
theorem Stp.alloc (W : World) (o : Obj) : Stp W (W.alloc o) none := Stp.call (below_alloc _ _)
abbrev fill5 (W : World) (b : Nat) (c : C) : World := ((((W.setCell ⟨b, 0, none⟩ (.int .u8 c.k)).setCell ⟨b, 1, none⟩ (.string c.t)).setCell ⟨b, 2, none⟩ (.int .i64 c.n)).setCell ⟨b, 3, none⟩ (.int .i64 c.vn)).setCell ⟨b, 4, none⟩ (.int .i64 c.vk)
theorem Stp.store (W : World) (b : Nat) (c : C) : Stp W (fill5 W b c) (some b) := by
 refine ⟨fun q _ hne => ?_, ?_, fun w1 h1 hx => ?_⟩
 ·have hqb : q ≠ b := fun e => hne (by rw [e])
  unfold fill5
  rw [heap_setCell_other _ ⟨b, 4, none⟩ q _ hqb, heap_setCell_other _ ⟨b, 3, none⟩ q _ hqb, heap_setCell_other _ ⟨b, 2, none⟩ q _ hqb, heap_setCell_other _ ⟨b, 1, none⟩ q _ hqb, heap_setCell_other _ ⟨b, 0, none⟩ q _ hqb]
 ·have h0 : Below 0 W (fill5 W b c) := (((((Below.refl 0 W).setCell (p := ⟨b, 0, none⟩) (Nat.zero_le _) _).setCell (p := ⟨b, 1, none⟩) (Nat.zero_le _) _).setCell (p := ⟨b, 2, none⟩) (Nat.zero_le _) _).setCell (p := ⟨b, 3, none⟩) (Nat.zero_le _) _).setCell (p := ⟨b, 4, none⟩) (Nat.zero_le _) _
  exact h0.size
 ·exact ((((h1.setCell (p := ⟨b, 0, none⟩) (hx b rfl) _).setCell (p := ⟨b, 1, none⟩) (hx b rfl) _).setCell (p := ⟨b, 2, none⟩) (hx b rfl) _).setCell (p := ⟨b, 3, none⟩) (hx b rfl) _).setCell (p := ⟨b, 4, none⟩) (hx b rfl) _
theorem LS0.stp {bl lb : Nat} {p : Option Addr} {W W' : World} {x : Option Nat} (h : LS0 bl lb p W) (s : Stp W W' x) (h1 : x ≠ some bl) (h2 : x ≠ some lb) : LS0 bl lb p W' :=
 ⟨(World.cell?_of_block (a := ⟨bl, 0, none⟩) (s.keep bl (World.block_lt_of_cell? W _ h.1) h1)).trans h.1, (World.cell?_of_block (a := ⟨lb, 0, none⟩) (s.keep lb (World.block_lt_of_cell? W _ h.2) h2)).trans h.2⟩
theorem LC.stp {b o : Nat} {c : C} {W W' : World} {x : Option Nat} (h : LC b o c W) (s : Stp W W' x) (h1 : x ≠ some b) : LC b o c W' := by
 have k := s.keep b (World.block_lt_of_cell? W _ h.1) h1
 obtain ⟨a0, a1, a2, a3, a4⟩ := h
 exact ⟨(World.cell?_of_block (a := ⟨b, o, none⟩) k).trans a0, (World.cell?_of_block (a := ⟨b, o + 1, none⟩) k).trans a1, (World.cell?_of_block (a := ⟨b, o + 2, none⟩) k).trans a2, (World.cell?_of_block (a := ⟨b, o + 3, none⟩) k).trans a3, (World.cell?_of_block (a := ⟨b, o + 4, none⟩) k).trans a4⟩
/-- A box: empty, or filled. -/
def Bz (w1 W : World) (b : Nat) : Prop := W.heap[b]? = some (.cells zCells 69 (0, 0)) ∧ w1.heap.size ≤ b
def Bc (w1 W : World) (b : Nat) (c : C) : Prop := W.heap[b]? = some (.cells #[.int .u8 c.k, .string c.t, .int .i64 c.n, .int .i64 c.vn, .int .i64 c.vk] 69 (0, 0)) ∧ w1.heap.size ≤ b
theorem Bz.stp {w1 W W' : World} {b : Nat} {x : Option Nat} (h : Bz w1 W b) (s : Stp W W' x) (h1 : x ≠ some b) : Bz w1 W' b := ⟨(s.keep b (Array.getElem?_eq_some_iff.1 h.1).1 h1).trans h.1, h.2⟩
theorem Bc.stp {w1 W W' : World} {b : Nat} {c : C} {x : Option Nat} (h : Bc w1 W b c) (s : Stp W W' x) (h1 : x ≠ some b) : Bc w1 W' b c := ⟨(s.keep b (Array.getElem?_eq_some_iff.1 h.1).1 h1).trans h.1, h.2⟩
theorem Bz.lt {w1 W : World} {b : Nat} (h : Bz w1 W b) : b < W.heap.size := (Array.getElem?_eq_some_iff.1 h.1).1
theorem Bz.new {w1 W : World} (h : Below w1.heap.size w1 W) : Bz w1 (W.alloc (.cells zCells 69)) W.heap.size := ⟨heap_alloc_new _ _, h.size⟩
theorem Bz.fill {w1 W : World} {b : Nat} (c : C) (h : Bz w1 W b) : Bc w1 (fill5 W b c) b c := ⟨gset5 c h.1, h.2⟩
theorem LC.lt {b o : Nat} {c : C} {W : World} (h : LC b o c W) : b < W.heap.size := World.block_lt_of_cell? W _ h.1
/-- What Deref tells here. -/
structure Dr (W W' : World) (b o : Nat) (c : C) : Prop where
 cells : LC b o c W'
 new : W.heap.size ≤ b
 bel : Below W.heap.size W W'
end Go.Proofs.YtaehhophaaipdaaGreatDoor

namespace Go.Proofs.YtaehhophaaipdaaGreatDoor
open Go.RowKit
attribute [local go_sem ↓] Go.wp_at_zero Go.wp_at_succ
/-- Two cells in boxes of their own. -/
theorem two_cells (w : World) (a b : C) (W : World) (h : Below ((w.alloc (.cells #[.int .u8 a.k, .string a.t, .int .i64 a.n, .int .i64 a.vn, .int .i64 a.vk] 69)).alloc (.cells #[.int .u8 b.k, .string b.t, .int .i64 b.n, .int .i64 b.vn, .int .i64 b.vk] 69)).heap.size ((w.alloc (.cells #[.int .u8 a.k, .string a.t, .int .i64 a.n, .int .i64 a.vn, .int .i64 a.vk] 69)).alloc (.cells #[.int .u8 b.k, .string b.t, .int .i64 b.n, .int .i64 b.vn, .int .i64 b.vk] 69)) W) :
  LC w.heap.size 0 a W ∧ LC (w.heap.size + 1) 0 b W ∧ Below w.heap.size w W := by
 obtain ⟨h1, h2, h3⟩ := gBox2 w (.cells #[.int .u8 a.k, .string a.t, .int .i64 a.n, .int .i64 a.vn, .int .i64 a.vk] 69) (.cells #[.int .u8 b.k, .string b.t, .int .i64 b.n, .int .i64 b.vn, .int .i64 b.vk] 69)
 have g1 := (h.block w.heap.size (by simp; omega)).trans h1
 have g2 := (h.block (w.heap.size + 1) (by simp)).trans h2
 refine ⟨⟨?_, ?_, ?_, ?_, ?_⟩, ⟨?_, ?_, ?_, ?_, ?_⟩, h3.trans (h.mono h3.size)⟩
 ·rw [cell_of_row W _ _ _ 69 (0, 0) g1]; rfl
 ·rw [cell_of_row W _ _ _ 69 (0, 0) g1]; rfl
 ·rw [cell_of_row W _ _ _ 69 (0, 0) g1]; rfl
 ·rw [cell_of_row W _ _ _ 69 (0, 0) g1]; rfl
 ·rw [cell_of_row W _ _ _ 69 (0, 0) g1]; rfl
 ·rw [cell_of_row W _ _ _ 69 (0, 0) g2]; rfl
 ·rw [cell_of_row W _ _ _ 69 (0, 0) g2]; rfl
 ·rw [cell_of_row W _ _ _ 69 (0, 0) g2]; rfl
 ·rw [cell_of_row W _ _ _ 69 (0, 0) g2]; rfl
 ·rw [cell_of_row W _ _ _ 69 (0, 0) g2]; rfl
set_option maxRecDepth 100000 in
set_option maxHeartbeats 2000000 in
theorem z121 (a b : C) (w : World) : Calls Tryz.prog 121 #[cellV a, cellV b] w fun e w' => e = .returned (.bool (eqlB a b)) ∧ Hid (Below w.heap.size w w') := by
 have HT : Hid (∀ W, _ → _) := fun W h => two_cells w a b W h
 obtain ⟨⟨a0, a1, a2, a3, a4⟩, _, _⟩ := HT.out _ (Below.refl _ _)
 simp only [Nat.zero_add] at a0 a1 a2 a3 a4
 have H122 := fun W => z122 a W
 have hE := fun W => eql60 a.k a.t a.n a.vn a.vk b.k b.t b.n b.vn b.vk W
 cases hs : simB a
 ·have HE : Hid (eqlB a b = false) := by show eqlB a b = false; unfold eqlB; rw [hs]; rfl
  rw [HE.out]
  rw [hs] at H122
  go_enter Tryz.func121, Tryz.ntmps121
  go_wp2_with fail
  refine (H122 _).mono ?_
  rintro e w2 ⟨rfl, H2⟩
  have HF : Hid (Below w.heap.size w w2) := (HT.out w2 H2.out).2.2
  clear H2 H122 HT hE
  go_wp2_with fail
  go_ret
  exact ⟨rfl, HF⟩
 ·have HE : Hid (eqlB a b = eqCells a.k a.t a.n a.vn a.vk b.k b.t b.n b.vn b.vk) := by show eqlB a b = _; unfold eqlB; rw [hs]; rfl
  rw [HE.out]
  rw [hs] at H122
  generalize eqCells a.k a.t a.n a.vn a.vk b.k b.t b.n b.vn b.vk = Q at *
  go_enter Tryz.func121, Tryz.ntmps121
  go_wp2_with fail
  refine (H122 _).mono ?_
  rintro e w2 ⟨rfl, H2⟩
  obtain ⟨⟨d0, d1, d2, d3, d4⟩, ⟨f0, f1, f2, f3, f4⟩, HF⟩ := HT.out w2 H2.out
  simp only [Nat.zero_add] at d0 d1 d2 d3 d4 f0 f1 f2 f3 f4
  have HF : Hid (Below w.heap.size w w2) := HF
  clear H2 H122 HT
  go_wp2_with fail
  go_ret
  exact ⟨rfl, HF⟩
set_option maxRecDepth 100000 in
set_option maxHeartbeats 2000000 in
theorem z124 (a b : C) (w : World) : Calls Tryz.prog 124 #[cellV a, cellV b] w fun e w' => e = .returned (.bool (unlB a b)) ∧ Hid (Below w.heap.size w w') := by
 have HT : Hid (∀ W, _ → _) := fun W h => two_cells w a b W h
 obtain ⟨⟨a0, a1, a2, a3, a4⟩, ⟨b0, b1, b2, b3, b4⟩, H0⟩ := HT.out _ (Below.refl _ _)
 have H0 : Hid _ := H0
 simp only [Nat.zero_add] at a0 a1 a2 a3 a4 b0 b1 b2 b3 b4
 have H122 := fun W => z122 a W
 have G122 := fun W => z122 b W
 have hE := fun W => neq60 a.k a.t a.n a.vn a.vk b.k b.t b.n b.vn b.vk W
 have e1 : eqCells a.k a.t a.n a.vn a.vk b.k b.t b.n b.vn b.vk = eqC a b := rfl
 rw [e1] at hE
 clear e1
 cases hq : eqC a b
 ·rw [hq] at hE
  simp only [Bool.not_false] at hE
  cases hs : simB a
  ·have HE : Hid (unlB a b = simB b) := by show unlB a b = _; unfold unlB; rw [hq, hs]; rfl
   rw [HE.out]
   rw [hs] at H122
   clear hq hs
   generalize simB b = Q at *
   go_enter Tryz.func124, Tryz.ntmps124
   go_wp2_with fail
   refine (H122 _).mono ?_
   rintro e w2 ⟨rfl, H2⟩
   obtain ⟨_, ⟨f0, f1, f2, f3, f4⟩, HF⟩ := HT.out w2 H2.out
   simp only [Nat.zero_add] at f0 f1 f2 f3 f4
   have HF : Hid (Below w.heap.size w w2) := HF
   clear H2 H122 HT
   go_wp2_with fail
   refine (G122 _).mono ?_
   rintro e w3 ⟨rfl, H3⟩
   have HG : Hid (Below w.heap.size w w3) := HF.out.trans (H3.out.mono HF.out.size)
   clear H3 G122
   go_wp2_with fail
   go_ret
   exact ⟨rfl, HG⟩
  ·have HE : Hid (unlB a b = true) := by show unlB a b = _; unfold unlB; rw [hq, hs]; rfl
   rw [HE.out]
   rw [hs] at H122
   clear hq hs
   go_enter Tryz.func124, Tryz.ntmps124
   go_wp2_with fail
   refine (H122 _).mono ?_
   rintro e w2 ⟨rfl, H2⟩
   have HF : Hid (Below w.heap.size w w2) := (HT.out w2 H2.out).2.2
   clear H2 H122 HT
   go_wp2_with fail
   go_ret
   exact ⟨rfl, HF⟩
 ·have HE : Hid (unlB a b = false) := by show unlB a b = false; unfold unlB; rw [hq]; rfl
  rw [HE.out]
  rw [hq] at hE
  simp only [Bool.not_true] at hE
  clear hq
  go_enter Tryz.func124, Tryz.ntmps124
  go_wp2_with fail
  go_ret
  exact ⟨rfl, H0⟩
/-- What Deref tells of a term in memory. -/
theorem dr_of (m : Hp) (hm : HpOk m) (p : Option Addr) (t : List C) (v : Value) (W : World) (e : C) (r : List C) (hp : HpV W (.pointer p) m) (hT : TermAt W v t) (hW : ∀ x ∈ t, wfN (x.vn, x.vk)) (ht : t.length * 48 ≤ 140737488355328) (hf : IsFol m t (e :: r)) :
  Calls Tryz.prog 102 #[.pointer p, v] W fun e' w' => ∃ b2 o2 cz, e' = .returned (.slice (some ⟨b2, o2, none⟩) (r.length + 1) cz) ∧ Hid (Dr W w' b2 o2 e) := by
 refine (h15 m (.pointer p) t v W hp hT hW ht (fun x l h => (hm x l h).2)).mono ?_
 rintro e' w' ⟨u, l', rfl, h1, h2, h3, h4⟩
 obtain rfl : l' = e :: r := h2.uniq hf
 obtain ⟨b2, o2, cap2, rfl, _, HC2⟩ := head_cells h1
 exact ⟨b2, o2, cap2, rfl, HC2.out w' (Below.refl _ _), h3 b2 rfl, h4⟩
/-- The two parts of a structure, in memory. -/
theorem term_mid {w : World} {b o cap : Nat} {c : C} {x y : List C} (h : w.rangeAt b o (flat (c :: (x ++ y)))) (hb : b < w.heap.size) (hl : x.length + y.length + 1 ≤ cap) (hc : cap ≤ maxLen) (ht : ∀ z ∈ c :: (x ++ y), z.t.size ≤ maxLen) :
  TermAt w (.slice (some ⟨b, o + 5, none⟩) x.length (cap - 1)) x ∧ TermAt w (.slice (some ⟨b, o + (x.length + 1) * 5, none⟩) y.length (cap - (x.length + 1))) y := by
 have e : flat (c :: (x ++ y)) = c.vals ++ (flat x ++ flat y) := by simp [flat]
 have h5 : c.vals.length = 5 := rfl
 have hx := flat_length x
 refine ⟨⟨⟨by omega, fun z hz => ht z (by simp [hz])⟩, .inr ⟨b, o + 5, cap - 1, rfl, by omega, by omega, fun j u hu => ?_, hb⟩⟩, ⟨⟨by omega, fun z hz => ht z (by simp [hz])⟩, .inr ⟨b, o + (x.length + 1) * 5, cap - (x.length + 1), rfl, by omega, by omega, fun j u hu => ?_, hb⟩⟩⟩
 ·have hj := (List.getElem?_eq_some_iff.1 hu).1
  have := h (5 + j) u (by rw [e, List.getElem?_append_right (by omega), h5, Nat.add_sub_cancel_left, List.getElem?_append_left hj]; exact hu)
  rwa [show o + 5 + j = o + (5 + j) by omega]
 ·have := h (5 + (5 * x.length + j)) u (by rw [e, List.getElem?_append_right (by omega), h5, Nat.add_sub_cancel_left, List.getElem?_append_right (by omega), hx, Nat.add_sub_cancel_left]; exact hu)
  rwa [show o + (x.length + 1) * 5 + j = o + (5 + (5 * x.length + j)) by omega]
end Go.Proofs.YtaehhophaaipdaaGreatDoor
