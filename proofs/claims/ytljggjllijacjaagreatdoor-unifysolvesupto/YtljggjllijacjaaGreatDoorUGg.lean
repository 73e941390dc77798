/- The document's Step: its result in memory, and what it tells where a side is not global. Contract of the document's Step. -/
import Derived.Test.YtljggjllijacjaaGreatDoorUVg
import Derived.Test.YtljggjllijacjaaGreatDoorXAg
namespace Go.Proofs.YtljggjllijacjaaGreatDoor
open Go.RowKit
attribute [local go_sem ↓] Go.wp_at_zero Go.wp_at_succ
/-- The cells of the document's result are as they were made. -/
def Ft (w wr : World) : Prop := Below (w.heap.size + 1) (w.alloc (.cells #[.int .i64 0, .int .i64 0, .int .i64 0, .slice none 0 0, .slice none 0 0] 40)) wr
theorem Ft.blk {w wr : World} (h : Ft w wr) : wr.heap[w.heap.size]? = some (.cells #[.int .i64 0, .int .i64 0, .int .i64 0, .slice none 0 0, .slice none 0 0] 40 (0, 0)) := by
 have h' : Below (w.heap.size + 1) (w.alloc (.cells #[.int .i64 0, .int .i64 0, .int .i64 0, .slice none 0 0, .slice none 0 0] 40)) wr := h
 exact (h'.block w.heap.size (by omega)).trans (heap_alloc_new w _)
theorem Ft.cells {w wr : World} (h : Ft w wr) : (wr.cell? ⟨w.heap.size, 0, none⟩ = some (.int .i64 0) ∧ wr.cell? ⟨w.heap.size, 1, none⟩ = some (.int .i64 0) ∧ wr.cell? ⟨w.heap.size, 2, none⟩ = some (.int .i64 0) ∧ wr.cell? ⟨w.heap.size, 3, none⟩ = some (.slice none 0 0) ∧ wr.cell? ⟨w.heap.size, 4, none⟩ = some (.slice none 0 0)) ∧ ∀ j, wr.frozen? ⟨w.heap.size, j, none⟩ = false := by
 have hb := h.blk
 refine ⟨⟨?_, ?_, ?_, ?_, ?_⟩, fun j => frozen_of_row wr _ j _ 40 hb⟩ <;> (rw [cell_of_row wr _ _ _ 40 (0, 0) hb]; rfl)
theorem Ft.low {w wr w' : World} (h : Ft w wr) (hb : Below wr.heap.size wr w') : Ft w w' := Below.trans h (hb.mono (by have := Below.size h; simp at this; omega))
theorem Ft.bel {w wr : World} (h : Ft w wr) : Below w.heap.size w wr := ((Below.refl w.heap.size w).alloc (Nat.le_refl _) _).trans (Below.mono h (by omega))
/-- A term that is not empty does not lie in the result's own cells. -/
theorem Ft.term {w wr : World} (h : Ft w wr) {v : Value} {l : List C} (hT : TermAt wr v l) (hl : l ≠ []) (a b c d e : Value) : TermAt (put49 wr w.heap.size a b c d e) v l := by
 refine hT.keeps fun g hg => put49_other _ _ _ _ _ _ _ _ (fun eg => ?_)
 rcases hT.2 with ⟨h0, _⟩ | ⟨bb, o, cap, hf, _, _, hr, _⟩
 ·exact hl h0
 ·subst hf
  have hgb : bb = g := by simpa [Value.ownBlock] using hg
  subst hgb eg
  obtain ⟨p0, _⟩ := term_cells hr 0 (List.length_pos_iff.2 hl)
  simp only [Nat.zero_mul, Nat.add_zero] at p0
  rw [cell_of_row wr _ _ _ 40 (0, 0) h.blk] at p0
  match o with
  | 0 => cases p0
  | 1 => cases p0
  | 2 => cases p0
  | 3 => cases p0
  | 4 => cases p0
  | n + 5 => simp at p0
/-- What the document's Step tells. -/
def StR (k : Int) (V : Nm) (T : List C) (P : List (List C)) (e : Ending) (w w' : World) : Prop := ∃ ta tn tc pa pn pc, e = .returned (.agg #[.int .i64 k, .int .i64 V.1, .int .i64 V.2, .slice ta tn tc, .slice pa pn pc]) ∧ TermAt w' (.slice ta tn tc) T ∧ RowAt w' (.slice pa pn pc) P ∧ Below w.heap.size w w'
theorem row_nil (w : World) : RowAt w (.slice none 0 0) [] := ⟨by simp [maxLen], .inl ⟨rfl, none, rfl⟩⟩
theorem stR_plain {w wr : World} (h : Ft w wr) (k : Int) (a b c d e : Value) : StR k (0, 0) [] [] (.returned (.agg #[.int .i64 k, .int .i64 0, .int .i64 0, .slice none 0 0, .slice none 0 0])) w (put49 wr w.heap.size a b c d e) :=
 ⟨none, 0, 0, none, 0, 0, rfl, term_nil _ none, row_nil _, put49_bel h.bel (Nat.le_refl _) a b c d e⟩
set_option maxRecDepth 100000 in
set_option maxHeartbeats 2000000 in
theorem r12_no (q : Option Addr) (l1 l2 : List C) (v1 v2 : Value) (w : World) (hT1 : TermAt w v1 l1) (hT2 : TermAt w v2 l2) (hno : (globalB l1 && globalB l2) = false) :
  Calls Tryz.prog 12 #[.pointer q, v1, v2] w fun e w' => StR 4 (0, 0) [] [] e w w' := by
 have HG1 : Hid (∀ W, Below w.heap.size w W → Calls Tryz.prog 44 #[v1] W fun e w' => e = .returned (.bool (globalB l1)) ∧ Below W.heap.size W w') := fun W hW => by rw [global_same]; exact c37 l1 v1 W (hT1.below hW)
 have HG2 : Hid (∀ W, Below w.heap.size w W → Calls Tryz.prog 44 #[v2] W fun e w' => e = .returned (.bool (globalB l2)) ∧ Below W.heap.size W w') := fun W hW => by rw [global_same]; exact c37 l2 v2 W (hT2.below hW)
 have HF0 : Hid (Ft w (w.alloc (.cells #[.int .i64 0, .int .i64 0, .int .i64 0, .slice none 0 0, .slice none 0 0] 40))) := by
  show Below _ _ _
  exact Below.refl _ _
 obtain ⟨a0, c0, hf⟩ := hT1.form
 subst hf
 obtain ⟨b0, d0, hf⟩ := hT2.form
 subst hf
 have HE : Hid (∀ W, Ft w W → ∀ a b c d e, StR 4 (0, 0) [] [] (.returned (.agg #[.int .i64 4, .int .i64 0, .int .i64 0, .slice none 0 0, .slice none 0 0])) w (put49 W w.heap.size a b c d e)) := fun W hW a b c d e => stR_plain hW 4 a b c d e
 clear hT1 hT2
 generalize globalB l1 = g1 at *
 generalize globalB l2 = g2 at *
 cases g1
 ·go_enter Tryz.func12, Tryz.ntmps12
  go_wp2_with fail
  refine (HG1.out _ HF0.out.bel).mono ?_
  rintro e w1 ⟨rfl, hb1⟩
  have HF1 : Hid (Ft w w1) := HF0.out.low hb1
  obtain ⟨⟨s0, s1, s2, s3, s4⟩, sf⟩ := HF1.out.cells
  have f0 := sf 0
  have f1 := sf 1
  have f2 := sf 2
  have f3 := sf 3
  have f4 := sf 4
  have HX : Hid (∀ a b c d e, StR 4 (0, 0) [] [] (.returned (.agg #[.int .i64 4, .int .i64 0, .int .i64 0, .slice none 0 0, .slice none 0 0])) w (put49 w1 w.heap.size a b c d e)) := HE.out _ HF1.out
  clear sf HG1 HG2 hb1
  go_wp2_with fail
  exact bodyPost_ret (v := .agg #[.int .i64 4, .int .i64 0, .int .i64 0, .slice none 0 0, .slice none 0 0]) (by simp [results, Tryz.results12, go_sem, s0, s1, s2, s3, s4]) rfl (HX.out _ _ _ _ _)
 ·obtain rfl : g2 = false := by simpa using hno
  go_enter Tryz.func12, Tryz.ntmps12
  go_wp2_with fail
  refine (HG1.out _ HF0.out.bel).mono ?_
  rintro e w1 ⟨rfl, hb1⟩
  have HF1 : Hid (Ft w w1) := HF0.out.low hb1
  clear HG1 hb1
  go_wp2_with fail
  refine (HG2.out _ HF1.out.bel).mono ?_
  rintro e w2 ⟨rfl, hb2⟩
  have HF2 : Hid (Ft w w2) := HF1.out.low hb2
  obtain ⟨⟨s0, s1, s2, s3, s4⟩, sf⟩ := HF2.out.cells
  have f0 := sf 0
  have f1 := sf 1
  have f2 := sf 2
  have f3 := sf 3
  have f4 := sf 4
  have HX : Hid (∀ a b c d e, StR 4 (0, 0) [] [] (.returned (.agg #[.int .i64 4, .int .i64 0, .int .i64 0, .slice none 0 0, .slice none 0 0])) w (put49 w2 w.heap.size a b c d e)) := HE.out _ HF2.out
  clear sf HG2 hb2
  go_wp2_with fail
  exact bodyPost_ret (v := .agg #[.int .i64 4, .int .i64 0, .int .i64 0, .slice none 0 0, .slice none 0 0]) (by simp [results, Tryz.results12, go_sem, s0, s1, s2, s3, s4]) rfl (HX.out _ _ _ _ _)
end Go.Proofs.YtljggjllijacjaaGreatDoor

namespace Go.Proofs.YtljggjllijacjaaGreatDoor
open Go.RowKit
attribute [local go_sem ↓] Go.wp_at_zero Go.wp_at_succ
theorem head_var {l : List C} (h : rightB l = true) (hv : ((hdC l).k == 4) = true) : (hdC l).k = 4 ∧ (hdC l).t.toList = (⟨#[]⟩ : ByteArray).toList ∧ (hdC l).n = 0 := by
 have hk : (hdC l).k = 4 := by simpa using hv
 match l, h, hk with
 | [], h, _ => simp [rightB] at h
 | c :: r, h, hk =>
  have hk : c.k = 4 := hk
  show c.k = 4 ∧ c.t.toList = (⟨#[]⟩ : ByteArray).toList ∧ c.n = 0
  unfold rightB cellsB at h
  simp only [Bool.and_eq_true, List.all_cons] at h
  have hc : cellB c.k c.t c.n c.vn c.vk = true := h.1.2.1
  rw [hk] at hc
  unfold cellB at hc
  rw [if_neg (by decide), if_neg (by decide), if_neg (by decide), if_pos rfl] at hc
  unfold eqCells at hc
  simp only [Bool.and_eq_true, beq_iff_eq] at hc
  exact ⟨hk, hc.1.1.1.1.2, hc.1.1.1.2⟩
theorem eq_vars {a b : List C} (ha : rightB a = true) (hb : rightB b = true) (va : ((hdC a).k == 4) = true) (vb : ((hdC b).k == 4) = true) : eqC (hdC a) (hdC b) = ((hdC a).vn == (hdC b).vn && (hdC a).vk == (hdC b).vk) := by
 obtain ⟨a1, a2, a3⟩ := head_var ha va
 obtain ⟨b1, b2, b3⟩ := head_var hb vb
 unfold eqC eqCells
 rw [a1, a2, a3, b1, b2, b3]
 simp
theorem eq_kinds {a b : C} (h : (a.k == b.k) = false) : eqC a b = false := by
 unfold eqC eqCells
 rw [h]; rfl
theorem eq32 (a b c d : Int) (w : World) : (binOp .eql 32 (.agg #[.int .i64 a, .int .i64 b]) (.agg #[.int .i64 c, .int .i64 d])).run Tryz.prog w = .ok (.bool (a == c && b == d)) w := by
 by_cases h1 : a = c
 ·by_cases h2 : b = d
  ·subst h1 h2; go_simp
  ·have e : (a == c && b == d) = false := by simp [h2]
   rw [e]; go_simp
 ·have e : (a == c && b == d) = false := by simp [h1]
  rw [e]; go_simp
/-- Deref of the document by a map: what it leads to. -/
def DerQ (w0 : World) (p : Value) (m : Hp) : Prop := ∀ (W : World) (t : List C) (v : Value), Below w0.heap.size w0 W → TermAt W v t → (∀ c ∈ t, wfN (c.vn, c.vk)) → t ≠ [] → Calls Tryz.prog 45 #[p, v] W fun e w' => ∃ a n cp l', e = .returned (.slice a n cp) ∧ TermAt w' (.slice a n cp) l' ∧ IsFol m t l' ∧ Below W.heap.size W w'
theorem derQ_rf {w0 : World} {G : Nat → Prop} {rt : Nat} {bs : List Bn} (h : RfH w0 G rt bs) (hup : RisesH (hpOf bs)) (hD : DescH (hpOf bs)) (hwf : ∀ x l, lookH (hpOf bs) x = some l → wfN x ∧ ∀ c ∈ l, wfN (c.vn, c.vk)) (hn : bs.length ≤ 3518437208780) : DerQ w0 (.pointer (some ⟨rt, 0, none⟩)) (hpOf bs) := fun W t v hb hT hW hne =>
 (z15 G rt bs t v W (h.below hb) hup hD hwf hn hT hW hne).mono fun _ _ ⟨a, k, c, l', h1, h2⟩ => ⟨a, k, c, l', h1, h2.out.1.below h2.out.2.2.2, h2.out.2.2.1, h2.out.2.2.2⟩
/-- What holds of both sides behind Deref. -/
structure Gs (w w4 : World) (g1 o1 c1 g2 o2 c2 : Nat) (a b : List C) : Prop where
 ft : Ft w w4
 ta : TermAt w4 (.slice (some ⟨g1, o1, none⟩) a.length c1) a
 tb : TermAt w4 (.slice (some ⟨g2, o2, none⟩) b.length c2) b
 ra : rightB a = true
 rb : rightB b = true
theorem Gs.na {w w4 : World} {g1 o1 c1 g2 o2 c2 : Nat} {a b : List C} (h : Gs w w4 g1 o1 c1 g2 o2 c2 a b) : a ≠ [] := fun e => by
 have := h.ra; rw [e] at this; simp [rightB] at this
theorem Gs.nb {w w4 : World} {g1 o1 c1 g2 o2 c2 : Nat} {a b : List C} (h : Gs w w4 g1 o1 c1 g2 o2 c2 a b) : b ≠ [] := fun e => by
 have := h.rb; rw [e] at this; simp [rightB] at this
theorem Gs.low {w w4 w' : World} {g1 o1 c1 g2 o2 c2 : Nat} {a b : List C} (h : Gs w w4 g1 o1 c1 g2 o2 c2 a b) (hb : Below w4.heap.size w4 w') : Gs w w' g1 o1 c1 g2 o2 c2 a b := ⟨h.ft.low hb, h.ta.below hb, h.tb.below hb, h.ra, h.rb⟩
theorem term_at {w : World} {v : Value} {l : List C} (h : TermAt w v l) (hl : l ≠ []) : ∃ g o c, v = .slice (some ⟨g, o, none⟩) l.length c ∧ w.rangeAt g o (flat l) := by
 rcases h.2 with ⟨h0, _⟩ | ⟨b, o, c, h1, _, _, h3, _⟩
 ·exact absurd h0 hl
 ·exact ⟨b, o, c, h1, h3⟩
/-- Both heads are read. -/
theorem Gs.cells {w w4 : World} {g1 o1 c1 g2 o2 c2 : Nat} {a b : List C} (h : Gs w w4 g1 o1 c1 g2 o2 c2 a b) :
  (w4.cell? ⟨g1, o1, none⟩ = some (.int .u8 (hdC a).k) ∧ w4.cell? ⟨g1, o1 + 1, none⟩ = some (.string (hdC a).t) ∧ w4.cell? ⟨g1, o1 + 2, none⟩ = some (.int .i64 (hdC a).n) ∧ w4.cell? ⟨g1, o1 + 3, none⟩ = some (.int .i64 (hdC a).vn) ∧ w4.cell? ⟨g1, o1 + 4, none⟩ = some (.int .i64 (hdC a).vk)) ∧
  (w4.cell? ⟨g2, o2, none⟩ = some (.int .u8 (hdC b).k) ∧ w4.cell? ⟨g2, o2 + 1, none⟩ = some (.string (hdC b).t) ∧ w4.cell? ⟨g2, o2 + 2, none⟩ = some (.int .i64 (hdC b).n) ∧ w4.cell? ⟨g2, o2 + 3, none⟩ = some (.int .i64 (hdC b).vn) ∧ w4.cell? ⟨g2, o2 + 4, none⟩ = some (.int .i64 (hdC b).vk)) := by
 have la := List.length_pos_iff.2 h.na
 have lb := List.length_pos_iff.2 h.nb
 obtain ⟨x, y, z, e1, r1⟩ := term_at h.ta h.na
 obtain ⟨x2, y2, z2, e2, r2⟩ := term_at h.tb h.nb
 cases e1
 cases e2
 have p := term_cells r1 0 la
 have q := term_cells r2 0 lb
 simp only [Nat.zero_mul, Nat.add_zero, hd_get la] at p
 simp only [Nat.zero_mul, Nat.add_zero, hd_get lb] at q
 exact ⟨p, q⟩
end Go.Proofs.YtljggjllijacjaaGreatDoor
