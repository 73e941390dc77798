/- The program's Drop and Fork. -/
import Derived.Test.YtojobiefambkoaaGreatDoorIH
import Derived.Maps.Views
import Derived.Shelf.SlMaps.Clone
namespace Go.Proofs.YtojobiefambkoaaGreatDoor
open Go.RowKit
attribute [local go_sem ↓] Go.wp_at_zero Go.wp_at_succ
def delH (m : Hp) (x : Nm) : Hp := m.filter fun p => !(p.1 == x)
def dropH (m : Hp) (xs : List Nm) : Hp := xs.foldl delH m
theorem look_filter {m : Hp} {q : Nm → Bool} {y : Nm} (hq : q y = true) : lookH (m.filter fun p => q p.1) y = lookH m y := by
  induction m with
  | nil => rfl
  | cons p r ih =>
    unfold lookH at ih ⊢
    by_cases h : p.1 = y
    · have h1 : (p.1 == y) = true := by simpa using h
      rw [List.filter_cons, if_pos (by rw [h]; exact hq)]
      simp [h1]
    · have h1 : (p.1 == y) = false := by simpa using h
      rw [List.filter_cons]
      split
      · simp only [List.find?_cons, h1]
        exact ih
      · simp only [List.find?_cons, h1]
        exact ih
theorem look_filter_no {m : Hp} {q : Nm → Bool} {y : Nm} (hq : q y = false) : lookH (m.filter fun p => q p.1) y = none := by
  induction m with
  | nil => rfl
  | cons p r ih =>
    rw [List.filter_cons]
    split
    · next h =>
      have h1 : (p.1 == y) = false := by
        simp only [beq_eq_false_iff_ne]
        intro e
        rw [e, hq] at h
        cases h
      unfold lookH at ih ⊢
      simp only [List.find?_cons, h1]
      exact ih
    · exact ih
theorem look_del (m : Hp) (x y : Nm) : lookH (delH m x) y = if y = x then none else lookH m y := by
  unfold delH
  split
  · next e =>
    subst e
    exact look_filter_no (q := fun z => !(z == y)) (by simp)
  · next e => exact look_filter (q := fun z => !(z == x)) (by simpa using e)
theorem dropH_eq (m : Hp) : ∀ xs : List Nm, dropH m xs = m.filter fun p => !hasN xs p.1 := fun xs => by
  unfold dropH
  induction xs generalizing m with
  | nil => exact (List.filter_eq_self.2 (by simp [hasN])).symm
  | cons x r ih =>
    rw [List.foldl_cons, ih]
    unfold delH
    rw [List.filter_filter]
    congr 1
    funext p
    have e : hasN (x :: r) p.1 = (p.1 == x || hasN r p.1) := by
      rw [Bool.eq_iff_iff, hasN_iff, Bool.or_eq_true, hasN_iff, beq_iff_eq, List.mem_cons]
    rw [e]
    cases (p.1 == x) <;> cases hasN r p.1 <;> rfl
theorem drop_snoc (m : Hp) (xs : List Nm) (x : Nm) : dropH m (xs ++ [x]) = delH (dropH m xs) x := by simp [dropH]
/-- Behind Drop. -/
def DrP (w : World) (hb M n : Nat) (D : DataW Value) (m : Hp) (xs : List Nm) (w' : World) : Prop := ∃ D', HpAt w' hb M n D' (dropH m xs) ∧ KeepsBut M w w' ∧ ∀ V, VB D V → VB D' V
theorem vb_del {D : DataW Value} {V : Nat → Prop} {x : Nm} (hx : wfN x) (hV : VB D V) : VB (D.del (kLit x)) V := by
  intro y v hy h g hg
  by_cases e : y = x
  · subst e
    have h1 := h (.held (.bool true))
    have h2 := h (.held (.bool false))
    rw [Maps.atKey_del_same] at h1 h2
    cases h1
    cases h2
  · exact hV y v hy (fun z => by have := h z; rw [Maps.atKey_del_other fun e' => e (kLit_inj hy hx e')] at this; exact this) g hg
/-- Behind a delete. -/
theorem HpAt.del {w : World} {hb M n : Nat} {D : DataW Value} {m : Hp} {x : Nm} (h : HpAt w hb M n D m) (hx : wfN x) : ∃ w', (Builtin.delete_ #[92, 49] 0 #[.map (some M), .agg #[.int .i64 x.1, .int .i64 x.2]]).run Tryz.prog w = .ok (.tuple #[]) w' ∧ HpAt w' hb M n (D.del (kLit x)) (delH m x) ∧ w.mapTurned w' M := by
  obtain ⟨w', r1, r2, r3⟩ := h.map.drop keyed23 Tryz.underlying92 (key23 x hx) 0
  have hg := r3.grown
  have hne : hb ≠ M := fun e => by
    obtain ⟨es, ck, h2, _⟩ := h.map
    have h1 := h.blk
    rw [e, h2] at h1
    cases h1
  refine ⟨w', r1, ⟨(hg.block hb (Array.getElem?_eq_some_iff.1 h.blk).1 (by simpa using hne)).trans h.blk, r2, fun y hy hl => ?_, fun y l hy hl => ?_, fun y l hl hv => ?_, fun y l hl => ?_⟩, r3⟩
  · rw [look_del] at hl
    split at hl
    · next e => subst e; exact Maps.has_del_same
    · next e =>
      rw [Maps.has_del_other fun e' => e (kLit_inj hy hx e')]
      exact h.no y hy hl
  · rw [look_del] at hl
    split at hl
    · cases hl
    · next e =>
      obtain ⟨v, k1, k2⟩ := h.yes y l hy hl
      exact ⟨v, fun z => by rw [Maps.atKey_del_other fun e' => e (kLit_inj hy hx e')]; exact k1 z, k2.turned r3⟩
  · rw [look_del] at hl
    split at hl
    · cases hl
    · exact h.desc y l hl hv
  · rw [look_del] at hl
    split at hl
    · cases hl
    · exact h.wf y l hl
end Go.Proofs.YtojobiefambkoaaGreatDoor
