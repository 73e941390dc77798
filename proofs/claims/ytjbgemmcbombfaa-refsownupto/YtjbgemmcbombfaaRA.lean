/- Keys that are a variable and a node; a table of references in memory; contracts of New and of the small functions. -/
import Derived.Test.YtjbgemmcbombfaaJR
import Derived.Test.YtjbgemmcbombfaaMP
import Derived.Test.YtjbgemmcbombfaaProg
import Derived.DeepKeys4
import Derived.WalkKit
import Derived.WalkSpells
import Derived.WalkLawsBesides
import Derived.Deep.QuietTactic
import Derived.BigQuiet
import Derived.Deep.RegionLaw
import Derived.Deep.DrawnRows
import Derived.Deep.AppendLies
import Derived.Deep.MidRow
import Derived.Deep.RegionHeld3
namespace Go.Proofs.Ytjbgemmcbombfaa
open Go.RowKit
attribute [local go_sem ↓] Go.wp_at_zero Go.wp_at_succ
abbrev Nm := Int × Int
/-- A variable, and a node. -/
abbrev Hk := Nm × Int
def wfI (x : Int) : Prop := (Lit.int .i64 x).wf = true
def wfN (x : Nm) : Prop := wfI x.1 ∧ wfI x.2
def wfK (x : Hk) : Prop := wfN x.1 ∧ wfI x.2
def kLit (x : Hk) : Lit := .string (keyBytes [.int .i64 x.1.1, .int .i64 x.1.2, .int .i64 x.2])
def kV (x : Hk) : Value := .agg #[.int .i64 x.1.1, .int .i64 x.1.2, .int .i64 x.2]
theorem law87 : WideMaps.KeyLaw Try.prog 87 := deep_law_laid (by kernel_rfl) (m := 3) (by omega) (of_decide_eq_true (by kernel_rfl)) (by kernel_rfl) (by rw [Try.underlying87])
theorem key87 (x : Hk) (h : wfK x) : keyOf Try.prog 87 (kV x) = some (kLit x) := by
  obtain ⟨⟨h1, h2⟩, h3⟩ := h
  unfold wfI at h1 h2 h3
  have hk : Try.prog.keyType 87 = true := by kernel_rfl
  have hc : Try.prog.cellsOf 87 = 3 := by kernel_rfl
  have hc48 : Try.prog.cellsOf 48 = 2 := by kernel_rfl
  have hc3 : Try.prog.cellsOf 3 = 1 := by kernel_rfl
  have hs : ∃ n, Try.prog.types.size = n + 2 := ⟨Try.prog.types.size - 2, by have : 1 < Try.prog.types.size := of_decide_eq_true (by kernel_rfl); omega⟩
  obtain ⟨n, hs⟩ := hs
  have hf : (kV x).formed Try.prog 87 = true := by simp [kV, Value.formed, Try.underlying87, hc]
  unfold keyOf
  rw [Try.underlying87]
  simp only [hk, hf, Bool.and_self, if_true, hs]
  simp [Program.keyLits, Try.underlying87, Try.underlying48, Try.underlying3, hc, hc48, hc3, kV, Value.cells, h1, h2, h3, kLit]
  rw [if_pos]
  · simp
  · intro i hi
    match i, hi with
    | 0, _ => simp
    | 1, _ => simp
theorem kLit_inj {x y : Hk} (hx : wfK x) (hy : wfK y) (h : kLit x = kLit y) : x = y := by
  have h1 := key87 x hx
  have h2 := key87 y hy
  rw [← h] at h2
  have h3 := law87.inj h1 h2
  simp [kV] at h3
  exact Prod.ext (Prod.ext h3.1 h3.2.1) h3.2.2
def hkK : Key Try.prog 87 Hk := ⟨kV, kLit, wfK, law87, key87, fun _ _ hx hy h => kLit_inj hx hy h⟩
/-- Counts as elements of a map: what is 0 is not there. -/
def cF (f : Hk → Int) : Hk → Option Value := fun x => if f x = 0 then none else some (.int .i64 (f x))
theorem cF_get (f : Hk → Int) (x : Hk) : (cF f x).getD (.int .i64 0) = .int .i64 (f x) := by
  unfold cF
  split
  · next h => rw [h]; rfl
  · rfl
/-- One count has so many more. -/
def addF (f : Hk → Int) (k : Hk) (t : Int) : Hk → Int := fun y => if y = k then IntKind.i64.wrap (f k + t) else f y
/-- A table: whose it is, how many nodes; its exports and imports. -/
structure RtAt (w : World) (B tb eb ib n : Nat) (own nodes : Int) (f g : Hk → Int) : Prop where
  blk : w.heap[tb]? = some (.cells #[.int .i64 own, .int .i64 nodes, .map (some eb), .map (some ib)] 81 (0, 0))
  ex : MpAt hkK w eb n (cF f)
  im : MpAt hkK w ib n (cF g)
  ne : eb ≠ ib
  hb : B ≤ eb ∧ B ≤ ib
section
variable {w w' : World} {B tb eb ib n : Nat} {own nodes : Int} {f g : Hk → Int}
theorem RtAt.lt (h : RtAt w B tb eb ib n own nodes f g) : tb < w.heap.size := (Array.getElem?_eq_some_iff.1 h.blk).1
theorem RtAt.keeps (h : RtAt w B tb eb ib n own nodes f g) (h1 : w'.heap[tb]? = w.heap[tb]?) (h2 : w'.heap[eb]? = w.heap[eb]?) (h3 : w'.heap[ib]? = w.heap[ib]?) : RtAt w' B tb eb ib n own nodes f g :=
  ⟨h1.trans h.blk, h.ex.keeps h2, h.im.keeps h3, h.ne, h.hb⟩
theorem RtAt.below (h : RtAt w B tb eb ib n own nodes f g) (hb : Below w.heap.size w w') : RtAt w' B tb eb ib n own nodes f g :=
  h.keeps (hb.block _ h.lt) (hb.block _ h.ex.lt) (hb.block _ h.im.lt)
theorem RtAt.cells (h : RtAt w B tb eb ib n own nodes f g) : w.cell? ⟨tb, 0, none⟩ = some (.int .i64 own) ∧ w.cell? ⟨tb, 1, none⟩ = some (.int .i64 nodes) ∧ w.cell? ⟨tb, 2, none⟩ = some (.map (some eb)) ∧ w.cell? ⟨tb, 3, none⟩ = some (.map (some ib)) :=
  ⟨by rw [cell_of_row w tb 0 _ 81 (0, 0) h.blk]; rfl, by rw [cell_of_row w tb 1 _ 81 (0, 0) h.blk]; rfl, by rw [cell_of_row w tb 2 _ 81 (0, 0) h.blk]; rfl, by rw [cell_of_row w tb 3 _ 81 (0, 0) h.blk]; rfl⟩
end
/-- What a call on a table leaves as it was. -/
structure RtTo (w w' : World) (eb ib : Nat) : Prop where
  os : w'.os = w.os
  tape : w'.tape = w.tape
  output : w'.output = w.output
  size : w.heap.size ≤ w'.heap.size
  block : ∀ k, k < w.heap.size → k ≠ eb → k ≠ ib → w'.heap[k]? = w.heap[k]?
theorem RtTo.of {w w' : World} {eb ib : Nat} (h : Below w.heap.size w w') : RtTo w w' eb ib := ⟨h.os, h.tape, h.output, h.size, fun k hk _ _ => h.block k hk⟩
theorem RtTo.trans {w w1 w2 : World} {eb ib : Nat} (h : RtTo w w1 eb ib) (k : RtTo w1 w2 eb ib) : RtTo w w2 eb ib :=
  ⟨k.os.trans h.os, k.tape.trans h.tape, k.output.trans h.output, Nat.le_trans h.size k.size, fun j hj h1 h2 => (k.block j (Nat.lt_of_lt_of_le hj h.size) h1 h2).trans (h.block j hj h1 h2)⟩
theorem RtTo.below {w w' : World} {B eb ib : Nat} (k : RtTo w w' eb ib) (h1 : B ≤ eb) (h2 : B ≤ ib) (hB : B ≤ w.heap.size) : Below B w w' :=
  ⟨k.os, k.tape, k.output, k.size, fun j hj => k.block j (by omega) (by omega) (by omega)⟩
theorem below_dN {B : Nat} {w0 w : World} (h : Below B w0 w) (n : Nat) : Below B w0 (w.drewN n) := ⟨h.os, h.tape, h.output, h.size, fun k hk => h.block k hk⟩
def isN (nodes k : Int) : Bool := decide (0 ≤ k) && decide (k < nodes)
set_option maxRecDepth 100000 in
theorem r31 (own nodes k : Int) (w : World) : Calls Try.prog 31 #[.agg #[.int .i64 own, .int .i64 nodes], .int .i64 k] w fun e w' => e = .returned (.bool (isN nodes k)) ∧ Below w.heap.size w w' := by
  have hb : Below w.heap.size w (w.alloc (.cells #[.int .i64 own, .int .i64 nodes] 76)) := (Below.refl _ w).alloc (Nat.le_refl _) _
  by_cases h0 : 0 ≤ k
  · have h0' : k ≥ 0 := h0
    have e : isN nodes k = decide (k < nodes) := by simp [isN, h0]
    rw [e]
    go_enter Try.func31, Try.ntmps31
    go_wp2_with fail
    go_ret
    exact ⟨rfl, hb⟩
  · have h0' : ¬ k ≥ 0 := h0
    have e : isN nodes k = false := by simp [isN, h0]
    rw [e]
    go_enter Try.func31, Try.ntmps31
    go_wp2_with fail
    go_ret
    exact ⟨rfl, hb⟩
theorem box2 {w : World} {b : Nat} {x y : Value} {t : TypeId} (h : w.heap[b]? = some (.cells #[x, y] t (0, 0))) : w.cell? ⟨b, 0, none⟩ = some x ∧ w.cell? ⟨b, 1, none⟩ = some y :=
  ⟨by rw [cell_of_row w b 0 _ t (0, 0) h]; rfl, by rw [cell_of_row w b 1 _ t (0, 0) h]; rfl⟩
theorem box3 {w : World} {b : Nat} {x y z : Value} {t : TypeId} (h : w.heap[b]? = some (.cells #[x, y, z] t (0, 0))) : w.cell? ⟨b, 0, none⟩ = some x ∧ w.cell? ⟨b, 1, none⟩ = some y ∧ w.cell? ⟨b, 2, none⟩ = some z :=
  ⟨by rw [cell_of_row w b 0 _ t (0, 0) h]; rfl, by rw [cell_of_row w b 1 _ t (0, 0) h]; rfl, by rw [cell_of_row w b 2 _ t (0, 0) h]; rfl⟩
set_option maxRecDepth 100000 in
theorem r50 (own nodes k : Int) (w : World) : Calls Try.prog 50 #[.agg #[.int .i64 own, .int .i64 nodes], .int .i64 k] w fun e w' => e = .returned (.bool (isN nodes k && !decide (k = own))) ∧ Below w.heap.size w w' := by
  obtain ⟨W, hW⟩ : ∃ W, w.alloc (.cells #[.int .i64 own, .int .i64 nodes] 76) = W := ⟨_, rfl⟩
  have HB : Hid (Below w.heap.size w W) := by rw [← hW]; exact (Below.refl _ w).alloc (Nat.le_refl _) _
  have hc : W.heap[w.heap.size]? = some (.cells #[.int .i64 own, .int .i64 nodes] 76 (0, 0)) := by rw [← hW]; exact heap_alloc_new w _
  have hlt : w.heap.size < W.heap.size := by rw [← hW]; simp
  obtain ⟨c0, c1⟩ := box2 hc
  have H31 : Calls Try.prog 31 #[.agg #[.int .i64 own, .int .i64 nodes], .int .i64 k] W fun e w' => e = .returned (.bool (isN nodes k)) ∧ Hid (Below w.heap.size w w') ∧ w'.cell? ⟨w.heap.size, 0, none⟩ = some (.int .i64 own) := by
    refine (r31 own nodes k W).mono ?_
    rintro e w' ⟨rfl, hb⟩
    exact ⟨rfl, HB.out.trans (hb.mono HB.out.size), (box2 ((hb.block _ hlt).trans hc)).1⟩
  clear hc hlt
  cases hq : isN nodes k
  · rw [hq] at H31
    go_enter Try.func50, Try.ntmps50
    go_wp2_with fail
    refine H31.mono ?_
    rintro e w1 ⟨rfl, H1, d0⟩
    go_wp2_with fail
    go_ret
    exact ⟨rfl, H1.out⟩
  · rw [hq] at H31
    by_cases hk : k = own
    · subst hk
      go_enter Try.func50, Try.ntmps50
      go_wp2_with fail
      refine H31.mono ?_
      rintro e w1 ⟨rfl, H1, d0⟩
      go_wp2_with fail
      go_ret
      exact ⟨by simp, H1.out⟩
    · go_enter Try.func50, Try.ntmps50
      go_wp2_with fail
      refine H31.mono ?_
      rintro e w1 ⟨rfl, H1, d0⟩
      go_wp2_with fail
      go_ret
      exact ⟨by simp [hk], H1.out⟩
end Go.Proofs.Ytjbgemmcbombfaa
