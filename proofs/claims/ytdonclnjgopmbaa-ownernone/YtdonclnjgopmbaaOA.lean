/- Keys that are names; a table in memory; contracts of New, copied, Contains, SameInts. -/
import Derived.Test.YtdonclnjgopmbaaJR
import Derived.Test.YtdonclnjgopmbaaMP
import Derived.Test.YtdonclnjgopmbaaProg
import Derived.DeepKeys4
import Derived.WalkKit
import Derived.WalkSpells
import Derived.WalkLawsBesides
import Derived.Deep.QuietTactic
import Derived.BigQuiet
import Derived.Deep.RegionLaw
import Derived.Deep.DrawnRows
import Derived.Deep.AppendLies
import Derived.Deep.MidRow
import Derived.Deep.RegionHeld3
import Derived.Laws.CopyOwn
namespace Go.Proofs.Ytdonclnjgopmbaa
open Go.RowKit
attribute [local go_sem ↓] Go.wp_at_zero Go.wp_at_succ
abbrev Nm := Int × Int
def wfN (x : Nm) : Prop := (Lit.int .i64 x.1).wf = true ∧ (Lit.int .i64 x.2).wf = true
def kLit (x : Nm) : Lit := .string (keyBytes [.int .i64 x.1, .int .i64 x.2])
theorem law28 : WideMaps.KeyLaw Try.prog 28 := deep_law_laid (by kernel_rfl) (m := 2) (by omega) (of_decide_eq_true (by kernel_rfl)) (by kernel_rfl) (by rw [Try.underlying28])
theorem key28 (x : Nm) (h : wfN x) : keyOf Try.prog 28 (.agg #[.int .i64 x.1, .int .i64 x.2]) = some (kLit x) := by
  obtain ⟨h1, h2⟩ := h
  have hk : Try.prog.keyType 28 = true := by kernel_rfl
  have hc : Try.prog.cellsOf 28 = 2 := by kernel_rfl
  have hc3 : Try.prog.cellsOf 3 = 1 := by kernel_rfl
  have hs : ∃ n, Try.prog.types.size = n + 1 := ⟨Try.prog.types.size - 1, by have : 0 < Try.prog.types.size := of_decide_eq_true (by kernel_rfl); omega⟩
  obtain ⟨n, hs⟩ := hs
  have hf : (Value.agg #[.int .i64 x.1, .int .i64 x.2]).formed Try.prog 28 = true := by simp [Value.formed, Try.underlying28, hc]
  unfold keyOf
  rw [Try.underlying28]
  simp only [hk, hf, Bool.and_self, if_true, hs]
  simp [Program.keyLits, Try.underlying28, Try.underlying3, hc, hc3, Value.cells, h1, h2, kLit]
theorem kLit_inj {x y : Nm} (hx : wfN x) (hy : wfN y) (h : kLit x = kLit y) : x = y := by
  have h1 := key28 x hx
  have h2 := key28 y hy
  rw [← h] at h2
  have h3 := law28.inj h1 h2
  simp at h3
  exact Prod.ext h3.1 h3.2
def nmK : Key Try.prog 28 Nm := ⟨fun x => .agg #[.int .i64 x.1, .int .i64 x.2], kLit, wfN, law28, key28, fun _ _ hx hy h => kLit_inj hx hy h⟩
/-- A slice. -/
structure Sl where
  a : Option Addr
  n : Nat
  c : Nat
def Sl.v (s : Sl) : Value := .slice s.a s.n s.c
def i64s (xs : List Int) : List Value := xs.map (Value.int .i64)
@[simp] theorem i64s_length (xs : List Int) : (i64s xs).length = xs.length := by simp [i64s]
theorem i64s_append (xs ys : List Int) : i64s (xs ++ ys) = i64s xs ++ i64s ys := by simp [i64s]
theorem i64s_one (xs : List Int) : ∀ v ∈ i64s xs, v.oneCell' = true := by
  intro v hv
  obtain ⟨x, _, rfl⟩ := List.mem_map.1 hv
  rfl
theorem infoI64 : ∃ i, Try.prog.info? 3 = some i ∧ i.zero = some (.int .i64 0) ∧ i.size = 1 ∧ i.bytes = 8 := by
  have h : (Try.prog.info? 3).map (fun i => (i.zero, i.size, i.bytes)) = some (some (.int .i64 0), 1, 8) := by kernel_rfl
  cases hq : Try.prog.info? 3 with
  | none => rw [hq] at h; cases h
  | some i =>
    rw [hq] at h
    simp only [Option.map_some, Option.some.injEq, Prod.mk.injEq] at h
    exact ⟨i, rfl, h.1, h.2.1, h.2.2⟩
/-- A table: who waits for what (m), in rows of its own (s); what is wanted (q). -/
structure TbAt (w : World) (B tb rb wb n : Nat) (s : Nm → Sl) (m : Nm → List Int) (q : Nm → Bool) : Prop where
  blk : w.heap[tb]? = some (.cells #[.map (some rb), .map (some wb)] 47 (0, 0))
  rows : MpAt nmK w rb n (fun x => if m x = [] then none else some (s x).v)
  want : MpAt nmK w wb n (fun x => if q x = true then some (.agg #[]) else none)
  row : ∀ x, wfN x → Row w B 3 (s x).a (s x).n (s x).c (i64s (m x))
  nil : ∀ x, m x = [] → s x = ⟨none, 0, 0⟩
  apart : ∀ x y g, wfN x → wfN y → x ≠ y → Go.Proofs.Ytdonclnjgopmbaa.blk (s x).a = some g → Go.Proofs.Ytdonclnjgopmbaa.blk (s y).a ≠ some g
  rw : rb ≠ wb
  hb : B ≤ rb ∧ B ≤ wb
section
variable {w w' : World} {B tb rb wb n : Nat} {s : Nm → Sl} {m : Nm → List Int} {q : Nm → Bool}
theorem TbAt.keeps (h : TbAt w B tb rb wb n s m q) (h1 : w'.heap[tb]? = w.heap[tb]?) (h2 : w'.heap[rb]? = w.heap[rb]?) (h3 : w'.heap[wb]? = w.heap[wb]?) (h4 : ∀ x g, wfN x → Go.Proofs.Ytdonclnjgopmbaa.blk (s x).a = some g → w'.heap[g]? = w.heap[g]?) : TbAt w' B tb rb wb n s m q :=
  ⟨h1.trans h.blk, h.rows.keeps h2, h.want.keeps h3, fun x hx => (h.row x hx).keeps fun g hg => h4 x g hx hg, h.nil, h.apart, h.rw, h.hb⟩
theorem TbAt.lt (h : TbAt w B tb rb wb n s m q) : tb < w.heap.size := (Array.getElem?_eq_some_iff.1 h.blk).1
theorem TbAt.below (h : TbAt w B tb rb wb n s m q) (hb : Below w.heap.size w w') : TbAt w' B tb rb wb n s m q :=
  h.keeps (hb.block _ h.lt) (hb.block _ h.rows.lt) (hb.block _ h.want.lt) fun x g hx hg => hb.block g ((h.row x hx).lt hg).2
theorem TbAt.cells (h : TbAt w B tb rb wb n s m q) : w.cell? ⟨tb, 0, none⟩ = some (.map (some rb)) ∧ w.cell? ⟨tb, 1, none⟩ = some (.map (some wb)) :=
  ⟨by rw [cell_of_row w tb 0 _ 47 (0, 0) h.blk]; rfl, by rw [cell_of_row w tb 1 _ 47 (0, 0) h.blk]; rfl⟩
theorem Row.type {e : TypeId} {a : Option Addr} {k c : Nat} {xs : List Value} (h : Row w B e a k c xs) {g : Nat} (hg : blk a = some g) : ∃ cu : Array Value, w.heap[g]? = some (.cells cu e (0, 0)) := by
  rcases h.mem with ⟨rfl, _⟩ | ⟨g', cu, rfl, _, h2, _⟩
  · cases hg
  · cases hg; exact ⟨cu, h2⟩
theorem TbAt.look (h : TbAt w B tb rb wb n s m q) {x : Nm} (hx : wfN x) : (Instr.lookup 44 (.map (some rb)) (.agg #[.int .i64 x.1, .int .i64 x.2]) false).run Try.prog w = .ok (s x).v w := by
  have hz : (zeroValue 34).run Try.prog w = .ok (.slice none 0 0) w := by go_simp
  have h1 := h.rows.look Try.underlying44 hz (x := x) hx
  refine h1.trans ?_
  by_cases hm : m x = []
  · simp only [hm, if_true, Option.getD_none]
    rw [h.nil x hm]; rfl
  · simp only [hm, if_false, Option.getD_some]
theorem TbAt.look2 (h : TbAt w B tb rb wb n s m q) {x : Nm} (hx : wfN x) : (Instr.lookup 45 (.map (some wb)) (.agg #[.int .i64 x.1, .int .i64 x.2]) true).run Try.prog w = .ok (.tuple #[.agg #[], .bool (q x)]) w := by
  have hz : (zeroValue 52).run Try.prog w = .ok (.agg #[]) w := by go_simp
  have h1 := h.want.look_ok Try.underlying45 hz (x := x) hx
  refine h1.trans ?_
  cases hq : q x <;> simp
end
set_option maxRecDepth 100000 in
theorem o7 (w : World) : Calls Try.prog 7 #[] w fun e w' => e = .returned (.pointer (some ⟨w.heap.size + 2, 0, none⟩)) ∧ TbAt w' w.heap.size (w.heap.size + 2) w.heap.size (w.heap.size + 1) 0 (fun _ => ⟨none, 0, 0⟩) (fun _ => []) (fun _ => false) ∧ Below w.heap.size w w' := by
  have HB : Hid (TbAt (((w.alloc (.map #[] 0)).alloc (.map #[] 0)).alloc (.cells #[.map (some w.heap.size), .map (some (w.heap.size + 1))] 47)) w.heap.size (w.heap.size + 2) w.heap.size (w.heap.size + 1) 0 (fun _ => ⟨none, 0, 0⟩) (fun _ => []) (fun _ => false) ∧ Below w.heap.size w (((w.alloc (.map #[] 0)).alloc (.map #[] 0)).alloc (.cells #[.map (some w.heap.size), .map (some (w.heap.size + 1))] 47))) := by
    refine ⟨⟨?_, ?_, ?_, fun x _ => row_nil _ _ _, fun x _ => rfl, fun x y g _ _ _ e => by (cases e), by omega, by omega⟩, (((Below.refl _ w).alloc (Nat.le_refl _) _).alloc (by simp) _).alloc (by simp; omega) _⟩
    · have := heap_alloc_new ((w.alloc (.map #[] 0)).alloc (.map #[] 0)) (.cells #[.map (some w.heap.size), .map (some (w.heap.size + 1))] 47)
      simpa using this
    · simp only [if_true]
      refine (mp_made nmK w).keeps ?_
      rw [heap_alloc_old _ _ (by simp; omega), heap_alloc_old _ _ (by simp)]
    · simp only [Bool.false_eq_true, if_false]
      have h1 := mp_made nmK (w.alloc (.map #[] 0))
      simp only [World.size_alloc] at h1
      refine h1.keeps ?_
      rw [heap_alloc_old _ _ (by simp)]
  have hmm := @run_makeMap Try.prog
  go_enter Try.func7, Try.ntmps7
  go_wp2_with fail
  go_ret
  exact ⟨rfl, HB.out⟩
end Go.Proofs.Ytdonclnjgopmbaa
