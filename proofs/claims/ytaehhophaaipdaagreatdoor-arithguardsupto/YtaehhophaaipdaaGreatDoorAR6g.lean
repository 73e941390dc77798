/- What arith looks by: contract of wait. -/
import Derived.Test.YtaehhophaaipdaaGreatDoorAR4g
import Derived.Test.YtaehhophaaipdaaGreatDoorQFg
import Derived.Deep.AppendLies
namespace Go.Proofs.YtaehhophaaipdaaGreatDoor
open Go.RowKit
attribute [local go_sem ↓] Go.wp_at_zero Go.wp_at_succ
/-- All blocks stay that hold neither a look nor names. -/
def KeepT (w w' : World) : Prop := w.heap.size ≤ w'.heap.size ∧ ∀ (k : Nat) (cs : Array Value) (t : TypeId) (fr : Nat × Nat), w.heap[k]? = some (Obj.cells cs t fr) → t ≠ 85 → t ≠ 60 → w'.heap[k]? = some (Obj.cells cs t fr)
theorem KeepT.refl (w : World) : KeepT w w := ⟨Nat.le_refl _, fun _ _ _ _ h _ _ => h⟩
theorem KeepT.trans {a b c : World} (h : KeepT a b) (k : KeepT b c) : KeepT a c := ⟨Nat.le_trans h.1 k.1, fun i cs t fr hi h1 h2 => k.2 i cs t fr (h.2 i cs t fr hi h1 h2) h1 h2⟩
theorem KeepT.of_below {w w' : World} (h : Below w.heap.size w w') : KeepT w w' := ⟨h.size, fun k _ _ _ hk _ _ => (h.block k (Array.getElem?_eq_some_iff.1 hk).1).trans hk⟩
/-- A look at lb: its heap, its operators, the names it waits for, each once. -/
structure LkAt (w : World) (base lb : Nat) (p : Value) (B g M n : Nat) (nv : Value) (names : List Nm) : Prop where
 blk : w.heap[lb]? = some (.cells #[p, .slice (some ⟨g, 0, none⟩) 8 8, nv, .map (some M)] 85 (0, 0))
 hlb : base ≤ lb
 hM : base ≤ M
 ops : OpsAt w B g
 row : w.ownsRow base 60 2 nv names.length (flatN names)
 met : w.ownsMap Tryz.prog 60 (unitElem (H := Unit)) M n (setD names)
 wf : ∀ x ∈ names, wfN x
theorem LkAt.below {w w' : World} {base lb : Nat} {p : Value} {B g M n : Nat} {nv : Value} {names : List Nm} (h : LkAt w base lb p B g M n nv names) (hb : Below w.heap.size w w') : LkAt w' base lb p B g M n nv names :=
 ⟨(hb.block lb (Array.getElem?_eq_some_iff.1 h.blk).1).trans h.blk, h.hlb, h.hM, h.ops.below hb, owns_below h.row hb, h.met.kept (below_grown hb) (by simp), h.wf⟩
theorem LkAt.lookup {w : World} {base lb : Nat} {p : Value} {B g M n : Nat} {nv : Value} {names : List Nm} (h : LkAt w base lb p B g M n nv names) (x : Nm) (hx : wfN x) : (Instr.lookup 83 (.map (some M)) (.agg #[.int .i64 x.1, .int .i64 x.2]) true).run Tryz.prog w = .ok (.tuple #[.agg #[], .bool (hasN names x)]) w := by
 obtain ⟨v, ps, hrun, hR⟩ := h.met.look_ok keyed23 Tryz.underlying83 (z := .agg #[]) (by go_simp) unitElem_mk (key23 x hx)
 obtain ⟨rfl, _⟩ := unitElem_inv hR
 rw [hrun, has_setD names x h.wf hx]
abbrev WtS (lb M bx : Nat) (x1 x2 : Int) (f : Bool) (w' : World) : Prop :=
 w'.cell? ⟨lb, 3, none⟩ = some (.map (some M)) ∧ w'.cell? ⟨bx, 0, none⟩ = some (.int .i64 x1) ∧ w'.cell? ⟨bx, 1, none⟩ = some (.int .i64 x2) ∧ (Instr.lookup 83 (.map (some M)) (.agg #[.int .i64 x1, .int .i64 x2]) true).run Tryz.prog w' = .ok (.tuple #[.agg #[], .bool f]) w'
theorem LkAt.cells {w : World} {base lb : Nat} {p : Value} {B g M n : Nat} {nv : Value} {names : List Nm} (h : LkAt w base lb p B g M n nv names) : w.cell? ⟨lb, 0, none⟩ = some p ∧ w.cell? ⟨lb, 1, none⟩ = some (.slice (some ⟨g, 0, none⟩) 8 8) ∧ w.cell? ⟨lb, 2, none⟩ = some nv ∧ w.cell? ⟨lb, 3, none⟩ = some (.map (some M)) := by
 refine ⟨?_, ?_, ?_, ?_⟩
 ·rw [cell_of_row w lb 0 _ 85 (0, 0) h.blk]; rfl
 ·rw [cell_of_row w lb 1 _ 85 (0, 0) h.blk]; rfl
 ·rw [cell_of_row w lb 2 _ 85 (0, 0) h.blk]; rfl
 ·rw [cell_of_row w lb 3 _ 85 (0, 0) h.blk]; rfl
abbrev PtS3 (lb M bx : Nat) (x1 x2 : Int) (w' : World) : Prop :=
 w'.cell? ⟨lb, 3, none⟩ = some (.map (some M)) ∧ w'.cell? ⟨bx, 0, none⟩ = some (.int .i64 x1) ∧ w'.cell? ⟨bx, 1, none⟩ = some (.int .i64 x2)
/-- Between the map's update and the row's. -/
structure LkMid (w : World) (base lb : Nat) (p : Value) (B g M n : Nat) (nv : Value) (names : List Nm) (x : Nm) : Prop where
 blk : w.heap[lb]? = some (.cells #[p, .slice (some ⟨g, 0, none⟩) 8 8, nv, .map (some M)] 85 (0, 0))
 hlb : base ≤ lb
 hM : base ≤ M
 ops : OpsAt w B g
 row : w.ownsRow base 60 2 nv names.length (flatN names)
 met : w.ownsMap Tryz.prog 60 (unitElem (H := Unit)) M (n + 1) (setD (names ++ [x]))
 wf : ∀ y ∈ names ++ [x], wfN y
theorem Below.of_turn {w w' : World} {M base : Nat} (h : w.drew.mapTurned w' M) (hM : base ≤ M) : Below base w w' := by
 have hg := h.grown
 obtain ⟨es, ck, _, _, hm, _⟩ := h
 have hlt : M < w.heap.size := (Array.getElem?_eq_some_iff.1 hm).1
 exact ⟨hg.os, hg.tape, hg.output, hg.size, fun k hk => hg.block k (Nat.lt_trans (Nat.lt_of_lt_of_le hk hM) hlt) (by simp; omega)⟩
theorem KeepT.of_turn {w w' : World} {M : Nat} (h : w.drew.mapTurned w' M) : KeepT w w' := by
 have hg := h.grown
 obtain ⟨es, ck, _, _, hm, _⟩ := h
 refine ⟨hg.size, fun k cs t fr hk _ _ => ?_⟩
 refine (hg.block k (Array.getElem?_eq_some_iff.1 hk).1 (fun e => ?_)).trans hk
 simp only [Option.some.injEq] at e
 rw [e] at hk
 have hm' : w.heap[M]? = some (.map es ck) := hm
 rw [hm'] at hk
 cases hk
theorem LkAt.mid {w w' : World} {base lb : Nat} {p : Value} {B g M n : Nat} {nv : Value} {names : List Nm} {x : Nm} (h : LkAt w base lb p B g M n nv names) (hx : wfN x) (hm : w'.ownsMap Tryz.prog 60 (unitElem (H := Unit)) M (n + 1) ((setD names).put (kLit x) (.agg []))) (ht : w.drew.mapTurned w' M) : LkMid w' base lb p B g M n nv names x := by
 have hg := ht.grown
 obtain ⟨es, ck, hMb, _⟩ := h.met
 have hne : ∀ (k : Nat) (cs : Array Value) (t : TypeId) (fr : Nat × Nat), w.heap[k]? = some (Obj.cells cs t fr) → k ≠ M := fun k cs t fr hk e => by rw [e, hMb] at hk; cases hk
 have hkp : ∀ (k : Nat) (cs : Array Value) (t : TypeId) (fr : Nat × Nat), w.heap[k]? = some (Obj.cells cs t fr) → w'.heap[k]? = some (Obj.cells cs t fr) := fun k cs t fr hk => (hg.block k (Array.getElem?_eq_some_iff.1 hk).1 (by simpa using hne k cs t fr hk)).trans hk
 refine ⟨hkp _ _ _ _ h.blk, h.hlb, h.hM, ⟨hkp _ _ _ _ h.ops.row, fun k hk => hkp _ _ _ _ (h.ops.box k hk)⟩, ?_, by rw [setD_snoc]; exact hm, ?_⟩
 ·refine ⟨h.row.1, ?_⟩
  rcases h.row.2 with hh | ⟨g', cap, cur, e1, e2, e3, e4⟩
  ·exact .inl hh
  ·exact .inr ⟨g', cap, cur, e1, e2, hkp _ _ _ _ e3, e4⟩
 ·intro y hy
  rcases List.mem_append.1 hy with hy | hy
  ·exact h.wf y hy
  ·simp at hy; rw [hy]; exact hx
theorem owns_eq6 {w w' : World} {base : Nat} {e : TypeId} {s n : Nat} {v : Value} {xs : List Value} (h : w.ownsRow base e s v n xs) (hg : ∀ g, v.ownBlock = some g → w'.heap[g]? = w.heap[g]?) : w'.ownsRow base e s v n xs := by
 refine ⟨h.1, ?_⟩
 rcases h.2 with hh | ⟨g, cap, cur, e1, e2, e3, e4⟩
 ·exact .inl hh
 ·exact .inr ⟨g, cap, cur, e1, e2, (hg g (by rw [e1]; rfl)).trans e3, e4⟩
abbrev PtB (bx : Nat) (x1 x2 : Int) (w' : World) : Prop := w'.cell? ⟨bx, 0, none⟩ = some (.int .i64 x1) ∧ w'.cell? ⟨bx, 1, none⟩ = some (.int .i64 x2)
theorem ptB_of {w : World} {bx : Nat} {x1 x2 : Int} (h : w.heap[bx]? = some (.cells #[.int .i64 x1, .int .i64 x2] 60 (0, 0))) : PtB bx x1 x2 w := ⟨by rw [cell_of_row w _ 0 _ 60 (0, 0) h]; rfl, by rw [cell_of_row w _ 1 _ 60 (0, 0) h]; rfl⟩
theorem LkMid.fin {w w5 : World} {base lb : Nat} {p : Value} {B g M n : Nat} {nv : Value} {names : List Nm} {x : Nm} {A : Obj} {gg cp : Nat} (h : LkMid w base lb p B g M n nv names x) (hown : w5.ownsRow base 60 2 (.slice (some ⟨gg, 0, none⟩) (names.length + 1) cp) (names.length + 1) (flatN names ++ [.int .i64 x.1, .int .i64 x.2])) (hgr : (w.alloc A).drew.grownBy w5 nv.ownBlock) :
  w5.heap[lb]? = some (.cells #[p, .slice (some ⟨g, 0, none⟩) 8 8, nv, .map (some M)] 85 (0, 0)) ∧ LkAt (w5.setCell ⟨lb, 2, none⟩ (.slice (some ⟨gg, 0, none⟩) (names.length + 1) cp)) base lb p B g M (n + 1) (.slice (some ⟨gg, 0, none⟩) (names.length + 1) cp) (names ++ [x]) ∧ Below base w (w5.setCell ⟨lb, 2, none⟩ (.slice (some ⟨gg, 0, none⟩) (names.length + 1) cp)) ∧ KeepT w (w5.setCell ⟨lb, 2, none⟩ (.slice (some ⟨gg, 0, none⟩) (names.length + 1) cp)) := by
 have hnv : ∀ (k : Nat) (cs : Array Value) (t : TypeId) (fr : Nat × Nat), w.heap[k]? = some (Obj.cells cs t fr) → t ≠ 60 → nv.ownBlock ≠ some k := by
  intro k cs t fr hk ht e
  rcases h.row.2 with ⟨h1, _⟩ | ⟨g', c', cur', h1, _, h3, _⟩
  ·rw [h1] at e; cases e
  ·rw [h1] at e
   simp only [Value.ownBlock, Option.some.injEq] at e
   subst e
   rw [h3] at hk
   simp only [Option.some.injEq, Obj.cells.injEq] at hk
   exact ht hk.2.1.symm
 have hlt : ∀ (k : Nat) (o : Obj), w.heap[k]? = some o → k < w.heap.size := fun k o hk => (Array.getElem?_eq_some_iff.1 hk).1
 have hsz5 : w.heap.size + 1 ≤ w5.heap.size := by have := hgr.size; simpa using this
 have hk5 : ∀ (k : Nat) (cs : Array Value) (t : TypeId) (fr : Nat × Nat), w.heap[k]? = some (Obj.cells cs t fr) → t ≠ 60 → w5.heap[k]? = some (Obj.cells cs t fr) := fun k cs t fr hk ht =>
  (hgr.block k (by show k < (w.alloc A).heap.size; have := hlt k _ hk; simp; omega) (fun e => hnv k cs t fr hk ht e.symm)).trans ((Below.heap_alloc w A k (hlt k _ hk)).trans hk)
 have hblk5 := hk5 lb _ _ _ h.blk (by decide)
 have hlb6 : ∀ (k : Nat), k ≠ lb → (w5.setCell ⟨lb, 2, none⟩ (.slice (some ⟨gg, 0, none⟩) (names.length + 1) cp)).heap[k]? = w5.heap[k]? := fun k hk => heap_setCell_other w5 ⟨lb, 2, none⟩ k _ hk
 have hne97 : ∀ (k : Nat) (cs : Array Value) (t : TypeId) (fr : Nat × Nat), w5.heap[k]? = some (Obj.cells cs t fr) → t ≠ 85 → k ≠ lb := fun k cs t fr hk ht e => by
  rw [e, hblk5] at hk
  simp only [Option.some.injEq, Obj.cells.injEq] at hk
  exact ht hk.2.1.symm
 have hMb : w5.ownsMap Tryz.prog 60 (unitElem (H := Unit)) M (n + 1) (setD (names ++ [x])) := by
  refine ((h.met.alloc A).drew).kept hgr (fun e => ?_)
  obtain ⟨es, ck, hm, _⟩ := h.met
  rcases h.row.2 with ⟨h1, _⟩ | ⟨g', c', cur', h1, _, h3, _⟩
  ·rw [h1] at e; cases e
  ·rw [h1] at e
   simp only [Value.ownBlock, Option.some.injEq] at e
   rw [← e, hm] at h3
   cases h3
 have hMlb : M ≠ lb := fun e => by
  obtain ⟨es, ck, hm, _⟩ := hMb
  rw [e, hblk5] at hm
  cases hm
 refine ⟨hblk5, ⟨?_, h.hlb, h.hM, ⟨?_, fun k hk => ?_⟩, ?_, hMb.setCell hMlb _, h.wf⟩, ?_, by simp; omega, fun k cs t fr hk h97 h23 => (fun e5 => (hlb6 k (hne97 k cs t fr e5 h97)).trans e5) (hk5 k cs t fr hk h23)⟩
 ·exact (heap_setCell_same w5 lb 2 _ 85 _ hblk5).trans rfl
 ·have e5 := hk5 _ _ _ _ h.ops.row (by decide)
  exact (hlb6 _ (hne97 _ _ _ _ e5 (by decide))).trans e5
 ·have e5 := hk5 _ _ _ _ (h.ops.box k hk) (by decide)
  exact (hlb6 _ (hne97 _ _ _ _ e5 (by decide))).trans e5
 ·have hl : (names ++ [x]).length = names.length + 1 := by simp
  rw [hl, flatN_append]
  refine owns_eq6 hown fun g' hg' => hlb6 g' ?_
  rcases hown.2 with ⟨h1, _⟩ | ⟨g2, c2, cur2, h1, _, h3, _⟩
  ·cases h1
  ·rw [h1] at hg'
   simp only [Value.ownBlock, Option.some.injEq] at hg'
   subst hg'
   exact hne97 _ _ _ _ h3 (by decide)
 ·have x1 : Below base w w5 := by
   refine ((Below.refl base w).alloc (Nat.le_trans h.hlb (Nat.le_of_lt (hlt lb _ h.blk))) A).drew.grown hgr (by show base ≤ (w.alloc A).heap.size; have h1 := h.hlb; have h2 := hlt lb _ h.blk; simp; omega) (fun k e => (h.row.lt k e).1)
  exact x1.setCell (p := ⟨lb, 2, none⟩) h.hlb _
set_option maxRecDepth 100000 in
set_option maxHeartbeats 4000000 in
theorem h92 (base lb : Nat) (p : Value) (B g M n : Nat) (nv : Value) (names : List Nm) (x : Nm) (w : World) (h : LkAt w base lb p B g M n nv names) (hx : wfN x) (hn : n < 1000000000) (hl : names.length < 1000000000) (hbs : base ≤ w.heap.size) :
  Calls Tryz.prog 103 #[.pointer (some ⟨lb, 0, none⟩), .agg #[.int .i64 x.1, .int .i64 x.2]] w fun e w' => e = .returned (.int .u8 3) ∧ (∃ n' nv', LkAt w' base lb p B g M n' nv' (addN names x) ∧ n' ≤ n + 1) ∧ Below base w w' ∧ KeepT w w' := by
 have hba : Below w.heap.size w (w.alloc (.cells #[.int .i64 x.1, .int .i64 x.2] 60)) := (Below.refl _ w).alloc (Nat.le_refl _) _
 have HLa : Hid (LkAt (w.alloc (.cells #[.int .i64 x.1, .int .i64 x.2] 60)) base lb p B g M n nv names) := h.below hba
 have HBx : Hid ((w.alloc (.cells #[.int .i64 x.1, .int .i64 x.2] 60)).heap[w.heap.size]? = some (.cells #[.int .i64 x.1, .int .i64 x.2] 60 (0, 0))) := heap_alloc_new w _
 have HX : Hid (wfN x) := hx
 have HBA : Hid (Below base w (w.alloc (.cells #[.int .i64 x.1, .int .i64 x.2] 60))) := hba.mono hbs
 have HSt : Hid (∀ W, Below (w.alloc (.cells #[.int .i64 x.1, .int .i64 x.2] 60)).heap.size (w.alloc (.cells #[.int .i64 x.1, .int .i64 x.2] 60)) W → WtS lb M w.heap.size x.1 x.2 (hasN names x) W) := fun W hW => by
  have h1 := HLa.out.below hW
  have h2 := (hW.block w.heap.size (by simp)).trans HBx.out
  exact ⟨h1.cells.2.2.2, by rw [cell_of_row W _ 0 _ 60 (0, 0) h2]; rfl, by rw [cell_of_row W _ 1 _ 60 (0, 0) h2]; rfl, h1.lookup x hx⟩
 obtain ⟨x1, x2⟩ := x
 have HNv : Hid (∀ k, nv.ownBlock = some k → k ≠ w.heap.size) := fun k e => by have := (h.row.lt k e).2; omega
 clear h hx hba
 have hS0 := HSt.out _ (Below.drew (Below.refl _ _))
 obtain ⟨an, cn, hnf⟩ := owns_form HLa.out.row
 subst hnf
 have HBd : Hid (Below (w.alloc (.cells #[.int .i64 x1, .int .i64 x2] 60)).heap.size (w.alloc (.cells #[.int .i64 x1, .int .i64 x2] 60)) (((w.alloc (.cells #[.int .i64 x1, .int .i64 x2] 60)).alloc (.cells #[] 156)).drew)) := (((Below.refl _ _).alloc (Nat.le_refl _) _).drew : Below _ _ _)
 have HL2 : Hid (LkAt (((w.alloc (.cells #[.int .i64 x1, .int .i64 x2] 60)).alloc (.cells #[] 156)).drew) base lb p B g M n (.slice an names.length cn) names) := HLa.out.below HBd.out
 have HB2 : Hid (Below base w (((w.alloc (.cells #[.int .i64 x1, .int .i64 x2] 60)).alloc (.cells #[] 156)).drew)) := HBA.out.trans (HBd.out.mono (by simp; omega))
 have HK2 : Hid (KeepT w ((w.alloc (.cells #[.int .i64 x1, .int .i64 x2] 60)).alloc (.cells #[] 156)).drew) := (KeepT.of_below ((Below.refl _ w).alloc (Nat.le_refl _) _)).trans (KeepT.of_below HBd.out)
 have HX2 : Hid ((((w.alloc (.cells #[.int .i64 x1, .int .i64 x2] 60)).alloc (.cells #[] 156)).drew).heap[w.heap.size]? = some (.cells #[.int .i64 x1, .int .i64 x2] 60 (0, 0))) := (HBd.out.block w.heap.size (by simp)).trans HBx.out
 cases hh : hasN names (x1, x2)
 ·have HE : Hid (addN names (x1, x2) = names ++ [(x1, x2)]) := by show addN names (x1, x2) = _; unfold addN; rw [hh]; rfl
  rw [hh] at hS0
  simp only [hh] at HSt
  clear hh
  go_enter Tryz.func103, Tryz.ntmps103
  go_wp2_with fail
  refine wp_region_noPanic ?_
  refine wp_region_held_drew (S := fun w' => WtS lb M w.heap.size x1 x2 false w') (by kernel_rfl) hS0 (fun hHeld => ?_)
  refine wpAnyH_take (i := 0) (v := ?_) (by simp only [List.getElem?_toArray, List.getElem?_cons_zero]; rfl) (by kernel_rfl) (by kernel_rfl) (by kernel_rfl) (fun _ _ _ h => h) (Or.inl ⟨by rfl, ?_⟩) (by assumption) ?_
  rotate_left
  ·(intro w hSw; (try dsimp only at hSw); go_simp <;> with_reducible rfl)
  try simp only [Act.put, List.setIfInBounds_toArray, List.set_cons_zero, List.set_cons_succ]
  refine wpAnyH_take (i := 1) (v := ?_) (by simp only [List.getElem?_toArray, List.getElem?_cons_zero, List.getElem?_cons_succ]; rfl) (by kernel_rfl) (by kernel_rfl) (by kernel_rfl) (fun _ _ _ h => h) (Or.inl ⟨by rfl, ?_⟩) (by assumption) ?_
  rotate_left
  ·(intro w hSw; (try dsimp only at hSw); go_simp <;> with_reducible rfl)
  try simp only [Act.put, List.setIfInBounds_toArray, List.set_cons_zero, List.set_cons_succ]
  refine wpAnyH_take (i := 2) (v := ?_) (by simp only [List.getElem?_toArray, List.getElem?_cons_zero, List.getElem?_cons_succ]; rfl) (by kernel_rfl) (by kernel_rfl) (by kernel_rfl) (fun _ _ _ h => h) (Or.inl ⟨by rfl, ?_⟩) (by assumption) ?_
  rotate_left
  ·(intro w hSw; (try dsimp only at hSw); go_simp <;> with_reducible rfl)
  try simp only [Act.put, List.setIfInBounds_toArray, List.set_cons_zero, List.set_cons_succ]
  refine wpAnyH_take (i := 3) (v := ?_) (by simp only [List.getElem?_toArray, List.getElem?_cons_zero, List.getElem?_cons_succ]; rfl) (by kernel_rfl) (by kernel_rfl) (by kernel_rfl) (fun _ _ _ h => h) (Or.inl ⟨by rfl, ?_⟩) (by assumption) ?_
  rotate_left
  ·(intro w hSw; (try dsimp only at hSw); go_simp <;> with_reducible rfl)
  try simp only [Act.put, List.setIfInBounds_toArray, List.set_cons_zero, List.set_cons_succ]
  refine wpAnyH_take (i := 4) (v := ?_) (by simp only [List.getElem?_toArray, List.getElem?_cons_zero, List.getElem?_cons_succ]; rfl) (by kernel_rfl) (by kernel_rfl) (by kernel_rfl) (fun _ _ _ h => h) (Or.inl ⟨by rfl, ?_⟩) (by assumption) ?_
  rotate_left
  ·(intro w hSw; (try dsimp only at hSw); go_simp <;> with_reducible rfl)
  try simp only [Act.put, List.setIfInBounds_toArray, List.set_cons_zero, List.set_cons_succ]
  refine wpAnyH_take (i := 5) (v := ?_) (by simp only [List.getElem?_toArray, List.getElem?_cons_zero, List.getElem?_cons_succ]; rfl) (by kernel_rfl) (by kernel_rfl) (by kernel_rfl) (fun _ _ _ h => h) (Or.inl ⟨by rfl, ?_⟩) (by assumption) ?_
  rotate_left
  ·(intro w hSw; (try dsimp only at hSw); go_simp <;> with_reducible rfl)
  try simp only [Act.put, List.setIfInBounds_toArray, List.set_cons_zero, List.set_cons_succ]
  refine wpAnyH_take (i := 6) (v := ?_) (by simp only [List.getElem?_toArray, List.getElem?_cons_zero, List.getElem?_cons_succ]; rfl) (by kernel_rfl) (by kernel_rfl) (by kernel_rfl) (fun _ _ _ h => h) (Or.inl ⟨by rfl, ?_⟩) (by assumption) ?_
  rotate_left
  ·(intro w hSw; (try dsimp only at hSw); go_simp <;> with_reducible rfl)
  try simp only [Act.put, List.setIfInBounds_toArray, List.set_cons_zero, List.set_cons_succ]
  refine wpAnyH_take (i := 7) (v := ?_) (by simp only [List.getElem?_toArray, List.getElem?_cons_zero, List.getElem?_cons_succ]; rfl) (by kernel_rfl) (by kernel_rfl) (by kernel_rfl) (fun _ _ _ h => h) (Or.inl ⟨by rfl, ?_⟩) (by assumption) ?_
  rotate_left
  ·(intro w hSw; (try dsimp only at hSw); go_simp <;> with_reducible rfl)
  try simp only [Act.put, List.setIfInBounds_toArray, List.set_cons_zero, List.set_cons_succ]
  refine wpAnyH_take (i := 8) (v := ?_) (by simp only [List.getElem?_toArray, List.getElem?_cons_zero, List.getElem?_cons_succ]; rfl) (by kernel_rfl) (by kernel_rfl) (by kernel_rfl) (fun _ _ _ h => h) (Or.inl ⟨by rfl, ?_⟩) (by assumption) ?_
  rotate_left
  ·(intro w hSw; (try dsimp only at hSw); go_simp <;> with_reducible rfl)
  try simp only [Act.put, List.setIfInBounds_toArray, List.set_cons_zero, List.set_cons_succ]
  refine wpAnyH_ready (rs := [9]) (by kernel_rfl) (by simp) ?_
  refine AllReadyH.cons (by simp only [List.getElem?_toArray, List.getElem?_cons_zero, List.getElem?_cons_succ]; rfl) (fun K hK => ?_) AllReadyH.nil
  go_simp
  refine hK.out _ _ ?_ (fun hHeld => ?_)
  ·exact HSt.out _ HBd.out
  clear hK K
  try simp only [Act.put, List.setIfInBounds_toArray, List.set_cons_zero, List.set_cons_succ]
  refine wpAnyH_ready (rs := [10]) (by kernel_rfl) (by simp) ?_
  refine AllReadyH.cons (by simp only [List.getElem?_toArray, List.getElem?_cons_zero, List.getElem?_cons_succ]; rfl) (fun K hK => ?_) AllReadyH.nil
  go_simp
  refine hK.out _ _ ?_ (fun hHeld => ?_)
  ·exact (by assumption)
  clear hK K
  try simp only [Act.put, List.setIfInBounds_toArray, List.set_cons_zero, List.set_cons_succ]
  refine wpAnyH_take (i := 11) (v := ?_) (by simp only [List.getElem?_toArray, List.getElem?_cons_zero, List.getElem?_cons_succ]; rfl) (by kernel_rfl) (by kernel_rfl) (by kernel_rfl) (fun _ _ _ h => h) (Or.inl ⟨by rfl, ?_⟩) (by assumption) ?_
  rotate_left
  ·(intro w hSw; (try dsimp only at hSw); go_simp <;> with_reducible rfl)
  try simp only [Act.put, List.setIfInBounds_toArray, List.set_cons_zero, List.set_cons_succ]
  refine wpAnyH_done (by kernel_rfl) ?_ _
  refine NoPanic.normal ?_
  clear hHeld hS0
  go_wp2_with fail
  generalize ((w.alloc (.cells #[.int .i64 x1, .int .i64 x2] 60)).alloc (.cells #[] 156)).drew = W2 at *
  obtain ⟨w4, hrun, hmap4, hturn⟩ := HL2.out.met.drew.store keyed23 Tryz.underlying83 (by unfold maxLen; omega) (key23 (x1, x2) HX.out) unitElem_mk
  have hg4 := hturn.grown
  have hbx2 : w.heap.size < W2.heap.size := (Array.getElem?_eq_some_iff.1 HX2.out).1
  have hbxM : w.heap.size ≠ M := fun e => by
   obtain ⟨es, ck, hm, _⟩ := HL2.out.met
   have := HX2.out
   rw [e, hm] at this
   cases this
  have hX4 : w4.heap[w.heap.size]? = some (.cells #[.int .i64 x1, .int .i64 x2] 60 (0, 0)) := (hg4.block _ hbx2 (by simpa using hbxM)).trans HX2.out
  have hlbM : lb ≠ M := fun e => by
   obtain ⟨es, ck, hm, _⟩ := HL2.out.met
   have := HL2.out.blk
   rw [e, hm] at this
   cases this
  have hblk4 : w4.heap[lb]? = some (.cells #[p, .slice (some ⟨g, 0, none⟩) 8 8, .slice an names.length cn, .map (some M)] 85 (0, 0)) := (hg4.block _ (Array.getElem?_eq_some_iff.1 HL2.out.blk).1 (by simpa using hlbM)).trans HL2.out.blk
  have HS4 : Hid (PtS3 lb M w.heap.size x1 x2 w4) := ⟨by rw [cell_of_row w4 lb 3 _ 85 (0, 0) hblk4]; rfl, by rw [cell_of_row w4 _ 0 _ 60 (0, 0) hX4]; rfl, by rw [cell_of_row w4 _ 1 _ 60 (0, 0) hX4]; rfl⟩
  have hS3 : PtS3 lb M w.heap.size x1 x2 W2.drew := ⟨HL2.out.cells.2.2.2, by rw [cell_of_row W2.drew _ 0 _ 60 (0, 0) HX2.out]; rfl, by rw [cell_of_row W2.drew _ 1 _ 60 (0, 0) HX2.out]; rfl⟩
  have HF4 : Hid (LkMid w4 base lb p B g M n (.slice an names.length cn) names (x1, x2) ∧ Below base w w4 ∧ w4.heap[w.heap.size]? = some (.cells #[.int .i64 x1, .int .i64 x2] 60 (0, 0))) := ⟨HL2.out.mid HX.out hmap4 hturn, HB2.out.trans (Below.of_turn hturn HL2.out.hM), hX4⟩
  have HK4 : Hid (KeepT w w4) := HK2.out.trans (KeepT.of_turn hturn)
  clear hmap4 hturn hg4 hX4 hblk4
  refine wp_region_noPanic ?_
  refine wp_region_held_drew (S := fun w' => PtS3 lb M w.heap.size x1 x2 w') (by kernel_rfl) hS3 (fun hHeld => ?_)
  refine wpAnyH_take (i := 0) (v := ?_) (by simp only [List.getElem?_toArray, List.getElem?_cons_zero]; rfl) (by kernel_rfl) (by kernel_rfl) (by kernel_rfl) (fun _ _ _ h => h) (Or.inl ⟨by rfl, ?_⟩) (by assumption) ?_
  rotate_left
  ·(intro w hSw; (try dsimp only at hSw); go_simp <;> with_reducible rfl)
  try simp only [Act.put, List.setIfInBounds_toArray, List.set_cons_zero, List.set_cons_succ]
  refine wpAnyH_take (i := 1) (v := ?_) (by simp only [List.getElem?_toArray, List.getElem?_cons_zero, List.getElem?_cons_succ]; rfl) (by kernel_rfl) (by kernel_rfl) (by kernel_rfl) (fun _ _ _ h => h) (Or.inl ⟨by rfl, ?_⟩) (by assumption) ?_
  rotate_left
  ·(intro w hSw; (try dsimp only at hSw); go_simp <;> with_reducible rfl)
  try simp only [Act.put, List.setIfInBounds_toArray, List.set_cons_zero, List.set_cons_succ]
  refine wpAnyH_take (i := 2) (v := ?_) (by simp only [List.getElem?_toArray, List.getElem?_cons_zero, List.getElem?_cons_succ]; rfl) (by kernel_rfl) (by kernel_rfl) (by kernel_rfl) (fun _ _ _ h => h) (Or.inl ⟨by rfl, ?_⟩) (by assumption) ?_
  rotate_left
  ·(intro w hSw; (try dsimp only at hSw); go_simp <;> with_reducible rfl)
  try simp only [Act.put, List.setIfInBounds_toArray, List.set_cons_zero, List.set_cons_succ]
  refine wpAnyH_take (i := 3) (v := ?_) (by simp only [List.getElem?_toArray, List.getElem?_cons_zero, List.getElem?_cons_succ]; rfl) (by kernel_rfl) (by kernel_rfl) (by kernel_rfl) (fun _ _ _ h => h) (Or.inl ⟨by rfl, ?_⟩) (by assumption) ?_
  rotate_left
  ·(intro w hSw; (try dsimp only at hSw); go_simp <;> with_reducible rfl)
  try simp only [Act.put, List.setIfInBounds_toArray, List.set_cons_zero, List.set_cons_succ]
  refine wpAnyH_take (i := 4) (v := ?_) (by simp only [List.getElem?_toArray, List.getElem?_cons_zero, List.getElem?_cons_succ]; rfl) (by kernel_rfl) (by kernel_rfl) (by kernel_rfl) (fun _ _ _ h => h) (Or.inl ⟨by rfl, ?_⟩) (by assumption) ?_
  rotate_left
  ·(intro w hSw; (try dsimp only at hSw); go_simp <;> with_reducible rfl)
  try simp only [Act.put, List.setIfInBounds_toArray, List.set_cons_zero, List.set_cons_succ]
  refine wpAnyH_take (i := 5) (v := ?_) (by simp only [List.getElem?_toArray, List.getElem?_cons_zero, List.getElem?_cons_succ]; rfl) (by kernel_rfl) (by kernel_rfl) (by kernel_rfl) (fun _ _ _ h => h) (Or.inl ⟨by rfl, ?_⟩) (by assumption) ?_
  rotate_left
  ·(intro w hSw; (try dsimp only at hSw); go_simp <;> with_reducible rfl)
  try simp only [Act.put, List.setIfInBounds_toArray, List.set_cons_zero, List.set_cons_succ]
  refine wpAnyH_ready (rs := [6]) (by kernel_rfl) (by simp) ?_
  refine AllReadyH.cons (by simp only [List.getElem?_toArray, List.getElem?_cons_zero, List.getElem?_cons_succ]; rfl) (fun K hK => ?_) AllReadyH.nil
  go_simp
  refine hK.out _ _ ?_ (fun hHeld => ?_)
  ·exact HS4.out
  clear hK K
  try simp only [Act.put, List.setIfInBounds_toArray, List.set_cons_zero, List.set_cons_succ]
  refine wpAnyH_done (by kernel_rfl) ?_ _
  refine NoPanic.normal ?_
  clear hHeld hS3 hrun
  obtain ⟨i0, hi, hz, hs, hby⟩ := info23
  have hbx4 : w.heap.size < w4.heap.size := (Array.getElem?_eq_some_iff.1 HF4.out.2.2).1
  have HXa : Hid ((w4.alloc (.cells #[.int .i64 x1, .int .i64 x2] 60)).drew.heap[w.heap.size]? = some (.cells #[.int .i64 x1, .int .i64 x2] 60 (0, 0))) := (Below.heap_alloc w4 _ _ hbx4).trans HF4.out.2.2
  have hbx4 : w.heap.size < (w4.alloc (.cells #[.int .i64 x1, .int .i64 x2] 60)).drew.heap.size := (Array.getElem?_eq_some_iff.1 HXa.out).1
  have HSA : Hid (PtB w.heap.size x1 x2 (w4.alloc (.cells #[.int .i64 x1, .int .i64 x2] 60)).drew) := ptB_of HXa.out
  have hS4 : PtB w.heap.size x1 x2 w4.drew := ptB_of HF4.out.2.2
  have HRa : Hid ((w4.alloc (.cells #[.int .i64 x1, .int .i64 x2] 60)).drew.ownsRow base 60 2 (.slice an names.length cn) names.length (flatN names)) := HF4.out.1.row.alloc _
  have hba4 : base ≤ (w4.alloc (.cells #[.int .i64 x1, .int .i64 x2] 60)).drew.heap.size := by
   have h1 := HF4.out.2.1.size
   show base ≤ (w4.alloc _).heap.size
   simp; omega
  have c2 : w4.cell? ⟨lb, 2, none⟩ = some (.slice an names.length cn) := by rw [cell_of_row w4 lb 2 _ 85 (0, 0) HF4.out.1.blk]; rfl
  have hlb4 : lb < w4.heap.size := (Array.getElem?_eq_some_iff.1 HF4.out.1.blk).1
  have c2a : (w4.alloc (.cells #[.int .i64 x1, .int .i64 x2] 60)).cell? ⟨lb, 2, none⟩ = some (.slice an names.length cn) := (World.cell?_of_block (a := ⟨lb, 2, none⟩) (Below.heap_alloc w4 _ _ hlb4)).trans c2
  go_wp2_with fail
  refine wp_region_noPanic ?_
  refine wp_region_held_drew (S := fun w' => PtB w.heap.size x1 x2 w') (by kernel_rfl) hS4 (fun hHeld => ?_)
  refine wpAnyH_take (i := 0) (v := ?_) (by simp only [List.getElem?_toArray, List.getElem?_cons_zero]; rfl) (by kernel_rfl) (by kernel_rfl) (by kernel_rfl) (fun _ _ _ h => h) (Or.inl ⟨by rfl, ?_⟩) (by assumption) ?_
  rotate_left
  ·(intro w hSw; (try dsimp only at hSw); go_simp <;> with_reducible rfl)
  try simp only [Act.put, List.setIfInBounds_toArray, List.set_cons_zero, List.set_cons_succ]
  refine wpAnyH_take (i := 1) (v := ?_) (by simp only [List.getElem?_toArray, List.getElem?_cons_zero, List.getElem?_cons_succ]; rfl) (by kernel_rfl) (by kernel_rfl) (by kernel_rfl) (fun _ _ _ h => h) (Or.inl ⟨by rfl, ?_⟩) (by assumption) ?_
  rotate_left
  ·(intro w hSw; (try dsimp only at hSw); go_simp <;> with_reducible rfl)
  try simp only [Act.put, List.setIfInBounds_toArray, List.set_cons_zero, List.set_cons_succ]
  refine wpAnyH_take (i := 2) (v := ?_) (by simp only [List.getElem?_toArray, List.getElem?_cons_zero, List.getElem?_cons_succ]; rfl) (by kernel_rfl) (by kernel_rfl) (by kernel_rfl) (fun _ _ _ h => h) (Or.inl ⟨by rfl, ?_⟩) (by assumption) ?_
  rotate_left
  ·(intro w hSw; (try dsimp only at hSw); go_simp <;> with_reducible rfl)
  try simp only [Act.put, List.setIfInBounds_toArray, List.set_cons_zero, List.set_cons_succ]
  refine wpAnyH_take (i := 3) (v := ?_) (by simp only [List.getElem?_toArray, List.getElem?_cons_zero, List.getElem?_cons_succ]; rfl) (by kernel_rfl) (by kernel_rfl) (by kernel_rfl) (fun _ _ _ h => h) (Or.inl ⟨by rfl, ?_⟩) (by assumption) ?_
  rotate_left
  ·(intro w hSw; (try dsimp only at hSw); go_simp <;> with_reducible rfl)
  try simp only [Act.put, List.setIfInBounds_toArray, List.set_cons_zero, List.set_cons_succ]
  refine wpAnyH_take (i := 5) (v := ?_) (by simp only [List.getElem?_toArray, List.getElem?_cons_zero, List.getElem?_cons_succ]; rfl) (by kernel_rfl) (by kernel_rfl) (by kernel_rfl) (fun _ _ _ h => h) (Or.inl ⟨by rfl, ?_⟩) (by assumption) ?_
  rotate_left
  ·(intro w hSw; (try dsimp only at hSw); go_simp <;> with_reducible rfl)
  try simp only [Act.put, List.setIfInBounds_toArray, List.set_cons_zero, List.set_cons_succ]
  refine wpAnyH_ready (rs := [4, 6]) (by kernel_rfl) (by simp) ?_
  refine AllReadyH.cons (by simp only [List.getElem?_toArray, List.getElem?_cons_zero, List.getElem?_cons_succ]; rfl) (fun K hK => ?_) (AllReadyH.cons (by simp only [List.getElem?_toArray, List.getElem?_cons_zero, List.getElem?_cons_succ]; rfl) (fun K hK => ?_) AllReadyH.nil)
  ·go_simp
   refine hK.out _ _ ?_ (fun hHeld => ?_)
   ·exact (by assumption)
   clear hK K
   try simp only [Act.put, List.setIfInBounds_toArray, List.set_cons_zero, List.set_cons_succ]
   refine wpAnyH_ready (rs := [6]) (by kernel_rfl) (by simp) ?_
   refine AllReadyH.cons (by simp only [List.getElem?_toArray, List.getElem?_cons_zero, List.getElem?_cons_succ]; rfl) (fun K hK => ?_) AllReadyH.nil
   go_simp
   refine hK.out _ _ ?_ (fun hHeld => ?_)
   ·exact HSA.out
   clear hK K
   try simp only [Act.put, List.setIfInBounds_toArray, List.set_cons_zero, List.set_cons_succ]
   refine wpAnyH_ready (rs := [7]) (by kernel_rfl) (by simp) ?_
   refine AllReadyH.cons (by simp only [List.getElem?_toArray, List.getElem?_cons_zero, List.getElem?_cons_succ]; rfl) (fun K hK => ?_) AllReadyH.nil
   refine step_append_lies _ (by rfl) _ _ _ (by rfl) base 60 i0 _ 2 16 Tryz.underlying31 hi hz hs hby rfl (by omega) (.slice an names.length cn) names.length (flatN names) (by rfl) HRa.out ⟨w4.heap.size, 0, none⟩ 1 1 [.int .i64 x1, .int .i64 x2] (by rfl) (by rfl) (World.news_of_block (cs := #[.int .i64 x1, .int .i64 x2]) (t := 60) (fr := (0, 0)) (heap_alloc_new w4 _)) (by simp [Value.oneCell']) (by omega) (by unfold maxLen; omega) (by omega) hba4 (w4.heap.size + 1) (by simp) ?_
   intro gg cp w5 hown5 hgr5 hloc5 hlt5
   obtain ⟨hblk5, hLk6, hB6, hK6⟩ := HF4.out.1.fin hown5 hgr5
   have hX5 : w5.heap[w.heap.size]? = some (.cells #[.int .i64 x1, .int .i64 x2] 60 (0, 0)) := (hgr5.block _ hbx4 (fun e => HNv.out _ e.symm rfl)).trans HXa.out
   have c5 : w5.cell? ⟨lb, 2, none⟩ = some (.slice an names.length cn) := by rw [cell_of_row w5 lb 2 _ 85 (0, 0) hblk5]; rfl
   have f5 : w5.frozen? ⟨lb, 2, none⟩ = false := frozen_of_row w5 lb 2 _ 85 hblk5
   have HFf : Hid (LkAt (w5.setCell ⟨lb, 2, none⟩ (.slice (some ⟨gg, 0, none⟩) (names.length + 1) cp)) base lb p B g M (n + 1) (.slice (some ⟨gg, 0, none⟩) (names.length + 1) cp) (addN names (x1, x2)) ∧ Below base w (w5.setCell ⟨lb, 2, none⟩ (.slice (some ⟨gg, 0, none⟩) (names.length + 1) cp)) ∧ KeepT w (w5.setCell ⟨lb, 2, none⟩ (.slice (some ⟨gg, 0, none⟩) (names.length + 1) cp))) := ⟨by rw [HE.out]; exact hLk6, HF4.out.2.1.trans hB6, HK4.out.trans hK6⟩
   have HS5 : Hid (PtB w.heap.size x1 x2 w5 ∧ PtB w.heap.size x1 x2 (w5.setCell ⟨lb, 2, none⟩ (.slice (some ⟨gg, 0, none⟩) (names.length + 1) cp))) := by
    have h6 : (w5.setCell ⟨lb, 2, none⟩ (.slice (some ⟨gg, 0, none⟩) (names.length + 1) cp)).heap[w.heap.size]? = some (.cells #[.int .i64 x1, .int .i64 x2] 60 (0, 0)) := (heap_setCell_other w5 ⟨lb, 2, none⟩ _ _ (fun e => by have e' : w.heap.size = lb := e; rw [e', hblk5] at hX5; cases hX5)).trans hX5
    exact ⟨ptB_of hX5, ptB_of h6⟩
   clear hown5 hgr5 hloc5 hlt5 hblk5 hLk6 hB6 hK6 hX5
   refine hK.out _ _ ?_ (fun hHeld => ?_)
   ·exact HS5.out.1
   clear hK K
   try simp only [Act.put, List.setIfInBounds_toArray, List.set_cons_zero, List.set_cons_succ]
   refine wpAnyH_take (i := 8) (v := ?_) (by simp only [List.getElem?_toArray, List.getElem?_cons_zero, List.getElem?_cons_succ]; rfl) (by kernel_rfl) (by kernel_rfl) (by kernel_rfl) (fun _ _ _ h => h) (Or.inl ⟨by rfl, ?_⟩) (by assumption) ?_
   rotate_left
   ·(intro w hSw; (try dsimp only at hSw); go_simp <;> with_reducible rfl)
   try simp only [Act.put, List.setIfInBounds_toArray, List.set_cons_zero, List.set_cons_succ]
   refine wpAnyH_take (i := 9) (v := ?_) (by simp only [List.getElem?_toArray, List.getElem?_cons_zero, List.getElem?_cons_succ]; rfl) (by kernel_rfl) (by kernel_rfl) (by kernel_rfl) (fun _ _ _ h => h) (Or.inl ⟨by rfl, ?_⟩) (by assumption) ?_
   rotate_left
   ·(intro w hSw; (try dsimp only at hSw); go_simp <;> with_reducible rfl)
   try simp only [Act.put, List.setIfInBounds_toArray, List.set_cons_zero, List.set_cons_succ]
   refine wpAnyH_ready (rs := [10]) (by kernel_rfl) (by simp) ?_
   refine AllReadyH.cons (by simp only [List.getElem?_toArray, List.getElem?_cons_zero, List.getElem?_cons_succ]; rfl) (fun K hK => ?_) AllReadyH.nil
   go_simp
   refine hK.out _ _ ?_ (fun hHeld => ?_)
   ·exact HS5.out.2
   clear hK K
   try simp only [Act.put, List.setIfInBounds_toArray, List.set_cons_zero, List.set_cons_succ]
   refine wpAnyH_done (by kernel_rfl) ?_ _
   refine NoPanic.normal ?_
   clear hHeld c5 f5
   go_wp2_with fail
   go_ret
   exact ⟨rfl, ⟨n + 1, _, HFf.out.1, Nat.le_refl _⟩, HFf.out.2⟩
  ·go_simp
   refine hK.out _ _ ?_ (fun hHeld => ?_)
   ·exact HSA.out
   clear hK K
   try simp only [Act.put, List.setIfInBounds_toArray, List.set_cons_zero, List.set_cons_succ]
   refine wpAnyH_ready (rs := [4]) (by kernel_rfl) (by simp) ?_
   refine AllReadyH.cons (by simp only [List.getElem?_toArray, List.getElem?_cons_zero, List.getElem?_cons_succ]; rfl) (fun K hK => ?_) AllReadyH.nil
   go_simp
   refine hK.out _ _ ?_ (fun hHeld => ?_)
   ·exact (by assumption)
   clear hK K
   try simp only [Act.put, List.setIfInBounds_toArray, List.set_cons_zero, List.set_cons_succ]
   refine wpAnyH_ready (rs := [7]) (by kernel_rfl) (by simp) ?_
   refine AllReadyH.cons (by simp only [List.getElem?_toArray, List.getElem?_cons_zero, List.getElem?_cons_succ]; rfl) (fun K hK => ?_) AllReadyH.nil
   refine step_append_lies _ (by rfl) _ _ _ (by rfl) base 60 i0 _ 2 16 Tryz.underlying31 hi hz hs hby rfl (by omega) (.slice an names.length cn) names.length (flatN names) (by rfl) HRa.out ⟨w4.heap.size, 0, none⟩ 1 1 [.int .i64 x1, .int .i64 x2] (by rfl) (by rfl) (World.news_of_block (cs := #[.int .i64 x1, .int .i64 x2]) (t := 60) (fr := (0, 0)) (heap_alloc_new w4 _)) (by simp [Value.oneCell']) (by omega) (by unfold maxLen; omega) (by omega) hba4 (w4.heap.size + 1) (by simp) ?_
   intro gg cp w5 hown5 hgr5 hloc5 hlt5
   obtain ⟨hblk5, hLk6, hB6, hK6⟩ := HF4.out.1.fin hown5 hgr5
   have hX5 : w5.heap[w.heap.size]? = some (.cells #[.int .i64 x1, .int .i64 x2] 60 (0, 0)) := (hgr5.block _ hbx4 (fun e => HNv.out _ e.symm rfl)).trans HXa.out
   have c5 : w5.cell? ⟨lb, 2, none⟩ = some (.slice an names.length cn) := by rw [cell_of_row w5 lb 2 _ 85 (0, 0) hblk5]; rfl
   have f5 : w5.frozen? ⟨lb, 2, none⟩ = false := frozen_of_row w5 lb 2 _ 85 hblk5
   have HFf : Hid (LkAt (w5.setCell ⟨lb, 2, none⟩ (.slice (some ⟨gg, 0, none⟩) (names.length + 1) cp)) base lb p B g M (n + 1) (.slice (some ⟨gg, 0, none⟩) (names.length + 1) cp) (addN names (x1, x2)) ∧ Below base w (w5.setCell ⟨lb, 2, none⟩ (.slice (some ⟨gg, 0, none⟩) (names.length + 1) cp)) ∧ KeepT w (w5.setCell ⟨lb, 2, none⟩ (.slice (some ⟨gg, 0, none⟩) (names.length + 1) cp))) := ⟨by rw [HE.out]; exact hLk6, HF4.out.2.1.trans hB6, HK4.out.trans hK6⟩
   have HS5 : Hid (PtB w.heap.size x1 x2 w5 ∧ PtB w.heap.size x1 x2 (w5.setCell ⟨lb, 2, none⟩ (.slice (some ⟨gg, 0, none⟩) (names.length + 1) cp))) := by
    have h6 : (w5.setCell ⟨lb, 2, none⟩ (.slice (some ⟨gg, 0, none⟩) (names.length + 1) cp)).heap[w.heap.size]? = some (.cells #[.int .i64 x1, .int .i64 x2] 60 (0, 0)) := (heap_setCell_other w5 ⟨lb, 2, none⟩ _ _ (fun e => by have e' : w.heap.size = lb := e; rw [e', hblk5] at hX5; cases hX5)).trans hX5
    exact ⟨ptB_of hX5, ptB_of h6⟩
   clear hown5 hgr5 hloc5 hlt5 hblk5 hLk6 hB6 hK6 hX5
   refine hK.out _ _ ?_ (fun hHeld => ?_)
   ·exact HS5.out.1
   clear hK K
   try simp only [Act.put, List.setIfInBounds_toArray, List.set_cons_zero, List.set_cons_succ]
   refine wpAnyH_take (i := 8) (v := ?_) (by simp only [List.getElem?_toArray, List.getElem?_cons_zero, List.getElem?_cons_succ]; rfl) (by kernel_rfl) (by kernel_rfl) (by kernel_rfl) (fun _ _ _ h => h) (Or.inl ⟨by rfl, ?_⟩) (by assumption) ?_
   rotate_left
   ·(intro w hSw; (try dsimp only at hSw); go_simp <;> with_reducible rfl)
   try simp only [Act.put, List.setIfInBounds_toArray, List.set_cons_zero, List.set_cons_succ]
   refine wpAnyH_take (i := 9) (v := ?_) (by simp only [List.getElem?_toArray, List.getElem?_cons_zero, List.getElem?_cons_succ]; rfl) (by kernel_rfl) (by kernel_rfl) (by kernel_rfl) (fun _ _ _ h => h) (Or.inl ⟨by rfl, ?_⟩) (by assumption) ?_
   rotate_left
   ·(intro w hSw; (try dsimp only at hSw); go_simp <;> with_reducible rfl)
   try simp only [Act.put, List.setIfInBounds_toArray, List.set_cons_zero, List.set_cons_succ]
   refine wpAnyH_ready (rs := [10]) (by kernel_rfl) (by simp) ?_
   refine AllReadyH.cons (by simp only [List.getElem?_toArray, List.getElem?_cons_zero, List.getElem?_cons_succ]; rfl) (fun K hK => ?_) AllReadyH.nil
   go_simp
   refine hK.out _ _ ?_ (fun hHeld => ?_)
   ·exact HS5.out.2
   clear hK K
   try simp only [Act.put, List.setIfInBounds_toArray, List.set_cons_zero, List.set_cons_succ]
   refine wpAnyH_done (by kernel_rfl) ?_ _
   refine NoPanic.normal ?_
   clear hHeld c5 f5
   go_wp2_with fail
   go_ret
   exact ⟨rfl, ⟨n + 1, _, HFf.out.1, Nat.le_refl _⟩, HFf.out.2⟩
 ·have HE : Hid (addN names (x1, x2) = names) := by show addN names (x1, x2) = names; unfold addN; rw [hh]; rfl
  rw [hh] at hS0
  simp only [hh] at HSt
  clear hh
  go_enter Tryz.func103, Tryz.ntmps103
  go_wp2_with fail
  refine wp_region_noPanic ?_
  refine wp_region_held_drew (S := fun w' => WtS lb M w.heap.size x1 x2 true w') (by kernel_rfl) hS0 (fun hHeld => ?_)
  refine wpAnyH_take (i := 0) (v := ?_) (by simp only [List.getElem?_toArray, List.getElem?_cons_zero]; rfl) (by kernel_rfl) (by kernel_rfl) (by kernel_rfl) (fun _ _ _ h => h) (Or.inl ⟨by rfl, ?_⟩) (by assumption) ?_
  rotate_left
  ·(intro w hSw; (try dsimp only at hSw); go_simp <;> with_reducible rfl)
  try simp only [Act.put, List.setIfInBounds_toArray, List.set_cons_zero, List.set_cons_succ]
  refine wpAnyH_take (i := 1) (v := ?_) (by simp only [List.getElem?_toArray, List.getElem?_cons_zero, List.getElem?_cons_succ]; rfl) (by kernel_rfl) (by kernel_rfl) (by kernel_rfl) (fun _ _ _ h => h) (Or.inl ⟨by rfl, ?_⟩) (by assumption) ?_
  rotate_left
  ·(intro w hSw; (try dsimp only at hSw); go_simp <;> with_reducible rfl)
  try simp only [Act.put, List.setIfInBounds_toArray, List.set_cons_zero, List.set_cons_succ]
  refine wpAnyH_take (i := 2) (v := ?_) (by simp only [List.getElem?_toArray, List.getElem?_cons_zero, List.getElem?_cons_succ]; rfl) (by kernel_rfl) (by kernel_rfl) (by kernel_rfl) (fun _ _ _ h => h) (Or.inl ⟨by rfl, ?_⟩) (by assumption) ?_
  rotate_left
  ·(intro w hSw; (try dsimp only at hSw); go_simp <;> with_reducible rfl)
  try simp only [Act.put, List.setIfInBounds_toArray, List.set_cons_zero, List.set_cons_succ]
  refine wpAnyH_take (i := 3) (v := ?_) (by simp only [List.getElem?_toArray, List.getElem?_cons_zero, List.getElem?_cons_succ]; rfl) (by kernel_rfl) (by kernel_rfl) (by kernel_rfl) (fun _ _ _ h => h) (Or.inl ⟨by rfl, ?_⟩) (by assumption) ?_
  rotate_left
  ·(intro w hSw; (try dsimp only at hSw); go_simp <;> with_reducible rfl)
  try simp only [Act.put, List.setIfInBounds_toArray, List.set_cons_zero, List.set_cons_succ]
  refine wpAnyH_take (i := 4) (v := ?_) (by simp only [List.getElem?_toArray, List.getElem?_cons_zero, List.getElem?_cons_succ]; rfl) (by kernel_rfl) (by kernel_rfl) (by kernel_rfl) (fun _ _ _ h => h) (Or.inl ⟨by rfl, ?_⟩) (by assumption) ?_
  rotate_left
  ·(intro w hSw; (try dsimp only at hSw); go_simp <;> with_reducible rfl)
  try simp only [Act.put, List.setIfInBounds_toArray, List.set_cons_zero, List.set_cons_succ]
  refine wpAnyH_take (i := 5) (v := ?_) (by simp only [List.getElem?_toArray, List.getElem?_cons_zero, List.getElem?_cons_succ]; rfl) (by kernel_rfl) (by kernel_rfl) (by kernel_rfl) (fun _ _ _ h => h) (Or.inl ⟨by rfl, ?_⟩) (by assumption) ?_
  rotate_left
  ·(intro w hSw; (try dsimp only at hSw); go_simp <;> with_reducible rfl)
  try simp only [Act.put, List.setIfInBounds_toArray, List.set_cons_zero, List.set_cons_succ]
  refine wpAnyH_take (i := 6) (v := ?_) (by simp only [List.getElem?_toArray, List.getElem?_cons_zero, List.getElem?_cons_succ]; rfl) (by kernel_rfl) (by kernel_rfl) (by kernel_rfl) (fun _ _ _ h => h) (Or.inl ⟨by rfl, ?_⟩) (by assumption) ?_
  rotate_left
  ·(intro w hSw; (try dsimp only at hSw); go_simp <;> with_reducible rfl)
  try simp only [Act.put, List.setIfInBounds_toArray, List.set_cons_zero, List.set_cons_succ]
  refine wpAnyH_take (i := 7) (v := ?_) (by simp only [List.getElem?_toArray, List.getElem?_cons_zero, List.getElem?_cons_succ]; rfl) (by kernel_rfl) (by kernel_rfl) (by kernel_rfl) (fun _ _ _ h => h) (Or.inl ⟨by rfl, ?_⟩) (by assumption) ?_
  rotate_left
  ·(intro w hSw; (try dsimp only at hSw); go_simp <;> with_reducible rfl)
  try simp only [Act.put, List.setIfInBounds_toArray, List.set_cons_zero, List.set_cons_succ]
  refine wpAnyH_take (i := 8) (v := ?_) (by simp only [List.getElem?_toArray, List.getElem?_cons_zero, List.getElem?_cons_succ]; rfl) (by kernel_rfl) (by kernel_rfl) (by kernel_rfl) (fun _ _ _ h => h) (Or.inl ⟨by rfl, ?_⟩) (by assumption) ?_
  rotate_left
  ·(intro w hSw; (try dsimp only at hSw); go_simp <;> with_reducible rfl)
  try simp only [Act.put, List.setIfInBounds_toArray, List.set_cons_zero, List.set_cons_succ]
  refine wpAnyH_ready (rs := [9]) (by kernel_rfl) (by simp) ?_
  refine AllReadyH.cons (by simp only [List.getElem?_toArray, List.getElem?_cons_zero, List.getElem?_cons_succ]; rfl) (fun K hK => ?_) AllReadyH.nil
  go_simp
  refine hK.out _ _ ?_ (fun hHeld => ?_)
  ·exact HSt.out _ HBd.out
  clear hK K
  try simp only [Act.put, List.setIfInBounds_toArray, List.set_cons_zero, List.set_cons_succ]
  refine wpAnyH_ready (rs := [10]) (by kernel_rfl) (by simp) ?_
  refine AllReadyH.cons (by simp only [List.getElem?_toArray, List.getElem?_cons_zero, List.getElem?_cons_succ]; rfl) (fun K hK => ?_) AllReadyH.nil
  go_simp
  refine hK.out _ _ ?_ (fun hHeld => ?_)
  ·exact (by assumption)
  clear hK K
  try simp only [Act.put, List.setIfInBounds_toArray, List.set_cons_zero, List.set_cons_succ]
  refine wpAnyH_take (i := 11) (v := ?_) (by simp only [List.getElem?_toArray, List.getElem?_cons_zero, List.getElem?_cons_succ]; rfl) (by kernel_rfl) (by kernel_rfl) (by kernel_rfl) (fun _ _ _ h => h) (Or.inl ⟨by rfl, ?_⟩) (by assumption) ?_
  rotate_left
  ·(intro w hSw; (try dsimp only at hSw); go_simp <;> with_reducible rfl)
  try simp only [Act.put, List.setIfInBounds_toArray, List.set_cons_zero, List.set_cons_succ]
  refine wpAnyH_done (by kernel_rfl) ?_ _
  refine NoPanic.normal ?_
  clear hHeld hS0
  go_wp2_with fail
  go_ret
  exact ⟨rfl, ⟨n, _, by rw [HE.out]; exact HL2.out, by omega⟩, HB2.out, HK2.out⟩
end Go.Proofs.YtaehhophaaipdaaGreatDoor
