/- Contract of Vars: each name once, in the order in which they first come. -/
import Derived.Test.YtaehhophaaipdabDoorN2
import Derived.Maps.OwnIn
import Derived.Maps.Views
import Derived.DeepKeys4
namespace Go.Proofs.YtaehhophaaipdabDoor
open Go.RowKit Go.Shelf
attribute [local go_sem] Oper.semAt_some
def wfN (x : Nm) : Prop := (Lit.int .i64 x.1).wf = true ∧ (Lit.int .i64 x.2).wf = true
def kLit (x : Nm) : Lit := .string (keyBytes [.int .i64 x.1, .int .i64 x.2])
theorem law23 : WideMaps.KeyLaw Tryd.prog 26 := deep_law_laid (by kernel_rfl) (m := 2) (by omega) (of_decide_eq_true (by kernel_rfl)) (by kernel_rfl) (by rw [Tryd.underlying26])
theorem keyed23 : Maps.Keyed Tryd.prog 26 := Maps.Keyed.of_law law23
theorem key23 (x : Nm) (h : wfN x) : keyOf Tryd.prog 26 (.agg #[.int .i64 x.1, .int .i64 x.2]) = some (kLit x) := by
  obtain ⟨h1, h2⟩ := h
  have hk : Tryd.prog.keyType 26 = true := by kernel_rfl
  have hc : Tryd.prog.cellsOf 26 = 2 := by kernel_rfl
  have hc3 : Tryd.prog.cellsOf 3 = 1 := by kernel_rfl
  have hs : ∃ n, Tryd.prog.types.size = n + 1 := ⟨Tryd.prog.types.size - 1, by have : 0 < Tryd.prog.types.size := of_decide_eq_true (by kernel_rfl); omega⟩
  obtain ⟨n, hs⟩ := hs
  have hf : (Value.agg #[.int .i64 x.1, .int .i64 x.2]).formed Tryd.prog 26 = true := by simp [Value.formed, Tryd.underlying26, hc]
  unfold keyOf
  rw [Tryd.underlying26]
  simp only [hk, hf, Bool.and_self, if_true, hs]
  simp [Program.keyLits, Tryd.underlying26, Tryd.underlying3, hc, hc3, Value.cells, h1, h2, kLit]
theorem kLit_inj {x y : Nm} (hx : wfN x) (hy : wfN y) (h : kLit x = kLit y) : x = y := by
  have h1 := key23 x hx
  have h2 := key23 y hy
  rw [← h] at h2
  have h3 := law23.inj h1 h2
  simp at h3
  exact Prod.ext h3.1 h3.2
def setD (l : List Nm) : DataW Unit := Maps.setOf (.agg []) (l.map kLit)
theorem has_setD (l : List Nm) (x : Nm) (hl : ∀ y ∈ l, wfN y) (hx : wfN x) : Maps.has (setD l) (kLit x) = hasN l x := by
  unfold setD
  rw [Maps.has_setOf _ _ _ (fun y hy => by obtain ⟨z, hz, rfl⟩ := List.mem_map.1 hy; exact keyed23.key (key23 z (hl z hz)))]
  rw [Bool.eq_iff_iff, hasN_iff, List.any_eq_true]
  constructor
  · rintro ⟨y, hy, h⟩
    obtain ⟨z, hz, rfl⟩ := List.mem_map.1 hy
    have := kLit_inj (hl z hz) hx (WideAt.sameKey_eq h)
    subst this; exact hz
  · intro h
    exact ⟨kLit x, List.mem_map.2 ⟨x, h, rfl⟩, WideAt.sameKey_self (keyed23.key (key23 x hx))⟩
theorem setD_snoc (l : List Nm) (x : Nm) : setD (l ++ [x]) = (setD l).put (kLit x) (.agg []) := by
  unfold setD; rw [List.map_append, List.map_singleton, Maps.setOf_snoc]
theorem addN_mem (acc : List Nm) (x y : Nm) (h : y ∈ addN acc x) : y ∈ acc ∨ y = x := by
  unfold addN at h
  split at h
  · exact .inl h
  · rcases List.mem_append.1 h with h | h
    · exact .inl h
    · exact .inr (by simpa using h)
theorem foldN_mem (xs acc : List Nm) (y : Nm) (h : y ∈ xs.foldl addN acc) : y ∈ acc ∨ y ∈ xs := by
  induction xs generalizing acc with
  | nil => exact .inl h
  | cons a r ih =>
    rcases ih (addN acc a) h with h | h
    · rcases addN_mem _ _ _ h with h | h
      · exact .inl h
      · exact .inr (by simp [h])
    · exact .inr (by simp [h])
theorem nubN_mem (xs : List Nm) (y : Nm) (h : y ∈ nubN xs) : y ∈ xs := by
  rcases foldN_mem xs [] y h with h | h
  · simp at h
  · exact h
theorem zero74 (w : World) : (zeroValue 97).run Tryd.prog w = .ok (.agg #[]) w := by kernel_rfl
abbrev WN := { x : Nm // wfN x }
def nubP (pre : List WN) : List Nm := nubN (pre.map (·.1))
theorem nubP_snoc (pre : List WN) (x : WN) : nubP (pre ++ [x]) = addN (nubP pre) x.1 := by
  unfold nubP; rw [List.map_append, List.map_singleton, nubN_snoc]
theorem nubP_wf (pre : List WN) : ∀ y ∈ nubP pre, wfN y := by
  intro y hy
  obtain ⟨z, hz, rfl⟩ := List.mem_map.1 (nubN_mem _ _ hy)
  exact z.2
theorem row_not_map {w : World} {base : Nat} {e : TypeId} {s n m b : Nat} {v : Value} {xs : List Value} {P : Program} {k : TypeId} {D : DataW Unit} (h : w.ownsRow base e s v n xs) (hm : w.ownsMap P k unitElem b m D) : v.ownBlock ≠ some b := by
  obtain ⟨es, ck, hh, _⟩ := hm
  rcases h.2 with ⟨rfl, _⟩ | ⟨g, cap, cur, rfl, _, hg, _⟩
  · simp [Value.ownBlock]
  · intro e1
    simp [Value.ownBlock] at e1
    subst e1
    rw [hh] at hg; cases hg
theorem map_keeps {w w' : World} {m b : Nat} {P : Program} {k : TypeId} {D : DataW Unit} (hm : w.ownsMap P k unitElem b m D) (hk : KeepsOthers w w') : w'.ownsMap P k unitElem b m D := by
  obtain ⟨es, ck, hh, h⟩ := hm
  exact ⟨es, ck, hk.same _ _ hh rfl, h⟩
end Go.Proofs.YtaehhophaaipdabDoor
