/- Deeds in memory; what a deed does to who waits. -/
import Derived.Test.YtdonclnjgopmbaaOG
namespace Go.Proofs.Ytdonclnjgopmbaa
open Go.RowKit
/-- A deed. -/
structure Dd where
  kd : Int
  x : Nm
  nd : Int
  a : Option Addr
  n : Nat
  c : Nat
def Dd.vals (d : Dd) : List Value := [.int .i64 d.kd, .int .i64 d.x.1, .int .i64 d.x.2, .int .i64 d.nd, .slice d.a d.n d.c]
def flatD : List Dd → List Value
  | [] => []
  | d :: r => d.vals ++ flatD r
theorem flatD_len : ∀ l : List Dd, (flatD l).length = l.length * 5
  | [] => rfl
  | d :: r => by simp [flatD, Dd.vals, flatD_len r]; omega
theorem flatD_get : ∀ (l : List Dd) (i j : Nat) (hi : i < l.length), j < 5 → (flatD l)[i * 5 + j]? = (l[i].vals)[j]?
  | d :: r, 0, j, _, hj => by
    simp only [flatD, Nat.zero_mul, Nat.zero_add, List.getElem_cons_zero]
    rw [List.getElem?_append_left (by simp [Dd.vals]; exact hj)]
  | d :: r, i + 1, j, hi, hj => by
    simp only [flatD, List.getElem_cons_succ]
    rw [List.getElem?_append_right (by simp [Dd.vals]; omega)]
    have e : (i + 1) * 5 + j - d.vals.length = i * 5 + j := by simp [Dd.vals]; omega
    rw [e]
    exact flatD_get r i j (by simpa using hi) hj
/-- Deeds that are handed in. -/
structure DdRow (w : World) (a : Option Addr) (n : Nat) (es : List Dd) : Prop where
  len : es.length = n
  mem : n = 0 ∨ ∃ b o, a = some ⟨b, o, none⟩ ∧ b < w.heap.size ∧ w.rangeAt b o (flatD es)
  wf : ∀ e ∈ es, wfN e.x
theorem DdRow.at {w : World} {a : Option Addr} {n : Nat} {es : List Dd} (h : DdRow w a n es) (k : Nat) (hk : k < n) : ∃ b o d, a = some ⟨b, o, none⟩ ∧ es[k]? = some d ∧ wfN d.x ∧ ∀ w', Below w.heap.size w w' →
    w'.cell? ⟨b, o + k * 5, none⟩ = some (.int .i64 d.kd) ∧ w'.cell? ⟨b, o + k * 5 + 1, none⟩ = some (.int .i64 d.x.1) ∧ w'.cell? ⟨b, o + k * 5 + 2, none⟩ = some (.int .i64 d.x.2) ∧ w'.cell? ⟨b, o + k * 5 + 3, none⟩ = some (.int .i64 d.nd) ∧ w'.cell? ⟨b, o + k * 5 + 4, none⟩ = some (.slice d.a d.n d.c) := by
  rcases h.mem with e | ⟨b, o, e, hb, hr⟩
  · omega
  · have hi : k < es.length := by rw [h.len]; exact hk
    refine ⟨b, o, es[k], e, List.getElem?_eq_getElem hi, h.wf _ (List.getElem_mem hi), fun w' hw => ?_⟩
    have key : ∀ j, j < 5 → ∀ v, (es[k].vals)[j]? = some v → w'.cell? ⟨b, o + k * 5 + j, none⟩ = some v := fun j hj v hv => by
      have h1 := hr (k * 5 + j) v (by rw [flatD_get es k j hi hj]; exact hv)
      rw [← Nat.add_assoc] at h1
      exact (hw.cell (p := ⟨b, o + k * 5 + j, none⟩) hb).trans h1
    exact ⟨key 0 (by omega) _ rfl, key 1 (by omega) _ rfl, key 2 (by omega) _ rfl, key 3 (by omega) _ rfl, key 4 (by omega) _ rfl⟩
/-- What a deed does to who waits. -/
def deedM (m : Nm → List Int) (kd : Int) (x : Nm) (nd : Int) : Nm → List Int :=
  if kd = 0 then (if hasI (m x) nd = true then m else setAt m x (m x ++ [nd])) else if kd = 1 then setAt m x [] else m
theorem deedM_other (m : Nm → List Int) (kd : Int) (x : Nm) (nd : Int) (v : Nm) (h : x ≠ v ∨ (kd ≠ 0 ∧ kd ≠ 1)) : deedM m kd x nd v = m v := by
  unfold deedM
  rcases h with h | ⟨h1, h2⟩
  · have hv : v ≠ x := Ne.symm h
    split
    · split
      · rfl
      · exact setAt_other _ _ hv
    · split
      · exact setAt_other _ _ hv
      · rfl
  · rw [if_neg h1, if_neg h2]
/-- Nobody waits twice; at most k wait. -/
def GoodM (m : Nm → List Int) (k : Nat) : Prop := ∀ y, (m y).length ≤ k ∧ (m y).Nodup
theorem deedM_good (m : Nm → List Int) (kd : Int) (x : Nm) (nd : Int) (k : Nat) (h : GoodM m k) : GoodM (deedM m kd x nd) (k + 1) := by
  intro y
  obtain ⟨h1, h2⟩ := h y
  have base : (m y).length ≤ k + 1 ∧ (m y).Nodup := ⟨by omega, h2⟩
  unfold deedM
  split
  · split
    · exact base
    · next hn =>
      by_cases e : y = x
      · subst e
        rw [setAt_same]
        have hnm : nd ∉ m y := by simpa [hasI] using hn
        refine ⟨by simp; omega, ?_⟩
        rw [List.nodup_append]
        refine ⟨h2, by simp, fun a ha b hb => ?_⟩
        simp only [List.mem_singleton] at hb
        subst hb
        exact fun e => hnm (e ▸ ha)
      · rw [setAt_other _ _ e]; exact base
  · split
    · by_cases e : y = x
      · subst e; rw [setAt_same]; simp
      · rw [setAt_other _ _ e]; exact base
    · exact base
theorem nodup_ne {l : List Int} (h : l.Nodup) {i j : Nat} (hi : i < l.length) (hj : j < l.length) (hij : j < i) : l[i] ≠ l[j] := fun e => by
  exact (List.pairwise_iff_getElem.1 h) j i hj hi hij e.symm
end Go.Proofs.Ytdonclnjgopmbaa
