/- Counts that rise: the order of counts, rows that rise and hold just what a map holds. -/
import Derived.Test.YtjbgemmcbombfaaSK
import Derived.Test.YtjbgemmcbombfaaRJ
namespace Go.Proofs.Ytjbgemmcbombfaa
open Go.RowKit Go.Sort
def cmpI (x y : Int) : Int := if x < y then -1 else if y < x then 1 else 0
def orI (x y : Int) : Int := if x = 0 then y else x
def namesS (x1 x2 y1 y2 : Int) : Int := orI (cmpI x1 y1) (cmpI x2 y2)
/-- A count: who holds what, how often. -/
abbrev Ct := Hk × Int
def encC (x : Ct) : List Value := [.int .i64 x.1.1.1, .int .i64 x.1.1.2, .int .i64 x.1.2, .int .i64 x.2]
theorem encC_len (x : Ct) : (encC x).length = 4 := rfl
def cfC (x y : Ct) : Int := orI (namesS x.1.1.1 x.1.1.2 y.1.1.1 y.1.1.2) (cmpI x.1.2 y.1.2)
def ltC (x y : Ct) : Prop := x.1.1.1 < y.1.1.1 ∨ (x.1.1.1 = y.1.1.1 ∧ (x.1.1.2 < y.1.1.2 ∨ (x.1.1.2 = y.1.1.2 ∧ x.1.2 < y.1.2)))
theorem cmpI_cases (x y : Int) : (cmpI x y = -1 ∧ x < y) ∨ (cmpI x y = 0 ∧ x = y) ∨ (cmpI x y = 1 ∧ y < x) := by
  unfold cmpI
  by_cases h : x < y
  · rw [if_pos h]; exact .inl ⟨rfl, h⟩
  · rw [if_neg h]
    by_cases h2 : y < x
    · rw [if_pos h2]; exact .inr (.inr ⟨rfl, h2⟩)
    · rw [if_neg h2]; exact .inr (.inl ⟨rfl, by omega⟩)
theorem lt_iff (x y : Ct) : cfC x y < 0 ↔ ltC x y := by
  unfold cfC namesS orI ltC
  rcases cmpI_cases x.1.1.1 y.1.1.1 with ⟨e1, h1⟩ | ⟨e1, h1⟩ | ⟨e1, h1⟩ <;> rcases cmpI_cases x.1.1.2 y.1.1.2 with ⟨e2, h2⟩ | ⟨e2, h2⟩ | ⟨e2, h2⟩ <;> rcases cmpI_cases x.1.2 y.1.2 with ⟨e3, h3⟩ | ⟨e3, h3⟩ | ⟨e3, h3⟩ <;> simp only [e1, e2, e3] <;> simp <;> omega
theorem ltB_iff (x y : Ct) : ltOf cfC x y = true ↔ ltC x y := by unfold ltOf; rw [decide_eq_true_eq]; exact lt_iff x y
theorem ltB_not (x y : Ct) : ltOf cfC x y = false ↔ ¬ ltC x y := by rw [← ltB_iff]; simp
theorem ltC_irr (x : Ct) : ¬ ltC x x := by unfold ltC; omega
theorem ltC_tr (x y z : Ct) (h1 : ltC x y) (h2 : ltC y z) : ltC x z := by unfold ltC at *; omega
theorem ltC_tri (x y : Ct) (h : ¬ ltC y x) (hk : x.1 ≠ y.1) : ltC x y := by
  obtain ⟨⟨⟨x1, x2⟩, x3⟩, x4⟩ := x
  obtain ⟨⟨⟨y1, y2⟩, y3⟩, y4⟩ := y
  simp only [ltC, ne_eq, Prod.mk.injEq] at *
  omega
theorem swoC : SWO (ltOf cfC) where
  irrefl x := (ltB_not x x).2 (ltC_irr x)
  trans x y z h1 h2 := (ltB_iff x z).2 (ltC_tr x y z ((ltB_iff x y).1 h1) ((ltB_iff y z).1 h2))
  ntrans x y z h1 h2 := by
    rw [ltB_not] at *
    unfold ltC at *
    omega
/-- A row that rises, and holds just what a map holds. -/
structure Rises (f : Hk → Int) (l : List Ct) : Prop where
  el : ∀ e ∈ l, wfK e.1 ∧ f e.1 = e.2 ∧ e.2 ≠ 0
  all : ∀ k, wfK k → f k ≠ 0 → (k, f k) ∈ l
  up : l.Pairwise ltC
theorem Rises.like {f g : Hk → Int} {l m : List Ct} (h : Rises f l) (h' : Rises g m) (hf : ∀ k, wfK k → f k = g k) : l = m := by
  refine rise_ext ltC_irr ltC_tr h.up h'.up fun x => ⟨fun hx => ?_, fun hx => ?_⟩
  · obtain ⟨k, v⟩ := x
    obtain ⟨h1, h2, h3⟩ := h.el _ hx
    simp only at h1 h2 h3
    subst h2
    have := h'.all k h1 (by rw [← hf k h1]; exact h3)
    rw [hf k h1]; exact this
  · obtain ⟨k, v⟩ := x
    obtain ⟨h1, h2, h3⟩ := h'.el _ hx
    simp only at h1 h2 h3
    subst h2
    have := h.all k h1 (by rw [hf k h1]; exact h3)
    rw [← hf k h1]; exact this
/-- What was gathered, sorted, rises. -/
theorem rises_of {f : Hk → Int} {l : List Ct} {d' : Array Ct} (hp : PermIn 0 l.toArray.size l.toArray d') (hs : SortedIn (ltOf cfC) 0 l.toArray.size d') (hel : ∀ e ∈ l, wfK e.1 ∧ f e.1 = e.2 ∧ e.2 ≠ 0) (hall : ∀ k, wfK k → f k ≠ 0 → (k, f k) ∈ l) (hnd : (l.map (·.1)).Nodup) :
    Rises f d'.toList ∧ d'.size = l.length := by
  obtain ⟨h1, _, h3⟩ := hp
  have h4 : d'.toList.Perm l := by
    have e1 : d'.extract 0 l.toArray.size = d' := by rw [← h1]; simp
    have e2 : l.toArray.extract 0 l.toArray.size = l.toArray := by simp
    rw [e1, e2] at h3
    exact h3
  have hnd' : (d'.toList.map (·.1)).Nodup := (h4.map (·.1)).nodup_iff.2 hnd
  refine ⟨⟨fun e he => hel e (h4.mem_iff.1 he), fun k hk hf => h4.mem_iff.2 (hall k hk hf), ?_⟩, by simpa using h1⟩
  rw [List.pairwise_iff_getElem]
  intro i j hi hj hij
  have hsz : d'.toList.length = l.toArray.size := by simpa using h1
  have h5 := hs i j (Nat.zero_le _) hij (by omega)
  have hi' : i < d'.size := by simpa using hi
  have hj' : j < d'.size := by simpa using hj
  rw [getElem!_pos d' i hi', getElem!_pos d' j hj', ltB_not] at h5
  refine ltC_tri _ _ (by simpa using h5) fun e => ?_
  have h6 := (List.pairwise_iff_getElem.1 hnd') i j (by simpa using hi) (by simpa using hj) hij
  simp only [List.getElem_map] at h6
  exact h6 e
end Go.Proofs.Ytjbgemmcbombfaa
