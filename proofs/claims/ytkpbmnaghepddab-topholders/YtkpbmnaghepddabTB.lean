/- The plain side of TopHolders. -/
import Derived.Test.YtkpbmnaghepddabTA
namespace Go.Proofs.Ytkpbmnaghepddab
/-- All rows of unlike nodes. -/
def rowsS : List (List Int) := [[], [1], [2], [3], [1, 2], [1, 3], [2, 1], [2, 3], [3, 1], [3, 2], [1, 2, 3], [1, 3, 2], [2, 1, 3], [2, 3, 1], [3, 1, 2], [3, 2, 1]]
def putM (m : List Int) (k : Int) : List Int := if Ow.hasI m k = true then m else m ++ [k]
theorem rows_put : ∀ m ∈ rowsS, ∀ k ∈ [(1 : Int), 2, 3], putM m k ∈ rowsS ∧ putM m k ≠ [] := by decide
theorem rows_len : ∀ m ∈ rowsS, m.length ≤ 3 := by decide
theorem rows_apart : ∀ m ∈ rowsS, ∀ i ∈ [0, 1, 2], ∀ k ∈ [0, 1, 2], k < i → i < m.length → ¬ m[i]? = m[k]? := by decide
/-- How often each node is there. -/
def cnt (L : List Int) : Int → Int := fun j => (L.count j : Int)
theorem cnt_nil : cnt [] = fun _ => 0 := by funext j; simp [cnt]
theorem cnt_snoc (L : List Int) (k : Int) : upC (cnt L) k 1 = cnt (L ++ [k]) := by
  funext j
  unfold upC cnt
  by_cases e : j = k
  · subst e; simp
  · have : ¬ k = j := fun h => e h.symm
    simp [e, List.count_append, this]
theorem cnt_cons (L : List Int) (k : Int) : upC (cnt (k :: L)) k (-1) = cnt L := by
  funext j
  unfold upC cnt
  by_cases e : j = k
  · subst e; simp; omega
  · have : ¬ k = j := fun h => e h.symm
    simp [e, this]
theorem cnt_le (L : List Int) (j : Int) : 0 ≤ cnt L j ∧ cnt L j ≤ L.length := by
  unfold cnt
  have := List.count_le_length (a := j) (l := L)
  omega
theorem cnt_zero (L : List Int) (h : ∀ x ∈ L, x ∈ [(1 : Int), 2, 3]) : cnt L 0 = 0 := by
  unfold cnt
  have : L.count 0 = 0 := List.count_eq_zero.2 fun h0 => by have := h 0 h0; simp at this
  omega
theorem exp_list (x2 : Int) (L : List Int) (h : ∀ x ∈ L, x ∈ [(1 : Int), 2, 3]) : expB (cntF (0, x2) (cnt L)) 4 (0, x2) = decide (0 < L.length) := by
  rw [exp_cnt _ _ (cnt_zero L h)]
  cases L with
  | nil => simp [cnt]
  | cons y l =>
    have h1 : 0 < cnt (y :: l) y := by unfold cnt; simp
    have h2 := h y List.mem_cons_self
    simp only [List.mem_cons, List.not_mem_nil, or_false] at h2
    rcases h2 with rfl | rfl | rfl
    · have : ¬ cnt (1 :: l) 1 = 0 := by omega
      simp [this]
    · have : ¬ cnt (2 :: l) 2 = 0 := by omega
      simp [this]
    · have : ¬ cnt (3 :: l) 3 = 0 := by omega
      simp [this]
theorem oneM_set (x2 : Int) (m m' : List Int) : Ow.setAt (oneM x2 m) (0, x2) m' = oneM x2 m' := by
  funext y
  unfold Ow.setAt oneM
  by_cases e : y = (0, x2) <;> simp [e]
theorem oneM_ask (x2 : Int) (m : List Int) (k : Int) : (if Ow.hasI (oneM x2 m (0, x2)) k = true then oneM x2 m else Ow.setAt (oneM x2 m) (0, x2) (oneM x2 m (0, x2) ++ [k])) = oneM x2 (putM m k) := by
  have e : oneM x2 m (0, x2) = m := by simp [oneM]
  rw [e]
  unfold putM
  split
  · rfl
  · rw [oneM_set]
end Go.Proofs.Ytkpbmnaghepddab
