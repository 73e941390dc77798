/- Rows of names in memory; the reference HasName, SameNames. -/
import Derived.Test.YtaehhophaaipdabDoorV4
namespace Go.Proofs.YtaehhophaaipdabDoor
open Go.RowKit
attribute [local go_sem ↓] Go.wp_at_zero Go.wp_at_succ
abbrev Nm := Int × Int
def nmV (x : Nm) : List Value := [.int .i64 x.1, .int .i64 x.2]
def flatN (l : List Nm) : List Value := l.flatMap nmV
theorem flatN_append (a b : List Nm) : flatN (a ++ b) = flatN a ++ flatN b := by simp [flatN]
theorem flatN_length (l : List Nm) : (flatN l).length = l.length * 2 := by
  induction l with
  | nil => rfl
  | cons a r ih => simp [flatN, nmV] at *; omega
theorem flatN_get (l : List Nm) (i j : Nat) (hi : i < l.length) (hj : j < 2) : (flatN l)[2 * i + j]? = (nmV l[i])[j]? := by
  induction l generalizing i with
  | nil => simp at hi
  | cons a r ih =>
    cases i with
    | zero =>
      simp only [flatN, List.flatMap_cons]
      rw [List.getElem?_append_left (by simp [nmV]; omega)]
      simp
    | succ i =>
      simp only [flatN, List.flatMap_cons]
      rw [List.getElem?_append_right (by simp [nmV]; omega)]
      have e : 2 * (i + 1) + j - (nmV a).length = 2 * i + j := by simp [nmV]; omega
      rw [e]
      exact ih i (by simpa using hi)
theorem flatN_one (l : List Nm) : ∀ u ∈ flatN l, u.oneCell' = true := by
  intro u hu
  simp only [flatN, List.mem_flatMap] at hu
  obtain ⟨c, _, hc⟩ := hu
  simp only [nmV, List.mem_cons, List.not_mem_nil, or_false] at hc
  rcases hc with rfl | rfl <;> rfl
theorem name_cells {w : World} {b o : Nat} {l : List Nm} (h : w.rangeAt b o (flatN l)) (i : Nat) (hi : i < l.length) :
    w.cell? ⟨b, o + i * 2, none⟩ = some (.int .i64 l[i].1) ∧ w.cell? ⟨b, o + i * 2 + 1, none⟩ = some (.int .i64 l[i].2) := by
  have g : ∀ j v, j < 2 → (nmV l[i])[j]? = some v → w.cell? ⟨b, o + i * 2 + j, none⟩ = some v := by
    intro j v hj hv
    have := h (2 * i + j) v (by rw [flatN_get l i j hi hj]; exact hv)
    rw [show o + (2 * i + j) = o + i * 2 + j by omega] at this
    exact this
  exact ⟨g 0 _ (by omega) rfl, g 1 _ (by omega) rfl⟩
/-- A row of names in memory. -/
def NamesAt (w : World) (v : Value) (l : List Nm) : Prop :=
  l.length ≤ maxLen ∧ ((l = [] ∧ ∃ ad : Option Addr, v = .slice ad 0 0) ∨ ∃ b o cap : Nat, v = .slice (some ⟨b, o, none⟩) l.length cap ∧ w.rangeAt b o (flatN l) ∧ b < w.heap.size)
theorem NamesAt.below {w w' : World} {v : Value} {l : List Nm} (h : NamesAt w v l) (hb : Below w.heap.size w w') : NamesAt w' v l := by
  obtain ⟨h0, h⟩ := h
  refine ⟨h0, ?_⟩
  rcases h with h | ⟨b, o, cap, h1, h3, h4⟩
  · exact Or.inl h
  · exact Or.inr ⟨b, o, cap, h1, range_below h3 h4 hb, Nat.lt_of_lt_of_le h4 hb.size⟩
theorem NamesAt.form {w : World} {v : Value} {l : List Nm} (h : NamesAt w v l) : ∃ (ad : Option Addr) (cap : Nat), v = .slice ad l.length cap := by
  rcases h.2 with ⟨rfl, ad, rfl⟩ | ⟨b, o, cap, rfl, _⟩
  · exact ⟨ad, 0, rfl⟩
  · exact ⟨_, _, rfl⟩
def OwnN (w : World) (base : Nat) (u : Value) (l : List Nm) : Prop := w.ownsRow base 26 2 u l.length (flatN l)
theorem range_of_owns {w : World} {g : Nat} {cur : Array Value} {e : TypeId} {m : Nat} {xs : List Value} (h3 : w.heap[g]? = some (.cells cur e (0, 0))) (h7 : cur.toList.take m = xs) : w.rangeAt g 0 xs := by
  intro j u hu
  rw [cell_of_row _ _ _ _ _ _ h3]
  rw [← h7] at hu
  rw [List.getElem?_take] at hu
  split at hu
  · simpa using hu
  · cases hu
theorem namesAt_of_owns {w : World} {base : Nat} {v : Value} {l : List Nm} (h : OwnN w base v l) (hl : l.length ≤ maxLen) : NamesAt w v l := by
  refine ⟨hl, ?_⟩
  rcases h.2 with ⟨h1, h2⟩ | ⟨g, cap, cur, h1, h2, h3, h4, h5, h6, h7⟩
  · exact Or.inl ⟨List.eq_nil_of_length_eq_zero h2, none, h1⟩
  · exact Or.inr ⟨g, 0, cap, h1, range_of_owns h3 h7, (Array.getElem?_eq_some_iff.1 h3).1⟩
theorem owns_below {w w' : World} {base : Nat} {e : TypeId} {s n : Nat} {u : Value} {xs : List Value} (h : w.ownsRow base e s u n xs) (hb : Below w.heap.size w w') : w'.ownsRow base e s u n xs := by
  refine ⟨h.1, ?_⟩
  rcases h.2 with hn | ⟨g, cap, cur, h1, h2, h3, h4⟩
  · exact Or.inl hn
  · exact Or.inr ⟨g, cap, cur, h1, h2, (hb.block g (Array.getElem?_eq_some_iff.1 h3).1).trans h3, h4⟩
theorem eql23b (a b c d : Int) (w : World) :
    (binOp .eql 26 (.agg #[.int .i64 a, .int .i64 b]) (.agg #[.int .i64 c, .int .i64 d])).run Tryd.prog w = .ok (.bool (a == c && b == d)) w := by
  cases h1 : (a == c) <;> cases h2 : (b == d) <;> go_simp
theorem neq23 (a b c d : Int) (w : World) :
    (binOp .neq 26 (.agg #[.int .i64 a, .int .i64 b]) (.agg #[.int .i64 c, .int .i64 d])).run Tryd.prog w = .ok (.bool (!(a == c && b == d))) w := by
  cases h1 : (a == c) <;> cases h2 : (b == d) <;> go_simp
def eqN (x y : Nm) : Bool := x.1 == y.1 && x.2 == y.2
theorem eqN_iff (x y : Nm) : eqN x y = true ↔ x = y := by
  unfold eqN
  simp [Prod.ext_iff]
def hasN (l : List Nm) (x : Nm) : Bool := l.any fun y => eqN y x
theorem hasN_iff (l : List Nm) (x : Nm) : hasN l x = true ↔ x ∈ l := by
  unfold hasN
  simp only [List.any_eq_true, eqN_iff]
  exact ⟨fun ⟨y, h1, h2⟩ => h2 ▸ h1, fun h => ⟨x, h, rfl⟩⟩
def eqNUpto (l m : List Nm) (k : Nat) : Prop := ∀ j, j < k → ∀ (h1 : j < l.length) (h2 : j < m.length), eqN l[j] m[j] = true
def eqNs (l m : List Nm) : Bool := decide (l = m)
theorem eqNs_true {l m : List Nm} (h : l.length = m.length) (hu : eqNUpto l m l.length) : eqNs l m = true := by
  unfold eqNs
  rw [decide_eq_true_eq]
  refine List.ext_getElem h fun j h1 h2 => ?_
  exact (eqN_iff _ _).1 (hu j h1 h1 h2)
theorem eqNs_false {l m : List Nm} (j : Nat) (h1 : j < l.length) (h2 : j < m.length) (h : eqN l[j] m[j] = false) : eqNs l m = false := by
  unfold eqNs
  rw [decide_eq_false_iff_not]
  intro e
  subst e
  have := (eqN_iff l[j] l[j]).2 rfl
  rw [h] at this; cases this
end Go.Proofs.YtaehhophaaipdabDoor
