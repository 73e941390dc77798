/- Rows in memory of their own, by their shape: what is written into them leaves the shape. -/
import Derived.Test.YtpepogmkbcbmpabDoorA3
import Derived.OneCell
namespace Go.Proofs.YtpepogmkbcbmpabDoor
open Go.RowKit
/-- A term in memory of its own, whatever its cells hold. -/
def OwnS (w : World) (base : Nat) (u : Value) (n : Nat) : Prop := ∃ xs, w.ownsRow base 34 5 u n xs
theorem OwnS.below {w w' : World} {base : Nat} {u : Value} {n : Nat} (h : OwnS w base u n) (hb : Below w.heap.size w w') : OwnS w' base u n := by
  obtain ⟨xs, h⟩ := h
  refine ⟨xs, h.1, ?_⟩
  rcases h.2 with hn | ⟨g, cap, cur, h1, h2, h3, h4⟩
  · exact Or.inl hn
  · exact Or.inr ⟨g, cap, cur, h1, h2, (hb.block g (Array.getElem?_eq_some_iff.1 h3).1).trans h3, h4⟩
theorem OwnS.down {w : World} {base base' : Nat} {u : Value} {n : Nat} (h : OwnS w base u n) (hb : base' ≤ base) : OwnS w base' u n := by
  obtain ⟨xs, h⟩ := h
  refine ⟨xs, h.1, ?_⟩
  rcases h.2 with hn | ⟨g, cap, cur, h1, h2, h3, h4⟩
  · exact Or.inl hn
  · exact Or.inr ⟨g, cap, cur, h1, by omega, h3, h4⟩
theorem OwnS.set {w : World} {base : Nat} {u : Value} {n : Nat} (h : OwnS w base u n) (b o : Nat) (x : Value) : OwnS (w.setCell ⟨b, o, none⟩ x) base u n := by
  obtain ⟨xs, h⟩ := h
  rcases h.2 with hn | ⟨g, cap, cur, h1, h2, h3, h4, h5, h6, h7⟩
  · exact ⟨xs, h.1, Or.inl hn⟩
  · by_cases e : g = b
    · subst e
      have h8 := heap_setCell_same w g o cur 34 x h3
      refine ⟨(cur.setIfInBounds o x).toList.take (n * 5), ?_, Or.inr ⟨g, cap, cur.setIfInBounds o x, h1, h2, h8, h4, h5, by simp [h6], rfl⟩⟩
      rw [List.length_take]
      have h9 : (cur.setIfInBounds o x).toList.length = cap * 5 := by simp [h6]
      rw [h9]
      have : n * 5 ≤ cap * 5 := Nat.mul_le_mul_right _ h4
      omega
    · exact ⟨xs, h.1, Or.inr ⟨g, cap, cur, h1, h2, by rw [heap_setCell_other w ⟨b, o, none⟩ g x e]; exact h3, h4, h5, h6, h7⟩⟩
/-- A cell of it: it is there, and may be written. -/
theorem OwnS.cell {w : World} {base : Nat} {u : Value} {n : Nat} (h : OwnS w base u n) (k : Nat) (hk : k < n) : ∃ g cap, u = .slice (some ⟨g, 0, none⟩) n cap ∧ base ≤ g ∧ n ≤ cap ∧ cap ≤ maxLen ∧ (∃ y, w.cell? ⟨g, k * 5 + 2, none⟩ = some y) ∧ w.frozen? ⟨g, k * 5 + 2, none⟩ = false ∧ ∃ cur, w.heap[g]? = some (.cells cur 34 (0, 0)) := by
  obtain ⟨xs, h⟩ := h
  rcases h.2 with hn | ⟨g, cap, cur, h1, h2, h3, h4, h5, h6, h7⟩
  · omega
  · refine ⟨g, cap, h1, h2, h4, h5, ?_, frozen_of_row w g _ cur 34 h3, cur, h3⟩
    rw [cell_of_row _ _ _ _ _ _ h3]
    exact ⟨cur[k * 5 + 2]'(by omega), Array.getElem?_eq_getElem (by omega)⟩
theorem OwnS.form {w : World} {base : Nat} {u : Value} {n : Nat} (h : OwnS w base u n) : ∃ ad cap, u = .slice ad n cap := by
  obtain ⟨xs, h⟩ := h
  rcases h.2 with ⟨h1, h2⟩ | ⟨g, cap, cur, h1, _⟩
  · exact ⟨none, 0, by rw [h1, h2]⟩
  · exact ⟨_, _, h1⟩
/-- A row of terms in memory of its own, by its shape. -/
def RowS (w : World) (base : Nat) (a : Value) (us : List Value) (ns : List Nat) : Prop := w.ownsRow base 23 1 a ns.length us ∧ ∀ (j : Nat) (v : Value) (n : Nat), us[j]? = some v → ns[j]? = some n → OwnS w base v n
theorem RowS.set {w : World} {base : Nat} {a : Value} {us : List Value} {ns : List Nat} (h : RowS w base a us ns) {b : Nat} (o : Nat) (x : Value) {cur : Array Value} (hb : w.heap[b]? = some (.cells cur 34 (0, 0))) : RowS (w.setCell ⟨b, o, none⟩ x) base a us ns := by
  refine ⟨ownsRow_setCell_other h.1 (fun e => ?_) x, fun j v n h1 h2 => (h.2 j v n h1 h2).set b o x⟩
  rcases h.1.2 with ⟨a1, _⟩ | ⟨g1, _, _, a1, _, a3, _⟩
  · rw [a1] at e; cases e
  · rw [a1] at e
    cases e
    rw [a3] at hb
    cases hb
theorem RowS.below {w w' : World} {base : Nat} {a : Value} {us : List Value} {ns : List Nat} (h : RowS w base a us ns) (hb : Below w.heap.size w w') : RowS w' base a us ns := by
  refine ⟨⟨h.1.1, ?_⟩, fun j v n h1 h2 => (h.2 j v n h1 h2).below hb⟩
  rcases h.1.2 with hn | ⟨g, cap, cur, h1, h2, h3, h4⟩
  · exact Or.inl hn
  · exact Or.inr ⟨g, cap, cur, h1, h2, (hb.block g (Array.getElem?_eq_some_iff.1 h3).1).trans h3, h4⟩
theorem rowS_of {w : World} {base : Nat} {a : Value} {ls : List (List C)} (h : OwnRow w base a ls) : ∃ us, RowS w base a us (ls.map List.length) := by
  obtain ⟨us, h1, h2⟩ := h
  refine ⟨us, by rw [List.length_map]; exact h1, fun j v n hv hn => ?_⟩
  rw [List.getElem?_map] at hn
  cases hx : ls[j]? with
  | none => rw [hx] at hn; cases hn
  | some x =>
    rw [hx] at hn
    simp at hn
    subst hn
    exact ⟨_, h2 j v x hv hx⟩
/-- One of the row's terms: its place in the row, and what stands there. -/
theorem RowS.at {w : World} {base : Nat} {a : Value} {us : List Value} {ns : List Nat} (h : RowS w base a us ns) (i : Nat) (hi : i < ns.length) : ∃ g cap v, a = .slice (some ⟨g, 0, none⟩) ns.length cap ∧ us[i]? = some v ∧ w.cell? ⟨g, i, none⟩ = some v ∧ OwnS w base v ns[i] := by
  have hl := h.1.1
  have hiu : i < us.length := by omega
  rcases h.1.2 with hn | ⟨g, cap, cur, h1, h2, h3, h4, h5, h6, h7⟩
  · omega
  · refine ⟨g, cap, us[i], h1, List.getElem?_eq_getElem hiu, ?_, h.2 i _ _ (List.getElem?_eq_getElem hiu) (List.getElem?_eq_getElem hi)⟩
    rw [cell_of_row _ _ _ _ _ _ h3]
    obtain ⟨y, hy⟩ : ∃ y, us[i] = y := ⟨_, rfl⟩
    have e : us[i]? = some y := by rw [List.getElem?_eq_getElem hiu, hy]
    rw [hy]
    rw [← h7, List.getElem?_take] at e
    split at e
    · simpa using e
    · cases e
end Go.Proofs.YtpepogmkbcbmpabDoor
