/- Same of like bytes; what the statement on messages that are taken once keeps in memory. -/
import Derived.Test.YtopljcabcknaeaaLkLI
namespace Go.Proofs.Ytopljcabcknaeaa.Lk
open Go.RowKit
attribute [local go_sem ↓] Go.wp_at_zero Go.wp_at_succ
theorem _root_.Go.Proofs.Ytopljcabcknaeaa.By.get {w : World} {a : Option Addr} {n c : Nat} {xs : List Int} (h : By w a n c xs) {k : Nat} (hk : k < n) : ∃ b o x, a = some ⟨b, o, none⟩ ∧ w.cell? ⟨b, o + k, none⟩ = some (.int .u8 x) ∧ xs[k]? = some x := by
  rcases h.mem with e | ⟨b, o, e, _, hr⟩
  · omega
  · have hx : k < xs.length := by rw [h.len]; exact hk
    exact ⟨b, o, xs[k], e, hr k _ (by unfold u8s; rw [List.getElem?_map, List.getElem?_eq_getElem hx]; rfl), List.getElem?_eq_getElem hx⟩
/-- A datagram's cells. -/
def encD (k : Nat) (s : Sl) : List Value := [.int .i64 0, .int .i64 1, .bool false, .int .i64 (k : Int), s.v]
def encAll : List Sl → Nat → List Value
  | [], _ => []
  | s :: r, k => encD k s ++ encAll r (k + 1)
theorem encAll_snoc : ∀ (l : List Sl) (k : Nat) (s : Sl), encAll (l ++ [s]) k = encAll l k ++ encD (k + l.length) s
  | [], k, s => by simp [encAll]
  | x :: r, k, s => by
    simp only [List.cons_append, encAll, encAll_snoc r (k + 1) s, List.append_assoc, List.length_cons]
    rw [show k + 1 + r.length = k + (r.length + 1) by omega]
theorem encAll_len : ∀ (l : List Sl) (k : Nat), (encAll l k).length = l.length * 5
  | [], _ => rfl
  | x :: r, k => by
    simp only [encAll, List.length_append, encAll_len r (k + 1), List.length_cons, encD, List.length_nil]
    omega
theorem encAll_get : ∀ (l : List Sl) (k j : Nat) (s : Sl), l[j]? = some s → ∀ i u, (encD (k + j) s)[i]? = some u → (encAll l k)[j * 5 + i]? = some u
  | [], _, _, _, h, _, _, _ => by simp at h
  | x :: r, k, 0, s, h, i, u, hu => by
    simp only [List.getElem?_cons_zero, Option.some.injEq] at h
    subst h
    have hi : i < 5 := by
      have := (List.getElem?_eq_some_iff.1 hu).1
      simpa [encD] using this
    simp only [encAll, Nat.zero_mul, Nat.zero_add]
    rw [List.getElem?_append_left (by simp [encD]; exact hi)]
    simpa using hu
  | x :: r, k, j + 1, s, h, i, u, hu => by
    simp only [List.getElem?_cons_succ] at h
    have h1 := encAll_get r (k + 1) j s h i u (by rw [show k + 1 + j = k + (j + 1) by omega]; exact hu)
    simp only [encAll]
    rw [List.getElem?_append_right (by simp [encD]; omega)]
    have e : (j + 1) * 5 + i - (encD k x).length = j * 5 + i := by simp [encD]; omega
    rw [e]
    exact h1
theorem owns_kind {w : World} {B : Nat} {e : TypeId} {sz n : Nat} {v : Value} {xs : List Value} (h : w.ownsRow B e sz v n xs) {g : Nat} (hg : v.ownBlock = some g) : ∃ cu : Array Value, w.heap[g]? = some (.cells cu e (0, 0)) := by
  rcases h.2 with ⟨rfl, _⟩ | ⟨g', cap, cur, rfl, h2, h3, h4⟩
  · simp [Value.ownBlock] at hg
  · simp [Value.ownBlock] at hg
    subst hg
    exact ⟨cur, h3⟩
theorem owns_keeps {w w' : World} {B : Nat} {e : TypeId} {sz n : Nat} {v : Value} {xs : List Value} (h : w.ownsRow B e sz v n xs) (hk : ∀ g, v.ownBlock = some g → w'.heap[g]? = w.heap[g]?) : w'.ownsRow B e sz v n xs := by
  refine ⟨h.1, ?_⟩
  rcases h.2 with h1 | ⟨g', cap, cur, e1, h2, h3, h4⟩
  · exact .inl h1
  · exact .inr ⟨g', cap, cur, e1, h2, (hk g' (by rw [e1]; rfl)).trans h3, h4⟩
theorem LkG.toO {w : World} {B lb : Nat} {fi : Int} {s : Sl} {l : List Sl} (h : LkG w B lb fi s l) : LkO w lb fi s l := by
  have hlen : l.length = s.n := by have := h.row.len; rw [List.length_map] at this; exact this
  refine ⟨h.blk, hlen.symm, fun k t e => ?_, fun t ht => ?_⟩
  · have hk := (List.getElem?_eq_some_iff.1 e).1
    rcases h.row.mem with ⟨_, e1⟩ | ⟨g, o, e1, _, ⟨cu, e4, _⟩, e3⟩
    · have := h.row.cap; omega
    · exact ⟨g, o, e1, (Array.getElem?_eq_some_iff.1 e4).1, e3 k t.v (by rw [List.getElem?_map, e]; rfl)⟩
  · obtain ⟨xs, k1, k2, k3⟩ := h.bys t ht
    exact ⟨xs, k1.by k2, k3⟩
end Go.Proofs.Ytopljcabcknaeaa.Lk
