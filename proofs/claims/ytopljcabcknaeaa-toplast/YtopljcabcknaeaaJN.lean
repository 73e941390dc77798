/- Rows of payloads; contract of SamePayloads. -/
import Derived.Test.YtopljcabcknaeaaJK
namespace Go.Proofs.Ytopljcabcknaeaa
open Go.RowKit
attribute [local go_sem ↓] Go.wp_at_zero Go.wp_at_succ
/-- Payloads that can be read. -/
structure Pl (w : World) (a : Option Addr) (n c : Nat) (l : List Sl) (ps : List (List Int)) : Prop where
  len : l.length = n
  cap : n ≤ c
  plen : ps.length = n
  mem : n = 0 ∨ ∃ b o, a = some ⟨b, o, none⟩ ∧ b < w.heap.size ∧ w.rangeAt b o (l.map Sl.v)
  by_ : ∀ (i : Nat) (s : Sl) (xs : List Int), l[i]? = some s → ps[i]? = some xs → By w s.a s.n s.c xs
  small : ∀ s ∈ l, s.n ≤ 140737488355328
theorem Pl.below {w w' : World} {a : Option Addr} {n c : Nat} {l : List Sl} {ps : List (List Int)} (h : Pl w a n c l ps) (hb : Below w.heap.size w w') : Pl w' a n c l ps :=
  ⟨h.len, h.cap, h.plen, by
    rcases h.mem with e | ⟨b, o, e, hl, hr⟩
    · exact .inl e
    · exact .inr ⟨b, o, e, Nat.lt_of_lt_of_le hl hb.size, fun j u hu => (hb.cell (p := ⟨b, o + j, none⟩) hl).trans (hr j u hu)⟩, fun i s xs h1 h2 => (h.by_ i s xs h1 h2).below hb, h.small⟩
theorem Pl.at {w : World} {a : Option Addr} {n c : Nat} {l : List Sl} {ps : List (List Int)} (h : Pl w a n c l ps) {k : Nat} (hk : k < n) :
    ∃ b o s, a = some ⟨b, o, none⟩ ∧ w.cell? ⟨b, o + k, none⟩ = some (.slice s.a s.n s.c) ∧ By w s.a s.n s.c (ps[k]'(by rw [h.plen]; exact hk)) ∧ s.n ≤ 140737488355328 ∧ l[k]? = some s := by
  have hl := h.len
  have hp := h.plen
  have hkl : k < l.length := by omega
  rcases h.mem with e | ⟨b, o, e, hlt, hr⟩
  · omega
  · refine ⟨b, o, l[k], e, hr k _ ?_, h.by_ k _ _ (List.getElem?_eq_getElem hkl) (List.getElem?_eq_getElem (by omega)), h.small _ (List.getElem_mem _), List.getElem?_eq_getElem hkl⟩
    rw [List.getElem?_map, List.getElem?_eq_getElem hkl]; rfl
theorem Told.pl {w w' : World} {a : Option Addr} {n c : Nat} {ps : List (List Int)} (h : Told w a n c ps w') (hb : ∀ p ∈ ps, p.length ≤ 140737488355328 ∧ ∀ x ∈ p, Byte x) : ∃ l, Pl w' a n c l ps := by
  obtain ⟨l, h1, h2, h3, h4⟩ := h
  have key : ∀ (i : Nat) (s : Sl) (xs : List Int), l[i]? = some s → ps[i]? = some xs → By w' s.a s.n s.c xs := fun i s xs e1 e2 => (h3.own i s xs e1 e2).by (hb xs (List.mem_of_getElem? e2)).2
  refine ⟨l, h1, h2.cap, by rw [← h3.len]; exact h1, ?_, key, fun s hs => ?_⟩
  · rcases h2.mem with ⟨_, e⟩ | ⟨g, cu, e, _, h5, h6, h7⟩
    · exact .inl (by have := h2.cap; omega)
    · refine .inr ⟨g, 0, e, (Array.getElem?_eq_some_iff.1 h5).1, fun j u hu => ?_⟩
      rcases h2.reads.2 with e2 | ⟨ad, e2, e3⟩
      · have hl : (l.map Sl.v).length = 0 := by rw [h2.len, e2]
        rw [List.eq_nil_of_length_eq_zero hl] at hu; simp at hu
      · rw [e] at e2; cases e2
        have := e3 j u hu
        rw [Addr.add_mid] at this
        exact this
  · obtain ⟨i, hi, rfl⟩ := List.getElem_of_mem hs
    have hi2 : i < ps.length := by rw [← h3.len]; exact hi
    have := (key i _ _ (List.getElem?_eq_getElem hi) (List.getElem?_eq_getElem hi2)).len
    have := (hb ps[i] (List.getElem_mem _)).1
    omega
def sameP (ps qs : List (List Int)) : Bool := decide (ps = qs)
end Go.Proofs.Ytopljcabcknaeaa
