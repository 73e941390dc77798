/- Rows of datagrams that are kept beside a network: what stays when one of them, or the network, changes. -/
import Derived.Test.YthpbfaddojcohaaNS
namespace Go.Proofs.Ythpbfaddojcohaa
open Go.RowKit
/-- A datagram whose bytes came in, or are a copy. -/
def GoodD (w : World) (n0 : Nat) (d : Dg) (x : Dc) : Prop := DgIs d x ∧ (ByS w (fun k => k < n0) d.ba d.bn d.bc x.xs ∨ OwnB w n0 d.ba d.bn d.bc x.xs)
def GoodL (w : World) (n0 : Nat) (l : List Dg) (cs : List Dc) : Prop := l.length = cs.length ∧ ∀ (i : Nat) (d : Dg) (x : Dc), l[i]? = some d → cs[i]? = some x → GoodD w n0 d x
/-- A row of such. -/
structure RowG (w : World) (n0 : Nat) (u : Value) (l : List Dg) (cs : List Dc) : Prop where
  own : w.ownsRow n0 46 5 u l.length (flatD l)
  good : GoodL w n0 l cs
theorem GoodD.at {w : World} {n0 : Nat} {d : Dg} {x : Dc} (h : GoodD w n0 d x) (hn : n0 ≤ w.heap.size) : ByAt w d.ba d.bn d.bc x.xs := by
  rcases h.2 with h | h
  · exact h.at fun k hk => Nat.lt_of_lt_of_le hk hn
  · exact h.at
theorem OwnL.good {w : World} {B n0 : Nat} {l : List Dg} {cs : List Dc} (h : OwnL w B l cs) (hB : n0 ≤ B) : GoodL w n0 l cs := ⟨h.1, fun i d x h1 h2 => ⟨(h.2 i d x h1 h2).1, .inr (owns_base (h.2 i d x h1 h2).2 hB)⟩⟩
/-- From w to w' nothing below n0 has changed, nor a row of bytes. -/
structure Stay (n0 : Nat) (w w' : World) : Prop where
  low : ∀ k, k < n0 → w'.heap[k]? = w.heap[k]?
  bytes : ∀ (k : Nat) (cu : Array Value), w.heap[k]? = some (.cells cu 5 (0, 0)) → w'.heap[k]? = some (.cells cu 5 (0, 0))
theorem Stay.refl (n0 : Nat) (w : World) : Stay n0 w w := ⟨fun _ _ => rfl, fun _ _ h => h⟩
theorem Stay.trans {n0 : Nat} {a b c : World} (h : Stay n0 a b) (k : Stay n0 b c) : Stay n0 a c := ⟨fun q hq => (k.low q hq).trans (h.low q hq), fun q cu hq => k.bytes q cu (h.bytes q cu hq)⟩
theorem Stay.of_below {n0 : Nat} {w w' : World} (h : Below w.heap.size w w') (hn : n0 ≤ w.heap.size) : Stay n0 w w' := ⟨fun k hk => h.block k (by omega), fun k _ hk => (h.block k (Array.getElem?_eq_some_iff.1 hk).1).trans hk⟩
theorem Stay.of_keep {n0 nb B : Nat} {v : Value} {N : Nt} {w w' : World} (h : KeepN nb v w w') (hN : NtAt w nb B v N) (hB : n0 ≤ B) (hnb : n0 ≤ nb) (hn : n0 ≤ w.heap.size) : Stay n0 w w' := by
  refine ⟨fun k hk => h.block k (by omega) (by omega) (fun e => by have := (owns_lt hN.own e).1; omega), fun k cu hk => (h.block k (Array.getElem?_eq_some_iff.1 hk).1 (fun e => ?_) (fun e => ?_)).trans hk⟩
  · rw [e, hN.blk] at hk; cases hk
  · obtain ⟨cu', h'⟩ := owns_type hN.own k e
    rw [hk] at h'; cases h'
theorem Stay.of_grown {n0 : Nat} {u : Value} {n : Nat} {xs : List Value} {w w' : World} (h : w.grownBy w' u.ownBlock) (ho : w.ownsRow n0 46 5 u n xs) (hn : n0 ≤ w.heap.size) : Stay n0 w w' := by
  refine ⟨fun k hk => h.block k (by omega) (fun e => by have := (owns_lt ho e.symm).1; omega), fun k cu hk => (h.block k (Array.getElem?_eq_some_iff.1 hk).1 (fun e => ?_)).trans hk⟩
  obtain ⟨cu', h'⟩ := owns_type ho k e.symm
  rw [hk] at h'; cases h'
theorem GoodD.stay {w w' : World} {n0 : Nat} {d : Dg} {x : Dc} (h : GoodD w n0 d x) (hs : Stay n0 w w') : GoodD w' n0 d x := by
  refine ⟨h.1, ?_⟩
  rcases h.2 with h | h
  · exact .inl (h.kept hs.low)
  · refine .inr ⟨h.1, ?_⟩
    rcases h.2 with h1 | ⟨g, cap, cur, h1, h2, h3, h4⟩
    · exact .inl h1
    · exact .inr ⟨g, cap, cur, h1, h2, hs.bytes g cur h3, h4⟩
theorem GoodL.stay {w w' : World} {n0 : Nat} {l : List Dg} {cs : List Dc} (h : GoodL w n0 l cs) (hs : Stay n0 w w') : GoodL w' n0 l cs := ⟨h.1, fun i d x h1 h2 => (h.2 i d x h1 h2).stay hs⟩
theorem owns_block {w w' : World} {B : Nat} {e : TypeId} {s n : Nat} {v : Value} {xs : List Value} (h : w.ownsRow B e s v n xs) (hk : ∀ g, v.ownBlock = some g → w'.heap[g]? = w.heap[g]?) : w'.ownsRow B e s v n xs := by
  refine ⟨h.1, ?_⟩
  rcases h.2 with h1 | ⟨g, cap, cur, rfl, h2, h3, h4⟩
  · exact .inl h1
  · exact .inr ⟨g, cap, cur, rfl, h2, (hk g rfl).trans h3, h4⟩
theorem RowG.stay {w w' : World} {n0 : Nat} {u : Value} {l : List Dg} {cs : List Dc} (h : RowG w n0 u l cs) (hs : Stay n0 w w') (hk : ∀ g, u.ownBlock = some g → w'.heap[g]? = w.heap[g]?) : RowG w' n0 u l cs := ⟨owns_block h.own hk, h.good.stay hs⟩
theorem RowG.lt {w : World} {n0 : Nat} {u : Value} {l : List Dg} {cs : List Dc} (h : RowG w n0 u l cs) {g : Nat} (hg : u.ownBlock = some g) : n0 ≤ g ∧ g < w.heap.size := owns_lt h.own hg
theorem RowG.below {w w' : World} {n0 : Nat} {u : Value} {l : List Dg} {cs : List Dc} (h : RowG w n0 u l cs) (hb : Below w.heap.size w w') (hn : n0 ≤ w.heap.size) : RowG w' n0 u l cs := h.stay (.of_below hb hn) fun g hg => hb.block g (h.lt hg).2
theorem RowG.not_net {w : World} {n0 nb : Nat} {u : Value} {l : List Dg} {cs : List Dc} {cu : Array Value} (h : RowG w n0 u l cs) (hN : w.heap[nb]? = some (.cells cu 77 (0, 0))) : u.ownBlock ≠ some nb := row_not_net h.own hN
theorem RowG.arg {w : World} {n0 : Nat} {a : Option Addr} {n c : Nat} {l : List Dg} {cs : List Dc} (h : RowG w n0 (.slice a n c) l cs) (hn : n0 ≤ w.heap.size) : l.length = n ∧ ArgRow w (fun k => k < w.heap.size) a n l cs := by
  obtain ⟨a', c', e⟩ := owns_slice h.own
  simp only [Value.slice.injEq] at e
  obtain ⟨rfl, rfl, rfl⟩ := e
  refine ⟨rfl, rfl, h.good.1.symm, ?_, fun i d x h1 h2 => ⟨(h.good.2 i d x h1 h2).1, byS_of ((h.good.2 i d x h1 h2).at hn)⟩⟩
  rcases Nat.eq_zero_or_pos l.length with e0 | e0
  · exact .inl e0
  · obtain ⟨m, hm⟩ : ∃ m, l.length = m + 1 := ⟨l.length - 1, by omega⟩
    have h2 := h.own
    rw [hm] at h2
    obtain ⟨g, cap, e⟩ := owns_some h2
    simp only [Value.slice.injEq] at e
    obtain ⟨rfl, _, rfl⟩ := e
    exact .inr ⟨g, 0, rfl, (owns_lt h.own rfl).2, owns_range h.own⟩
theorem NtC.stay {w w' : World} {nb B : Nat} {v : Value} {N : Nt} {cs : List Dc} (h : NtC w nb B v N cs) (hs : Stay B w w') (hk : ∀ g, v.ownBlock = some g → w'.heap[g]? = w.heap[g]?) (hnb : w'.heap[nb]? = w.heap[nb]?) : NtC w' nb B v N cs := by
  refine ⟨⟨hnb.trans h.at_.blk, owns_block h.at_.own hk⟩, h.own.1, fun i d x h1 h2 => ⟨(h.own.2 i d x h1 h2).1, ?_⟩⟩
  have ho := (h.own.2 i d x h1 h2).2
  refine ⟨ho.1, ?_⟩
  rcases ho.2 with h3 | ⟨g, cap, cur, h3, h4, h5, h6⟩
  · exact .inl h3
  · exact .inr ⟨g, cap, cur, h3, h4, hs.bytes g cur h5, h6⟩
theorem GoodL.append {w : World} {n0 : Nat} {l m : List Dg} {cs xs : List Dc} (h : GoodL w n0 l cs) (h' : GoodL w n0 m xs) : GoodL w n0 (l ++ m) (cs ++ xs) := by
  have e := h.1
  refine ⟨by simp [e, h'.1], fun i d x h1 h2 => ?_⟩
  by_cases hi : i < l.length
  · rw [List.getElem?_append_left hi] at h1
    rw [List.getElem?_append_left (by omega)] at h2
    exact h.2 i d x h1 h2
  · rw [List.getElem?_append_right (by omega)] at h1
    rw [List.getElem?_append_right (by omega)] at h2
    rw [← e] at h2
    exact h'.2 _ d x h1 h2
/-- A row that grows: what is behind the append. -/
theorem RowG.grow {w w' : World} {n0 : Nat} {u u' : Value} {l m : List Dg} {cs xs : List Dc} (h : RowG w n0 u l cs) (hg : w.grownBy w' u.ownBlock) (ho : w'.ownsRow n0 46 5 u' (l.length + m.length) (flatD l ++ flatD m)) (hm : GoodL w n0 m xs) (hn : n0 ≤ w.heap.size) : RowG w' n0 u' (l ++ m) (cs ++ xs) := by
  have hs := Stay.of_grown hg h.own hn
  exact ⟨by rw [List.length_append, flatD_append]; exact ho, (h.good.stay hs).append (hm.stay hs)⟩
end Go.Proofs.Ythpbfaddojcohaa
