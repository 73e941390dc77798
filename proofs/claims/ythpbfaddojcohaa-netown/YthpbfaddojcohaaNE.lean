/- What datagrams say, in a row that was handed in and in the network's own; what stays when the network changes. -/
import Derived.Test.YthpbfaddojcohaaND
namespace Go.Proofs.Ythpbfaddojcohaa
open Go.RowKit
/-- What a datagram says. -/
structure Dc where
  fr : Int
  to : Int
  ak : Bool
  sq : Int
  xs : List Int
def DgIs (d : Dg) (x : Dc) : Prop := d.fr = x.fr ∧ d.to = x.to ∧ d.ak = x.ak ∧ d.sq = x.sq ∧ d.bn = x.xs.length
def OwnD (w : World) (B : Nat) (d : Dg) (x : Dc) : Prop := DgIs d x ∧ OwnB w B d.ba d.bn d.bc x.xs
/-- The network's own row says so. -/
def OwnL (w : World) (B : Nat) (l : List Dg) (cs : List Dc) : Prop := l.length = cs.length ∧ ∀ (i : Nat) (d : Dg) (x : Dc), l[i]? = some d → cs[i]? = some x → OwnD w B d x
/-- Bytes in blocks that stay. -/
def ByS (w : World) (S : Nat → Prop) (ba : Option Addr) (bn bc : Nat) (xs : List Int) : Prop :=
  xs.length = bn ∧ ((ba = none ∧ bn = 0 ∧ bc = 0) ∨ (∃ a, ba = some a ∧ bn = 0) ∨ ∃ b o, ba = some ⟨b, o, none⟩ ∧ S b ∧ ∀ j u, (u8s xs)[j]? = some u → w.cell? ⟨b, o + j, none⟩ = some u)
theorem ByS.at {w : World} {S : Nat → Prop} {ba : Option Addr} {bn bc : Nat} {xs : List Int} (h : ByS w S ba bn bc xs) (hS : ∀ k, S k → k < w.heap.size) : ByAt w ba bn bc xs := by
  refine ⟨h.1, ?_⟩
  rcases h.2 with h | h | ⟨b, o, e, hl, hc⟩
  · exact .inl h
  · exact .inr (.inl h)
  · exact .inr (.inr ⟨b, o, e, hS b hl, hc⟩)
theorem ByS.kept {w w' : World} {S : Nat → Prop} {ba : Option Addr} {bn bc : Nat} {xs : List Int} (h : ByS w S ba bn bc xs) (hk : ∀ k, S k → w'.heap[k]? = w.heap[k]?) : ByS w' S ba bn bc xs := by
  refine ⟨h.1, ?_⟩
  rcases h.2 with h | h | ⟨b, o, e, hl, hc⟩
  · exact .inl h
  · exact .inr (.inl h)
  · exact .inr (.inr ⟨b, o, e, hl, fun j u hu => (World.cell?_of_block (a := ⟨b, o + j, none⟩) (hk b hl)).trans (hc j u hu)⟩)
/-- A row of datagrams in blocks that stay, and what they say. -/
structure ArgRow (w : World) (S : Nat → Prop) (a : Option Addr) (n : Nat) (ds : List Dg) (cs : List Dc) : Prop where
  len : ds.length = n
  lenc : cs.length = n
  row : n = 0 ∨ ∃ b o, a = some ⟨b, o, none⟩ ∧ S b ∧ w.rangeAt b o (flatD ds)
  each : ∀ (i : Nat) (d : Dg) (x : Dc), ds[i]? = some d → cs[i]? = some x → DgIs d x ∧ ByS w S d.ba d.bn d.bc x.xs
theorem ArgRow.kept {w w' : World} {S : Nat → Prop} {a : Option Addr} {n : Nat} {ds : List Dg} {cs : List Dc} (h : ArgRow w S a n ds cs) (hk : ∀ k, S k → w'.heap[k]? = w.heap[k]?) : ArgRow w' S a n ds cs := by
  refine ⟨h.len, h.lenc, ?_, fun i d x hd hx => ⟨(h.each i d x hd hx).1, (h.each i d x hd hx).2.kept hk⟩⟩
  rcases h.row with h1 | ⟨b, o, e, hb, hr⟩
  · exact .inl h1
  · exact .inr ⟨b, o, e, hb, fun j u hu => (World.cell?_of_block (a := ⟨b, o + j, none⟩) (hk b hb)).trans (hr j u hu)⟩
theorem flatD_get (l : List Dg) (i j : Nat) (hi : i < l.length) (hj : j < 5) : (flatD l)[5 * i + j]? = (l[i].vals)[j]? := by
  induction l generalizing i with
  | nil => simp at hi
  | cons a r ih =>
    cases i with
    | zero =>
      have : j < a.vals.length := by simp [Dg.vals]; omega
      simp [flatD, List.getElem?_append_left, this]
    | succ i =>
      have e : 5 * (i + 1) + j = a.vals.length + (5 * i + j) := by simp [Dg.vals]; omega
      show (a.vals ++ flatD r)[5 * (i + 1) + j]? = _
      rw [e, List.getElem?_append_right (by omega), Nat.add_sub_cancel_left, ih i (by simp at hi; omega)]
      rfl
theorem dg_cells {w : World} {b o : Nat} {l : List Dg} (h : w.rangeAt b o (flatD l)) (i : Nat) (hi : i < l.length) :
    w.cell? ⟨b, o + i * 5, none⟩ = some (.int .i64 l[i].fr) ∧ w.cell? ⟨b, o + i * 5 + 1, none⟩ = some (.int .i64 l[i].to) ∧ w.cell? ⟨b, o + i * 5 + 2, none⟩ = some (.bool l[i].ak) ∧ w.cell? ⟨b, o + i * 5 + 3, none⟩ = some (.int .i64 l[i].sq) ∧ w.cell? ⟨b, o + i * 5 + 4, none⟩ = some (.slice l[i].ba l[i].bn l[i].bc) := by
  have g : ∀ j v, j < 5 → (l[i].vals)[j]? = some v → w.cell? ⟨b, o + i * 5 + j, none⟩ = some v := fun j v hj hv => by
    have := h (5 * i + j) v ((flatD_get l i j hi hj).trans hv)
    rwa [show o + (5 * i + j) = o + i * 5 + j by omega] at this
  exact ⟨g 0 _ (by omega) rfl, g 1 _ (by omega) rfl, g 2 _ (by omega) rfl, g 3 _ (by omega) rfl, g 4 _ (by omega) rfl⟩
/-- From a network with the row v0 in w to one with the row v in w'. -/
structure FromN (nb : Nat) (v0 : Value) (w : World) (v : Value) (w' : World) : Prop where
  keep : KeepN nb v0 w w'
  own : ∀ g, v.ownBlock = some g → v0.ownBlock = some g ∨ w.heap.size ≤ g
theorem KeepN.refl (nb : Nat) (v : Value) (w : World) : KeepN nb v w w := ⟨rfl, rfl, rfl, Nat.le_refl _, fun _ _ _ _ => rfl⟩
theorem FromN.refl (nb : Nat) (v : Value) (w : World) : FromN nb v w v w := ⟨.refl nb v w, fun _ h => .inl h⟩
theorem KeepN.of_below {nb : Nat} {v : Value} {w w' : World} (h : Below w.heap.size w w') : KeepN nb v w w' := ⟨h.os, h.tape, h.output, h.size, fun k hk _ _ => h.block k hk⟩
theorem FromN.trans {nb : Nat} {v0 v1 v2 : Value} {w w1 w2 : World} (h : FromN nb v0 w v1 w1) (h' : FromN nb v1 w1 v2 w2) : FromN nb v0 w v2 w2 := by
  refine ⟨⟨h'.keep.os.trans h.keep.os, h'.keep.tape.trans h.keep.tape, h'.keep.output.trans h.keep.output, Nat.le_trans h.keep.size h'.keep.size, fun k hk h1 h2 => ?_⟩, fun g hg => ?_⟩
  · refine (h'.keep.block k (Nat.lt_of_lt_of_le hk h.keep.size) h1 (fun e => ?_)).trans (h.keep.block k hk h1 h2)
    rcases h.own k e with e' | e'
    · exact h2 e'
    · omega
  · rcases h'.own g hg with e | e
    · exact h.own g e
    · exact .inr (Nat.le_trans h.keep.size e)
theorem FromN.below {nb : Nat} {v0 v1 : Value} {w w1 w2 : World} (h : FromN nb v0 w v1 w1) (hb : Below w1.heap.size w1 w2) : FromN nb v0 w v1 w2 := h.trans ⟨.of_below hb, fun _ e => .inl e⟩
theorem FromN.under {nb B : Nat} {v0 v1 : Value} {w w1 : World} {N : Nt} (h : FromN nb v0 w v1 w1) (hN : NtAt w nb B v0 N) (hB : B ≤ nb) (hs : B ≤ w.heap.size) : Below B w w1 :=
  ⟨h.keep.os, h.keep.tape, h.keep.output, h.keep.size, fun k hk => h.keep.block k (by omega) (by omega) (fun e => by have := (owns_lt hN.own e).1; omega)⟩
theorem OwnB.keep {w w' : World} {nb B B' : Nat} {v : Value} {N : Nt} {ba : Option Addr} {bn bc : Nat} {xs : List Int} (h : OwnB w B' ba bn bc xs) (hN : NtAt w nb B v N) (hk : KeepN nb v w w') : OwnB w' B' ba bn bc xs := by
  refine ⟨h.1, ?_⟩
  rcases h.2 with h1 | ⟨g, cap, cur, e, h2, h3, h4⟩
  · exact .inl h1
  · refine .inr ⟨g, cap, cur, e, h2, (hk.block g (Array.getElem?_eq_some_iff.1 h3).1 ?_ ?_).trans h3, h4⟩
    · intro e; rw [e, hN.blk] at h3; cases h3
    · intro e
      rcases hN.own.2 with ⟨rfl, _⟩ | ⟨g', cap', cur', rfl, _, hg', _⟩
      · simp [Value.ownBlock] at e
      · simp [Value.ownBlock] at e
        rw [e, h3] at hg'; cases hg'
theorem OwnL.keep {w w' : World} {nb B B' : Nat} {v : Value} {N : Nt} {l : List Dg} {cs : List Dc} (h : OwnL w B' l cs) (hN : NtAt w nb B v N) (hk : KeepN nb v w w') : OwnL w' B' l cs :=
  ⟨h.1, fun i d x hd hx => ⟨(h.2 i d x hd hx).1, (h.2 i d x hd hx).2.keep hN hk⟩⟩
theorem OwnL.below {w w' : World} {B : Nat} {l : List Dg} {cs : List Dc} (h : OwnL w B l cs) (hb : Below w.heap.size w w') : OwnL w' B l cs :=
  ⟨h.1, fun i d x hd hx => ⟨(h.2 i d x hd hx).1, owns_below (h.2 i d x hd hx).2 hb⟩⟩
theorem OwnL.snoc {w : World} {B : Nat} {l : List Dg} {cs : List Dc} {d : Dg} {x : Dc} (h : OwnL w B l cs) (hd : OwnD w B d x) : OwnL w B (l ++ [d]) (cs ++ [x]) := by
  refine ⟨by simp [h.1], fun i d' x' e1 e2 => ?_⟩
  by_cases hi : i < l.length
  · rw [List.getElem?_append_left hi] at e1
    rw [List.getElem?_append_left (by have := h.1; omega)] at e2
    exact h.2 i d' x' e1 e2
  · rw [List.getElem?_append_right (by omega)] at e1
    rw [List.getElem?_append_right (by have := h.1; omega)] at e2
    have h0 : i - l.length = 0 := by
      have := (List.getElem?_eq_some_iff.1 e1).1
      simp at this; omega
    rw [h0] at e1
    rw [← h.1, h0] at e2
    simp at e1 e2
    rw [← e1, ← e2]; exact hd
/-- A network, and what waits in it. -/
structure NtC (w : World) (nb B : Nat) (v : Value) (N : Nt) (cs : List Dc) : Prop where
  at_ : NtAt w nb B v N
  own : OwnL w B N.l cs
theorem NtC.below {w w' : World} {nb B : Nat} {v : Value} {N : Nt} {cs : List Dc} (h : NtC w nb B v N cs) (hb : Below w.heap.size w w') : NtC w' nb B v N cs := ⟨h.at_.below hb, h.own.below hb⟩
end Go.Proofs.Ythpbfaddojcohaa
