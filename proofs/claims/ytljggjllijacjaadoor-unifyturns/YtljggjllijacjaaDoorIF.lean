/- 'both': what a round does, step by step. -/
import Derived.Test.YtljggjllijacjaaDoorIE
namespace Go.Proofs.YtljggjllijacjaaDoor
open Go.RowKit
theorem own_keeps {w w' : World} {B e s : Nat} {a : Option Addr} {n c : Nat} {xs : List Value} (h : w.ownsRow B e s (.slice a n c) n xs) (hk : ∀ g, bkA a = some g → w'.heap[g]? = w.heap[g]?) : w'.ownsRow B e s (.slice a n c) n xs := by
  refine ⟨h.1, ?_⟩
  rcases h.2 with hn | ⟨g, cap, cur, h1, h2, h3, h4⟩
  · exact .inl hn
  · refine .inr ⟨g, cap, cur, h1, h2, (hk g ?_).trans h3, h4⟩
    simp only [Value.slice.injEq] at h1
    rw [h1.1]; rfl
theorem vb_cut {w : World} {hb M n : Nat} {D : DataW Value} {m : Hp} {V : Nat → Prop} (h : HpAt w hb M n D m) (hm : ∀ x l, lookH m x = some l → l ≠ []) (hV : VB D V) : VB D (fun g => V g ∧ g < w.heap.size) := by
  intro x v hx hv g hg
  refine ⟨hV x v hx hv g hg, ?_⟩
  have hh := Maps.has_true_of_atKey hv
  cases e : lookH m x with
  | none => rw [h.no x hx e] at hh; cases hh
  | some l =>
    obtain ⟨v', k1, k2⟩ := h.yes x l hx e
    have e1 := (hv (.held (.bool true))).symm.trans (k1 (.held (.bool true)))
    cases e1
    exact k2.lt (hm x l e) hg
/-- In a round: both heaps, and a copy of the term between lo and hi. -/
structure Mi (wB : World) (hb M rt kk : Nat) (m : Hp) (G : Nat → Prop) (bs : List Bn) (lo hi : Nat) (l : List C) (ta : Option Addr) (tc : Nat) (u : World) : Prop where
  hp : ∃ n D V, HpAt u hb M n D m ∧ VB D V ∧ n ≤ kk ∧ ∀ g, V g → g < u.heap.size ∧ g ≠ rt ∧ g ≠ M ∧ wB.heap.size ≤ g ∧ (g < lo ∨ hi ≤ g)
  rf : RfH u G rt bs
  glt : ∀ g, G g → g ≠ hb ∧ g ≠ M ∧ wB.heap.size ≤ g ∧ (g < lo ∨ hi ≤ g)
  own : u.ownsRow lo 57 5 (.slice ta l.length tc) l.length (flat l)
  blk : ∀ g, bkA ta = some g → lo ≤ g ∧ g < hi
  hi : hi ≤ u.heap.size
  low : wB.heap.size ≤ hb ∧ wB.heap.size ≤ M ∧ wB.heap.size ≤ rt ∧ rt ≠ hb ∧ rt ≠ M ∧ hb < lo ∧ M < lo ∧ rt < lo ∧ wB.heap.size ≤ lo
  bel : Below wB.heap.size wB u
  len : ∀ x l, lookH m x = some l → l.length * 48 ≤ 140737488355328 ∧ l ≠ [] ∧ rightB l = true
  txt : l.length * 48 ≤ 140737488355328 ∧ ∀ c ∈ l, c.t.size ≤ maxLen
section
variable {wB u u' : World} {hb M rt kk lo hi : Nat} {m : Hp} {G : Nat → Prop} {bs : List Bn} {l : List C} {ta : Option Addr} {tc : Nat}
theorem Mi.below (h : Mi wB hb M rt kk m G bs lo hi l ta tc u) (hw : Below u.heap.size u u') : Mi wB hb M rt kk m G bs lo hi l ta tc u' := by
  obtain ⟨n, D, V, h1, h2, h3, h4⟩ := h.hp
  exact ⟨⟨n, D, V, h1.below hw, h2, h3, fun g hg => ⟨Nat.lt_of_lt_of_le (h4 g hg).1 hw.size, (h4 g hg).2⟩⟩, h.rf.below hw, h.glt, own_keeps h.own fun g hg => hw.block g (Nat.lt_of_lt_of_le (h.blk g hg).2 h.hi), h.blk, Nat.le_trans h.hi hw.size, h.low, h.bel.trans (hw.mono h.bel.size), h.len, h.txt⟩
theorem Mi.term (h : Mi wB hb M rt kk m G bs lo hi l ta tc u) : TermAt u (.slice ta l.length tc) l := ownT_term (base := lo) h.own (by have := h.txt.1; unfold maxLen; omega) h.txt.2
theorem len_bind {x : Nm} (h : ∀ x l, lookH m x = some l → l.length * 48 ≤ 140737488355328 ∧ l ≠ [] ∧ rightB l = true) (hl : l.length * 48 ≤ 140737488355328) : ∀ y l', lookH (bindH m x l) y = some l' → l'.length * 48 ≤ 140737488355328 ∧ l' ≠ [] ∧ rightB l' = true := fun y l' hy => by
  unfold bindH at hy
  split at hy
  · next e =>
    rw [look_ins m x y l (bind_zero e)] at hy
    split at hy
    · cases hy
      unfold bindE at e
      split at e
      · cases e
      · next e3 =>
        have hg : globalB l = true := by
          cases e4 : globalB l
          · exact absurd (.inr (.inr e4)) e3
          · rfl
        unfold globalB at hg
        simp only [Bool.and_eq_true] at hg
        refine ⟨hl, fun e2 => ?_, hg.2⟩
        have := (right_len hg.2).1
        rw [e2] at this
        simp at this
    · exact h y l' hy
  · exact h y l' hy
theorem mi_13 (x : Nm) (h : Mi wB hb M rt kk m G bs lo hi l ta tc u) (hx : wfN x) (hW : ∀ c ∈ l, wfN (c.vn, c.vk)) (hS : Signs wB) (hk : kk ≤ 4000000000000) :
    Calls Tryd.prog 33 #[.pointer (some ⟨hb, 0, none⟩), .agg #[.int .i64 x.1, .int .i64 x.2], .slice ta l.length tc] u fun e w' => e = .returned (.int .i64 (bindE m x l)) ∧ Mi wB hb M rt (kk + 1) (bindH m x l) G bs lo hi l ta tc w' := by
  obtain ⟨n, D, V, h1, h2, h3, h4⟩ := h.hp
  refine (h11 m hb M n D x l (.slice ta l.length tc) u h1 hx h.term hW (hS.below h.bel) (by have := h.txt.1; omega) (by unfold maxLen; omega)).mono ?_
  rintro e w' ⟨rfl, n', D', k1, k2, k3, k4⟩
  have hM : M < u.heap.size := by have := h.low; have := h.hi; have := h1.map.lt; omega
  have hlen := len_bind (x := x) h.len h.txt.1
  have ksz := k3.2.2.2.1
  refine ⟨rfl, ⟨n', D', _, k1, vb_cut k1 (fun x l hl => (hlen x l hl).2.1) (k4 V h2), by omega, fun g hg => ?_⟩, h.rf.keeps (fun g hg => k3.2.2.2.2 g (h.rf.lt g hg) (h.glt g hg).2.1) (k3.2.2.2.2 rt h.rf.rlt h.low.2.2.2.2.1) ksz, h.glt, own_keeps h.own fun g hg => k3.2.2.2.2 g (Nat.lt_of_lt_of_le (h.blk g hg).2 h.hi) (by have := h.blk g hg; have := h.low; omega), h.blk, Nat.le_trans h.hi ksz, h.low, h.bel.trans (k3.below h.low.2.1 h.bel.size), hlen, h.txt⟩
  obtain ⟨hg1 | hg1, hg2⟩ := hg
  · exact ⟨hg2, (h4 g hg1).2⟩
  · have := h.rf.rlt
    have := h.hi
    have := h.bel.size
    exact ⟨hg2, by omega, by omega, by omega, .inr (by omega)⟩
theorem mi_24 (x : Nm) (v : Value) (h : Mi wB hb M rt kk m G bs lo hi l ta tc u) (hT : TermAt u v l) (hn : bs.length ≤ 3518437208780) :
    Calls Tryd.prog 34 #[.pointer (some ⟨rt, 0, none⟩), .agg #[.int .i64 x.1, .int .i64 x.2], v] u fun e w' => e = .returned (.int .i64 (bindE (hpOf bs) x l)) ∧ ∃ G' bs', hpOf bs' = bindH (hpOf bs) x l ∧ bs'.length ≤ bs.length + 1 ∧ Mi wB hb M rt kk m G' bs' lo hi l ta tc w' := by
  obtain ⟨n, D, V, h1, h2, h3, h4⟩ := h.hp
  refine (i24 G rt bs x l v u h.rf hT (by have := h.txt.1; omega) hn).mono ?_
  rintro e w' ⟨rfl, bs', k1, k2, k3, k4⟩
  have hk : ∀ g, g < u.heap.size → g ≠ rt → w'.heap[g]? = u.heap[g]? := fun g h1 h2 => k4.block g h1 (by simpa using h2)
  have hhb : hb < u.heap.size := (Array.getElem?_eq_some_iff.1 h1.blk).1
  have ksz := k4.size
  refine ⟨rfl, _, bs', k1, k2, ⟨n, D, V, h1.keeps h2 (hk hb hhb (Ne.symm h.low.2.2.2.1)) (hk M h1.map.lt (Ne.symm h.low.2.2.2.2.1)) (fun g hg => hk g (h4 g hg).1 (h4 g hg).2.1), h2, h3, fun g hg => ⟨Nat.lt_of_lt_of_le (h4 g hg).1 ksz, (h4 g hg).2⟩⟩, k3, fun g hg => ?_, own_keeps h.own fun g hg => hk g (Nat.lt_of_lt_of_le (h.blk g hg).2 h.hi) (by have := h.blk g hg; have := h.low; omega), h.blk, Nat.le_trans h.hi ksz, h.low, h.bel.trans ⟨k4.os, k4.tape, k4.output, ksz, fun j hj => hk j (by have := h.bel.size; omega) (by have := h.low; omega)⟩, h.len, h.txt⟩
  rcases hg with hg | ⟨hg, _⟩
  · exact h.glt g hg
  · have := h.hi
    have := h.low
    have hM := h1.map.lt
    exact ⟨by omega, by omega, by omega, .inr (by omega)⟩
/-- The copy is written over. -/
structure Wt (wX wr : World) (ta : Option Addr) (n : Nat) : Prop where
  os : wr.os = wX.os ∧ wr.tape = wX.tape ∧ wr.output = wX.output
  size : wr.heap.size = wX.heap.size
  block : ∀ g, bkA ta ≠ some g → wr.heap[g]? = wX.heap[g]?
  row : n = 0 ∨ ∃ g cur, ta = some ⟨g, 0, none⟩ ∧ wr.heap[g]? = some (.cells cur 57 (0, 0)) ∧ n * 5 ≤ cur.size
theorem wt_of {w : World} {B : Nat} {n : Nat} {xs : List Value} (h : w.ownsRow B 57 5 (.slice ta n tc) n xs) : Wt w w ta n := by
  refine ⟨⟨rfl, rfl, rfl⟩, rfl, fun _ _ => rfl, ?_⟩
  rcases h.2 with ⟨_, e⟩ | ⟨g, cap, cur, e, h1, h2, h3, _, h4, _⟩
  · exact .inl e
  · simp only [Value.slice.injEq] at e
    exact .inr ⟨g, cur, e.1, h2, by rw [h4]; exact Nat.mul_le_mul_right 5 h3⟩
theorem Wt.at {wX wr : World} {n : Nat} (h : Wt wX wr ta n) {k : Nat} (hk : k < n) : ∃ g v, ta = some ⟨g, 0, none⟩ ∧ wr.cell? ⟨g, k * 5 + 2, none⟩ = some v ∧ wr.frozen? ⟨g, k * 5 + 2, none⟩ = false ∧ ∀ z, Wt wX (wr.setCell ⟨g, k * 5 + 2, none⟩ z) ta n := by
  rcases h.row with e | ⟨g, cur, e, h1, h2⟩
  · omega
  · have hj : k * 5 + 2 < cur.size := by omega
    refine ⟨g, cur[k * 5 + 2], e, ?_, frozen_of_row wr g _ _ 57 h1, fun z => ⟨h.os, by simpa using h.size, fun j hj => ?_, .inr ⟨g, _, e, heap_setCell_same wr g (k * 5 + 2) _ 57 z h1, by simpa using h2⟩⟩⟩
    · rw [cell_of_row wr g _ _ 57 (0, 0) h1, Array.getElem?_eq_getElem hj]
    · have hne : j ≠ g := fun e2 => hj (by rw [e, e2]; rfl)
      rw [heap_setCell_other wr ⟨g, k * 5 + 2, none⟩ j z hne]
      exact h.block j hj
theorem mi_end {wr : World} (h : Mi wB hb M rt kk m G bs lo hi l ta tc u) (hw : Wt u wr ta l.length) (he : hpOf bs = m) (hu : RisesH m) (hn : bs.length ≤ kk) : ∃ n D V G, Bo wB wr hb M rt kk n D m V G bs := by
  obtain ⟨n, D, V, h1, h2, h3, h4⟩ := h.hp
  have hlow := h.low
  have hk : ∀ g, (g < lo ∨ hi ≤ g) → wr.heap[g]? = u.heap[g]? := fun g hg => hw.block g fun e => by have := h.blk g e; omega
  have hsz := hw.size
  exact ⟨n, D, V, G, h1.keeps h2 (hk hb (.inl (by omega))) (hk M (.inl (by omega))) (fun g hg => hk g (h4 g hg).2.2.2.2), h2, h.rf.keeps (fun g hg => hk g (h.glt g hg).2.2.2) (hk rt (.inl (by omega))) (by omega), he, hu, ⟨h3, hn⟩, ⟨hw.os.1.trans h.bel.os, hw.os.2.1.trans h.bel.tape, hw.os.2.2.trans h.bel.output, by have := h.bel.size; omega, fun j hj => (hk j (.inl (by omega))).trans (h.bel.block j hj)⟩, fun g hg => ⟨by have := (h4 g hg).1; omega, (h4 g hg).2.1, (h4 g hg).2.2.1, (h4 g hg).2.2.2.1⟩, fun g hg => ⟨(h.glt g hg).1, (h.glt g hg).2.1, (h.glt g hg).2.2.1⟩, ⟨by omega, by omega, by omega, hlow.2.2.2.1, hlow.2.2.2.2.1⟩, h.len⟩
end
theorem mi_of {wB wr w2 : World} {hb M rt k n : Nat} {D : DataW Value} {m : Hp} {V G : Nat → Prop} {bs : List Bn} {l : List C} {ta : Option Addr} {tc : Nat} (h : Bo wB wr hb M rt k n D m V G bs) (ho : w2.ownsRow wr.heap.size 57 5 (.slice ta l.length tc) l.length (flat l)) (hg : Below wr.heap.size wr w2) (hl : l.length * 48 ≤ 140737488355328 ∧ ∀ c ∈ l, c.t.size ≤ maxLen) : Mi wB hb M rt k m G bs wr.heap.size w2.heap.size l ta tc w2 := by
  have h' := h.below hg
  obtain ⟨a, c, e, h1, _⟩ := own_sl ho
  simp only [Value.slice.injEq, true_and] at e
  obtain ⟨rfl, rfl⟩ := e
  have hhb : hb < wr.heap.size := (Array.getElem?_eq_some_iff.1 h.hp.blk).1
  have hM := h.hp.map.lt
  exact ⟨⟨n, D, V, h'.hp, h.vb, h.nk.1, fun g hg' => ⟨(h'.vlt g hg').1, (h.vlt g hg').2.1, (h.vlt g hg').2.2.1, (h.vlt g hg').2.2.2, .inl (h.vlt g hg').1⟩⟩, h'.rf, fun g hg' => ⟨(h.glt g hg').1, (h.glt g hg').2.1, (h.glt g hg').2.2, .inl (h.rf.lt g hg')⟩, ho, h1, Nat.le_refl _, ⟨h.low.1, h.low.2.1, h.low.2.2.1, h.low.2.2.2.1, h.low.2.2.2.2, hhb, hM, h.rf.rlt, h.bel.size⟩, h'.bel, h.len, hl⟩
end Go.Proofs.YtljggjllijacjaaDoor
