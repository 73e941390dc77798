/- Contract of 'maps': bindings by the program and by the document. -/
import Derived.Test.YtaehhophaaipdaaGreatDoorQHg
namespace Go.Proofs.YtaehhophaaipdaaGreatDoor
open Go.RowKit
attribute [local go_sem ↓] Go.wp_at_zero Go.wp_at_succ
/-- Both maps in memory, apart; what they say may part. -/
structure Bm (wB : World) (hb M rt kk : Nat) (m : Hp) (G : Nat → Prop) (bs : List Bn) (u : World) : Prop where
 hp : ∃ n D V, HpAt u hb M n D m ∧ VB D V ∧ n ≤ kk ∧ ∀ g, V g → g < u.heap.size ∧ g ≠ rt ∧ g ≠ M ∧ wB.heap.size ≤ g
 rf : RfH u G rt bs
 glt : ∀ g, G g → g ≠ hb ∧ g ≠ M ∧ wB.heap.size ≤ g
 low : wB.heap.size ≤ hb ∧ wB.heap.size ≤ M ∧ wB.heap.size ≤ rt ∧ rt ≠ hb ∧ rt ≠ M
 bel : Below wB.heap.size wB u
 len : ∀ x l, lookH m x = some l → l.length * 48 ≤ 140737488355328 ∧ l ≠ [] ∧ rightB l = true
section
variable {wB u u' : World} {hb M rt kk : Nat} {m : Hp} {G : Nat → Prop} {bs : List Bn}
theorem Bm.below (h : Bm wB hb M rt kk m G bs u) (hw : Below u.heap.size u u') : Bm wB hb M rt kk m G bs u' := by
 obtain ⟨n, D, V, h1, h2, h3, h4⟩ := h.hp
 exact ⟨⟨n, D, V, h1.below hw, h2, h3, fun g hg => ⟨Nat.lt_of_lt_of_le (h4 g hg).1 hw.size, (h4 g hg).2⟩⟩, h.rf.below hw, h.glt, h.low, h.bel.trans (hw.mono h.bel.size), h.len⟩
theorem bm_29 (x : Nm) (l : List C) (v : Value) (h : Bm wB hb M rt kk m G bs u) (hT : TermAt wB v l) (hl : l.length * 48 ≤ 140737488355328) (hx : wfN x) (hW : ∀ c ∈ l, wfN (c.vn, c.vk)) (hS : Signs wB) (hk : kk ≤ 4000000000000) :
  Calls Tryz.prog 29 #[.pointer (some ⟨hb, 0, none⟩), .agg #[.int .i64 x.1, .int .i64 x.2], v] u fun e w' => e = .returned (.int .i64 (bindE m x l)) ∧ Hid (Bm wB hb M rt (kk + 1) (bindH m x l) G bs w') := by
 obtain ⟨n, D, V, h1, h2, h3, h4⟩ := h.hp
 refine (h11 m hb M n D x l v u h1 hx (hT.below h.bel) hW (hS.below h.bel) hl (by unfold maxLen; omega)).mono ?_
 rintro e w' ⟨rfl, n', D', k1, k2, k3, k4⟩
 have hlen := len_bind (x := x) h.len hl
 have ksz := k3.2.2.2.1
 refine ⟨rfl, ⟨n', D', _, k1, vb_cut k1 (fun x l hl => (hlen x l hl).2.1) (k4 V h2), by omega, fun g hg => ?_⟩, h.rf.keeps (fun g hg => k3.2.2.2.2 g (h.rf.lt g hg) (h.glt g hg).2.1) (k3.2.2.2.2 rt h.rf.rlt h.low.2.2.2.2) ksz, h.glt, h.low, h.bel.trans (k3.below h.low.2.1 h.bel.size), hlen⟩
 obtain ⟨hg1 | hg1, hg2⟩ := hg
 ·exact ⟨hg2, (h4 g hg1).2⟩
 ·have := h.rf.rlt
  have := h.bel.size
  have := h1.map.lt
  exact ⟨hg2, by omega, by omega, by omega⟩
theorem bm_30 (x : Nm) (l : List C) (v : Value) (h : Bm wB hb M rt kk m G bs u) (hT : TermAt wB v l) (hl : l.length * 48 ≤ 140737488355328) (hn : bs.length ≤ 3518437208780) :
  Calls Tryz.prog 30 #[.pointer (some ⟨rt, 0, none⟩), .agg #[.int .i64 x.1, .int .i64 x.2], v] u fun e w' => e = .returned (.int .i64 (bindE (hpOf bs) x l)) ∧ Hid (∃ G' bs', hpOf bs' = bindH (hpOf bs) x l ∧ bs'.length ≤ bs.length + 1 ∧ Bm wB hb M rt kk m G' bs' w') := by
 obtain ⟨n, D, V, h1, h2, h3, h4⟩ := h.hp
 refine (i24 G rt bs x l v u h.rf (hT.below h.bel) hl hn).mono ?_
 rintro e w' ⟨rfl, bs', k1, k2, k3, k4⟩
 have hk : ∀ g, g < u.heap.size → g ≠ rt → w'.heap[g]? = u.heap[g]? := fun g h1 h2 => k4.block g h1 (by simpa using h2)
 have hhb : hb < u.heap.size := (Array.getElem?_eq_some_iff.1 h1.blk).1
 have ksz := k4.size
 refine ⟨rfl, _, bs', k1, k2, ⟨n, D, V, h1.keeps h2 (hk hb hhb (Ne.symm h.low.2.2.2.1)) (hk M h1.map.lt (Ne.symm h.low.2.2.2.2)) (fun g hg => hk g (h4 g hg).1 (h4 g hg).2.1), h2, h3, fun g hg => ⟨Nat.lt_of_lt_of_le (h4 g hg).1 ksz, (h4 g hg).2⟩⟩, k3, fun g hg => ?_, h.low, h.bel.trans ⟨k4.os, k4.tape, k4.output, ksz, fun j hj => hk j (Nat.lt_of_lt_of_le hj h.bel.size) (by have := h.low.2.2.1; omega)⟩, h.len⟩
 rcases hg with hg | ⟨hg, _⟩
 ·exact h.glt g hg
 ·have := h.low
  have hM := h1.map.lt
  have := h.bel.size
  exact ⟨by omega, by omega, by omega⟩
end
end Go.Proofs.YtaehhophaaipdaaGreatDoor
