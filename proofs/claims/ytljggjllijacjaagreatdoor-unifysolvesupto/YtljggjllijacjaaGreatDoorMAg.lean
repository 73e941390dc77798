/- Contract of 'maps': bindings by the program and by the document. -/
import Derived.Test.YtljggjllijacjaaGreatDoorIKg
namespace Go.Proofs.YtljggjllijacjaaGreatDoor
open Go.RowKit
attribute [local go_sem ↓] Go.wp_at_zero Go.wp_at_succ
/-- Both maps in memory, apart; what they say may part. -/
structure Bm (wB : World) (hb M rt kk : Nat) (m : Hp) (G : Nat → Prop) (bs : List Bn) (u : World) : Prop where
 hp : ∃ n D V, HpAt u hb M n D m ∧ VB D V ∧ n ≤ kk ∧ ∀ g, V g → g < u.heap.size ∧ g ≠ rt ∧ g ≠ M ∧ wB.heap.size ≤ g
 rf : RfH u G rt bs
 glt : ∀ g, G g → g ≠ hb ∧ g ≠ M ∧ wB.heap.size ≤ g
 low : wB.heap.size ≤ hb ∧ wB.heap.size ≤ M ∧ wB.heap.size ≤ rt ∧ rt ≠ hb ∧ rt ≠ M
 bel : Below wB.heap.size wB u
 len : ∀ x l, lookH m x = some l → l.length * 48 ≤ 140737488355328 ∧ l ≠ [] ∧ rightB l = true
 gl : ∀ x l, lookH m x = some l → globalB l = true
theorem gl_bind {m : Hp} {x : Nm} {l : List C} (h : ∀ x l, lookH m x = some l → globalB l = true) : ∀ y l', lookH (bindH m x l) y = some l' → globalB l' = true := fun y l' hy => by
 unfold bindH at hy
 split at hy
 ·next e =>
  rw [look_ins m x y l (bind_zero e)] at hy
  split at hy
  ·cases hy
   unfold bindE at e
   split at e
   ·cases e
   ·next e3 =>
    cases e4 : globalB l
    ·exact absurd (.inr (.inr e4)) e3
    ·rfl
  ·exact h y l' hy
 ·exact h y l' hy
section
variable {wB u u' : World} {hb M rt kk : Nat} {m : Hp} {G : Nat → Prop} {bs : List Bn}
theorem Bm.below (h : Bm wB hb M rt kk m G bs u) (hw : Below u.heap.size u u') : Bm wB hb M rt kk m G bs u' := by
 obtain ⟨n, D, V, h1, h2, h3, h4⟩ := h.hp
 exact ⟨⟨n, D, V, h1.below hw, h2, h3, fun g hg => ⟨Nat.lt_of_lt_of_le (h4 g hg).1 hw.size, (h4 g hg).2⟩⟩, h.rf.below hw, h.glt, h.low, h.bel.trans (hw.mono h.bel.size), h.len, h.gl⟩
theorem bm_29 (x : Nm) (l : List C) (v : Value) (h : Bm wB hb M rt kk m G bs u) (hT : TermAt wB v l) (hl : l.length * 48 ≤ 140737488355328) (hx : wfN x) (hW : ∀ c ∈ l, wfN (c.vn, c.vk)) (hS : Signs wB) (hk : kk ≤ 4000000000000) :
  Calls Tryz.prog 27 #[.pointer (some ⟨hb, 0, none⟩), .agg #[.int .i64 x.1, .int .i64 x.2], v] u fun e w' => e = .returned (.int .i64 (bindE m x l)) ∧ Hid (Bm wB hb M rt (kk + 1) (bindH m x l) G bs w') := by
 obtain ⟨n, D, V, h1, h2, h3, h4⟩ := h.hp
 refine (h11 m hb M n D x l v u h1 hx (hT.below h.bel) hW (hS.below h.bel) hl (by unfold maxLen; omega)).mono ?_
 rintro e w' ⟨rfl, n', D', k1, k2, k3, k4⟩
 have hlen := len_bind (x := x) h.len hl
 have ksz := k3.2.2.2.1
 refine ⟨rfl, ⟨n', D', _, k1, vb_cut k1 (fun x l hl => (hlen x l hl).2.1) (k4 V h2), by omega, fun g hg => ?_⟩, h.rf.keeps (fun g hg => k3.2.2.2.2 g (h.rf.lt g hg) (h.glt g hg).2.1) (k3.2.2.2.2 rt h.rf.rlt h.low.2.2.2.2) ksz, h.glt, h.low, h.bel.trans (k3.below h.low.2.1 h.bel.size), hlen, gl_bind h.gl⟩
 obtain ⟨hg1 | hg1, hg2⟩ := hg
 ·exact ⟨hg2, (h4 g hg1).2⟩
 ·have := h.rf.rlt
  have := h.bel.size
  have := h1.map.lt
  exact ⟨hg2, by omega, by omega, by omega⟩
theorem bm_30 (x : Nm) (l : List C) (v : Value) (h : Bm wB hb M rt kk m G bs u) (hT : TermAt wB v l) (hl : l.length * 48 ≤ 140737488355328) (hn : bs.length ≤ 3518437208780) :
  Calls Tryz.prog 35 #[.pointer (some ⟨rt, 0, none⟩), .agg #[.int .i64 x.1, .int .i64 x.2], v] u fun e w' => e = .returned (.int .i64 (bindE (hpOf bs) x l)) ∧ Hid (∃ G' bs', hpOf bs' = bindH (hpOf bs) x l ∧ bs'.length ≤ bs.length + 1 ∧ Bm wB hb M rt kk m G' bs' w') := by
 obtain ⟨n, D, V, h1, h2, h3, h4⟩ := h.hp
 refine (i24 G rt bs x l v u h.rf (hT.below h.bel) hl hn).mono ?_
 rintro e w' ⟨rfl, bs', k1, k2, k3, k4⟩
 have hk : ∀ g, g < u.heap.size → g ≠ rt → w'.heap[g]? = u.heap[g]? := fun g h1 h2 => k4.block g h1 (by simpa using h2)
 have hhb : hb < u.heap.size := (Array.getElem?_eq_some_iff.1 h1.blk).1
 have ksz := k4.size
 refine ⟨rfl, _, bs', k1, k2, ⟨n, D, V, h1.keeps h2 (hk hb hhb (Ne.symm h.low.2.2.2.1)) (hk M h1.map.lt (Ne.symm h.low.2.2.2.2)) (fun g hg => hk g (h4 g hg).1 (h4 g hg).2.1), h2, h3, fun g hg => ⟨Nat.lt_of_lt_of_le (h4 g hg).1 ksz, (h4 g hg).2⟩⟩, k3, fun g hg => ?_, h.low, h.bel.trans ⟨k4.os, k4.tape, k4.output, ksz, fun j hj => hk j (Nat.lt_of_lt_of_le hj h.bel.size) (by have := h.low.2.2.1; omega)⟩, h.len, h.gl⟩
 rcases hg with hg | ⟨hg, _⟩
 ·exact h.glt g hg
 ·have := h.low
  have hM := h1.map.lt
  have := h.bel.size
  exact ⟨by omega, by omega, by omega⟩
end
/-- Both maps behind k bindings: they say the same. -/
def BmTo (wB w : World) (hb M rt k : Nat) : Prop := ∃ m G bs, Bm wB hb M rt k m G bs w ∧ hpOf bs = m ∧ RisesH m ∧ bs.length ≤ k
set_option maxRecDepth 100000 in
set_option maxHeartbeats 4000000 in
theorem i7 (a : Option Addr) (n c : Nat) (bs0 : List Bn) (w : World) (hA : BdRow w a n bs0) (hn : n ≤ 3518437208780) (hS : Signs w) :
  Calls Tryz.prog 6 #[.slice a n c] w fun e w' => ∃ hb M rt, e = .returned (.tuple #[.pointer (some ⟨hb, 0, none⟩), .pointer (some ⟨rt, 0, none⟩)]) ∧ Hid (BmTo w w' hb M rt n) := by
 have HV : Hid (BdRow w a n bs0 ∧ Signs w) := ⟨hA, hS⟩
 have H22 : Calls Tryz.prog 33 #[] w fun e w' => ∃ hb M, e = .returned (.pointer (some ⟨hb, 0, none⟩)) ∧ Hid (HpAt w' hb M 0 (.map []) [] ∧ Below w.heap.size w w' ∧ w.heap.size ≤ hb ∧ w.heap.size ≤ M) := by
  refine (h26 w).mono ?_
  rintro e w' ⟨rfl, h1, h2⟩
  exact ⟨_, _, rfl, h1, h2, by omega, Nat.le_refl _⟩
 clear hA hS
 go_enter Tryz.func6, Tryz.ntmps6
 go_wp2_with fail
 refine H22.mono ?_
 rintro e w1 ⟨hb, M, rfl, HI0⟩
 clear H22
 have H23 : Calls Tryz.prog 34 #[] w1 fun e w' => ∃ rt, e = .returned (.pointer (some ⟨rt, 0, none⟩)) ∧ Hid (BmTo w w' hb M rt 0) := by
  refine (i23 w1).mono ?_
  rintro e w' ⟨rfl, h1, h2⟩
  obtain ⟨t1, t2, t3, t4⟩ := HI0.out
  have hhb : hb < w1.heap.size := (Array.getElem?_eq_some_iff.1 t1.blk).1
  have hM := t1.map.lt
  have hs := t2.size
  refine ⟨_, rfl, [], (fun _ => False), [], ⟨⟨0, _, (fun _ => False), t1.below h2, fun x v hx hv g hg => ?_, Nat.le_refl _, fun g hg => hg.elim⟩, h1, fun g hg => hg.elim, ⟨t3, t4, by omega, by omega, by omega⟩, t2.trans (h2.mono t2.size), fun x l hl => (by cases hl), fun x l hl => (by cases hl)⟩, rfl, List.Pairwise.nil, Nat.le_refl _⟩
  have e1 := Maps.has_true_of_atKey hv
  rw [t1.no x hx rfl] at e1
  cases e1
 go_wp2_with fail
 refine H23.mono ?_
 rintro e w1b ⟨rt, rfl, HT0⟩
 clear H23 HI0
 go_wp2_with fail
 go_loopw [6] (fun i wr => ∃ k : Nat, k ≤ n ∧ i = .int .i64 k ∧ Hid (BmTo w wr hb M rt k)) (fun i _ => n - (intOf i).toNat)
 case atStart => exact ⟨0, Nat.zero_le _, rfl, HT0⟩
 case round =>
  clear HT0
  obtain ⟨k, hk, rfl, HK⟩ := hrel
  by_cases hlt : k < n
  ·have hltI : (k : Int) < (n : Int) := by omega
   have hk0 : (0 : Int) ≤ (k : Int) := by omega
   obtain ⟨m, G, bs, HB⟩ : ∃ m G bs, Hid (Bm w hb M rt k m G bs wr ∧ hpOf bs = m ∧ RisesH m ∧ bs.length ≤ k) := HK.out
   clear HK
   obtain ⟨b, o, hx, rfl, hbl, c0, c1, c2⟩ := HV.out.1.row.at hlt
   obtain ⟨e1, e2, e3, e4⟩ := HV.out.1.el _ (List.getElem_mem hx)
   obtain ⟨q, hq⟩ : ∃ q, bs0[k] = q := ⟨_, rfl⟩
   rw [hq] at c0 c1 c2 e1 e2 e3 e4
   obtain ⟨⟨x1, x2⟩, la, ln, lc, ll⟩ := q
   simp only [Bn.v] at c0 c1 c2 e1 e2 e3 e4
   have HCL : Hid (∀ u, Below w.heap.size w u → u.cell? ⟨b, o + k * 3, none⟩ = some (.int .i64 x1) ∧ u.cell? ⟨b, o + k * 3 + 1, none⟩ = some (.int .i64 x2) ∧ u.cell? ⟨b, o + k * 3 + 2, none⟩ = some (.slice la ln lc)) := fun u hu => ⟨(hu.cell (p := ⟨b, o + k * 3, none⟩) hbl).trans c0, (hu.cell (p := ⟨b, o + k * 3 + 1, none⟩) hbl).trans c1, (hu.cell (p := ⟨b, o + k * 3 + 2, none⟩) hbl).trans c2⟩
   have HX : Hid (TermAt w (.slice la ln lc) ll ∧ wfN (x1, x2) ∧ (∀ c ∈ ll, wfN (c.vn, c.vk)) ∧ ll.length * 48 ≤ 140737488355328) := ⟨e1, e2, e3, e4⟩
   clear hx hbl c0 c1 c2 e1 e2 e3 e4 hq
   obtain ⟨p0, p1, p2⟩ := HCL.out wr HB.out.1.bel
   have H29 : ∀ W, Hid (Below wr.heap.size wr W) → Calls Tryz.prog 27 #[.pointer (some ⟨hb, 0, none⟩), .agg #[.int .i64 x1, .int .i64 x2], .slice la ln lc] W fun e w' => e = .returned (.int .i64 (bindE m (x1, x2) ll)) ∧ Hid (Bm w hb M rt (k + 1) (bindH m (x1, x2) ll) G bs w') := fun W hW => bm_29 (x1, x2) ll _ (HB.out.1.below hW.out) HX.out.1 HX.out.2.2.2 HX.out.2.1 HX.out.2.2.1 HV.out.2 (by omega)
   generalize bindE m (x1, x2) ll = E1 at *
   go_wp2_with fail
   go_region_with (go_at_call 27; refine (H29 _ (Below.drew (Below.refl _ _))).mono ?_; rintro e w3 ⟨rfl, H3⟩)
   all_goals (
    obtain ⟨r0, r1, r2⟩ := HCL.out w3 H3.out.bel
    have H30 : ∀ W, Hid (Below w3.heap.size w3 W) → Calls Tryz.prog 35 #[.pointer (some ⟨rt, 0, none⟩), .agg #[.int .i64 x1, .int .i64 x2], .slice la ln lc] W fun e w' => e = .returned (.int .i64 (bindE (hpOf bs) (x1, x2) ll)) ∧ Hid (∃ G' bs', hpOf bs' = bindH (hpOf bs) (x1, x2) ll ∧ bs'.length ≤ bs.length + 1 ∧ Bm w hb M rt (k + 1) (bindH m (x1, x2) ll) G' bs' w') := fun W hW => bm_30 (x1, x2) ll _ (H3.out.below hW.out) HX.out.1 HX.out.2.2.2 (by have := HB.out.2.2.2; omega)
    clear p0 p1 p2 H29
    generalize bindE (hpOf bs) (x1, x2) ll = E2 at *
    go_wp2_with fail
    go_region_with (go_at_call 35; refine (H30 _ (Below.drew (Below.refl _ _))).mono ?_; rintro e w4 ⟨rfl, H4⟩)
    all_goals (
     have HF : Hid (BmTo w w4 hb M rt (k + 1)) := by
      obtain ⟨G', bs', h1, h2, h3⟩ := H4.out
      obtain ⟨_, g2, g3, g4⟩ := HB.out
      refine ⟨_, G', bs', h3, by rw [h1, g2], ?_, by omega⟩
      exact rises_bind g3
     clear H4 H30
     go_wp2_with fail
     go_roundw
     case rel => exact ⟨k + 1, by omega, by go_num, HF⟩
     case measure => simp [intOf]; omega))
  ·have hltI : ¬ (k : Int) < (n : Int) := by omega
   obtain rfl : k = n := by omega
   go_wp2_with fail
   exact bodyPost_ret (v := .tuple #[.pointer (some ⟨hb, 0, none⟩), .pointer (some ⟨rt, 0, none⟩)]) (by simp [results, Tryz.results6, go_sem]) rfl ⟨hb, M, rt, rfl, HK⟩
end Go.Proofs.YtljggjllijacjaaGreatDoor
