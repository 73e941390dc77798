/- The reference's Bind; 'both', step by step; Value. -/
import Derived.Deep.Upon
import Derived.Test.YtgcpkkeonameeaaDoorR3
import Derived.Test.YtgcpkkeonameeaaDoorHB1
import Derived.Test.YtgcpkkeonameeaaDoorJB
namespace Go.Proofs.YtgcpkkeonameeaaDoor
open Go.RowKit
attribute [local go_sem ↓] Go.wp_at_zero Go.wp_at_succ
theorem i24 (G : Nat → Prop) (rt : Nat) (bs : List Bn) (x : Nm) (l : List C) (v : Value) (w : World) (h : RfH w G rt bs) (hT : TermAt w v l) (hby : l.length * 48 ≤ 140737488355328) (hn : bs.length ≤ 3518437208780) :
    Calls Tryd.prog 24 #[.pointer (some ⟨rt, 0, none⟩), .agg #[.int .i64 x.1, .int .i64 x.2], v] w fun e w' => e = .returned (.int .i64 (bindE (hpOf bs) x l)) ∧ BindR w G rt bs x l w' := by
  by_cases he : x.1 < 0 ∨ oneT ⟨4, ⟨#[]⟩, 0, x.1, x.2⟩ = [] ∨ globalB l = false
  · exact i24_six G rt bs x l v w h hT hby hn he
  · cases h70 : hasB bs x
    · cases hv : isVarL l
      · exact i24_not G rt bs x l v w h hT hby hn he h70 hv
      · cases hl : lessN (varL l) x
        · exact i24_71 G rt bs x l v w h hT hby hn he h70 ⟨hv, hl⟩
        · exact i24_var G rt bs x l v w h hT hby hn he h70 (fun _ => hl) hv
    · exact i24_70 G rt bs x l v w h hT hby hn he h70
section
variable {P : Program}
theorem wpList_append_any (w : World) {ops : Array Oper} {rest : List Oper} {o : Oper} {a : Act} {Q : Exit → Act → World → Prop} (hgd : o.guard = none) (s x : Operand) (t : TypeId)
    (ho : o.op = .call { callee := .builtin .append, args := #[s, x], argTypes := #[t, t] })
    (base : Nat) (e : TypeId) (i : TypeInfo) (z : Value) (size bytes : Nat) (ht : P.underlying t = some (.slice e)) (hi : P.info? e = some i) (hz : i.zero = some z)
    (hsize : i.size = size) (hby : i.bytes = bytes) (hzs : z.cells.size = size) (hsz : 0 < size)
    (v : Value) (n : Nat) (xs : List Value) (hs : a.eval s = v) (hown : w.ownsRow base e size v n xs)
    (ax : Option Addr) (m c : Nat) (news : List Value) (hx : a.eval x = .slice ax m c) (hl : news.length = m * size) (hnews : m = 0 ∨ ∃ ad, ax = some ad ∧ ∀ j u, news[j]? = some u → w.cell? (ad.add j) = some u) (h1 : ∀ u ∈ news, u.oneCell' = true)
    (h63 : n + m ≤ maxLen) (hbytes : (n + m) * bytes ≤ 140737488355328) (hbase : base ≤ w.heap.size)
    (h : ∀ a' c' w', w'.ownsRow base e size (.slice a' (n + m) c') (n + m) (xs ++ news) → w.grownBy w' v.ownBlock → wpList P ops Q rest (a.put o.dst (.slice a' (n + m) c')) w') : wpList P ops Q (o :: rest) a w := by
  have form : ∀ {w : World} {v : Value} {k : Nat} {ys : List Value}, w.ownsRow base e size v k ys → ∃ a' c', v = .slice a' k c' := fun {w v k ys} h => by
    rcases h.2 with ⟨h1, h2⟩ | ⟨g, cap, cur, h1, _⟩
    · exact ⟨none, 0, by rw [h1, h2]⟩
    · exact ⟨_, _, h1⟩
  cases ax with
  | some ad =>
    refine wpList_append_own w hgd s x t ho base e i z size bytes ht hi hz hsize hby hzs hsz v n xs hs hown ad m c news hx hl ?_ h1 h63 hbytes hbase fun v' w' h2 h3 _ => ?_
    · rcases hnews with e | ⟨ad', e, h2⟩
      · intro j u hu
        have : news = [] := List.eq_nil_of_length_eq_zero (by rw [hl, e, Nat.zero_mul])
        rw [this] at hu; simp at hu
      · cases e; exact h2
    · obtain ⟨a', c', rfl⟩ := form h2
      exact h a' c' w' h2 h3
  | none =>
    have hm : m = 0 := by
      rcases hnews with e | ⟨ad', e, _⟩
      · exact e
      · cases e
    subst hm
    obtain rfl : news = [] := List.eq_nil_of_length_eq_zero (by rw [hl, Nat.zero_mul])
    obtain ⟨a', c', rfl⟩ := form hown
    have hle : n ≤ c' := by
      rcases hown.2 with ⟨h1, h2⟩ | ⟨g, cap, cur, h1, _, _, h4, _⟩
      · cases h1; omega
      · cases h1; exact h4
    have hrun := run_append_nothing w t t o.type e i ht hi a' n c' hle (.slice none 0 c) (Src.ofNil w ht c)
    refine wpList_plain hgd fun K hK => ?_
    unfold Oper.wp execOp
    simp only [ho, resolve, invoke, builtin, Sem.run_bind, Sem.run_pure, Result.andThen_ok, List.map_toArray, List.map_cons, List.map_nil, hs, hx, hrun]
    exact hK _ _ (h a' c' w (by simpa using hown) ⟨rfl, rfl, rfl, Nat.le_refl _, fun _ _ _ => rfl⟩)
end
theorem HpAt.keeps {w w' : World} {hb M n : Nat} {D : DataW Value} {m : Hp} {V : Nat → Prop} (h : HpAt w hb M n D m) (hV : VB D V) (h1 : w'.heap[hb]? = w.heap[hb]?) (h2 : w'.heap[M]? = w.heap[M]?) (h3 : ∀ g, V g → w'.heap[g]? = w.heap[g]?) : HpAt w' hb M n D m := by
  refine ⟨h1.trans h.blk, ?_, h.no, fun x l hx hl => ?_, h.desc, h.wf⟩
  · obtain ⟨es, ck, k1, k2⟩ := h.map
    exact ⟨es, ck, h2.trans k1, k2⟩
  · obtain ⟨v, k1, k2⟩ := h.yes x l hx hl
    exact ⟨v, k1, k2.keeps fun g hg => h3 g (hV x v hx k1 g hg)⟩
/-- Bindings that are handed in. -/
structure BdRow (w : World) (a : Option Addr) (n : Nat) (bs : List Bn) : Prop where
  row : Bs w a n bs
  el : ∀ b ∈ bs, TermAt w b.v b.l ∧ wfN b.x ∧ (∀ c ∈ b.l, wfN (c.vn, c.vk)) ∧ b.l.length * 48 ≤ 140737488355328
/-- Both heaps behind k bindings: the same values. -/
structure Bo (wB w : World) (hb M rt k : Nat) (n : Nat) (D : DataW Value) (m : Hp) (V G : Nat → Prop) (bs : List Bn) : Prop where
  hp : HpAt w hb M n D m
  vb : VB D V
  rf : RfH w G rt bs
  eq : hpOf bs = m
  up : RisesH m
  nk : n ≤ k ∧ bs.length ≤ k
  bel : Below wB.heap.size wB w
  vlt : ∀ g, V g → g < w.heap.size ∧ g ≠ rt ∧ g ≠ M ∧ wB.heap.size ≤ g
  glt : ∀ g, G g → g ≠ hb ∧ g ≠ M ∧ wB.heap.size ≤ g
  low : wB.heap.size ≤ hb ∧ wB.heap.size ≤ M ∧ wB.heap.size ≤ rt ∧ rt ≠ hb ∧ rt ≠ M
  len : ∀ x l, lookH m x = some l → l.length * 48 ≤ 140737488355328 ∧ l ≠ [] ∧ rightB l = true
theorem Bo.hbM {wB w : World} {hb M rt k n : Nat} {D : DataW Value} {m : Hp} {V G : Nat → Prop} {bs : List Bn} (h : Bo wB w hb M rt k n D m V G bs) : hb ≠ M := fun e => by
  have h1 := h.hp.blk
  obtain ⟨es, ck, h2, _⟩ := h.hp.map
  rw [e, h2] at h1
  cases h1
theorem Bo.below {wB w w' : World} {hb M rt k n : Nat} {D : DataW Value} {m : Hp} {V G : Nat → Prop} {bs : List Bn} (h : Bo wB w hb M rt k n D m V G bs) (hw : Below w.heap.size w w') : Bo wB w' hb M rt k n D m V G bs :=
  ⟨h.hp.below hw, h.vb, h.rf.below hw, h.eq, h.up, h.nk, h.bel.trans (hw.mono h.bel.size), fun g hg => ⟨Nat.lt_of_lt_of_le (h.vlt g hg).1 hw.size, (h.vlt g hg).2⟩, h.glt, h.low, h.len⟩
/-- One block is written. -/
theorem Bo.wrote {wB w w' : World} {hb M rt k n : Nat} {D : DataW Value} {m : Hp} {V G : Nat → Prop} {bs : List Bn} {gt : Nat} (h : Bo wB w hb M rt k n D m V G bs) (hk : ∀ g, g ≠ gt → w'.heap[g]? = w.heap[g]?) (hs : w'.heap.size = w.heap.size) (ho : w'.os = w.os ∧ w'.tape = w.tape ∧ w'.output = w.output) (hV : ¬ V gt) (hG : ¬ G gt) (h1 : gt ≠ hb ∧ gt ≠ M ∧ gt ≠ rt) (hB : wB.heap.size ≤ gt) : Bo wB w' hb M rt k n D m V G bs :=
  ⟨h.hp.keeps h.vb (hk _ (Ne.symm h1.1)) (hk _ (Ne.symm h1.2.1)) (fun g hg => hk g fun e => hV (e ▸ hg)), h.vb, h.rf.keeps (fun g hg => hk g fun e => hG (e ▸ hg)) (hk _ (Ne.symm h1.2.2)) (by omega), h.eq, h.up, h.nk, ⟨ho.1.trans h.bel.os, ho.2.1.trans h.bel.tape, ho.2.2.trans h.bel.output, by rw [hs]; exact h.bel.size, fun j hj => (hk j (by omega)).trans (h.bel.block j hj)⟩, fun g hg => ⟨by rw [hs]; exact (h.vlt g hg).1, (h.vlt g hg).2⟩, h.glt, h.low, h.len⟩
theorem own_keeps {w w' : World} {B e s : Nat} {a : Option Addr} {n c : Nat} {xs : List Value} (h : w.ownsRow B e s (.slice a n c) n xs) (hk : ∀ g, bkA a = some g → w'.heap[g]? = w.heap[g]?) : w'.ownsRow B e s (.slice a n c) n xs := by
  refine ⟨h.1, ?_⟩
  rcases h.2 with hn | ⟨g, cap, cur, h1, h2, h3, h4⟩
  · exact .inl hn
  · refine .inr ⟨g, cap, cur, h1, h2, (hk g ?_).trans h3, h4⟩
    simp only [Value.slice.injEq] at h1
    rw [h1.1]; rfl
theorem vb_cut {w : World} {hb M n : Nat} {D : DataW Value} {m : Hp} {V : Nat → Prop} (h : HpAt w hb M n D m) (hm : ∀ x l, lookH m x = some l → l ≠ []) (hV : VB D V) : VB D (fun g => V g ∧ g < w.heap.size) := by
  intro x v hx hv g hg
  refine ⟨hV x v hx hv g hg, ?_⟩
  have hh := Maps.has_true_of_atKey hv
  cases e : lookH m x with
  | none => rw [h.no x hx e] at hh; cases hh
  | some l =>
    obtain ⟨v', k1, k2⟩ := h.yes x l hx e
    have e1 := (hv (.held (.bool true))).symm.trans (k1 (.held (.bool true)))
    cases e1
    exact k2.lt (hm x l e) hg
/-- In a round: both heaps, and a copy of the term between lo and hi. -/
structure Mi (wB : World) (hb M rt kk : Nat) (m : Hp) (G : Nat → Prop) (bs : List Bn) (lo hi : Nat) (l : List C) (ta : Option Addr) (tc : Nat) (u : World) : Prop where
  hp : ∃ n D V, HpAt u hb M n D m ∧ VB D V ∧ n ≤ kk ∧ ∀ g, V g → g < u.heap.size ∧ g ≠ rt ∧ g ≠ M ∧ wB.heap.size ≤ g ∧ (g < lo ∨ hi ≤ g)
  rf : RfH u G rt bs
  glt : ∀ g, G g → g ≠ hb ∧ g ≠ M ∧ wB.heap.size ≤ g ∧ (g < lo ∨ hi ≤ g)
  own : u.ownsRow lo 35 5 (.slice ta l.length tc) l.length (flat l)
  blk : ∀ g, bkA ta = some g → lo ≤ g ∧ g < hi
  hi : hi ≤ u.heap.size
  low : wB.heap.size ≤ hb ∧ wB.heap.size ≤ M ∧ wB.heap.size ≤ rt ∧ rt ≠ hb ∧ rt ≠ M ∧ hb < lo ∧ M < lo ∧ rt < lo ∧ wB.heap.size ≤ lo
  bel : Below wB.heap.size wB u
  len : ∀ x l, lookH m x = some l → l.length * 48 ≤ 140737488355328 ∧ l ≠ [] ∧ rightB l = true
  txt : l.length * 48 ≤ 140737488355328 ∧ ∀ c ∈ l, c.t.size ≤ maxLen
section
variable {wB u u' : World} {hb M rt kk lo hi : Nat} {m : Hp} {G : Nat → Prop} {bs : List Bn} {l : List C} {ta : Option Addr} {tc : Nat}
theorem Mi.below (h : Mi wB hb M rt kk m G bs lo hi l ta tc u) (hw : Below u.heap.size u u') : Mi wB hb M rt kk m G bs lo hi l ta tc u' := by
  obtain ⟨n, D, V, h1, h2, h3, h4⟩ := h.hp
  exact ⟨⟨n, D, V, h1.below hw, h2, h3, fun g hg => ⟨Nat.lt_of_lt_of_le (h4 g hg).1 hw.size, (h4 g hg).2⟩⟩, h.rf.below hw, h.glt, own_keeps h.own fun g hg => hw.block g (Nat.lt_of_lt_of_le (h.blk g hg).2 h.hi), h.blk, Nat.le_trans h.hi hw.size, h.low, h.bel.trans (hw.mono h.bel.size), h.len, h.txt⟩
theorem Mi.term (h : Mi wB hb M rt kk m G bs lo hi l ta tc u) : TermAt u (.slice ta l.length tc) l := ownT_term (base := lo) h.own (by have := h.txt.1; unfold maxLen; omega) h.txt.2
theorem len_bind {x : Nm} (h : ∀ x l, lookH m x = some l → l.length * 48 ≤ 140737488355328 ∧ l ≠ [] ∧ rightB l = true) (hl : l.length * 48 ≤ 140737488355328) : ∀ y l', lookH (bindH m x l) y = some l' → l'.length * 48 ≤ 140737488355328 ∧ l' ≠ [] ∧ rightB l' = true := fun y l' hy => by
  unfold bindH at hy
  split at hy
  · next e =>
    rw [look_ins m x y l (bind_zero e)] at hy
    split at hy
    · cases hy
      unfold bindE at e
      split at e
      · cases e
      · next e3 =>
        have hg : globalB l = true := by
          cases e4 : globalB l
          · exact absurd (.inr (.inr e4)) e3
          · rfl
        unfold globalB at hg
        simp only [Bool.and_eq_true] at hg
        refine ⟨hl, fun e2 => ?_, hg.2⟩
        have := (right_len hg.2).1
        rw [e2] at this
        simp at this
    · exact h y l' hy
  · exact h y l' hy
theorem mi_13 (x : Nm) (h : Mi wB hb M rt kk m G bs lo hi l ta tc u) (hx : wfN x) (hW : ∀ c ∈ l, wfN (c.vn, c.vk)) (hS : Signs wB) (hk : kk ≤ 4000000000000) :
    Calls Tryd.prog 13 #[.pointer (some ⟨hb, 0, none⟩), .agg #[.int .i64 x.1, .int .i64 x.2], .slice ta l.length tc] u fun e w' => e = .returned (.int .i64 (bindE m x l)) ∧ Mi wB hb M rt (kk + 1) (bindH m x l) G bs lo hi l ta tc w' := by
  obtain ⟨n, D, V, h1, h2, h3, h4⟩ := h.hp
  refine (h11 m hb M n D x l (.slice ta l.length tc) u h1 hx h.term hW (hS.below h.bel) (by have := h.txt.1; omega) (by unfold maxLen; omega)).mono ?_
  rintro e w' ⟨rfl, n', D', k1, k2, k3, k4⟩
  have hM : M < u.heap.size := by have := h.low; have := h.hi; have := h1.map.lt; omega
  have hlen := len_bind (x := x) h.len h.txt.1
  have ksz := k3.2.2.2.1
  refine ⟨rfl, ⟨n', D', _, k1, vb_cut k1 (fun x l hl => (hlen x l hl).2.1) (k4 V h2), by omega, fun g hg => ?_⟩, h.rf.keeps (fun g hg => k3.2.2.2.2 g (h.rf.lt g hg) (h.glt g hg).2.1) (k3.2.2.2.2 rt h.rf.rlt h.low.2.2.2.2.1) ksz, h.glt, own_keeps h.own fun g hg => k3.2.2.2.2 g (Nat.lt_of_lt_of_le (h.blk g hg).2 h.hi) (by have := h.blk g hg; have := h.low; omega), h.blk, Nat.le_trans h.hi ksz, h.low, h.bel.trans (k3.below h.low.2.1 h.bel.size), hlen, h.txt⟩
  obtain ⟨hg1 | hg1, hg2⟩ := hg
  · exact ⟨hg2, (h4 g hg1).2⟩
  · have := h.rf.rlt
    have := h.hi
    have := h.bel.size
    exact ⟨hg2, by omega, by omega, by omega, .inr (by omega)⟩
theorem mi_24 (x : Nm) (v : Value) (h : Mi wB hb M rt kk m G bs lo hi l ta tc u) (hT : TermAt u v l) (hn : bs.length ≤ 3518437208780) :
    Calls Tryd.prog 24 #[.pointer (some ⟨rt, 0, none⟩), .agg #[.int .i64 x.1, .int .i64 x.2], v] u fun e w' => e = .returned (.int .i64 (bindE (hpOf bs) x l)) ∧ ∃ G' bs', hpOf bs' = bindH (hpOf bs) x l ∧ bs'.length ≤ bs.length + 1 ∧ Mi wB hb M rt kk m G' bs' lo hi l ta tc w' := by
  obtain ⟨n, D, V, h1, h2, h3, h4⟩ := h.hp
  refine (i24 G rt bs x l v u h.rf hT (by have := h.txt.1; omega) hn).mono ?_
  rintro e w' ⟨rfl, bs', k1, k2, k3, k4⟩
  have hk : ∀ g, g < u.heap.size → g ≠ rt → w'.heap[g]? = u.heap[g]? := fun g h1 h2 => k4.block g h1 (by simpa using h2)
  have hhb : hb < u.heap.size := (Array.getElem?_eq_some_iff.1 h1.blk).1
  have ksz := k4.size
  refine ⟨rfl, _, bs', k1, k2, ⟨n, D, V, h1.keeps h2 (hk hb hhb (Ne.symm h.low.2.2.2.1)) (hk M h1.map.lt (Ne.symm h.low.2.2.2.2.1)) (fun g hg => hk g (h4 g hg).1 (h4 g hg).2.1), h2, h3, fun g hg => ⟨Nat.lt_of_lt_of_le (h4 g hg).1 ksz, (h4 g hg).2⟩⟩, k3, fun g hg => ?_, own_keeps h.own fun g hg => hk g (Nat.lt_of_lt_of_le (h.blk g hg).2 h.hi) (by have := h.blk g hg; have := h.low; omega), h.blk, Nat.le_trans h.hi ksz, h.low, h.bel.trans ⟨k4.os, k4.tape, k4.output, ksz, fun j hj => hk j (by have := h.bel.size; omega) (by have := h.low; omega)⟩, h.len, h.txt⟩
  rcases hg with hg | ⟨hg, _⟩
  · exact h.glt g hg
  · have := h.hi
    have := h.low
    have hM := h1.map.lt
    exact ⟨by omega, by omega, by omega, .inr (by omega)⟩
/-- The copy is written over. -/
structure Wt (wX wr : World) (ta : Option Addr) (n : Nat) : Prop where
  os : wr.os = wX.os ∧ wr.tape = wX.tape ∧ wr.output = wX.output
  size : wr.heap.size = wX.heap.size
  block : ∀ g, bkA ta ≠ some g → wr.heap[g]? = wX.heap[g]?
  row : n = 0 ∨ ∃ g cur, ta = some ⟨g, 0, none⟩ ∧ wr.heap[g]? = some (.cells cur 35 (0, 0)) ∧ n * 5 ≤ cur.size
theorem wt_of {w : World} {B : Nat} {n : Nat} {xs : List Value} (h : w.ownsRow B 35 5 (.slice ta n tc) n xs) : Wt w w ta n := by
  refine ⟨⟨rfl, rfl, rfl⟩, rfl, fun _ _ => rfl, ?_⟩
  rcases h.2 with ⟨_, e⟩ | ⟨g, cap, cur, e, h1, h2, h3, _, h4, _⟩
  · exact .inl e
  · simp only [Value.slice.injEq] at e
    exact .inr ⟨g, cur, e.1, h2, by rw [h4]; exact Nat.mul_le_mul_right 5 h3⟩
theorem Wt.at {wX wr : World} {n : Nat} (h : Wt wX wr ta n) {k : Nat} (hk : k < n) : ∃ g v, ta = some ⟨g, 0, none⟩ ∧ wr.cell? ⟨g, k * 5 + 2, none⟩ = some v ∧ wr.frozen? ⟨g, k * 5 + 2, none⟩ = false ∧ ∀ z, Wt wX (wr.setCell ⟨g, k * 5 + 2, none⟩ z) ta n := by
  rcases h.row with e | ⟨g, cur, e, h1, h2⟩
  · omega
  · have hj : k * 5 + 2 < cur.size := by omega
    refine ⟨g, cur[k * 5 + 2], e, ?_, frozen_of_row wr g _ _ 35 h1, fun z => ⟨h.os, by simpa using h.size, fun j hj => ?_, .inr ⟨g, _, e, heap_setCell_same wr g (k * 5 + 2) _ 35 z h1, by simpa using h2⟩⟩⟩
    · rw [cell_of_row wr g _ _ 35 (0, 0) h1, Array.getElem?_eq_getElem hj]
    · have hne : j ≠ g := fun e2 => hj (by rw [e, e2]; rfl)
      rw [heap_setCell_other wr ⟨g, k * 5 + 2, none⟩ j z hne]
      exact h.block j hj
theorem mi_end {wr : World} (h : Mi wB hb M rt kk m G bs lo hi l ta tc u) (hw : Wt u wr ta l.length) (he : hpOf bs = m) (hu : RisesH m) (hn : bs.length ≤ kk) : ∃ n D V G, Bo wB wr hb M rt kk n D m V G bs := by
  obtain ⟨n, D, V, h1, h2, h3, h4⟩ := h.hp
  have hlow := h.low
  have hk : ∀ g, (g < lo ∨ hi ≤ g) → wr.heap[g]? = u.heap[g]? := fun g hg => hw.block g fun e => by have := h.blk g e; omega
  have hsz := hw.size
  exact ⟨n, D, V, G, h1.keeps h2 (hk hb (.inl (by omega))) (hk M (.inl (by omega))) (fun g hg => hk g (h4 g hg).2.2.2.2), h2, h.rf.keeps (fun g hg => hk g (h.glt g hg).2.2.2) (hk rt (.inl (by omega))) (by omega), he, hu, ⟨h3, hn⟩, ⟨hw.os.1.trans h.bel.os, hw.os.2.1.trans h.bel.tape, hw.os.2.2.trans h.bel.output, by have := h.bel.size; omega, fun j hj => (hk j (.inl (by omega))).trans (h.bel.block j hj)⟩, fun g hg => ⟨by have := (h4 g hg).1; omega, (h4 g hg).2.1, (h4 g hg).2.2.1, (h4 g hg).2.2.2.1⟩, fun g hg => ⟨(h.glt g hg).1, (h.glt g hg).2.1, (h.glt g hg).2.2.1⟩, ⟨by omega, by omega, by omega, hlow.2.2.2.1, hlow.2.2.2.2.1⟩, h.len⟩
end
theorem mi_of {wB wr w2 : World} {hb M rt k n : Nat} {D : DataW Value} {m : Hp} {V G : Nat → Prop} {bs : List Bn} {l : List C} {ta : Option Addr} {tc : Nat} (h : Bo wB wr hb M rt k n D m V G bs) (ho : w2.ownsRow wr.heap.size 35 5 (.slice ta l.length tc) l.length (flat l)) (hg : Below wr.heap.size wr w2) (hl : l.length * 48 ≤ 140737488355328 ∧ ∀ c ∈ l, c.t.size ≤ maxLen) : Mi wB hb M rt k m G bs wr.heap.size w2.heap.size l ta tc w2 := by
  have h' := h.below hg
  obtain ⟨a, c, e, h1, _⟩ := own_sl ho
  simp only [Value.slice.injEq, true_and] at e
  obtain ⟨rfl, rfl⟩ := e
  have hhb : hb < wr.heap.size := (Array.getElem?_eq_some_iff.1 h.hp.blk).1
  have hM := h.hp.map.lt
  exact ⟨⟨n, D, V, h'.hp, h.vb, h.nk.1, fun g hg' => ⟨(h'.vlt g hg').1, (h.vlt g hg').2.1, (h.vlt g hg').2.2.1, (h.vlt g hg').2.2.2, .inl (h.vlt g hg').1⟩⟩, h'.rf, fun g hg' => ⟨(h.glt g hg').1, (h.glt g hg').2.1, (h.glt g hg').2.2, .inl (h.rf.lt g hg')⟩, ho, h1, Nat.le_refl _, ⟨h.low.1, h.low.2.1, h.low.2.2.1, h.low.2.2.2.1, h.low.2.2.2.2, hhb, hM, h.rf.rlt, h.bel.size⟩, h'.bel, h.len, hl⟩
/-- Behind 'both'. -/
def BoTo (wB w : World) (hb M rt k : Nat) : Prop := ∃ n D m V G bs, Bo wB w hb M rt k n D m V G bs
set_option maxRecDepth 100000 in
set_option maxHeartbeats 8000000 in
theorem i8 (a : Option Addr) (n c : Nat) (bs0 : List Bn) (w : World) (hA : BdRow w a n bs0) (hn : n ≤ 3518437208780) (hS : Signs w) :
    Calls Tryd.prog 8 #[.slice a n c] w fun e w' => ∃ hb M rt, e = .returned (.tuple #[.pointer (some ⟨hb, 0, none⟩), .pointer (some ⟨rt, 0, none⟩), .bool true]) ∧ BoTo w w' hb M rt n := by
  obtain ⟨j0, hj, hjz, hjs, hjb⟩ := info60
  have HV : Hid (BdRow w a n bs0 ∧ Signs w) := ⟨hA, hS⟩
  have H22 : Calls Tryd.prog 22 #[] w fun e w' => ∃ hb M, e = .returned (.pointer (some ⟨hb, 0, none⟩)) ∧ Hid (HpAt w' hb M 0 (.map []) [] ∧ Below w.heap.size w w' ∧ w.heap.size ≤ hb ∧ w.heap.size ≤ M) := by
    refine (h26 w).mono ?_
    rintro e w' ⟨rfl, h1, h2⟩
    exact ⟨_, _, rfl, h1, h2, by omega, Nat.le_refl _⟩
  clear hA hS
  go_enter Tryd.func8, Tryd.ntmps8
  go_wp2_with fail
  refine H22.mono ?_
  rintro e w1 ⟨hb, M, rfl, HI0⟩
  clear H22
  have H23 : Calls Tryd.prog 23 #[] w1 fun e w' => ∃ rt, e = .returned (.pointer (some ⟨rt, 0, none⟩)) ∧ Hid (BoTo w w' hb M rt 0) := by
    refine (i23 w1).mono ?_
    rintro e w' ⟨rfl, h1, h2⟩
    obtain ⟨t1, t2, t3, t4⟩ := HI0.out
    have hhb : hb < w1.heap.size := (Array.getElem?_eq_some_iff.1 t1.blk).1
    have hM := t1.map.lt
    have hs := t2.size
    refine ⟨_, rfl, 0, _, [], (fun _ => False), (fun _ => False), [], t1.below h2, fun x v hx hv g hg => ?_, h1, rfl, List.Pairwise.nil, ⟨Nat.le_refl _, Nat.le_refl _⟩, t2.trans (h2.mono t2.size), fun g hg => hg.elim, fun g hg => hg.elim, ⟨t3, t4, by omega, by omega, by omega⟩, fun x l hl => by cases hl⟩
    have e1 := Maps.has_true_of_atKey hv
    rw [t1.no x hx rfl] at e1
    cases e1
  go_wp2_with fail
  refine H23.mono ?_
  rintro e w1b ⟨rt, rfl, HT0⟩
  clear H23 HI0
  go_wp2_with fail
  go_loopw [7, 8, 9] (fun i _ _ wr => ∃ k : Nat, k ≤ n ∧ i = .int .i64 k ∧ Hid (BoTo w wr hb M rt k)) (fun i _ _ _ => n - (intOf i).toNat)
  case atStart => exact ⟨0, Nat.zero_le _, rfl, HT0⟩
  case round =>
    clear HT0
    obtain ⟨k, hk, rfl, HK⟩ := hrel
    by_cases hlt : k < n
    · have hltI : (k : Int) < (n : Int) := by omega
      have hk0 : (0 : Int) ≤ (k : Int) := by omega
      obtain ⟨n1, D, m, V, G, bs, HB⟩ : ∃ n1 D m V G bs, Hid (Bo w wr hb M rt k n1 D m V G bs) := HK.out
      clear HK
      obtain ⟨b, o, hx, rfl, hbl, c0, c1, c2⟩ := HV.out.1.row.at hlt
      obtain ⟨e1, e2, e3, e4⟩ := HV.out.1.el _ (List.getElem_mem hx)
      obtain ⟨q, hq⟩ : ∃ q, bs0[k] = q := ⟨_, rfl⟩
      rw [hq] at c0 c1 c2 e1 e2 e3 e4
      obtain ⟨⟨x1, x2⟩, la, ln, lc, ll⟩ := q
      simp only [Bn.v] at c0 c1 c2 e1 e2 e3 e4
      obtain rfl : ln = ll.length := by
        obtain ⟨a', c', e⟩ := e1.form
        simp only [Value.slice.injEq] at e
        exact e.2.1
      have HCL : Hid (∀ u, Below w.heap.size w u → u.cell? ⟨b, o + k * 3, none⟩ = some (.int .i64 x1) ∧ u.cell? ⟨b, o + k * 3 + 1, none⟩ = some (.int .i64 x2) ∧ u.cell? ⟨b, o + k * 3 + 2, none⟩ = some (.slice la ll.length lc)) := fun u hu => ⟨(hu.cell (p := ⟨b, o + k * 3, none⟩) hbl).trans c0, (hu.cell (p := ⟨b, o + k * 3 + 1, none⟩) hbl).trans c1, (hu.cell (p := ⟨b, o + k * 3 + 2, none⟩) hbl).trans c2⟩
      have HX : Hid (TermAt w (.slice la ll.length lc) ll ∧ wfN (x1, x2) ∧ (∀ c ∈ ll, wfN (c.vn, c.vk)) ∧ ll.length * 48 ≤ 140737488355328) := ⟨e1, e2, e3, e4⟩
      have hll : ll.length * 48 ≤ 140737488355328 := e4
      clear hx hbl c0 c1 c2 e1 e2 e3 e4 hq
      obtain ⟨p0, p1, p2⟩ := HCL.out wr HB.out.bel
      have HFL : Hid ((flat ll).length = ll.length * 5) := by show _ = _; rw [flat_length]; omega
      have HRD : Hid (ll.length = 0 ∨ ∃ ad, la = some ad ∧ ∀ j z, (flat ll)[j]? = some z → wr.cell? (ad.add j) = some z) := by
        rcases (HX.out.1.below HB.out.bel).2 with ⟨e, _⟩ | ⟨b', o', cap', e, _, _, h3, _⟩
        · exact .inl (by rw [e]; rfl)
        · simp only [Value.slice.injEq] at e
          exact .inr ⟨_, e.1, fun j z hz => by rw [Addr.add_mid]; exact h3 j z hz⟩
      go_wp2_with (at_builtin; refine wpList_append_any _ rfl _ _ 24 rfl wr.heap.size 35 j0 zero60 5 48 Tryd.underlying24 hj hjz hjs hjb rfl (by decide) (.slice none 0 0) 0 [] rfl (World.ownsRow_nil _ _ _ _) la ll.length lc (flat ll) rfl HFL.out HRD.out (flat_one _) (by unfold maxLen; omega) (by omega) (Nat.le_refl _) ?_)
      intro ta tc w2 ho2 hg2
      have HM2 : Hid (Mi w hb M rt k m G bs wr.heap.size w2.heap.size ll ta tc w2) := by
        have hb2 : Below wr.heap.size wr w2 := ⟨hg2.os, hg2.tape, hg2.output, hg2.size, fun j hj => hg2.block j hj (by simp [Value.ownBlock])⟩
        exact mi_of HB.out (by simpa using ho2) hb2 ⟨HX.out.2.2.2, HX.out.1.1.2⟩
      have HPL : Hid (hpOf bs = m ∧ RisesH m ∧ bs.length ≤ k) := ⟨HB.out.eq, HB.out.up, HB.out.nk.2⟩
      clear ho2 hg2 HRD p0 p1 p2 HB
      obtain ⟨p0, p1, p2⟩ := HCL.out w2 HM2.out.bel
      obtain ⟨ev, hev⟩ : ∃ ev, bindE m (x1, x2) ll = ev := ⟨_, rfl⟩
      have K13 : Hid (∀ u, Below w2.heap.size w2 u → Calls Tryd.prog 13 #[.pointer (some ⟨hb, 0, none⟩), .agg #[.int .i64 x1, .int .i64 x2], .slice ta ll.length tc] u fun e w' => e = .returned (.int .i64 ev) ∧ Hid (Mi w hb M rt (k + 1) (bindH m (x1, x2) ll) G bs wr.heap.size w2.heap.size ll ta tc w')) := fun u hu => by
        rw [← hev]
        exact mi_13 (x1, x2) (HM2.out.below hu) HX.out.2.1 HX.out.2.2.1 HV.out.2 (by omega)
      have K24 : Hid (∀ u, Hid (Mi w hb M rt (k + 1) (bindH m (x1, x2) ll) G bs wr.heap.size w2.heap.size ll ta tc u) → Calls Tryd.prog 24 #[.pointer (some ⟨rt, 0, none⟩), .agg #[.int .i64 x1, .int .i64 x2], .slice la ll.length lc] u fun e w' => e = .returned (.int .i64 ev) ∧ Hid (∃ G' bs', hpOf bs' = bindH m (x1, x2) ll ∧ bs'.length ≤ k + 1 ∧ Mi w hb M rt (k + 1) (bindH m (x1, x2) ll) G' bs' wr.heap.size w2.heap.size ll ta tc w')) := fun u hu => by
        have hl := HPL.out.2.2
        refine (mi_24 (x1, x2) (.slice la ll.length lc) hu.out (HX.out.1.below hu.out.bel) (by omega)).mono ?_
        rintro e w' ⟨rfl, G', bs', k1, k2, k3⟩
        rw [HPL.out.1] at k1
        exact ⟨by rw [HPL.out.1, hev], G', bs', k1, by omega, k3⟩
      have K15 : Hid (∀ u, Hid (∃ G' bs', hpOf bs' = bindH m (x1, x2) ll ∧ bs'.length ≤ k + 1 ∧ Mi w hb M rt (k + 1) (bindH m (x1, x2) ll) G' bs' wr.heap.size w2.heap.size ll ta tc u) → Calls Tryd.prog 15 #[.slice ta ll.length tc, .slice la ll.length lc] u fun e w' => e = .returned (.bool true) ∧ Hid (∃ G' bs', hpOf bs' = bindH m (x1, x2) ll ∧ bs'.length ≤ k + 1 ∧ Mi w hb M rt (k + 1) (bindH m (x1, x2) ll) G' bs' wr.heap.size w2.heap.size ll ta tc w')) := fun u hu => by
        obtain ⟨G', bs', k1, k2, k3⟩ := hu.out
        refine (c13 ll ll _ _ u k3.term (HX.out.1.below k3.bel)).mono ?_
        rintro e w' ⟨rfl, hb'⟩
        exact ⟨by rw [eqT_refl], G', bs', k1, k2, k3.below hb'⟩
      clear hev HM2
      go_wp2_with fail
      refine wp_region_noPanic ?_
      refine wp_region_held_drew (S := fun u => u.cell? ⟨b, o + k * 3, none⟩ = some (.int .i64 x1) ∧ u.cell? ⟨b, o + k * 3 + 1, none⟩ = some (.int .i64 x2) ∧ u.cell? ⟨b, o + k * 3 + 2, none⟩ = some (.slice la ll.length lc)) (by kernel_rfl) (⟨p0, p1, p2⟩) (fun hHeld => ?_)
      (refine wpAnyH_take (i := 0) (v := ?_) (by simp only [List.getElem?_toArray, List.getElem?_cons_zero]; rfl) (by kernel_rfl) (by kernel_rfl) (by kernel_rfl) (fun _ _ _ h => h) (Or.inl ⟨by rfl, ?_⟩) (by assumption) ?_; rotate_left; (· (intro w hSw; (try dsimp only at hSw); go_simp <;> with_reducible rfl)); try simp only [Act.put, List.setIfInBounds_toArray, List.set_cons_zero, List.set_cons_succ])
      (refine wpAnyH_take (i := 1) (v := ?_) (by simp only [List.getElem?_toArray, List.getElem?_cons_zero, List.getElem?_cons_succ]; rfl) (by kernel_rfl) (by kernel_rfl) (by kernel_rfl) (fun _ _ _ h => h) (Or.inl ⟨by rfl, ?_⟩) (by assumption) ?_; rotate_left; (· (intro w hSw; (try dsimp only at hSw); go_simp <;> with_reducible rfl)); try simp only [Act.put, List.setIfInBounds_toArray, List.set_cons_zero, List.set_cons_succ])
      (refine wpAnyH_take (i := 2) (v := ?_) (by simp only [List.getElem?_toArray, List.getElem?_cons_zero, List.getElem?_cons_succ]; rfl) (by kernel_rfl) (by kernel_rfl) (by kernel_rfl) (fun _ _ _ h => h) (Or.inl ⟨by rfl, ?_⟩) (by assumption) ?_; rotate_left; (· (intro w hSw; (try dsimp only at hSw); go_simp <;> with_reducible rfl)); try simp only [Act.put, List.setIfInBounds_toArray, List.set_cons_zero, List.set_cons_succ])
      (refine wpAnyH_take (i := 3) (v := ?_) (by simp only [List.getElem?_toArray, List.getElem?_cons_zero, List.getElem?_cons_succ]; rfl) (by kernel_rfl) (by kernel_rfl) (by kernel_rfl) (fun _ _ _ h => h) (Or.inl ⟨by rfl, ?_⟩) (by assumption) ?_; rotate_left; (· (intro w hSw; (try dsimp only at hSw); go_simp <;> with_reducible rfl)); try simp only [Act.put, List.setIfInBounds_toArray, List.set_cons_zero, List.set_cons_succ])
      (refine wpAnyH_take (i := 4) (v := ?_) (by simp only [List.getElem?_toArray, List.getElem?_cons_zero, List.getElem?_cons_succ]; rfl) (by kernel_rfl) (by kernel_rfl) (by kernel_rfl) (fun _ _ _ h => h) (Or.inl ⟨by rfl, ?_⟩) (by assumption) ?_; rotate_left; (· (intro w hSw; (try dsimp only at hSw); go_simp <;> with_reducible rfl)); try simp only [Act.put, List.setIfInBounds_toArray, List.set_cons_zero, List.set_cons_succ])
      (refine wpAnyH_take (i := 5) (v := ?_) (by simp only [List.getElem?_toArray, List.getElem?_cons_zero, List.getElem?_cons_succ]; rfl) (by kernel_rfl) (by kernel_rfl) (by kernel_rfl) (fun _ _ _ h => h) (Or.inl ⟨by rfl, ?_⟩) (by assumption) ?_; rotate_left; (· (intro w hSw; (try dsimp only at hSw); go_simp <;> with_reducible rfl)); try simp only [Act.put, List.setIfInBounds_toArray, List.set_cons_zero, List.set_cons_succ])
      (refine wpAnyH_take (i := 6) (v := ?_) (by simp only [List.getElem?_toArray, List.getElem?_cons_zero, List.getElem?_cons_succ]; rfl) (by kernel_rfl) (by kernel_rfl) (by kernel_rfl) (fun _ _ _ h => h) (Or.inl ⟨by rfl, ?_⟩) (by assumption) ?_; rotate_left; (· (intro w hSw; (try dsimp only at hSw); go_simp <;> with_reducible rfl)); try simp only [Act.put, List.setIfInBounds_toArray, List.set_cons_zero, List.set_cons_succ])
      (refine wpAnyH_take (i := 8) (v := ?_) (by simp only [List.getElem?_toArray, List.getElem?_cons_zero, List.getElem?_cons_succ]; rfl) (by kernel_rfl) (by kernel_rfl) (by kernel_rfl) (fun _ _ _ h => h) (Or.inl ⟨by rfl, ?_⟩) (by assumption) ?_; rotate_left; (· (intro w hSw; (try dsimp only at hSw); go_simp <;> with_reducible rfl)); try simp only [Act.put, List.setIfInBounds_toArray, List.set_cons_zero, List.set_cons_succ])
      (refine wpAnyH_take (i := 9) (v := ?_) (by simp only [List.getElem?_toArray, List.getElem?_cons_zero, List.getElem?_cons_succ]; rfl) (by kernel_rfl) (by kernel_rfl) (by kernel_rfl) (fun _ _ _ h => h) (Or.inl ⟨by rfl, ?_⟩) (by assumption) ?_; rotate_left; (· (intro w hSw; (try dsimp only at hSw); go_simp <;> with_reducible rfl)); try simp only [Act.put, List.setIfInBounds_toArray, List.set_cons_zero, List.set_cons_succ])
      (refine wpAnyH_take (i := 10) (v := ?_) (by simp only [List.getElem?_toArray, List.getElem?_cons_zero, List.getElem?_cons_succ]; rfl) (by kernel_rfl) (by kernel_rfl) (by kernel_rfl) (fun _ _ _ h => h) (Or.inl ⟨by rfl, ?_⟩) (by assumption) ?_; rotate_left; (· (intro w hSw; (try dsimp only at hSw); go_simp <;> with_reducible rfl)); try simp only [Act.put, List.setIfInBounds_toArray, List.set_cons_zero, List.set_cons_succ])
      (refine wpAnyH_take (i := 11) (v := ?_) (by simp only [List.getElem?_toArray, List.getElem?_cons_zero, List.getElem?_cons_succ]; rfl) (by kernel_rfl) (by kernel_rfl) (by kernel_rfl) (fun _ _ _ h => h) (Or.inl ⟨by rfl, ?_⟩) (by assumption) ?_; rotate_left; (· (intro w hSw; (try dsimp only at hSw); go_simp <;> with_reducible rfl)); try simp only [Act.put, List.setIfInBounds_toArray, List.set_cons_zero, List.set_cons_succ])
      (refine wpAnyH_take (i := 12) (v := ?_) (by simp only [List.getElem?_toArray, List.getElem?_cons_zero, List.getElem?_cons_succ]; rfl) (by kernel_rfl) (by kernel_rfl) (by kernel_rfl) (fun _ _ _ h => h) (Or.inl ⟨by rfl, ?_⟩) (by assumption) ?_; rotate_left; (· (intro w hSw; (try dsimp only at hSw); go_simp <;> with_reducible rfl)); try simp only [Act.put, List.setIfInBounds_toArray, List.set_cons_zero, List.set_cons_succ])
      (refine wpAnyH_take (i := 13) (v := ?_) (by simp only [List.getElem?_toArray, List.getElem?_cons_zero, List.getElem?_cons_succ]; rfl) (by kernel_rfl) (by kernel_rfl) (by kernel_rfl) (fun _ _ _ h => h) (Or.inl ⟨by rfl, ?_⟩) (by assumption) ?_; rotate_left; (· (intro w hSw; (try dsimp only at hSw); go_simp <;> with_reducible rfl)); try simp only [Act.put, List.setIfInBounds_toArray, List.set_cons_zero, List.set_cons_succ])
      (refine wpAnyH_take (i := 14) (v := ?_) (by simp only [List.getElem?_toArray, List.getElem?_cons_zero, List.getElem?_cons_succ]; rfl) (by kernel_rfl) (by kernel_rfl) (by kernel_rfl) (fun _ _ _ h => h) (Or.inl ⟨by rfl, ?_⟩) (by assumption) ?_; rotate_left; (· (intro w hSw; (try dsimp only at hSw); go_simp <;> with_reducible rfl)); try simp only [Act.put, List.setIfInBounds_toArray, List.set_cons_zero, List.set_cons_succ])
      (refine wpAnyH_take (i := 15) (v := ?_) (by simp only [List.getElem?_toArray, List.getElem?_cons_zero, List.getElem?_cons_succ]; rfl) (by kernel_rfl) (by kernel_rfl) (by kernel_rfl) (fun _ _ _ h => h) (Or.inl ⟨by rfl, ?_⟩) (by assumption) ?_; rotate_left; (· (intro w hSw; (try dsimp only at hSw); go_simp <;> with_reducible rfl)); try simp only [Act.put, List.setIfInBounds_toArray, List.set_cons_zero, List.set_cons_succ])
      (refine wpAnyH_take (i := 16) (v := ?_) (by simp only [List.getElem?_toArray, List.getElem?_cons_zero, List.getElem?_cons_succ]; rfl) (by kernel_rfl) (by kernel_rfl) (by kernel_rfl) (fun _ _ _ h => h) (Or.inl ⟨by rfl, ?_⟩) (by assumption) ?_; rotate_left; (· (intro w hSw; (try dsimp only at hSw); go_simp <;> with_reducible rfl)); try simp only [Act.put, List.setIfInBounds_toArray, List.set_cons_zero, List.set_cons_succ])
      (refine wpAnyH_take (i := 17) (v := ?_) (by simp only [List.getElem?_toArray, List.getElem?_cons_zero, List.getElem?_cons_succ]; rfl) (by kernel_rfl) (by kernel_rfl) (by kernel_rfl) (fun _ _ _ h => h) (Or.inl ⟨by rfl, ?_⟩) (by assumption) ?_; rotate_left; (· (intro w hSw; (try dsimp only at hSw); go_simp <;> with_reducible rfl)); try simp only [Act.put, List.setIfInBounds_toArray, List.set_cons_zero, List.set_cons_succ])
      (refine wpAnyH_take (i := 18) (v := ?_) (by simp only [List.getElem?_toArray, List.getElem?_cons_zero, List.getElem?_cons_succ]; rfl) (by kernel_rfl) (by kernel_rfl) (by kernel_rfl) (fun _ _ _ h => h) (Or.inl ⟨by rfl, ?_⟩) (by assumption) ?_; rotate_left; (· (intro w hSw; (try dsimp only at hSw); go_simp <;> with_reducible rfl)); try simp only [Act.put, List.setIfInBounds_toArray, List.set_cons_zero, List.set_cons_succ])
      refine wpAnyH_ready (rs := [7]) (by kernel_rfl) (by simp) ?_
      refine AllReadyH.cons (by simp only [List.getElem?_toArray, List.getElem?_cons_zero, List.getElem?_cons_succ]; rfl) (fun K hK => ?_) AllReadyH.nil
      go_simp
      go_at_call 13
      refine (K13.out _ (by first | exact Below.refl _ _ | exact (Below.refl _ _).drew | exact below_dN (Below.refl _ _) _)).mono ?_
      rintro e w4 ⟨rfl, H4⟩
      refine hK.out _ _ ?_ (fun hHeld => ?_)
      · exact HCL.out w4 H4.out.bel
      clear hK K
      try simp only [Act.put, List.setIfInBounds_toArray, List.set_cons_zero, List.set_cons_succ]
      refine wpAnyH_ready (rs := [19]) (by kernel_rfl) (by simp) ?_
      refine AllReadyH.cons (by simp only [List.getElem?_toArray, List.getElem?_cons_zero, List.getElem?_cons_succ]; rfl) (fun K hK => ?_) AllReadyH.nil
      go_simp
      go_at_call 24
      refine (K24.out _ H4).mono ?_
      rintro e w5 ⟨rfl, H5⟩
      refine hK.out _ _ ?_ (fun hHeld => ?_)
      · exact HCL.out w5 (by obtain ⟨_, _, _, _, h⟩ := H5.out; exact h.bel)
      clear hK K
      try simp only [Act.put, List.setIfInBounds_toArray, List.set_cons_zero, List.set_cons_succ]
      (refine wpAnyH_take (i := 20) (v := ?_) (by simp only [List.getElem?_toArray, List.getElem?_cons_zero, List.getElem?_cons_succ]; rfl) (by kernel_rfl) (by kernel_rfl) (by kernel_rfl) (fun _ _ _ h => h) (Or.inl ⟨by rfl, ?_⟩) (by assumption) ?_; rotate_left; (· (intro w hSw; (try dsimp only at hSw); go_simp <;> with_reducible rfl)); try simp only [Act.put, List.setIfInBounds_toArray, List.set_cons_zero, List.set_cons_succ])
      (refine wpAnyH_take (i := 21) (v := ?_) (by simp only [List.getElem?_toArray, List.getElem?_cons_zero, List.getElem?_cons_succ]; rfl) (by kernel_rfl) (by kernel_rfl) (by kernel_rfl) (fun _ _ _ h => h) (Or.inl ⟨by rfl, ?_⟩) (by assumption) ?_; rotate_left; (· (intro w hSw; (try dsimp only at hSw); go_simp <;> with_reducible rfl)); try simp only [Act.put, List.setIfInBounds_toArray, List.set_cons_zero, List.set_cons_succ])
      (refine wpAnyH_take (i := 22) (v := ?_) (by simp only [List.getElem?_toArray, List.getElem?_cons_zero, List.getElem?_cons_succ]; rfl) (by kernel_rfl) (by kernel_rfl) (by kernel_rfl) (fun _ _ _ h => h) (Or.inl ⟨by rfl, ?_⟩) (by assumption) ?_; rotate_left; (· (intro w hSw; (try dsimp only at hSw); go_simp <;> with_reducible rfl)); try simp only [Act.put, List.setIfInBounds_toArray, List.set_cons_zero, List.set_cons_succ])
      (refine wpAnyH_take (i := 23) (v := ?_) (by simp only [List.getElem?_toArray, List.getElem?_cons_zero, List.getElem?_cons_succ]; rfl) (by kernel_rfl) (by kernel_rfl) (by kernel_rfl) (fun _ _ _ h => h) (Or.inl ⟨by rfl, ?_⟩) (by assumption) ?_; rotate_left; (· (intro w hSw; (try dsimp only at hSw); go_simp <;> with_reducible rfl)); try simp only [Act.put, List.setIfInBounds_toArray, List.set_cons_zero, List.set_cons_succ])
      (refine wpAnyH_take (i := 24) (v := ?_) (by simp only [List.getElem?_toArray, List.getElem?_cons_zero, List.getElem?_cons_succ]; rfl) (by kernel_rfl) (by kernel_rfl) (by kernel_rfl) (fun _ _ _ h => h) (Or.inl ⟨by rfl, ?_⟩) (by assumption) ?_; rotate_left; (· (intro w hSw; (try dsimp only at hSw); go_simp <;> with_reducible rfl)); try simp only [Act.put, List.setIfInBounds_toArray, List.set_cons_zero, List.set_cons_succ])
      (refine wpAnyH_take (i := 25) (v := ?_) (by simp only [List.getElem?_toArray, List.getElem?_cons_zero, List.getElem?_cons_succ]; rfl) (by kernel_rfl) (by kernel_rfl) (by kernel_rfl) (fun _ _ _ h => h) (Or.inl ⟨by rfl, ?_⟩) (by assumption) ?_; rotate_left; (· (intro w hSw; (try dsimp only at hSw); go_simp <;> with_reducible rfl)); try simp only [Act.put, List.setIfInBounds_toArray, List.set_cons_zero, List.set_cons_succ])
      (refine wpAnyH_take (i := 26) (v := ?_) (by simp only [List.getElem?_toArray, List.getElem?_cons_zero, List.getElem?_cons_succ]; rfl) (by kernel_rfl) (by kernel_rfl) (by kernel_rfl) (fun _ _ _ h => h) (Or.inl ⟨by rfl, ?_⟩) (by assumption) ?_; rotate_left; (· (intro w hSw; (try dsimp only at hSw); go_simp <;> with_reducible rfl)); try simp only [Act.put, List.setIfInBounds_toArray, List.set_cons_zero, List.set_cons_succ])
      (refine wpAnyH_take (i := 27) (v := ?_) (by simp only [List.getElem?_toArray, List.getElem?_cons_zero, List.getElem?_cons_succ]; rfl) (by kernel_rfl) (by kernel_rfl) (by kernel_rfl) (fun _ _ _ h => h) (Or.inl ⟨by rfl, ?_⟩) (by assumption) ?_; rotate_left; (· (intro w hSw; (try dsimp only at hSw); go_simp <;> with_reducible rfl)); try simp only [Act.put, List.setIfInBounds_toArray, List.set_cons_zero, List.set_cons_succ])
      refine wpAnyH_ready (rs := [28]) (by kernel_rfl) (by simp) ?_
      refine AllReadyH.cons (by simp only [List.getElem?_toArray, List.getElem?_cons_zero, List.getElem?_cons_succ]; rfl) (fun K hK => ?_) AllReadyH.nil
      go_simp
      go_at_call 15
      refine (K15.out _ H5).mono ?_
      rintro e w6 ⟨rfl, H6⟩
      refine hK.out _ _ ?_ (fun hHeld => ?_)
      · exact HCL.out w6 (by obtain ⟨_, _, _, _, h⟩ := H6.out; exact h.bel)
      clear hK K
      try simp only [Act.put, List.setIfInBounds_toArray, List.set_cons_zero, List.set_cons_succ]
      (refine wpAnyH_take (i := 29) (v := ?_) (by simp only [List.getElem?_toArray, List.getElem?_cons_zero, List.getElem?_cons_succ]; rfl) (by kernel_rfl) (by kernel_rfl) (by kernel_rfl) (fun _ _ _ h => h) (Or.inl ⟨by rfl, ?_⟩) (by assumption) ?_; rotate_left; (· (intro w hSw; (try dsimp only at hSw); go_simp <;> with_reducible rfl)); try simp only [Act.put, List.setIfInBounds_toArray, List.set_cons_zero, List.set_cons_succ])
      (refine wpAnyH_take (i := 30) (v := ?_) (by simp only [List.getElem?_toArray, List.getElem?_cons_zero, List.getElem?_cons_succ]; rfl) (by kernel_rfl) (by kernel_rfl) (by kernel_rfl) (fun _ _ _ h => h) (Or.inl ⟨by rfl, ?_⟩) (by assumption) ?_; rotate_left; (· (intro w hSw; (try dsimp only at hSw); go_simp <;> with_reducible rfl)); try simp only [Act.put, List.setIfInBounds_toArray, List.set_cons_zero, List.set_cons_succ])
      refine wpAnyH_done (by kernel_rfl) ?_ _
      refine NoPanic.normal ?_
      clear hHeld H4 H5 K13 K24 K15 p0 p1 p2
      obtain ⟨G2, bs2, HE⟩ : ∃ G2 bs2, Hid (hpOf bs2 = bindH m (x1, x2) ll ∧ bs2.length ≤ k + 1 ∧ Mi w hb M rt (k + 1) (bindH m (x1, x2) ll) G2 bs2 wr.heap.size w2.heap.size ll ta tc w6) := H6.out
      clear H6
      have HW0 : Hid (Wt w6 w6 ta ll.length) := wt_of HE.out.2.2.own
      go_wp2_with fail
      go_loopw [9] (fun i wx => ∃ j : Nat, j ≤ ll.length ∧ i = .int .i64 j ∧ Hid (Wt w6 wx ta ll.length)) (fun i _ => ll.length - (intOf i).toNat)
      case atStart => exact ⟨0, Nat.zero_le _, rfl, HW0⟩
      case round =>
        clear HW0
        obtain ⟨j, hjj, rfl, HJ⟩ := hrel
        by_cases hjl : j < ll.length
        · have hjI : (j : Int) < (ll.length : Int) := by omega
          have hj0 : (0 : Int) ≤ (j : Int) := by omega
          obtain ⟨g, z, rfl, q0, q1, q2⟩ := HJ.out.at hjl
          have HN : Hid _ := q2 (.int .i64 99)
          clear q2
          go_wp2_with fail
          go_roundw
          case rel => exact ⟨j + 1, by omega, by go_num, HN⟩
          case measure => simp [intOf]; omega
        · have hjI : ¬ (j : Int) < (ll.length : Int) := by omega
          have HF : Hid (BoTo w wr hb M rt (k + 1)) := by
            obtain ⟨n2, D2, V2, G3, h⟩ := mi_end HE.out.2.2 HJ.out HE.out.1 (rises_bind HPL.out.2.1) HE.out.2.1
            exact ⟨n2, D2, _, V2, G3, bs2, h⟩
          go_wp2_with fail
          go_roundw
          case rel => exact ⟨k + 1, by omega, by go_num, HF⟩
          case measure => simp [intOf]; omega
    · have hltI : ¬ (k : Int) < (n : Int) := by omega
      obtain rfl : k = n := by omega
      go_wp2_with fail
      refine bodyPost_ret (v := .tuple #[.pointer (some ⟨hb, 0, none⟩), .pointer (some ⟨rt, 0, none⟩), .bool true]) (by simp [results, Tryd.results8, go_sem]) rfl ⟨hb, M, rt, rfl, HK.out⟩
set_option maxRecDepth 100000 in
set_option maxHeartbeats 4000000 in
theorem i14 (m : Hp) (hb M n : Nat) (D : DataW Value) (x : Nm) (l : List C) (w : World) (hH : HpAt w hb M n D m) (hx : wfN x) (hl : lookH m x = some l) (hby : l.length * 48 ≤ 140737488355328) :
    Calls Tryd.prog 14 #[.pointer (some ⟨hb, 0, none⟩), .agg #[.int .i64 x.1, .int .i64 x.2]] w fun e w' => ∃ a c, e = .returned (.tuple #[.slice a l.length c, .bool true]) ∧ Hid (TermAt w' (.slice a l.length c) l ∧ Below w.heap.size w w') := by
  obtain ⟨W, hW⟩ : ∃ W, w.alloc (.cells #[.int .i64 x.1, .int .i64 x.2] 33) = W := ⟨_, rfl⟩
  obtain ⟨vb, hvb⟩ : ∃ vb, w.heap.size = vb := ⟨_, rfl⟩
  have hbW : Below w.heap.size w W := by rw [← hW]; exact (Below.refl _ w).alloc (Nat.le_refl _) _
  have hc : W.heap[vb]? = some (.cells #[.int .i64 x.1, .int .i64 x.2] 33 (0, 0)) := by rw [← hW, ← hvb]; exact heap_alloc_new w _
  obtain ⟨v0, v1⟩ := box_cells hc
  have hvl : vb < W.heap.size := (Array.getElem?_eq_some_iff.1 hc).1
  have H30 : Calls Tryd.prog 30 #[.pointer (some ⟨hb, 0, none⟩), .agg #[.int .i64 x.1, .int .i64 x.2]] W fun e w' => e = .returned (.bool true) ∧ Hid (Below W.heap.size W w') := by
    refine (h21 m hb M n D x W (hH.below hbW) hx).mono ?_
    rintro e w' ⟨rfl, hb'⟩
    exact ⟨by rw [hl]; rfl, hb'⟩
  have HH : Hid (∀ u, Below W.heap.size W u → u.cell? ⟨hb, 0, none⟩ = some (.map (some M)) ∧ u.cell? ⟨vb, 0, none⟩ = some (.int .i64 x.1) ∧ u.cell? ⟨vb, 1, none⟩ = some (.int .i64 x.2) ∧ ∃ uv, (Instr.lookup 61 (.map (some M)) (.agg #[.int .i64 x.1, .int .i64 x.2]) false).run Tryd.prog u.drew = .ok uv u.drew ∧ Calls Tryd.prog 25 #[uv] u.drew fun e w' => ∃ a c, e = .returned (.slice a l.length c) ∧ Hid (TermAt w' (.slice a l.length c) l ∧ Below w.heap.size w w')) := fun u hu => by
    have h1 := (hH.below hbW).below hu
    have h2 := box_cells ((hu.block vb hvl).trans hc)
    have hd : Below u.heap.size u u.drew := (Below.refl _ u).drew
    have hhas : Maps.has D (kLit x) = true := by
      obtain ⟨v, k1, _⟩ := hH.yes x l hx hl
      exact Maps.has_true_of_atKey k1
    obtain ⟨uv, l', k1, k2, k3⟩ := (h1.below hd).look1 x hx hhas
    rw [hl] at k2
    cases k2
    refine ⟨h1.cell, h2.1, h2.2, uv, k1, ?_⟩
    refine (h22 l uv u.drew k3 hby).mono ?_
    rintro e w' ⟨u', rfl, q1, _, q3⟩
    obtain ⟨a, c, e⟩ := q1.form
    subst e
    have hbu : Below w.heap.size w u.drew := (hbW.trans (hu.mono hbW.size)).drew
    exact ⟨a, c, rfl, q1, hbu.trans (q3.mono hbu.size)⟩
  clear hH hl hbW hc hvl hx hby
  obtain ⟨x1, x2⟩ := x
  simp only at *
  go_enter Tryd.func14, Tryd.ntmps14
  go_wp2_with fail
  refine H30.mono ?_
  rintro e w1 ⟨rfl, HB1⟩
  clear H30 v0 v1
  obtain ⟨q0, v0, v1, uv, hlk, H25⟩ := HH.out w1 HB1.out
  go_wp2_with fail
  go_region_with (go_at_call 25; refine H25.mono ?_; rintro e w3 ⟨a3, c3, rfl, H3⟩)
  all_goals (
    go_wp2_with fail
    refine bodyPost_ret (v := .tuple #[.slice a3 l.length c3, .bool true]) (by simp [results, Tryd.results14, go_sem]) rfl ⟨a3, c3, rfl, H3⟩)
end Go.Proofs.YtgcpkkeonameeaaDoor
