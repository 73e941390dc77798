/- Contract of 'both': values bound by the program and by the document. 'both': what a round does, step by step. Contract of 'both'. Contract of Value of a variable that has one. -/
import Derived.Test.YtojobiefambkoaaGreatDoorID
import Derived.Deep.Upon
import Derived.Test.YtojobiefambkoaaGreatDoorRA
import Derived.Test.YtojobiefambkoaaGreatDoorHB1
namespace Go.Proofs.YtojobiefambkoaaGreatDoor
open Go.RowKit
attribute [local go_sem ↓] Go.wp_at_zero Go.wp_at_succ
theorem i24 (G : Nat → Prop) (rt : Nat) (bs : List Bn) (x : Nm) (l : List C) (v : Value) (w : World) (h : RfH w G rt bs) (hT : TermAt w v l) (hby : l.length * 48 ≤ 140737488355328) (hn : bs.length ≤ 3518437208780) :
    Calls Tryz.prog 29 #[.pointer (some ⟨rt, 0, none⟩), .agg #[.int .i64 x.1, .int .i64 x.2], v] w fun e w' => e = .returned (.int .i64 (bindE (hpOf bs) x l)) ∧ BindR w G rt bs x l w' := by
  by_cases he : x.1 < 0 ∨ oneT ⟨4, ⟨#[]⟩, 0, x.1, x.2⟩ = [] ∨ globalB l = false
  · exact i24_six G rt bs x l v w h hT hby hn he
  · cases h70 : hasB bs x
    · cases hv : isVarL l
      · exact i24_not G rt bs x l v w h hT hby hn he h70 hv
      · cases hl : lessN (varL l) x
        · exact i24_71 G rt bs x l v w h hT hby hn he h70 ⟨hv, hl⟩
        · exact i24_var G rt bs x l v w h hT hby hn he h70 (fun _ => hl) hv
    · exact i24_70 G rt bs x l v w h hT hby hn he h70
section
variable {P : Program}
theorem wpList_append_any (w : World) {ops : Array Oper} {rest : List Oper} {o : Oper} {a : Act} {Q : Exit → Act → World → Prop} (hgd : o.guard = none) (s x : Operand) (t : TypeId)
    (ho : o.op = .call { callee := .builtin .append, args := #[s, x], argTypes := #[t, t] })
    (base : Nat) (e : TypeId) (i : TypeInfo) (z : Value) (size bytes : Nat) (ht : P.underlying t = some (.slice e)) (hi : P.info? e = some i) (hz : i.zero = some z)
    (hsize : i.size = size) (hby : i.bytes = bytes) (hzs : z.cells.size = size) (hsz : 0 < size)
    (v : Value) (n : Nat) (xs : List Value) (hs : a.eval s = v) (hown : w.ownsRow base e size v n xs)
    (ax : Option Addr) (m c : Nat) (news : List Value) (hx : a.eval x = .slice ax m c) (hl : news.length = m * size) (hnews : m = 0 ∨ ∃ ad, ax = some ad ∧ ∀ j u, news[j]? = some u → w.cell? (ad.add j) = some u) (h1 : ∀ u ∈ news, u.oneCell' = true)
    (h63 : n + m ≤ maxLen) (hbytes : (n + m) * bytes ≤ 140737488355328) (hbase : base ≤ w.heap.size)
    (h : ∀ a' c' w', w'.ownsRow base e size (.slice a' (n + m) c') (n + m) (xs ++ news) → w.grownBy w' v.ownBlock → wpList P ops Q rest (a.put o.dst (.slice a' (n + m) c')) w') : wpList P ops Q (o :: rest) a w := by
  have form : ∀ {w : World} {v : Value} {k : Nat} {ys : List Value}, w.ownsRow base e size v k ys → ∃ a' c', v = .slice a' k c' := fun {w v k ys} h => by
    rcases h.2 with ⟨h1, h2⟩ | ⟨g, cap, cur, h1, _⟩
    · exact ⟨none, 0, by rw [h1, h2]⟩
    · exact ⟨_, _, h1⟩
  cases ax with
  | some ad =>
    refine wpList_append_own w hgd s x t ho base e i z size bytes ht hi hz hsize hby hzs hsz v n xs hs hown ad m c news hx hl ?_ h1 h63 hbytes hbase fun v' w' h2 h3 _ => ?_
    · rcases hnews with e | ⟨ad', e, h2⟩
      · intro j u hu
        have : news = [] := List.eq_nil_of_length_eq_zero (by rw [hl, e, Nat.zero_mul])
        rw [this] at hu; simp at hu
      · cases e; exact h2
    · obtain ⟨a', c', rfl⟩ := form h2
      exact h a' c' w' h2 h3
  | none =>
    have hm : m = 0 := by
      rcases hnews with e | ⟨ad', e, _⟩
      · exact e
      · cases e
    subst hm
    obtain rfl : news = [] := List.eq_nil_of_length_eq_zero (by rw [hl, Nat.zero_mul])
    obtain ⟨a', c', rfl⟩ := form hown
    have hle : n ≤ c' := by
      rcases hown.2 with ⟨h1, h2⟩ | ⟨g, cap, cur, h1, _, _, h4, _⟩
      · cases h1; omega
      · cases h1; exact h4
    have hrun := run_append_nothing w t t o.type e i ht hi a' n c' hle (.slice none 0 c) (Src.ofNil w ht c)
    refine wpList_plain hgd fun K hK => ?_
    unfold Oper.wp execOp
    simp only [ho, resolve, invoke, builtin, Sem.run_bind, Sem.run_pure, Result.andThen_ok, List.map_toArray, List.map_cons, List.map_nil, hs, hx, hrun]
    exact hK _ _ (h a' c' w (by simpa using hown) ⟨rfl, rfl, rfl, Nat.le_refl _, fun _ _ _ => rfl⟩)
end
theorem HpAt.keeps {w w' : World} {hb M n : Nat} {D : DataW Value} {m : Hp} {V : Nat → Prop} (h : HpAt w hb M n D m) (hV : VB D V) (h1 : w'.heap[hb]? = w.heap[hb]?) (h2 : w'.heap[M]? = w.heap[M]?) (h3 : ∀ g, V g → w'.heap[g]? = w.heap[g]?) : HpAt w' hb M n D m := by
  refine ⟨h1.trans h.blk, ?_, h.no, fun x l hx hl => ?_, h.desc, h.wf⟩
  · obtain ⟨es, ck, k1, k2⟩ := h.map
    exact ⟨es, ck, h2.trans k1, k2⟩
  · obtain ⟨v, k1, k2⟩ := h.yes x l hx hl
    exact ⟨v, k1, k2.keeps fun g hg => h3 g (hV x v hx k1 g hg)⟩
/-- Bindings that are handed in. -/
structure BdRow (w : World) (a : Option Addr) (n : Nat) (bs : List Bn) : Prop where
  row : Bs w a n bs
  el : ∀ b ∈ bs, TermAt w b.v b.l ∧ wfN b.x ∧ (∀ c ∈ b.l, wfN (c.vn, c.vk)) ∧ b.l.length * 48 ≤ 140737488355328
/-- Both heaps behind k bindings: the same values. -/
structure Bo (wB w : World) (hb M rt k : Nat) (n : Nat) (D : DataW Value) (m : Hp) (V G : Nat → Prop) (bs : List Bn) : Prop where
  hp : HpAt w hb M n D m
  vb : VB D V
  rf : RfH w G rt bs
  eq : hpOf bs = m
  up : RisesH m
  nk : n ≤ k ∧ bs.length ≤ k
  bel : Below wB.heap.size wB w
  vlt : ∀ g, V g → g < w.heap.size ∧ g ≠ rt ∧ g ≠ M ∧ wB.heap.size ≤ g
  glt : ∀ g, G g → g ≠ hb ∧ g ≠ M ∧ wB.heap.size ≤ g
  low : wB.heap.size ≤ hb ∧ wB.heap.size ≤ M ∧ wB.heap.size ≤ rt ∧ rt ≠ hb ∧ rt ≠ M
  len : ∀ x l, lookH m x = some l → l.length * 48 ≤ 140737488355328 ∧ l ≠ [] ∧ rightB l = true
theorem Bo.hbM {wB w : World} {hb M rt k n : Nat} {D : DataW Value} {m : Hp} {V G : Nat → Prop} {bs : List Bn} (h : Bo wB w hb M rt k n D m V G bs) : hb ≠ M := fun e => by
  have h1 := h.hp.blk
  obtain ⟨es, ck, h2, _⟩ := h.hp.map
  rw [e, h2] at h1
  cases h1
theorem Bo.below {wB w w' : World} {hb M rt k n : Nat} {D : DataW Value} {m : Hp} {V G : Nat → Prop} {bs : List Bn} (h : Bo wB w hb M rt k n D m V G bs) (hw : Below w.heap.size w w') : Bo wB w' hb M rt k n D m V G bs :=
  ⟨h.hp.below hw, h.vb, h.rf.below hw, h.eq, h.up, h.nk, h.bel.trans (hw.mono h.bel.size), fun g hg => ⟨Nat.lt_of_lt_of_le (h.vlt g hg).1 hw.size, (h.vlt g hg).2⟩, h.glt, h.low, h.len⟩
/-- One block is written. -/
theorem Bo.wrote {wB w w' : World} {hb M rt k n : Nat} {D : DataW Value} {m : Hp} {V G : Nat → Prop} {bs : List Bn} {gt : Nat} (h : Bo wB w hb M rt k n D m V G bs) (hk : ∀ g, g ≠ gt → w'.heap[g]? = w.heap[g]?) (hs : w'.heap.size = w.heap.size) (ho : w'.os = w.os ∧ w'.tape = w.tape ∧ w'.output = w.output) (hV : ¬ V gt) (hG : ¬ G gt) (h1 : gt ≠ hb ∧ gt ≠ M ∧ gt ≠ rt) (hB : wB.heap.size ≤ gt) : Bo wB w' hb M rt k n D m V G bs :=
  ⟨h.hp.keeps h.vb (hk _ (Ne.symm h1.1)) (hk _ (Ne.symm h1.2.1)) (fun g hg => hk g fun e => hV (e ▸ hg)), h.vb, h.rf.keeps (fun g hg => hk g fun e => hG (e ▸ hg)) (hk _ (Ne.symm h1.2.2)) (by omega), h.eq, h.up, h.nk, ⟨ho.1.trans h.bel.os, ho.2.1.trans h.bel.tape, ho.2.2.trans h.bel.output, by rw [hs]; exact h.bel.size, fun j hj => (hk j (by omega)).trans (h.bel.block j hj)⟩, fun g hg => ⟨by rw [hs]; exact (h.vlt g hg).1, (h.vlt g hg).2⟩, h.glt, h.low, h.len⟩
end Go.Proofs.YtojobiefambkoaaGreatDoor

namespace Go.Proofs.YtojobiefambkoaaGreatDoor
open Go.RowKit
theorem own_keeps {w w' : World} {B e s : Nat} {a : Option Addr} {n c : Nat} {xs : List Value} (h : w.ownsRow B e s (.slice a n c) n xs) (hk : ∀ g, bkA a = some g → w'.heap[g]? = w.heap[g]?) : w'.ownsRow B e s (.slice a n c) n xs := by
  refine ⟨h.1, ?_⟩
  rcases h.2 with hn | ⟨g, cap, cur, h1, h2, h3, h4⟩
  · exact .inl hn
  · refine .inr ⟨g, cap, cur, h1, h2, (hk g ?_).trans h3, h4⟩
    simp only [Value.slice.injEq] at h1
    rw [h1.1]; rfl
theorem vb_cut {w : World} {hb M n : Nat} {D : DataW Value} {m : Hp} {V : Nat → Prop} (h : HpAt w hb M n D m) (hm : ∀ x l, lookH m x = some l → l ≠ []) (hV : VB D V) : VB D (fun g => V g ∧ g < w.heap.size) := by
  intro x v hx hv g hg
  refine ⟨hV x v hx hv g hg, ?_⟩
  have hh := Maps.has_true_of_atKey hv
  cases e : lookH m x with
  | none => rw [h.no x hx e] at hh; cases hh
  | some l =>
    obtain ⟨v', k1, k2⟩ := h.yes x l hx e
    have e1 := (hv (.held (.bool true))).symm.trans (k1 (.held (.bool true)))
    cases e1
    exact k2.lt (hm x l e) hg
/-- In a round: both heaps, and a copy of the term between lo and hi. -/
structure Mi (wB : World) (hb M rt kk : Nat) (m : Hp) (G : Nat → Prop) (bs : List Bn) (lo hi : Nat) (l : List C) (ta : Option Addr) (tc : Nat) (u : World) : Prop where
  hp : ∃ n D V, HpAt u hb M n D m ∧ VB D V ∧ n ≤ kk ∧ ∀ g, V g → g < u.heap.size ∧ g ≠ rt ∧ g ≠ M ∧ wB.heap.size ≤ g ∧ (g < lo ∨ hi ≤ g)
  rf : RfH u G rt bs
  glt : ∀ g, G g → g ≠ hb ∧ g ≠ M ∧ wB.heap.size ≤ g ∧ (g < lo ∨ hi ≤ g)
  own : u.ownsRow lo 82 5 (.slice ta l.length tc) l.length (flat l)
  blk : ∀ g, bkA ta = some g → lo ≤ g ∧ g < hi
  hi : hi ≤ u.heap.size
  low : wB.heap.size ≤ hb ∧ wB.heap.size ≤ M ∧ wB.heap.size ≤ rt ∧ rt ≠ hb ∧ rt ≠ M ∧ hb < lo ∧ M < lo ∧ rt < lo ∧ wB.heap.size ≤ lo
  bel : Below wB.heap.size wB u
  len : ∀ x l, lookH m x = some l → l.length * 48 ≤ 140737488355328 ∧ l ≠ [] ∧ rightB l = true
  txt : l.length * 48 ≤ 140737488355328 ∧ ∀ c ∈ l, c.t.size ≤ maxLen
section
variable {wB u u' : World} {hb M rt kk lo hi : Nat} {m : Hp} {G : Nat → Prop} {bs : List Bn} {l : List C} {ta : Option Addr} {tc : Nat}
theorem Mi.below (h : Mi wB hb M rt kk m G bs lo hi l ta tc u) (hw : Below u.heap.size u u') : Mi wB hb M rt kk m G bs lo hi l ta tc u' := by
  obtain ⟨n, D, V, h1, h2, h3, h4⟩ := h.hp
  exact ⟨⟨n, D, V, h1.below hw, h2, h3, fun g hg => ⟨Nat.lt_of_lt_of_le (h4 g hg).1 hw.size, (h4 g hg).2⟩⟩, h.rf.below hw, h.glt, own_keeps h.own fun g hg => hw.block g (Nat.lt_of_lt_of_le (h.blk g hg).2 h.hi), h.blk, Nat.le_trans h.hi hw.size, h.low, h.bel.trans (hw.mono h.bel.size), h.len, h.txt⟩
theorem Mi.term (h : Mi wB hb M rt kk m G bs lo hi l ta tc u) : TermAt u (.slice ta l.length tc) l := ownT_term (base := lo) h.own (by have := h.txt.1; unfold maxLen; omega) h.txt.2
theorem len_bind {x : Nm} (h : ∀ x l, lookH m x = some l → l.length * 48 ≤ 140737488355328 ∧ l ≠ [] ∧ rightB l = true) (hl : l.length * 48 ≤ 140737488355328) : ∀ y l', lookH (bindH m x l) y = some l' → l'.length * 48 ≤ 140737488355328 ∧ l' ≠ [] ∧ rightB l' = true := fun y l' hy => by
  unfold bindH at hy
  split at hy
  · next e =>
    rw [look_ins m x y l (bind_zero e)] at hy
    split at hy
    · cases hy
      unfold bindE at e
      split at e
      · cases e
      · next e3 =>
        have hg : globalB l = true := by
          cases e4 : globalB l
          · exact absurd (.inr (.inr e4)) e3
          · rfl
        unfold globalB at hg
        simp only [Bool.and_eq_true] at hg
        refine ⟨hl, fun e2 => ?_, hg.2⟩
        have := (right_len hg.2).1
        rw [e2] at this
        simp at this
    · exact h y l' hy
  · exact h y l' hy
theorem mi_13 (x : Nm) (h : Mi wB hb M rt kk m G bs lo hi l ta tc u) (hx : wfN x) (hW : ∀ c ∈ l, wfN (c.vn, c.vk)) (hS : Signs wB) (hk : kk ≤ 4000000000000) :
    Calls Tryz.prog 28 #[.pointer (some ⟨hb, 0, none⟩), .agg #[.int .i64 x.1, .int .i64 x.2], .slice ta l.length tc] u fun e w' => e = .returned (.int .i64 (bindE m x l)) ∧ Mi wB hb M rt (kk + 1) (bindH m x l) G bs lo hi l ta tc w' := by
  obtain ⟨n, D, V, h1, h2, h3, h4⟩ := h.hp
  refine (h11 m hb M n D x l (.slice ta l.length tc) u h1 hx h.term hW (hS.below h.bel) (by have := h.txt.1; omega) (by unfold maxLen; omega)).mono ?_
  rintro e w' ⟨rfl, n', D', k1, k2, k3, k4⟩
  have hM : M < u.heap.size := by have := h.low; have := h.hi; have := h1.map.lt; omega
  have hlen := len_bind (x := x) h.len h.txt.1
  have ksz := k3.2.2.2.1
  refine ⟨rfl, ⟨n', D', _, k1, vb_cut k1 (fun x l hl => (hlen x l hl).2.1) (k4 V h2), by omega, fun g hg => ?_⟩, h.rf.keeps (fun g hg => k3.2.2.2.2 g (h.rf.lt g hg) (h.glt g hg).2.1) (k3.2.2.2.2 rt h.rf.rlt h.low.2.2.2.2.1) ksz, h.glt, own_keeps h.own fun g hg => k3.2.2.2.2 g (Nat.lt_of_lt_of_le (h.blk g hg).2 h.hi) (by have := h.blk g hg; have := h.low; omega), h.blk, Nat.le_trans h.hi ksz, h.low, h.bel.trans (k3.below h.low.2.1 h.bel.size), hlen, h.txt⟩
  obtain ⟨hg1 | hg1, hg2⟩ := hg
  · exact ⟨hg2, (h4 g hg1).2⟩
  · have := h.rf.rlt
    have := h.hi
    have := h.bel.size
    exact ⟨hg2, by omega, by omega, by omega, .inr (by omega)⟩
theorem mi_24 (x : Nm) (v : Value) (h : Mi wB hb M rt kk m G bs lo hi l ta tc u) (hT : TermAt u v l) (hn : bs.length ≤ 3518437208780) :
    Calls Tryz.prog 29 #[.pointer (some ⟨rt, 0, none⟩), .agg #[.int .i64 x.1, .int .i64 x.2], v] u fun e w' => e = .returned (.int .i64 (bindE (hpOf bs) x l)) ∧ ∃ G' bs', hpOf bs' = bindH (hpOf bs) x l ∧ bs'.length ≤ bs.length + 1 ∧ Mi wB hb M rt kk m G' bs' lo hi l ta tc w' := by
  obtain ⟨n, D, V, h1, h2, h3, h4⟩ := h.hp
  refine (i24 G rt bs x l v u h.rf hT (by have := h.txt.1; omega) hn).mono ?_
  rintro e w' ⟨rfl, bs', k1, k2, k3, k4⟩
  have hk : ∀ g, g < u.heap.size → g ≠ rt → w'.heap[g]? = u.heap[g]? := fun g h1 h2 => k4.block g h1 (by simpa using h2)
  have hhb : hb < u.heap.size := (Array.getElem?_eq_some_iff.1 h1.blk).1
  have ksz := k4.size
  refine ⟨rfl, _, bs', k1, k2, ⟨n, D, V, h1.keeps h2 (hk hb hhb (Ne.symm h.low.2.2.2.1)) (hk M h1.map.lt (Ne.symm h.low.2.2.2.2.1)) (fun g hg => hk g (h4 g hg).1 (h4 g hg).2.1), h2, h3, fun g hg => ⟨Nat.lt_of_lt_of_le (h4 g hg).1 ksz, (h4 g hg).2⟩⟩, k3, fun g hg => ?_, own_keeps h.own fun g hg => hk g (Nat.lt_of_lt_of_le (h.blk g hg).2 h.hi) (by have := h.blk g hg; have := h.low; omega), h.blk, Nat.le_trans h.hi ksz, h.low, h.bel.trans ⟨k4.os, k4.tape, k4.output, ksz, fun j hj => hk j (by have := h.bel.size; omega) (by have := h.low; omega)⟩, h.len, h.txt⟩
  rcases hg with hg | ⟨hg, _⟩
  · exact h.glt g hg
  · have := h.hi
    have := h.low
    have hM := h1.map.lt
    exact ⟨by omega, by omega, by omega, .inr (by omega)⟩
/-- The copy is written over. -/
structure Wt (wX wr : World) (ta : Option Addr) (n : Nat) : Prop where
  os : wr.os = wX.os ∧ wr.tape = wX.tape ∧ wr.output = wX.output
  size : wr.heap.size = wX.heap.size
  block : ∀ g, bkA ta ≠ some g → wr.heap[g]? = wX.heap[g]?
  row : n = 0 ∨ ∃ g cur, ta = some ⟨g, 0, none⟩ ∧ wr.heap[g]? = some (.cells cur 82 (0, 0)) ∧ n * 5 ≤ cur.size
theorem wt_of {w : World} {B : Nat} {n : Nat} {xs : List Value} (h : w.ownsRow B 82 5 (.slice ta n tc) n xs) : Wt w w ta n := by
  refine ⟨⟨rfl, rfl, rfl⟩, rfl, fun _ _ => rfl, ?_⟩
  rcases h.2 with ⟨_, e⟩ | ⟨g, cap, cur, e, h1, h2, h3, _, h4, _⟩
  · exact .inl e
  · simp only [Value.slice.injEq] at e
    exact .inr ⟨g, cur, e.1, h2, by rw [h4]; exact Nat.mul_le_mul_right 5 h3⟩
theorem Wt.at {wX wr : World} {n : Nat} (h : Wt wX wr ta n) {k : Nat} (hk : k < n) : ∃ g v, ta = some ⟨g, 0, none⟩ ∧ wr.cell? ⟨g, k * 5 + 2, none⟩ = some v ∧ wr.frozen? ⟨g, k * 5 + 2, none⟩ = false ∧ ∀ z, Wt wX (wr.setCell ⟨g, k * 5 + 2, none⟩ z) ta n := by
  rcases h.row with e | ⟨g, cur, e, h1, h2⟩
  · omega
  · have hj : k * 5 + 2 < cur.size := by omega
    refine ⟨g, cur[k * 5 + 2], e, ?_, frozen_of_row wr g _ _ 82 h1, fun z => ⟨h.os, by simpa using h.size, fun j hj => ?_, .inr ⟨g, _, e, heap_setCell_same wr g (k * 5 + 2) _ 82 z h1, by simpa using h2⟩⟩⟩
    · rw [cell_of_row wr g _ _ 82 (0, 0) h1, Array.getElem?_eq_getElem hj]
    · have hne : j ≠ g := fun e2 => hj (by rw [e, e2]; rfl)
      rw [heap_setCell_other wr ⟨g, k * 5 + 2, none⟩ j z hne]
      exact h.block j hj
theorem mi_end {wr : World} (h : Mi wB hb M rt kk m G bs lo hi l ta tc u) (hw : Wt u wr ta l.length) (he : hpOf bs = m) (hu : RisesH m) (hn : bs.length ≤ kk) : ∃ n D V G, Bo wB wr hb M rt kk n D m V G bs := by
  obtain ⟨n, D, V, h1, h2, h3, h4⟩ := h.hp
  have hlow := h.low
  have hk : ∀ g, (g < lo ∨ hi ≤ g) → wr.heap[g]? = u.heap[g]? := fun g hg => hw.block g fun e => by have := h.blk g e; omega
  have hsz := hw.size
  exact ⟨n, D, V, G, h1.keeps h2 (hk hb (.inl (by omega))) (hk M (.inl (by omega))) (fun g hg => hk g (h4 g hg).2.2.2.2), h2, h.rf.keeps (fun g hg => hk g (h.glt g hg).2.2.2) (hk rt (.inl (by omega))) (by omega), he, hu, ⟨h3, hn⟩, ⟨hw.os.1.trans h.bel.os, hw.os.2.1.trans h.bel.tape, hw.os.2.2.trans h.bel.output, by have := h.bel.size; omega, fun j hj => (hk j (.inl (by omega))).trans (h.bel.block j hj)⟩, fun g hg => ⟨by have := (h4 g hg).1; omega, (h4 g hg).2.1, (h4 g hg).2.2.1, (h4 g hg).2.2.2.1⟩, fun g hg => ⟨(h.glt g hg).1, (h.glt g hg).2.1, (h.glt g hg).2.2.1⟩, ⟨by omega, by omega, by omega, hlow.2.2.2.1, hlow.2.2.2.2.1⟩, h.len⟩
end
theorem mi_of {wB wr w2 : World} {hb M rt k n : Nat} {D : DataW Value} {m : Hp} {V G : Nat → Prop} {bs : List Bn} {l : List C} {ta : Option Addr} {tc : Nat} (h : Bo wB wr hb M rt k n D m V G bs) (ho : w2.ownsRow wr.heap.size 82 5 (.slice ta l.length tc) l.length (flat l)) (hg : Below wr.heap.size wr w2) (hl : l.length * 48 ≤ 140737488355328 ∧ ∀ c ∈ l, c.t.size ≤ maxLen) : Mi wB hb M rt k m G bs wr.heap.size w2.heap.size l ta tc w2 := by
  have h' := h.below hg
  obtain ⟨a, c, e, h1, _⟩ := own_sl ho
  simp only [Value.slice.injEq, true_and] at e
  obtain ⟨rfl, rfl⟩ := e
  have hhb : hb < wr.heap.size := (Array.getElem?_eq_some_iff.1 h.hp.blk).1
  have hM := h.hp.map.lt
  exact ⟨⟨n, D, V, h'.hp, h.vb, h.nk.1, fun g hg' => ⟨(h'.vlt g hg').1, (h.vlt g hg').2.1, (h.vlt g hg').2.2.1, (h.vlt g hg').2.2.2, .inl (h.vlt g hg').1⟩⟩, h'.rf, fun g hg' => ⟨(h.glt g hg').1, (h.glt g hg').2.1, (h.glt g hg').2.2, .inl (h.rf.lt g hg')⟩, ho, h1, Nat.le_refl _, ⟨h.low.1, h.low.2.1, h.low.2.2.1, h.low.2.2.2.1, h.low.2.2.2.2, hhb, hM, h.rf.rlt, h.bel.size⟩, h'.bel, h.len, hl⟩
end Go.Proofs.YtojobiefambkoaaGreatDoor

namespace Go.Proofs.YtojobiefambkoaaGreatDoor
open Go.RowKit
attribute [local go_sem ↓] Go.wp_at_zero Go.wp_at_succ
/-- Behind 'both'. -/
def BoTo (wB w : World) (hb M rt k : Nat) : Prop := ∃ n D m V G bs, Bo wB w hb M rt k n D m V G bs
end Go.Proofs.YtojobiefambkoaaGreatDoor

namespace Go.Proofs.YtojobiefambkoaaGreatDoor
open Go.RowKit
attribute [local go_sem ↓] Go.wp_at_zero Go.wp_at_succ
set_option maxRecDepth 100000 in
set_option maxHeartbeats 4000000 in
theorem i14 (m : Hp) (hb M n : Nat) (D : DataW Value) (x : Nm) (l : List C) (w : World) (hH : HpAt w hb M n D m) (hx : wfN x) (hl : lookH m x = some l) (hby : l.length * 48 ≤ 140737488355328) :
    Calls Tryz.prog 74 #[.pointer (some ⟨hb, 0, none⟩), .agg #[.int .i64 x.1, .int .i64 x.2]] w fun e w' => ∃ a c, e = .returned (.tuple #[.slice a l.length c, .bool true]) ∧ Hid (TermAt w' (.slice a l.length c) l ∧ Below w.heap.size w w') := by
  obtain ⟨W, hW⟩ : ∃ W, w.alloc (.cells #[.int .i64 x.1, .int .i64 x.2] 49) = W := ⟨_, rfl⟩
  obtain ⟨vb, hvb⟩ : ∃ vb, w.heap.size = vb := ⟨_, rfl⟩
  have hbW : Below w.heap.size w W := by rw [← hW]; exact (Below.refl _ w).alloc (Nat.le_refl _) _
  have hc : W.heap[vb]? = some (.cells #[.int .i64 x.1, .int .i64 x.2] 49 (0, 0)) := by rw [← hW, ← hvb]; exact heap_alloc_new w _
  obtain ⟨v0, v1⟩ := box_cells hc
  have hvl : vb < W.heap.size := (Array.getElem?_eq_some_iff.1 hc).1
  have H30 : Calls Tryz.prog 52 #[.pointer (some ⟨hb, 0, none⟩), .agg #[.int .i64 x.1, .int .i64 x.2]] W fun e w' => e = .returned (.bool true) ∧ Hid (Below W.heap.size W w') := by
    refine (h21 m hb M n D x W (hH.below hbW) hx).mono ?_
    rintro e w' ⟨rfl, hb'⟩
    exact ⟨by rw [hl]; rfl, hb'⟩
  have HH : Hid (∀ u, Below W.heap.size W u → u.cell? ⟨hb, 0, none⟩ = some (.map (some M)) ∧ u.cell? ⟨vb, 0, none⟩ = some (.int .i64 x.1) ∧ u.cell? ⟨vb, 1, none⟩ = some (.int .i64 x.2) ∧ ∃ uv, (Instr.lookup 92 (.map (some M)) (.agg #[.int .i64 x.1, .int .i64 x.2]) false).run Tryz.prog u.drew = .ok uv u.drew ∧ Calls Tryz.prog 55 #[uv] u.drew fun e w' => ∃ a c, e = .returned (.slice a l.length c) ∧ Hid (TermAt w' (.slice a l.length c) l ∧ Below w.heap.size w w')) := fun u hu => by
    have h1 := (hH.below hbW).below hu
    have h2 := box_cells ((hu.block vb hvl).trans hc)
    have hd : Below u.heap.size u u.drew := (Below.refl _ u).drew
    have hhas : Maps.has D (kLit x) = true := by
      obtain ⟨v, k1, _⟩ := hH.yes x l hx hl
      exact Maps.has_true_of_atKey k1
    obtain ⟨uv, l', k1, k2, k3⟩ := (h1.below hd).look1 x hx hhas
    rw [hl] at k2
    cases k2
    refine ⟨h1.cell, h2.1, h2.2, uv, k1, ?_⟩
    refine (h22 l uv u.drew k3 hby).mono ?_
    rintro e w' ⟨u', rfl, q1, _, q3⟩
    obtain ⟨a, c, e⟩ := q1.form
    subst e
    have hbu : Below w.heap.size w u.drew := (hbW.trans (hu.mono hbW.size)).drew
    exact ⟨a, c, rfl, q1, hbu.trans (q3.mono hbu.size)⟩
  clear hH hl hbW hc hvl hx hby
  obtain ⟨x1, x2⟩ := x
  simp only at *
  go_enter Tryz.func74, Tryz.ntmps74
  go_wp2_with fail
  refine H30.mono ?_
  rintro e w1 ⟨rfl, HB1⟩
  clear H30 v0 v1
  obtain ⟨q0, v0, v1, uv, hlk, H25⟩ := HH.out w1 HB1.out
  go_wp2_with fail
  go_region_with (go_at_call 55; refine H25.mono ?_; rintro e w3 ⟨a3, c3, rfl, H3⟩)
  all_goals (
    go_wp2_with fail
    refine bodyPost_ret (v := .tuple #[.slice a3 l.length c3, .bool true]) (by simp [results, Tryz.results74, go_sem]) rfl ⟨a3, c3, rfl, H3⟩)
end Go.Proofs.YtojobiefambkoaaGreatDoor
