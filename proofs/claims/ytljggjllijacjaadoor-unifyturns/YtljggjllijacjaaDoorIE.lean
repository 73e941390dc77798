/- Contract of 'both': values bound by the program and by the document. -/
import Derived.Test.YtljggjllijacjaaDoorID
import Derived.Deep.Upon
namespace Go.Proofs.YtljggjllijacjaaDoor
open Go.RowKit
attribute [local go_sem ↓] Go.wp_at_zero Go.wp_at_succ
theorem i24 (G : Nat → Prop) (rt : Nat) (bs : List Bn) (x : Nm) (l : List C) (v : Value) (w : World) (h : RfH w G rt bs) (hT : TermAt w v l) (hby : l.length * 48 ≤ 140737488355328) (hn : bs.length ≤ 3518437208780) :
    Calls Tryd.prog 34 #[.pointer (some ⟨rt, 0, none⟩), .agg #[.int .i64 x.1, .int .i64 x.2], v] w fun e w' => e = .returned (.int .i64 (bindE (hpOf bs) x l)) ∧ BindR w G rt bs x l w' := by
  by_cases he : x.1 < 0 ∨ oneT ⟨4, ⟨#[]⟩, 0, x.1, x.2⟩ = [] ∨ globalB l = false
  · exact i24_six G rt bs x l v w h hT hby hn he
  · cases h70 : hasB bs x
    · cases hv : isVarL l
      · exact i24_not G rt bs x l v w h hT hby hn he h70 hv
      · cases hl : lessN (varL l) x
        · exact i24_71 G rt bs x l v w h hT hby hn he h70 ⟨hv, hl⟩
        · exact i24_var G rt bs x l v w h hT hby hn he h70 (fun _ => hl) hv
    · exact i24_70 G rt bs x l v w h hT hby hn he h70
section
variable {P : Program}
theorem wpList_append_any (w : World) {ops : Array Oper} {rest : List Oper} {o : Oper} {a : Act} {Q : Exit → Act → World → Prop} (hgd : o.guard = none) (s x : Operand) (t : TypeId)
    (ho : o.op = .call { callee := .builtin .append, args := #[s, x], argTypes := #[t, t] })
    (base : Nat) (e : TypeId) (i : TypeInfo) (z : Value) (size bytes : Nat) (ht : P.underlying t = some (.slice e)) (hi : P.info? e = some i) (hz : i.zero = some z)
    (hsize : i.size = size) (hby : i.bytes = bytes) (hzs : z.cells.size = size) (hsz : 0 < size)
    (v : Value) (n : Nat) (xs : List Value) (hs : a.eval s = v) (hown : w.ownsRow base e size v n xs)
    (ax : Option Addr) (m c : Nat) (news : List Value) (hx : a.eval x = .slice ax m c) (hl : news.length = m * size) (hnews : m = 0 ∨ ∃ ad, ax = some ad ∧ ∀ j u, news[j]? = some u → w.cell? (ad.add j) = some u) (h1 : ∀ u ∈ news, u.oneCell' = true)
    (h63 : n + m ≤ maxLen) (hbytes : (n + m) * bytes ≤ 140737488355328) (hbase : base ≤ w.heap.size)
    (h : ∀ a' c' w', w'.ownsRow base e size (.slice a' (n + m) c') (n + m) (xs ++ news) → w.grownBy w' v.ownBlock → wpList P ops Q rest (a.put o.dst (.slice a' (n + m) c')) w') : wpList P ops Q (o :: rest) a w := by
  have form : ∀ {w : World} {v : Value} {k : Nat} {ys : List Value}, w.ownsRow base e size v k ys → ∃ a' c', v = .slice a' k c' := fun {w v k ys} h => by
    rcases h.2 with ⟨h1, h2⟩ | ⟨g, cap, cur, h1, _⟩
    · exact ⟨none, 0, by rw [h1, h2]⟩
    · exact ⟨_, _, h1⟩
  cases ax with
  | some ad =>
    refine wpList_append_own w hgd s x t ho base e i z size bytes ht hi hz hsize hby hzs hsz v n xs hs hown ad m c news hx hl ?_ h1 h63 hbytes hbase fun v' w' h2 h3 _ => ?_
    · rcases hnews with e | ⟨ad', e, h2⟩
      · intro j u hu
        have : news = [] := List.eq_nil_of_length_eq_zero (by rw [hl, e, Nat.zero_mul])
        rw [this] at hu; simp at hu
      · cases e; exact h2
    · obtain ⟨a', c', rfl⟩ := form h2
      exact h a' c' w' h2 h3
  | none =>
    have hm : m = 0 := by
      rcases hnews with e | ⟨ad', e, _⟩
      · exact e
      · cases e
    subst hm
    obtain rfl : news = [] := List.eq_nil_of_length_eq_zero (by rw [hl, Nat.zero_mul])
    obtain ⟨a', c', rfl⟩ := form hown
    have hle : n ≤ c' := by
      rcases hown.2 with ⟨h1, h2⟩ | ⟨g, cap, cur, h1, _, _, h4, _⟩
      · cases h1; omega
      · cases h1; exact h4
    have hrun := run_append_nothing w t t o.type e i ht hi a' n c' hle (.slice none 0 c) (Src.ofNil w ht c)
    refine wpList_plain hgd fun K hK => ?_
    unfold Oper.wp execOp
    simp only [ho, resolve, invoke, builtin, Sem.run_bind, Sem.run_pure, Result.andThen_ok, List.map_toArray, List.map_cons, List.map_nil, hs, hx, hrun]
    exact hK _ _ (h a' c' w (by simpa using hown) ⟨rfl, rfl, rfl, Nat.le_refl _, fun _ _ _ => rfl⟩)
end
theorem HpAt.keeps {w w' : World} {hb M n : Nat} {D : DataW Value} {m : Hp} {V : Nat → Prop} (h : HpAt w hb M n D m) (hV : VB D V) (h1 : w'.heap[hb]? = w.heap[hb]?) (h2 : w'.heap[M]? = w.heap[M]?) (h3 : ∀ g, V g → w'.heap[g]? = w.heap[g]?) : HpAt w' hb M n D m := by
  refine ⟨h1.trans h.blk, ?_, h.no, fun x l hx hl => ?_, h.desc, h.wf⟩
  · obtain ⟨es, ck, k1, k2⟩ := h.map
    exact ⟨es, ck, h2.trans k1, k2⟩
  · obtain ⟨v, k1, k2⟩ := h.yes x l hx hl
    exact ⟨v, k1, k2.keeps fun g hg => h3 g (hV x v hx k1 g hg)⟩
/-- Bindings that are handed in. -/
structure BdRow (w : World) (a : Option Addr) (n : Nat) (bs : List Bn) : Prop where
  row : Bs w a n bs
  el : ∀ b ∈ bs, TermAt w b.v b.l ∧ wfN b.x ∧ (∀ c ∈ b.l, wfN (c.vn, c.vk)) ∧ b.l.length * 48 ≤ 140737488355328
/-- Both heaps behind k bindings: the same values. -/
structure Bo (wB w : World) (hb M rt k : Nat) (n : Nat) (D : DataW Value) (m : Hp) (V G : Nat → Prop) (bs : List Bn) : Prop where
  hp : HpAt w hb M n D m
  vb : VB D V
  rf : RfH w G rt bs
  eq : hpOf bs = m
  up : RisesH m
  nk : n ≤ k ∧ bs.length ≤ k
  bel : Below wB.heap.size wB w
  vlt : ∀ g, V g → g < w.heap.size ∧ g ≠ rt ∧ g ≠ M ∧ wB.heap.size ≤ g
  glt : ∀ g, G g → g ≠ hb ∧ g ≠ M ∧ wB.heap.size ≤ g
  low : wB.heap.size ≤ hb ∧ wB.heap.size ≤ M ∧ wB.heap.size ≤ rt ∧ rt ≠ hb ∧ rt ≠ M
  len : ∀ x l, lookH m x = some l → l.length * 48 ≤ 140737488355328 ∧ l ≠ [] ∧ rightB l = true
theorem Bo.hbM {wB w : World} {hb M rt k n : Nat} {D : DataW Value} {m : Hp} {V G : Nat → Prop} {bs : List Bn} (h : Bo wB w hb M rt k n D m V G bs) : hb ≠ M := fun e => by
  have h1 := h.hp.blk
  obtain ⟨es, ck, h2, _⟩ := h.hp.map
  rw [e, h2] at h1
  cases h1
theorem Bo.below {wB w w' : World} {hb M rt k n : Nat} {D : DataW Value} {m : Hp} {V G : Nat → Prop} {bs : List Bn} (h : Bo wB w hb M rt k n D m V G bs) (hw : Below w.heap.size w w') : Bo wB w' hb M rt k n D m V G bs :=
  ⟨h.hp.below hw, h.vb, h.rf.below hw, h.eq, h.up, h.nk, h.bel.trans (hw.mono h.bel.size), fun g hg => ⟨Nat.lt_of_lt_of_le (h.vlt g hg).1 hw.size, (h.vlt g hg).2⟩, h.glt, h.low, h.len⟩
/-- One block is written. -/
theorem Bo.wrote {wB w w' : World} {hb M rt k n : Nat} {D : DataW Value} {m : Hp} {V G : Nat → Prop} {bs : List Bn} {gt : Nat} (h : Bo wB w hb M rt k n D m V G bs) (hk : ∀ g, g ≠ gt → w'.heap[g]? = w.heap[g]?) (hs : w'.heap.size = w.heap.size) (ho : w'.os = w.os ∧ w'.tape = w.tape ∧ w'.output = w.output) (hV : ¬ V gt) (hG : ¬ G gt) (h1 : gt ≠ hb ∧ gt ≠ M ∧ gt ≠ rt) (hB : wB.heap.size ≤ gt) : Bo wB w' hb M rt k n D m V G bs :=
  ⟨h.hp.keeps h.vb (hk _ (Ne.symm h1.1)) (hk _ (Ne.symm h1.2.1)) (fun g hg => hk g fun e => hV (e ▸ hg)), h.vb, h.rf.keeps (fun g hg => hk g fun e => hG (e ▸ hg)) (hk _ (Ne.symm h1.2.2)) (by omega), h.eq, h.up, h.nk, ⟨ho.1.trans h.bel.os, ho.2.1.trans h.bel.tape, ho.2.2.trans h.bel.output, by rw [hs]; exact h.bel.size, fun j hj => (hk j (by omega)).trans (h.bel.block j hj)⟩, fun g hg => ⟨by rw [hs]; exact (h.vlt g hg).1, (h.vlt g hg).2⟩, h.glt, h.low, h.len⟩
end Go.Proofs.YtljggjllijacjaaDoor
