/- Contract of 'both': values bound by the program and by the document. 'both': what a round does, step by step. Contract of Chain: a term, and all that it leads to. -/
import Derived.Test.YtljggjllijacjaaGreatDoorIDg
import Derived.Deep.Upon
namespace Go.Proofs.YtljggjllijacjaaGreatDoor
open Go.RowKit
attribute [local go_sem ↓] Go.wp_at_zero Go.wp_at_succ
theorem i24 (G : Nat → Prop) (rt : Nat) (bs : List Bn) (x : Nm) (l : List C) (v : Value) (w : World) (h : RfH w G rt bs) (hT : TermAt w v l) (hby : l.length * 48 ≤ 140737488355328) (hn : bs.length ≤ 3518437208780) :
  Calls Tryz.prog 35 #[.pointer (some ⟨rt, 0, none⟩), .agg #[.int .i64 x.1, .int .i64 x.2], v] w fun e w' => e = .returned (.int .i64 (bindE (hpOf bs) x l)) ∧ BindR w G rt bs x l w' := by
 by_cases he : x.1 < 0 ∨ oneT ⟨4, ⟨#[]⟩, 0, x.1, x.2⟩ = [] ∨ globalB l = false
 ·exact i24_six G rt bs x l v w h hT hby hn he
 ·cases h70 : hasB bs x
  ·cases hv : isVarL l
   ·exact i24_not G rt bs x l v w h hT hby hn he h70 hv
   ·cases hl : lessN (varL l) x
    ·exact i24_71 G rt bs x l v w h hT hby hn he h70 ⟨hv, hl⟩
    ·exact i24_var G rt bs x l v w h hT hby hn he h70 (fun _ => hl) hv
  ·exact i24_70 G rt bs x l v w h hT hby hn he h70
section
variable {P : Program}
theorem wpList_append_any (w : World) {ops : Array Oper} {rest : List Oper} {o : Oper} {a : Act} {Q : Exit → Act → World → Prop} (hgd : o.guard = none) (s x : Operand) (t : TypeId)
  (ho : o.op = .call { callee := .builtin .append, args := #[s, x], argTypes := #[t, t] })
  (base : Nat) (e : TypeId) (i : TypeInfo) (z : Value) (size bytes : Nat) (ht : P.underlying t = some (.slice e)) (hi : P.info? e = some i) (hz : i.zero = some z)
  (hsize : i.size = size) (hby : i.bytes = bytes) (hzs : z.cells.size = size) (hsz : 0 < size)
  (v : Value) (n : Nat) (xs : List Value) (hs : a.eval s = v) (hown : w.ownsRow base e size v n xs)
  (ax : Option Addr) (m c : Nat) (news : List Value) (hx : a.eval x = .slice ax m c) (hl : news.length = m * size) (hnews : m = 0 ∨ ∃ ad, ax = some ad ∧ ∀ j u, news[j]? = some u → w.cell? (ad.add j) = some u) (h1 : ∀ u ∈ news, u.oneCell' = true)
  (h63 : n + m ≤ maxLen) (hbytes : (n + m) * bytes ≤ 140737488355328) (hbase : base ≤ w.heap.size)
  (h : ∀ a' c' w', w'.ownsRow base e size (.slice a' (n + m) c') (n + m) (xs ++ news) → w.grownBy w' v.ownBlock → wpList P ops Q rest (a.put o.dst (.slice a' (n + m) c')) w') : wpList P ops Q (o :: rest) a w := by
 have form : ∀ {w : World} {v : Value} {k : Nat} {ys : List Value}, w.ownsRow base e size v k ys → ∃ a' c', v = .slice a' k c' := fun {w v k ys} h => by
  rcases h.2 with ⟨h1, h2⟩ | ⟨g, cap, cur, h1, _⟩
  ·exact ⟨none, 0, by rw [h1, h2]⟩
  ·exact ⟨_, _, h1⟩
 cases ax with
 | some ad =>
  refine wpList_append_own w hgd s x t ho base e i z size bytes ht hi hz hsize hby hzs hsz v n xs hs hown ad m c news hx hl ?_ h1 h63 hbytes hbase fun v' w' h2 h3 _ => ?_
  ·rcases hnews with e | ⟨ad', e, h2⟩
   ·intro j u hu
    have : news = [] := List.eq_nil_of_length_eq_zero (by rw [hl, e, Nat.zero_mul])
    rw [this] at hu; simp at hu
   ·cases e; exact h2
  ·obtain ⟨a', c', rfl⟩ := form h2
   exact h a' c' w' h2 h3
 | none =>
  have hm : m = 0 := by
   rcases hnews with e | ⟨ad', e, _⟩
   ·exact e
   ·cases e
  subst hm
  obtain rfl : news = [] := List.eq_nil_of_length_eq_zero (by rw [hl, Nat.zero_mul])
  obtain ⟨a', c', rfl⟩ := form hown
  have hle : n ≤ c' := by
   rcases hown.2 with ⟨h1, h2⟩ | ⟨g, cap, cur, h1, _, _, h4, _⟩
   ·cases h1; omega
   ·cases h1; exact h4
  have hrun := run_append_nothing w t t o.type e i ht hi a' n c' hle (.slice none 0 c) (Src.ofNil w ht c)
  refine wpList_plain hgd fun K hK => ?_
  unfold Oper.wp execOp
  simp only [ho, resolve, invoke, builtin, Sem.run_bind, Sem.run_pure, Result.andThen_ok, List.map_toArray, List.map_cons, List.map_nil, hs, hx, hrun]
  exact hK _ _ (h a' c' w (by simpa using hown) ⟨rfl, rfl, rfl, Nat.le_refl _, fun _ _ _ => rfl⟩)
end
theorem HpAt.keeps {w w' : World} {hb M n : Nat} {D : DataW Value} {m : Hp} {V : Nat → Prop} (h : HpAt w hb M n D m) (hV : VB D V) (h1 : w'.heap[hb]? = w.heap[hb]?) (h2 : w'.heap[M]? = w.heap[M]?) (h3 : ∀ g, V g → w'.heap[g]? = w.heap[g]?) : HpAt w' hb M n D m := by
 refine ⟨h1.trans h.blk, ?_, h.no, fun x l hx hl => ?_, h.desc, h.wf⟩
 ·obtain ⟨es, ck, k1, k2⟩ := h.map
  exact ⟨es, ck, h2.trans k1, k2⟩
 ·obtain ⟨v, k1, k2⟩ := h.yes x l hx hl
  exact ⟨v, k1, k2.keeps fun g hg => h3 g (hV x v hx k1 g hg)⟩
/-- Bindings that are handed in. -/
structure BdRow (w : World) (a : Option Addr) (n : Nat) (bs : List Bn) : Prop where
 row : Bs w a n bs
 el : ∀ b ∈ bs, TermAt w b.v b.l ∧ wfN b.x ∧ (∀ c ∈ b.l, wfN (c.vn, c.vk)) ∧ b.l.length * 48 ≤ 140737488355328
end Go.Proofs.YtljggjllijacjaaGreatDoor

namespace Go.Proofs.YtljggjllijacjaaGreatDoor
open Go.RowKit
theorem vb_cut {w : World} {hb M n : Nat} {D : DataW Value} {m : Hp} {V : Nat → Prop} (h : HpAt w hb M n D m) (hm : ∀ x l, lookH m x = some l → l ≠ []) (hV : VB D V) : VB D (fun g => V g ∧ g < w.heap.size) := by
 intro x v hx hv g hg
 refine ⟨hV x v hx hv g hg, ?_⟩
 have hh := Maps.has_true_of_atKey hv
 cases e : lookH m x with
 | none => rw [h.no x hx e] at hh; cases hh
 | some l =>
  obtain ⟨v', k1, k2⟩ := h.yes x l hx e
  have e1 := (hv (.held (.bool true))).symm.trans (k1 (.held (.bool true)))
  cases e1
  exact k2.lt (hm x l e) hg
section
variable {wB u u' : World} {hb M rt kk lo hi : Nat} {m : Hp} {G : Nat → Prop} {bs : List Bn} {l : List C} {ta : Option Addr} {tc : Nat}
theorem len_bind {x : Nm} (h : ∀ x l, lookH m x = some l → l.length * 48 ≤ 140737488355328 ∧ l ≠ [] ∧ rightB l = true) (hl : l.length * 48 ≤ 140737488355328) : ∀ y l', lookH (bindH m x l) y = some l' → l'.length * 48 ≤ 140737488355328 ∧ l' ≠ [] ∧ rightB l' = true := fun y l' hy => by
 unfold bindH at hy
 split at hy
 ·next e =>
  rw [look_ins m x y l (bind_zero e)] at hy
  split at hy
  ·cases hy
   unfold bindE at e
   split at e
   ·cases e
   ·next e3 =>
    have hg : globalB l = true := by
     cases e4 : globalB l
     ·exact absurd (.inr (.inr e4)) e3
     ·rfl
    unfold globalB at hg
    simp only [Bool.and_eq_true] at hg
    refine ⟨hl, fun e2 => ?_, hg.2⟩
    have := (right_len hg.2).1
    rw [e2] at this
    simp at this
  ·exact h y l' hy
 ·exact h y l' hy
end
end Go.Proofs.YtljggjllijacjaaGreatDoor

namespace Go.Proofs.YtljggjllijacjaaGreatDoor
open Go.RowKit
attribute [local go_sem ↓] Go.wp_at_zero Go.wp_at_succ
theorem infoT : ∃ i, Tryz.prog.info? 24 = some i ∧ i.zero = some (.slice none 0 0) ∧ i.size = 1 ∧ i.bytes = 24 := by
 have h : (Tryz.prog.info? 24).map (fun i => (i.zero, i.size, i.bytes)) = some (some (.slice none 0 0), 1, 24) := by kernel_rfl
 cases hq : Tryz.prog.info? 24 with
 | none => rw [hq] at h; cases h
 | some i =>
  rw [hq] at h
  simp only [Option.map_some, Option.some.injEq, Prod.mk.injEq] at h
  exact ⟨i, rfl, h.1, h.2.1, h.2.2⟩
/-- Terms one behind the other, each the value of the one ahead. -/
def Links (m : Hp) : List (List C) → Prop
 | [] => True
 | [_] => True
 | a :: b :: r => nextH m a = some b ∧ Links m (b :: r)
def lastT : List (List C) → List C
 | [] => []
 | [a] => a
 | _ :: b :: r => lastT (b :: r)
theorem lastT_snoc (x : List C) : ∀ L : List (List C), lastT (L ++ [x]) = x
 | [] => rfl
 | [_] => rfl
 | _ :: b :: r => by
  have := lastT_snoc x (b :: r)
  simpa [lastT] using this
theorem links_snoc {m : Hp} {x : List C} : ∀ {L : List (List C)}, Links m L → L ≠ [] → nextH m (lastT L) = some x → Links m (L ++ [x])
 | [], _, h, _ => absurd rfl h
 | [a], _, _, h => ⟨h, trivial⟩
 | a :: b :: r, h, _, hx => ⟨h.1, links_snoc (L := b :: r) h.2 (by simp) hx⟩
def lenV : Value → Nat
 | .slice _ n _ => n
 | _ => 0
end Go.Proofs.YtljggjllijacjaaGreatDoor
