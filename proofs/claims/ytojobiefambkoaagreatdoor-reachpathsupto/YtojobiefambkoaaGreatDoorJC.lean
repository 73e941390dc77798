/- Contract of Chain: a term, and all that it leads to. next, whose value is that which the heap holds. Contract of Chain: the walk. Values that were handed out may be written over; Value in memory of its own; the reference's SameBindings of like rows. Terms with all values in them, in plain lists: they are right. What a variable leads to, readable in the world ahead; a term with all values in it. Contracts of Resolve, of Value of a variable without a value, and of the statement that what is resolved is so for good. -/
import Derived.Test.YtojobiefambkoaaGreatDoorIH
import Derived.Test.YtojobiefambkoaaGreatDoorJB
namespace Go.Proofs.YtojobiefambkoaaGreatDoor
open Go.RowKit
attribute [local go_sem ↓] Go.wp_at_zero Go.wp_at_succ
theorem infoT : ∃ i, Tryz.prog.info? 64 = some i ∧ i.zero = some (.slice none 0 0) ∧ i.size = 1 ∧ i.bytes = 24 := by
  have h : (Tryz.prog.info? 64).map (fun i => (i.zero, i.size, i.bytes)) = some (some (.slice none 0 0), 1, 24) := by kernel_rfl
  cases hq : Tryz.prog.info? 64 with
  | none => rw [hq] at h; cases h
  | some i =>
    rw [hq] at h
    simp only [Option.map_some, Option.some.injEq, Prod.mk.injEq] at h
    exact ⟨i, rfl, h.1, h.2.1, h.2.2⟩
/-- Terms one behind the other, each the value of the one ahead. -/
def Links (m : Hp) : List (List C) → Prop
  | [] => True
  | [_] => True
  | a :: b :: r => nextH m a = some b ∧ Links m (b :: r)
def lastT : List (List C) → List C
  | [] => []
  | [a] => a
  | _ :: b :: r => lastT (b :: r)
theorem lastT_snoc (x : List C) : ∀ L : List (List C), lastT (L ++ [x]) = x
  | [] => rfl
  | [_] => rfl
  | _ :: b :: r => by
    have := lastT_snoc x (b :: r)
    simpa [lastT] using this
theorem links_snoc {m : Hp} {x : List C} : ∀ {L : List (List C)}, Links m L → L ≠ [] → nextH m (lastT L) = some x → Links m (L ++ [x])
  | [], _, h, _ => absurd rfl h
  | [a], _, _, h => ⟨h, trivial⟩
  | a :: b :: r, h, _, hx => ⟨h.1, links_snoc (L := b :: r) h.2 (by simp) hx⟩
def lenV : Value → Nat
  | .slice _ n _ => n
  | _ => 0
/-- A row of terms, each in memory of its own. -/
structure Tr (B : Nat) (u : World) (v : Value) (L : List (List C)) (vs : List Value) : Prop where
  own : u.ownsRow B 64 1 v L.length vs
  el : ∀ (i : Nat) (z : Value) (l : List C), vs[i]? = some z → L[i]? = some l → TermAt u z l ∧ z.oneCell' = true ∧ ∀ g, z.ownBlock = some g → B ≤ g ∧ ∃ cu : Array Value, u.heap[g]? = some (.cells cu 82 (0, 0))
  len : vs.length = L.length
theorem Tr.below {B : Nat} {u u' : World} {v : Value} {L : List (List C)} {vs : List Value} (h : Tr B u v L vs) (hb : Below u.heap.size u u') : Tr B u' v L vs :=
  ⟨owns_below' h.own hb, fun i z l hz hl => ⟨(h.el i z l hz hl).1.below hb, (h.el i z l hz hl).2.1, fun g hg => ⟨((h.el i z l hz hl).2.2 g hg).1, by
    obtain ⟨cu, hcu⟩ := ((h.el i z l hz hl).2.2 g hg).2
    exact ⟨cu, (hb.block g (Array.getElem?_eq_some_iff.1 hcu).1).trans hcu⟩⟩⟩, h.len⟩
/-- Behind an append of one more term. -/
theorem Tr.more {B : Nat} {u w' : World} {v v' : Value} {L : List (List C)} {vs : List Value} {z : Value} {l : List C} (h : Tr B u v L vs) (hz : TermAt u z l ∧ z.oneCell' = true ∧ ∀ g, z.ownBlock = some g → B ≤ g ∧ ∃ cu : Array Value, u.heap[g]? = some (.cells cu 82 (0, 0))) (ho : w'.ownsRow B 64 1 v' (L.length + 1) (vs ++ [z])) (hg : u.grownBy w' v.ownBlock) : Tr B w' v' (L ++ [l]) (vs ++ [z]) := by
  have keyB : ∀ g : Nat, (∃ cu : Array Value, u.heap[g]? = some (.cells cu 82 (0, 0))) → w'.heap[g]? = u.heap[g]? := fun g ⟨cu, hcu⟩ => by
    refine hg.block g (Array.getElem?_eq_some_iff.1 hcu).1 fun e2 => ?_
    rcases h.own.2 with ⟨e3, _⟩ | ⟨g3, cap, cur, e3, _, h3, _⟩
    · rw [e3] at e2; cases e2
    · rw [e3] at e2
      simp only [Value.ownBlock, Option.some.injEq] at e2
      subst e2
      rw [hcu] at h3
      cases h3
  have step : ∀ (z : Value) (l : List C), (TermAt u z l ∧ z.oneCell' = true ∧ ∀ g, z.ownBlock = some g → B ≤ g ∧ ∃ cu : Array Value, u.heap[g]? = some (.cells cu 82 (0, 0))) → (TermAt w' z l ∧ z.oneCell' = true ∧ ∀ g, z.ownBlock = some g → B ≤ g ∧ ∃ cu : Array Value, w'.heap[g]? = some (.cells cu 82 (0, 0))) := fun z l hz =>
    ⟨hz.1.keeps fun g hg' => keyB g (hz.2.2 g hg').2, hz.2.1, fun g hg' => ⟨(hz.2.2 g hg').1, by
      obtain ⟨cu, hcu⟩ := (hz.2.2 g hg').2
      exact ⟨cu, (keyB g ⟨cu, hcu⟩).trans hcu⟩⟩⟩
  refine ⟨by simpa using ho, fun i y k hy hk => ?_, by simp [h.len]⟩
  by_cases hi : i < vs.length
  · rw [List.getElem?_append_left hi] at hy
    rw [List.getElem?_append_left (by rw [← h.len]; exact hi)] at hk
    exact step y k (h.el i y k hy hk)
  · have e : i = vs.length := by
      have := (List.getElem?_eq_some_iff.1 hy).1
      simp at this
      omega
    subst e
    rw [List.getElem?_append_right (Nat.le_refl _)] at hy
    rw [h.len, List.getElem?_append_right (Nat.le_refl _)] at hk
    simp at hy hk
    subst hy hk
    exact step z l hz
/-- What Chain tells. -/
def ChTo (w : World) (m : Hp) (l : List C) (v : Value) (w' : World) : Prop := ∃ L vs, Tr w.heap.size w' v L vs ∧ Links m L ∧ L.head? = some l ∧ nextH m (lastT L) = none ∧ L.length ≤ m.length + 1 ∧ Below w.heap.size w w'
/-- In a round. -/
structure Ci (w : World) (m : Hp) (l : List C) (v z : Value) (ok : Bool) (wr : World) (L : List (List C)) (vs : List Value) : Prop where
  tr : Tr w.heap.size wr v L vs
  lk : Links m L
  hd : L.head? = some l
  ok : (nextH m (lastT L)).isSome = ok
  nx : ∀ l', nextH m (lastT L) = some l' → TermAt w z l' ∧ (∀ c ∈ l', wfN (c.vn, c.vk)) ∧ l'.length * 48 ≤ 140737488355328
  rk : rankH m (lastT L) + L.length ≤ m.length + 1
  bel : Below w.heap.size w wr
end Go.Proofs.YtojobiefambkoaaGreatDoor

namespace Go.Proofs.YtojobiefambkoaaGreatDoor
open Go.RowKit
attribute [local go_sem ↓] Go.wp_at_zero Go.wp_at_succ
theorem HpAt.look0 {w w0 : World} {hb M n : Nat} {D : DataW Value} {m : Hp} (h : HpAt w hb M n D m) (h0' : HpAt w0 hb M n D m) (x : Nm) (hx : wfN x) : ∃ u, (Instr.lookup 92 (.map (some M)) (.agg #[.int .i64 x.1, .int .i64 x.2]) true).run Tryz.prog w = .ok (.tuple #[u, .bool (lookH m x).isSome]) w ∧ (∃ a k c, u = .slice a k c) ∧ ∀ l, lookH m x = some l → TermAt w0 u l := by
  obtain ⟨u, ps, hrun, hR⟩ := h.map.look_ok keyed23 Tryz.underlying92 (zeroT w) (show heldElem (.slice none 0 0) = some (.held (.slice none 0 0), []) from rfl) (key23 x hx)
  have hu : DataW.held u = D.atKey (kLit x) (.held (.slice none 0 0)) := by
    have h1 : heldElem u = some (DataW.held u, []) := rfl
    rw [h1] at hR
    simp only [Option.some.injEq, Prod.mk.injEq] at hR
    exact hR.1
  cases hl : lookH m x with
  | none =>
    have h0 := h.no x hx hl
    rw [h0] at hrun
    rw [Maps.atKey_of_not_has h0] at hu
    cases hu
    exact ⟨_, hrun, ⟨_, _, _, rfl⟩, fun l e => by cases e⟩
  | some l =>
    obtain ⟨v, h1, h2⟩ := h0'.yes x l hx hl
    have h3 := Maps.has_true_of_atKey h1
    rw [h3] at hrun
    rw [h1] at hu
    cases hu
    refine ⟨_, hrun, ?_, fun l' e => by cases e; exact h2⟩
    obtain ⟨a, c, e⟩ := h2.form
    exact ⟨_, _, _, e⟩
end Go.Proofs.YtojobiefambkoaaGreatDoor

namespace Go.Proofs.YtojobiefambkoaaGreatDoor
open Go.RowKit
attribute [local go_sem ↓] Go.wp_at_zero Go.wp_at_succ
/-- A term in memory of its own, behind Clone. -/
def Cl (B : Nat) (u : World) (z : Value) (l : List C) : Prop := TermAt u z l ∧ z.oneCell' = true ∧ ∀ g, z.ownBlock = some g → B ≤ g ∧ ∃ cu : Array Value, u.heap[g]? = some (.cells cu 82 (0, 0))
theorem i25 (l : List C) (v : Value) (w : World) (h : TermAt w v l) (hby : l.length * 48 ≤ 140737488355328) : Calls Tryz.prog 55 #[v] w fun e w' => ∃ a c, e = .returned (.slice a l.length c) ∧ Hid (Cl w.heap.size w' (.slice a l.length c) l ∧ Below w.heap.size w w') := by
  refine (h22o l v w h hby).mono ?_
  rintro e w' ⟨u, rfl, h1, h2⟩
  obtain ⟨a, c, e, _⟩ := own_sl h1
  subst e
  refine ⟨a, c, rfl, ⟨ownT_term (base := w.heap.size) h1 h.1.1 h.1.2, rfl, fun g hg => ?_⟩, h2⟩
  rcases h1.2 with ⟨e, _⟩ | ⟨g', cap, cur, e, k1, k2, _⟩
  · rw [e] at hg; cases hg
  · rw [e] at hg
    simp only [Value.ownBlock, Option.some.injEq] at hg
    subst hg
    exact ⟨k1, cur, k2⟩
theorem Cl.below {B : Nat} {u u' : World} {z : Value} {l : List C} (h : Cl B u z l) (hb : Below u.heap.size u u') : Cl B u' z l :=
  ⟨h.1.below hb, h.2.1, fun g hg => ⟨(h.2.2 g hg).1, by
    obtain ⟨cu, hcu⟩ := (h.2.2 g hg).2
    exact ⟨cu, (hb.block g (Array.getElem?_eq_some_iff.1 hcu).1).trans hcu⟩⟩⟩
theorem Cl.low {B B' : Nat} {u : World} {z : Value} {l : List C} (h : Cl B' u z l) (hB : B ≤ B') : Cl B u z l := ⟨h.1, h.2.1, fun g hg => ⟨Nat.le_trans hB (h.2.2 g hg).1, (h.2.2 g hg).2⟩⟩
theorem next_wf {w : World} {hb M n : Nat} {D : DataW Value} {m : Hp} (h : HpAt w hb M n D m) {l l' : List C} (hn : nextH m l = some l') : (∀ c ∈ l', wfN (c.vn, c.vk)) ∧ ∃ x, lookH m x = some l' := by
  unfold nextH at hn
  split at hn
  · exact ⟨(h.wf _ _ hn).2, _, hn⟩
  · cases hn
end Go.Proofs.YtojobiefambkoaaGreatDoor

namespace Go.Proofs.YtojobiefambkoaaGreatDoor
open Go.RowKit
attribute [local go_sem ↓] Go.wp_at_zero Go.wp_at_succ
/-- A term whose cells may be written. -/
def Wv (B : Nat) (u : World) (a : Option Addr) (n : Nat) : Prop := n = 0 ∨ ∃ g o cur, a = some ⟨g, o, none⟩ ∧ B ≤ g ∧ u.heap[g]? = some (.cells cur 82 (0, 0)) ∧ o + n * 5 ≤ cur.size
theorem Wv.set {B : Nat} {u : World} {a : Option Addr} {n : Nat} (h : Wv B u a n) (b j : Nat) (v : Value) : Wv B (u.setCell ⟨b, j, none⟩ v) a n := by
  rcases h with e | ⟨g, o, cur, e, h0, h1, h2⟩
  · exact .inl e
  · by_cases hb : b = g
    · subst hb
      exact .inr ⟨b, o, _, e, h0, heap_setCell_same u b j _ _ v h1, by simpa using h2⟩
    · exact .inr ⟨g, o, cur, e, h0, by rw [heap_setCell_other u ⟨b, j, none⟩ g v (Ne.symm hb)]; exact h1, h2⟩
theorem Wv.below {B : Nat} {u u' : World} {a : Option Addr} {n : Nat} (h : Wv B u a n) (hb : Below u.heap.size u u') : Wv B u' a n := by
  rcases h with e | ⟨g, o, cur, e, h0, h1, h2⟩
  · exact .inl e
  · exact .inr ⟨g, o, cur, e, h0, (hb.block g (Array.getElem?_eq_some_iff.1 h1).1).trans h1, h2⟩
theorem Wv.at {B : Nat} {u : World} {a : Option Addr} {n : Nat} (h : Wv B u a n) {k : Nat} (hk : k < n) : ∃ g o v, a = some ⟨g, o, none⟩ ∧ B ≤ g ∧ (∃ cu : Array Value, u.heap[g]? = some (.cells cu 82 (0, 0))) ∧ u.cell? ⟨g, o + k * 5 + 2, none⟩ = some v ∧ u.frozen? ⟨g, o + k * 5 + 2, none⟩ = false := by
  rcases h with e | ⟨g, o, cur, e, h0, h1, h2⟩
  · omega
  · have hj : o + k * 5 + 2 < cur.size := by omega
    refine ⟨g, o, cur[o + k * 5 + 2], e, h0, ⟨cur, h1⟩, ?_, frozen_of_row u g _ _ _ h1⟩
    rw [cell_of_row u g _ _ _ (0, 0) h1, Array.getElem?_eq_getElem hj]
theorem flat_len : ∀ l : List C, (flat l).length = l.length * 5
  | [] => rfl
  | c :: r => by
    have := flat_len r
    simp only [flat, List.flatMap_cons, List.length_append, List.length_cons] at this ⊢
    rw [this]
    simp [C.vals]
    omega
theorem wv_of {B : Nat} {u : World} {a : Option Addr} {n c : Nat} {l : List C} (h : TermAt u (.slice a n c) l) (hg : ∀ g, (Value.slice a n c).ownBlock = some g → B ≤ g ∧ ∃ cu : Array Value, u.heap[g]? = some (.cells cu 82 (0, 0))) : Wv B u a n := by
  by_cases hn : n = 0
  · exact .inl hn
  obtain ⟨_, ⟨rfl, ad, e⟩ | ⟨b, o, cap, e, _, _, hr, hb⟩⟩ := h
  · cases e
    exact absurd rfl hn
  · simp only [Value.slice.injEq] at e
    obtain ⟨rfl, rfl, rfl⟩ := e
    obtain ⟨k1, cu, k2⟩ := hg b rfl
    refine .inr ⟨b, o, cu, rfl, k1, k2, ?_⟩
    have hl := flat_len l
    obtain ⟨z, hz⟩ : ∃ z, (flat l)[l.length * 5 - 1]? = some z := ⟨_, List.getElem?_eq_getElem (by omega)⟩
    have h2 := hr _ _ hz
    rw [cell_of_row u b _ _ _ (0, 0) k2] at h2
    have := (Array.getElem?_eq_some_iff.1 h2).1
    omega
set_option maxRecDepth 100000 in
set_option maxHeartbeats 4000000 in
theorem i14o (m : Hp) (hb M n : Nat) (D : DataW Value) (x : Nm) (l : List C) (w : World) (hH : HpAt w hb M n D m) (hx : wfN x) (hl : lookH m x = some l) (hby : l.length * 48 ≤ 140737488355328) :
    Calls Tryz.prog 74 #[.pointer (some ⟨hb, 0, none⟩), .agg #[.int .i64 x.1, .int .i64 x.2]] w fun e w' => ∃ a c, e = .returned (.tuple #[.slice a l.length c, .bool true]) ∧ Hid (Cl w.heap.size w' (.slice a l.length c) l ∧ Below w.heap.size w w') := by
  obtain ⟨W, hW⟩ : ∃ W, w.alloc (.cells #[.int .i64 x.1, .int .i64 x.2] 49) = W := ⟨_, rfl⟩
  obtain ⟨vb, hvb⟩ : ∃ vb, w.heap.size = vb := ⟨_, rfl⟩
  have hbW : Below w.heap.size w W := by rw [← hW]; exact (Below.refl _ w).alloc (Nat.le_refl _) _
  have hc : W.heap[vb]? = some (.cells #[.int .i64 x.1, .int .i64 x.2] 49 (0, 0)) := by rw [← hW, ← hvb]; exact heap_alloc_new w _
  obtain ⟨v0, v1⟩ := box_cells hc
  have hvl : vb < W.heap.size := (Array.getElem?_eq_some_iff.1 hc).1
  have H30 : Calls Tryz.prog 52 #[.pointer (some ⟨hb, 0, none⟩), .agg #[.int .i64 x.1, .int .i64 x.2]] W fun e w' => e = .returned (.bool true) ∧ Hid (Below W.heap.size W w') := by
    refine (h21 m hb M n D x W (hH.below hbW) hx).mono ?_
    rintro e w' ⟨rfl, hb'⟩
    exact ⟨by rw [hl]; rfl, hb'⟩
  have HH : Hid (∀ u, Below W.heap.size W u → u.cell? ⟨hb, 0, none⟩ = some (.map (some M)) ∧ u.cell? ⟨vb, 0, none⟩ = some (.int .i64 x.1) ∧ u.cell? ⟨vb, 1, none⟩ = some (.int .i64 x.2) ∧ ∃ uv, (Instr.lookup 92 (.map (some M)) (.agg #[.int .i64 x.1, .int .i64 x.2]) false).run Tryz.prog u.drew = .ok uv u.drew ∧ Calls Tryz.prog 55 #[uv] u.drew fun e w' => ∃ a c, e = .returned (.slice a l.length c) ∧ Hid (Cl w.heap.size w' (.slice a l.length c) l ∧ Below w.heap.size w w')) := fun u hu => by
    have h1 := (hH.below hbW).below hu
    have h2 := box_cells ((hu.block vb hvl).trans hc)
    have hd : Below u.heap.size u u.drew := (Below.refl _ u).drew
    have hhas : Maps.has D (kLit x) = true := by
      obtain ⟨v, k1, _⟩ := hH.yes x l hx hl
      exact Maps.has_true_of_atKey k1
    obtain ⟨uv, l', k1, k2, k3⟩ := (h1.below hd).look1 x hx hhas
    rw [hl] at k2
    cases k2
    refine ⟨h1.cell, h2.1, h2.2, uv, k1, ?_⟩
    refine (i25 l uv u.drew k3 hby).mono ?_
    rintro e w' ⟨a, c, rfl, q1, q3⟩
    have hbu : Below w.heap.size w u.drew := (hbW.trans (hu.mono hbW.size)).drew
    exact ⟨a, c, rfl, q1.low hbu.size, hbu.trans (q3.mono hbu.size)⟩
  clear hH hl hbW hc hvl hx hby
  obtain ⟨x1, x2⟩ := x
  simp only at *
  go_enter Tryz.func74, Tryz.ntmps74
  go_wp2_with fail
  refine H30.mono ?_
  rintro e w1 ⟨rfl, HB1⟩
  clear H30 v0 v1
  obtain ⟨q0, v0, v1, uv, hlk, H25⟩ := HH.out w1 HB1.out
  go_wp2_with fail
  go_region_with (go_at_call 55; refine H25.mono ?_; rintro e w3 ⟨a3, c3, rfl, H3⟩)
  all_goals (
    go_wp2_with fail
    refine bodyPost_ret (v := .tuple #[.slice a3 l.length c3, .bool true]) (by simp [results, Tryz.results74, go_sem]) rfl ⟨a3, c3, rfl, H3⟩)
end Go.Proofs.YtojobiefambkoaaGreatDoor

namespace Go.Proofs.YtojobiefambkoaaGreatDoor
open Go.RowKit
def argN (c : C) : Nat := (argsOf c.k c.n).toNat
/-- Are the cells just so many whole terms? -/
def compQ : List C → Nat → Bool
  | [], q => q == 0
  | _ :: _, 0 => false
  | c :: r, q + 1 => compQ r (q + argN c)
theorem compQ_le : ∀ {l : List C} {q : Nat}, compQ l q = true → q ≤ l.length
  | [], q, h => by
    have : q = 0 := by simpa [compQ] using h
    omega
  | _ :: _, 0, _ => by simp
  | c :: r, q + 1, h => by
    have := compQ_le (l := r) (q := q + argN c) h
    simp only [List.length_cons]
    omega
theorem compQ_zero {l : List C} (h : compQ l 0 = true) : l = [] := by
  cases l with
  | nil => rfl
  | cons c r => cases h
theorem argN_int (c : C) : (argN c : Int) = argsOf c.k c.n := by
  have := argsOf_nonneg c.k c.n
  unfold argN
  omega
theorem endF_of {len : Int} : ∀ (l : List C) (i : Int) (q : Nat), 0 ≤ i → i + (l.length : Int) ≤ len → 1 ≤ q → compQ l q = true → endF len l i q = i + (l.length : Int)
  | [], i, q, _, _, h1, h => by
    have : q = 0 := by simpa [compQ] using h
    omega
  | c :: r, i, q + 1, h0, hl, h1, h => by
    have h2 : compQ r (q + argN c) = true := h
    have h3 := compQ_le h2
    have h4 := argN_int c
    simp only [List.length_cons] at hl
    unfold endF
    rw [if_neg (by omega)]
    split
    · next e =>
      have e2 : q + argN c = 0 := by omega
      rw [e2] at h2
      rw [compQ_zero h2]
      simp
    · next e =>
      have e2 : ((q + 1 : Nat) : Int) + (argsOf c.k c.n - 1) = ((q + argN c : Nat) : Int) := by omega
      rw [e2, endF_of r (i + 1) (q + argN c) (by omega) (by omega) (by omega) h2]
      simp only [List.length_cons]
      omega
theorem comp_of {len : Int} : ∀ (l : List C) (i : Int) (q : Nat), 0 ≤ i → l ≠ [] → 1 ≤ q → endF len l i q = i + (l.length : Int) → compQ l q = true
  | [], _, _, _, h, _, _ => absurd rfl h
  | c :: r, i, 0, _, _, h1, _ => by omega
  | c :: r, i, q + 1, h0, _, _, h => by
    have h4 := argN_int c
    show compQ r (q + argN c) = true
    unfold endF at h
    simp only [List.length_cons] at h
    split at h
    · omega
    · split at h
      · next e =>
        have e2 : q + argN c = 0 := by omega
        have e3 : r = [] := List.eq_nil_of_length_eq_zero (by omega)
        rw [e2, e3]
        rfl
      · next e =>
        have e2 : ((q + 1 : Nat) : Int) + (argsOf c.k c.n - 1) = ((q + argN c : Nat) : Int) := by omega
        rw [e2] at h
        cases r with
        | nil =>
          unfold endF at h
          simp at h
          omega
        | cons d s => exact comp_of (d :: s) (i + 1) (q + argN c) (by omega) (by simp) (by omega) (by rw [h]; simp only [List.length_cons]; omega)
theorem right_iff (l : List C) : rightB l = true ↔ 1 ≤ l.length ∧ l.length ≤ 256 ∧ l.all C.ok = true ∧ compQ l 1 = true := by
  unfold rightB
  simp only [Bool.and_eq_true, decide_eq_true_eq, beq_iff_eq, cellsB]
  have key : 1 ≤ l.length → (endS l 0 = (l.length : Int) ↔ compQ l 1 = true) := fun h1 => by
    have e : endS l 0 = endF l.length l 0 1 := by
      unfold endS
      rw [if_neg (by omega)]
      simp
    rw [e]
    constructor
    · intro h
      exact comp_of l 0 1 (by omega) (fun e => by rw [e] at h1; simp at h1) (by omega) (by rw [show ((1 : Nat) : Int) = 1 by rfl, h]; omega)
    · intro h
      have := endF_of (len := l.length) l 0 1 (by omega) (by omega) (by omega) h
      rw [show ((1 : Nat) : Int) = 1 by rfl] at this
      rw [this]
      omega
  constructor
  · rintro ⟨⟨⟨h1, h2⟩, h3⟩, h4⟩
    exact ⟨by omega, by omega, h3, (key (by omega)).1 h4⟩
  · rintro ⟨h1, h2, h3, h4⟩
    exact ⟨⟨⟨by omega, by omega⟩, h3⟩, (key h1).2 h4⟩
theorem compQ_append : ∀ {a b : List C} {p q : Nat}, compQ a p = true → compQ b q = true → compQ (a ++ b) (p + q) = true
  | [], b, p, q, ha, hb => by
    have : p = 0 := by simpa [compQ] using ha
    subst this
    simpa using hb
  | c :: r, b, 0, q, ha, _ => by cases ha
  | c :: r, b, p + 1, q, ha, hb => by
    have h1 : compQ r (p + argN c) = true := ha
    have h2 := compQ_append h1 hb
    have e : p + 1 + q = (p + q) + 1 := by omega
    rw [e]
    show compQ (r ++ b) (p + q + argN c) = true
    rw [show p + q + argN c = p + argN c + q by omega]
    exact h2
/-- The cells with all values in them. -/
inductive Ex (m : Hp) : List C → List C → Prop
  | nil : Ex m [] []
  | one {c v : C} {r o : List C} (h : IsFol m [c] [v]) (k : Ex m r o) : Ex m (c :: r) (v :: o)
  | more {c : C} {l' x r o : List C} (h : IsFol m [c] l') (hl : l'.length ≠ 1) (hx : Ex m l' x) (k : Ex m r o) : Ex m (c :: r) (x ++ o)
theorem Ex.uniq {m : Hp} {l o o' : List C} (h : Ex m l o) (h' : Ex m l o') : o = o' := by
  induction h generalizing o' with
  | nil => cases h'; rfl
  | one h k ih =>
    cases h' with
    | one h2 k2 =>
      have := h.uniq h2
      simp only [List.cons.injEq, and_true] at this
      rw [this, ih k2]
    | more h2 hl hx k2 =>
      have := h.uniq h2
      subst this
      exact absurd rfl hl
  | more h hl hx k ihx ih =>
    cases h' with
    | one h2 k2 =>
      have := h.uniq h2
      subst this
      exact absurd rfl hl
    | more h2 hl2 hx2 k2 =>
      obtain rfl := h.uniq h2
      rw [ihx hx2, ih k2]
theorem Ex.append {m : Hp} {a b o p : List C} (h : Ex m a o) (k : Ex m b p) : Ex m (a ++ b) (o ++ p) := by
  induction h with
  | nil => exact k
  | one h _ ih => exact .one h ih
  | more h hl hx _ _ ih =>
    rw [List.append_assoc]
    exact .more h hl hx ih
theorem Ex.split {m : Hp} : ∀ {a b o : List C}, Ex m (a ++ b) o → ∃ p q, o = p ++ q ∧ Ex m a p ∧ Ex m b q
  | [], b, o, h => ⟨[], o, rfl, .nil, h⟩
  | c :: a, b, o, h => by
    cases h with
    | one h k =>
      obtain ⟨p, q, rfl, h1, h2⟩ := Ex.split k
      exact ⟨_ :: p, q, rfl, .one h h1, h2⟩
    | more h hl hx k =>
      obtain ⟨p, q, rfl, h1, h2⟩ := Ex.split k
      exact ⟨_ ++ p, q, by simp, .more h hl hx h1, h2⟩
/-- All values are right. -/
def RgH (m : Hp) : Prop := ∀ x l, lookH m x = some l → l ≠ [] ∧ rightB l = true
theorem fol_right {m : Hp} (hR : RgH m) {l l' : List C} (h : Fol m l l') : l' = l ∨ (isVarL l = true ∧ rightB l' = true) := by
  induction h with
  | here => exact .inl rfl
  | @step l l1 l2 h _ ih =>
    unfold nextH at h
    split at h
    · next hv =>
      have h2 := (hR _ _ h).2
      rcases ih with rfl | ⟨_, h3⟩
      · exact .inr ⟨hv, h2⟩
      · exact .inr ⟨hv, h3⟩
    · cases h
theorem var_arg {c : C} (h : isVarL [c] = true) : argN c = 0 := by
  have : c.k = 4 := by simpa [isVarL] using h
  simp [argN, argsOf, this]
theorem Ex.comp {m : Hp} (hR : RgH m) {l o : List C} (h : Ex m l o) : ∀ q, compQ l q = true → compQ o q = true := by
  induction h with
  | nil => exact fun q h => h
  | @one c v r o h k ih =>
    intro q hq
    cases q with
    | zero => cases hq
    | succ q =>
      have h1 : compQ r (q + argN c) = true := hq
      show compQ o (q + argN v) = true
      rcases fol_right hR h.1 with e | ⟨hv, hr⟩
      · simp only [List.cons.injEq, and_true] at e
        subst e
        exact ih _ h1
      · have e1 := var_arg hv
        have e2 : argN v = 0 := by
          have h3 := ((right_iff _).1 hr).2.2.2
          have h4 : compQ [] (0 + argN v) = true := h3
          simpa [compQ] using h4
        rw [e2]
        rw [e1] at h1
        exact ih _ h1
  | @more c l' x r o h hl hx k ihx ih =>
    intro q hq
    cases q with
    | zero => cases hq
    | succ q =>
      have h1 : compQ r (q + argN c) = true := hq
      rcases fol_right hR h.1 with e | ⟨hv, hr⟩
      · subst e
        exact absurd rfl hl
      · rw [var_arg hv] at h1
        have h3 := ihx 1 ((right_iff _).1 hr).2.2.2
        rw [show q + 1 = 1 + q by omega]
        exact compQ_append h3 (ih _ h1)
theorem Ex.ok {m : Hp} (hR : RgH m) {l o : List C} (h : Ex m l o) : l.all C.ok = true → o.all C.ok = true := by
  induction h with
  | nil => exact fun h => h
  | @one c v r o h k ih =>
    intro hq
    simp only [List.all_cons, Bool.and_eq_true] at hq ⊢
    refine ⟨?_, ih hq.2⟩
    rcases fol_right hR h.1 with e | ⟨_, hr⟩
    · simp only [List.cons.injEq, and_true] at e
      rw [e]
      exact hq.1
    · have := ((right_iff _).1 hr).2.2.1
      simpa using this
  | @more c l' x r o h hl hx k ihx ih =>
    intro hq
    simp only [List.all_cons, Bool.and_eq_true] at hq
    rw [List.all_append, Bool.and_eq_true]
    refine ⟨?_, ih hq.2⟩
    rcases fol_right hR h.1 with e | ⟨_, hr⟩
    · subst e
      exact absurd rfl hl
    · exact ihx ((right_iff _).1 hr).2.2.1
theorem Ex.len {m : Hp} (hR : RgH m) {l o : List C} (h : Ex m l o) : l.length ≤ o.length := by
  induction h with
  | nil => simp
  | one h k ih => simpa using ih
  | @more c l' x r o h hl hx k ihx ih =>
    have : 1 ≤ l'.length := by
      rcases fol_right hR h.1 with e | ⟨_, hr⟩
      · subst e
        simp
      · exact ((right_iff _).1 hr).1
    simp only [List.length_cons, List.length_append]
    omega
theorem Ex.done {m : Hp} {l o : List C} (h : Ex m l o) : ∀ c ∈ o, nextH m [c] = none := by
  induction h with
  | nil => intro c h; cases h
  | one h k ih =>
    intro c hc
    rcases List.mem_cons.1 hc with rfl | hc
    · exact h.2
    · exact ih c hc
  | more h hl hx k ihx ih =>
    intro c hc
    rcases List.mem_append.1 hc with hc | hc
    · exact ihx c hc
    · exact ih c hc
theorem ex_done {m : Hp} : ∀ {l : List C}, (∀ c ∈ l, nextH m [c] = none) → Ex m l l
  | [], _ => .nil
  | c :: r, h => .one ⟨.here _, h c (by simp)⟩ (ex_done fun d hd => h d (by simp [hd]))
theorem ex_right {m : Hp} (hR : RgH m) {l o : List C} (h : Ex m l o) (hl : rightB l = true) (ho : o.length ≤ 256) : rightB o = true := by
  obtain ⟨h1, h2, h3, h4⟩ := (right_iff l).1 hl
  exact (right_iff o).2 ⟨Nat.le_trans h1 (h.len hR), ho, h.ok hR h3, h.comp hR 1 h4⟩
end Go.Proofs.YtojobiefambkoaaGreatDoor

namespace Go.Proofs.YtojobiefambkoaaGreatDoor
open Go.RowKit
attribute [local go_sem ↓] Go.wp_at_zero Go.wp_at_succ
/-- A term that does not begin with a variable. -/
def Nv (t : List C) : Prop := ∃ c r, t = c :: r ∧ c.k ≠ 4
def FlC (F : Nat) (acc t : List C) : Prop := 256 < acc.length + F ∨ (256 < acc.length + F + 1 ∧ Nv t)
/-- Cells of one's own, behind so many. -/
structure FlO (w0 w : World) (fa : Option Addr) (fc : Nat) (acc : List C) : Prop where
  own : w.ownsRow w0.heap.size 82 5 (.slice fa acc.length fc) acc.length (flat acc)
  bel : Below w0.heap.size w0 w
  le : acc.length ≤ 256
  tx : ∀ c ∈ acc, c.t.size ≤ maxLen ∧ wfN (c.vn, c.vk)
theorem FlO.below {w0 w w' : World} {fa : Option Addr} {fc : Nat} {acc : List C} (h : FlO w0 w fa fc acc) (hb : Below w.heap.size w w') : FlO w0 w' fa fc acc := ⟨owns_below' h.own hb, h.bel.trans (hb.mono h.bel.size), h.le, h.tx⟩
/-- What fill tells. -/
def FlP (w0 : World) (m : Hp) (acc t : List C) (e : Ending) (w' : World) : Prop :=
  (e = .returned (.tuple #[.slice none 0 0, .bool false]) ∧ Below w0.heap.size w0 w' ∧ ∀ o, Ex m t o → 256 < acc.length + o.length) ∨
    ∃ (o : List C) (fa : Option Addr) (fc : Nat), e = .returned (.tuple #[.slice fa (acc ++ o).length fc, .bool true]) ∧ Ex m t o ∧ FlO w0 w' fa fc (acc ++ o)
theorem nv_fol {m : Hp} (hR : RgH m) {c : C} {l' : List C} (h : IsFol m [c] l') (hl : l'.length ≠ 1) : c.k = 4 ∧ Nv l' := by
  rcases fol_right hR h.1 with e | ⟨hv, hr⟩
  · subst e
    exact absurd rfl hl
  · refine ⟨by simpa [isVarL] using hv, ?_⟩
    cases l' with
    | nil => have := (right_len hr).1; simp at this
    | cons d r =>
      refine ⟨d, r, rfl, fun hd => hl ?_⟩
      rw [var_one hr hd]
      rfl
theorem take_ex {m : Hp} {t : List C} {k : Nat} (hk : k < t.length) {o x : List C} (h : Ex m (t.take k) o) (hx : Ex m [t[k]] x) : Ex m (t.take (k + 1)) (o ++ x) := by
  rw [List.take_succ_eq_append_getElem hk]
  exact h.append hx
theorem one_ex {m : Hp} {c v : C} (h : IsFol m [c] [v]) : Ex m [c] [v] := .one h .nil
theorem more_ex {m : Hp} {c : C} {l' x : List C} (h : IsFol m [c] l') (hl : l'.length ≠ 1) (hx : Ex m l' x) : Ex m [c] x := by
  have := Ex.more h hl hx Ex.nil
  simpa using this
theorem more_inv {m : Hp} {c : C} {l' y : List C} (h : Ex m [c] y) (hf : IsFol m [c] l') (hl : l'.length ≠ 1) : Ex m l' y := by
  cases h with
  | one h k =>
    have := h.uniq hf
    subst this
    exact absurd rfl hl
  | more h hl2 hx k =>
    obtain rfl := h.uniq hf
    cases k
    simpa using hx
/-- What is too long ahead of the end is so behind it. -/
theorem long_ex {m : Hp} {t : List C} {k : Nat} (hk : k < t.length) {acc o : List C} {n : Nat} (h : Ex m (t.take k) o) (hn : ∀ x, Ex m [t[k]] x → 256 < n + o.length + x.length) (ha : acc.length = n) : ∀ o', Ex m t o' → 256 < acc.length + o'.length := by
  intro o' ho
  have e : t = t.take k ++ ([t[k]] ++ t.drop (k + 1)) := by
    rw [← List.append_assoc, ← List.take_succ_eq_append_getElem hk, List.take_append_drop]
  rw [e] at ho
  obtain ⟨p, q, rfl, h1, h2⟩ := ho.split
  obtain ⟨q1, q2, rfl, h3, h4⟩ := h2.split
  have := h1.uniq h
  subst this
  have := hn q1 h3
  simp only [List.length_append]
  omega
/-- In a round. -/
structure FlS (w0 wr : World) (m : Hp) (F : Nat) (acc0 t : List C) (k : Nat) (fa : Option Addr) (fc : Nat) (acc : List C) : Prop where
  o : FlO w0 wr fa fc acc
  ex : ∃ o, acc = acc0 ++ o ∧ Ex m (t.take k) o
  fu : 256 < acc.length + F ∨ (256 < acc.length + F + 1 ∧ Nv t ∧ k = 0)
theorem fa_oneP {W : World} {c : C} : ∀ j u, (flat [c])[j]? = some u → (W.alloc (.cells #[.int .u8 c.k, .string c.t, .int .i64 c.n, .int .i64 c.vn, .int .i64 c.vk] 82)).cell? ((⟨W.heap.size, 0, none⟩ : Addr).add j) = some u := news_new W c
end Go.Proofs.YtojobiefambkoaaGreatDoor

namespace Go.Proofs.YtojobiefambkoaaGreatDoor
open Go.RowKit
attribute [local go_sem ↓] Go.wp_at_zero Go.wp_at_succ
set_option maxRecDepth 100000 in
set_option maxHeartbeats 4000000 in
theorem i14n (m : Hp) (hb M n : Nat) (D : DataW Value) (x : Nm) (w : World) (hH : HpAt w hb M n D m) (hx : wfN x) (hl : lookH m x = none) :
    Calls Tryz.prog 74 #[.pointer (some ⟨hb, 0, none⟩), .agg #[.int .i64 x.1, .int .i64 x.2]] w fun e w' => e = .returned (.tuple #[.slice none 0 0, .bool false]) ∧ Hid (Below w.heap.size w w') := by
  obtain ⟨W, hW⟩ : ∃ W, w.alloc (.cells #[.int .i64 x.1, .int .i64 x.2] 49) = W := ⟨_, rfl⟩
  obtain ⟨vb, hvb⟩ : ∃ vb, w.heap.size = vb := ⟨_, rfl⟩
  have hbW : Below w.heap.size w W := by rw [← hW]; exact (Below.refl _ w).alloc (Nat.le_refl _) _
  have hc : W.heap[vb]? = some (.cells #[.int .i64 x.1, .int .i64 x.2] 49 (0, 0)) := by rw [← hW, ← hvb]; exact heap_alloc_new w _
  obtain ⟨v0, v1⟩ := box_cells hc
  have H30 : Calls Tryz.prog 52 #[.pointer (some ⟨hb, 0, none⟩), .agg #[.int .i64 x.1, .int .i64 x.2]] W fun e w' => e = .returned (.bool false) ∧ Hid (Below w.heap.size w w') := by
    refine (h21 m hb M n D x W (hH.below hbW) hx).mono ?_
    rintro e w' ⟨rfl, hb'⟩
    exact ⟨by rw [hl]; rfl, hbW.trans (hb'.mono hbW.size)⟩
  clear hH hl hbW hc hx
  obtain ⟨x1, x2⟩ := x
  simp only at *
  go_enter Tryz.func74, Tryz.ntmps74
  go_wp2_with fail
  refine H30.mono ?_
  rintro e w1 ⟨rfl, HB1⟩
  clear H30 v0 v1
  go_wp2_with fail
  refine bodyPost_ret (v := .tuple #[.slice none 0 0, .bool false]) (by simp [results, Tryz.results74, go_sem]) rfl ⟨rfl, HB1⟩
/-- What Resolve tells. -/
def ResP (w : World) (m : Hp) (t : List C) (e : Ending) (w' : World) : Prop :=
  (∃ c : Int, c = (if rightB t = true then 5 else 6) ∧ e = .returned (.tuple #[.slice none 0 0, .int .i64 c]) ∧ Below w.heap.size w w' ∧ (rightB t = true → ∀ o, Ex m t o → 256 < o.length)) ∨
    ∃ (o : List C) (fa : Option Addr) (fc : Nat), e = .returned (.tuple #[.slice fa o.length fc, .int .i64 0]) ∧ Ex m t o ∧ rightB t = true ∧ FlO w w' fa fc o
theorem fold_sub (x : Nm) : ∀ (xs acc : List Nm), x ∈ xs.foldl addN acc → x ∈ acc ∨ x ∈ xs
  | [], acc, h => .inl h
  | y :: r, acc, h => by
    rcases fold_sub x r (addN acc y) h with h | h
    · unfold addN at h
      split at h
      · exact .inl h
      · rcases List.mem_append.1 h with h | h
        · exact .inl h
        · simp at h
          subst h
          exact .inr List.mem_cons_self
    · exact .inr (List.mem_cons_of_mem _ h)
theorem nub_look {m : Hp} {l o : List C} (h : Ex m l o) {x : Nm} (hx : x ∈ nubN (varsOf o)) : lookH m x = none ∧ ∃ c ∈ o, x = (c.vn, c.vk) := by
  rcases fold_sub x (varsOf o) [] hx with h0 | h1
  · cases h0
  · unfold varsOf at h1
    obtain ⟨c, hc, rfl⟩ := List.mem_map.1 h1
    obtain ⟨h2, h3⟩ := List.mem_filter.1 hc
    have h4 := h.done c h2
    unfold nextH at h4
    rw [if_pos (by simpa [isVarL] using h3)] at h4
    exact ⟨h4, c, h2, rfl⟩
theorem FlO.term {w0 w : World} {fa : Option Addr} {fc : Nat} {acc : List C} (h : FlO w0 w fa fc acc) : TermAt w (.slice fa acc.length fc) acc :=
  termAt_of_owns h.own (by have := h.le; unfold maxLen; omega) fun c hc => (h.tx c hc).1
end Go.Proofs.YtojobiefambkoaaGreatDoor
