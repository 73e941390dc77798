/- Rows of cells that are kept in a book: written over, grown, looked at; append onto a slice of one's own. Contract of aloneCells: rows of cells that lie apart are alone. Contracts of TakeCells, TakeTerm and of Alone, of a book that keeps cells. -/
import Derived.Test.YtljggjllijacjaaGreatDoorVAg
import Derived.Maps.AppendAt
import Derived.Maps.OwnRows
import Derived.Below
import Derived.OneCell
import Derived.Deep.MidRow
import Derived.WalkArith
import Derived.OwnWalk
namespace Go.Proofs.YtljggjllijacjaaGreatDoor.Bk
open Go.RowKit
theorem append_two {P : Program} (w : World) (base : Nat) (t ty e : TypeId) (i : TypeInfo) (z : Value) (size bytes : Nat) (ht : P.underlying t = some (.slice e)) (hi : P.info? e = some i) (hz : i.zero = some z)
  (hsize : i.size = size) (hby : i.bytes = bytes) (hzs : z.cells.size = size) (hsz : 0 < size)
  (v : Value) (n : Nat) (xs : List Value) (hown : w.ownsRow base e size v n xs)
  (a : Addr) (m c : Nat) (news : List Value) (hl : news.length = m * size) (hnews : ∀ j u, news[j]? = some u → w.cell? (a.add j) = some u) (h1 : ∀ u ∈ news, u.oneCell' = true)
  (h63 : n + m ≤ maxLen) (hbytes : (n + m) * bytes ≤ 140737488355328) (hbase : base ≤ w.heap.size) :
  ∃ v' w', (Builtin.append_ #[t, t] ty #[v, .slice (some a) m c]).run P w = .ok v' w' ∧ w'.ownsRow base e size v' (n + m) (xs ++ news) ∧ w.grownBy w' v.ownBlock ∧
   ((v'.ownBlock = v.ownBlock) ∨ (v'.ownBlock = some w.heap.size ∧ w.grownBy w' none)) := by
 obtain ⟨v', w', hr, h2, h3, _, h5⟩ := run_append_own_at (P := P) w base t ty e i z size bytes ht hi hz hsize hby hzs hsz v n xs hown a m c news hl hnews h1 h63 hbytes hbase
 refine ⟨v', w', hr, h2, h3, ?_⟩
 subst hsize hby
 rcases hown.2 with ⟨rfl, rfl⟩ | ⟨g, cap, cur, rfl, hbg, hg, hnc, hcm, hcs, htake⟩
 ·rcases h5 with h5 | h5
  ·exact .inl h5
  ·exact .inr ⟨h5, h3⟩
 ·by_cases hroom : n + m ≤ cap
  ·have hfit : n * i.size + news.length ≤ cur.size := by rw [hl, hcs, ← Nat.add_mul]; exact Nat.mul_le_mul_right _ hroom
   have hr2 := run_append_room (P := P) w t ty e i ht hi g n cap cur hg a m c news hl hnews h1 hroom hfit
   rw [hr] at hr2
   obtain ⟨e1, _⟩ : v' = _ ∧ w' = _ := by simpa using hr2
   left
   rw [e1]; rfl
  ·have holds : ∀ j u, xs[j]? = some u → w.cell? ((⟨g, 0, none⟩ : Addr).add j) = some u := hown.cells (g := g) rfl
   have hm63 : n + m ≤ 9223372036854775807 := by unfold maxLen at h63; omega
   have hr2 := run_append_grow (P := P) w t ty e i z ht hi hz ⟨g, 0, none⟩ n cap xs hown.1 holds a m c news hl hnews (by omega) (by omega) (growslice_fits (by omega) hbytes)
   rw [hr] at hr2
   obtain ⟨e1, e2⟩ : v' = _ ∧ w' = _ := by simpa using hr2
   right
   refine ⟨by rw [e1]; rfl, ?_⟩
   rw [e2]
   exact ⟨rfl, rfl, rfl, by simp, fun k hk _ => Below.heap_alloc w.drew _ k hk⟩
theorem wpList_append_two {P : Program} {w : World} {ops : Array Oper} {rest : List Oper} {o : Oper} {a : Act} {Q : Exit → Act → World → Prop} (hgd : o.guard = none) (s x : Operand) (t : TypeId)
  (ho : o.op = .call { callee := .builtin .append, args := #[s, x], argTypes := #[t, t] })
  (base : Nat) (e : TypeId) (i : TypeInfo) (z : Value) (size bytes : Nat) (ht : P.underlying t = some (.slice e)) (hi : P.info? e = some i) (hz : i.zero = some z)
  (hsize : i.size = size) (hby : i.bytes = bytes) (hzs : z.cells.size = size) (hsz : 0 < size)
  (v : Value) (n : Nat) (xs : List Value) (hs : a.eval s = v) (hown : w.ownsRow base e size v n xs)
  (ad : Addr) (m c : Nat) (news : List Value) (hx : a.eval x = .slice (some ad) m c) (hl : news.length = m * size) (hnews : ∀ j u, news[j]? = some u → w.cell? (ad.add j) = some u) (h1 : ∀ u ∈ news, u.oneCell' = true)
  (h63 : n + m ≤ maxLen) (hbytes : (n + m) * bytes ≤ 140737488355328) (hbase : base ≤ w.heap.size)
  (h : ∀ v' w', w'.ownsRow base e size v' (n + m) (xs ++ news) → w.grownBy w' v.ownBlock → ((v'.ownBlock = v.ownBlock) ∨ (v'.ownBlock = some w.heap.size ∧ w.grownBy w' none)) → wpList P ops Q rest (a.put o.dst v') w') :
  wpList P ops Q (o :: rest) a w := by
 refine wpList_plain hgd fun K hK => ?_
 obtain ⟨v', w', hr, h2, h3, h4⟩ := append_two (P := P) w base t o.type e i z size bytes ht hi hz hsize hby hzs hsz v n xs hown ad m c news hl hnews h1 h63 hbytes hbase
 unfold Oper.wp execOp
 simp only [ho, resolve, invoke, builtin, Sem.run_bind, Sem.run_pure, Result.andThen_ok, List.map_toArray, List.map_cons, List.map_nil, hs, hx, hr]
 exact hK _ _ (h v' w' h2 h3 h4)
def WfZ (_ : C) : Bool := true
/-- A row of one's own, of names. -/
def OwnZ (w : World) (B : Nat) (e : TypeId) (v : Value) (zs : List C) : Prop := w.ownsRow B e 5 v zs.length (flat zs) ∧ ∀ z ∈ zs, WfZ z = true
theorem owns_eq {w w' : World} {base : Nat} {e : TypeId} {s n : Nat} {v : Value} {xs : List Value} (h : w.ownsRow base e s v n xs) (hg : ∀ g, v.ownBlock = some g → w'.heap[g]? = w.heap[g]?) : w'.ownsRow base e s v n xs := by
 refine ⟨h.1, ?_⟩
 rcases h.2 with hh | ⟨g, cap, cur, e1, e2, e3, e4⟩
 ·exact .inl hh
 ·exact .inr ⟨g, cap, cur, e1, e2, (hg g (by rw [e1]; rfl)).trans e3, e4⟩
theorem ints_eq {w w' : World} {e : TypeId} {base : Nat} {v : Value} {zs : List C} (h : OwnZ w base e v zs) (hg : ∀ g, v.ownBlock = some g → w'.heap[g]? = w.heap[g]?) : OwnZ w' base e v zs := ⟨owns_eq h.1 hg, h.2⟩
/-- Rows of two element types do not share a block. -/
theorem types_apart {w : World} {base base' : Nat} {e e' : TypeId} {s s' n n' : Nat} {v v' : Value} {xs xs' : List Value} (h : w.ownsRow base e s v n xs) (h' : w.ownsRow base' e' s' v' n' xs') (hne : e ≠ e') (g : Nat) (hg : v.ownBlock = some g) : v'.ownBlock ≠ some g := by
 intro hg'
 rcases h.2 with ⟨h1, _⟩ | ⟨g1, c1, cur1, h1, _, h3, _⟩
 ·rw [h1] at hg; cases hg
 ·rcases h'.2 with ⟨k1, _⟩ | ⟨g2, c2, cur2, k1, _, k3, _⟩
  ·rw [k1] at hg'; cases hg'
  ·rw [h1] at hg
   rw [k1] at hg'
   simp only [Value.ownBlock, Option.some.injEq] at hg hg'
   subst hg hg'
   rw [h3] at k3
   simp only [Option.some.injEq, Obj.cells.injEq] at k3
   exact hne k3.2.1
theorem ints_form {w : World} {e : TypeId} {base : Nat} {v : Value} {zs : List C} (h : OwnZ w base e v zs) : ∃ ad cap, v = .slice ad zs.length cap := by
 rcases h.1.2 with ⟨h1, h2⟩ | ⟨g, c, cur, h1, _⟩
 ·exact ⟨none, 0, by rw [h1, h2]⟩
 ·exact ⟨_, _, h1⟩
theorem flat_cons (y : C) (ys : List C) : flat (y :: ys) = .int .u8 y.k :: .string y.t :: .int .i64 y.n :: .int .i64 y.vn :: .int .i64 y.vk :: flat ys := rfl
theorem flat_set (k : Nat) (x y : C) (ys : List C) : (((((flat (List.replicate k x ++ y :: ys)).set (k * 5) (.int .u8 x.k)).set (k * 5 + 1) (.string x.t)).set (k * 5 + 2) (.int .i64 x.n)).set (k * 5 + 3) (.int .i64 x.vn)).set (k * 5 + 4) (.int .i64 x.vk) = flat (List.replicate (k + 1) x ++ ys) := by
 have hl : (flat (List.replicate k x)).length = k * 5 := by rw [flat_length, List.length_replicate]; omega
 rw [flat_append, flat_cons, List.set_append_right _ _ (by omega), List.set_append_right _ _ (by omega), List.set_append_right _ _ (by omega), List.set_append_right _ _ (by omega), List.set_append_right _ _ (by omega), hl, List.replicate_succ', List.append_assoc, flat_append]
 simp [flat_cons]
/-- A cell of a row is written. -/
theorem ints_write {w : World} {e : TypeId} {base : Nat} {v : Value} {k : Nat} {x y : C} {ys : List C} (h : OwnZ w base e v (List.replicate k x ++ y :: ys)) :
  ∃ g cap, v = .slice (some ⟨g, 0, none⟩) (k + (ys.length + 1)) cap ∧ base ≤ g ∧ g < w.heap.size ∧ (w.cell? ⟨g, k * 5, none⟩ = some (.int .u8 y.k) ∧ w.cell? ⟨g, k * 5 + 1, none⟩ = some (.string y.t) ∧ w.cell? ⟨g, k * 5 + 2, none⟩ = some (.int .i64 y.n) ∧ w.cell? ⟨g, k * 5 + 3, none⟩ = some (.int .i64 y.vn) ∧ w.cell? ⟨g, k * 5 + 4, none⟩ = some (.int .i64 y.vk)) ∧ (∀ j, w.frozen? ⟨g, j, none⟩ = false) ∧ OwnZ (((((w.setCell ⟨g, k * 5, none⟩ (.int .u8 x.k)).setCell ⟨g, k * 5 + 1, none⟩ (.string x.t)).setCell ⟨g, k * 5 + 2, none⟩ (.int .i64 x.n)).setCell ⟨g, k * 5 + 3, none⟩ (.int .i64 x.vn)).setCell ⟨g, k * 5 + 4, none⟩ (.int .i64 x.vk)) base e v (List.replicate (k + 1) x ++ ys) := by
 rcases h.1.2 with ⟨_, h2⟩ | ⟨g, cap, cur, h1, h2, h3, h4, h5, h6, h7⟩
 ·simp at h2
 ·have hl : (List.replicate k x ++ y :: ys).length = k + (ys.length + 1) := by simp
  have hr := range_of_owns h3 h7
  have hc := term_cells hr k (by omega)
  simp only [Nat.zero_add] at hc
  have hy : (List.replicate k x ++ y :: ys)[k]'(by omega) = y := by
   rw [List.getElem_append_right (by simp)]; simp
  rw [hy] at hc
  rw [hl] at h1 h4
  refine ⟨g, cap, h1, h2, (Array.getElem?_eq_some_iff.1 h3).1, hc, fun j => frozen_of_row w g j cur e h3, ?_, fun _ _ => rfl⟩
  have s0 := heap_setCell_same w g (k * 5) cur e (.int .u8 x.k) h3
  have s1 := heap_setCell_same _ g (k * 5 + 1) _ e (.string x.t) s0
  have s2 := heap_setCell_same _ g (k * 5 + 2) _ e (.int .i64 x.n) s1
  have s3 := heap_setCell_same _ g (k * 5 + 3) _ e (.int .i64 x.vn) s2
  have s4 := heap_setCell_same _ g (k * 5 + 4) _ e (.int .i64 x.vk) s3
  have e1 : (List.replicate (k + 1) x ++ ys).length = k + (ys.length + 1) := by simp; omega
  refine ⟨by rw [flat_length]; omega, .inr ⟨g, cap, _, ?_, h2, s4, ?_, h5, by simp [h6], ?_⟩⟩
  ·rw [e1]; exact h1
  ·rw [e1]; exact h4
  ·rw [Array.toList_setIfInBounds, Array.toList_setIfInBounds, Array.toList_setIfInBounds, Array.toList_setIfInBounds, Array.toList_setIfInBounds, List.take_set, List.take_set, List.take_set, List.take_set, List.take_set, e1, ← hl, h7, flat_set]
/-- A row that reads as so many marks. -/
def RdI (w : World) (v : Value) (n : Nat) (x : C) : Prop := ∃ ad cap, v = .slice ad n cap ∧ (n = 0 ∨ ∃ g, ad = some ⟨g, 0, none⟩ ∧ g < w.heap.size ∧ w.rangeAt g 0 (flat (List.replicate n x)))
theorem RdI.at {w : World} {v : Value} {n : Nat} {x : C} (h : RdI w v n x) (k : Nat) (hk : k < n) : ∃ g cap, v = .slice (some ⟨g, 0, none⟩) n cap ∧ (w.cell? ⟨g, k * 5, none⟩ = some (.int .u8 x.k) ∧ w.cell? ⟨g, k * 5 + 1, none⟩ = some (.string x.t) ∧ w.cell? ⟨g, k * 5 + 2, none⟩ = some (.int .i64 x.n) ∧ w.cell? ⟨g, k * 5 + 3, none⟩ = some (.int .i64 x.vn) ∧ w.cell? ⟨g, k * 5 + 4, none⟩ = some (.int .i64 x.vk)) ∧ g < w.heap.size := by
 obtain ⟨ad, cap, rfl, h | ⟨g, rfl, h1, h2⟩⟩ := h
 ·omega
 ·have hc := term_cells h2 k (by rw [List.length_replicate]; exact hk)
  simp only [Nat.zero_add, List.getElem_replicate] at hc
  exact ⟨g, cap, rfl, hc, h1⟩
theorem RdI.form {w : World} {v : Value} {n : Nat} {x : C} (h : RdI w v n x) : ∃ ad cap, v = .slice ad n cap := by
 obtain ⟨ad, cap, rfl, _⟩ := h
 exact ⟨_, _, rfl⟩
theorem RdI.eq {w w' : World} {v : Value} {n : Nat} {x : C} (h : RdI w v n x) (hs : w.heap.size ≤ w'.heap.size) (hg : ∀ g, v.ownBlock = some g → w'.heap[g]? = w.heap[g]?) : RdI w' v n x := by
 obtain ⟨ad, cap, rfl, h | ⟨g, rfl, h1, h2⟩⟩ := h
 ·exact ⟨ad, cap, rfl, .inl h⟩
 ·refine ⟨_, cap, rfl, .inr ⟨g, rfl, by omega, fun j u hu => ?_⟩⟩
  have := h2 j u hu
  rwa [World.cell?_of_block (a := ⟨g, 0 + j, none⟩) (hg g rfl)]
theorem rd_of {w : World} {e : TypeId} {base : Nat} {v v0 : Value} {n m : Nat} {x : C} (h : OwnZ w base e v (List.replicate m x)) (hn : n ≤ m) (ad : Option Addr) (cap : Nat) (h0 : v0 = .slice ad n cap) (hb : n = 0 ∨ (∃ g, ad = some ⟨g, 0, none⟩ ∧ v.ownBlock = some g)) : RdI w v0 n x := by
 refine ⟨ad, cap, h0, ?_⟩
 rcases hb with hb | ⟨g, hg, hv⟩
 ·exact .inl hb
 ·right
  rcases h.1.2 with ⟨h1, _⟩ | ⟨g', c, cur, h1, h2, h3, h4, h5, h6, h7⟩
  ·rw [h1] at hv; cases hv
  ·rw [h1] at hv
   simp only [Value.ownBlock, Option.some.injEq] at hv
   subst hv
   refine ⟨g', hg, (Array.getElem?_eq_some_iff.1 h3).1, fun j u hu => ?_⟩
   refine range_of_owns h3 h7 j u ?_
   rw [show List.replicate m x = List.replicate n x ++ List.replicate (m - n) x by rw [List.replicate_append_replicate]; congr 1; omega, flat_append, List.getElem?_append_left (List.getElem?_eq_some_iff.1 hu).1]
   exact hu
abbrev nilV : Value := .slice none 0 0
abbrev BookAt (w : World) (b : Nat) (bk : Array Value) : Prop := w.heap[b]? = some (.cells bk 50 (0, 0))
/-- What lies below B stays, and every block that is no row of the type e. -/
structure KB (e : TypeId) (B : Nat) (w w' : World) : Prop where
 below : Below B w w'
 keep : ∀ k, k < w.heap.size → (∀ cu fr, w.heap[k]? ≠ some (.cells cu e fr)) → w'.heap[k]? = w.heap[k]?
theorem KB.refl (e : TypeId) (B : Nat) (w : World) : KB e B w w := ⟨Below.refl _ _, fun _ _ _ => rfl⟩
theorem KB.alloc {e : TypeId} {B : Nat} {w w' : World} (h : KB e B w w') (hB : B ≤ w'.heap.size) (o : Obj) : KB e B w (w'.alloc o) :=
 ⟨h.below.alloc hB o, fun k h1 h2 => (heap_alloc_old w' o (Nat.lt_of_lt_of_le h1 h.below.size)).trans (h.keep k h1 h2)⟩
theorem KB.set5 {e : TypeId} {B : Nat} {w w' : World} (h : KB e B w w') {g : Nat} (k0 k1 k2 k3 k4 : Nat) (v0 v1 v2 v3 v4 : Value) (hg : B ≤ g) (ht : ∃ cu fr, w'.heap[g]? = some (.cells cu e fr)) : KB e B w (((((w'.setCell ⟨g, k0, none⟩ v0).setCell ⟨g, k1, none⟩ v1).setCell ⟨g, k2, none⟩ v2).setCell ⟨g, k3, none⟩ v3).setCell ⟨g, k4, none⟩ v4) := by
 refine ⟨((((h.below.setCell (p := ⟨g, k0, none⟩) hg v0).setCell (p := ⟨g, k1, none⟩) hg v1).setCell (p := ⟨g, k2, none⟩) hg v2).setCell (p := ⟨g, k3, none⟩) hg v3).setCell (p := ⟨g, k4, none⟩) hg v4, fun j h1 h2 => ?_⟩
 have h3 := h.keep j h1 h2
 have hne : j ≠ g := by
  rintro rfl
  obtain ⟨cu, fr, e2⟩ := ht
  exact h2 cu fr (h3.symm.trans e2)
 exact (heap_setCell_other _ ⟨g, k4, none⟩ j v4 hne).trans ((heap_setCell_other _ ⟨g, k3, none⟩ j v3 hne).trans ((heap_setCell_other _ ⟨g, k2, none⟩ j v2 hne).trans ((heap_setCell_other _ ⟨g, k1, none⟩ j v1 hne).trans ((heap_setCell_other w' ⟨g, k0, none⟩ j v0 hne).trans h3))))
theorem KB.grown {e : TypeId} {B : Nat} {w w' w2 : World} {row : Option Nat} (h : KB e B w w') (hg : w'.grownBy w2 row) (hB : B ≤ w'.heap.size) (hr : ∀ g, row = some g → B ≤ g) (ht : ∀ g, row = some g → w.heap.size ≤ g ∨ ∃ cu fr, w'.heap[g]? = some (.cells cu e fr)) : KB e B w w2 := by
 refine ⟨h.below.grown hg hB hr, fun k h1 h2 => ?_⟩
 have h3 := h.keep k h1 h2
 refine (hg.block k (Nat.lt_of_lt_of_le h1 h.below.size) (fun e1 => ?_)).trans h3
 rcases ht k e1.symm with h4 | ⟨cu, fr, h4⟩
 ·omega
 ·exact h2 cu fr (h3.symm.trans h4)
theorem KB.then {e : TypeId} {B : Nat} {w w' w2 : World} (h : KB e B w w') (hB : B ≤ w'.heap.size) (hb : Below w'.heap.size w' w2) : KB e B w w2 :=
 ⟨h.below.trans (hb.mono hB), fun k h1 h2 => (hb.block k (Nat.lt_of_lt_of_le h1 h.below.size)).trans (h.keep k h1 h2)⟩
theorem owns_typed {w : World} {B : Nat} {e : TypeId} {s n : Nat} {v : Value} {xs : List Value} (h : w.ownsRow B e s v n xs) (g : Nat) (hg : v.ownBlock = some g) : ∃ cu fr, w.heap[g]? = some (.cells cu e fr) := by
 rcases h.2 with ⟨rfl, _⟩ | ⟨g', cap, cur, rfl, h2, h3, h4⟩
 ·simp [Value.ownBlock] at hg
 ·simp only [Value.ownBlock, Option.some.injEq] at hg
  subst hg
  exact ⟨cur, _, h3⟩
/-- The rows up to i are written over, of row i the first k numbers. -/
structure P1 (e se : TypeId) (mk : Nat → C) (bk : Array Value) (w : World) (B b : Nat) (iv : Value) (vs : List Value) (ns : List Nat) (i k : Nat) : Prop where
 ne : e ≠ se ∧ e ≠ 50 ∧ se ≠ 50
 book : BookAt w b bk
 hb : B ≤ b
 row : w.ownsRow B se 1 iv ns.length vs
 done : ∀ (j : Nat) (v : Value) (n : Nat), j < i → vs[j]? = some v → ns[j]? = some n → OwnZ w B e v (List.replicate n (mk j))
 mid : ∀ (v : Value) (n : Nat), vs[i]? = some v → ns[i]? = some n → ∃ ys : List C, k + ys.length = n ∧ OwnZ w B e v (List.replicate k (mk i) ++ ys)
 rest : ∀ (j : Nat) (v : Value) (n : Nat), i < j → vs[j]? = some v → ns[j]? = some n → ∃ zs : List C, zs.length = n ∧ OwnZ w B e v zs
 apart : ∀ (j j' : Nat) (v v' : Value) (g : Nat), j ≠ j' → vs[j]? = some v → vs[j']? = some v' → v.ownBlock = some g → v'.ownBlock ≠ some g
theorem book_apart {e : TypeId} {bk : Array Value} (hd : e ≠ 50) {w : World} {b base : Nat} {v : Value} {zs : List C} (hb : BookAt w b bk) (h : OwnZ w base e v zs) (g : Nat) (hg : v.ownBlock = some g) : g ≠ b := by
 rintro rfl
 rcases h.1.2 with ⟨h1, _⟩ | ⟨g', c, cur, h1, _, h3, _⟩
 ·rw [h1] at hg; cases hg
 ·rw [h1] at hg
  simp only [Value.ownBlock, Option.some.injEq] at hg
  subst hg
  rw [hb] at h3
  simp only [Option.some.injEq, Obj.cells.injEq] at h3
  exact hd h3.2.1.symm
theorem book_apartR {se : TypeId} {bk : Array Value} (hd : se ≠ 50) {w : World} {b base n : Nat} {v : Value} {xs : List Value} (hb : BookAt w b bk) (h : w.ownsRow base se 1 v n xs) (g : Nat) (hg : v.ownBlock = some g) : g ≠ b := by
 rintro rfl
 rcases h.2 with ⟨h1, _⟩ | ⟨g', c, cur, h1, _, h3, _⟩
 ·rw [h1] at hg; cases hg
 ·rw [h1] at hg
  simp only [Value.ownBlock, Option.some.injEq] at hg
  subst hg
  rw [hb] at h3
  simp only [Option.some.injEq, Obj.cells.injEq] at h3
  exact hd h3.2.1.symm
theorem P1.at {e se : TypeId} {mk : Nat → C} {bk : Array Value} {w : World} {B b : Nat} {iv : Value} {vs : List Value} {ns : List Nat} {i k : Nat} (h : P1 e se mk bk w B b iv vs ns i k) (j : Nat) (hj : j < ns.length) : ∃ g cap v, iv = .slice (some ⟨g, 0, none⟩) ns.length cap ∧ vs[j]? = some v ∧ w.cell? ⟨g, j, none⟩ = some v := by
 have hl : vs.length = ns.length := by have := h.row.1; omega
 rcases h.row.2 with ⟨_, h2⟩ | ⟨g, c, cur, h1, h2, h3, h4, h5, h6, h7⟩
 ·omega
 ·have hv : j < vs.length := by omega
  refine ⟨g, c, vs[j], h1, List.getElem?_eq_getElem hv, ?_⟩
  rw [cell_of_row w g j cur se (0, 0) h3]
  have : (cur.toList.take (ns.length * 1))[j]? = some vs[j] := by rw [h7]; exact List.getElem?_eq_getElem hv
  rw [List.getElem?_take_of_lt (by omega)] at this
  simpa using this
theorem P1.write {e se : TypeId} {mk : Nat → C} {bk : Array Value} {w : World} {B b : Nat} {iv : Value} {vs : List Value} {ns : List Nat} {i k n : Nat} {v : Value} (h : P1 e se mk bk w B b iv vs ns i k) (hv : vs[i]? = some v) (hn : ns[i]? = some n) (hk : k < n) :
  ∃ g cap, ∃ y : C, v = .slice (some ⟨g, 0, none⟩) n cap ∧ B ≤ g ∧ (w.cell? ⟨g, k * 5, none⟩ = some (.int .u8 y.k) ∧ w.cell? ⟨g, k * 5 + 1, none⟩ = some (.string y.t) ∧ w.cell? ⟨g, k * 5 + 2, none⟩ = some (.int .i64 y.n) ∧ w.cell? ⟨g, k * 5 + 3, none⟩ = some (.int .i64 y.vn) ∧ w.cell? ⟨g, k * 5 + 4, none⟩ = some (.int .i64 y.vk)) ∧ (∀ j, w.frozen? ⟨g, j, none⟩ = false) ∧ (∃ cu fr, w.heap[g]? = some (.cells cu e fr)) ∧ P1 e se mk bk (((((w.setCell ⟨g, k * 5, none⟩ (.int .u8 (mk i).k)).setCell ⟨g, k * 5 + 1, none⟩ (.string (mk i).t)).setCell ⟨g, k * 5 + 2, none⟩ (.int .i64 (mk i).n)).setCell ⟨g, k * 5 + 3, none⟩ (.int .i64 (mk i).vn)).setCell ⟨g, k * 5 + 4, none⟩ (.int .i64 (mk i).vk)) B b iv vs ns i (k + 1) := by
 obtain ⟨ys, h1, h2⟩ := h.mid v n hv hn
 match ys, h1, h2 with
 | [], h1, _ => simp at h1; omega
 | y :: ys, h1, h2 =>
  obtain ⟨g, cap, e1, e2, e3, e4, e5, e6⟩ := ints_write h2
  simp only [List.length_cons] at h1
  rw [h1] at e1
  have hvg : v.ownBlock = some g := by rw [e1]; rfl
  have hot : ∀ g', g' ≠ g → (((((w.setCell ⟨g, k * 5, none⟩ (.int .u8 (mk i).k)).setCell ⟨g, k * 5 + 1, none⟩ (.string (mk i).t)).setCell ⟨g, k * 5 + 2, none⟩ (.int .i64 (mk i).n)).setCell ⟨g, k * 5 + 3, none⟩ (.int .i64 (mk i).vn)).setCell ⟨g, k * 5 + 4, none⟩ (.int .i64 (mk i).vk)).heap[g']? = w.heap[g']? := fun g' h => (heap_setCell_other _ ⟨g, k * 5 + 4, none⟩ g' _ h).trans ((heap_setCell_other _ ⟨g, k * 5 + 3, none⟩ g' _ h).trans ((heap_setCell_other _ ⟨g, k * 5 + 2, none⟩ g' _ h).trans ((heap_setCell_other _ ⟨g, k * 5 + 1, none⟩ g' _ h).trans (heap_setCell_other w ⟨g, k * 5, none⟩ g' _ h))))
  have hoth : ∀ {base e' s m : Nat} {r : Value} {xs : List Value}, w.ownsRow base e' s r m xs → r.ownBlock ≠ some g → (((((w.setCell ⟨g, k * 5, none⟩ (.int .u8 (mk i).k)).setCell ⟨g, k * 5 + 1, none⟩ (.string (mk i).t)).setCell ⟨g, k * 5 + 2, none⟩ (.int .i64 (mk i).n)).setCell ⟨g, k * 5 + 3, none⟩ (.int .i64 (mk i).vn)).setCell ⟨g, k * 5 + 4, none⟩ (.int .i64 (mk i).vk)).ownsRow base e' s r m xs := fun ho hne =>
   owns_eq ho fun g' hg' => hot g' (fun e => hne (by rw [hg']; exact congrArg some e))
  refine ⟨g, cap, y, e1, e2, e4, e5, owns_typed h2.1 g hvg, ?_⟩
  refine ⟨h.ne, ?_, h.hb, ?_, ?_, ?_, ?_, h.apart⟩
  ·exact (hot b (fun e => book_apart h.ne.2.1 h.book h2 g hvg e.symm)).trans h.book
  ·exact hoth h.row (types_apart h2.1 h.row h.ne.1 g hvg)
  ·intro j v' n' hj hv' hn'
   have h5 := h.done j v' n' hj hv' hn'
   exact ⟨hoth h5.1 (h.apart i j v v' g (by omega) hv hv' hvg), h5.2⟩
  ·intro v' n' hv' hn'
   rw [hv] at hv'; cases hv'
   rw [hn] at hn'; cases hn'
   exact ⟨ys, by omega, e6⟩
  ·intro j v' n' hj hv' hn'
   obtain ⟨zs, h5, h6⟩ := h.rest j v' n' hj hv' hn'
   exact ⟨zs, h5, hoth h6.1 (h.apart i j v v' g (by omega) hv hv' hvg), h6.2⟩
theorem P1.next {e se : TypeId} {mk : Nat → C} {bk : Array Value} {w : World} {B b : Nat} {iv : Value} {vs : List Value} {ns : List Nat} {i n : Nat} (h : P1 e se mk bk w B b iv vs ns i n) (hn : ns[i]? = some n) : P1 e se mk bk w B b iv vs ns (i + 1) 0 := by
 refine ⟨h.ne, h.book, h.hb, h.row, ?_, ?_, ?_, h.apart⟩
 ·intro j v m hj hv hm
  by_cases e : j = i
  ·subst e
   rw [hn] at hm; cases hm
   obtain ⟨ys, h1, h2⟩ := h.mid v n hv hn
   have : ys = [] := List.eq_nil_of_length_eq_zero (by omega)
   subst this
   simpa using h2
  ·exact h.done j v m (by omega) hv hm
 ·intro v m hv hm
  obtain ⟨zs, h1, h2⟩ := h.rest (i + 1) v m (by omega) hv hm
  exact ⟨zs, by omega, by simpa using h2⟩
 ·intro j v m hj hv hm
  exact h.rest j v m (by omega) hv hm
/-- The rows up to i are grown. -/
structure P2 (e se : TypeId) (mk : Nat → C) (bk : Array Value) (w0 w : World) (B b : Nat) (iv allv : Value) (vs us : List Value) (ns : List Nat) (i : Nat) : Prop where
 ne : e ≠ se ∧ e ≠ 50 ∧ se ≠ 50
 book : BookAt w b bk
 hb : B ≤ b
 row : w.ownsRow B se 1 iv ns.length vs
 size : w0.heap.size ≤ w.heap.size
 all : w.ownsRow w0.heap.size se 1 allv i us
 grown : ∀ (j : Nat) (u : Value) (n : Nat), us[j]? = some u → ns[j]? = some n → OwnZ w B e u (List.replicate (n + 20) (mk j))
 upart : ∀ (j j' : Nat) (u u' : Value) (g : Nat), j ≠ j' → us[j]? = some u → us[j']? = some u' → u.ownBlock = some g → u'.ownBlock ≠ some g
 loc : ∀ (j : Nat) (u v : Value) (g : Nat), us[j]? = some u → vs[j]? = some v → u.ownBlock = some g → v.ownBlock = some g ∨ w0.heap.size ≤ g
 read : ∀ (j : Nat) (v : Value) (n : Nat), j < i → vs[j]? = some v → ns[j]? = some n → RdI w v n (mk j)
 rest : ∀ (j : Nat) (v : Value) (n : Nat), i ≤ j → vs[j]? = some v → ns[j]? = some n → OwnZ w B e v (List.replicate n (mk j))
 apart : ∀ (j j' : Nat) (v v' : Value) (g : Nat), j ≠ j' → vs[j]? = some v → vs[j']? = some v' → v.ownBlock = some g → v'.ownBlock ≠ some g
 low : ∀ (j : Nat) (v : Value) (g : Nat), vs[j]? = some v → v.ownBlock = some g → g < w0.heap.size
 ilow : ∀ g, iv.ownBlock = some g → g < w0.heap.size
/-- .. and row i by k places: gv. -/
structure P3 (e se : TypeId) (mk : Nat → C) (bk : Array Value) (w0 w : World) (B b : Nat) (iv allv gv v : Value) (vs us : List Value) (ns : List Nat) (i n k : Nat) : Prop where
 ne : e ≠ se ∧ e ≠ 50 ∧ se ≠ 50
 book : BookAt w b bk
 hb : B ≤ b
 row : w.ownsRow B se 1 iv ns.length vs
 size : w0.heap.size ≤ w.heap.size
 all : w.ownsRow w0.heap.size se 1 allv i us
 grown : ∀ (j : Nat) (u : Value) (n : Nat), us[j]? = some u → ns[j]? = some n → OwnZ w B e u (List.replicate (n + 20) (mk j))
 upart : ∀ (j j' : Nat) (u u' : Value) (g : Nat), j ≠ j' → us[j]? = some u → us[j']? = some u' → u.ownBlock = some g → u'.ownBlock ≠ some g
 loc : ∀ (j : Nat) (u v : Value) (g : Nat), us[j]? = some u → vs[j]? = some v → u.ownBlock = some g → v.ownBlock = some g ∨ w0.heap.size ≤ g
 read : ∀ (j : Nat) (v : Value) (n : Nat), j < i → vs[j]? = some v → ns[j]? = some n → RdI w v n (mk j)
 rest : ∀ (j : Nat) (v : Value) (n : Nat), i < j → vs[j]? = some v → ns[j]? = some n → OwnZ w B e v (List.replicate n (mk j))
 apart : ∀ (j j' : Nat) (v v' : Value) (g : Nat), j ≠ j' → vs[j]? = some v → vs[j']? = some v' → v.ownBlock = some g → v'.ownBlock ≠ some g
 low : ∀ (j : Nat) (v : Value) (g : Nat), vs[j]? = some v → v.ownBlock = some g → g < w0.heap.size
 ilow : ∀ g, iv.ownBlock = some g → g < w0.heap.size
 hv : vs[i]? = some v
 hn : ns[i]? = some n
 own : OwnZ w B e gv (List.replicate (n + k) (mk i))
 gloc : ∀ g, gv.ownBlock = some g → v.ownBlock = some g ∨ w0.heap.size ≤ g
 gpart : ∀ (j : Nat) (u : Value) (g : Nat), us[j]? = some u → gv.ownBlock = some g → u.ownBlock ≠ some g
 mid : RdI w v n (mk i)
theorem P1.to2 {e se : TypeId} {mk : Nat → C} {bk : Array Value} {w : World} {B b : Nat} {iv : Value} {vs : List Value} {ns : List Nat} (h : P1 e se mk bk w B b iv vs ns ns.length 0) : P2 e se mk bk w w B b iv nilV vs [] ns 0 := by
 have hl : vs.length = ns.length := by have := h.row.1; omega
 have hall : ∀ (j : Nat) (v : Value) (n : Nat), vs[j]? = some v → ns[j]? = some n → OwnZ w B e v (List.replicate n (mk j)) := fun j v n hv hn => h.done j v n (List.getElem?_eq_some_iff.1 hn).1 hv hn
 refine ⟨h.ne, h.book, h.hb, h.row, Nat.le_refl _, World.ownsRow_nil _ _ _ _, by simp, by simp, by simp, fun j v n hj => by omega, fun j v n _ hv hn => hall j v n hv hn, h.apart, ?_, fun g hg => (h.row.lt g hg).2⟩
 intro j v g hv hg
 have hj : j < ns.length := by rw [← hl]; exact (List.getElem?_eq_some_iff.1 hv).1
 exact ((hall j v _ hv (List.getElem?_eq_getElem hj)).1.lt g hg).2
theorem P2.start {e se : TypeId} {mk : Nat → C} {bk : Array Value} {w0 w : World} {B b : Nat} {iv allv : Value} {vs us : List Value} {ns : List Nat} {i n : Nat} {v : Value} (h : P2 e se mk bk w0 w B b iv allv vs us ns i) (hv : vs[i]? = some v) (hn : ns[i]? = some n) : P3 e se mk bk w0 w B b iv allv v v vs us ns i n 0 := by
 have hu : us.length = i := by have := h.all.1; omega
 refine ⟨h.ne, h.book, h.hb, h.row, h.size, h.all, h.grown, h.upart, h.loc, h.read, fun j v n hj => h.rest j v n (by omega), h.apart, h.low, h.ilow, hv, hn, h.rest i v n (Nat.le_refl _) hv hn, fun g hg => .inl hg, ?_, ?_⟩
 ·intro j u g hu' hg hug
  have hj : j < i := by rw [← hu]; exact (List.getElem?_eq_some_iff.1 hu').1
  have hl : vs.length = ns.length := by have := h.row.1; omega
  have hi : i < vs.length := (List.getElem?_eq_some_iff.1 hv).1
  have hvj : vs[j]? = some vs[j] := List.getElem?_eq_getElem (by omega)
  rcases h.loc j u vs[j] g hu' hvj hug with e | e
  ·exact h.apart i j v vs[j] g (by omega) hv hvj hg e
  ·have := h.low i v g hv hg
   omega
 ·have ho := h.rest i v n (Nat.le_refl _) hv hn
  obtain ⟨ad, cap, e⟩ := ints_form ho
  rw [List.length_replicate] at e
  refine rd_of ho (Nat.le_refl _) ad cap e ?_
  rcases ho.1.2 with ⟨h1, h2⟩ | ⟨g, c, cur, h1, _⟩
  ·left; simpa using h2
  ·right
   rw [h1] at e
   simp only [Value.slice.injEq] at e
   exact ⟨g, e.1.symm, by rw [h1]; rfl⟩
/-- All blocks stay. -/
theorem P3.eq {e se : TypeId} {mk : Nat → C} {bk : Array Value} {w0 w w' : World} {B b : Nat} {iv allv gv v : Value} {vs us : List Value} {ns : List Nat} {i n k : Nat} (h : P3 e se mk bk w0 w B b iv allv gv v vs us ns i n k) (hb : Below w.heap.size w w') : P3 e se mk bk w0 w' B b iv allv gv v vs us ns i n k := by
 have ho : ∀ {base e' s m : Nat} {r : Value} {xs : List Value}, w.ownsRow base e' s r m xs → w'.ownsRow base e' s r m xs := fun ho => owns_eq ho fun g hg => hb.block g (ho.lt g hg).2
 have hi : ∀ {base : Nat} {r : Value} {zs : List C}, OwnZ w base e r zs → OwnZ w' base e r zs := fun h => ⟨ho h.1, h.2⟩
 have hr : ∀ {r : Value} {m : Nat} {x : C}, RdI w r m x → RdI w' r m x := fun {r m x} h => by
  obtain ⟨ad, cap, rfl, h | ⟨g, rfl, h1, h2⟩⟩ := h
  ·exact ⟨ad, cap, rfl, .inl h⟩
  ·exact RdI.eq ⟨_, cap, rfl, .inr ⟨g, rfl, h1, h2⟩⟩ hb.size (fun g' hg' => by cases hg'; exact hb.block g h1)
 exact ⟨h.ne, (hb.block b (Array.getElem?_eq_some_iff.1 h.book).1).trans h.book, h.hb, ho h.row, Nat.le_trans h.size hb.size, ho h.all, fun j u n h1 h2 => hi (h.grown j u n h1 h2), h.upart, h.loc, fun j v n h1 h2 h3 => hr (h.read j v n h1 h2 h3), fun j v n h1 h2 h3 => hi (h.rest j v n h1 h2 h3), h.apart, h.low, h.ilow, h.hv, h.hn, hi h.own, h.gloc, h.gpart, hr h.mid⟩
theorem P2.eq {e se : TypeId} {mk : Nat → C} {bk : Array Value} {w0 w w' : World} {B b : Nat} {iv allv : Value} {vs us : List Value} {ns : List Nat} {i : Nat} (h : P2 e se mk bk w0 w B b iv allv vs us ns i) (hb : Below w.heap.size w w') : P2 e se mk bk w0 w' B b iv allv vs us ns i := by
 have ho : ∀ {base e' s m : Nat} {r : Value} {xs : List Value}, w.ownsRow base e' s r m xs → w'.ownsRow base e' s r m xs := fun ho => owns_eq ho fun g hg => hb.block g (ho.lt g hg).2
 have hi : ∀ {base : Nat} {r : Value} {zs : List C}, OwnZ w base e r zs → OwnZ w' base e r zs := fun h => ⟨ho h.1, h.2⟩
 have hr : ∀ {r : Value} {m : Nat} {x : C}, RdI w r m x → RdI w' r m x := fun {r m x} h => by
  obtain ⟨ad, cap, rfl, h | ⟨g, rfl, h1, h2⟩⟩ := h
  ·exact ⟨ad, cap, rfl, .inl h⟩
  ·exact RdI.eq ⟨_, cap, rfl, .inr ⟨g, rfl, h1, h2⟩⟩ hb.size (fun g' hg' => by cases hg'; exact hb.block g h1)
 exact ⟨h.ne, (hb.block b (Array.getElem?_eq_some_iff.1 h.book).1).trans h.book, h.hb, ho h.row, Nat.le_trans h.size hb.size, ho h.all, fun j u n h1 h2 => hi (h.grown j u n h1 h2), h.upart, h.loc, fun j v n h1 h2 h3 => hr (h.read j v n h1 h2 h3), fun j v n h1 h2 h3 => hi (h.rest j v n h1 h2 h3), h.apart, h.low, h.ilow⟩
/-- One number more. -/
theorem P3.step {e se : TypeId} {mk : Nat → C} {bk : Array Value} {w0 w w' : World} {B b : Nat} {iv allv gv gv' v : Value} {vs us : List Value} {ns : List Nat} {i n k : Nat} (h : P3 e se mk bk w0 w B b iv allv gv v vs us ns i n k) (hown : OwnZ w' B e gv' (List.replicate (n + (k + 1)) (mk i))) (hgr : w.grownBy w' gv.ownBlock) (hloc : gv'.ownBlock = gv.ownBlock ∨ (gv'.ownBlock = some w.heap.size ∧ w.grownBy w' none)) : P3 e se mk bk w0 w' B b iv allv gv' v vs us ns i n (k + 1) := by
 have hblk : ∀ g, g < w.heap.size → gv.ownBlock ≠ some g → w'.heap[g]? = w.heap[g]? := fun g h1 h2 => hgr.block g h1 (fun e => h2 e.symm)
 have ho : ∀ {base e' s m : Nat} {r : Value} {xs : List Value}, w.ownsRow base e' s r m xs → (∀ g, gv.ownBlock = some g → r.ownBlock ≠ some g) → w'.ownsRow base e' s r m xs := fun {base e' s m r xs} ho hne => owns_eq ho fun g hg => hblk g (ho.lt g hg).2 (fun e => hne g e hg)
 have hvj : ∀ (j : Nat) (x : Value), j ≠ i → vs[j]? = some x → ∀ g, gv.ownBlock = some g → x.ownBlock ≠ some g := by
  intro j x hj hx g hg hxg
  rcases h.gloc g hg with e | e
  ·exact h.apart i j v x g (fun e => hj e.symm) h.hv hx e hxg
  ·have := h.low j x g hx hxg
   omega
 refine ⟨h.ne, ?_, h.hb, ?_, Nat.le_trans h.size hgr.size, ?_, ?_, h.upart, h.loc, ?_, ?_, h.apart, h.low, h.ilow, h.hv, h.hn, hown, ?_, ?_, ?_⟩
 ·exact (hblk b (Array.getElem?_eq_some_iff.1 h.book).1 (fun e => book_apart h.ne.2.1 h.book h.own b e rfl)).trans h.book
 ·exact ho h.row (fun g hg => types_apart h.own.1 h.row h.ne.1 g hg)
 ·exact ho h.all (fun g hg => types_apart h.own.1 h.all h.ne.1 g hg)
 ·intro j u m hu hm
  have h5 := h.grown j u m hu hm
  exact ⟨ho h5.1 (fun g hg => h.gpart j u g hu hg), h5.2⟩
 ·intro j x m hj hx hm
  refine (h.read j x m hj hx hm).eq hgr.size fun g hg => ?_
  have hlt := h.low j x g hx hg
  exact hblk g (Nat.lt_of_lt_of_le hlt h.size) (fun e => hvj j x (by omega) hx g e hg)
 ·intro j x m hj hx hm
  have h5 := h.rest j x m hj hx hm
  exact ⟨ho h5.1 (fun g hg => hvj j x (by omega) hx g hg), h5.2⟩
 ·intro g hg
  rcases hloc with e | ⟨e, _⟩
  ·exact h.gloc g (by rw [← e]; exact hg)
  ·rw [e] at hg
   cases hg
   exact .inr h.size
 ·intro j u g hu hg
  rcases hloc with e | ⟨e, _⟩
  ·exact h.gpart j u g hu (by rw [← e]; exact hg)
  ·rw [e] at hg
   cases hg
   intro hug
   have hj : j < ns.length := by
    have h1 := h.all.1
    have h2 := (List.getElem?_eq_some_iff.1 hu).1
    have h3 := (List.getElem?_eq_some_iff.1 h.hn).1
    omega
   have := ((h.grown j u _ hu (List.getElem?_eq_getElem hj)).1.lt _ hug).2
   omega
 ·obtain ⟨ad, cap, hvf, hm⟩ := h.mid
  rcases hm with hm | ⟨g, e1, e2, e3⟩
  ·exact ⟨ad, cap, hvf, .inl hm⟩
  ·have hvg : v.ownBlock = some g := by rw [hvf, e1]; rfl
   have hsame : w'.heap[g]? = w.heap[g]? → RdI w' v n (mk i) := fun hh =>
    RdI.eq ⟨ad, cap, hvf, .inr ⟨g, e1, e2, e3⟩⟩ hgr.size (fun g' hg' => by rw [hvg] at hg'; cases hg'; exact hh)
   by_cases hg : gv.ownBlock = some g
   ·rcases hloc with e | ⟨_, hn⟩
    ·exact rd_of hown (by omega) ad cap hvf (.inr ⟨g, e1, by rw [e]; exact hg⟩)
    ·exact hsame (hn.block g e2 (by simp))
   ·exact hsame (hblk g e2 hg)
/-- The row is put behind the others. -/
theorem P3.put {e se : TypeId} {mk : Nat → C} {bk : Array Value} {w0 w w' : World} {B b : Nat} {iv allv allv' gv v : Value} {vs us : List Value} {ns : List Nat} {i n : Nat} (h : P3 e se mk bk w0 w B b iv allv gv v vs us ns i n 20) (hown : w'.ownsRow w0.heap.size se 1 allv' (i + 1) (us ++ [gv])) (hgr : w.grownBy w' allv.ownBlock) : P2 e se mk bk w0 w' B b iv allv' vs (us ++ [gv]) ns (i + 1) := by
 have hul : us.length = i := by have := h.all.1; omega
 have hblk : ∀ g, g < w.heap.size → allv.ownBlock ≠ some g → w'.heap[g]? = w.heap[g]? := fun g h1 h2 => hgr.block g h1 (fun e => h2 e.symm)
 have hi : ∀ {r : Value} {zs : List C}, OwnZ w B e r zs → OwnZ w' B e r zs := fun {r zs} hh => ints_eq hh fun g hg => hblk g (hh.1.lt g hg).2 (types_apart hh.1 h.all h.ne.1 g hg)
 have hlow : ∀ g, g < w0.heap.size → w'.heap[g]? = w.heap[g]? := fun g hg => hblk g (Nat.lt_of_lt_of_le hg h.size) (fun e => by have := (h.all.lt g e).1; omega)
 have hget : ∀ (j : Nat) (u : Value), (us ++ [gv])[j]? = some u → (j < i ∧ us[j]? = some u) ∨ (j = i ∧ u = gv) := by
  intro j u hu
  by_cases hj : j < i
  ·rw [List.getElem?_append_left (by omega)] at hu
   exact .inl ⟨hj, hu⟩
  ·rw [List.getElem?_append_right (by omega)] at hu
   have h0 : j - us.length = 0 := by
    have := (List.getElem?_eq_some_iff.1 hu).1
    simp at this; omega
   rw [h0] at hu
   simp at hu
   exact .inr ⟨by omega, hu.symm⟩
 refine ⟨h.ne, ?_, h.hb, ?_, Nat.le_trans h.size hgr.size, hown, ?_, ?_, ?_, ?_, ?_, h.apart, h.low, h.ilow⟩
 ·exact (hblk b (Array.getElem?_eq_some_iff.1 h.book).1 (fun e => book_apartR h.ne.2.2 h.book h.all b e rfl)).trans h.book
 ·exact owns_eq h.row fun g hg => hlow g (h.ilow g hg)
 ·intro j u m hu hm
  rcases hget j u hu with ⟨_, hu⟩ | ⟨rfl, rfl⟩
  ·exact hi (h.grown j u m hu hm)
  ·rw [h.hn] at hm; cases hm
   exact hi h.own
 ·intro j j' u u' g hne hu hu' hg
  rcases hget j u hu with ⟨_, hu1⟩ | ⟨hj, e1⟩
  ·rcases hget j' u' hu' with ⟨_, hu2⟩ | ⟨_, e2⟩
   ·exact h.upart j j' u u' g hne hu1 hu2 hg
   ·rw [e2]
    exact fun e => h.gpart j u g hu1 e hg
  ·rcases hget j' u' hu' with ⟨_, hu2⟩ | ⟨hj', _⟩
   ·exact h.gpart j' u' g hu2 (by rw [← e1]; exact hg)
   ·exact absurd (hj.trans hj'.symm) hne
 ·intro j u x g hu hx hg
  rcases hget j u hu with ⟨_, hu⟩ | ⟨rfl, rfl⟩
  ·exact h.loc j u x g hu hx hg
  ·rw [h.hv] at hx; cases hx
   exact h.gloc g hg
 ·intro j x m hj hx hm
  have hr : RdI w x m (mk j) := by
   by_cases e : j = i
   ·subst e
    rw [h.hv] at hx; cases hx
    rw [h.hn] at hm; cases hm
    exact h.mid
   ·exact h.read j x m (by omega) hx hm
  exact hr.eq hgr.size fun g hg => hlow g (h.low j x g hx hg)
 ·intro j x m hj hx hm
  exact hi (h.rest j x m (by omega) hx hm)
end Go.Proofs.YtljggjllijacjaaGreatDoor.Bk

namespace Go.Proofs.YtljggjllijacjaaGreatDoor.Bk
open Go.RowKit
theorem info22 : ∃ i, Tryz.prog.info? 23 = some i ∧ i.zero = some (.slice none 0 0) ∧ i.size = 1 ∧ i.bytes = 24 := by
 have h : (Tryz.prog.info? 23).map (fun i => (i.zero, i.size, i.bytes)) = some (some (.slice none 0 0), 1, 24) := by kernel_rfl
 cases hq : Tryz.prog.info? 23 with
 | none => rw [hq] at h; cases h
 | some i =>
  rw [hq] at h
  simp only [Option.map_some, Option.some.injEq, Prod.mk.injEq] at h
  exact ⟨i, rfl, h.1, h.2.1, h.2.2⟩
theorem cell_one_new (w : World) (v : Value) (t : TypeId) : ∀ j u, [v][j]? = some u → (w.alloc (.cells #[v] t)).cell? ((⟨w.heap.size, 0, none⟩ : Addr).add j) = some u := fun j u hu => by
 rw [Addr.add_mid]
 exact range_new w [v] t j u hu
theorem cell_five_new (w : World) (a b c d e : Value) (t : TypeId) : ∀ j u, [a, b, c, d, e][j]? = some u → (w.alloc (.cells #[a, b, c, d, e] t)).cell? ((⟨w.heap.size, 0, none⟩ : Addr).add j) = some u := fun j u hu => by
 rw [Addr.add_mid]
 exact range_new w [a, b, c, d, e] t j u hu
theorem rowv_form {w : World} {B e s n : Nat} {v : Value} {xs : List Value} (h : w.ownsRow B e s v n xs) : ∃ ad cap, v = .slice ad n cap := by
 rcases h.2 with ⟨h1, h2⟩ | ⟨g, c, cur, h1, _⟩
 ·exact ⟨none, 0, by rw [h1, h2]⟩
 ·exact ⟨_, _, h1⟩
theorem rowS_at {w : World} {se B n : Nat} {v : Value} {xs : List Value} (h : w.ownsRow B se 1 v n xs) (j : Nat) (hj : j < n) : ∃ g cap u, v = .slice (some ⟨g, 0, none⟩) n cap ∧ xs[j]? = some u ∧ w.cell? ⟨g, j, none⟩ = some u := by
 have hl : xs.length = n := by have := h.1; omega
 rcases h.2 with ⟨_, h2⟩ | ⟨g, c, cur, h1, h2, h3, h4, h5, h6, h7⟩
 ·omega
 ·have hv : j < xs.length := by omega
  refine ⟨g, c, xs[j], h1, List.getElem?_eq_getElem hv, ?_⟩
  rw [cell_of_row w g j cur se (0, 0) h3]
  have : (cur.toList.take (n * 1))[j]? = some xs[j] := by rw [h7]; exact List.getElem?_eq_getElem hv
  rw [List.getElem?_take_of_lt (by omega)] at this
  simpa using this
theorem rd_own {w : World} {e : TypeId} {base : Nat} {v : Value} {m : Nat} {x : C} (h : OwnZ w base e v (List.replicate m x)) : RdI w v m x := by
 obtain ⟨ad, cap, e⟩ := ints_form h
 rw [List.length_replicate] at e
 refine rd_of h (Nat.le_refl _) ad cap e ?_
 rcases h.1.2 with ⟨h1, h2⟩ | ⟨g, c, cur, h1, _⟩
 ·left; simpa using h2
 ·right
  rw [h1] at e
  simp only [Value.slice.injEq] at e
  exact ⟨g, e.1.symm, by rw [h1]; rfl⟩
/-- The mark of row j. -/
def mkN (j : Nat) : C := ⟨0, ⟨#[]⟩, -9000 - (j : Int), 0, 0⟩
set_option maxRecDepth 100000 in
set_option maxHeartbeats 8000000 in
theorem b29 (B b : Nat) (bk : Array Value) (iv : Value) (vs : List Value) (ns : List Nat) (w : World) (h : P1 78 23 mkN bk w B b iv vs ns 0 0) (hbk : bk[3]? = some iv) (hl : ns.length * 24 ≤ 140737488355328) (hm : ∀ n ∈ ns, n ≤ 2500000000000) :
  Calls Tryz.prog 51 #[.pointer (some ⟨b, 0, none⟩)] w fun e w' => e = .returned (.bool true) ∧ BookAt w' b bk ∧ KB 78 B w w' := by
 have HM : Hid (∀ n ∈ ns, n ≤ 2500000000000) := hm
 obtain ⟨i0, hi, hz, hs, hby⟩ := info60
 obtain ⟨i36, ki, kz, ks, kby⟩ := info22
 have H0 : Hid (P1 78 23 mkN bk w B b iv vs ns 0 0) := h
 have hBb : B ≤ w.heap.size := Nat.le_of_lt (Nat.lt_of_le_of_lt h.hb (Array.getElem?_eq_some_iff.1 h.book).1)
 obtain ⟨adi, cpi, hiv⟩ := rowv_form h.row
 have HBK : Hid (∀ W : World, BookAt W b bk → W.cell? ⟨b, 3, none⟩ = some iv) := fun W hW => by rw [cell_of_row W b 3 bk 50 (0, 0) hW]; exact hbk
 subst hiv
 clear h hm hbk
 go_enter Tryz.func51, Tryz.ntmps51
 go_wp2_with fail
 go_loopw [3] (fun iw wr => ∃ i : Nat, i ≤ ns.length ∧ iw = .int .i64 i ∧ Hid (P1 78 23 mkN bk wr B b (.slice adi ns.length cpi) vs ns i 0) ∧ KB 78 B w wr) (fun iw _ => ns.length - (intOf iw).toNat)
 case atStart => exact ⟨0, by omega, rfl, H0.out, KB.refl _ _ _⟩
 case round =>
  obtain ⟨i, hi1, rfl, HI, hbr⟩ := hrel
  have cB := HBK.out _ HI.out.book
  by_cases hlt : i < ns.length
  ·have hlt' : (i : Int) < (ns.length : Int) := by omega
   have hi0 : (0 : Int) ≤ (i : Int) := by omega
   obtain ⟨n, hn⟩ : ∃ n, ns[i]? = some n := ⟨_, List.getElem?_eq_getElem hlt⟩
   obtain ⟨g0, c0, v0, ef, hv0, _⟩ := HI.out.at i hlt
   simp only [Value.slice.injEq] at ef
   obtain ⟨rfl, _, rfl⟩ := ef
   have HV : Hid (vs[i]? = some v0 ∧ ns[i]? = some n) := ⟨hv0, hn⟩
   have hnb : n ≤ 2500000000000 := HM.out n (List.mem_of_getElem? hn)
   obtain ⟨ys0, e0, ho0⟩ := HI.out.mid v0 n hv0 hn
   obtain ⟨av, cv, hvf⟩ := ints_form ho0
   simp only [List.replicate_zero, List.nil_append] at hvf
   have hyl : ys0.length = n := by omega
   rw [hyl] at hvf
   subst hvf
   clear hv0 hn ho0 e0 hyl
   go_wp2_with fail
   clear cB
   go_loopw [4] (fun kw wr => ∃ k : Nat, k ≤ n ∧ kw = .int .i64 k ∧ Hid (P1 78 23 mkN bk wr B b (.slice (some ⟨g0, 0, none⟩) ns.length cpi) vs ns i k) ∧ KB 78 B w wr) (fun kw _ => n - (intOf kw).toNat)
   case atStart => exact ⟨0, by omega, rfl, HI.out, hbr⟩
   case round =>
    clear hbr HI
    obtain ⟨k, hk, rfl, HK, hbr⟩ := hrel
    have cB := HBK.out _ HK.out.book
    obtain ⟨g1, c1, v1, ef, hv1, cI⟩ := HK.out.at i hlt
    simp only [Value.slice.injEq, Option.some.injEq, Addr.mk.injEq, and_true, true_and] at ef
    obtain ⟨rfl, rfl⟩ := ef
    rw [HV.out.1] at hv1
    obtain rfl := Option.some.inj hv1
    clear hv1
    by_cases hkt : k < n
    ·have hkt' : (k : Int) < (n : Int) := by omega
     have hk0 : (0 : Int) ≤ (k : Int) := by omega
     obtain ⟨g2, c2, y, ef, hg2, ⟨cY, cY2, cY3, cY4, cY5⟩, fY, hty, hP⟩ := HK.out.write HV.out.1 HV.out.2 hkt
     simp only [Value.slice.injEq] at ef
     obtain ⟨rfl, _, rfl⟩ := ef
     have HP : Hid (P1 78 23 mkN bk (((((wr.setCell ⟨g2, k * 5, none⟩ (.int .u8 0)).setCell ⟨g2, k * 5 + 1, none⟩ (.string ⟨#[]⟩)).setCell ⟨g2, k * 5 + 2, none⟩ (.int .i64 (-9000 - (i : Int)))).setCell ⟨g2, k * 5 + 3, none⟩ (.int .i64 0)).setCell ⟨g2, k * 5 + 4, none⟩ (.int .i64 0)) B b (.slice (some ⟨g0, 0, none⟩) ns.length cpi) vs ns i (k + 1)) := hP
     have HB : Hid (KB 78 B w (((((wr.setCell ⟨g2, k * 5, none⟩ (.int .u8 0)).setCell ⟨g2, k * 5 + 1, none⟩ (.string ⟨#[]⟩)).setCell ⟨g2, k * 5 + 2, none⟩ (.int .i64 (-9000 - (i : Int)))).setCell ⟨g2, k * 5 + 3, none⟩ (.int .i64 0)).setCell ⟨g2, k * 5 + 4, none⟩ (.int .i64 0))) := hbr.set5 _ _ _ _ _ _ _ _ _ _ hg2 hty
     have f0 := fY (k * 5)
     have f1 := fY (k * 5 + 1)
     have f2 := fY (k * 5 + 2)
     have f3 := fY (k * 5 + 3)
     have f4 := fY (k * 5 + 4)
     clear hP HK hty fY
     go_wp2_with fail
     go_roundw
     case rel => exact ⟨k + 1, by omega, by go_num, HP, HB.out⟩
     case measure => simp [intOf]; omega
    ·obtain rfl : k = n := by omega
     have hkt' : ¬ ((k : Int) < (k : Int)) := by omega
     go_wp2_with fail
     go_roundw
     case rel => exact ⟨i + 1, by omega, by go_num, HK.out.next HV.out.2, hbr⟩
     case measure => simp [intOf]; omega
  ·obtain rfl : i = ns.length := by omega
   have hlt' : ¬ ((ns.length : Int) < (ns.length : Int)) := by omega
   have HP2 : Hid (P2 78 23 mkN bk wr wr B b (.slice adi ns.length cpi) nilV vs [] ns 0) := HI.out.to2
   have HBw : Hid (KB 78 B w wr) := hbr
   have hszw : B ≤ wr.heap.size := Nat.le_trans hBb hbr.below.size
   clear HI hbr
   go_wp2_with fail
   generalize wr = w1 at *
   clear cB
   go_loopw [5, 6] (fun aw iw wr => ∃ (i : Nat) (us : List Value), i ≤ ns.length ∧ iw = .int .i64 i ∧ Hid (P2 78 23 mkN bk w1 wr B b (.slice adi ns.length cpi) aw vs us ns i) ∧ KB 78 B w wr) (fun _ iw _ => ns.length - (intOf iw).toNat)
   case atStart => exact ⟨0, [], by omega, rfl, HP2.out, HBw.out⟩
   case round =>
    obtain ⟨i, us, hi1, rfl, HI, hbr⟩ := hrel
    have cB := HBK.out _ HI.out.book
    by_cases hlt : i < ns.length
    ·have hlt' : (i : Int) < (ns.length : Int) := by omega
     have hi0 : (0 : Int) ≤ (i : Int) := by omega
     obtain ⟨n, hn⟩ : ∃ n, ns[i]? = some n := ⟨_, List.getElem?_eq_getElem hlt⟩
     obtain ⟨g0, c0, v0, ef, hv0, cI⟩ := rowS_at HI.out.row i hlt
     simp only [Value.slice.injEq] at ef
     obtain ⟨rfl, _, rfl⟩ := ef
     have hnb : n ≤ 2500000000000 := HM.out n (List.mem_of_getElem? hn)
     obtain ⟨aa, ca, haf⟩ := rowv_form HI.out.all
     have HS : Hid (P3 78 23 mkN bk w1 wr B b (.slice (some ⟨g0, 0, none⟩) ns.length cpi) u5 v0 v0 vs us ns i n 0) := HI.out.start hv0 hn
     obtain ⟨av, cv, hvf⟩ := HS.out.mid.form
     subst hvf haf
     clear hn hv0 HI
     go_wp2_with fail
     go_loopw [7, 8] (fun gw kw wr => ∃ k : Nat, k ≤ 20 ∧ kw = .int .i64 k ∧ Hid (P3 78 23 mkN bk w1 wr B b (.slice (some ⟨g0, 0, none⟩) ns.length cpi) (.slice aa i ca) gw (.slice av n cv) vs us ns i n k) ∧ KB 78 B w wr) (fun _ kw _ => 20 - (intOf kw).toNat)
     case atStart => exact ⟨0, by omega, rfl, HS.out, hbr⟩
     case round =>
      clear hbr HS cB cI
      obtain ⟨k, hk, rfl, HK, hbr⟩ := hrel
      have hszr : B ≤ wr.heap.size := Nat.le_trans hBb hbr.below.size
      by_cases hkt : k < 20
      ·have hkt' : (k : Int) < 20 := by omega
       have hba : Below wr.heap.size wr (wr.alloc (.cells #[.int .u8 0, .string ⟨#[]⟩, .int .i64 (-9000 - (i : Int)), .int .i64 0, .int .i64 0] 78)) := (Below.refl _ _).alloc (Nat.le_refl _) _
       have HKa := HK.out.eq hba
       have HOa : Hid (OwnZ (wr.alloc (.cells #[.int .u8 0, .string ⟨#[]⟩, .int .i64 (-9000 - (i : Int)), .int .i64 0, .int .i64 0] 78)) B 78 u7 (List.replicate (n + k) (mkN i))) := HKa.own
       have HOr : Hid ((wr.alloc (.cells #[.int .u8 0, .string ⟨#[]⟩, .int .i64 (-9000 - (i : Int)), .int .i64 0, .int .i64 0] 78)).ownsRow B 78 5 u7 (n + k) (flat (List.replicate (n + k) (mkN i)))) := by
        have := HOa.out.1
        rwa [List.length_replicate] at this
       have HKa : Hid (P3 78 23 mkN bk w1 (wr.alloc (.cells #[.int .u8 0, .string ⟨#[]⟩, .int .i64 (-9000 - (i : Int)), .int .i64 0, .int .i64 0] 78)) B b (.slice (some ⟨g0, 0, none⟩) ns.length cpi) (.slice aa i ca) u7 (.slice av n cv) vs us ns i n k) := HKa
       have HBa : Hid (KB 78 B w (wr.alloc (.cells #[.int .u8 0, .string ⟨#[]⟩, .int .i64 (-9000 - (i : Int)), .int .i64 0, .int .i64 0] 78))) := hbr.alloc hszr _
       obtain ⟨ag, cg, hgf⟩ := rowv_form HOr.out
       have hbase : B ≤ (wr.alloc (.cells #[.int .u8 0, .string ⟨#[]⟩, .int .i64 (-9000 - (i : Int)), .int .i64 0, .int .i64 0] 78)).heap.size := by simp; omega
       subst hgf
       clear HK hbr hba
       go_wp2_with (at_builtin; refine wpList_append_two rfl _ _ 23 rfl B 78 i0 zero60 5 48 Tryz.underlying23 hi hz hs hby rfl (by decide) _ _ _ rfl HOr.out ⟨wr.heap.size, 0, none⟩ 1 1 [.int .u8 0, .string ⟨#[]⟩, .int .i64 (-9000 - (i : Int)), .int .i64 0, .int .i64 0] rfl rfl (cell_five_new _ _ _ _ _ _ _) (fun u hu => by simp at hu; rcases hu with rfl | rfl | rfl | rfl | rfl <;> rfl) (by unfold maxLen; omega) (by omega) hbase ?_)
       intro v' w' hown hgr hloc
       have HF : Hid (P3 78 23 mkN bk w1 w' B b (.slice (some ⟨g0, 0, none⟩) ns.length cpi) (.slice aa i ca) v' (.slice av n cv) vs us ns i n (k + 1)) := by
        refine HKa.out.step ⟨?_, fun _ _ => ?_⟩ hgr (by simpa using hloc)
        ·have e : List.replicate (n + (k + 1)) (mkN i) = List.replicate (n + k) (mkN i) ++ [mkN i] := by
          rw [show n + (k + 1) = (n + k) + 1 by omega, List.replicate_succ']
         rw [e, List.length_append, List.length_replicate, flat_append]
         exact hown
        ·rfl
       have HBf : Hid (KB 78 B w w') := HBa.out.grown hgr hbase (fun g hg => (HOr.out.lt g hg).1) (fun g hg => .inr (owns_typed HOr.out g hg))
       clear hown hgr hloc
       go_wp2_with fail
       go_roundw
       case rel => exact ⟨k + 1, by omega, by go_num, HF, HBf.out⟩
       case measure => simp [intOf]; omega
      ·obtain rfl : k = 20 := by omega
       obtain ⟨ag, cg, hgf⟩ := ints_form HK.out.own
       rw [List.length_replicate] at hgf
       subst hgf
       have hba : Below wr.heap.size wr (wr.alloc (.cells #[.slice ag (n + 20) cg] 23)) := (Below.refl _ _).alloc (Nat.le_refl _) _
       have HKa : Hid (P3 78 23 mkN bk w1 (wr.alloc (.cells #[.slice ag (n + 20) cg] 23)) B b (.slice (some ⟨g0, 0, none⟩) ns.length cpi) (.slice aa i ca) (.slice ag (n + 20) cg) (.slice av n cv) vs us ns i n 20) := HK.out.eq hba
       have HBa : Hid (KB 78 B w (wr.alloc (.cells #[.slice ag (n + 20) cg] 23))) := hbr.alloc hszr _
       have hbase : w1.heap.size ≤ (wr.alloc (.cells #[.slice ag (n + 20) cg] 23)).heap.size := HKa.out.size
       have hbaseB : B ≤ (wr.alloc (.cells #[.slice ag (n + 20) cg] 23)).heap.size := by simp; omega
       clear hba HK hbr
       go_wp2_with (at_builtin; refine wpList_append_two rfl _ _ 47 rfl w1.heap.size 23 i36 (.slice none 0 0) 1 24 Tryz.underlying47 ki kz ks kby rfl (by decide) _ _ _ rfl HKa.out.all ⟨wr.heap.size, 0, none⟩ 1 1 [.slice ag (n + 20) cg] rfl rfl (cell_one_new _ _ _) (fun u hu => by simp at hu; subst hu; rfl) (by unfold maxLen; omega) (by omega) hbase ?_)
       intro v' w' hown hgr hloc
       have HF : Hid (P2 78 23 mkN bk w1 w' B b (.slice (some ⟨g0, 0, none⟩) ns.length cpi) v' vs (us ++ [.slice ag (n + 20) cg]) ns (i + 1)) := HKa.out.put hown hgr
       have HBf : Hid (KB 78 B w w') := HBa.out.grown hgr hbaseB (fun g hg => Nat.le_trans hszw (HKa.out.all.lt g hg).1) (fun g hg => .inl (Nat.le_trans HBw.out.below.size (HKa.out.all.lt g hg).1))
       clear hown hgr hloc
       go_wp2_with fail
       go_roundw
       case rel => exact ⟨i + 1, _, by omega, by go_num, HF, HBf.out⟩
       case measure => simp [intOf]; omega
    ·obtain rfl : i = ns.length := by omega
     have hlt' : ¬ ((ns.length : Int) < (ns.length : Int)) := by omega
     obtain ⟨aa, ca, haf⟩ := rowv_form HI.out.all
     subst haf
     have HBw2 : Hid (KB 78 B w wr) := hbr
     clear hbr
     go_wp2_with fail
     generalize wr = w2 at *
     clear cB
     go_loopw [9] (fun iw wr => ∃ i : Nat, i ≤ ns.length ∧ iw = .int .i64 i ∧ Below w2.heap.size w2 wr) (fun iw _ => ns.length - (intOf iw).toNat)
     case atStart => exact ⟨0, by omega, rfl, Below.refl _ _⟩
     case round =>
      obtain ⟨i, hi1, rfl, hbr⟩ := hrel
      by_cases hlt : i < ns.length
      ·have hlt' : (i : Int) < (ns.length : Int) := by omega
       have hi0 : (0 : Int) ≤ (i : Int) := by omega
       have HJ : Hid (P2 78 23 mkN bk w1 wr B b (.slice adi ns.length cpi) (.slice aa ns.length ca) vs us ns ns.length) := HI.out.eq hbr
       obtain ⟨n, hn⟩ : ∃ n, ns[i]? = some n := ⟨_, List.getElem?_eq_getElem hlt⟩
       have hnb : n ≤ 2500000000000 := HM.out n (List.mem_of_getElem? hn)
       obtain ⟨g0, c0, v0, ef, hv0, _⟩ := rowS_at HJ.out.row i hlt
       simp only [Value.slice.injEq] at ef
       obtain ⟨rfl, _, rfl⟩ := ef
       obtain ⟨g1, c1, u1, ef, hu1, _⟩ := rowS_at HJ.out.all i hlt
       simp only [Value.slice.injEq] at ef
       obtain ⟨rfl, _, rfl⟩ := ef
       have HV : Hid (vs[i]? = some v0 ∧ us[i]? = some u1 ∧ ns[i]? = some n) := ⟨hv0, hu1, hn⟩
       have HRv : ∀ W, P2 78 23 mkN bk w1 W B b (.slice (some ⟨g0, 0, none⟩) ns.length cpi) (.slice (some ⟨g1, 0, none⟩) ns.length ca) vs us ns ns.length → RdI W v0 n ⟨0, ⟨#[]⟩, -9000 - (i : Int), 0, 0⟩ := fun W hW => hW.read i v0 n hlt HV.out.1 HV.out.2.2
       have HRu : ∀ W, P2 78 23 mkN bk w1 W B b (.slice (some ⟨g0, 0, none⟩) ns.length cpi) (.slice (some ⟨g1, 0, none⟩) ns.length ca) vs us ns ns.length → RdI W u1 (n + 20) ⟨0, ⟨#[]⟩, -9000 - (i : Int), 0, 0⟩ := fun W hW => rd_own (hW.grown i u1 n HV.out.2.1 HV.out.2.2)
       have HCv : ∀ W, P2 78 23 mkN bk w1 W B b (.slice (some ⟨g0, 0, none⟩) ns.length cpi) (.slice (some ⟨g1, 0, none⟩) ns.length ca) vs us ns ns.length → W.cell? ⟨b, 3, none⟩ = some (.slice (some ⟨g0, 0, none⟩) ns.length cpi) ∧ W.cell? ⟨g0, i, none⟩ = some v0 ∧ W.cell? ⟨g1, i, none⟩ = some u1 := fun W hW => by
        obtain ⟨_, _, x, ef, hx, cx⟩ := rowS_at hW.row i hlt
        simp only [Value.slice.injEq, Option.some.injEq, Addr.mk.injEq, and_true, true_and] at ef
        obtain ⟨rfl, rfl⟩ := ef
        obtain ⟨_, _, z, ef, hz, cz⟩ := rowS_at hW.all i hlt
        simp only [Value.slice.injEq, Option.some.injEq, Addr.mk.injEq, and_true, true_and] at ef
        obtain ⟨rfl, rfl⟩ := ef
        rw [HV.out.1] at hx
        rw [HV.out.2.1] at hz
        cases hx
        cases hz
        exact ⟨HBK.out _ hW.book, cx, cz⟩
       have HRv : Hid (∀ W, P2 78 23 mkN bk w1 W B b (.slice (some ⟨g0, 0, none⟩) ns.length cpi) (.slice (some ⟨g1, 0, none⟩) ns.length ca) vs us ns ns.length → RdI W v0 n ⟨0, ⟨#[]⟩, -9000 - (i : Int), 0, 0⟩) := HRv
       have HRu : Hid (∀ W, P2 78 23 mkN bk w1 W B b (.slice (some ⟨g0, 0, none⟩) ns.length cpi) (.slice (some ⟨g1, 0, none⟩) ns.length ca) vs us ns ns.length → RdI W u1 (n + 20) ⟨0, ⟨#[]⟩, -9000 - (i : Int), 0, 0⟩) := HRu
       have HCv : Hid (∀ W, P2 78 23 mkN bk w1 W B b (.slice (some ⟨g0, 0, none⟩) ns.length cpi) (.slice (some ⟨g1, 0, none⟩) ns.length ca) vs us ns ns.length → W.cell? ⟨b, 3, none⟩ = some (.slice (some ⟨g0, 0, none⟩) ns.length cpi) ∧ W.cell? ⟨g0, i, none⟩ = some v0 ∧ W.cell? ⟨g1, i, none⟩ = some u1) := HCv
       obtain ⟨av, cv, hvf⟩ := (HRv.out _ HJ.out).form
       obtain ⟨au, cu, huf⟩ := (HRu.out _ HJ.out).form
       subst hvf huf
       have hqn : ∀ w : World, (binOp .neq 78 (.agg #[.int .u8 0, .string ⟨#[]⟩, .int .i64 (-9000 - (i : Int)), .int .i64 0, .int .i64 0]) (.agg #[.int .u8 0, .string ⟨#[]⟩, .int .i64 (-9000 - (i : Int)), .int .i64 0, .int .i64 0])).run Tryz.prog w = .ok (.bool false) w := fun w => (neq60 0 ⟨#[]⟩ (-9000 - (i : Int)) 0 0 0 ⟨#[]⟩ (-9000 - (i : Int)) 0 0 w).trans (by rw [show eqCells 0 ⟨#[]⟩ (-9000 - (i : Int)) 0 0 0 ⟨#[]⟩ (-9000 - (i : Int)) 0 0 = true from eqC_refl (mkN i)]; rfl)
       clear hn hv0 hu1 HJ
       go_wp2_with fail
       go_loopw [10] (fun kw wr => ∃ k : Nat, k ≤ n + 20 ∧ kw = .int .i64 k ∧ Below w2.heap.size w2 wr) (fun kw _ => n + 20 - (intOf kw).toNat)
       case atStart => exact ⟨0, by omega, rfl, hbr⟩
       case round =>
        clear hbr
        obtain ⟨k, hk, rfl, hbr⟩ := hrel
        have HJ : P2 78 23 mkN bk w1 wr B b (.slice (some ⟨g0, 0, none⟩) ns.length cpi) (.slice (some ⟨g1, 0, none⟩) ns.length ca) vs us ns ns.length := HI.out.eq hbr
        obtain ⟨cB, cV, cU⟩ := HCv.out _ HJ
        by_cases hkt : k < n + 20
        ·have hkt' : (k : Int) < ((n + 20 : Nat) : Int) := by omega
         have hk0 : (0 : Int) ≤ (k : Int) := by omega
         obtain ⟨g3, c3, ef, ⟨cR, cR2, cR3, cR4, cR5⟩, _⟩ := (HRu.out _ HJ).at k hkt
         simp only [Value.slice.injEq] at ef
         obtain ⟨rfl, _, rfl⟩ := ef
         clear HJ
         go_wp2_with fail
         go_roundw
         case rel => exact ⟨k + 1, by omega, by go_num, hbr⟩
         case measure => simp [intOf]; omega
        ·obtain rfl : k = n + 20 := by omega
         have hkt' : ¬ (((n + 20 : Nat) : Int) < ((n + 20 : Nat) : Int)) := by omega
         clear HJ
         go_wp2_with fail
         go_loopw [11] (fun kw wr => ∃ k : Nat, k ≤ n ∧ kw = .int .i64 k ∧ Below w2.heap.size w2 wr) (fun kw _ => n - (intOf kw).toNat)
         case atStart => exact ⟨0, by omega, rfl, hbr⟩
         case round =>
          clear hbr cB cV cU hkt hkt' hk
          obtain ⟨k, hk, rfl, hbr⟩ := hrel
          have HJ : P2 78 23 mkN bk w1 wr B b (.slice (some ⟨g0, 0, none⟩) ns.length cpi) (.slice (some ⟨g1, 0, none⟩) ns.length ca) vs us ns ns.length := HI.out.eq hbr
          obtain ⟨cB, cV, cU⟩ := HCv.out _ HJ
          by_cases hkt : k < n
          ·have hkt' : (k : Int) < (n : Int) := by omega
           have hk0 : (0 : Int) ≤ (k : Int) := by omega
           obtain ⟨g3, c3, ef, ⟨cR, cR2, cR3, cR4, cR5⟩, _⟩ := (HRv.out _ HJ).at k hkt
           simp only [Value.slice.injEq] at ef
           obtain ⟨rfl, _, rfl⟩ := ef
           clear HJ
           go_wp2_with fail
           go_roundw
           case rel => exact ⟨k + 1, by omega, by go_num, hbr⟩
           case measure => simp [intOf]; omega
          ·obtain rfl : k = n := by omega
           have hkt' : ¬ ((k : Int) < (k : Int)) := by omega
           clear HJ
           go_wp2_with fail
           go_roundw
           case rel => exact ⟨i + 1, by omega, by go_num, hbr⟩
           case measure => simp [intOf]; omega
      ·obtain rfl : i = ns.length := by omega
       have hlt' : ¬ ((ns.length : Int) < (ns.length : Int)) := by omega
       have HE : Hid (BookAt wr b bk ∧ KB 78 B w wr) := ⟨(HI.out.eq hbr).book, HBw2.out.then (Nat.le_trans hBb HBw2.out.below.size) hbr⟩
       go_wp2_with fail
       go_ret
       exact ⟨rfl, HE.out.1, HE.out.2⟩
end Go.Proofs.YtljggjllijacjaaGreatDoor.Bk

namespace Go.Proofs.YtljggjllijacjaaGreatDoor.Bk
open Go.RowKit
attribute [local go_sem ↓] Go.wp_at_zero Go.wp_at_succ
set_option maxRecDepth 100000 in
theorem b26 (b : Nat) (w : World) (h : w.cell? ⟨b, 0, none⟩ = some (.slice none 0 0)) :
  Calls Tryz.prog 48 #[.pointer (some ⟨b, 0, none⟩)] w fun e w' => e = .returned (.bool true) ∧ w' = w := by
 go_enter Tryz.func48, Tryz.ntmps48
 go_wp2_with fail
 refine wp_loop_rounds 1 ?_
 rw [rounds_succ]
 go_wp2_with fail
 refine wp_loop_rounds 1 ?_
 rw [rounds_succ]
 go_wp2_with fail
 refine wp_loop_rounds 1 ?_
 rw [rounds_succ]
 go_wp2_with fail
 go_ret
 exact ⟨rfl, rfl⟩
set_option maxRecDepth 100000 in
theorem b27 (b : Nat) (w : World) (h : w.cell? ⟨b, 1, none⟩ = some (.slice none 0 0)) :
  Calls Tryz.prog 49 #[.pointer (some ⟨b, 0, none⟩)] w fun e w' => e = .returned (.bool true) ∧ w' = w := by
 go_enter Tryz.func49, Tryz.ntmps49
 go_wp2_with fail
 refine wp_loop_rounds 1 ?_
 rw [rounds_succ]
 go_wp2_with fail
 refine wp_loop_rounds 1 ?_
 rw [rounds_succ]
 go_wp2_with fail
 refine wp_loop_rounds 1 ?_
 rw [rounds_succ]
 go_wp2_with fail
 go_ret
 exact ⟨rfl, rfl⟩
set_option maxRecDepth 100000 in
theorem b28 (b : Nat) (w : World) (h : w.cell? ⟨b, 2, none⟩ = some (.slice none 0 0)) :
  Calls Tryz.prog 50 #[.pointer (some ⟨b, 0, none⟩)] w fun e w' => e = .returned (.bool true) ∧ w' = w := by
 go_enter Tryz.func50, Tryz.ntmps50
 go_wp2_with fail
 refine wp_loop_rounds 1 ?_
 rw [rounds_succ]
 go_wp2_with fail
 refine wp_loop_rounds 1 ?_
 rw [rounds_succ]
 go_wp2_with fail
 refine wp_loop_rounds 1 ?_
 rw [rounds_succ]
 go_wp2_with fail
 go_ret
 exact ⟨rfl, rfl⟩
set_option maxRecDepth 100000 in
theorem b30 (b : Nat) (w : World) (h : w.cell? ⟨b, 4, none⟩ = some (.slice none 0 0)) :
  Calls Tryz.prog 52 #[.pointer (some ⟨b, 0, none⟩)] w fun e w' => e = .returned (.bool true) ∧ w' = w := by
 go_enter Tryz.func52, Tryz.ntmps52
 go_wp2_with fail
 refine wp_loop_rounds 1 ?_
 rw [rounds_succ]
 go_wp2_with fail
 refine wp_loop_rounds 1 ?_
 rw [rounds_succ]
 go_wp2_with fail
 refine wp_loop_rounds 1 ?_
 rw [rounds_succ]
 go_wp2_with fail
 go_ret
 exact ⟨rfl, rfl⟩
abbrev BkA (nv : Value) : Array Value := #[nilV, nilV, nilV, nv, nilV]
/-- A book with rows of names that lie apart. -/
structure BkN (w : World) (B b : Nat) (nv : Value) (vs : List Value) (ns : List Nat) : Prop where
 book : BookAt w b (BkA nv)
 hb : B ≤ b
 row : w.ownsRow B 23 1 nv ns.length vs
 each : ∀ (j : Nat) (v : Value) (n : Nat), vs[j]? = some v → ns[j]? = some n → ∃ zs : List C, zs.length = n ∧ OwnZ w B 78 v zs
 apart : ∀ (j j' : Nat) (v v' : Value) (g : Nat), j ≠ j' → vs[j]? = some v → vs[j']? = some v' → v.ownBlock = some g → v'.ownBlock ≠ some g
theorem book_cells {w : World} {b : Nat} {nv : Value} (h : BookAt w b (BkA nv)) : w.cell? ⟨b, 0, none⟩ = some nilV ∧ w.cell? ⟨b, 1, none⟩ = some nilV ∧ w.cell? ⟨b, 2, none⟩ = some nilV ∧ w.cell? ⟨b, 3, none⟩ = some nv ∧ w.cell? ⟨b, 4, none⟩ = some nilV := by
 refine ⟨?_, ?_, ?_, ?_, ?_⟩
 ·rw [cell_of_row w b 0 _ 50 (0, 0) h]; rfl
 ·rw [cell_of_row w b 1 _ 50 (0, 0) h]; rfl
 ·rw [cell_of_row w b 2 _ 50 (0, 0) h]; rfl
 ·rw [cell_of_row w b 3 _ 50 (0, 0) h]; rfl
 ·rw [cell_of_row w b 4 _ 50 (0, 0) h]; rfl
theorem BkN.lt {w : World} {B b : Nat} {nv : Value} {vs : List Value} {ns : List Nat} (h : BkN w B b nv vs ns) : b < w.heap.size := (Array.getElem?_eq_some_iff.1 h.book).1
theorem BkN.low {w : World} {B b : Nat} {nv : Value} {vs : List Value} {ns : List Nat} (h : BkN w B b nv vs ns) {j : Nat} {v : Value} {g : Nat} (hv : vs[j]? = some v) (hg : v.ownBlock = some g) : g < w.heap.size := by
 have hl : vs.length = ns.length := by have := h.row.1; omega
 have hj : j < ns.length := by rw [← hl]; exact (List.getElem?_eq_some_iff.1 hv).1
 obtain ⟨zs, _, h2⟩ := h.each j v _ hv (List.getElem?_eq_getElem hj)
 exact (h2.1.lt g hg).2
theorem BkN.below {w w' : World} {B b : Nat} {nv : Value} {vs : List Value} {ns : List Nat} (h : BkN w B b nv vs ns) (hb : Below w.heap.size w w') : BkN w' B b nv vs ns := by
 refine ⟨(hb.block b h.lt).trans h.book, h.hb, owns_eq h.row fun g hg => hb.block g (h.row.lt g hg).2, fun j v n hv hn => ?_, h.apart⟩
 obtain ⟨zs, h1, h2⟩ := h.each j v n hv hn
 exact ⟨zs, h1, ints_eq h2 fun g hg => hb.block g (h2.1.lt g hg).2⟩
def Tk (B b : Nat) (vs : List Value) (ns : List Nat) (a : Option Addr) (m c : Nat) (w w' : World) : Prop := ∃ nv', BkN w' B b nv' (vs ++ [.slice a m c]) (ns ++ [m]) ∧ Below B w w' ∧ ∀ k, k < w.heap.size → k ≠ b → (∀ cu fr, w.heap[k]? ≠ some (Obj.cells cu 23 fr)) → w'.heap[k]? = w.heap[k]?
set_option maxRecDepth 100000 in
set_option maxHeartbeats 4000000 in
theorem b25 (B b : Nat) (nv : Value) (vs : List Value) (ns : List Nat) (a : Option Addr) (m c : Nat) (zs : List C) (w : World) (h : BkN w B b nv vs ns) (hz : zs.length = m) (ho : OwnZ w B 78 (.slice a m c) zs) (hap : ∀ (j : Nat) (v : Value) (g : Nat), vs[j]? = some v → (Value.slice a m c).ownBlock = some g → v.ownBlock ≠ some g) (hn : (ns.length + 1) * 24 ≤ 140737488355328) :
  Calls Tryz.prog 47 #[.pointer (some ⟨b, 0, none⟩), .slice a m c] w fun e w' => e = .returned (.tuple #[]) ∧ Tk B b vs ns a m c w w' := by
 obtain ⟨i36, ki, kz, ks, kby⟩ := info22
 have HH : Hid (BkN w B b nv vs ns) := h
 have HZ : Hid (zs.length = m ∧ OwnZ w B 78 (.slice a m c) zs ∧ ∀ (j : Nat) (v : Value) (g : Nat), vs[j]? = some v → (Value.slice a m c).ownBlock = some g → v.ownBlock ≠ some g) := ⟨hz, ho, hap⟩
 have hblt : b < w.heap.size := h.lt
 have hBs : B ≤ w.heap.size := by have := h.hb; omega
 obtain ⟨_, _, _, x4, _⟩ := book_cells h.book
 obtain ⟨ai, ci, hiv⟩ := rowv_form h.row
 have HOa : Hid ((w.alloc (.cells #[.slice a m c] 23)).ownsRow B 23 1 nv ns.length vs) := h.row.alloc _
 have hbase : B ≤ (w.alloc (.cells #[.slice a m c] 23)).heap.size := by simp; omega
 subst hiv
 clear h hz ho hap
 go_enter Tryz.func47, Tryz.ntmps47
 go_wp2_with (at_builtin; refine wpList_append_two rfl _ _ 47 rfl B 23 i36 (.slice none 0 0) 1 24 Tryz.underlying47 ki kz ks kby rfl (by decide) _ _ _ rfl HOa.out ⟨w.heap.size, 0, none⟩ 1 1 [.slice a m c] rfl rfl (cell_one_new _ _ _) (fun u hu => by simp at hu; subst hu; rfl) (by unfold maxLen; omega) (by omega) hbase ?_)
 intro v' w' hown hgr hloc
 have hkeep : ∀ k, k < w.heap.size → (Value.slice ai ns.length ci).ownBlock ≠ some k → w'.heap[k]? = w.heap[k]? := fun k h1 h2 => (hgr.block k (by simp; omega) (fun e => h2 e.symm)).trans (heap_alloc_old w _ h1)
 have hbk' : BookAt w' b (BkA (.slice ai ns.length ci)) := (hkeep b hblt (fun e => book_apartR (by decide) HH.out.book HH.out.row b e rfl)).trans HH.out.book
 have fz : w'.frozen? ⟨b, 3, none⟩ = false := frozen_of_row w' b 3 _ 50 hbk'
 have HF : Hid (Tk B b vs ns a m c w (w'.setCell ⟨b, 3, none⟩ v')) := by
  have hset : ∀ k, k ≠ b → (w'.setCell ⟨b, 3, none⟩ v').heap[k]? = w'.heap[k]? := fun k hk => heap_setCell_other w' ⟨b, 3, none⟩ k _ hk
  have hk2 : ∀ {v : Value} {ys : List C}, OwnZ w B 78 v ys → OwnZ (w'.setCell ⟨b, 3, none⟩ v') B 78 v ys := fun {v ys} hh => ints_eq hh fun g hg => (hset g (fun e => book_apart (by decide) HH.out.book hh g hg e)).trans (hkeep g (hh.1.lt g hg).2 (fun e => types_apart hh.1 HH.out.row (by decide) g hg e))
  have hvl : vs.length = ns.length := by have := HH.out.row.1; omega
  refine ⟨v', ⟨(heap_setCell_same w' b 3 _ 50 v' hbk').trans rfl, HH.out.hb, ?_, ?_, ?_⟩, ?_, ?_⟩
  ·rw [List.length_append]
   exact owns_eq hown fun g hg => hset g (fun e => book_apartR (by decide) hbk' hown g hg e)
  ·intro j v n hv hn'
   by_cases hj : j < vs.length
   ·rw [List.getElem?_append_left hj] at hv
    rw [List.getElem?_append_left (by omega)] at hn'
    obtain ⟨ys, h1, h2⟩ := HH.out.each j v n hv hn'
    exact ⟨ys, h1, hk2 h2⟩
   ·rw [List.getElem?_append_right (by omega)] at hv
    rw [List.getElem?_append_right (by omega), ← hvl] at hn'
    have h0 : j - vs.length = 0 := by
     have := (List.getElem?_eq_some_iff.1 hv).1
     simp at this; omega
    rw [h0] at hv hn'
    simp at hv hn'
    subst hv hn'
    exact ⟨zs, HZ.out.1, hk2 HZ.out.2.1⟩
  ·have hget : ∀ (j : Nat) (u : Value), (vs ++ [.slice a m c])[j]? = some u → vs[j]? = some u ∨ (j = vs.length ∧ u = .slice a m c) := by
    intro j u hu
    by_cases hj : j < vs.length
    ·rw [List.getElem?_append_left hj] at hu
     exact .inl hu
    ·rw [List.getElem?_append_right (by omega)] at hu
     have h0 : j - vs.length = 0 := by
      have := (List.getElem?_eq_some_iff.1 hu).1
      simp at this; omega
     rw [h0] at hu
     simp at hu
     exact .inr ⟨by omega, hu.symm⟩
   intro j j' v u g hne hv hu hg
   rcases hget j v hv with h1 | ⟨h1, h1'⟩
   ·rcases hget j' u hu with h2 | ⟨h2, h2'⟩
    ·exact HH.out.apart j j' v u g hne h1 h2 hg
    ·rw [h2']
     exact fun e => HZ.out.2.2 j v g h1 e hg
   ·rcases hget j' u hu with h2 | ⟨h2, _⟩
    ·exact HZ.out.2.2 j' u g h2 (by rw [← h1']; exact hg)
    ·omega
  ·have x1 : Below B w w' := ((Below.refl B w).alloc hBs _).grown hgr hbase (fun g hg => (HOa.out.lt g hg).1)
   exact x1.setCell (p := ⟨b, 3, none⟩) HH.out.hb _
  ·intro k h1 h2 h3
   refine (hset k h2).trans (hkeep k h1 (fun e => ?_))
   obtain ⟨cu, fr, h4⟩ := owns_typed HH.out.row k e
   exact h3 cu fr h4
 obtain ⟨a', c', hvf⟩ := rowv_form hown
 have y4 := (book_cells hbk').2.2.2.1
 clear hown hgr hloc hbk' hkeep x4
 subst hvf
 go_wp2_with fail
 go_end0
 exact ⟨rfl, HF.out⟩
theorem BkN.p1 {w : World} {B b : Nat} {nv : Value} {vs : List Value} {ns : List Nat} (h : BkN w B b nv vs ns) : P1 78 23 mkN (BkA nv) w B b nv vs ns 0 0 :=
 ⟨⟨by decide, by decide, by decide⟩, h.book, h.hb, h.row, fun j v n hj => by omega, fun v n hv hn => by
  obtain ⟨zs, h1, h2⟩ := h.each 0 v n hv hn
  exact ⟨zs, by omega, by simpa using h2⟩, fun j v n _ hv hn => h.each j v n hv hn, h.apart⟩
set_option maxRecDepth 100000 in
set_option maxHeartbeats 4000000 in
theorem b11 (B b : Nat) (nv : Value) (vs : List Value) (ns : List Nat) (w : World) (h : BkN w B b nv vs ns) (hl : ns.length * 24 ≤ 140737488355328) (hm : ∀ n ∈ ns, n ≤ 2500000000000) :
  Calls Tryz.prog 15 #[.pointer (some ⟨b, 0, none⟩)] w fun e w' => e = .returned (.bool true) ∧ Below B w w' := by
 have hBb := h.hb
 obtain ⟨c0, c1, c2, _, c4⟩ := book_cells h.book
 have H26 := b26 b w c0
 have H27 := b27 b w c1
 have H28 := b28 b w c2
 have H30 := fun (w : World) (hw : w.cell? ⟨b, 4, none⟩ = some (.slice none 0 0)) => b30 b w hw
 have H29 := b29 B b (BkA nv) nv vs ns w h.p1 rfl hl hm
 clear h c0 c1 c2 c4 hl hm
 go_enter Tryz.func15, Tryz.ntmps15
 go_wp2_with fail
 refine H26.mono ?_
 rintro e w26 ⟨rfl, hw⟩
 obtain rfl := hw.symm
 clear H26
 go_wp2_with fail
 refine H27.mono ?_
 rintro e w27 ⟨rfl, hw⟩
 obtain rfl := hw.symm
 clear H27
 go_wp2_with fail
 refine H28.mono ?_
 rintro e w28 ⟨rfl, hw⟩
 obtain rfl := hw.symm
 clear H28
 go_wp2_with fail
 refine H29.mono ?_
 rintro e w3 ⟨rfl, hbk, hk3⟩
 have HK3 : Hid (Below B w w3) := hk3.below
 have HBK : Hid (BookAt w3 b (BkA nv)) := hbk
 clear H29 hk3
 go_wp2_with fail
 refine (H30 _ (book_cells HBK.out).2.2.2.2).mono ?_
 rintro e w30 ⟨rfl, hw⟩
 obtain rfl := hw.symm
 clear H30
 have f0 : w3.frozen? ⟨b, 0, none⟩ = false := frozen_of_row w3 b 0 _ 50 hbk
 have f1 : w3.frozen? ⟨b, 1, none⟩ = false := frozen_of_row w3 b 1 _ 50 hbk
 have f2 : w3.frozen? ⟨b, 2, none⟩ = false := frozen_of_row w3 b 2 _ 50 hbk
 have f3 : w3.frozen? ⟨b, 3, none⟩ = false := frozen_of_row w3 b 3 _ 50 hbk
 have f4 : w3.frozen? ⟨b, 4, none⟩ = false := frozen_of_row w3 b 4 _ 50 hbk
 have hbz : b < w3.heap.size := (Array.getElem?_eq_some_iff.1 hbk).1
 obtain ⟨g0, g1, g2, g3, g4⟩ := book_cells hbk
 clear hbk
 go_wp2_with fail
 go_ret
 exact ⟨rfl, by
  refine Below.setCell ?_ (p := ⟨b, _, none⟩) hBb _
  refine Below.setCell ?_ (p := ⟨b, _, none⟩) hBb _
  refine Below.setCell ?_ (p := ⟨b, _, none⟩) hBb _
  refine Below.setCell ?_ (p := ⟨b, _, none⟩) hBb _
  exact HK3.out.setCell (p := ⟨b, _, none⟩) hBb _⟩
end Go.Proofs.YtljggjllijacjaaGreatDoor.Bk
