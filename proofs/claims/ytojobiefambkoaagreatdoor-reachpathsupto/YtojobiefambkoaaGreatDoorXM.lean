/- Rows of names that are kept in a book: written over, grown, looked at; append onto a slice of one's own. -/
import Derived.Test.YtojobiefambkoaaGreatDoorGQ
import Derived.Maps.AppendAt
import Derived.Maps.OwnRows
import Derived.Below
import Derived.OneCell
import Derived.Deep.MidRow
import Derived.WalkArith
namespace Go.Proofs.YtojobiefambkoaaGreatDoor.Bk
open Go.RowKit
theorem append_two {P : Program} (w : World) (base : Nat) (t ty e : TypeId) (i : TypeInfo) (z : Value) (size bytes : Nat) (ht : P.underlying t = some (.slice e)) (hi : P.info? e = some i) (hz : i.zero = some z)
    (hsize : i.size = size) (hby : i.bytes = bytes) (hzs : z.cells.size = size) (hsz : 0 < size)
    (v : Value) (n : Nat) (xs : List Value) (hown : w.ownsRow base e size v n xs)
    (a : Addr) (m c : Nat) (news : List Value) (hl : news.length = m * size) (hnews : ∀ j u, news[j]? = some u → w.cell? (a.add j) = some u) (h1 : ∀ u ∈ news, u.oneCell' = true)
    (h63 : n + m ≤ maxLen) (hbytes : (n + m) * bytes ≤ 140737488355328) (hbase : base ≤ w.heap.size) :
    ∃ v' w', (Builtin.append_ #[t, t] ty #[v, .slice (some a) m c]).run P w = .ok v' w' ∧ w'.ownsRow base e size v' (n + m) (xs ++ news) ∧ w.grownBy w' v.ownBlock ∧
      ((v'.ownBlock = v.ownBlock) ∨ (v'.ownBlock = some w.heap.size ∧ w.grownBy w' none)) := by
  obtain ⟨v', w', hr, h2, h3, _, h5⟩ := run_append_own_at (P := P) w base t ty e i z size bytes ht hi hz hsize hby hzs hsz v n xs hown a m c news hl hnews h1 h63 hbytes hbase
  refine ⟨v', w', hr, h2, h3, ?_⟩
  subst hsize hby
  rcases hown.2 with ⟨rfl, rfl⟩ | ⟨g, cap, cur, rfl, hbg, hg, hnc, hcm, hcs, htake⟩
  · rcases h5 with h5 | h5
    · exact .inl h5
    · exact .inr ⟨h5, h3⟩
  · by_cases hroom : n + m ≤ cap
    · have hfit : n * i.size + news.length ≤ cur.size := by rw [hl, hcs, ← Nat.add_mul]; exact Nat.mul_le_mul_right _ hroom
      have hr2 := run_append_room (P := P) w t ty e i ht hi g n cap cur hg a m c news hl hnews h1 hroom hfit
      rw [hr] at hr2
      obtain ⟨e1, _⟩ : v' = _ ∧ w' = _ := by simpa using hr2
      left
      rw [e1]; rfl
    · have holds : ∀ j u, xs[j]? = some u → w.cell? ((⟨g, 0, none⟩ : Addr).add j) = some u := hown.cells (g := g) rfl
      have hm63 : n + m ≤ 9223372036854775807 := by unfold maxLen at h63; omega
      have hr2 := run_append_grow (P := P) w t ty e i z ht hi hz ⟨g, 0, none⟩ n cap xs hown.1 holds a m c news hl hnews (by omega) (by omega) (growslice_fits (by omega) hbytes)
      rw [hr] at hr2
      obtain ⟨e1, e2⟩ : v' = _ ∧ w' = _ := by simpa using hr2
      right
      refine ⟨by rw [e1]; rfl, ?_⟩
      rw [e2]
      exact ⟨rfl, rfl, rfl, by simp, fun k hk _ => Below.heap_alloc w.drew _ k hk⟩
theorem wpList_append_two {P : Program} {w : World} {ops : Array Oper} {rest : List Oper} {o : Oper} {a : Act} {Q : Exit → Act → World → Prop} (hgd : o.guard = none) (s x : Operand) (t : TypeId)
    (ho : o.op = .call { callee := .builtin .append, args := #[s, x], argTypes := #[t, t] })
    (base : Nat) (e : TypeId) (i : TypeInfo) (z : Value) (size bytes : Nat) (ht : P.underlying t = some (.slice e)) (hi : P.info? e = some i) (hz : i.zero = some z)
    (hsize : i.size = size) (hby : i.bytes = bytes) (hzs : z.cells.size = size) (hsz : 0 < size)
    (v : Value) (n : Nat) (xs : List Value) (hs : a.eval s = v) (hown : w.ownsRow base e size v n xs)
    (ad : Addr) (m c : Nat) (news : List Value) (hx : a.eval x = .slice (some ad) m c) (hl : news.length = m * size) (hnews : ∀ j u, news[j]? = some u → w.cell? (ad.add j) = some u) (h1 : ∀ u ∈ news, u.oneCell' = true)
    (h63 : n + m ≤ maxLen) (hbytes : (n + m) * bytes ≤ 140737488355328) (hbase : base ≤ w.heap.size)
    (h : ∀ v' w', w'.ownsRow base e size v' (n + m) (xs ++ news) → w.grownBy w' v.ownBlock → ((v'.ownBlock = v.ownBlock) ∨ (v'.ownBlock = some w.heap.size ∧ w.grownBy w' none)) → wpList P ops Q rest (a.put o.dst v') w') :
    wpList P ops Q (o :: rest) a w := by
  refine wpList_plain hgd fun K hK => ?_
  obtain ⟨v', w', hr, h2, h3, h4⟩ := append_two (P := P) w base t o.type e i z size bytes ht hi hz hsize hby hzs hsz v n xs hown ad m c news hl hnews h1 h63 hbytes hbase
  unfold Oper.wp execOp
  simp only [ho, resolve, invoke, builtin, Sem.run_bind, Sem.run_pure, Result.andThen_ok, List.map_toArray, List.map_cons, List.map_nil, hs, hx, hr]
  exact hK _ _ (h v' w' h2 h3 h4)
def WfZ (_ : Nm) : Bool := true
/-- A row of one's own, of names. -/
def OwnZ (w : World) (B : Nat) (e : TypeId) (v : Value) (zs : List Nm) : Prop := w.ownsRow B e 2 v zs.length (flatN zs) ∧ ∀ z ∈ zs, WfZ z = true
theorem owns_eq {w w' : World} {base : Nat} {e : TypeId} {s n : Nat} {v : Value} {xs : List Value} (h : w.ownsRow base e s v n xs) (hg : ∀ g, v.ownBlock = some g → w'.heap[g]? = w.heap[g]?) : w'.ownsRow base e s v n xs := by
  refine ⟨h.1, ?_⟩
  rcases h.2 with hh | ⟨g, cap, cur, e1, e2, e3, e4⟩
  · exact .inl hh
  · exact .inr ⟨g, cap, cur, e1, e2, (hg g (by rw [e1]; rfl)).trans e3, e4⟩
theorem ints_eq {w w' : World} {e : TypeId} {base : Nat} {v : Value} {zs : List Nm} (h : OwnZ w base e v zs) (hg : ∀ g, v.ownBlock = some g → w'.heap[g]? = w.heap[g]?) : OwnZ w' base e v zs := ⟨owns_eq h.1 hg, h.2⟩
/-- Rows of two element types do not share a block. -/
theorem types_apart {w : World} {base base' : Nat} {e e' : TypeId} {s s' n n' : Nat} {v v' : Value} {xs xs' : List Value} (h : w.ownsRow base e s v n xs) (h' : w.ownsRow base' e' s' v' n' xs') (hne : e ≠ e') (g : Nat) (hg : v.ownBlock = some g) : v'.ownBlock ≠ some g := by
  intro hg'
  rcases h.2 with ⟨h1, _⟩ | ⟨g1, c1, cur1, h1, _, h3, _⟩
  · rw [h1] at hg; cases hg
  · rcases h'.2 with ⟨k1, _⟩ | ⟨g2, c2, cur2, k1, _, k3, _⟩
    · rw [k1] at hg'; cases hg'
    · rw [h1] at hg
      rw [k1] at hg'
      simp only [Value.ownBlock, Option.some.injEq] at hg hg'
      subst hg hg'
      rw [h3] at k3
      simp only [Option.some.injEq, Obj.cells.injEq] at k3
      exact hne k3.2.1
theorem ints_base {w : World} {e : TypeId} {base base' : Nat} {v : Value} {zs : List Nm} (h : OwnZ w base e v zs) (hb : base' ≤ base) : OwnZ w base' e v zs := by
  refine ⟨⟨h.1.1, ?_⟩, h.2⟩
  rcases h.1.2 with hh | ⟨g, cap, cur, e1, e2, e3⟩
  · exact .inl hh
  · exact .inr ⟨g, cap, cur, e1, by omega, e3⟩
theorem ints_form {w : World} {e : TypeId} {base : Nat} {v : Value} {zs : List Nm} (h : OwnZ w base e v zs) : ∃ ad cap, v = .slice ad zs.length cap := by
  rcases h.1.2 with ⟨h1, h2⟩ | ⟨g, c, cur, h1, _⟩
  · exact ⟨none, 0, by rw [h1, h2]⟩
  · exact ⟨_, _, h1⟩
theorem flat_cons (y : Nm) (ys : List Nm) : flatN (y :: ys) = .int .i64 y.1 :: .int .i64 y.2 :: flatN ys := rfl
theorem flat_set (k : Nat) (x y : Nm) (ys : List Nm) : ((flatN (List.replicate k x ++ y :: ys)).set (k * 2) (.int .i64 x.1)).set (k * 2 + 1) (.int .i64 x.2) = flatN (List.replicate (k + 1) x ++ ys) := by
  have hl : (flatN (List.replicate k x)).length = k * 2 := by rw [flatN_length, List.length_replicate]
  rw [flatN_append, flat_cons, List.set_append_right _ _ (by omega), List.set_append_right _ _ (by omega), hl, List.replicate_succ', List.append_assoc, flatN_append]
  simp [flat_cons]
/-- A name of a row is written. -/
theorem ints_write {w : World} {e : TypeId} {base : Nat} {v : Value} {k : Nat} {x y : Nm} {ys : List Nm} (h : OwnZ w base e v (List.replicate k x ++ y :: ys)) :
    ∃ g cap, v = .slice (some ⟨g, 0, none⟩) (k + (ys.length + 1)) cap ∧ base ≤ g ∧ g < w.heap.size ∧ w.cell? ⟨g, k * 2, none⟩ = some (.int .i64 y.1) ∧ w.cell? ⟨g, k * 2 + 1, none⟩ = some (.int .i64 y.2) ∧ (∀ j, w.frozen? ⟨g, j, none⟩ = false) ∧ OwnZ ((w.setCell ⟨g, k * 2, none⟩ (.int .i64 x.1)).setCell ⟨g, k * 2 + 1, none⟩ (.int .i64 x.2)) base e v (List.replicate (k + 1) x ++ ys) := by
  rcases h.1.2 with ⟨_, h2⟩ | ⟨g, cap, cur, h1, h2, h3, h4, h5, h6, h7⟩
  · simp at h2
  · have hl : (List.replicate k x ++ y :: ys).length = k + (ys.length + 1) := by simp
    have hfl : (flatN (List.replicate k x)).length = k * 2 := by rw [flatN_length, List.length_replicate]
    have hr := range_of_owns h3 h7
    have c0 : (flatN (List.replicate k x ++ y :: ys))[k * 2]? = some (.int .i64 y.1) := by
      rw [flatN_append, flat_cons, List.getElem?_append_right (by omega), hfl]
      simp
    have c1 : (flatN (List.replicate k x ++ y :: ys))[k * 2 + 1]? = some (.int .i64 y.2) := by
      rw [flatN_append, flat_cons, List.getElem?_append_right (by omega), hfl]
      simp
    have r0 := hr _ _ c0
    have r1 := hr _ _ c1
    rw [Nat.zero_add] at r0 r1
    rw [hl] at h1 h4
    refine ⟨g, cap, h1, h2, (Array.getElem?_eq_some_iff.1 h3).1, r0, r1, fun j => frozen_of_row w g j cur e h3, ?_, fun _ _ => rfl⟩
    have h8 := heap_setCell_same w g (k * 2) cur e (.int .i64 x.1) h3
    have h9 := heap_setCell_same _ g (k * 2 + 1) _ e (.int .i64 x.2) h8
    have e1 : (List.replicate (k + 1) x ++ ys).length = k + (ys.length + 1) := by simp; omega
    refine ⟨by rw [flatN_length], .inr ⟨g, cap, _, ?_, h2, h9, ?_, h5, by simp [h6], ?_⟩⟩
    · rw [e1]; exact h1
    · rw [e1]; exact h4
    · rw [Array.toList_setIfInBounds, Array.toList_setIfInBounds, List.take_set, List.take_set, e1, ← hl, h7, flat_set]
/-- A row that reads as so many marks. -/
def RdI (w : World) (v : Value) (n : Nat) (x : Nm) : Prop := ∃ ad cap, v = .slice ad n cap ∧ (n = 0 ∨ ∃ g, ad = some ⟨g, 0, none⟩ ∧ g < w.heap.size ∧ w.rangeAt g 0 (flatN (List.replicate n x)))
theorem RdI.at {w : World} {v : Value} {n : Nat} {x : Nm} (h : RdI w v n x) (k : Nat) (hk : k < n) : ∃ g cap, v = .slice (some ⟨g, 0, none⟩) n cap ∧ w.cell? ⟨g, k * 2, none⟩ = some (.int .i64 x.1) ∧ w.cell? ⟨g, k * 2 + 1, none⟩ = some (.int .i64 x.2) ∧ g < w.heap.size := by
  obtain ⟨ad, cap, rfl, h | ⟨g, rfl, h1, h2⟩⟩ := h
  · omega
  · obtain ⟨c1, c2⟩ := name_cells h2 k (by rw [List.length_replicate]; exact hk)
    simp only [Nat.zero_add, List.getElem_replicate] at c1 c2
    exact ⟨g, cap, rfl, c1, c2, h1⟩
theorem RdI.form {w : World} {v : Value} {n : Nat} {x : Nm} (h : RdI w v n x) : ∃ ad cap, v = .slice ad n cap := by
  obtain ⟨ad, cap, rfl, _⟩ := h
  exact ⟨_, _, rfl⟩
theorem RdI.eq {w w' : World} {v : Value} {n : Nat} {x : Nm} (h : RdI w v n x) (hs : w.heap.size ≤ w'.heap.size) (hg : ∀ g, v.ownBlock = some g → w'.heap[g]? = w.heap[g]?) : RdI w' v n x := by
  obtain ⟨ad, cap, rfl, h | ⟨g, rfl, h1, h2⟩⟩ := h
  · exact ⟨ad, cap, rfl, .inl h⟩
  · refine ⟨_, cap, rfl, .inr ⟨g, rfl, by omega, fun j u hu => ?_⟩⟩
    have := h2 j u hu
    rwa [World.cell?_of_block (a := ⟨g, 0 + j, none⟩) (hg g rfl)]
theorem rd_of {w : World} {e : TypeId} {base : Nat} {v v0 : Value} {n m : Nat} {x : Nm} (h : OwnZ w base e v (List.replicate m x)) (hn : n ≤ m) (ad : Option Addr) (cap : Nat) (h0 : v0 = .slice ad n cap) (hb : n = 0 ∨ (∃ g, ad = some ⟨g, 0, none⟩ ∧ v.ownBlock = some g)) : RdI w v0 n x := by
  refine ⟨ad, cap, h0, ?_⟩
  rcases hb with hb | ⟨g, hg, hv⟩
  · exact .inl hb
  · right
    rcases h.1.2 with ⟨h1, _⟩ | ⟨g', c, cur, h1, h2, h3, h4, h5, h6, h7⟩
    · rw [h1] at hv; cases hv
    · rw [h1] at hv
      simp only [Value.ownBlock, Option.some.injEq] at hv
      subst hv
      refine ⟨g', hg, (Array.getElem?_eq_some_iff.1 h3).1, fun j u hu => ?_⟩
      refine range_of_owns h3 h7 j u ?_
      rw [show List.replicate m x = List.replicate n x ++ List.replicate (m - n) x by rw [List.replicate_append_replicate]; congr 1; omega, flatN_append, List.getElem?_append_left (List.getElem?_eq_some_iff.1 hu).1]
      exact hu
abbrev nilV : Value := .slice none 0 0
abbrev BookAt (w : World) (b : Nat) (bk : Array Value) : Prop := w.heap[b]? = some (.cells bk 44 (0, 0))
/-- What lies below B stays, and every block that is no row of the type e. -/
structure KB (e : TypeId) (B : Nat) (w w' : World) : Prop where
  below : Below B w w'
  keep : ∀ k, k < w.heap.size → (∀ cu fr, w.heap[k]? ≠ some (.cells cu e fr)) → w'.heap[k]? = w.heap[k]?
theorem KB.refl (e : TypeId) (B : Nat) (w : World) : KB e B w w := ⟨Below.refl _ _, fun _ _ _ => rfl⟩
theorem KB.alloc {e : TypeId} {B : Nat} {w w' : World} (h : KB e B w w') (hB : B ≤ w'.heap.size) (o : Obj) : KB e B w (w'.alloc o) :=
  ⟨h.below.alloc hB o, fun k h1 h2 => (heap_alloc_old w' o (Nat.lt_of_lt_of_le h1 h.below.size)).trans (h.keep k h1 h2)⟩
theorem KB.set {e : TypeId} {B : Nat} {w w' : World} (h : KB e B w w') {g k : Nat} (v : Value) (hg : B ≤ g) (ht : ∀ u, w'.heap[g]? = some u → ∃ cu fr, u = .cells cu e fr) : KB e B w (w'.setCell ⟨g, k, none⟩ v) := by
  refine ⟨h.below.setCell (p := ⟨g, k, none⟩) hg v, fun j h1 h2 => ?_⟩
  have h3 := h.keep j h1 h2
  refine (heap_setCell_other w' ⟨g, k, none⟩ j v (fun e1 => ?_)).trans h3
  subst e1
  obtain ⟨cu, fr, e2⟩ := ht _ (h3.trans (Array.getElem?_eq_getElem h1))
  exact h2 cu fr ((Array.getElem?_eq_getElem h1).trans (congrArg some e2))
theorem KB.set2 {e : TypeId} {B : Nat} {w w' : World} (h : KB e B w w') {g k l : Nat} (u v : Value) (hg : B ≤ g) (ht : ∃ cu fr, w'.heap[g]? = some (.cells cu e fr)) : KB e B w ((w'.setCell ⟨g, k, none⟩ u).setCell ⟨g, l, none⟩ v) := by
  refine ⟨(h.below.setCell (p := ⟨g, k, none⟩) hg u).setCell (p := ⟨g, l, none⟩) hg v, fun j h1 h2 => ?_⟩
  have h3 := h.keep j h1 h2
  have hne : j ≠ g := by
    rintro rfl
    obtain ⟨cu, fr, e2⟩ := ht
    exact h2 cu fr (h3.symm.trans e2)
  exact (heap_setCell_other _ ⟨g, l, none⟩ j v hne).trans ((heap_setCell_other w' ⟨g, k, none⟩ j u hne).trans h3)
theorem KB.grown {e : TypeId} {B : Nat} {w w' w2 : World} {row : Option Nat} (h : KB e B w w') (hg : w'.grownBy w2 row) (hB : B ≤ w'.heap.size) (hr : ∀ g, row = some g → B ≤ g) (ht : ∀ g, row = some g → w.heap.size ≤ g ∨ ∃ cu fr, w'.heap[g]? = some (.cells cu e fr)) : KB e B w w2 := by
  refine ⟨h.below.grown hg hB hr, fun k h1 h2 => ?_⟩
  have h3 := h.keep k h1 h2
  refine (hg.block k (Nat.lt_of_lt_of_le h1 h.below.size) (fun e1 => ?_)).trans h3
  rcases ht k e1.symm with h4 | ⟨cu, fr, h4⟩
  · omega
  · exact h2 cu fr (h3.symm.trans h4)
theorem KB.then {e : TypeId} {B : Nat} {w w' w2 : World} (h : KB e B w w') (hB : B ≤ w'.heap.size) (hb : Below w'.heap.size w' w2) : KB e B w w2 :=
  ⟨h.below.trans (hb.mono hB), fun k h1 h2 => (hb.block k (Nat.lt_of_lt_of_le h1 h.below.size)).trans (h.keep k h1 h2)⟩
theorem owns_typed {w : World} {B : Nat} {e : TypeId} {s n : Nat} {v : Value} {xs : List Value} (h : w.ownsRow B e s v n xs) (g : Nat) (hg : v.ownBlock = some g) : ∃ cu fr, w.heap[g]? = some (.cells cu e fr) := by
  rcases h.2 with ⟨rfl, _⟩ | ⟨g', cap, cur, rfl, h2, h3, h4⟩
  · simp [Value.ownBlock] at hg
  · simp only [Value.ownBlock, Option.some.injEq] at hg
    subst hg
    exact ⟨cur, _, h3⟩
/-- The rows up to i are written over, of row i the first k numbers. -/
structure P1 (e se : TypeId) (mk : Nat → Nm) (bk : Array Value) (w : World) (B b : Nat) (iv : Value) (vs : List Value) (ns : List Nat) (i k : Nat) : Prop where
  ne : e ≠ se ∧ e ≠ 44 ∧ se ≠ 44
  book : BookAt w b bk
  hb : B ≤ b
  row : w.ownsRow B se 1 iv ns.length vs
  done : ∀ (j : Nat) (v : Value) (n : Nat), j < i → vs[j]? = some v → ns[j]? = some n → OwnZ w B e v (List.replicate n (mk j))
  mid : ∀ (v : Value) (n : Nat), vs[i]? = some v → ns[i]? = some n → ∃ ys : List Nm, k + ys.length = n ∧ OwnZ w B e v (List.replicate k (mk i) ++ ys)
  rest : ∀ (j : Nat) (v : Value) (n : Nat), i < j → vs[j]? = some v → ns[j]? = some n → ∃ zs : List Nm, zs.length = n ∧ OwnZ w B e v zs
  apart : ∀ (j j' : Nat) (v v' : Value) (g : Nat), j ≠ j' → vs[j]? = some v → vs[j']? = some v' → v.ownBlock = some g → v'.ownBlock ≠ some g
theorem book_apart {e : TypeId} {bk : Array Value} (hd : e ≠ 44) {w : World} {b base : Nat} {v : Value} {zs : List Nm} (hb : BookAt w b bk) (h : OwnZ w base e v zs) (g : Nat) (hg : v.ownBlock = some g) : g ≠ b := by
  rintro rfl
  rcases h.1.2 with ⟨h1, _⟩ | ⟨g', c, cur, h1, _, h3, _⟩
  · rw [h1] at hg; cases hg
  · rw [h1] at hg
    simp only [Value.ownBlock, Option.some.injEq] at hg
    subst hg
    rw [hb] at h3
    simp only [Option.some.injEq, Obj.cells.injEq] at h3
    exact hd h3.2.1.symm
theorem book_apartR {se : TypeId} {bk : Array Value} (hd : se ≠ 44) {w : World} {b base n : Nat} {v : Value} {xs : List Value} (hb : BookAt w b bk) (h : w.ownsRow base se 1 v n xs) (g : Nat) (hg : v.ownBlock = some g) : g ≠ b := by
  rintro rfl
  rcases h.2 with ⟨h1, _⟩ | ⟨g', c, cur, h1, _, h3, _⟩
  · rw [h1] at hg; cases hg
  · rw [h1] at hg
    simp only [Value.ownBlock, Option.some.injEq] at hg
    subst hg
    rw [hb] at h3
    simp only [Option.some.injEq, Obj.cells.injEq] at h3
    exact hd h3.2.1.symm
theorem P1.at {e se : TypeId} {mk : Nat → Nm} {bk : Array Value} {w : World} {B b : Nat} {iv : Value} {vs : List Value} {ns : List Nat} {i k : Nat} (h : P1 e se mk bk w B b iv vs ns i k) (j : Nat) (hj : j < ns.length) : ∃ g cap v, iv = .slice (some ⟨g, 0, none⟩) ns.length cap ∧ vs[j]? = some v ∧ w.cell? ⟨g, j, none⟩ = some v := by
  have hl : vs.length = ns.length := by have := h.row.1; omega
  rcases h.row.2 with ⟨_, h2⟩ | ⟨g, c, cur, h1, h2, h3, h4, h5, h6, h7⟩
  · omega
  · have hv : j < vs.length := by omega
    refine ⟨g, c, vs[j], h1, List.getElem?_eq_getElem hv, ?_⟩
    rw [cell_of_row w g j cur se (0, 0) h3]
    have : (cur.toList.take (ns.length * 1))[j]? = some vs[j] := by rw [h7]; exact List.getElem?_eq_getElem hv
    rw [List.getElem?_take_of_lt (by omega)] at this
    simpa using this
theorem P1.write {e se : TypeId} {mk : Nat → Nm} {bk : Array Value} {w : World} {B b : Nat} {iv : Value} {vs : List Value} {ns : List Nat} {i k n : Nat} {v : Value} (h : P1 e se mk bk w B b iv vs ns i k) (hv : vs[i]? = some v) (hn : ns[i]? = some n) (hk : k < n) :
    ∃ g cap, ∃ y : Nm, v = .slice (some ⟨g, 0, none⟩) n cap ∧ B ≤ g ∧ w.cell? ⟨g, k * 2, none⟩ = some (.int .i64 y.1) ∧ w.cell? ⟨g, k * 2 + 1, none⟩ = some (.int .i64 y.2) ∧ (∀ j, w.frozen? ⟨g, j, none⟩ = false) ∧ (∃ cu fr, w.heap[g]? = some (.cells cu e fr)) ∧ P1 e se mk bk ((w.setCell ⟨g, k * 2, none⟩ (.int .i64 (mk i).1)).setCell ⟨g, k * 2 + 1, none⟩ (.int .i64 (mk i).2)) B b iv vs ns i (k + 1) := by
  obtain ⟨ys, h1, h2⟩ := h.mid v n hv hn
  match ys, h1, h2 with
  | [], h1, _ => simp at h1; omega
  | y :: ys, h1, h2 =>
    obtain ⟨g, cap, e1, e2, e3, e4, e4b, e5, e6⟩ := ints_write h2
    simp only [List.length_cons] at h1
    rw [h1] at e1
    have hvg : v.ownBlock = some g := by rw [e1]; rfl
    have hot : ∀ g', g' ≠ g → ((w.setCell ⟨g, k * 2, none⟩ (.int .i64 (mk i).1)).setCell ⟨g, k * 2 + 1, none⟩ (.int .i64 (mk i).2)).heap[g']? = w.heap[g']? := fun g' h => (heap_setCell_other _ ⟨g, k * 2 + 1, none⟩ g' _ h).trans (heap_setCell_other w ⟨g, k * 2, none⟩ g' _ h)
    have hoth : ∀ {base e' s m : Nat} {r : Value} {xs : List Value}, w.ownsRow base e' s r m xs → r.ownBlock ≠ some g → ((w.setCell ⟨g, k * 2, none⟩ (.int .i64 (mk i).1)).setCell ⟨g, k * 2 + 1, none⟩ (.int .i64 (mk i).2)).ownsRow base e' s r m xs := fun ho hne =>
      owns_eq ho fun g' hg' => hot g' (fun e => hne (by rw [hg']; exact congrArg some e))
    refine ⟨g, cap, y, e1, e2, e4, e4b, e5, owns_typed h2.1 g hvg, ?_⟩
    refine ⟨h.ne, ?_, h.hb, ?_, ?_, ?_, ?_, h.apart⟩
    · exact (hot b (fun e => book_apart h.ne.2.1 h.book h2 g hvg e.symm)).trans h.book
    · exact hoth h.row (types_apart h2.1 h.row h.ne.1 g hvg)
    · intro j v' n' hj hv' hn'
      have h5 := h.done j v' n' hj hv' hn'
      exact ⟨hoth h5.1 (h.apart i j v v' g (by omega) hv hv' hvg), h5.2⟩
    · intro v' n' hv' hn'
      rw [hv] at hv'; cases hv'
      rw [hn] at hn'; cases hn'
      exact ⟨ys, by omega, e6⟩
    · intro j v' n' hj hv' hn'
      obtain ⟨zs, h5, h6⟩ := h.rest j v' n' hj hv' hn'
      exact ⟨zs, h5, hoth h6.1 (h.apart i j v v' g (by omega) hv hv' hvg), h6.2⟩
theorem P1.next {e se : TypeId} {mk : Nat → Nm} {bk : Array Value} {w : World} {B b : Nat} {iv : Value} {vs : List Value} {ns : List Nat} {i n : Nat} (h : P1 e se mk bk w B b iv vs ns i n) (hn : ns[i]? = some n) : P1 e se mk bk w B b iv vs ns (i + 1) 0 := by
  refine ⟨h.ne, h.book, h.hb, h.row, ?_, ?_, ?_, h.apart⟩
  · intro j v m hj hv hm
    by_cases e : j = i
    · subst e
      rw [hn] at hm; cases hm
      obtain ⟨ys, h1, h2⟩ := h.mid v n hv hn
      have : ys = [] := List.eq_nil_of_length_eq_zero (by omega)
      subst this
      simpa using h2
    · exact h.done j v m (by omega) hv hm
  · intro v m hv hm
    obtain ⟨zs, h1, h2⟩ := h.rest (i + 1) v m (by omega) hv hm
    exact ⟨zs, by omega, by simpa using h2⟩
  · intro j v m hj hv hm
    exact h.rest j v m (by omega) hv hm
/-- The rows up to i are grown. -/
structure P2 (e se : TypeId) (mk : Nat → Nm) (bk : Array Value) (w0 w : World) (B b : Nat) (iv allv : Value) (vs us : List Value) (ns : List Nat) (i : Nat) : Prop where
  ne : e ≠ se ∧ e ≠ 44 ∧ se ≠ 44
  book : BookAt w b bk
  hb : B ≤ b
  row : w.ownsRow B se 1 iv ns.length vs
  size : w0.heap.size ≤ w.heap.size
  all : w.ownsRow w0.heap.size se 1 allv i us
  grown : ∀ (j : Nat) (u : Value) (n : Nat), us[j]? = some u → ns[j]? = some n → OwnZ w B e u (List.replicate (n + 20) (mk j))
  upart : ∀ (j j' : Nat) (u u' : Value) (g : Nat), j ≠ j' → us[j]? = some u → us[j']? = some u' → u.ownBlock = some g → u'.ownBlock ≠ some g
  loc : ∀ (j : Nat) (u v : Value) (g : Nat), us[j]? = some u → vs[j]? = some v → u.ownBlock = some g → v.ownBlock = some g ∨ w0.heap.size ≤ g
  read : ∀ (j : Nat) (v : Value) (n : Nat), j < i → vs[j]? = some v → ns[j]? = some n → RdI w v n (mk j)
  rest : ∀ (j : Nat) (v : Value) (n : Nat), i ≤ j → vs[j]? = some v → ns[j]? = some n → OwnZ w B e v (List.replicate n (mk j))
  apart : ∀ (j j' : Nat) (v v' : Value) (g : Nat), j ≠ j' → vs[j]? = some v → vs[j']? = some v' → v.ownBlock = some g → v'.ownBlock ≠ some g
  low : ∀ (j : Nat) (v : Value) (g : Nat), vs[j]? = some v → v.ownBlock = some g → g < w0.heap.size
  ilow : ∀ g, iv.ownBlock = some g → g < w0.heap.size
/-- .. and row i by k places: gv. -/
structure P3 (e se : TypeId) (mk : Nat → Nm) (bk : Array Value) (w0 w : World) (B b : Nat) (iv allv gv v : Value) (vs us : List Value) (ns : List Nat) (i n k : Nat) : Prop where
  ne : e ≠ se ∧ e ≠ 44 ∧ se ≠ 44
  book : BookAt w b bk
  hb : B ≤ b
  row : w.ownsRow B se 1 iv ns.length vs
  size : w0.heap.size ≤ w.heap.size
  all : w.ownsRow w0.heap.size se 1 allv i us
  grown : ∀ (j : Nat) (u : Value) (n : Nat), us[j]? = some u → ns[j]? = some n → OwnZ w B e u (List.replicate (n + 20) (mk j))
  upart : ∀ (j j' : Nat) (u u' : Value) (g : Nat), j ≠ j' → us[j]? = some u → us[j']? = some u' → u.ownBlock = some g → u'.ownBlock ≠ some g
  loc : ∀ (j : Nat) (u v : Value) (g : Nat), us[j]? = some u → vs[j]? = some v → u.ownBlock = some g → v.ownBlock = some g ∨ w0.heap.size ≤ g
  read : ∀ (j : Nat) (v : Value) (n : Nat), j < i → vs[j]? = some v → ns[j]? = some n → RdI w v n (mk j)
  rest : ∀ (j : Nat) (v : Value) (n : Nat), i < j → vs[j]? = some v → ns[j]? = some n → OwnZ w B e v (List.replicate n (mk j))
  apart : ∀ (j j' : Nat) (v v' : Value) (g : Nat), j ≠ j' → vs[j]? = some v → vs[j']? = some v' → v.ownBlock = some g → v'.ownBlock ≠ some g
  low : ∀ (j : Nat) (v : Value) (g : Nat), vs[j]? = some v → v.ownBlock = some g → g < w0.heap.size
  ilow : ∀ g, iv.ownBlock = some g → g < w0.heap.size
  hv : vs[i]? = some v
  hn : ns[i]? = some n
  own : OwnZ w B e gv (List.replicate (n + k) (mk i))
  gloc : ∀ g, gv.ownBlock = some g → v.ownBlock = some g ∨ w0.heap.size ≤ g
  gpart : ∀ (j : Nat) (u : Value) (g : Nat), us[j]? = some u → gv.ownBlock = some g → u.ownBlock ≠ some g
  mid : RdI w v n (mk i)
theorem P1.to2 {e se : TypeId} {mk : Nat → Nm} {bk : Array Value} {w : World} {B b : Nat} {iv : Value} {vs : List Value} {ns : List Nat} (h : P1 e se mk bk w B b iv vs ns ns.length 0) : P2 e se mk bk w w B b iv nilV vs [] ns 0 := by
  have hl : vs.length = ns.length := by have := h.row.1; omega
  have hall : ∀ (j : Nat) (v : Value) (n : Nat), vs[j]? = some v → ns[j]? = some n → OwnZ w B e v (List.replicate n (mk j)) := fun j v n hv hn => h.done j v n (List.getElem?_eq_some_iff.1 hn).1 hv hn
  refine ⟨h.ne, h.book, h.hb, h.row, Nat.le_refl _, World.ownsRow_nil _ _ _ _, by simp, by simp, by simp, fun j v n hj => by omega, fun j v n _ hv hn => hall j v n hv hn, h.apart, ?_, fun g hg => (h.row.lt g hg).2⟩
  intro j v g hv hg
  have hj : j < ns.length := by rw [← hl]; exact (List.getElem?_eq_some_iff.1 hv).1
  exact ((hall j v _ hv (List.getElem?_eq_getElem hj)).1.lt g hg).2
theorem P2.start {e se : TypeId} {mk : Nat → Nm} {bk : Array Value} {w0 w : World} {B b : Nat} {iv allv : Value} {vs us : List Value} {ns : List Nat} {i n : Nat} {v : Value} (h : P2 e se mk bk w0 w B b iv allv vs us ns i) (hv : vs[i]? = some v) (hn : ns[i]? = some n) : P3 e se mk bk w0 w B b iv allv v v vs us ns i n 0 := by
  have hu : us.length = i := by have := h.all.1; omega
  refine ⟨h.ne, h.book, h.hb, h.row, h.size, h.all, h.grown, h.upart, h.loc, h.read, fun j v n hj => h.rest j v n (by omega), h.apart, h.low, h.ilow, hv, hn, h.rest i v n (Nat.le_refl _) hv hn, fun g hg => .inl hg, ?_, ?_⟩
  · intro j u g hu' hg hug
    have hj : j < i := by rw [← hu]; exact (List.getElem?_eq_some_iff.1 hu').1
    have hl : vs.length = ns.length := by have := h.row.1; omega
    have hi : i < vs.length := (List.getElem?_eq_some_iff.1 hv).1
    have hvj : vs[j]? = some vs[j] := List.getElem?_eq_getElem (by omega)
    rcases h.loc j u vs[j] g hu' hvj hug with e | e
    · exact h.apart i j v vs[j] g (by omega) hv hvj hg e
    · have := h.low i v g hv hg
      omega
  · have ho := h.rest i v n (Nat.le_refl _) hv hn
    obtain ⟨ad, cap, e⟩ := ints_form ho
    rw [List.length_replicate] at e
    refine rd_of ho (Nat.le_refl _) ad cap e ?_
    rcases ho.1.2 with ⟨h1, h2⟩ | ⟨g, c, cur, h1, _⟩
    · left; simpa using h2
    · right
      rw [h1] at e
      simp only [Value.slice.injEq] at e
      exact ⟨g, e.1.symm, by rw [h1]; rfl⟩
/-- All blocks stay. -/
theorem P3.eq {e se : TypeId} {mk : Nat → Nm} {bk : Array Value} {w0 w w' : World} {B b : Nat} {iv allv gv v : Value} {vs us : List Value} {ns : List Nat} {i n k : Nat} (h : P3 e se mk bk w0 w B b iv allv gv v vs us ns i n k) (hb : Below w.heap.size w w') : P3 e se mk bk w0 w' B b iv allv gv v vs us ns i n k := by
  have ho : ∀ {base e' s m : Nat} {r : Value} {xs : List Value}, w.ownsRow base e' s r m xs → w'.ownsRow base e' s r m xs := fun ho => owns_eq ho fun g hg => hb.block g (ho.lt g hg).2
  have hi : ∀ {base : Nat} {r : Value} {zs : List Nm}, OwnZ w base e r zs → OwnZ w' base e r zs := fun h => ⟨ho h.1, h.2⟩
  have hr : ∀ {r : Value} {m : Nat} {x : Nm}, RdI w r m x → RdI w' r m x := fun {r m x} h => by
    obtain ⟨ad, cap, rfl, h | ⟨g, rfl, h1, h2⟩⟩ := h
    · exact ⟨ad, cap, rfl, .inl h⟩
    · exact RdI.eq ⟨_, cap, rfl, .inr ⟨g, rfl, h1, h2⟩⟩ hb.size (fun g' hg' => by cases hg'; exact hb.block g h1)
  exact ⟨h.ne, (hb.block b (Array.getElem?_eq_some_iff.1 h.book).1).trans h.book, h.hb, ho h.row, Nat.le_trans h.size hb.size, ho h.all, fun j u n h1 h2 => hi (h.grown j u n h1 h2), h.upart, h.loc, fun j v n h1 h2 h3 => hr (h.read j v n h1 h2 h3), fun j v n h1 h2 h3 => hi (h.rest j v n h1 h2 h3), h.apart, h.low, h.ilow, h.hv, h.hn, hi h.own, h.gloc, h.gpart, hr h.mid⟩
theorem P2.eq {e se : TypeId} {mk : Nat → Nm} {bk : Array Value} {w0 w w' : World} {B b : Nat} {iv allv : Value} {vs us : List Value} {ns : List Nat} {i : Nat} (h : P2 e se mk bk w0 w B b iv allv vs us ns i) (hb : Below w.heap.size w w') : P2 e se mk bk w0 w' B b iv allv vs us ns i := by
  have ho : ∀ {base e' s m : Nat} {r : Value} {xs : List Value}, w.ownsRow base e' s r m xs → w'.ownsRow base e' s r m xs := fun ho => owns_eq ho fun g hg => hb.block g (ho.lt g hg).2
  have hi : ∀ {base : Nat} {r : Value} {zs : List Nm}, OwnZ w base e r zs → OwnZ w' base e r zs := fun h => ⟨ho h.1, h.2⟩
  have hr : ∀ {r : Value} {m : Nat} {x : Nm}, RdI w r m x → RdI w' r m x := fun {r m x} h => by
    obtain ⟨ad, cap, rfl, h | ⟨g, rfl, h1, h2⟩⟩ := h
    · exact ⟨ad, cap, rfl, .inl h⟩
    · exact RdI.eq ⟨_, cap, rfl, .inr ⟨g, rfl, h1, h2⟩⟩ hb.size (fun g' hg' => by cases hg'; exact hb.block g h1)
  exact ⟨h.ne, (hb.block b (Array.getElem?_eq_some_iff.1 h.book).1).trans h.book, h.hb, ho h.row, Nat.le_trans h.size hb.size, ho h.all, fun j u n h1 h2 => hi (h.grown j u n h1 h2), h.upart, h.loc, fun j v n h1 h2 h3 => hr (h.read j v n h1 h2 h3), fun j v n h1 h2 h3 => hi (h.rest j v n h1 h2 h3), h.apart, h.low, h.ilow⟩
/-- One number more. -/
theorem P3.step {e se : TypeId} {mk : Nat → Nm} {bk : Array Value} {w0 w w' : World} {B b : Nat} {iv allv gv gv' v : Value} {vs us : List Value} {ns : List Nat} {i n k : Nat} (h : P3 e se mk bk w0 w B b iv allv gv v vs us ns i n k) (hown : OwnZ w' B e gv' (List.replicate (n + (k + 1)) (mk i))) (hgr : w.grownBy w' gv.ownBlock) (hloc : gv'.ownBlock = gv.ownBlock ∨ (gv'.ownBlock = some w.heap.size ∧ w.grownBy w' none)) : P3 e se mk bk w0 w' B b iv allv gv' v vs us ns i n (k + 1) := by
  have hblk : ∀ g, g < w.heap.size → gv.ownBlock ≠ some g → w'.heap[g]? = w.heap[g]? := fun g h1 h2 => hgr.block g h1 (fun e => h2 e.symm)
  have ho : ∀ {base e' s m : Nat} {r : Value} {xs : List Value}, w.ownsRow base e' s r m xs → (∀ g, gv.ownBlock = some g → r.ownBlock ≠ some g) → w'.ownsRow base e' s r m xs := fun {base e' s m r xs} ho hne => owns_eq ho fun g hg => hblk g (ho.lt g hg).2 (fun e => hne g e hg)
  have hvj : ∀ (j : Nat) (x : Value), j ≠ i → vs[j]? = some x → ∀ g, gv.ownBlock = some g → x.ownBlock ≠ some g := by
    intro j x hj hx g hg hxg
    rcases h.gloc g hg with e | e
    · exact h.apart i j v x g (fun e => hj e.symm) h.hv hx e hxg
    · have := h.low j x g hx hxg
      omega
  refine ⟨h.ne, ?_, h.hb, ?_, Nat.le_trans h.size hgr.size, ?_, ?_, h.upart, h.loc, ?_, ?_, h.apart, h.low, h.ilow, h.hv, h.hn, hown, ?_, ?_, ?_⟩
  · exact (hblk b (Array.getElem?_eq_some_iff.1 h.book).1 (fun e => book_apart h.ne.2.1 h.book h.own b e rfl)).trans h.book
  · exact ho h.row (fun g hg => types_apart h.own.1 h.row h.ne.1 g hg)
  · exact ho h.all (fun g hg => types_apart h.own.1 h.all h.ne.1 g hg)
  · intro j u m hu hm
    have h5 := h.grown j u m hu hm
    exact ⟨ho h5.1 (fun g hg => h.gpart j u g hu hg), h5.2⟩
  · intro j x m hj hx hm
    refine (h.read j x m hj hx hm).eq hgr.size fun g hg => ?_
    have hlt := h.low j x g hx hg
    exact hblk g (Nat.lt_of_lt_of_le hlt h.size) (fun e => hvj j x (by omega) hx g e hg)
  · intro j x m hj hx hm
    have h5 := h.rest j x m hj hx hm
    exact ⟨ho h5.1 (fun g hg => hvj j x (by omega) hx g hg), h5.2⟩
  · intro g hg
    rcases hloc with e | ⟨e, _⟩
    · exact h.gloc g (by rw [← e]; exact hg)
    · rw [e] at hg
      cases hg
      exact .inr h.size
  · intro j u g hu hg
    rcases hloc with e | ⟨e, _⟩
    · exact h.gpart j u g hu (by rw [← e]; exact hg)
    · rw [e] at hg
      cases hg
      intro hug
      have hj : j < ns.length := by
        have h1 := h.all.1
        have h2 := (List.getElem?_eq_some_iff.1 hu).1
        have h3 := (List.getElem?_eq_some_iff.1 h.hn).1
        omega
      have := ((h.grown j u _ hu (List.getElem?_eq_getElem hj)).1.lt _ hug).2
      omega
  · obtain ⟨ad, cap, hvf, hm⟩ := h.mid
    rcases hm with hm | ⟨g, e1, e2, e3⟩
    · exact ⟨ad, cap, hvf, .inl hm⟩
    · have hvg : v.ownBlock = some g := by rw [hvf, e1]; rfl
      have hsame : w'.heap[g]? = w.heap[g]? → RdI w' v n (mk i) := fun hh =>
        RdI.eq ⟨ad, cap, hvf, .inr ⟨g, e1, e2, e3⟩⟩ hgr.size (fun g' hg' => by rw [hvg] at hg'; cases hg'; exact hh)
      by_cases hg : gv.ownBlock = some g
      · rcases hloc with e | ⟨_, hn⟩
        · exact rd_of hown (by omega) ad cap hvf (.inr ⟨g, e1, by rw [e]; exact hg⟩)
        · exact hsame (hn.block g e2 (by simp))
      · exact hsame (hblk g e2 hg)
/-- The row is put behind the others. -/
theorem P3.put {e se : TypeId} {mk : Nat → Nm} {bk : Array Value} {w0 w w' : World} {B b : Nat} {iv allv allv' gv v : Value} {vs us : List Value} {ns : List Nat} {i n : Nat} (h : P3 e se mk bk w0 w B b iv allv gv v vs us ns i n 20) (hown : w'.ownsRow w0.heap.size se 1 allv' (i + 1) (us ++ [gv])) (hgr : w.grownBy w' allv.ownBlock) : P2 e se mk bk w0 w' B b iv allv' vs (us ++ [gv]) ns (i + 1) := by
  have hul : us.length = i := by have := h.all.1; omega
  have hblk : ∀ g, g < w.heap.size → allv.ownBlock ≠ some g → w'.heap[g]? = w.heap[g]? := fun g h1 h2 => hgr.block g h1 (fun e => h2 e.symm)
  have hi : ∀ {r : Value} {zs : List Nm}, OwnZ w B e r zs → OwnZ w' B e r zs := fun {r zs} hh => ints_eq hh fun g hg => hblk g (hh.1.lt g hg).2 (types_apart hh.1 h.all h.ne.1 g hg)
  have hlow : ∀ g, g < w0.heap.size → w'.heap[g]? = w.heap[g]? := fun g hg => hblk g (Nat.lt_of_lt_of_le hg h.size) (fun e => by have := (h.all.lt g e).1; omega)
  have hget : ∀ (j : Nat) (u : Value), (us ++ [gv])[j]? = some u → (j < i ∧ us[j]? = some u) ∨ (j = i ∧ u = gv) := by
    intro j u hu
    by_cases hj : j < i
    · rw [List.getElem?_append_left (by omega)] at hu
      exact .inl ⟨hj, hu⟩
    · rw [List.getElem?_append_right (by omega)] at hu
      have h0 : j - us.length = 0 := by
        have := (List.getElem?_eq_some_iff.1 hu).1
        simp at this; omega
      rw [h0] at hu
      simp at hu
      exact .inr ⟨by omega, hu.symm⟩
  refine ⟨h.ne, ?_, h.hb, ?_, Nat.le_trans h.size hgr.size, hown, ?_, ?_, ?_, ?_, ?_, h.apart, h.low, h.ilow⟩
  · exact (hblk b (Array.getElem?_eq_some_iff.1 h.book).1 (fun e => book_apartR h.ne.2.2 h.book h.all b e rfl)).trans h.book
  · exact owns_eq h.row fun g hg => hlow g (h.ilow g hg)
  · intro j u m hu hm
    rcases hget j u hu with ⟨_, hu⟩ | ⟨rfl, rfl⟩
    · exact hi (h.grown j u m hu hm)
    · rw [h.hn] at hm; cases hm
      exact hi h.own
  · intro j j' u u' g hne hu hu' hg
    rcases hget j u hu with ⟨_, hu1⟩ | ⟨hj, e1⟩
    · rcases hget j' u' hu' with ⟨_, hu2⟩ | ⟨_, e2⟩
      · exact h.upart j j' u u' g hne hu1 hu2 hg
      · rw [e2]
        exact fun e => h.gpart j u g hu1 e hg
    · rcases hget j' u' hu' with ⟨_, hu2⟩ | ⟨hj', _⟩
      · exact h.gpart j' u' g hu2 (by rw [← e1]; exact hg)
      · exact absurd (hj.trans hj'.symm) hne
  · intro j u x g hu hx hg
    rcases hget j u hu with ⟨_, hu⟩ | ⟨rfl, rfl⟩
    · exact h.loc j u x g hu hx hg
    · rw [h.hv] at hx; cases hx
      exact h.gloc g hg
  · intro j x m hj hx hm
    have hr : RdI w x m (mk j) := by
      by_cases e : j = i
      · subst e
        rw [h.hv] at hx; cases hx
        rw [h.hn] at hm; cases hm
        exact h.mid
      · exact h.read j x m (by omega) hx hm
    exact hr.eq hgr.size fun g hg => hlow g (h.low j x g hx hg)
  · intro j x m hj hx hm
    exact hi (h.rest j x m (by omega) hx hm)
end Go.Proofs.YtojobiefambkoaaGreatDoor.Bk
