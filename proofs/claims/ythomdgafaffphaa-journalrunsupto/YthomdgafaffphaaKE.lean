/- Deeds that are handed in; how things lie while they are done. -/
import Derived.Test.YthomdgafaffphaaKD
import Derived.Laws.AppendOwnNone
import Derived.Maps.AppendAt
namespace Go.Proofs.Ythomdgafaffphaa
open Go.RowKit
/-- A deed. -/
structure Dj where
  kd : Int
  kn : Int
  a : Option Addr
  n : Nat
  c : Nat
  p : List Int
def Dj.vals (d : Dj) : List Value := [.int .i64 d.kd, .int .i64 d.kn, .slice d.a d.n d.c]
def flatJ : List Dj → List Value
  | [] => []
  | d :: r => d.vals ++ flatJ r
theorem flatJ_len : ∀ l : List Dj, (flatJ l).length = l.length * 3
  | [] => rfl
  | d :: r => by simp [flatJ, Dj.vals, flatJ_len r]; omega
theorem flatJ_get : ∀ (l : List Dj) (i j : Nat) (hi : i < l.length), j < 3 → (flatJ l)[i * 3 + j]? = (l[i].vals)[j]?
  | d :: r, 0, j, _, hj => by
    simp only [flatJ, Nat.zero_mul, Nat.zero_add, List.getElem_cons_zero]
    rw [List.getElem?_append_left (by simp [Dj.vals]; exact hj)]
  | d :: r, i + 1, j, hi, hj => by
    simp only [flatJ, List.getElem_cons_succ]
    rw [List.getElem?_append_right (by simp [Dj.vals]; omega)]
    have e : (i + 1) * 3 + j - d.vals.length = i * 3 + j := by simp [Dj.vals]; omega
    rw [e]
    exact flatJ_get r i j (by simpa using hi) hj
/-- How much deeds may add. -/
def sumJ : List Dj → Nat
  | [] => 0
  | d :: r => (8 + d.n) + sumJ r
theorem sumJ_take : ∀ (es : List Dj) (k : Nat), sumJ (es.take k) ≤ sumJ es
  | [], k => by simp
  | d :: r, 0 => by simp [sumJ]
  | d :: r, k + 1 => by simp only [List.take_succ_cons, sumJ]; have := sumJ_take r k; omega
theorem sumJ_succ : ∀ (es : List Dj) (k : Nat) (hk : k < es.length), sumJ (es.take (k + 1)) = sumJ (es.take k) + (8 + es[k].n)
  | d :: r, 0, _ => by simp [sumJ]
  | d :: r, k + 1, hk => by
    simp only [List.take_succ_cons, sumJ, List.getElem_cons_succ]
    rw [sumJ_succ r k (by simpa using hk)]
    omega
structure DjRow (w : World) (a : Option Addr) (n : Nat) (es : List Dj) : Prop where
  len : es.length = n
  mem : n = 0 ∨ ∃ b o, a = some ⟨b, o, none⟩ ∧ b < w.heap.size ∧ w.rangeAt b o (flatJ es)
  each : ∀ e ∈ es, By w e.a e.n e.c e.p ∧ (e.n = 0 ∨ ∀ k, blk e.a = some k → k < w.heap.size)
theorem DjRow.at {w : World} {a : Option Addr} {n : Nat} {es : List Dj} (h : DjRow w a n es) (k : Nat) (hk : k < n) : ∃ b o, ∃ (hx : k < es.length), a = some ⟨b, o, none⟩ ∧ (By w es[k].a es[k].n es[k].c es[k].p ∧ (es[k].n = 0 ∨ ∀ j, blk es[k].a = some j → j < w.heap.size)) ∧ ∀ w', Below w.heap.size w w' →
    w'.cell? ⟨b, o + k * 3, none⟩ = some (.int .i64 es[k].kd) ∧ w'.cell? ⟨b, o + k * 3 + 1, none⟩ = some (.int .i64 es[k].kn) ∧ w'.cell? ⟨b, o + k * 3 + 2, none⟩ = some (.slice es[k].a es[k].n es[k].c) := by
  rcases h.mem with e | ⟨b, o, e, hb, hr⟩
  · omega
  · have hi : k < es.length := by rw [h.len]; exact hk
    refine ⟨b, o, hi, e, h.each _ (List.getElem_mem hi), fun w' hw => ?_⟩
    have key : ∀ j, j < 3 → ∀ v, (es[k].vals)[j]? = some v → w'.cell? ⟨b, o + k * 3 + j, none⟩ = some v := fun j hj v hv => by
      have h1 := hr (k * 3 + j) v (by rw [flatJ_get es k j hi hj]; exact hv)
      rw [← Nat.add_assoc] at h1
      exact (hw.cell (p := ⟨b, o + k * 3 + j, none⟩) hb).trans h1
    exact ⟨key 0 (by omega) _ rfl, key 1 (by omega) _ rfl, key 2 (by omega) _ rfl⟩
/-- An old pair. -/
structure Od where
  lb : Nat
  rb : Nat
  xs : List Int
def flatO : List Od → List Value
  | [] => []
  | d :: r => [.pointer (some ⟨d.lb, 0, none⟩), .pointer (some ⟨d.rb, 0, none⟩)] ++ flatO r
theorem flatO_len : ∀ l : List Od, (flatO l).length = l.length * 2
  | [] => rfl
  | d :: r => by simp [flatO, flatO_len r]; omega
theorem flatO_append : ∀ (l m : List Od), flatO (l ++ m) = flatO l ++ flatO m
  | [], _ => rfl
  | d :: r, m => by simp [flatO, flatO_append r m]
theorem flatO_get : ∀ (l : List Od) (i : Nat) (hi : i < l.length), (flatO l)[i * 2]? = some (.pointer (some ⟨l[i].lb, 0, none⟩)) ∧ (flatO l)[i * 2 + 1]? = some (.pointer (some ⟨l[i].rb, 0, none⟩))
  | d :: r, 0, _ => by simp [flatO]
  | d :: r, i + 1, hi => by
    have h := flatO_get r i (by simpa using hi)
    have e : (i + 1) * 2 = i * 2 + 2 := by omega
    simp only [flatO, List.getElem_cons_succ, e]
    exact h
theorem flatO_one (l : List Od) : ∀ u ∈ flatO l, u.oneCell' = true := by
  induction l with
  | nil => intro u hu; cases hu
  | cons d r ih =>
    intro u hu
    simp only [flatO, List.cons_append, List.nil_append, List.mem_cons] at hu
    rcases hu with rfl | rfl | hu
    · rfl
    · rfl
    · exact ih u hu
/-- An old pair stands as it did, below B. -/
def OdOk (w : World) (B : Nat) (o : Od) : Prop := ∃ s t, Pr w 0 o.lb o.rb s t o.xs ∧ (∀ g, (g = o.lb ∨ g = o.rb ∨ blk s.a = some g ∨ blk t.a = some g) → g < B) ∧ o.xs.length ≤ 100000000
theorem OdOk.below {w w' : World} {B B' : Nat} {o : Od} (h : OdOk w B o) (hb : Below B w w') (hB : B ≤ B') : OdOk w' B' o := by
  obtain ⟨s, t, h1, h2, h3⟩ := h
  exact ⟨s, t, h1.keeps fun g hg => hb.block g (h2 g hg), fun g hg => Nat.lt_of_lt_of_le (h2 g hg) hB, h3⟩
/-- How things lie at the beginning of a round. -/
structure RunS (w0 w : World) (bb B lb rb : Nat) (s t : Sl) (xs : List Int) (ov : Value) (olds : List Od) : Prop where
  pr : Pr w B lb rb s t xs
  box : w.heap[bb]? = some (.cells #[.pointer (some ⟨lb, 0, none⟩), .pointer (some ⟨rb, 0, none⟩)] 50 (0, 0))
  bel : Below w0.heap.size w0 w
  old : w.ownsRow w0.heap.size 50 2 ov olds.length (flatO olds)
  oldb : ov.ownBlock ≠ some bb
  ok : ∀ o ∈ olds, OdOk w B o
  lo : w0.heap.size ≤ B
  bbB : w0.heap.size ≤ bb
structure RunB (w0 w : World) (bb lb rb : Nat) (ov : Value) (olds : List Od) : Prop where
  box : w.heap[bb]? = some (.cells #[.pointer (some ⟨lb, 0, none⟩), .pointer (some ⟨rb, 0, none⟩)] 50 (0, 0))
  bel : Below w0.heap.size w0 w
  old : w.ownsRow w0.heap.size 50 2 ov olds.length (flatO olds)
  oldb : ov.ownBlock ≠ some bb
  ok : ∀ o ∈ olds, OdOk w w.heap.size o
  bbB : w0.heap.size ≤ bb
theorem owns_slice {w : World} {base : Nat} {e : TypeId} {size : Nat} {v : Value} {n : Nat} {xs : List Value} (h : w.ownsRow base e size v n xs) : ∃ a c, v = .slice a n c := by
  rcases h.2 with ⟨h1, h2⟩ | ⟨g, cap, cur, h1, _⟩
  · subst h2; exact ⟨_, _, h1⟩
  · exact ⟨_, _, h1⟩
theorem owns_type {w : World} {base : Nat} {e : TypeId} {size : Nat} {v : Value} {n : Nat} {xs : List Value} (h : w.ownsRow base e size v n xs) {g : Nat} (hg : v.ownBlock = some g) : ∃ cu : Array Value, w.heap[g]? = some (.cells cu e (0, 0)) ∧ base ≤ g := by
  rcases h.2 with ⟨rfl, _⟩ | ⟨g', cap, cur, rfl, h2, h3, _⟩
  · cases hg
  · cases hg; exact ⟨cur, h3, h2⟩
theorem owns_keep {w w' : World} {base : Nat} {e : TypeId} {size : Nat} {v : Value} {n : Nat} {xs : List Value} (h : w.ownsRow base e size v n xs) (hk : ∀ g, v.ownBlock = some g → w'.heap[g]? = w.heap[g]?) : w'.ownsRow base e size v n xs := by
  refine ⟨h.1, ?_⟩
  rcases h.2 with h1 | ⟨g', cap, cur, rfl, h2, h3, h4⟩
  · exact .inl h1
  · exact .inr ⟨g', cap, cur, rfl, h2, (hk g' rfl).trans h3, h4⟩
section
variable {w0 w w' : World} {bb B lb rb : Nat} {s t : Sl} {xs : List Int} {ov : Value} {olds : List Od}
theorem RunS.size (h : RunS w0 w bb B lb rb s t xs ov olds) : B ≤ w.heap.size := Nat.le_of_lt (Nat.lt_of_le_of_lt h.pr.hl h.pr.log.lt)
theorem RunS.below (h : RunS w0 w bb B lb rb s t xs ov olds) (hb : Below w.heap.size w w') : RunS w0 w' bb B lb rb s t xs ov olds :=
  ⟨h.pr.below hb, (hb.block bb (Array.getElem?_eq_some_iff.1 h.box).1).trans h.box, h.bel.trans (hb.mono h.bel.size), owns_keep h.old fun g hg => hb.block g (by obtain ⟨cu, h1, _⟩ := owns_type h.old hg; exact (Array.getElem?_eq_some_iff.1 h1).1), h.oldb, fun o ho => (h.ok o ho).below (hb.mono h.size) (Nat.le_refl _), h.lo, h.bbB⟩
theorem RunS.cells (h : RunS w0 w bb B lb rb s t xs ov olds) : w.cell? ⟨bb, 0, none⟩ = some (.pointer (some ⟨lb, 0, none⟩)) ∧ w.cell? ⟨bb, 1, none⟩ = some (.pointer (some ⟨rb, 0, none⟩)) ∧ w.frozen? ⟨bb, 0, none⟩ = false ∧ w.frozen? ⟨bb, 1, none⟩ = false :=
  ⟨by rw [cell_of_row w bb 0 _ 50 (0, 0) h.box]; rfl, by rw [cell_of_row w bb 1 _ 50 (0, 0) h.box]; rfl, frozen_of_row w bb 0 _ 50 h.box, frozen_of_row w bb 1 _ 50 h.box⟩
/-- Behind do. -/
theorem RunS.did {pn : Nat} (h : RunS w0 w bb B lb rb s t xs ov olds) (hd : DoPost w s.a B lb rb pn xs w') : ∃ s' t' zs, RunS w0 w' bb B lb rb s' t' zs ov olds ∧ zs.length ≤ xs.length + (8 + pn) := by
  obtain ⟨s', t', zs, h1, h2, h3, h4, h5⟩ := hd
  have key : ∀ (k : Nat) (cu : Array Value), w.heap[k]? = some (.cells cu 50 (0, 0)) → w'.heap[k]? = w.heap[k]? := fun k cu hk => by
    refine h5 k (Array.getElem?_eq_some_iff.1 hk).1 (fun e => ?_) (fun e => ?_) (fun e => ?_)
    · rw [e, h.pr.log.blk] at hk; cases hk
    · rw [e, h.pr.rf.blk] at hk; cases hk
    · obtain ⟨cu2, h6⟩ := h.pr.log.row.type e
      rw [hk] at h6; cases h6
  exact ⟨s', t', zs, ⟨h1, (key bb _ h.box).trans h.box, h.bel.trans (h3.mono h.lo), owns_keep h.old fun g hg => by obtain ⟨cu, h6, _⟩ := owns_type h.old hg; exact key g cu h6, h.oldb, fun o ho => (h.ok o ho).below h3 (Nat.le_refl _), h.lo, h.bbB⟩, h2⟩
theorem RunS.toB (h : RunS w0 w bb B lb rb s t xs ov olds) : RunB w0 w bb lb rb ov olds :=
  ⟨h.box, h.bel, h.old, h.oldb, fun o ho => (h.ok o ho).below (Below.refl _ _) h.size, h.bbB⟩
theorem RunB.below (h : RunB w0 w bb lb rb ov olds) (hb : Below w.heap.size w w') : RunB w0 w' bb lb rb ov olds :=
  ⟨(hb.block bb (Array.getElem?_eq_some_iff.1 h.box).1).trans h.box, h.bel.trans (hb.mono h.bel.size), owns_keep h.old fun g hg => hb.block g (by obtain ⟨cu, h1, _⟩ := owns_type h.old hg; exact (Array.getElem?_eq_some_iff.1 h1).1), h.oldb, fun o ho => (h.ok o ho).below hb hb.size, h.bbB⟩
theorem RunB.cells (h : RunB w0 w bb lb rb ov olds) : w.cell? ⟨bb, 0, none⟩ = some (.pointer (some ⟨lb, 0, none⟩)) ∧ w.cell? ⟨bb, 1, none⟩ = some (.pointer (some ⟨rb, 0, none⟩)) ∧ w.frozen? ⟨bb, 0, none⟩ = false ∧ w.frozen? ⟨bb, 1, none⟩ = false :=
  ⟨by rw [cell_of_row w bb 0 _ 50 (0, 0) h.box]; rfl, by rw [cell_of_row w bb 1 _ 50 (0, 0) h.box]; rfl, frozen_of_row w bb 0 _ 50 h.box, frozen_of_row w bb 1 _ 50 h.box⟩
/-- A new pair in place of the old one. -/
theorem RunB.fresh (h : RunB w0 w bb lb rb ov olds) {w2 : World} (hb : Below w.heap.size w w2) {lb' rb' : Nat} {s' t' : Sl} {zs : List Int} (hp : Pr w2 w.heap.size lb' rb' s' t' zs) {w3 : World}
    (hw3 : w3 = (w2.setCell ⟨bb, 0, none⟩ (.pointer (some ⟨lb', 0, none⟩))).setCell ⟨bb, 1, none⟩ (.pointer (some ⟨rb', 0, none⟩))) : RunS w0 w3 bb w.heap.size lb' rb' s' t' zs ov olds := by
  have h2 := h.below hb
  have hbb : bb < w.heap.size := (Array.getElem?_eq_some_iff.1 h.box).1
  have hk : ∀ k, k ≠ bb → w3.heap[k]? = w2.heap[k]? := fun k hk => by rw [hw3, heap_setCell_other _ _ _ _ hk, heap_setCell_other _ _ _ _ hk]
  have hbel : Below w0.heap.size w2 w3 := by
    rw [hw3]
    exact ((Below.refl _ w2).setCell (p := ⟨bb, 0, none⟩) h.bbB _).setCell (p := ⟨bb, 1, none⟩) h.bbB _
  refine ⟨hp.keeps fun g hg => hk g (by have := (hp.lt hg).1; omega), ?_, h2.bel.trans hbel, owns_keep h2.old fun g hg => hk g (fun e => h.oldb (by rw [← e]; exact hg)), h.oldb, fun o ho => ?_, h.bel.size, h.bbB⟩
  · have e1 := heap_setCell_same w2 bb 0 _ 50 (.pointer (some ⟨lb', 0, none⟩)) h2.box
    have e2 := heap_setCell_same _ bb 1 _ 50 (.pointer (some ⟨rb', 0, none⟩)) e1
    rw [hw3]
    exact e2
  · obtain ⟨s1, t1, q1, q2, q3⟩ := h.ok o ho
    have q1' : Pr w2 0 o.lb o.rb s1 t1 o.xs := q1.below hb
    refine ⟨s1, t1, q1'.keeps fun g hg => hk g (fun e => ?_), q2, q3⟩
    have hbx := h2.box
    rw [e] at hg
    rcases hg with e1 | e1 | e1 | e1
    · rw [e1, q1'.log.blk] at hbx; cases hbx
    · rw [e1, q1'.rf.blk] at hbx; cases hbx
    · obtain ⟨cu, h6⟩ := q1'.log.row.type e1; rw [hbx] at h6; cases h6
    · obtain ⟨cu, h6⟩ := q1'.rf.row.type e1; rw [hbx] at h6; cases h6
/-- One more old pair. -/
theorem RunS.add (h : RunS w0 w bb B lb rb s t xs ov olds) (hx : xs.length ≤ 100000000) {w1 w2 : World} {ov' : Value} (hb : Below w.heap.size w w1) (hg : w1.grownBy w2 ov.ownBlock) (ho : w2.ownsRow w0.heap.size 50 2 ov' (olds.length + 1) (flatO olds ++ flatO [⟨lb, rb, xs⟩])) (hat : ov'.ownBlock = ov.ownBlock ∨ ov'.ownBlock = some w1.heap.size) :
    Pr w2 B lb rb s t xs ∧ RunB w0 w2 bb lb rb ov' (olds ++ [⟨lb, rb, xs⟩]) := by
  have h1 := h.below hb
  have hk : ∀ k, k < w1.heap.size → ov.ownBlock ≠ some k → w2.heap[k]? = w1.heap[k]? := fun k hk1 hne => hg.block k hk1 (Ne.symm hne)
  have hty : ∀ (k : Nat) (cu : Array Value) (ty : TypeId), w1.heap[k]? = some (.cells cu ty (0, 0)) → ty ≠ 50 → w2.heap[k]? = w1.heap[k]? := fun k cu ty hk1 hne => hk k (Array.getElem?_eq_some_iff.1 hk1).1 fun e => by
    obtain ⟨cu2, h6, _⟩ := owns_type h1.old e
    rw [hk1] at h6; cases h6; exact hne rfl
  have hpr : ∀ {B' lb' rb' : Nat} {s' t' : Sl} {zs : List Int}, Pr w1 B' lb' rb' s' t' zs → Pr w2 B' lb' rb' s' t' zs := fun {B' lb' rb' s' t' zs} hp => hp.keeps fun g hg => by
    rcases hg with rfl | rfl | e | e
    · exact hty _ _ 83 hp.log.blk (by decide)
    · exact hty _ _ 58 hp.rf.blk (by decide)
    · obtain ⟨cu, h6⟩ := hp.log.row.type e; exact hty g cu 5 h6 (by decide)
    · obtain ⟨cu, h6⟩ := hp.rf.row.type e; exact hty g cu 5 h6 (by decide)
  have hbb : bb < w1.heap.size := (Array.getElem?_eq_some_iff.1 h1.box).1
  have hob : ov'.ownBlock ≠ some bb := fun e => by
    rcases hat with e1 | e1
    · rw [e1] at e; exact h.oldb e
    · rw [e1] at e
      simp only [Option.some.injEq] at e
      omega
  have hgsz := hg.size
  have hall : ∀ o ∈ olds ++ [⟨lb, rb, xs⟩], OdOk w2 w2.heap.size o := fun o ho => by
    rcases List.mem_append.1 ho with ho | ho
    · obtain ⟨s1, t1, q1, q2, q3⟩ := h1.ok o ho
      exact ⟨s1, t1, hpr q1, fun g hg => Nat.lt_of_lt_of_le (q2 g hg) (Nat.le_trans h1.size hgsz), q3⟩
    · simp only [List.mem_cons, List.not_mem_nil, or_false] at ho
      subst ho
      have hp := hpr h1.pr
      have hp0 : Pr w2 0 lb rb s t xs := ⟨⟨hp.log.blk, hp.log.row.base (Nat.zero_le _), hp.log.rng⟩, Nat.zero_le _, ⟨hp.rf.blk, Nat.zero_le _, hp.rf.row.base (Nat.zero_le _), hp.rf.rng⟩, hp.apart⟩
      exact ⟨s, t, hp0, fun g hg => (hp.lt hg).2, hx⟩
  exact ⟨hpr h1.pr, (hk bb hbb h1.oldb).trans h1.box, h1.bel.grown hg h1.bel.size (fun g e => by obtain ⟨_, _, h6⟩ := owns_type h1.old e; exact h6), by rw [List.length_append, flatO_append]; exact ho, hob, hall, h.bbB⟩
end
end Go.Proofs.Ythomdgafaffphaa
