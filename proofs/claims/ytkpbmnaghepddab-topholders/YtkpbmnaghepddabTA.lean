/- What TopHolders has in memory: an owner's table, a table of references, a name, a row of numbers. -/
import Derived.Test.YtkpbmnaghepddabRK
import Derived.Test.YtkpbmnaghepddabOwOE
namespace Go.Proofs.Ytkpbmnaghepddab
open Go.RowKit
attribute [local go_sem ↓] Go.wp_at_zero Go.wp_at_succ
/-- One variable has a row, no other one. -/
def oneM (x2 : Int) (m : List Int) : Nm → List Int := fun y => if y = (0, x2) then m else []
structure Th (w0 w : World) (ot rb wb nO : Nat) (s : Nm → Ow.Sl) (m : List Int) (rt eb ib nR : Nat) (c : Int → Int) (vb : Nat) (x2 : Int) (ta : Option Addr) (tn tc : Nat) (L : List Int) : Prop where
  ow : Ow.TbAt w w0.heap.size ot rb wb nO s (oneM x2 m) (fun _ => false)
  rf : RtAt w w0.heap.size rt eb ib nR 0 4 (cntF (0, x2) c) (fun _ => 0)
  box : w.heap[vb]? = some (.cells #[.int .i64 0, .int .i64 x2] 31 (0, 0))
  to : Ow.Row w w0.heap.size 3 ta tn tc (Ow.i64s L)
  ap : ∀ y g, Ow.wfN y → Ow.blk (s y).a = some g → Ow.blk ta ≠ some g
  ne : rb ≠ eb ∧ rb ≠ ib ∧ wb ≠ eb ∧ wb ≠ ib
  bel : Below w0.heap.size w0 w
section
variable {w0 w w' : World} {ot rb wb nO nO' rt eb ib nR nR' vb tn tc : Nat} {s s' : Nm → Ow.Sl} {m m' : List Int} {c c' : Int → Int} {x2 : Int} {ta : Option Addr} {L : List Int}
theorem Th.row_ne (h : Th w0 w ot rb wb nO s m rt eb ib nR c vb x2 ta tn tc L) {g : Nat} (hg : Ow.blk ta = some g) : g ≠ eb ∧ g ≠ ib ∧ g ≠ rb ∧ g ≠ wb := by
  obtain ⟨cu, h1⟩ := h.to.type hg
  exact ⟨h.rf.ex.ne_cells h1, h.rf.im.ne_cells h1, h.ow.rows.ne_cells h1, h.ow.want.ne_cells h1⟩
theorem Th.ref (h : Th w0 w ot rb wb nO s m rt eb ib nR c vb x2 ta tn tc L) (ht : RtIs w w0.heap.size rt eb ib nR' 0 4 (cntF (0, x2) c') (fun _ => 0) w') : Th w0 w' ot rb wb nO s m rt eb ib nR' c' vb x2 ta tn tc L := by
  obtain ⟨n1, n2, n3, n4⟩ := h.ne
  have kb := ht.2.block
  refine ⟨h.ow.keeps (kb ot h.ow.lt (h.rf.ex.ne_cells h.ow.blk) (h.rf.im.ne_cells h.ow.blk)) (kb rb h.ow.rows.lt n1 n2) (kb wb h.ow.want.lt n3 n4) ?_, ht.1, (kb vb (Array.getElem?_eq_some_iff.1 h.box).1 (h.rf.ex.ne_cells h.box) (h.rf.im.ne_cells h.box)).trans h.box, h.to.keeps fun g hg => kb g (h.to.lt hg).2 (h.row_ne hg).1 (h.row_ne hg).2.1, h.ap, h.ne, h.bel.trans (ht.2.below h.rf.hb.1 h.rf.hb.2 h.bel.size)⟩
  intro x g hx hg
  obtain ⟨cu, h1⟩ := (h.ow.row x hx).type hg
  exact kb g ((h.ow.row x hx).lt hg).2 (h.rf.ex.ne_cells h1) (h.rf.im.ne_cells h1)
theorem Th.below (h : Th w0 w ot rb wb nO s m rt eb ib nR c vb x2 ta tn tc L) (hb : Below w.heap.size w w') : Th w0 w' ot rb wb nO s m rt eb ib nR c vb x2 ta tn tc L := h.ref (RtIs.of h.rf hb)
theorem Th.tb (h : Th w0 w ot rb wb nO s m rt eb ib nR c vb x2 ta tn tc L) (ht : Ow.TbAt w' w0.heap.size ot rb wb nO' s' (oneM x2 m') (fun _ => false)) (hk : Ow.TbTo w w' rb wb s s') : Th w0 w' ot rb wb nO' s' m' rt eb ib nR c vb x2 ta tn tc L := by
  obtain ⟨n1, n2, n3, n4⟩ := h.ne
  have hcell : ∀ {k : Nat} {cs : Array Value} {t : TypeId}, w.heap[k]? = some (.cells cs t (0, 0)) → (t = 3 → ∀ x, Ow.wfN x → Ow.blk (s x).a ≠ some k) → w'.heap[k]? = w.heap[k]? := fun {k cs t} hc h3 => by
    refine hk.block k (Array.getElem?_eq_some_iff.1 hc).1 (h.ow.rows.ne_cells hc) (h.ow.want.ne_cells hc) fun x hx hg => ?_
    obtain ⟨cu, h1⟩ := (h.ow.row x hx).type hg
    rw [hc] at h1
    have ht : t = 3 := by cases h1; rfl
    exact h3 ht x hx hg
  have hmap : ∀ {k : Nat}, (∃ es ck, w.heap[k]? = some (.map es ck)) → k ≠ rb → k ≠ wb → w'.heap[k]? = w.heap[k]? := fun {k} hm a b => by
    obtain ⟨es, ck, hc⟩ := hm
    refine hk.block k (Array.getElem?_eq_some_iff.1 hc).1 a b fun x hx hg => ?_
    obtain ⟨cu, h1⟩ := (h.ow.row x hx).type hg
    rw [hc] at h1
    cases h1
  refine ⟨ht, h.rf.keeps (hcell h.rf.blk (fun e => by cases e)) (hmap h.rf.ex.blk (Ne.symm n1) (Ne.symm n3)) (hmap h.rf.im.blk (Ne.symm n2) (Ne.symm n4)), (hcell h.box (fun e => by cases e)).trans h.box, h.to.keeps fun g hg => ?_, ?_, h.ne, h.bel.trans (Ow.TbTo.below h.ow hk h.bel.size)⟩
  · obtain ⟨cu, h1⟩ := h.to.type hg
    exact hcell h1 fun _ x hx e => h.ap x g hx e hg
  · intro y g hy hg e
    rcases hk.rows y g hy hg with ⟨z, hz, e'⟩ | e'
    · exact h.ap z g hz e' e
    · have := (h.to.lt e).2
      omega
theorem Th.app (h : Th w0 w ot rb wb nO s m rt eb ib nR c vb x2 ta tn tc L) {ta' : Option Addr} {tc' : Nat} {k : Int} (hr : Ow.Row w' w0.heap.size 3 ta' (tn + 1) tc' (Ow.i64s L ++ [.int .i64 k])) (hg : w.grownBy w' (Ow.blk ta)) (hor : ta' = ta ∨ ∃ g, ta' = some ⟨g, 0, none⟩ ∧ w.heap.size ≤ g) : Th w0 w' ot rb wb nO s m rt eb ib nR c vb x2 ta' (tn + 1) tc' (L ++ [k]) := by
  have kb : ∀ j, j < w.heap.size → Ow.blk ta ≠ some j → w'.heap[j]? = w.heap[j]? := fun j hj hne => hg.block j hj (Ne.symm hne)
  have hm : ∀ {j : Nat}, (∃ es ck, w.heap[j]? = some (.map es ck)) → w'.heap[j]? = w.heap[j]? := fun {j} ⟨es, ck, hc⟩ => kb j (Array.getElem?_eq_some_iff.1 hc).1 fun e => by
    obtain ⟨cu, h1⟩ := h.to.type e
    rw [hc] at h1; cases h1
  have hc : ∀ {j : Nat} {cs : Array Value} {t : TypeId}, w.heap[j]? = some (.cells cs t (0, 0)) → t ≠ 3 → w'.heap[j]? = w.heap[j]? := fun {j cs t} hc ht => kb j (Array.getElem?_eq_some_iff.1 hc).1 fun e => by
    obtain ⟨cu, h1⟩ := h.to.type e
    rw [hc] at h1; exact ht (by cases h1; rfl)
  refine ⟨h.ow.keeps (hc h.ow.blk (by decide)) (hm h.ow.rows.blk) (hm h.ow.want.blk) (fun x g hx hg' => kb g ((h.ow.row x hx).lt hg').2 (h.ap x g hx hg')), h.rf.keeps (hc h.rf.blk (by decide)) (hm h.rf.ex.blk) (hm h.rf.im.blk), (hc h.box (by decide)).trans h.box, ?_, ?_, h.ne, ?_⟩
  · have : Ow.i64s (L ++ [k]) = Ow.i64s L ++ [.int .i64 k] := by simp [Ow.i64s]
    rw [this]; exact hr
  · intro y g hy hg' e
    rcases hor with rfl | ⟨g', rfl, hl⟩
    · exact h.ap y g hy hg' e
    · have e' : g' = g := by simpa [Ow.blk] using e
      have := ((h.ow.row y hy).lt hg').2
      omega
  · refine h.bel.trans ⟨hg.os, hg.tape, hg.output, hg.size, fun j hj => kb j (Nat.lt_of_lt_of_le hj h.bel.size) fun e => ?_⟩
    have := (h.to.lt e).1
    omega
theorem Th.cells (h : Th w0 w ot rb wb nO s m rt eb ib nR c vb x2 ta tn tc L) : w.cell? ⟨vb, 0, none⟩ = some (.int .i64 0) ∧ w.cell? ⟨vb, 1, none⟩ = some (.int .i64 x2) := box2 h.box
end
/-- What a number is among so many. -/
def whF (x n : Int) : Int := if Int.tmod x n < 0 then Int.tmod x n + n else Int.tmod x n
theorem whF_bd (x n : Int) (h : 0 < n) : 0 ≤ whF x n ∧ whF x n < n := by
  have h1 := Int.tmod_lt_of_pos x h
  have h2 := Int.lt_tmod_of_pos x h
  unfold whF
  split <;> omega
set_option maxRecDepth 100000 in
theorem t6 (x n : Int) (w : World) (h0 : 0 < n) (h1 : n ≤ 1000) : Calls Try.prog 6 #[.int .i64 x, .int .i64 n] w fun e w' => e = .returned (.int .i64 (whF x n)) ∧ w' = w := by
  have a1 := Int.tmod_lt_of_pos x h0
  have a2 := Int.lt_tmod_of_pos x h0
  have hn0 : ¬ n = 0 := by omega
  by_cases hT : Int.tmod x n < 0
  · have HE : Hid (whF x n = Int.tmod x n + n) := by show whF x n = _; unfold whF; rw [if_pos hT]
    generalize whF x n = R at *
    go_enter Try.func6, Try.ntmps6
    go_wp2_with fail
    go_ret
    exact ⟨by rw [HE.out]; rfl, rfl⟩
  · have HE : Hid (whF x n = Int.tmod x n) := by show whF x n = _; unfold whF; rw [if_neg hT]
    generalize whF x n = R at *
    go_enter Try.func6, Try.ntmps6
    go_wp2_with fail
    go_ret
    exact ⟨by rw [HE.out]; rfl, rfl⟩
end Go.Proofs.Ytkpbmnaghepddab
