/- Contracts of wants, Want, Waiters. -/
import Derived.Test.YtkpbmnaghepddabOwOB
namespace Go.Proofs.Ytkpbmnaghepddab.Ow
open Go.RowKit
attribute [local go_sem ↓] Go.wp_at_zero Go.wp_at_succ
theorem box_cells {w : World} {b : Nat} {x y : Int} {t : TypeId} (h : w.heap[b]? = some (.cells #[.int .i64 x, .int .i64 y] t (0, 0))) : w.cell? ⟨b, 0, none⟩ = some (.int .i64 x) ∧ w.cell? ⟨b, 1, none⟩ = some (.int .i64 y) :=
  ⟨by rw [cell_of_row w b 0 _ t (0, 0) h]; rfl, by rw [cell_of_row w b 1 _ t (0, 0) h]; rfl⟩
/-- What is changed at one name. -/
def setAt {α : Type} (f : Nm → α) (x : Nm) (v : α) : Nm → α := fun y => if y = x then v else f y
theorem setAt_same {α : Type} (f : Nm → α) (x : Nm) (v : α) : setAt f x v x = v := by simp [setAt]
theorem setAt_other {α : Type} (f : Nm → α) {x y : Nm} (v : α) (h : y ≠ x) : setAt f x v y = f y := by simp [setAt, h]
/-- What a call on a table leaves as it was: all that is not the table's own. -/
structure TbTo (w w' : World) (rb wb : Nat) (s s' : Nm → Sl) : Prop where
  os : w'.os = w.os
  tape : w'.tape = w.tape
  output : w'.output = w.output
  size : w.heap.size ≤ w'.heap.size
  block : ∀ k, k < w.heap.size → k ≠ rb → k ≠ wb → (∀ x, wfN x → blk (s x).a ≠ some k) → w'.heap[k]? = w.heap[k]?
  rows : ∀ x g, wfN x → blk (s' x).a = some g → (∃ y, wfN y ∧ blk (s y).a = some g) ∨ w.heap.size ≤ g
theorem TbTo.of {w w' : World} {rb wb : Nat} {s : Nm → Sl} (h : Below w.heap.size w w') : TbTo w w' rb wb s s :=
  ⟨h.os, h.tape, h.output, h.size, fun k hk _ _ _ => h.block k hk, fun x _ hx hg => .inl ⟨x, hx, hg⟩⟩
theorem TbTo.trans {w w1 w2 : World} {rb wb : Nat} {s s1 s2 : Nm → Sl} (h : TbTo w w1 rb wb s s1) (k : TbTo w1 w2 rb wb s1 s2) : TbTo w w2 rb wb s s2 :=
  ⟨k.os.trans h.os, k.tape.trans h.tape, k.output.trans h.output, Nat.le_trans h.size k.size, fun j hj h1 h2 h3 => (k.block j (Nat.lt_of_lt_of_le hj h.size) h1 h2 (fun x hx e => by
      rcases h.rows x j hx e with ⟨y, hy, e'⟩ | e'
      · exact h3 y hy e'
      · omega)).trans (h.block j hj h1 h2 h3),
    fun x g hx hg => by
      rcases k.rows x g hx hg with ⟨y, hy, e⟩ | e
      · exact h.rows y g hy e
      · have := h.size
        exact .inr (by omega)⟩
theorem TbTo.below {w w' : World} {B tb rb wb n : Nat} {s s' : Nm → Sl} {m : Nm → List Int} {q : Nm → Bool} (h : TbAt w B tb rb wb n s m q) (k : TbTo w w' rb wb s s') (hB : B ≤ w.heap.size) : Below B w w' :=
  ⟨k.os, k.tape, k.output, k.size, fun j hj => k.block j (by omega) (by have := h.hb.1; omega) (by have := h.hb.2; omega) (fun x hx e => by have := ((h.row x hx).lt e).1; omega)⟩
theorem want_upd (q : Nm → Bool) (x : Nm) (u : Value) : updF (fun y => if q y = true then some u else none) x (some u) = fun y => if setAt q x true y = true then some u else none := by
  funext y
  by_cases e : y = x
  · subst e; simp [updF, setAt]
  · simp [updF, setAt, e]
theorem tb_want {w w' : World} {B tb rb wb n : Nat} {s : Nm → Sl} {m : Nm → List Int} {q : Nm → Bool} {x : Nm} (h : TbAt w B tb rb wb n s m q) (hm : MpAt nmK w' wb (n + 1) (updF (fun x => if q x = true then some (.agg #[]) else none) x (some (.agg #[])))) (hg : w.grownBy w' (some wb)) :
    TbAt w' B tb rb wb (n + 1) s m (setAt q x true) ∧ TbTo w w' rb wb s s := by
  rw [want_upd] at hm
  have hk : ∀ k, k < w.heap.size → k ≠ wb → w'.heap[k]? = w.heap[k]? := fun k hk hne => hg.block k hk (by simpa using hne)
  have hr : ∀ x g, wfN x → blk (s x).a = some g → w'.heap[g]? = w.heap[g]? := fun x g hx hg' => hk g ((h.row x hx).lt hg').2 (by
    obtain ⟨cu, h1⟩ := (h.row x hx).type hg'
    exact h.want.ne_cells h1)
  refine ⟨⟨(hk tb h.lt (h.want.ne_cells h.blk)).trans h.blk, ?_, hm, fun x hx => (h.row x hx).keeps fun g hg' => hr x g hx hg', h.nil, h.apart, h.rw, h.hb⟩, hg.os, hg.tape, hg.output, hg.size, fun k hk' _ h2 _ => hk k hk' h2, fun x g hx e => .inl ⟨x, hx, e⟩⟩
  have h1 := h.rows.keeps (hk rb h.rows.lt h.rw)
  obtain ⟨D, ⟨es, ck, h2, h3, h4, h5⟩, h6⟩ := h1
  exact ⟨D, ⟨es, ck, h2, h3, by omega, h5⟩, h6⟩
end Go.Proofs.Ytkpbmnaghepddab.Ow
