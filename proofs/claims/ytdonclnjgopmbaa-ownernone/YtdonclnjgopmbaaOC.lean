/- Contracts of wants, Want, Waiters. -/
import Derived.Test.YtdonclnjgopmbaaOB
namespace Go.Proofs.Ytdonclnjgopmbaa
open Go.RowKit
attribute [local go_sem ↓] Go.wp_at_zero Go.wp_at_succ
theorem box_cells {w : World} {b : Nat} {x y : Int} {t : TypeId} (h : w.heap[b]? = some (.cells #[.int .i64 x, .int .i64 y] t (0, 0))) : w.cell? ⟨b, 0, none⟩ = some (.int .i64 x) ∧ w.cell? ⟨b, 1, none⟩ = some (.int .i64 y) :=
  ⟨by rw [cell_of_row w b 0 _ t (0, 0) h]; rfl, by rw [cell_of_row w b 1 _ t (0, 0) h]; rfl⟩
set_option maxRecDepth 100000 in
set_option maxHeartbeats 1000000 in
theorem o29 (B tb rb wb n : Nat) (s : Nm → Sl) (m : Nm → List Int) (q : Nm → Bool) (x : Nm) (w : World) (h : TbAt w B tb rb wb n s m q) (hx : wfN x) :
    Calls Try.prog 29 #[.pointer (some ⟨tb, 0, none⟩), .agg #[.int .i64 x.1, .int .i64 x.2]] w fun e w' => e = .returned (.bool (q x)) ∧ Below w.heap.size w w' := by
  obtain ⟨W, hW⟩ : ∃ W, w.alloc (.cells #[.int .i64 x.1, .int .i64 x.2] 28) = W := ⟨_, rfl⟩
  have hb : Below w.heap.size w W := by rw [← hW]; exact (Below.refl _ w).alloc (Nat.le_refl _) _
  have hc : W.heap[w.heap.size]? = some (.cells #[.int .i64 x.1, .int .i64 x.2] 28 (0, 0)) := by rw [← hW]; exact heap_alloc_new w _
  have h1 := h.below hb
  obtain ⟨_, c1⟩ := h1.cells
  obtain ⟨b0, b1⟩ := box_cells hc
  have hl0 := (h1.below ((Below.refl W.heap.size W).drew)).look2 hx
  have hl1 : ∀ o : Obj, (Instr.lookup 45 (.map (some wb)) (.agg #[.int .i64 x.1, .int .i64 x.2]) true).run Try.prog (W.alloc o).drew = .ok (.tuple #[.agg #[], .bool (q x)]) (W.alloc o).drew := fun o => (h1.below (((Below.refl W.heap.size W).alloc (Nat.le_refl _) o).drew)).look2 hx
  have hk : ∀ (o : Obj) (p : Addr), p.block < W.heap.size → (W.alloc o).cell? p = W.cell? p := fun o p hp => ((Below.refl W.heap.size W).alloc (Nat.le_refl _) o).cell hp
  have hlt : w.heap.size < W.heap.size := by rw [← hW]; simp
  have d1 := fun o => (hk o ⟨tb, 1, none⟩ h1.lt).trans c1
  have e0 := fun o => (hk o ⟨w.heap.size, 0, none⟩ hlt).trans b0
  have e1 := fun o => (hk o ⟨w.heap.size, 1, none⟩ hlt).trans b1
  have HB : Hid (Below w.heap.size w W) := hb
  clear hk
  generalize hqx : q x = qx at *
  obtain ⟨x1, x2⟩ := x
  simp only at *
  clear h h1 hb hc
  go_enter Try.func29, Try.ntmps29
  go_wp2_with fail
  go_region
  go_wp2_with fail
  go_ret
  exact ⟨rfl, (HB.out.alloc HB.out.size _).drew⟩
/-- What is changed at one name. -/
def setAt {α : Type} (f : Nm → α) (x : Nm) (v : α) : Nm → α := fun y => if y = x then v else f y
theorem setAt_same {α : Type} (f : Nm → α) (x : Nm) (v : α) : setAt f x v x = v := by simp [setAt]
theorem setAt_other {α : Type} (f : Nm → α) {x y : Nm} (v : α) (h : y ≠ x) : setAt f x v y = f y := by simp [setAt, h]
/-- What a call on a table leaves as it was: all that is not the table's own. -/
structure TbTo (w w' : World) (rb wb : Nat) (s s' : Nm → Sl) : Prop where
  os : w'.os = w.os
  tape : w'.tape = w.tape
  output : w'.output = w.output
  size : w.heap.size ≤ w'.heap.size
  block : ∀ k, k < w.heap.size → k ≠ rb → k ≠ wb → (∀ x, wfN x → blk (s x).a ≠ some k) → w'.heap[k]? = w.heap[k]?
  rows : ∀ x g, wfN x → blk (s' x).a = some g → (∃ y, wfN y ∧ blk (s y).a = some g) ∨ w.heap.size ≤ g
theorem TbTo.of {w w' : World} {rb wb : Nat} {s : Nm → Sl} (h : Below w.heap.size w w') : TbTo w w' rb wb s s :=
  ⟨h.os, h.tape, h.output, h.size, fun k hk _ _ _ => h.block k hk, fun x _ hx hg => .inl ⟨x, hx, hg⟩⟩
theorem TbTo.trans {w w1 w2 : World} {rb wb : Nat} {s s1 s2 : Nm → Sl} (h : TbTo w w1 rb wb s s1) (k : TbTo w1 w2 rb wb s1 s2) : TbTo w w2 rb wb s s2 :=
  ⟨k.os.trans h.os, k.tape.trans h.tape, k.output.trans h.output, Nat.le_trans h.size k.size, fun j hj h1 h2 h3 => (k.block j (Nat.lt_of_lt_of_le hj h.size) h1 h2 (fun x hx e => by
      rcases h.rows x j hx e with ⟨y, hy, e'⟩ | e'
      · exact h3 y hy e'
      · omega)).trans (h.block j hj h1 h2 h3),
    fun x g hx hg => by
      rcases k.rows x g hx hg with ⟨y, hy, e⟩ | e
      · exact h.rows y g hy e
      · have := h.size
        exact .inr (by omega)⟩
theorem TbTo.below {w w' : World} {B tb rb wb n : Nat} {s s' : Nm → Sl} {m : Nm → List Int} {q : Nm → Bool} (h : TbAt w B tb rb wb n s m q) (k : TbTo w w' rb wb s s') (hB : B ≤ w.heap.size) : Below B w w' :=
  ⟨k.os, k.tape, k.output, k.size, fun j hj => k.block j (by omega) (by have := h.hb.1; omega) (by have := h.hb.2; omega) (fun x hx e => by have := ((h.row x hx).lt e).1; omega)⟩
theorem want_upd (q : Nm → Bool) (x : Nm) (u : Value) : updF (fun y => if q y = true then some u else none) x (some u) = fun y => if setAt q x true y = true then some u else none := by
  funext y
  by_cases e : y = x
  · subst e; simp [updF, setAt]
  · simp [updF, setAt, e]
theorem tb_want {w w' : World} {B tb rb wb n : Nat} {s : Nm → Sl} {m : Nm → List Int} {q : Nm → Bool} {x : Nm} (h : TbAt w B tb rb wb n s m q) (hm : MpAt nmK w' wb (n + 1) (updF (fun x => if q x = true then some (.agg #[]) else none) x (some (.agg #[])))) (hg : w.grownBy w' (some wb)) :
    TbAt w' B tb rb wb (n + 1) s m (setAt q x true) ∧ TbTo w w' rb wb s s := by
  rw [want_upd] at hm
  have hk : ∀ k, k < w.heap.size → k ≠ wb → w'.heap[k]? = w.heap[k]? := fun k hk hne => hg.block k hk (by simpa using hne)
  have hr : ∀ x g, wfN x → blk (s x).a = some g → w'.heap[g]? = w.heap[g]? := fun x g hx hg' => hk g ((h.row x hx).lt hg').2 (by
    obtain ⟨cu, h1⟩ := (h.row x hx).type hg'
    exact h.want.ne_cells h1)
  refine ⟨⟨(hk tb h.lt (h.want.ne_cells h.blk)).trans h.blk, ?_, hm, fun x hx => (h.row x hx).keeps fun g hg' => hr x g hx hg', h.nil, h.apart, h.rw, h.hb⟩, hg.os, hg.tape, hg.output, hg.size, fun k hk' _ h2 _ => hk k hk' h2, fun x g hx e => .inl ⟨x, hx, e⟩⟩
  have h1 := h.rows.keeps (hk rb h.rows.lt h.rw)
  obtain ⟨D, ⟨es, ck, h2, h3, h4, h5⟩, h6⟩ := h1
  exact ⟨D, ⟨es, ck, h2, h3, by omega, h5⟩, h6⟩
set_option maxRecDepth 100000 in
set_option maxHeartbeats 1000000 in
theorem o16 (B tb rb wb n : Nat) (s : Nm → Sl) (m : Nm → List Int) (q : Nm → Bool) (x : Nm) (w : World) (h : TbAt w B tb rb wb n s m q) (hx : wfN x) (hn : n ≤ 1000000) :
    Calls Try.prog 16 #[.pointer (some ⟨tb, 0, none⟩), .agg #[.int .i64 x.1, .int .i64 x.2]] w fun e w' => e = .returned (.bool (!q x)) ∧ TbAt w' B tb rb wb (n + 1) s m (setAt q x true) ∧ TbTo w w' rb wb s s := by
  obtain ⟨W, hW⟩ : ∃ W, w.alloc (.cells #[.int .i64 x.1, .int .i64 x.2] 28) = W := ⟨_, rfl⟩
  have hb : Below w.heap.size w W := by rw [← hW]; exact (Below.refl _ w).alloc (Nat.le_refl _) _
  have hc : W.heap[w.heap.size]? = some (.cells #[.int .i64 x.1, .int .i64 x.2] 28 (0, 0)) := by rw [← hW]; exact heap_alloc_new w _
  have hlt : w.heap.size < W.heap.size := by rw [← hW]; simp
  have h1 := h.below hb
  obtain ⟨b0, b1⟩ := box_cells hc
  have H29 : Calls Try.prog 29 #[.pointer (some ⟨tb, 0, none⟩), .agg #[.int .i64 x.1, .int .i64 x.2]] W fun e w' => e = .returned (.bool (q x)) ∧ Hid (Below W.heap.size W w') := o29 B tb rb wb n s m q x W h1 hx
  have HA : Hid (∀ w', Below W.heap.size W w' → w'.heap[w.heap.size]? = some (.cells #[.int .i64 x.1, .int .i64 x.2] 28 (0, 0)) ∧ w'.cell? ⟨tb, 1, none⟩ = some (.map (some wb)) ∧ TbAt w' B tb rb wb n s m q ∧ Below w.heap.size w w') := fun w' hw =>
    ⟨(hw.block _ hlt).trans hc, (h1.below hw).cells.2, h1.below hw, hb.trans (hw.mono hb.size)⟩
  have HX : Hid (wfN x) := hx
  cases hqx : q x
  · rw [hqx] at H29
    clear h h1 hb hc hx
    obtain ⟨x1, x2⟩ := x
    simp only at *
    go_enter Try.func16, Try.ntmps16
    go_wp2_with fail
    refine H29.mono ?_
    rintro e w1 ⟨rfl, HB⟩
    clear H29 b0 b1
    obtain ⟨hc1, t1, hT, hB1⟩ := HA.out w1 HB.out
    obtain ⟨b0, b1⟩ := box_cells hc1
    obtain ⟨w2, hrun, hm2, hg2⟩ := (hT.below ((Below.refl _ w1).drew)).want.put Try.underlying45 (by unfold maxLen; omega) (x := (x1, x2)) HX.out (.agg #[])
    have hrun' : (Instr.mapUpdate 45 (.map (some wb)) (.agg #[.int .i64 x1, .int .i64 x2]) (.agg #[])).run Try.prog w1.drew = .ok () w2 := hrun
    obtain ⟨q1, q2⟩ := tb_want (hT.below ((Below.refl _ w1).drew)) hm2 hg2
    have HF : Hid (TbAt w2 B tb rb wb (n + 1) s m (setAt q (x1, x2) true) ∧ TbTo w w2 rb wb s s) := ⟨q1, (TbTo.of (hB1.drew)).trans q2⟩
    clear hm2 hg2 q1 q2 hT hB1 hc1 hrun
    go_wp2_with fail
    go_region
    go_wp2_with fail
    go_ret
    exact ⟨rfl, HF.out⟩
  · rw [hqx] at H29
    have HQ : Hid (∀ w', TbAt w' B tb rb wb n s m q → TbAt w' B tb rb wb (n + 1) s m (setAt q x true)) := fun w' hw => by
      have e : setAt q x true = q := by
        funext y
        by_cases e : y = x
        · subst e; rw [setAt_same, hqx]
        · rw [setAt_other _ _ e]
      rw [e]
      have up : ∀ {b : Nat} {f : Nm → Option Value}, MpAt nmK w' b n f → MpAt nmK w' b (n + 1) f := fun {b f} h => by
        obtain ⟨D, ⟨es, ck, h2, h3, h4, h5⟩, h6⟩ := h
        exact ⟨D, ⟨es, ck, h2, h3, by omega, h5⟩, h6⟩
      exact ⟨hw.blk, up hw.rows, up hw.want, hw.row, hw.nil, hw.apart, hw.rw, hw.hb⟩
    clear h h1 hb hc hx
    obtain ⟨x1, x2⟩ := x
    simp only at *
    go_enter Try.func16, Try.ntmps16
    go_wp2_with fail
    refine H29.mono ?_
    rintro e w1 ⟨rfl, HB⟩
    clear H29 b0 b1
    go_wp2_with fail
    go_ret
    obtain ⟨_, _, hT, hB1⟩ := HA.out w1 HB.out
    exact ⟨rfl, HQ.out _ hT, TbTo.of hB1⟩
end Go.Proofs.Ytdonclnjgopmbaa
