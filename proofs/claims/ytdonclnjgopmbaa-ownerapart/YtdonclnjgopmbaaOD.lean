/- Contracts of Waiters, Tell, Ask. -/
import Derived.Test.YtdonclnjgopmbaaOC
namespace Go.Proofs.Ytdonclnjgopmbaa
open Go.RowKit
attribute [local go_sem ↓] Go.wp_at_zero Go.wp_at_succ
theorem reads_block {w : World} {B : Nat} {cs : Array Value} {t : TypeId} {fr : Nat × Nat} (hb : w.heap[B]? = some (.cells cs t fr)) : Reads w (some ⟨B, 0, none⟩) cs.size cs.toList :=
  ⟨by simp, .inr ⟨_, rfl, fun j u hu => by rw [Addr.add_mid, Nat.zero_add, cell_of_row w B j _ t fr hb]; simpa using hu⟩⟩
set_option maxRecDepth 100000 in
set_option maxHeartbeats 1000000 in
theorem o22 (B tb rb wb n : Nat) (s : Nm → Sl) (m : Nm → List Int) (q : Nm → Bool) (x : Nm) (w : World) (h : TbAt w B tb rb wb n s m q) (hx : wfN x) (hl : (m x).length ≤ 1000000) :
    Calls Try.prog 22 #[.pointer (some ⟨tb, 0, none⟩), .agg #[.int .i64 x.1, .int .i64 x.2]] w fun e w' => ∃ g k, e = .returned (.slice (some ⟨g, 0, none⟩) k k) ∧ Row w' w.heap.size 3 (some ⟨g, 0, none⟩) k k (i64s (m x)) ∧ Below w.heap.size w w' := by
  obtain ⟨W, hW⟩ : ∃ W, w.alloc (.cells #[.int .i64 x.1, .int .i64 x.2] 28) = W := ⟨_, rfl⟩
  have hb : Below w.heap.size w W := by rw [← hW]; exact (Below.refl _ w).alloc (Nat.le_refl _) _
  have hc : W.heap[w.heap.size]? = some (.cells #[.int .i64 x.1, .int .i64 x.2] 28 (0, 0)) := by rw [← hW]; exact heap_alloc_new w _
  have h1 := h.below hb
  obtain ⟨t0, _⟩ := h1.cells
  obtain ⟨b0, b1⟩ := box_cells hc
  have hlk : (Instr.lookup 44 (.map (some rb)) (.agg #[.int .i64 x.1, .int .i64 x.2]) false).run Try.prog W.drew = .ok (.slice (s x).a (s x).n (s x).c) W.drew := (h1.below ((Below.refl W.heap.size W).drew)).look hx
  have hlen : (s x).n = (m x).length := by simpa using (h.row x hx).len.symm
  have H26 : Calls Try.prog 26 #[.slice (s x).a (s x).n (s x).c] W.drew fun e w' => ∃ g k, e = .returned (.slice (some ⟨g, 0, none⟩) k k) ∧ Hid (Row w' w.heap.size 3 (some ⟨g, 0, none⟩) k k (i64s (m x)) ∧ Below w.heap.size w w') := by
    refine (o26 (s x).a (s x).n (s x).c (m x) W.drew ((h1.below ((Below.refl W.heap.size W).drew)).row x hx).in (by omega)).mono ?_
    rintro e w' ⟨g, rfl, h2, h3⟩
    exact ⟨g, _, rfl, h2.base hb.size, hb.trans ((((Below.refl _ W).drew).trans h3).mono hb.size)⟩
  clear h h1 hb hc hlen
  generalize s x = sx at *
  obtain ⟨sa, sn, sc⟩ := sx
  obtain ⟨x1, x2⟩ := x
  simp only at *
  go_enter Try.func22, Try.ntmps22
  go_wp2_with fail
  go_region_with (go_at_call 26; refine H26.mono ?_; rintro e w1 ⟨g, k, rfl, HF⟩)
  all_goals (
    go_wp2_with fail
    go_ret
    exact ⟨g, k, rfl, HF.out⟩)
theorem row_upd (m : Nm → List Int) (s : Nm → Sl) (x : Nm) : updF (fun y => if m y = [] then none else some (s y).v) x none = fun y => if setAt m x [] y = [] then none else some ((setAt s x ⟨none, 0, 0⟩) y).v := by
  funext y
  by_cases e : y = x
  · subst e; simp [updF, setAt]
  · simp [updF, setAt, e]
theorem row_upd2 (m : Nm → List Int) (s : Nm → Sl) (x : Nm) (l : List Int) (t : Sl) (hl : l ≠ []) : updF (fun y => if m y = [] then none else some (s y).v) x (some t.v) = fun y => if setAt m x l y = [] then none else some ((setAt s x t) y).v := by
  funext y
  by_cases e : y = x
  · subst e; simp [updF, setAt, hl]
  · simp [updF, setAt, e]
theorem mp_more {w : World} {b n : Nat} {f : Nm → Option Value} (h : MpAt nmK w b n f) : MpAt nmK w b (n + 1) f := by
  obtain ⟨D, ⟨es, ck, h2, h3, h4, h5⟩, h6⟩ := h
  exact ⟨D, ⟨es, ck, h2, h3, by omega, h5⟩, h6⟩
theorem tb_tell {w w' : World} {B tb rb wb n : Nat} {s : Nm → Sl} {m : Nm → List Int} {q : Nm → Bool} {x : Nm} (h : TbAt w B tb rb wb n s m q) (hm : MpAt nmK w' rb n (updF (fun y => if m y = [] then none else some (s y).v) x none)) (hg : w.grownBy w' (some rb)) :
    TbAt w' B tb rb wb n (setAt s x ⟨none, 0, 0⟩) (setAt m x []) q ∧ TbTo w w' rb wb s (setAt s x ⟨none, 0, 0⟩) ∧ ∀ g, wfN x → blk (s x).a = some g → w'.heap[g]? = w.heap[g]? := by
  rw [row_upd] at hm
  have hk : ∀ k, k < w.heap.size → k ≠ rb → w'.heap[k]? = w.heap[k]? := fun k hk hne => hg.block k hk (by simpa using hne)
  have hr : ∀ x g, wfN x → blk (s x).a = some g → w'.heap[g]? = w.heap[g]? := fun x g hx hg' => hk g ((h.row x hx).lt hg').2 (by
    obtain ⟨cu, h1⟩ := (h.row x hx).type hg'
    exact h.rows.ne_cells h1)
  refine ⟨⟨(hk tb h.lt (h.rows.ne_cells h.blk)).trans h.blk, hm, h.want.keeps (hk wb h.want.lt (Ne.symm h.rw)), fun y hy => ?_, fun y hy => ?_, fun y z g hy hz hne => ?_, h.rw, h.hb⟩, ⟨hg.os, hg.tape, hg.output, hg.size, fun k hk' h1 _ _ => hk k hk' h1, fun y g hy e => ?_⟩, fun g hx hg' => hr x g hx hg'⟩
  · by_cases e : y = x
    · subst e; rw [setAt_same, setAt_same]; exact row_nil _ _ _
    · rw [setAt_other _ _ e, setAt_other _ _ e]
      exact (h.row y hy).keeps fun g hg' => hr y g hy hg'
  · by_cases e : y = x
    · subst e; rw [setAt_same]
    · rw [setAt_other _ _ e] at hy ⊢
      exact h.nil y hy
  · by_cases e : y = x
    · subst e; rw [setAt_same]; intro h2; cases h2
    · rw [setAt_other _ _ e]
      by_cases e2 : z = x
      · subst e2; rw [setAt_same]; intro _ h2; cases h2
      · rw [setAt_other _ _ e2]
        exact h.apart y z g hy hz hne
  · by_cases e2 : y = x
    · subst e2; rw [setAt_same] at e; cases e
    · rw [setAt_other _ _ e2] at e
      exact .inl ⟨y, hy, e⟩
set_option maxRecDepth 100000 in
set_option maxHeartbeats 1000000 in
theorem o14 (B tb rb wb n : Nat) (s : Nm → Sl) (m : Nm → List Int) (q : Nm → Bool) (x : Nm) (w : World) (h : TbAt w B tb rb wb n s m q) (hx : wfN x) :
    Calls Try.prog 14 #[.pointer (some ⟨tb, 0, none⟩), .agg #[.int .i64 x.1, .int .i64 x.2]] w fun e w' => e = .returned (.slice (s x).a (s x).n (s x).c) ∧ TbAt w' B tb rb wb n (setAt s x ⟨none, 0, 0⟩) (setAt m x []) q ∧ TbTo w w' rb wb s (setAt s x ⟨none, 0, 0⟩) ∧ In w' (s x).a (s x).n (m x) := by
  obtain ⟨W, hW⟩ : ∃ W, w.alloc (.cells #[.int .i64 x.1, .int .i64 x.2] 28) = W := ⟨_, rfl⟩
  have hb : Below w.heap.size w W := by rw [← hW]; exact (Below.refl _ w).alloc (Nat.le_refl _) _
  have hc : W.heap[w.heap.size]? = some (.cells #[.int .i64 x.1, .int .i64 x.2] 28 (0, 0)) := by rw [← hW]; exact heap_alloc_new w _
  have h1 := h.below hb
  have h2 := h1.below ((Below.refl W.heap.size W).drew)
  have h3 := h2.below ((Below.refl W.drew.heap.size W.drew).drew)
  obtain ⟨t0, _⟩ := h1.cells
  obtain ⟨b0, b1⟩ := box_cells hc
  have hlk : (Instr.lookup 44 (.map (some rb)) (.agg #[.int .i64 x.1, .int .i64 x.2]) false).run Try.prog W.drew = .ok (.slice (s x).a (s x).n (s x).c) W.drew := h2.look hx
  obtain ⟨w2, hrun, hm2, hg2⟩ := h3.rows.del Try.underlying44 (x := x) hx 0
  obtain ⟨q1, q2, q3⟩ := tb_tell h3 hm2 hg2
  have HF : Hid (TbAt w2 B tb rb wb n (setAt s x ⟨none, 0, 0⟩) (setAt m x []) q ∧ TbTo w w2 rb wb s (setAt s x ⟨none, 0, 0⟩) ∧ In w2 (s x).a (s x).n (m x)) :=
    ⟨q1, (TbTo.of (hb.drew.drew)).trans q2, (h3.row x hx).in.keeps fun g hg => q3 g hx hg⟩
  have hrun' : (Builtin.delete_ #[44, 28] 0 #[.map (some rb), .agg #[.int .i64 x.1, .int .i64 x.2]]).run Try.prog W.drew.drew = .ok (.tuple #[]) w2 := hrun
  clear h h1 h2 h3 hb hc hm2 hg2 q1 q2 q3 hrun
  generalize s x = sx at *
  obtain ⟨sa, sn, sc⟩ := sx
  obtain ⟨x1, x2⟩ := x
  simp only at *
  go_enter Try.func14, Try.ntmps14
  go_wp2_with fail
  go_region
  go_wp2_with fail
  go_region
  go_wp2_with fail
  go_ret
  exact ⟨rfl, HF.out⟩
/-- Where an entry has been looked up, to be stored again. -/
structure AskMid (w U : World) (rb n st : Nat) (f : Nm → Option Value) (x : Nm) : Prop where
  os : U.os = w.os
  tape : U.tape = w.tape
  output : U.output = w.output
  size : w.heap.size ≤ U.heap.size
  block : ∀ k, k < w.heap.size → k ≠ rb → U.heap[k]? = w.heap[k]?
  next : ∀ (w2 : World) (u : Value), w2.heap[rb]? = U.heap[rb]? → ∃ w3, (Instr.entryStore 44 (.map (some rb)) (.int .i64 ((st : Nat) : Int)) u).run Try.prog w2 = .ok () w3 ∧ MpAt nmK w3 rb (n + 1) (updF f x (some u)) ∧ w2.grownBy w3 (some rb)
theorem ask_row {w U : World} {B tb rb wb n st : Nat} {s : Nm → Sl} {m : Nm → List Int} {q : Nm → Bool} {x : Nm} {f : Nm → Option Value} (h : TbAt w B tb rb wb n s m q) (hx : wfN x) (hm : AskMid w U rb n st f x) : Row U B 3 (s x).a (s x).n (s x).c (i64s (m x)) :=
  (h.row x hx).keeps fun g hg => hm.block g ((h.row x hx).lt hg).2 (by
    obtain ⟨cu, h1⟩ := (h.row x hx).type hg
    exact h.rows.ne_cells h1)
theorem ask_end {w U w4 : World} {B tb rb wb n st : Nat} {s : Nm → Sl} {m : Nm → List Int} {q : Nm → Bool} {x : Nm} {k : Int} {ra : Option Addr} {rc : Nat} (h : TbAt w B tb rb wb n s m q) (hx : wfN x) (hm : AskMid w U rb n st (fun y => if m y = [] then none else some (s y).v) x)
    (hr : Row w4 B 3 ra ((s x).n + 1) rc (i64s (m x) ++ [.int .i64 k])) (hg : U.grownBy w4 (blk (s x).a)) (hor : ra = (s x).a ∨ ∃ g, ra = some ⟨g, 0, none⟩ ∧ U.heap.size ≤ g ∧ U.grownBy w4 none) :
    ∃ w5, (Instr.entryStore 44 (.map (some rb)) (.int .i64 ((st : Nat) : Int)) (.slice ra ((s x).n + 1) rc)).run Try.prog w4 = .ok () w5 ∧ TbAt w5 B tb rb wb (n + 1) (setAt s x ⟨ra, (s x).n + 1, rc⟩) (setAt m x (m x ++ [k])) q ∧ TbTo w w5 rb wb s (setAt s x ⟨ra, (s x).n + 1, rc⟩) := by
  have hnb : blk (s x).a ≠ some rb := fun e => by
    obtain ⟨cu, h1⟩ := (h.row x hx).type e
    exact h.rows.ne_cells h1 rfl
  have hrb : rb < U.heap.size := Nat.lt_of_lt_of_le h.rows.lt hm.size
  obtain ⟨w5, r1, r2, r3⟩ := hm.next w4 (.slice ra ((s x).n + 1) rc) (hg.block rb hrb (Ne.symm hnb))
  rw [show (Value.slice ra ((s x).n + 1) rc) = (⟨ra, (s x).n + 1, rc⟩ : Sl).v from rfl, row_upd2 m s x (m x ++ [k]) ⟨ra, (s x).n + 1, rc⟩ (by simp)] at r2
  have hk : ∀ j, j < w.heap.size → j ≠ rb → blk (s x).a ≠ some j → w5.heap[j]? = w.heap[j]? := fun j hj h1 h2 => by
    have hj' : j < U.heap.size := Nat.lt_of_lt_of_le hj hm.size
    rw [r3.block j (Nat.lt_of_lt_of_le hj' hg.size) (by simpa using h1), hg.block j hj' (Ne.symm h2), hm.block j hj h1]
  have hnr : ∀ j cs t p, w.heap[j]? = some (.cells cs t p) → t ≠ 3 → blk (s x).a ≠ some j := fun j cs t p hj ht e => by
    obtain ⟨cu, h1⟩ := (h.row x hx).type e
    rw [h1] at hj
    cases hj
    exact ht rfl
  have hrr : ∀ y g, wfN y → y ≠ x → blk (s y).a = some g → w5.heap[g]? = w.heap[g]? := fun y g hy hne hg' => hk g ((h.row y hy).lt hg').2 (by
    obtain ⟨cu, h1⟩ := (h.row y hy).type hg'
    exact h.rows.ne_cells h1) (h.apart y x g hy hx hne hg')
  have hra : ∀ g, blk ra = some g → blk (s x).a = some g ∨ w.heap.size ≤ g := fun g e => by
    rcases hor with e1 | ⟨g', e1, h2, _⟩
    · rw [e1] at e; exact .inl e
    · rw [e1] at e
      simp only [blk_some, Option.some.injEq] at e
      have := hm.size
      exact .inr (by omega)
  have hneb : blk ra ≠ some rb := fun e => by
    rcases hra rb e with e1 | e1
    · exact hnb e1
    · have := h.rows.lt
      omega
  refine ⟨w5, r1, ⟨(hk tb h.lt (h.rows.ne_cells h.blk) (hnr tb _ _ _ h.blk (by decide))).trans h.blk, r2, ?_, fun y hy => ?_, fun y hy => ?_, fun y z g hy hz hne => ?_, h.rw, h.hb⟩, ⟨?_, ?_, ?_, ?_, fun j hj h1 _ h3 => hk j hj h1 (h3 x hx), fun y g hy e => ?_⟩⟩
  · refine mp_more (h.want.keeps (hk wb h.want.lt (Ne.symm h.rw) fun e => ?_))
    obtain ⟨cu, h1⟩ := (h.row x hx).type e
    exact h.want.ne_cells h1 rfl
  · by_cases e : y = x
    · subst e
      rw [setAt_same, setAt_same, i64s_append]
      exact hr.keeps fun g hg' => r3.block g (hr.lt hg').2 (fun e => by cases e; exact hneb hg')
    · rw [setAt_other _ _ e, setAt_other _ _ e]
      exact (h.row y hy).keeps fun g hg' => hrr y g hy e hg'
  · by_cases e : y = x
    · subst e; rw [setAt_same] at hy; simp at hy
    · rw [setAt_other _ _ e] at hy ⊢
      exact h.nil y hy
  · have key : ∀ y g, wfN y → y ≠ x → blk (s y).a = some g → blk ra ≠ some g := fun y g hy hyx e1 e2 => by
      rcases hra g e2 with e3 | e3
      · exact h.apart y x g hy hx hyx e1 e3
      · have := ((h.row y hy).lt e1).2
        omega
    by_cases e : y = x
    · subst e
      rw [setAt_same, setAt_other _ _ (Ne.symm hne)]
      intro e1 e2
      exact key z g hz (Ne.symm hne) e2 e1
    · rw [setAt_other _ _ e]
      by_cases e2 : z = x
      · subst e2; rw [setAt_same]
        exact key y g hy e
      · rw [setAt_other _ _ e2]
        exact h.apart y z g hy hz hne
  · exact r3.os.trans (hg.os.trans hm.os)
  · exact r3.tape.trans (hg.tape.trans hm.tape)
  · exact r3.output.trans (hg.output.trans hm.output)
  · exact Nat.le_trans hm.size (Nat.le_trans hg.size r3.size)
  · by_cases e2 : y = x
    · subst e2; rw [setAt_same] at e
      rcases hra g e with e3 | e3
      · exact .inl ⟨y, hy, e3⟩
      · exact .inr e3
    · rw [setAt_other _ _ e2] at e
      exact .inl ⟨y, hy, e⟩
end Go.Proofs.Ytdonclnjgopmbaa
