/- Contract of Ask. -/
import Derived.Test.YtdonclnjgopmbaaOD
namespace Go.Proofs.Ytdonclnjgopmbaa
open Go.RowKit
attribute [local go_sem ↓] Go.wp_at_zero Go.wp_at_succ
/-- What Ask leaves: a table in which one more waits, or as it was. -/
def AskTo (w : World) (B tb rb wb n : Nat) (s : Nm → Sl) (m : Nm → List Int) (q : Nm → Bool) (x : Nm) (k : Int) (w' : World) : Prop :=
  ∃ s', TbAt w' B tb rb wb (n + 1) s' (if hasI (m x) k = true then m else setAt m x (m x ++ [k])) q ∧ TbTo w w' rb wb s s'
theorem ask_mid {w : World} {B tb rb wb n : Nat} {s : Nm → Sl} {m : Nm → List Int} {q : Nm → Bool} {x : Nm} (W : World) (h : TbAt w B tb rb wb n s m q) (hx : wfN x) (hb : Below w.heap.size w W) (hn : n ≤ 1000000) :
    ∃ (st : Nat) (U : World), (Instr.mapEntry 44 (.map (some rb)) (.agg #[.int .i64 x.1, .int .i64 x.2])).run Try.prog W = .ok (.tuple #[.slice (s x).a (s x).n (s x).c, .int .i64 ((st : Nat) : Int)]) U ∧ AskMid w U rb n st (fun y => if m y = [] then none else some (s y).v) x ∧ (∀ g, g < W.heap.size → g ≠ rb → U.heap[g]? = W.heap[g]?) ∧ W.heap.size ≤ U.heap.size := by
  have hT := h.below hb
  obtain ⟨st, U, r1, r2, r3⟩ := hT.rows.entry Try.underlying44 (z := .slice none 0 0) (fun u => by go_simp) (by unfold maxLen; omega) (x := x) hx
  have e0 : ((fun y => if m y = [] then none else some (s y).v) x).getD (Value.slice none 0 0) = (s x).v := by
    by_cases hm : m x = []
    · simp only [hm, if_true, Option.getD_none]
      rw [h.nil x hm]; rfl
    · simp only [hm, if_false, Option.getD_some]
  rw [e0] at r1
  refine ⟨st, U, r1, ⟨r2.os.trans hb.os, r2.tape.trans hb.tape, r2.output.trans hb.output, Nat.le_trans hb.size r2.size, fun k hk h1 => ?_, r3⟩, fun g hg h1 => r2.block g hg (by simpa using h1), r2.size⟩
  rw [r2.block k (Nat.lt_of_lt_of_le hk hb.size) (by simpa using h1), hb.block k hk]
theorem AskMid.alloc {w U : World} {rb n st : Nat} {f : Nm → Option Value} {x : Nm} (h : AskMid w U rb n st f x) (hrb : rb < w.heap.size) (o : Obj) : AskMid w (U.alloc o) rb n st f x :=
  ⟨h.os, h.tape, h.output, by have := h.size; simp; omega, fun k hk h1 => (heap_alloc_old U o (Nat.lt_of_lt_of_le hk h.size)).trans (h.block k hk h1), fun w2 u hw => h.next w2 u (hw.trans (heap_alloc_old U o (Nat.lt_of_lt_of_le hrb h.size)))⟩
set_option maxRecDepth 100000 in
set_option maxHeartbeats 2000000 in
theorem o11 (B tb rb wb n : Nat) (s : Nm → Sl) (m : Nm → List Int) (q : Nm → Bool) (x : Nm) (k : Int) (w : World) (h : TbAt w B tb rb wb n s m q) (hx : wfN x) (hn : n ≤ 1000000) (hl : (m x).length ≤ 1000000) (hB : B ≤ w.heap.size) :
    Calls Try.prog 11 #[.pointer (some ⟨tb, 0, none⟩), .agg #[.int .i64 x.1, .int .i64 x.2], .int .i64 k] w fun e w' => e = .returned (.bool (!hasI (m x) k)) ∧ AskTo w B tb rb wb n s m q x k w' := by
  obtain ⟨i0, hi, hz, hsz, hby⟩ := infoI64
  obtain ⟨W, hW⟩ : ∃ W, w.alloc (.cells #[.int .i64 x.1, .int .i64 x.2] 28) = W := ⟨_, rfl⟩
  have hb : Below w.heap.size w W := by rw [← hW]; exact (Below.refl _ w).alloc (Nat.le_refl _) _
  have hc : W.heap[w.heap.size]? = some (.cells #[.int .i64 x.1, .int .i64 x.2] 28 (0, 0)) := by rw [← hW]; exact heap_alloc_new w _
  have hlt : w.heap.size < W.heap.size := by rw [← hW]; simp
  have h1 := h.below hb
  obtain ⟨t0, _⟩ := h1.cells
  obtain ⟨b0, b1⟩ := box_cells hc
  have hlen : (s x).n = (m x).length := by simpa using (h.row x hx).len.symm
  have hlk : (Instr.lookup 44 (.map (some rb)) (.agg #[.int .i64 x.1, .int .i64 x.2]) false).run Try.prog W.drew = .ok (.slice (s x).a (s x).n (s x).c) W.drew := (h1.below ((Below.refl W.heap.size W).drew)).look hx
  have H27 : Calls Try.prog 27 #[.slice (s x).a (s x).n (s x).c, .int .i64 k] W.drew fun e w' => e = .returned (.bool (hasI (m x) k)) ∧ w' = W.drew :=
    o27 (s x).a (s x).n (s x).c (m x) k W.drew ((h1.below ((Below.refl W.heap.size W).drew)).row x hx).in (by omega)
  have HT : Hid (TbAt w B tb rb wb n s m q ∧ wfN x ∧ Below w.heap.size w W) := ⟨h, hx, hb⟩
  cases hq : hasI (m x) k
  · have HN : Hid (∀ s' w', TbAt w' B tb rb wb (n + 1) s' (setAt m x (m x ++ [k])) q → TbTo w w' rb wb s s' → AskTo w B tb rb wb n s m q x k w') := fun s' w' p1 p2 => ⟨s', by rw [hq]; exact p1, p2⟩
    rw [hq] at H27
    have HE : Hid (∀ (W' : World), Below w.heap.size w W' → ∃ (st : Nat) (U : World), (Instr.mapEntry 44 (.map (some rb)) (.agg #[.int .i64 x.1, .int .i64 x.2])).run Try.prog W' = .ok (.tuple #[.slice (s x).a (s x).n (s x).c, .int .i64 ((st : Nat) : Int)]) U ∧ AskMid w U rb n st (fun y => if m y = [] then none else some (s y).v) x ∧ (∀ g, g < W'.heap.size → g ≠ rb → U.heap[g]? = W'.heap[g]?) ∧ W'.heap.size ≤ U.heap.size) := fun W' hb' => ask_mid W' h hx hb' hn
    have HR : Hid (∀ U st, AskMid w U rb n st (fun y => if m y = [] then none else some (s y).v) x → Row U B 3 (s x).a (s x).n (s x).c (i64s (m x))) := fun U st hm => ask_row h hx hm
    have HS : Hid (∀ {U w4 : World} {st : Nat} {ra : Option Addr} {rc : Nat}, AskMid w U rb n st (fun y => if m y = [] then none else some (s y).v) x → Row w4 B 3 ra ((s x).n + 1) rc (i64s (m x) ++ [.int .i64 k]) → U.grownBy w4 (blk (s x).a) → (ra = (s x).a ∨ ∃ g, ra = some ⟨g, 0, none⟩ ∧ U.heap.size ≤ g ∧ U.grownBy w4 none) →
        ∃ w5, (Instr.entryStore 44 (.map (some rb)) (.int .i64 ((st : Nat) : Int)) (.slice ra ((s x).n + 1) rc)).run Try.prog w4 = .ok () w5 ∧ AskTo w B tb rb wb n s m q x k w5) := fun hm hr hg hor => by
      obtain ⟨w5, r1, r2, r3⟩ := ask_end h hx hm hr hg hor
      exact ⟨w5, r1, HN.out _ _ r2 r3⟩
    have HRB : Hid (rb < w.heap.size) := h.rows.lt
    generalize (fun y => if m y = [] then none else some (s y).v) = f at HE HR HS
    have HL : Hid ((s x).n ≤ 1000000) := by rw [hlen]; exact hl
    have HC : Hid (∀ V, W.drew = V → V.cell? ⟨tb, 0, none⟩ = some (.map (some rb)) ∧ V.cell? ⟨w.heap.size, 0, none⟩ = some (.int .i64 x.1) ∧ V.cell? ⟨w.heap.size, 1, none⟩ = some (.int .i64 x.2) ∧ Below w.heap.size w V ∧ tb < V.heap.size ∧ w.heap.size < V.heap.size) := fun V hV => by
      subst hV
      exact ⟨t0, b0, b1, hb.drew, h1.lt, hlt⟩
    clear h h1 hb hx HN hlen hl HT
    generalize i64s (m x) = ms at *
    generalize s x = sx at *
    obtain ⟨sa, sn, sc⟩ := sx
    obtain ⟨x1, x2⟩ := x
    simp only at *
    go_enter Try.func11, Try.ntmps11
    go_wp2_with fail
    go_region_with (go_at_call 27; refine H27.mono ?_; rintro e w' ⟨rfl, hw⟩; obtain rfl := hw)
    all_goals (
      clear H27 hlk b0 b1 t0
      obtain ⟨V, hV⟩ : ∃ V, W.drew = V := ⟨_, rfl⟩
      obtain ⟨t0, b0, b1, hbV, hltV⟩ := HC.out V hV
      obtain ⟨st, U, he, hmid, hkeep, hsz1⟩ := HE.out (V.alloc (.cells #[.int .i64 k] 3)).drew ((hbV.alloc hbV.size _).drew)
      have hrd : U.heap[V.heap.size]? = some (.cells #[.int .i64 k] 3 (0, 0)) := (hkeep V.heap.size (by simp) (by have := HRB.out; have := hbV.size; omega)).trans (heap_alloc_new V _)
      have t1 : ∀ o, (V.alloc o).cell? ⟨tb, 0, none⟩ = some (.map (some rb)) := fun o => (((Below.refl V.heap.size V).alloc (Nat.le_refl _) o).cell (p := ⟨tb, 0, none⟩) hltV.1).trans t0
      have d0 : ∀ o, (V.alloc o).cell? ⟨w.heap.size, 0, none⟩ = some (.int .i64 x1) := fun o => (((Below.refl V.heap.size V).alloc (Nat.le_refl _) o).cell (p := ⟨w.heap.size, 0, none⟩) hltV.2).trans b0
      have d1 : ∀ o, (V.alloc o).cell? ⟨w.heap.size, 1, none⟩ = some (.int .i64 x2) := fun o => (((Below.refl V.heap.size V).alloc (Nat.le_refl _) o).cell (p := ⟨w.heap.size, 1, none⟩) hltV.2).trans b1
      have HU : Hid (AskMid w U rb n st f (x1, x2) ∧ U.heap[V.heap.size]? = some (.cells #[.int .i64 k] 3 (0, 0))) := ⟨hmid, hrd⟩
      clear hmid hkeep hsz1 hrd hbV hltV hW hc hlt
      rw [hV]
      clear hV
      go_wp2_with fail
      go_region_law (refine step_append_row _ (by rfl) _ _ _ (by rfl) B 3 i0 _ 8 Try.underlying34 hi hz hsz hby rfl sa sn sc ms (by rfl) (HR.out U st HU.out.1) (some ⟨V.heap.size, 0, none⟩) 1 1 [.int .i64 k] (by rfl) (reads_block (cs := #[.int .i64 k]) HU.out.2) (by simp [Value.oneCell']) (fun e => by cases e) (by have := HL.out; unfold maxLen; omega) (by have := HL.out; omega) (by have := HU.out.1.size; omega) ?_; intro ra rc w4 hrow4 hgrow4 hor4 _ _; obtain ⟨w5, hst, hA⟩ := HS.out HU.out.1 hrow4 hgrow4 hor4; have HA : Hid (AskTo w B tb rb wb n s m q (x1, x2) k w5) := hA; clear hA hrow4 hgrow4 hor4)
      all_goals (
        go_wp2_with fail
        go_ret
        exact ⟨rfl, HA.out⟩))
  · have HN : Hid (∀ w', Below w.heap.size w w' → AskTo w B tb rb wb n s m q x k w') := fun w' hb' => by
      have h2 := h.below hb'
      refine ⟨s, ?_, TbTo.of hb'⟩
      rw [hq]
      exact ⟨h2.blk, mp_more h2.rows, mp_more h2.want, h2.row, h2.nil, h2.apart, h2.rw, h2.hb⟩
    rw [hq] at H27
    clear h h1 hx hlen
    generalize s x = sx at *
    obtain ⟨sa, sn, sc⟩ := sx
    obtain ⟨x1, x2⟩ := x
    simp only at *
    go_enter Try.func11, Try.ntmps11
    go_wp2_with fail
    go_region_with (go_at_call 27; refine H27.mono ?_; rintro e w' ⟨rfl, hw⟩; obtain rfl := hw)
    all_goals (
      go_wp2_with fail
      go_ret
      exact ⟨rfl, HN.out _ (HT.out.2.2.drew)⟩)
end Go.Proofs.Ytdonclnjgopmbaa
