/- Contract of the reference's Fork. -/
import Derived.Test.YtdonclnjgopmbaaPO
import Derived.Test.YtdonclnjgopmbaaPF
import Derived.Maps.AppendAt
namespace Go.Proofs.Ytdonclnjgopmbaa
open Go.RowKit
attribute [local go_sem ↓] Go.wp_at_zero Go.wp_at_succ
/-- Appending to nil. -/
theorem ap_nil {P : Program} (w : World) (t ty e : TypeId) (i : TypeInfo) (z : Value) (size bytes : Nat) (ht : P.underlying t = some (.slice e)) (hi : P.info? e = some i) (hz : i.zero = some z)
    (hsize : i.size = size) (hby : i.bytes = bytes) (hzs : z.cells.size = size) (hsz : 0 < size) (ax : Option Addr) (m c : Nat) (news : List Value) (hl : news.length = m * size) (hnews : m = 0 ∨ ∃ ad, ax = some ad ∧ ∀ j u, news[j]? = some u → w.cell? (ad.add j) = some u) (h1 : ∀ u ∈ news, u.oneCell' = true)
    (h63 : m ≤ maxLen) (hbytes : m * bytes ≤ 140737488355328) :
    ∃ a' c' w', (Builtin.append_ #[t, t] ty #[.slice none 0 0, .slice ax m c]).run P w = .ok (.slice a' m c') w' ∧ w'.ownsRow w.heap.size e size (.slice a' m c') m news ∧ w.grownBy w' none := by
  cases ax with
  | some ad =>
    obtain ⟨v', w', r1, r2, r3, _⟩ := run_append_own_at w w.heap.size t ty e i z size bytes ht hi hz hsize hby hzs hsz (.slice none 0 0) 0 [] (World.ownsRow_nil _ _ _ _) ad m c news hl (by
      rcases hnews with e | ⟨ad', e, h2⟩
      · intro j u hu
        have : news = [] := List.eq_nil_of_length_eq_zero (by rw [hl, e, Nat.zero_mul])
        rw [this] at hu; simp at hu
      · cases e; exact h2) h1 (by simpa using h63) (by simpa using hbytes) (Nat.le_refl _)
    rw [Nat.zero_add] at r2
    obtain ⟨a', c', rfl⟩ := owns_form r2
    exact ⟨a', c', w', r1, by simpa using r2, r3⟩
  | none =>
    have hm : m = 0 := by
      rcases hnews with e | ⟨ad', e, _⟩
      · exact e
      · cases e
    subst hm
    obtain rfl : news = [] := List.eq_nil_of_length_eq_zero (by rw [hl, Nat.zero_mul])
    exact ⟨none, 0, w, run_append_nothing w t t ty e i ht hi none 0 0 (Nat.le_refl _) (.slice none 0 c) (Src.ofNil w ht c), World.ownsRow_nil _ _ _ _, ⟨rfl, rfl, rfl, Nat.le_refl _, fun _ _ _ => rfl⟩⟩
theorem grown_none {w w' : World} (h : w.grownBy w' none) : Below w.heap.size w w' := ⟨h.os, h.tape, h.output, h.size, fun k hk => h.block k hk (by simp)⟩
theorem step_append_eq {P : Program} {w w' : World} {ops : Array Oper} {o : Oper} {act : Act} {K : Act → World → Prop} {Q : Exit → Act → World → Prop} {E : Prop} (hgd : o.guard = none) (s x : Operand) (t : TypeId)
    (ho : o.op = .call { callee := .builtin .append, args := #[s, x], argTypes := #[t, t] }) (v1 v2 u : Value) (hs : act.eval s = v1) (hx : act.eval x = v2) (hrun : (Builtin.append_ #[t, t] o.type #[v1, v2]).run P w = .ok u w') (hK : K (act.put o.dst u) w') :
    if Region.wanted o (yielded ops act.tmps) = true then Oper.wp P o act w K Q else E := by
  have hw : Region.wanted o (yielded ops act.tmps) = true := by simp [Region.wanted, hgd]
  rw [if_pos hw]
  unfold Oper.wp execOp
  simp only [ho, resolve, invoke, builtin, Sem.run_bind, Sem.run_pure, Result.andThen_ok, List.map_toArray, List.map_cons, List.map_nil, hs, hx, hrun]
  exact hK
/-- Behind Fork. -/
def ForkR (w : World) (G : Nat → Prop) (rs : List Rw) (ws : List Nm) (z : Value) (w' : World) : Prop :=
  ∃ fb, z = .pointer (some ⟨fb, 0, none⟩) ∧ w.heap.size ≤ fb ∧ RfAt w' (fun g => (G g ∨ (w.heap.size ≤ g ∧ g < w'.heap.size)) ∧ g ≠ fb) fb rs ws ∧ Below w.heap.size w w'
theorem Ns.all {w : World} {a : Option Addr} {n : Nat} {xs : List Nm} (h : Ns w a n xs) : n = 0 ∨ ∃ ad, a = some ad ∧ ∀ j u, (xs.flatMap encM)[j]? = some u → w.cell? (ad.add j) = some u := by
  rcases h.mem with e | ⟨b, o, e, _, hr⟩
  · exact .inl e
  · exact .inr ⟨_, e, fun j u hu => by rw [Addr.add_mid]; exact hr j u hu⟩
theorem Rs.all {w : World} {a : Option Addr} {n : Nat} {rs : List Rw} (h : Rs w a n rs) : n = 0 ∨ ∃ ad, a = some ad ∧ ∀ j u, (rs.flatMap encR)[j]? = some u → w.cell? (ad.add j) = some u := by
  rcases h.mem with e | ⟨b, o, e, _, hr⟩
  · exact .inl e
  · exact .inr ⟨_, e, fun j u hu => by rw [Addr.add_mid]; exact hr j u hu⟩
theorem encM_len' (l : List Nm) : (l.flatMap encM).length = l.length * 2 := by
  induction l with
  | nil => rfl
  | cons x r ih => simp only [List.flatMap_cons, List.length_append, ih, List.length_cons]; simp [encM]; omega
theorem encM_one' (l : List Nm) : ∀ u ∈ l.flatMap encM, u.oneCell' = true := fun u hu => by
  obtain ⟨x, _, hx⟩ := List.mem_flatMap.1 hu
  simp [encM] at hx
  rcases hx with rfl | rfl <;> rfl
set_option maxRecDepth 100000 in
set_option maxHeartbeats 4000000 in
theorem o10 (G : Nat → Prop) (rt : Nat) (rs : List Rw) (ws : List Nm) (w : World) (h : RfAt w G rt rs ws) (hn : rs.length ≤ 1000000) (hnw : ws.length ≤ 1000000) :
    Calls Try.prog 10 #[.pointer (some ⟨rt, 0, none⟩)] w fun e w' => ∃ z, e = .returned z ∧ ForkR w G rs ws z w' := by
  obtain ⟨i0, hi, hz, hs3, hby⟩ := infoR
  obtain ⟨j0, hj, hjz, hjs, hjb⟩ := infoN
  obtain ⟨W, hW⟩ : ∃ W, w.alloc (.cells #[.slice none 0 0, .slice none 0 0] 50) = W := ⟨_, rfl⟩
  obtain ⟨fb, hfb⟩ : ∃ fb, w.heap.size = fb := ⟨_, rfl⟩
  have hbW : Below w.heap.size w W := by rw [← hW]; exact (Below.refl _ w).alloc (Nat.le_refl _) _
  have hc : W.heap[fb]? = some (.cells #[.slice none 0 0, .slice none 0 0] 50 (0, 0)) := by rw [← hW, ← hfb]; exact heap_alloc_new w _
  have hrt : rt < fb := by rw [← hfb]; exact h.rlt
  obtain ⟨ra, rc, wa, wc, k1, k2, k3, k4, k5, k6⟩ := h.ex
  obtain ⟨n, hnn⟩ : ∃ n, rs.length = n := ⟨_, rfl⟩
  obtain ⟨m, hmm⟩ : ∃ m, ws.length = m := ⟨_, rfl⟩
  rw [hnn] at k1 k2 hn
  rw [hmm] at k1 k3 hnw
  have b1 : Below w.heap.size w W.drew := hbW.drew
  have r1 : Rs W.drew ra n rs := k2.keeps fun g e => b1.block g (h.lt g (k4 g e))
  obtain ⟨a1, c1, w1, e1, o1, g1⟩ := ap_nil (P := Try.prog) W.drew 48 48 58 i0 _ 3 40 Try.underlying48 hi hz hs3 hby rfl (by decide) ra n rc (rs.flatMap encR) (by rw [encR_len, hnn]) r1.all (encR_one _) (by unfold maxLen; omega) (by omega)
  have b2 : Below W.heap.size W w1 := ((Below.refl W.heap.size W).drew).trans (grown_none g1)
  have hc1 : w1.heap[fb]? = some (.cells #[.slice none 0 0, .slice none 0 0] 50 (0, 0)) := (b2.block fb (Array.getElem?_eq_some_iff.1 hc).1).trans hc
  obtain ⟨V, hV⟩ : ∃ V, w1.setCell ⟨fb, 0, none⟩ (.slice a1 n c1) = V := ⟨_, rfl⟩
  have hc2 : V.heap[fb]? = some (.cells #[.slice a1 n c1, .slice none 0 0] 50 (0, 0)) := by rw [← hV]; exact heap_setCell_same w1 fb 0 _ 50 _ hc1
  have b3 : Below w.heap.size w V := by
    rw [← hV]
    exact (hbW.trans (b2.mono hbW.size)).setCell (p := ⟨fb, 0, none⟩) (by simp [hfb]) _
  have r2 : Ns V.drew wa m ws := k3.keeps fun g e => b3.drew.block g (h.lt g (k5 g e))
  obtain ⟨a2, c2, w2, e2, o2, g2⟩ := ap_nil (P := Try.prog) V.drew 29 29 28 j0 _ 2 16 Try.underlying29 hj hjz hjs hjb rfl (by decide) wa m wc (ws.flatMap encM) (by rw [encM_len', hmm]) r2.all (encM_one' _) (by unfold maxLen; omega) (by omega)
  have b4 : Below V.heap.size V w2 := ((Below.refl V.heap.size V).drew).trans (grown_none g2)
  have hc3 : w2.heap[fb]? = some (.cells #[.slice a1 n c1, .slice none 0 0] 50 (0, 0)) := (b4.block fb (Array.getElem?_eq_some_iff.1 hc2).1).trans hc2
  have hc4 := heap_setCell_same w2 fb 1 _ 50 (.slice a2 m c2) hc3
  have HEnd : Hid (ForkR w G rs ws (.pointer (some ⟨fb, 0, none⟩)) (w2.setCell ⟨fb, 1, none⟩ (.slice a2 m c2))) := by
    have hs1 : V.heap.size = w1.heap.size := by rw [← hV]; simp
    have ho : ∀ g, g ≠ fb → (w2.setCell ⟨fb, 1, none⟩ (.slice a2 m c2)).heap[g]? = w2.heap[g]? := fun g hg => heap_setCell_other _ _ _ _ hg
    have bF : Below w.heap.size w (w2.setCell ⟨fb, 1, none⟩ (.slice a2 m c2)) := (b3.trans (b4.mono b3.size)).setCell (p := ⟨fb, 1, none⟩) (by simp [hfb]) _
    have hWs : W.heap.size = fb + 1 := by rw [← hW, ← hfb]; simp
    have q1 := owns_range o1
    have q2 := owns_range o2
    have q1' : ∀ g, blk a1 = some g → fb < g ∧ g < V.heap.size := fun g e => ⟨by have := (q1.1 g e).1; simp at this; omega, by rw [hs1]; exact (q1.1 g e).2⟩
    have q2' : ∀ g, blk a2 = some g → fb < g ∧ g < w2.heap.size := fun g e => ⟨by have h1 := (q2.1 g e).1; simp at h1; have h2 := (Array.getElem?_eq_some_iff.1 hc2).1; omega, (q2.1 g e).2⟩
    have hsz : (w2.setCell ⟨fb, 1, none⟩ (.slice a2 m c2)).heap.size = w2.heap.size := by simp
    refine ⟨fb, rfl, by omega, ⟨⟨a1, c1, a2, c2, ?_, ?_, ?_, ?_, ?_, ?_, ?_⟩, fun r hr => ⟨(h.lst r hr).1.keeps fun g e => bF.block g (h.lt g ((h.lst r hr).2 g e)), fun g e => ⟨.inl ((h.lst r hr).2 g e), fun e' => by have := h.lt g ((h.lst r hr).2 g e); omega⟩⟩, fun e => e.2 rfl, ?_, ?_⟩, bF⟩
    · rw [hnn, hmm]; exact hc4
    · rw [hnn]
      have : Rs w1 a1 n rs := ⟨hnn, q1.2⟩
      refine this.keeps fun g e => ?_
      have hg := q1' g e
      rw [ho g (by omega), b4.block g hg.2, ← hV]
      exact heap_setCell_other _ _ _ _ (by simp; omega)
    · rw [hmm]
      have : Ns w2 a2 m ws := ⟨hmm, q2.2⟩
      exact this.keeps fun g e => ho g (by have := q2' g e; omega)
    · intro g e
      have hg := q1' g e
      exact ⟨.inr ⟨by omega, by rw [hsz]; exact Nat.lt_of_lt_of_le hg.2 b4.size⟩, by omega⟩
    · intro g e
      have hg := q2' g e
      exact ⟨.inr ⟨by omega, by rw [hsz]; exact hg.2⟩, by omega⟩
    · rw [hnn]
      rcases o1.2 with ⟨e, e2⟩ | ⟨g, cap, cur, e, _, _, h4, _⟩
      · omega
      · simp only [Value.slice.injEq] at e
        obtain ⟨rfl, _, rfl⟩ := e
        exact h4
    · rcases o1.2 with ⟨e, e2⟩ | ⟨g, cap, cur, e, _, _, h4, _⟩
      · simp only [Value.slice.injEq] at e
        obtain ⟨rfl, _, rfl⟩ := e
        exact .inl ⟨rfl, rfl⟩
      · simp only [Value.slice.injEq] at e
        obtain ⟨rfl, _, rfl⟩ := e
        exact .inr ⟨_, _, rfl⟩
    · exact (Array.getElem?_eq_some_iff.1 hc4).1
    · rintro g ⟨e | ⟨_, e⟩, _⟩
      · exact Nat.lt_of_lt_of_le (h.lt g e) bF.size
      · exact e
  have t0 : W.cell? ⟨rt, 0, none⟩ = some (.slice ra n rc) := by rw [cell_of_row W rt 0 _ 50 (0, 0) ((hbW.block rt h.rlt).trans k1)]; rfl
  have t1 : V.cell? ⟨rt, 1, none⟩ = some (.slice wa m wc) := by rw [cell_of_row V rt 1 _ 50 (0, 0) ((b3.block rt h.rlt).trans k1)]; rfl
  have f0 : W.cell? ⟨fb, 0, none⟩ = some (.slice none 0 0) := by rw [cell_of_row W fb 0 _ 50 (0, 0) hc]; rfl
  have f1 : w1.cell? ⟨fb, 0, none⟩ = some (.slice none 0 0) := by rw [cell_of_row w1 fb 0 _ 50 (0, 0) hc1]; rfl
  have z1 := frozen_of_row w1 fb 0 _ 50 hc1
  have f2 : V.cell? ⟨fb, 1, none⟩ = some (.slice none 0 0) := by rw [cell_of_row V fb 1 _ 50 (0, 0) hc2]; rfl
  have f3 : w2.cell? ⟨fb, 1, none⟩ = some (.slice none 0 0) := by rw [cell_of_row w2 fb 1 _ 50 (0, 0) hc3]; rfl
  have z2 := frozen_of_row w2 fb 1 _ 50 hc3
  clear h hc hc1 hc2 hc3 hc4 hbW b1 b2 b3 b4 r1 r2 g1 g2 o1 o2 k1 k2 k3 k4 k5 k6 hnn hmm hrt
  go_enter Try.func10, Try.ntmps10
  go_wp2_with fail
  go_region_law (refine step_append_eq (by rfl) _ _ 48 (by rfl) _ _ _ (by rfl) (by rfl) e1 ?_)
  all_goals (
    go_wp2_with fail
    go_region_law (refine step_append_eq (by rfl) _ _ 29 (by rfl) _ _ _ (by rfl) (by rfl) e2 ?_)
    all_goals (
      go_wp2_with fail
      go_ret
      exact ⟨_, rfl, HEnd.out⟩))
end Go.Proofs.Ytdonclnjgopmbaa
