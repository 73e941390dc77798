/- Contracts of follow, Deref, has, New. -/
import Derived.Test.YtaehhophaaipdabDoorHP4
namespace Go.Proofs.YtaehhophaaipdabDoor
open Go.RowKit
attribute [local go_sem ↓] Go.wp_at_zero Go.wp_at_succ
theorem flat_inj : ∀ l l' : List C, flat l = flat l' → l = l'
  | [], [], _ => rfl
  | [], c :: r, h => by simp [flat, C.vals] at h
  | c :: r, [], h => by simp [flat, C.vals] at h
  | c :: r, c' :: r', h => by
    have h1 : c.vals ++ flat r = c'.vals ++ flat r' := by simpa [flat] using h
    obtain ⟨h2, h3⟩ := List.append_inj h1 rfl
    have h4 : c = c' := by
      cases c
      cases c'
      simpa [C.vals] using h2
    rw [h4, flat_inj r r' h3]
theorem termAt_uniq {w : World} {v : Value} {l l' : List C} (h : TermAt w v l) (h' : TermAt w v l') : l = l' := by
  obtain ⟨_, h⟩ := h
  obtain ⟨_, h'⟩ := h'
  rcases h with ⟨rfl, ad, rfl⟩ | ⟨b, o, cap, rfl, _, _, h3, _⟩
  · rcases h' with ⟨rfl, _⟩ | ⟨b, o, cap, e, _⟩
    · rfl
    · simp only [Value.slice.injEq] at e
      exact (List.eq_nil_of_length_eq_zero e.2.1.symm).symm
  · rcases h' with ⟨rfl, ad, e⟩ | ⟨b', o', cap', e, _, _, h3', _⟩
    · simp only [Value.slice.injEq] at e
      exact List.eq_nil_of_length_eq_zero e.2.1
    · simp only [Value.slice.injEq, Option.some.injEq, Addr.mk.injEq, and_true] at e
      obtain ⟨⟨rfl, rfl⟩, hl, rfl⟩ := e
      have hlen : (flat l).length = (flat l').length := by rw [flat_length, flat_length, hl]
      refine flat_inj l l' (List.ext_getElem? fun j => ?_)
      by_cases hj : j < (flat l).length
      · have e1 := h3 j _ (List.getElem?_eq_getElem hj)
        have e2 := h3' j _ (List.getElem?_eq_getElem (by omega))
        rw [e1] at e2
        rw [List.getElem?_eq_getElem hj, List.getElem?_eq_getElem (by omega)]
        exact e2
      · rw [List.getElem?_eq_none (by omega), List.getElem?_eq_none (by omega)]
open Classical in
/-- The rank of what a value reads as. -/
noncomputable def rkV (m : Hp) (w : World) (v : Value) : Nat := if h : ∃ l, TermAt w v l then rankH m h.choose else 0
theorem rkV_eq {m : Hp} {w : World} {v : Value} {l : List C} (h : TermAt w v l) : rkV m w v = rankH m l := by
  have hh : ∃ l, TermAt w v l := ⟨l, h⟩
  unfold rkV
  rw [dif_pos hh, termAt_uniq hh.choose_spec h]
set_option maxRecDepth 100000 in
set_option maxHeartbeats 2000000 in
theorem h33 (m : Hp) (p : Value) (l : List C) (v : Value) (w : World) (hp : HpV w p m) (hT : TermAt w v l) (hW : ∀ c ∈ l, wfN (c.vn, c.vk)) :
    Calls Tryd.prog 65 #[p, v] w fun e w' => ∃ u l', e = .returned u ∧ TermAt w' u l' ∧ IsFol m l l' ∧ Below w.heap.size w w' := by
  have HP : Hid (HpV w p m) := hp
  have HT : Hid (TermAt w v l) := hT
  have HW : Hid (∀ c ∈ l, wfN (c.vn, c.vk)) := hW
  have H23 := h23 m p l v w hp hT hW
  obtain ⟨a0, c0, hf0⟩ := hT.form
  subst hf0
  obtain ⟨q, hq⟩ : ∃ q, p = .pointer q := by
    rcases hp with ⟨h, _⟩ | ⟨_, _, _, _, h, _⟩ <;> exact ⟨_, h⟩
  subst hq
  clear hp hT hW
  go_enter Tryd.func65, Tryd.ntmps65
  go_wp2_with fail
  refine H23.mono ?_
  rintro e w1 ⟨u1, rfl, ⟨b1, k1, d1, hf1⟩, hu1, hb1⟩
  subst hf1
  have HU1 : Hid (∀ l', nextH m l = some l' → TermAt w1 (.slice b1 k1 d1) l') := hu1
  clear hu1 H23
  go_wp2_with fail
  go_loopw [1, 5, 6] (fun t x k wr => ∃ (l1 : List C), (∃ a n c, t = .slice a n c) ∧ (∃ a n c, x = .slice a n c) ∧ k = .bool (nextH m l1).isSome ∧ Hid (TermAt wr t l1 ∧ Fol m l l1 ∧ (∀ c ∈ l1, wfN (c.vn, c.vk)) ∧ ∀ l', nextH m l1 = some l' → TermAt wr x l') ∧ Below w.heap.size w wr) (fun t _ _ wr => rkV m wr t)
  case atStart => exact ⟨l, ⟨_, _, _, rfl⟩, ⟨_, _, _, rfl⟩, rfl, ⟨HT.out.below hb1, .here l, HW.out, HU1.out⟩, hb1⟩
  case round =>
    obtain ⟨l1, ⟨a, n, c, rfl⟩, ⟨a', n', c', rfl⟩, rfl, HI, hbr⟩ := hrel
    cases hn : nextH m l1 with
    | none =>
      rw [hn] at HI
      have HN : Hid (TermAt wr (.slice a n c) l1 ∧ IsFol m l l1) := ⟨HI.out.1, HI.out.2.1, hn⟩
      have hs : (none : Option (List C)).isSome = false := rfl
      clear HI hn
      go_wp2_with fail
      go_ret
      exact ⟨_, l1, rfl, HN.out.1, HN.out.2, hbr⟩
    | some l2 =>
      have hTx : TermAt wr (.slice a' n' c') l2 := HI.out.2.2.2 l2 hn
      have hwf2 : ∀ c ∈ l2, wfN (c.vn, c.vk) := by
        unfold nextH at hn
        split at hn
        · exact HP.out.wf hn
        · cases hn
      have H23 := h23 m _ l2 _ wr (HP.out.below hbr) hTx hwf2
      have HR : Hid (rankH m l2 < rankH m l1) := rank_falls HP.out.desc hn
      have HE : Hid (rkV m wr (.slice a n c) = rankH m l1) := rkV_eq HI.out.1
      have HF : Hid (Fol m l l2) := HI.out.2.1.snoc hn
      have HW2 : Hid (∀ c ∈ l2, wfN (c.vn, c.vk)) := hwf2
      have HTx : Hid (TermAt wr (.slice a' n' c') l2) := hTx
      have hs : (some l2 : Option (List C)).isSome = true := rfl
      clear HI hn hTx hwf2
      go_wp2_with fail
      refine H23.mono ?_
      rintro e w2 ⟨u2, rfl, ⟨b2, k2, d2, hf2⟩, hu2, hb2⟩
      subst hf2
      have HU2 : Hid (∀ l', nextH m l2 = some l' → TermAt w2 (.slice b2 k2 d2) l') := hu2
      have hbw2 : Below w.heap.size w w2 := hbr.trans (hb2.mono hbr.size)
      have HT2 : Hid (TermAt w2 (.slice a' n' c') l2) := HTx.out.below hb2
      have HE2 : Hid (rkV m w2 (.slice a' n' c') = rankH m l2) := rkV_eq HT2.out
      clear hu2 H23 hb2
      go_wp2_with fail
      go_roundw
      case rel => exact ⟨l2, ⟨_, _, _, rfl⟩, ⟨_, _, _, rfl⟩, rfl, ⟨HT2.out, HF.out, HW2.out, HU2.out⟩, hbw2⟩
      case measure => rw [HE.out, HE2.out]; exact HR.out
set_option maxRecDepth 100000 in
set_option maxHeartbeats 2000000 in
theorem h15 (m : Hp) (p : Value) (l : List C) (v : Value) (w : World) (hp : HpV w p m) (hT : TermAt w v l) (hW : ∀ c ∈ l, wfN (c.vn, c.vk)) (hby : l.length * 48 ≤ 140737488355328) (hbm : ∀ x l, lookH m x = some l → l.length * 48 ≤ 140737488355328) :
    Calls Tryd.prog 47 #[p, v] w fun e w' => ∃ u l', e = .returned u ∧ TermAt w' u l' ∧ IsFol m l l' ∧ (∀ g, u.ownBlock = some g → w.heap.size ≤ g) ∧ Below w.heap.size w w' := by
  have H33 := h33 m p l v w hp hT hW
  have HB : Hid (∀ l', Fol m l l' → l'.length * 48 ≤ 140737488355328) := fun l' h => by
    have : ∀ a b, Fol m a b → a.length * 48 ≤ 140737488355328 → b.length * 48 ≤ 140737488355328 := by
      intro a b h
      induction h with
      | here => exact id
      | step e _ ih =>
        intro _
        refine ih ?_
        unfold nextH at e
        split at e
        · exact hbm _ _ e
        · cases e
    exact this l l' h hby
  obtain ⟨a0, c0, hf0⟩ := hT.form
  subst hf0
  obtain ⟨q, hq⟩ : ∃ q, p = .pointer q := by
    rcases hp with ⟨h, _⟩ | ⟨_, _, _, _, h, _⟩ <;> exact ⟨_, h⟩
  subst hq
  clear hp hT hW hbm
  go_enter Tryd.func47, Tryd.ntmps47
  go_wp2_with fail
  refine H33.mono ?_
  rintro e w1 ⟨u1, l1, rfl, hT1, hF1, hb1⟩
  have H22 := h22 l1 u1 w1 hT1 (HB.out l1 hF1.1)
  have HF : Hid (IsFol m l l1) := hF1
  obtain ⟨a1, c1, hf1⟩ := hT1.form
  subst hf1
  clear hF1 hT1 H33
  go_wp2_with fail
  refine H22.mono ?_
  rintro e w2 ⟨u2, rfl, hT2, hg2, hb2⟩
  have HT2 : Hid (TermAt w2 u2 l1 ∧ (∀ g, u2.ownBlock = some g → w.heap.size ≤ g) ∧ Below w.heap.size w w2) := ⟨hT2, fun g hg => Nat.le_trans hb1.size (hg2 g hg).1, hb1.trans (hb2.mono hb1.size)⟩
  obtain ⟨a2, c2, hf2⟩ := hT2.form
  subst hf2
  clear hT2 hg2 hb2 H22
  go_wp2_with fail
  go_ret
  exact ⟨_, l1, rfl, HT2.out.1, HF.out, HT2.out.2.1, HT2.out.2.2⟩
abbrev HsS (w0 : World) (hb M bx : Nat) (x1 x2 : Int) (u : Value) (f : Bool) (w' : World) : Prop :=
  w'.cell? ⟨hb, 0, none⟩ = some (.map (some M)) ∧ w'.cell? ⟨bx, 0, none⟩ = some (.int .i64 x1) ∧ w'.cell? ⟨bx, 1, none⟩ = some (.int .i64 x2) ∧ (Instr.lookup 44 (.map (some M)) (.agg #[.int .i64 x1, .int .i64 x2]) true).run Tryd.prog w' = .ok (.tuple #[u, .bool f]) w' ∧ Hid (Below w0.heap.size w0 w')
set_option maxRecDepth 100000 in
set_option maxHeartbeats 2000000 in
theorem h21 (m : Hp) (hb M n : Nat) (D : DataW Value) (x : Nm) (w : World) (hH : HpAt w hb M n D m) (hx : wfN x) :
    Calls Tryd.prog 12 #[.pointer (some ⟨hb, 0, none⟩), .agg #[.int .i64 x.1, .int .i64 x.2]] w fun e w' => e = .returned (.bool (lookH m x).isSome) ∧ Below w.heap.size w w' := by
  have hba : Below w.heap.size w (w.alloc (.cells #[.int .i64 x.1, .int .i64 x.2] 26)).drew := ((Below.refl _ w).alloc (Nat.le_refl _) _).drew
  have hHa := hH.below hba
  obtain ⟨u, hrun, ⟨a', k', c', huf⟩, _⟩ := hHa.look x hx
  have hbx : (w.alloc (.cells #[.int .i64 x.1, .int .i64 x.2] 26)).drew.heap[w.heap.size]? = some (.cells #[.int .i64 x.1, .int .i64 x.2] 26 (0, 0)) := heap_alloc_new w _
  have hS0 : HsS w hb M w.heap.size x.1 x.2 u (lookH m x).isSome (w.alloc (.cells #[.int .i64 x.1, .int .i64 x.2] 26)).drew := ⟨hHa.cell, by rw [cell_of_row _ _ 0 _ 26 (0, 0) hbx]; rfl, by rw [cell_of_row _ _ 1 _ 26 (0, 0) hbx]; rfl, hrun, hba⟩
  obtain ⟨q, hq⟩ : ∃ q, (lookH m x).isSome = q := ⟨_, rfl⟩
  rw [hq] at hS0 ⊢
  obtain ⟨x1, x2⟩ := x
  subst huf
  have HBA : Hid (Below w.heap.size w (w.alloc (.cells #[.int .i64 x1, .int .i64 x2] 26)).drew) := hba
  clear hrun hHa hH hx hbx hq hba
  go_enter Tryd.func12, Tryd.ntmps12
  go_wp2_with fail
  refine wp_region_noPanic ?_
  refine wp_region_held_drew (S := fun w' => HsS w hb M w.heap.size x1 x2 (.slice a' k' c') q w') (by kernel_rfl) hS0 (fun hHeld => ?_)
  refine wpAnyH_take (i := 0) (v := ?_) (by simp only [List.getElem?_toArray, List.getElem?_cons_zero]; rfl) (by kernel_rfl) (by kernel_rfl) (by kernel_rfl) (fun _ _ _ h => h) (Or.inl ⟨by rfl, ?_⟩) (by assumption) ?_
  rotate_left
  · (intro w hSw; (try dsimp only at hSw); go_simp <;> with_reducible rfl)
  try simp only [Act.put, List.setIfInBounds_toArray, List.set_cons_zero, List.set_cons_succ]
  refine wpAnyH_take (i := 1) (v := ?_) (by simp only [List.getElem?_toArray, List.getElem?_cons_zero, List.getElem?_cons_succ]; rfl) (by kernel_rfl) (by kernel_rfl) (by kernel_rfl) (fun _ _ _ h => h) (Or.inl ⟨by rfl, ?_⟩) (by assumption) ?_
  rotate_left
  · (intro w hSw; (try dsimp only at hSw); go_simp <;> with_reducible rfl)
  try simp only [Act.put, List.setIfInBounds_toArray, List.set_cons_zero, List.set_cons_succ]
  refine wpAnyH_take (i := 2) (v := ?_) (by simp only [List.getElem?_toArray, List.getElem?_cons_zero, List.getElem?_cons_succ]; rfl) (by kernel_rfl) (by kernel_rfl) (by kernel_rfl) (fun _ _ _ h => h) (Or.inl ⟨by rfl, ?_⟩) (by assumption) ?_
  rotate_left
  · (intro w hSw; (try dsimp only at hSw); go_simp <;> with_reducible rfl)
  try simp only [Act.put, List.setIfInBounds_toArray, List.set_cons_zero, List.set_cons_succ]
  refine wpAnyH_take (i := 3) (v := ?_) (by simp only [List.getElem?_toArray, List.getElem?_cons_zero, List.getElem?_cons_succ]; rfl) (by kernel_rfl) (by kernel_rfl) (by kernel_rfl) (fun _ _ _ h => h) (Or.inl ⟨by rfl, ?_⟩) (by assumption) ?_
  rotate_left
  · (intro w hSw; (try dsimp only at hSw); go_simp <;> with_reducible rfl)
  try simp only [Act.put, List.setIfInBounds_toArray, List.set_cons_zero, List.set_cons_succ]
  refine wpAnyH_take (i := 4) (v := ?_) (by simp only [List.getElem?_toArray, List.getElem?_cons_zero, List.getElem?_cons_succ]; rfl) (by kernel_rfl) (by kernel_rfl) (by kernel_rfl) (fun _ _ _ h => h) (Or.inl ⟨by rfl, ?_⟩) (by assumption) ?_
  rotate_left
  · (intro w hSw; (try dsimp only at hSw); go_simp <;> with_reducible rfl)
  try simp only [Act.put, List.setIfInBounds_toArray, List.set_cons_zero, List.set_cons_succ]
  refine wpAnyH_take (i := 5) (v := ?_) (by simp only [List.getElem?_toArray, List.getElem?_cons_zero, List.getElem?_cons_succ]; rfl) (by kernel_rfl) (by kernel_rfl) (by kernel_rfl) (fun _ _ _ h => h) (Or.inl ⟨by rfl, ?_⟩) (by assumption) ?_
  rotate_left
  · (intro w hSw; (try dsimp only at hSw); go_simp <;> with_reducible rfl)
  try simp only [Act.put, List.setIfInBounds_toArray, List.set_cons_zero, List.set_cons_succ]
  refine wpAnyH_take (i := 6) (v := ?_) (by simp only [List.getElem?_toArray, List.getElem?_cons_zero, List.getElem?_cons_succ]; rfl) (by kernel_rfl) (by kernel_rfl) (by kernel_rfl) (fun _ _ _ h => h) (Or.inl ⟨by rfl, ?_⟩) (by assumption) ?_
  rotate_left
  · (intro w hSw; (try dsimp only at hSw); go_simp <;> with_reducible rfl)
  try simp only [Act.put, List.setIfInBounds_toArray, List.set_cons_zero, List.set_cons_succ]
  refine wpAnyH_take (i := 7) (v := ?_) (by simp only [List.getElem?_toArray, List.getElem?_cons_zero, List.getElem?_cons_succ]; rfl) (by kernel_rfl) (by kernel_rfl) (by kernel_rfl) (fun _ _ _ h => h) (Or.inl ⟨by rfl, ?_⟩) (by assumption) ?_
  rotate_left
  · (intro w hSw; (try dsimp only at hSw); go_simp <;> with_reducible rfl)
  try simp only [Act.put, List.setIfInBounds_toArray, List.set_cons_zero, List.set_cons_succ]
  refine wpAnyH_take (i := 8) (v := ?_) (by simp only [List.getElem?_toArray, List.getElem?_cons_zero, List.getElem?_cons_succ]; rfl) (by kernel_rfl) (by kernel_rfl) (by kernel_rfl) (fun _ _ _ h => h) (Or.inl ⟨by rfl, ?_⟩) (by assumption) ?_
  rotate_left
  · (intro w hSw; (try dsimp only at hSw); go_simp <;> with_reducible rfl)
  try simp only [Act.put, List.setIfInBounds_toArray, List.set_cons_zero, List.set_cons_succ]
  refine wpAnyH_take (i := 9) (v := ?_) (by simp only [List.getElem?_toArray, List.getElem?_cons_zero, List.getElem?_cons_succ]; rfl) (by kernel_rfl) (by kernel_rfl) (by kernel_rfl) (fun _ _ _ h => h) (Or.inl ⟨by rfl, ?_⟩) (by assumption) ?_
  rotate_left
  · (intro w hSw; (try dsimp only at hSw); go_simp <;> with_reducible rfl)
  try simp only [Act.put, List.setIfInBounds_toArray, List.set_cons_zero, List.set_cons_succ]
  refine wpAnyH_take (i := 10) (v := ?_) (by simp only [List.getElem?_toArray, List.getElem?_cons_zero, List.getElem?_cons_succ]; rfl) (by kernel_rfl) (by kernel_rfl) (by kernel_rfl) (fun _ _ _ h => h) (Or.inl ⟨by rfl, ?_⟩) (by assumption) ?_
  rotate_left
  · (intro w hSw; (try dsimp only at hSw); go_simp <;> with_reducible rfl)
  try simp only [Act.put, List.setIfInBounds_toArray, List.set_cons_zero, List.set_cons_succ]
  refine wpAnyH_done (by kernel_rfl) ?_ _
  refine NoPanic.normal ?_
  clear hHeld hS0
  go_wp2_with fail
  go_ret
  exact ⟨rfl, HBA.out⟩
theorem HpAt.new (w : World) : HpAt ((w.alloc (.map #[] 0)).alloc (.cells #[.map (some w.heap.size)] 46)) (w.heap.size + 1) w.heap.size 0 (.map []) [] := by
  refine ⟨?_, ?_, ?_, ?_, ?_, ?_⟩
  · have := heap_alloc_new (w.alloc (.map #[] 0)) (.cells #[.map (some w.heap.size)] 46)
    simpa using this
  · exact (World.ownsMap_made w Tryd.prog 26 heldElem).alloc _
  · intro x _ _; rfl
  · intro x l _ h; simp [lookH] at h
  · intro x l h; simp [lookH] at h
  · intro x l h; simp [lookH] at h
set_option maxRecDepth 100000 in
theorem h26 (w : World) : Calls Tryd.prog 4 #[] w fun e w' => e = .returned (.pointer (some ⟨w.heap.size + 1, 0, none⟩)) ∧ HpAt w' (w.heap.size + 1) w.heap.size 0 (.map []) [] ∧ Below w.heap.size w w' := by
  have HN : Hid (HpAt ((w.alloc (.map #[] 0)).alloc (.cells #[.map (some w.heap.size)] 46)) (w.heap.size + 1) w.heap.size 0 (.map []) []) := HpAt.new w
  have HB : Hid (Below w.heap.size w ((w.alloc (.map #[] 0)).alloc (.cells #[.map (some w.heap.size)] 46))) := ((Below.refl _ w).alloc (Nat.le_refl _) _).alloc (by simp) _
  have hmm := @run_makeMap Tryd.prog
  go_enter Tryd.func4, Tryd.ntmps4
  go_wp2_with fail
  go_ret
  exact ⟨rfl, HN.out, HB.out⟩
end Go.Proofs.YtaehhophaaipdabDoor
