/- A heap in memory; contracts of New, has, next, follow, Deref. -/
import Derived.Test.YtaehhophaaipdabDoorHP3
import Derived.Maps.OwnSet
import Derived.Deep.RegionHeld3
namespace Go.Proofs.YtaehhophaaipdabDoor
open Go.RowKit
attribute [local go_sem ↓] Go.wp_at_zero Go.wp_at_succ
/-- An element is read as the value that it is. -/
def heldElem : Value → Option (DataW Value × List MemPlace) := fun v => some (.held v, [])
theorem zeroT (w : World) : (zeroValue 23).run Tryd.prog w = .ok (.slice none 0 0) w := by go_simp
/-- A heap at hb with its map at M. -/
structure HpAt (w : World) (hb M n : Nat) (D : DataW Value) (m : Hp) : Prop where
  blk : w.heap[hb]? = some (.cells #[.map (some M)] 46 (0, 0))
  map : w.ownsMap Tryd.prog 26 heldElem M n D
  no : ∀ x, wfN x → lookH m x = none → Maps.has D (kLit x) = false
  yes : ∀ x l, wfN x → lookH m x = some l → ∃ v, (∀ z, D.atKey (kLit x) z = .held v) ∧ TermAt w v l
  desc : DescH m
  wf : ∀ x l, lookH m x = some l → wfN x ∧ ∀ c ∈ l, wfN (c.vn, c.vk)
theorem below_grown {w w' : World} (h : Below w.heap.size w w') : w.grownBy w' none := ⟨h.os, h.tape, h.output, h.size, fun k hk _ => h.block k hk⟩
theorem HpAt.below {w w' : World} {hb M n : Nat} {D : DataW Value} {m : Hp} (h : HpAt w hb M n D m) (hw : Below w.heap.size w w') : HpAt w' hb M n D m := by
  refine ⟨(hw.block hb (Array.getElem?_eq_some_iff.1 h.blk).1).trans h.blk, h.map.kept (below_grown hw) (by simp), h.no, fun x l hx hl => ?_, h.desc, h.wf⟩
  obtain ⟨v, h1, h2⟩ := h.yes x l hx hl
  exact ⟨v, h1, h2.below hw⟩
theorem HpAt.look {w : World} {hb M n : Nat} {D : DataW Value} {m : Hp} (h : HpAt w hb M n D m) (x : Nm) (hx : wfN x) : ∃ u, (Instr.lookup 44 (.map (some M)) (.agg #[.int .i64 x.1, .int .i64 x.2]) true).run Tryd.prog w = .ok (.tuple #[u, .bool (lookH m x).isSome]) w ∧ (∃ a k c, u = .slice a k c) ∧ ∀ l, lookH m x = some l → TermAt w u l := by
  obtain ⟨u, ps, hrun, hR⟩ := h.map.look_ok keyed23 Tryd.underlying44 (zeroT w) (show heldElem (.slice none 0 0) = some (.held (.slice none 0 0), []) from rfl) (key23 x hx)
  have hu : DataW.held u = D.atKey (kLit x) (.held (.slice none 0 0)) := by
    have h1 : heldElem u = some (DataW.held u, []) := rfl
    rw [h1] at hR
    simp only [Option.some.injEq, Prod.mk.injEq] at hR
    exact hR.1
  cases hl : lookH m x with
  | none =>
    have h0 := h.no x hx hl
    rw [h0] at hrun
    rw [Maps.atKey_of_not_has h0] at hu
    cases hu
    exact ⟨_, hrun, ⟨_, _, _, rfl⟩, fun l e => by cases e⟩
  | some l =>
    obtain ⟨v, h1, h2⟩ := h.yes x l hx hl
    have h3 := Maps.has_true_of_atKey h1
    rw [h3] at hrun
    rw [h1] at hu
    cases hu
    refine ⟨_, hrun, ?_, fun l' e => by cases e; exact h2⟩
    obtain ⟨a, c, e⟩ := h2.form
    exact ⟨_, _, _, e⟩
theorem HpAt.cell {w : World} {hb M n : Nat} {D : DataW Value} {m : Hp} (h : HpAt w hb M n D m) : w.cell? ⟨hb, 0, none⟩ = some (.map (some M)) := by
  rw [cell_of_row w hb 0 _ 46 (0, 0) h.blk]; rfl
/-- A heap, or none. -/
def HpV (w : World) (p : Value) (m : Hp) : Prop := (p = .pointer none ∧ m = []) ∨ ∃ hb M n D, p = .pointer (some ⟨hb, 0, none⟩) ∧ HpAt w hb M n D m
theorem HpV.below {w w' : World} {p : Value} {m : Hp} (h : HpV w p m) (hw : Below w.heap.size w w') : HpV w' p m := by
  rcases h with h | ⟨hb, M, n, D, h1, h2⟩
  · exact .inl h
  · exact .inr ⟨hb, M, n, D, h1, h2.below hw⟩
theorem HpV.desc {w : World} {p : Value} {m : Hp} (h : HpV w p m) : DescH m := by
  rcases h with ⟨_, rfl⟩ | ⟨hb, M, n, D, _, h2⟩
  · intro x l hx
    simp [lookH] at hx
  · exact h2.desc
theorem HpV.wf {w : World} {p : Value} {m : Hp} (h : HpV w p m) {x : Nm} {l : List C} (hx : lookH m x = some l) : ∀ c ∈ l, wfN (c.vn, c.vk) := by
  rcases h with ⟨_, rfl⟩ | ⟨hb, M, n, D, _, h2⟩
  · simp [lookH] at hx
  · exact (h2.wf x l hx).2
abbrev NxS (w0 : World) (hb M b o : Nat) (x1 x2 : Int) (u : Value) (f : Bool) (w' : World) : Prop :=
  w'.cell? ⟨hb, 0, none⟩ = some (.map (some M)) ∧ w'.cell? ⟨b, o + 3, none⟩ = some (.int .i64 x1) ∧ w'.cell? ⟨b, o + 3 + 1, none⟩ = some (.int .i64 x2) ∧ (Instr.lookup 44 (.map (some M)) (.agg #[.int .i64 x1, .int .i64 x2]) true).run Tryd.prog w' = .ok (.tuple #[u, .bool f]) w' ∧ Hid (Below w0.heap.size w0 w')
set_option maxRecDepth 100000 in
set_option maxHeartbeats 2000000 in
theorem h23 (m : Hp) (p : Value) (l : List C) (v : Value) (w : World) (hp : HpV w p m) (hT : TermAt w v l) (hW : ∀ c ∈ l, wfN (c.vn, c.vk)) :
    Calls Tryd.prog 71 #[p, v] w fun e w' => ∃ u, e = .returned (.tuple #[u, .bool (nextH m l).isSome]) ∧ (∃ a k c, u = .slice a k c) ∧ (∀ l', nextH m l = some l' → TermAt w' u l') ∧ Below w.heap.size w w' := by
  rcases hp with ⟨rfl, rfl⟩ | ⟨hb, M, n, D, rfl, hH⟩
  · have hn : nextH [] l = none := by unfold nextH lookH; split <;> rfl
    obtain ⟨a, c, hf⟩ := hT.form
    subst hf
    rw [hn]
    clear hT hW
    go_enter Tryd.func71, Tryd.ntmps71
    go_wp2_with fail
    exact bodyPost_ret (v := .tuple #[.slice none 0 0, .bool false]) (by simp [results, Tryd.results71, go_sem]) rfl ⟨_, rfl, ⟨_, _, _, rfl⟩, (fun l' e => by cases e), Below.refl _ _⟩
  · have H29 := h29 l v w hT
    obtain ⟨⟨hc, htx⟩, hT'⟩ := hT
    cases hv : isVarL l
    · have hn : nextH m l = none := by unfold nextH; rw [hv]; rfl
      rw [hv] at H29
      obtain ⟨a, c, hf⟩ := (show TermAt w v l from ⟨⟨hc, htx⟩, hT'⟩).form
      subst hf
      rw [hn]
      clear hT' hW hH hc htx hv
      go_enter Tryd.func71, Tryd.ntmps71
      go_wp2_with fail
      refine H29.mono ?_
      rintro e w1 ⟨rfl, hw⟩
      obtain rfl := hw
      go_wp2_with fail
      exact bodyPost_ret (v := .tuple #[.slice none 0 0, .bool false]) (by simp [results, Tryd.results71, go_sem]) rfl ⟨_, rfl, ⟨_, _, _, rfl⟩, (fun l' e => by cases e), Below.refl _ _⟩
    · match l, hv with
      | [c], hv =>
        have hn : nextH m [c] = lookH m (c.vn, c.vk) := by unfold nextH; rw [hv]; rfl
        rcases hT' with ⟨e, _⟩ | ⟨b, o, cap, rfl, h2, h5, h3, h4⟩
        · cases e
        obtain ⟨_, _, _, p3, p4⟩ := term_cells h3 0 (by simp)
        simp only [Nat.zero_mul, Nat.add_zero, List.getElem_cons_zero] at p3 p4
        obtain ⟨u, hrun, ⟨a', k', c', huf⟩, hu⟩ := hH.look (c.vn, c.vk) (hW c (by simp))
        have hrd : (Instr.lookup 44 (.map (some M)) (.agg #[.int .i64 c.vn, .int .i64 c.vk]) true).run Tryd.prog w.drew = .ok (.tuple #[u, .bool (lookH m (c.vn, c.vk)).isSome]) w.drew := by
          obtain ⟨u2, hrun2, _, _⟩ := (hH.below (Below.drew (Below.refl _ _))).look (c.vn, c.vk) (hW c (by simp))
          obtain ⟨u3, ps3, hrun3, hR3⟩ := hH.map.look_ok keyed23 Tryd.underlying44 (zeroT w) (show heldElem (.slice none 0 0) = some (.held (.slice none 0 0), []) from rfl) (key23 (c.vn, c.vk) (hW c (by simp)))
          obtain ⟨u4, ps4, hrun4, hR4⟩ := hH.map.drew.look_ok keyed23 Tryd.underlying44 (zeroT w.drew) (show heldElem (.slice none 0 0) = some (.held (.slice none 0 0), []) from rfl) (key23 (c.vn, c.vk) (hW c (by simp)))
          have e34 : u3 = u4 := by
            have h1 : heldElem u3 = some (DataW.held u3, []) := rfl
            have h2 : heldElem u4 = some (DataW.held u4, []) := rfl
            rw [h1] at hR3
            rw [h2] at hR4
            simp only [Option.some.injEq, Prod.mk.injEq] at hR3 hR4
            have := hR3.1.trans hR4.1.symm
            cases this
            rfl
          rw [hrun] at hrun3
          simp only [Result.ok.injEq, Value.tuple.injEq, and_true] at hrun3
          have e13 : u = u3 ∧ (lookH m (c.vn, c.vk)).isSome = Maps.has D (kLit (c.vn, c.vk)) := by simpa using hrun3
          rw [hrun4, e13.1, e13.2, e34]
        have hS0 : NxS w hb M b o c.vn c.vk u (lookH m (c.vn, c.vk)).isSome w.drew := ⟨hH.cell, p3, p4, hrd, Below.drew (Below.refl _ _)⟩
        have HU : Hid (∀ l', lookH m (c.vn, c.vk) = some l' → TermAt w.drew u l') := fun l' e => (hu l' e).below (Below.drew (Below.refl _ _))
        rw [hv] at H29
        rw [hn]
        generalize c.vn = x1 at *
        generalize c.vk = x2 at *
        obtain ⟨q, hq⟩ : ∃ q, (lookH m (x1, x2)).isSome = q := ⟨_, rfl⟩
        rw [hq] at hS0 ⊢
        simp only [List.length_singleton] at *
        subst huf
        clear hrun hrd hu hH hW hc htx h3 p3 p4 hq h2 h5
        go_enter Tryd.func71, Tryd.ntmps71
        go_wp2_with fail
        refine H29.mono ?_
        rintro e w1 ⟨rfl, hw⟩
        obtain rfl := hw
        clear H29
        go_wp2_with fail
        refine wp_region_noPanic ?_
        refine wp_region_held_drew (S := fun w' => NxS w1 hb M b o x1 x2 (.slice a' k' c') q w') (by kernel_rfl) hS0 (fun hHeld => ?_)
        refine wpAnyH_take (i := 0) (v := ?_) (by simp only [List.getElem?_toArray, List.getElem?_cons_zero]; rfl) (by kernel_rfl) (by kernel_rfl) (by kernel_rfl) (fun _ _ _ h => h) (Or.inl ⟨by rfl, ?_⟩) (by assumption) ?_
        rotate_left
        · (intro w hSw; (try dsimp only at hSw); go_simp <;> with_reducible rfl)
        try simp only [Act.put, List.setIfInBounds_toArray, List.set_cons_zero, List.set_cons_succ]
        refine wpAnyH_take (i := 1) (v := ?_) (by simp only [List.getElem?_toArray, List.getElem?_cons_zero, List.getElem?_cons_succ]; rfl) (by kernel_rfl) (by kernel_rfl) (by kernel_rfl) (fun _ _ _ h => h) (Or.inl ⟨by rfl, ?_⟩) (by assumption) ?_
        rotate_left
        · (intro w hSw; (try dsimp only at hSw); go_simp <;> with_reducible rfl)
        try simp only [Act.put, List.setIfInBounds_toArray, List.set_cons_zero, List.set_cons_succ]
        refine wpAnyH_take (i := 2) (v := ?_) (by simp only [List.getElem?_toArray, List.getElem?_cons_zero, List.getElem?_cons_succ]; rfl) (by kernel_rfl) (by kernel_rfl) (by kernel_rfl) (fun _ _ _ h => h) (Or.inl ⟨by rfl, ?_⟩) (by assumption) ?_
        rotate_left
        · (intro w hSw; (try dsimp only at hSw); go_simp <;> with_reducible rfl)
        try simp only [Act.put, List.setIfInBounds_toArray, List.set_cons_zero, List.set_cons_succ]
        refine wpAnyH_take (i := 3) (v := ?_) (by simp only [List.getElem?_toArray, List.getElem?_cons_zero, List.getElem?_cons_succ]; rfl) (by kernel_rfl) (by kernel_rfl) (by kernel_rfl) (fun _ _ _ h => h) (Or.inl ⟨by rfl, ?_⟩) (by assumption) ?_
        rotate_left
        · (intro w hSw; (try dsimp only at hSw); go_simp <;> with_reducible rfl)
        try simp only [Act.put, List.setIfInBounds_toArray, List.set_cons_zero, List.set_cons_succ]
        refine wpAnyH_take (i := 4) (v := ?_) (by simp only [List.getElem?_toArray, List.getElem?_cons_zero, List.getElem?_cons_succ]; rfl) (by kernel_rfl) (by kernel_rfl) (by kernel_rfl) (fun _ _ _ h => h) (Or.inl ⟨by rfl, ?_⟩) (by assumption) ?_
        rotate_left
        · (intro w hSw; (try dsimp only at hSw); go_simp <;> with_reducible rfl)
        try simp only [Act.put, List.setIfInBounds_toArray, List.set_cons_zero, List.set_cons_succ]
        refine wpAnyH_take (i := 5) (v := ?_) (by simp only [List.getElem?_toArray, List.getElem?_cons_zero, List.getElem?_cons_succ]; rfl) (by kernel_rfl) (by kernel_rfl) (by kernel_rfl) (fun _ _ _ h => h) (Or.inl ⟨by rfl, ?_⟩) (by assumption) ?_
        rotate_left
        · (intro w hSw; (try dsimp only at hSw); go_simp <;> with_reducible rfl)
        try simp only [Act.put, List.setIfInBounds_toArray, List.set_cons_zero, List.set_cons_succ]
        refine wpAnyH_take (i := 6) (v := ?_) (by simp only [List.getElem?_toArray, List.getElem?_cons_zero, List.getElem?_cons_succ]; rfl) (by kernel_rfl) (by kernel_rfl) (by kernel_rfl) (fun _ _ _ h => h) (Or.inl ⟨by rfl, ?_⟩) (by assumption) ?_
        rotate_left
        · (intro w hSw; (try dsimp only at hSw); go_simp <;> with_reducible rfl)
        try simp only [Act.put, List.setIfInBounds_toArray, List.set_cons_zero, List.set_cons_succ]
        refine wpAnyH_take (i := 7) (v := ?_) (by simp only [List.getElem?_toArray, List.getElem?_cons_zero, List.getElem?_cons_succ]; rfl) (by kernel_rfl) (by kernel_rfl) (by kernel_rfl) (fun _ _ _ h => h) (Or.inl ⟨by rfl, ?_⟩) (by assumption) ?_
        rotate_left
        · (intro w hSw; (try dsimp only at hSw); go_simp <;> with_reducible rfl)
        try simp only [Act.put, List.setIfInBounds_toArray, List.set_cons_zero, List.set_cons_succ]
        refine wpAnyH_take (i := 8) (v := ?_) (by simp only [List.getElem?_toArray, List.getElem?_cons_zero, List.getElem?_cons_succ]; rfl) (by kernel_rfl) (by kernel_rfl) (by kernel_rfl) (fun _ _ _ h => h) (Or.inl ⟨by rfl, ?_⟩) (by assumption) ?_
        rotate_left
        · (intro w hSw; (try dsimp only at hSw); go_simp <;> with_reducible rfl)
        try simp only [Act.put, List.setIfInBounds_toArray, List.set_cons_zero, List.set_cons_succ]
        refine wpAnyH_take (i := 9) (v := ?_) (by simp only [List.getElem?_toArray, List.getElem?_cons_zero, List.getElem?_cons_succ]; rfl) (by kernel_rfl) (by kernel_rfl) (by kernel_rfl) (fun _ _ _ h => h) (Or.inl ⟨by rfl, ?_⟩) (by assumption) ?_
        rotate_left
        · (intro w hSw; (try dsimp only at hSw); go_simp <;> with_reducible rfl)
        try simp only [Act.put, List.setIfInBounds_toArray, List.set_cons_zero, List.set_cons_succ]
        refine wpAnyH_take (i := 10) (v := ?_) (by simp only [List.getElem?_toArray, List.getElem?_cons_zero, List.getElem?_cons_succ]; rfl) (by kernel_rfl) (by kernel_rfl) (by kernel_rfl) (fun _ _ _ h => h) (Or.inl ⟨by rfl, ?_⟩) (by assumption) ?_
        rotate_left
        · (intro w hSw; (try dsimp only at hSw); go_simp <;> with_reducible rfl)
        try simp only [Act.put, List.setIfInBounds_toArray, List.set_cons_zero, List.set_cons_succ]
        refine wpAnyH_take (i := 11) (v := ?_) (by simp only [List.getElem?_toArray, List.getElem?_cons_zero, List.getElem?_cons_succ]; rfl) (by kernel_rfl) (by kernel_rfl) (by kernel_rfl) (fun _ _ _ h => h) (Or.inl ⟨by rfl, ?_⟩) (by assumption) ?_
        rotate_left
        · (intro w hSw; (try dsimp only at hSw); go_simp <;> with_reducible rfl)
        try simp only [Act.put, List.setIfInBounds_toArray, List.set_cons_zero, List.set_cons_succ]
        refine wpAnyH_take (i := 12) (v := ?_) (by simp only [List.getElem?_toArray, List.getElem?_cons_zero, List.getElem?_cons_succ]; rfl) (by kernel_rfl) (by kernel_rfl) (by kernel_rfl) (fun _ _ _ h => h) (Or.inl ⟨by rfl, ?_⟩) (by assumption) ?_
        rotate_left
        · (intro w hSw; (try dsimp only at hSw); go_simp <;> with_reducible rfl)
        try simp only [Act.put, List.setIfInBounds_toArray, List.set_cons_zero, List.set_cons_succ]
        refine wpAnyH_take (i := 13) (v := ?_) (by simp only [List.getElem?_toArray, List.getElem?_cons_zero, List.getElem?_cons_succ]; rfl) (by kernel_rfl) (by kernel_rfl) (by kernel_rfl) (fun _ _ _ h => h) (Or.inl ⟨by rfl, ?_⟩) (by assumption) ?_
        rotate_left
        · (intro w hSw; (try dsimp only at hSw); go_simp <;> with_reducible rfl)
        try simp only [Act.put, List.setIfInBounds_toArray, List.set_cons_zero, List.set_cons_succ]
        refine wpAnyH_done (by kernel_rfl) ?_ _
        refine NoPanic.normal ?_
        clear hHeld hS0
        go_wp2_with fail
        exact bodyPost_ret (v := .tuple #[.slice a' k' c', .bool q]) (by simp [results, Tryd.results71, go_sem]) rfl ⟨_, rfl, ⟨_, _, _, rfl⟩, HU.out, Below.drew (Below.refl _ _)⟩
end Go.Proofs.YtaehhophaaipdabDoor
