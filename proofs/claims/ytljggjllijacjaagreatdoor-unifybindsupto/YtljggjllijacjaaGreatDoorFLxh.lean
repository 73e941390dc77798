/- next, whose value is that which the heap holds. Terms with all values in them, in plain lists: they are right. What a variable leads to, readable in the world ahead; a term with all values in it. Contracts of Resolve, of Value of a variable without a value, and of the statement that what is resolved is so for good. -/
import Derived.Test.YtljggjllijacjaaGreatDoorIKh
namespace Go.Proofs.YtljggjllijacjaaGreatDoor
open Go.RowKit
attribute [local go_sem ↓] Go.wp_at_zero Go.wp_at_succ
theorem HpAt.look0 {w w0 : World} {hb M n : Nat} {D : DataW Value} {m : Hp} (h : HpAt w hb M n D m) (h0' : HpAt w0 hb M n D m) (x : Nm) (hx : wfN x) : ∃ u, (Instr.lookup 97 (.map (some M)) (.agg #[.int .i64 x.1, .int .i64 x.2]) true).run Tryz.prog w = .ok (.tuple #[u, .bool (lookH m x).isSome]) w ∧ (∃ a k c, u = .slice a k c) ∧ ∀ l, lookH m x = some l → TermAt w0 u l := by
  obtain ⟨u, ps, hrun, hR⟩ := h.map.look_ok keyed23 Tryz.underlying97 (zeroT w) (show heldElem (.slice none 0 0) = some (.held (.slice none 0 0), []) from rfl) (key23 x hx)
  have hu : DataW.held u = D.atKey (kLit x) (.held (.slice none 0 0)) := by
    have h1 : heldElem u = some (DataW.held u, []) := rfl
    rw [h1] at hR
    simp only [Option.some.injEq, Prod.mk.injEq] at hR
    exact hR.1
  cases hl : lookH m x with
  | none =>
    have h0 := h.no x hx hl
    rw [h0] at hrun
    rw [Maps.atKey_of_not_has h0] at hu
    cases hu
    exact ⟨_, hrun, ⟨_, _, _, rfl⟩, fun l e => by cases e⟩
  | some l =>
    obtain ⟨v, h1, h2⟩ := h0'.yes x l hx hl
    have h3 := Maps.has_true_of_atKey h1
    rw [h3] at hrun
    rw [h1] at hu
    cases hu
    refine ⟨_, hrun, ?_, fun l' e => by cases e; exact h2⟩
    obtain ⟨a, c, e⟩ := h2.form
    exact ⟨_, _, _, e⟩
set_option maxRecDepth 100000 in
set_option maxHeartbeats 2000000 in
theorem h23b (m : Hp) (hb M n : Nat) (D : DataW Value) (w0 : World) (l : List C) (v : Value) (w : World) (hH : HpAt w hb M n D m) (hH0 : HpAt w0 hb M n D m) (hT : TermAt w v l) (hW : ∀ c ∈ l, wfN (c.vn, c.vk)) :
    Calls Tryz.prog 97 #[.pointer (some ⟨hb, 0, none⟩), v] w fun e w' => ∃ u, e = .returned (.tuple #[u, .bool (nextH m l).isSome]) ∧ (∃ a k c, u = .slice a k c) ∧ (∀ l', nextH m l = some l' → TermAt w0 u l') ∧ Below w.heap.size w w' := by
  have H29 := h29 l v w hT
  obtain ⟨⟨hc, htx⟩, hT'⟩ := hT
  cases hv : isVarL l
  · have hn : nextH m l = none := by unfold nextH; rw [hv]; rfl
    rw [hv] at H29
    obtain ⟨a, c, hf⟩ := (show TermAt w v l from ⟨⟨hc, htx⟩, hT'⟩).form
    subst hf
    rw [hn]
    clear hT' hW hH hH0 hc htx hv
    go_enter Tryz.func97, Tryz.ntmps97
    go_wp2_with fail
    refine H29.mono ?_
    rintro e w1 ⟨rfl, hw⟩
    obtain rfl := hw
    go_wp2_with fail
    exact bodyPost_ret (v := .tuple #[.slice none 0 0, .bool false]) (by simp [results, Tryz.results97, go_sem]) rfl ⟨_, rfl, ⟨_, _, _, rfl⟩, (fun l' e => by cases e), Below.refl _ _⟩
  · match l, hv with
    | [c], hv =>
      have hn : nextH m [c] = lookH m (c.vn, c.vk) := by unfold nextH; rw [hv]; rfl
      rcases hT' with ⟨e, _⟩ | ⟨b, o, cap, rfl, h2, h5, h3, h4⟩
      · cases e
      obtain ⟨_, _, _, p3, p4⟩ := term_cells h3 0 (by simp)
      simp only [Nat.zero_mul, Nat.add_zero, List.getElem_cons_zero] at p3 p4
      obtain ⟨u, hrun, ⟨a', k', c', huf⟩, hu⟩ := hH.look0 hH0 (c.vn, c.vk) (hW c (by simp))
      have hrd : (Instr.lookup 97 (.map (some M)) (.agg #[.int .i64 c.vn, .int .i64 c.vk]) true).run Tryz.prog w.drew = .ok (.tuple #[u, .bool (lookH m (c.vn, c.vk)).isSome]) w.drew := by
        obtain ⟨u2, hrun2, _, _⟩ := (hH.below (Below.drew (Below.refl _ _))).look (c.vn, c.vk) (hW c (by simp))
        obtain ⟨u3, ps3, hrun3, hR3⟩ := hH.map.look_ok keyed23 Tryz.underlying97 (zeroT w) (show heldElem (.slice none 0 0) = some (.held (.slice none 0 0), []) from rfl) (key23 (c.vn, c.vk) (hW c (by simp)))
        obtain ⟨u4, ps4, hrun4, hR4⟩ := hH.map.drew.look_ok keyed23 Tryz.underlying97 (zeroT w.drew) (show heldElem (.slice none 0 0) = some (.held (.slice none 0 0), []) from rfl) (key23 (c.vn, c.vk) (hW c (by simp)))
        have e34 : u3 = u4 := by
          have h1 : heldElem u3 = some (DataW.held u3, []) := rfl
          have h2 : heldElem u4 = some (DataW.held u4, []) := rfl
          rw [h1] at hR3
          rw [h2] at hR4
          simp only [Option.some.injEq, Prod.mk.injEq] at hR3 hR4
          have := hR3.1.trans hR4.1.symm
          cases this
          rfl
        rw [hrun] at hrun3
        simp only [Result.ok.injEq, Value.tuple.injEq, and_true] at hrun3
        have e13 : u = u3 ∧ (lookH m (c.vn, c.vk)).isSome = Maps.has D (kLit (c.vn, c.vk)) := by simpa using hrun3
        rw [hrun4, e13.1, e13.2, e34]
      have hS0 : NxS w hb M b o c.vn c.vk u (lookH m (c.vn, c.vk)).isSome w.drew := ⟨hH.cell, p3, p4, hrd, Below.drew (Below.refl _ _)⟩
      have HU : Hid (∀ l', lookH m (c.vn, c.vk) = some l' → TermAt w0 u l') := fun l' e => hu l' e
      rw [hv] at H29
      rw [hn]
      generalize c.vn = x1 at *
      generalize c.vk = x2 at *
      obtain ⟨q, hq⟩ : ∃ q, (lookH m (x1, x2)).isSome = q := ⟨_, rfl⟩
      rw [hq] at hS0 ⊢
      simp only [List.length_singleton] at *
      subst huf
      clear hrun hrd hu hH hH0 hW hc htx h3 p3 p4 hq h2 h5
      go_enter Tryz.func97, Tryz.ntmps97
      go_wp2_with fail
      refine H29.mono ?_
      rintro e w1 ⟨rfl, hw⟩
      obtain rfl := hw
      clear H29
      go_wp2_with fail
      refine wp_region_noPanic ?_
      refine wp_region_held_drew (S := fun w' => NxS w1 hb M b o x1 x2 (.slice a' k' c') q w') (by kernel_rfl) hS0 (fun hHeld => ?_)
      refine wpAnyH_take (i := 0) (v := ?_) (by simp only [List.getElem?_toArray, List.getElem?_cons_zero]; rfl) (by kernel_rfl) (by kernel_rfl) (by kernel_rfl) (fun _ _ _ h => h) (Or.inl ⟨by rfl, ?_⟩) (by assumption) ?_
      rotate_left
      · (intro w hSw; (try dsimp only at hSw); go_simp <;> with_reducible rfl)
      try simp only [Act.put, List.setIfInBounds_toArray, List.set_cons_zero, List.set_cons_succ]
      refine wpAnyH_take (i := 1) (v := ?_) (by simp only [List.getElem?_toArray, List.getElem?_cons_zero, List.getElem?_cons_succ]; rfl) (by kernel_rfl) (by kernel_rfl) (by kernel_rfl) (fun _ _ _ h => h) (Or.inl ⟨by rfl, ?_⟩) (by assumption) ?_
      rotate_left
      · (intro w hSw; (try dsimp only at hSw); go_simp <;> with_reducible rfl)
      try simp only [Act.put, List.setIfInBounds_toArray, List.set_cons_zero, List.set_cons_succ]
      refine wpAnyH_take (i := 2) (v := ?_) (by simp only [List.getElem?_toArray, List.getElem?_cons_zero, List.getElem?_cons_succ]; rfl) (by kernel_rfl) (by kernel_rfl) (by kernel_rfl) (fun _ _ _ h => h) (Or.inl ⟨by rfl, ?_⟩) (by assumption) ?_
      rotate_left
      · (intro w hSw; (try dsimp only at hSw); go_simp <;> with_reducible rfl)
      try simp only [Act.put, List.setIfInBounds_toArray, List.set_cons_zero, List.set_cons_succ]
      refine wpAnyH_take (i := 3) (v := ?_) (by simp only [List.getElem?_toArray, List.getElem?_cons_zero, List.getElem?_cons_succ]; rfl) (by kernel_rfl) (by kernel_rfl) (by kernel_rfl) (fun _ _ _ h => h) (Or.inl ⟨by rfl, ?_⟩) (by assumption) ?_
      rotate_left
      · (intro w hSw; (try dsimp only at hSw); go_simp <;> with_reducible rfl)
      try simp only [Act.put, List.setIfInBounds_toArray, List.set_cons_zero, List.set_cons_succ]
      refine wpAnyH_take (i := 4) (v := ?_) (by simp only [List.getElem?_toArray, List.getElem?_cons_zero, List.getElem?_cons_succ]; rfl) (by kernel_rfl) (by kernel_rfl) (by kernel_rfl) (fun _ _ _ h => h) (Or.inl ⟨by rfl, ?_⟩) (by assumption) ?_
      rotate_left
      · (intro w hSw; (try dsimp only at hSw); go_simp <;> with_reducible rfl)
      try simp only [Act.put, List.setIfInBounds_toArray, List.set_cons_zero, List.set_cons_succ]
      refine wpAnyH_take (i := 5) (v := ?_) (by simp only [List.getElem?_toArray, List.getElem?_cons_zero, List.getElem?_cons_succ]; rfl) (by kernel_rfl) (by kernel_rfl) (by kernel_rfl) (fun _ _ _ h => h) (Or.inl ⟨by rfl, ?_⟩) (by assumption) ?_
      rotate_left
      · (intro w hSw; (try dsimp only at hSw); go_simp <;> with_reducible rfl)
      try simp only [Act.put, List.setIfInBounds_toArray, List.set_cons_zero, List.set_cons_succ]
      refine wpAnyH_take (i := 6) (v := ?_) (by simp only [List.getElem?_toArray, List.getElem?_cons_zero, List.getElem?_cons_succ]; rfl) (by kernel_rfl) (by kernel_rfl) (by kernel_rfl) (fun _ _ _ h => h) (Or.inl ⟨by rfl, ?_⟩) (by assumption) ?_
      rotate_left
      · (intro w hSw; (try dsimp only at hSw); go_simp <;> with_reducible rfl)
      try simp only [Act.put, List.setIfInBounds_toArray, List.set_cons_zero, List.set_cons_succ]
      refine wpAnyH_take (i := 7) (v := ?_) (by simp only [List.getElem?_toArray, List.getElem?_cons_zero, List.getElem?_cons_succ]; rfl) (by kernel_rfl) (by kernel_rfl) (by kernel_rfl) (fun _ _ _ h => h) (Or.inl ⟨by rfl, ?_⟩) (by assumption) ?_
      rotate_left
      · (intro w hSw; (try dsimp only at hSw); go_simp <;> with_reducible rfl)
      try simp only [Act.put, List.setIfInBounds_toArray, List.set_cons_zero, List.set_cons_succ]
      refine wpAnyH_take (i := 8) (v := ?_) (by simp only [List.getElem?_toArray, List.getElem?_cons_zero, List.getElem?_cons_succ]; rfl) (by kernel_rfl) (by kernel_rfl) (by kernel_rfl) (fun _ _ _ h => h) (Or.inl ⟨by rfl, ?_⟩) (by assumption) ?_
      rotate_left
      · (intro w hSw; (try dsimp only at hSw); go_simp <;> with_reducible rfl)
      try simp only [Act.put, List.setIfInBounds_toArray, List.set_cons_zero, List.set_cons_succ]
      refine wpAnyH_take (i := 9) (v := ?_) (by simp only [List.getElem?_toArray, List.getElem?_cons_zero, List.getElem?_cons_succ]; rfl) (by kernel_rfl) (by kernel_rfl) (by kernel_rfl) (fun _ _ _ h => h) (Or.inl ⟨by rfl, ?_⟩) (by assumption) ?_
      rotate_left
      · (intro w hSw; (try dsimp only at hSw); go_simp <;> with_reducible rfl)
      try simp only [Act.put, List.setIfInBounds_toArray, List.set_cons_zero, List.set_cons_succ]
      refine wpAnyH_take (i := 10) (v := ?_) (by simp only [List.getElem?_toArray, List.getElem?_cons_zero, List.getElem?_cons_succ]; rfl) (by kernel_rfl) (by kernel_rfl) (by kernel_rfl) (fun _ _ _ h => h) (Or.inl ⟨by rfl, ?_⟩) (by assumption) ?_
      rotate_left
      · (intro w hSw; (try dsimp only at hSw); go_simp <;> with_reducible rfl)
      try simp only [Act.put, List.setIfInBounds_toArray, List.set_cons_zero, List.set_cons_succ]
      refine wpAnyH_take (i := 11) (v := ?_) (by simp only [List.getElem?_toArray, List.getElem?_cons_zero, List.getElem?_cons_succ]; rfl) (by kernel_rfl) (by kernel_rfl) (by kernel_rfl) (fun _ _ _ h => h) (Or.inl ⟨by rfl, ?_⟩) (by assumption) ?_
      rotate_left
      · (intro w hSw; (try dsimp only at hSw); go_simp <;> with_reducible rfl)
      try simp only [Act.put, List.setIfInBounds_toArray, List.set_cons_zero, List.set_cons_succ]
      refine wpAnyH_take (i := 12) (v := ?_) (by simp only [List.getElem?_toArray, List.getElem?_cons_zero, List.getElem?_cons_succ]; rfl) (by kernel_rfl) (by kernel_rfl) (by kernel_rfl) (fun _ _ _ h => h) (Or.inl ⟨by rfl, ?_⟩) (by assumption) ?_
      rotate_left
      · (intro w hSw; (try dsimp only at hSw); go_simp <;> with_reducible rfl)
      try simp only [Act.put, List.setIfInBounds_toArray, List.set_cons_zero, List.set_cons_succ]
      refine wpAnyH_take (i := 13) (v := ?_) (by simp only [List.getElem?_toArray, List.getElem?_cons_zero, List.getElem?_cons_succ]; rfl) (by kernel_rfl) (by kernel_rfl) (by kernel_rfl) (fun _ _ _ h => h) (Or.inl ⟨by rfl, ?_⟩) (by assumption) ?_
      rotate_left
      · (intro w hSw; (try dsimp only at hSw); go_simp <;> with_reducible rfl)
      try simp only [Act.put, List.setIfInBounds_toArray, List.set_cons_zero, List.set_cons_succ]
      refine wpAnyH_done (by kernel_rfl) ?_ _
      refine NoPanic.normal ?_
      clear hHeld hS0
      go_wp2_with fail
      exact bodyPost_ret (v := .tuple #[.slice a' k' c', .bool q]) (by simp [results, Tryz.results97, go_sem]) rfl ⟨_, rfl, ⟨_, _, _, rfl⟩, HU.out, Below.drew (Below.refl _ _)⟩
end Go.Proofs.YtljggjllijacjaaGreatDoor

namespace Go.Proofs.YtljggjllijacjaaGreatDoor
open Go.RowKit
def argN (c : C) : Nat := (argsOf c.k c.n).toNat
/-- Are the cells just so many whole terms? -/
def compQ : List C → Nat → Bool
  | [], q => q == 0
  | _ :: _, 0 => false
  | c :: r, q + 1 => compQ r (q + argN c)
theorem compQ_le : ∀ {l : List C} {q : Nat}, compQ l q = true → q ≤ l.length
  | [], q, h => by
    have : q = 0 := by simpa [compQ] using h
    omega
  | _ :: _, 0, _ => by simp
  | c :: r, q + 1, h => by
    have := compQ_le (l := r) (q := q + argN c) h
    simp only [List.length_cons]
    omega
theorem compQ_zero {l : List C} (h : compQ l 0 = true) : l = [] := by
  cases l with
  | nil => rfl
  | cons c r => cases h
theorem argN_int (c : C) : (argN c : Int) = argsOf c.k c.n := by
  have := argsOf_nonneg c.k c.n
  unfold argN
  omega
theorem endF_of {len : Int} : ∀ (l : List C) (i : Int) (q : Nat), 0 ≤ i → i + (l.length : Int) ≤ len → 1 ≤ q → compQ l q = true → endF len l i q = i + (l.length : Int)
  | [], i, q, _, _, h1, h => by
    have : q = 0 := by simpa [compQ] using h
    omega
  | c :: r, i, q + 1, h0, hl, h1, h => by
    have h2 : compQ r (q + argN c) = true := h
    have h3 := compQ_le h2
    have h4 := argN_int c
    simp only [List.length_cons] at hl
    unfold endF
    rw [if_neg (by omega)]
    split
    · next e =>
      have e2 : q + argN c = 0 := by omega
      rw [e2] at h2
      rw [compQ_zero h2]
      simp
    · next e =>
      have e2 : ((q + 1 : Nat) : Int) + (argsOf c.k c.n - 1) = ((q + argN c : Nat) : Int) := by omega
      rw [e2, endF_of r (i + 1) (q + argN c) (by omega) (by omega) (by omega) h2]
      simp only [List.length_cons]
      omega
theorem comp_of {len : Int} : ∀ (l : List C) (i : Int) (q : Nat), 0 ≤ i → l ≠ [] → 1 ≤ q → endF len l i q = i + (l.length : Int) → compQ l q = true
  | [], _, _, _, h, _, _ => absurd rfl h
  | c :: r, i, 0, _, _, h1, _ => by omega
  | c :: r, i, q + 1, h0, _, _, h => by
    have h4 := argN_int c
    show compQ r (q + argN c) = true
    unfold endF at h
    simp only [List.length_cons] at h
    split at h
    · omega
    · split at h
      · next e =>
        have e2 : q + argN c = 0 := by omega
        have e3 : r = [] := List.eq_nil_of_length_eq_zero (by omega)
        rw [e2, e3]
        rfl
      · next e =>
        have e2 : ((q + 1 : Nat) : Int) + (argsOf c.k c.n - 1) = ((q + argN c : Nat) : Int) := by omega
        rw [e2] at h
        cases r with
        | nil =>
          unfold endF at h
          simp at h
          omega
        | cons d s => exact comp_of (d :: s) (i + 1) (q + argN c) (by omega) (by simp) (by omega) (by rw [h]; simp only [List.length_cons]; omega)
theorem right_iff (l : List C) : rightB l = true ↔ 1 ≤ l.length ∧ l.length ≤ 256 ∧ l.all C.ok = true ∧ compQ l 1 = true := by
  unfold rightB
  simp only [Bool.and_eq_true, decide_eq_true_eq, beq_iff_eq, cellsB]
  have key : 1 ≤ l.length → (endS l 0 = (l.length : Int) ↔ compQ l 1 = true) := fun h1 => by
    have e : endS l 0 = endF l.length l 0 1 := by
      unfold endS
      rw [if_neg (by omega)]
      simp
    rw [e]
    constructor
    · intro h
      exact comp_of l 0 1 (by omega) (fun e => by rw [e] at h1; simp at h1) (by omega) (by rw [show ((1 : Nat) : Int) = 1 by rfl, h]; omega)
    · intro h
      have := endF_of (len := l.length) l 0 1 (by omega) (by omega) (by omega) h
      rw [show ((1 : Nat) : Int) = 1 by rfl] at this
      rw [this]
      omega
  constructor
  · rintro ⟨⟨⟨h1, h2⟩, h3⟩, h4⟩
    exact ⟨by omega, by omega, h3, (key (by omega)).1 h4⟩
  · rintro ⟨h1, h2, h3, h4⟩
    exact ⟨⟨⟨by omega, by omega⟩, h3⟩, (key h1).2 h4⟩
/-- The cells with all values in them. -/
inductive Ex (m : Hp) : List C → List C → Prop
  | nil : Ex m [] []
  | one {c v : C} {r o : List C} (h : IsFol m [c] [v]) (k : Ex m r o) : Ex m (c :: r) (v :: o)
  | more {c : C} {l' x r o : List C} (h : IsFol m [c] l') (hl : l'.length ≠ 1) (hx : Ex m l' x) (k : Ex m r o) : Ex m (c :: r) (x ++ o)
theorem Ex.uniq {m : Hp} {l o o' : List C} (h : Ex m l o) (h' : Ex m l o') : o = o' := by
  induction h generalizing o' with
  | nil => cases h'; rfl
  | one h k ih =>
    cases h' with
    | one h2 k2 =>
      have := h.uniq h2
      simp only [List.cons.injEq, and_true] at this
      rw [this, ih k2]
    | more h2 hl hx k2 =>
      have := h.uniq h2
      subst this
      exact absurd rfl hl
  | more h hl hx k ihx ih =>
    cases h' with
    | one h2 k2 =>
      have := h.uniq h2
      subst this
      exact absurd rfl hl
    | more h2 hl2 hx2 k2 =>
      obtain rfl := h.uniq h2
      rw [ihx hx2, ih k2]
theorem Ex.append {m : Hp} {a b o p : List C} (h : Ex m a o) (k : Ex m b p) : Ex m (a ++ b) (o ++ p) := by
  induction h with
  | nil => exact k
  | one h _ ih => exact .one h ih
  | more h hl hx _ _ ih =>
    rw [List.append_assoc]
    exact .more h hl hx ih
theorem Ex.split {m : Hp} : ∀ {a b o : List C}, Ex m (a ++ b) o → ∃ p q, o = p ++ q ∧ Ex m a p ∧ Ex m b q
  | [], b, o, h => ⟨[], o, rfl, .nil, h⟩
  | c :: a, b, o, h => by
    cases h with
    | one h k =>
      obtain ⟨p, q, rfl, h1, h2⟩ := Ex.split k
      exact ⟨_ :: p, q, rfl, .one h h1, h2⟩
    | more h hl hx k =>
      obtain ⟨p, q, rfl, h1, h2⟩ := Ex.split k
      exact ⟨_ ++ p, q, by simp, .more h hl hx h1, h2⟩
/-- All values are right. -/
def RgH (m : Hp) : Prop := ∀ x l, lookH m x = some l → l ≠ [] ∧ rightB l = true
theorem fol_rightR {m : Hp} (hR : RgH m) {l l' : List C} (h : Fol m l l') : l' = l ∨ (isVarL l = true ∧ rightB l' = true) := by
  induction h with
  | here => exact .inl rfl
  | @step l l1 l2 h _ ih =>
    unfold nextH at h
    split at h
    · next hv =>
      have h2 := (hR _ _ h).2
      rcases ih with rfl | ⟨_, h3⟩
      · exact .inr ⟨hv, h2⟩
      · exact .inr ⟨hv, h3⟩
    · cases h
theorem Ex.len {m : Hp} (hR : RgH m) {l o : List C} (h : Ex m l o) : l.length ≤ o.length := by
  induction h with
  | nil => simp
  | one h k ih => simpa using ih
  | @more c l' x r o h hl hx k ihx ih =>
    have : 1 ≤ l'.length := by
      rcases fol_rightR hR h.1 with e | ⟨_, hr⟩
      · subst e
        simp
      · exact ((right_iff _).1 hr).1
    simp only [List.length_cons, List.length_append]
    omega
end Go.Proofs.YtljggjllijacjaaGreatDoor

namespace Go.Proofs.YtljggjllijacjaaGreatDoor
open Go.RowKit
attribute [local go_sem ↓] Go.wp_at_zero Go.wp_at_succ
set_option maxRecDepth 100000 in
set_option maxHeartbeats 2000000 in
theorem h33b (m : Hp) (hb M n : Nat) (D : DataW Value) (w0 : World) (l : List C) (v : Value) (w : World) (hH : HpAt w0 hb M n D m) (hbw : Below w0.heap.size w0 w) (hT : TermAt w0 v l) (hW : ∀ c ∈ l, wfN (c.vn, c.vk)) :
    Calls Tryz.prog 76 #[.pointer (some ⟨hb, 0, none⟩), v] w fun e w' => ∃ a k c l', e = .returned (.slice a k c) ∧ Hid (TermAt w0 (.slice a k c) l' ∧ IsFol m l l' ∧ (∀ c ∈ l', wfN (c.vn, c.vk)) ∧ Below w0.heap.size w0 w' ∧ Below w.heap.size w w') := by
  have HP : Hid (HpAt w0 hb M n D m) := hH
  have HT : Hid (TermAt w0 v l) := hT
  have HW : Hid (∀ c ∈ l, wfN (c.vn, c.vk)) := hW
  have K23 : Hid (∀ (l : List C) (v : Value) (u : World), Below w0.heap.size w0 u → TermAt w0 v l → (∀ c ∈ l, wfN (c.vn, c.vk)) → Calls Tryz.prog 97 #[.pointer (some ⟨hb, 0, none⟩), v] u fun e w' => ∃ a k c, e = .returned (.tuple #[.slice a k c, .bool (nextH m l).isSome]) ∧ Hid ((∀ l', nextH m l = some l' → TermAt w0 (.slice a k c) l') ∧ Below w0.heap.size w0 w' ∧ Below u.heap.size u w')) := fun l v u hu h1 h2 => by
    refine (h23b m hb M n D w0 l v u (HP.out.below hu) HP.out (h1.below hu) h2).mono ?_
    rintro e w' ⟨u', rfl, ⟨a, k, c, rfl⟩, k1, k2⟩
    exact ⟨a, k, c, rfl, k1, hu.trans (k2.mono hu.size), k2⟩
  have H23 := K23.out l v w hbw hT hW
  obtain ⟨a0, c0, hf0⟩ := hT.form
  subst hf0
  clear hH hT hW hbw
  go_enter Tryz.func76, Tryz.ntmps76
  go_wp2_with fail
  refine H23.mono ?_
  rintro e w1 ⟨b1, k1, d1, rfl, HU1⟩
  clear H23
  go_wp2_with fail
  go_loopw [1, 5, 6] (fun t x k wr => ∃ (l1 : List C), (∃ a n c, t = .slice a n c) ∧ (∃ a n c, x = .slice a n c) ∧ k = .bool (nextH m l1).isSome ∧ Hid (TermAt w0 t l1 ∧ Fol m l l1 ∧ (∀ c ∈ l1, wfN (c.vn, c.vk)) ∧ (∀ l', nextH m l1 = some l' → TermAt w0 x l') ∧ Below w0.heap.size w0 wr ∧ Below w.heap.size w wr)) (fun t _ _ _ => rkV m w0 t)
  case atStart => exact ⟨l, ⟨_, _, _, rfl⟩, ⟨_, _, _, rfl⟩, rfl, HT.out, .here l, HW.out, HU1.out.1, HU1.out.2.1, HU1.out.2.2⟩
  case round =>
    clear HU1
    obtain ⟨l1, ⟨a, n, c, rfl⟩, ⟨a', n', c', rfl⟩, rfl, HI⟩ := hrel
    cases hn : nextH m l1 with
    | none =>
      rw [hn] at HI
      have HN : Hid (TermAt w0 (.slice a n c) l1 ∧ IsFol m l l1 ∧ (∀ c ∈ l1, wfN (c.vn, c.vk)) ∧ Below w0.heap.size w0 wr ∧ Below w.heap.size w wr) := ⟨HI.out.1, ⟨HI.out.2.1, hn⟩, HI.out.2.2.1, HI.out.2.2.2.2.1, HI.out.2.2.2.2.2⟩
      have hs : (none : Option (List C)).isSome = false := rfl
      clear HI hn
      go_wp2_with fail
      go_ret
      exact ⟨a, n, c, l1, rfl, HN⟩
    | some l2 =>
      have hTx : TermAt w0 (.slice a' n' c') l2 := HI.out.2.2.2.1 l2 hn
      have hwf2 : ∀ c ∈ l2, wfN (c.vn, c.vk) := by
        unfold nextH at hn
        split at hn
        · exact (HP.out.wf _ _ hn).2
        · cases hn
      have H23 := K23.out l2 _ wr HI.out.2.2.2.2.1 hTx hwf2
      have HR : Hid (rankH m l2 < rankH m l1) := rank_falls HP.out.desc hn
      have HE : Hid (rkV m w0 (.slice a n c) = rankH m l1) := rkV_eq HI.out.1
      have HE2 : Hid (rkV m w0 (.slice a' n' c') = rankH m l2) := rkV_eq hTx
      have HF : Hid (TermAt w0 (.slice a' n' c') l2 ∧ Fol m l l2 ∧ (∀ c ∈ l2, wfN (c.vn, c.vk)) ∧ Below w.heap.size w wr) := ⟨hTx, HI.out.2.1.snoc hn, hwf2, HI.out.2.2.2.2.2⟩
      have hs : (some l2 : Option (List C)).isSome = true := rfl
      clear HI hn hTx hwf2
      go_wp2_with fail
      refine H23.mono ?_
      rintro e w2 ⟨b2, k2, d2, rfl, HU2⟩
      clear H23
      go_wp2_with fail
      go_roundw
      case rel => exact ⟨l2, ⟨_, _, _, rfl⟩, ⟨_, _, _, rfl⟩, rfl, HF.out.1, HF.out.2.1, HF.out.2.2.1, HU2.out.1, HU2.out.2.1, HF.out.2.2.2.trans (HU2.out.2.2.mono HF.out.2.2.2.size)⟩
      case measure => rw [HE.out, HE2.out]; exact HR.out
/-- A term that does not begin with a variable. -/
def Nv (t : List C) : Prop := ∃ c r, t = c :: r ∧ c.k ≠ 4
def FlC (F : Nat) (acc t : List C) : Prop := 256 < acc.length + F ∨ (256 < acc.length + F + 1 ∧ Nv t)
/-- Cells of one's own, behind so many. -/
structure FlO (w0 w : World) (fa : Option Addr) (fc : Nat) (acc : List C) : Prop where
  own : w.ownsRow w0.heap.size 78 5 (.slice fa acc.length fc) acc.length (flat acc)
  bel : Below w0.heap.size w0 w
  le : acc.length ≤ 256
  tx : ∀ c ∈ acc, c.t.size ≤ maxLen ∧ wfN (c.vn, c.vk)
theorem FlO.below {w0 w w' : World} {fa : Option Addr} {fc : Nat} {acc : List C} (h : FlO w0 w fa fc acc) (hb : Below w.heap.size w w') : FlO w0 w' fa fc acc := ⟨owns_below' h.own hb, h.bel.trans (hb.mono h.bel.size), h.le, h.tx⟩
/-- What fill tells. -/
def FlP (w0 : World) (m : Hp) (acc t : List C) (e : Ending) (w' : World) : Prop :=
  (e = .returned (.tuple #[.slice none 0 0, .bool false]) ∧ Below w0.heap.size w0 w' ∧ ∀ o, Ex m t o → 256 < acc.length + o.length) ∨
    ∃ (o : List C) (fa : Option Addr) (fc : Nat), e = .returned (.tuple #[.slice fa (acc ++ o).length fc, .bool true]) ∧ Ex m t o ∧ FlO w0 w' fa fc (acc ++ o)
theorem nv_fol {m : Hp} (hR : RgH m) {c : C} {l' : List C} (h : IsFol m [c] l') (hl : l'.length ≠ 1) : c.k = 4 ∧ Nv l' := by
  rcases fol_rightR hR h.1 with e | ⟨hv, hr⟩
  · subst e
    exact absurd rfl hl
  · refine ⟨by simpa [isVarL] using hv, ?_⟩
    cases l' with
    | nil => have := (right_len hr).1; simp at this
    | cons d r =>
      refine ⟨d, r, rfl, fun hd => hl ?_⟩
      rw [var_one hr hd]
      rfl
theorem take_ex {m : Hp} {t : List C} {k : Nat} (hk : k < t.length) {o x : List C} (h : Ex m (t.take k) o) (hx : Ex m [t[k]] x) : Ex m (t.take (k + 1)) (o ++ x) := by
  rw [List.take_succ_eq_append_getElem hk]
  exact h.append hx
theorem one_ex {m : Hp} {c v : C} (h : IsFol m [c] [v]) : Ex m [c] [v] := .one h .nil
theorem more_ex {m : Hp} {c : C} {l' x : List C} (h : IsFol m [c] l') (hl : l'.length ≠ 1) (hx : Ex m l' x) : Ex m [c] x := by
  have := Ex.more h hl hx Ex.nil
  simpa using this
theorem more_inv {m : Hp} {c : C} {l' y : List C} (h : Ex m [c] y) (hf : IsFol m [c] l') (hl : l'.length ≠ 1) : Ex m l' y := by
  cases h with
  | one h k =>
    have := h.uniq hf
    subst this
    exact absurd rfl hl
  | more h hl2 hx k =>
    obtain rfl := h.uniq hf
    cases k
    simpa using hx
/-- What is too long ahead of the end is so behind it. -/
theorem long_ex {m : Hp} {t : List C} {k : Nat} (hk : k < t.length) {acc o : List C} {n : Nat} (h : Ex m (t.take k) o) (hn : ∀ x, Ex m [t[k]] x → 256 < n + o.length + x.length) (ha : acc.length = n) : ∀ o', Ex m t o' → 256 < acc.length + o'.length := by
  intro o' ho
  have e : t = t.take k ++ ([t[k]] ++ t.drop (k + 1)) := by
    rw [← List.append_assoc, ← List.take_succ_eq_append_getElem hk, List.take_append_drop]
  rw [e] at ho
  obtain ⟨p, q, rfl, h1, h2⟩ := ho.split
  obtain ⟨q1, q2, rfl, h3, h4⟩ := h2.split
  have := h1.uniq h
  subst this
  have := hn q1 h3
  simp only [List.length_append]
  omega
/-- In a round. -/
structure FlS (w0 wr : World) (m : Hp) (F : Nat) (acc0 t : List C) (k : Nat) (fa : Option Addr) (fc : Nat) (acc : List C) : Prop where
  o : FlO w0 wr fa fc acc
  ex : ∃ o, acc = acc0 ++ o ∧ Ex m (t.take k) o
  fu : 256 < acc.length + F ∨ (256 < acc.length + F + 1 ∧ Nv t ∧ k = 0)
set_option maxRecDepth 100000 in
set_option maxHeartbeats 8000000 in
theorem i34_step (m : Hp) (hb M n : Nat) (D : DataW Value) (w0 : World) (hH : HpAt w0 hb M n D m) (hR : RgH m) (F : Nat)
    (hN : ∀ (acc t : List C) (v : Value) (fa : Option Addr) (fc : Nat) (w : World), FlO w0 w fa fc acc → TermAt w0 v t → (∀ c ∈ t, wfN (c.vn, c.vk)) → 256 < acc.length + F → Nv t → Calls Tryz.prog 71 #[.pointer (some ⟨hb, 0, none⟩), .slice fa acc.length fc, v] w fun e w' => FlP w0 m acc t e w')
    (acc0 t : List C) (v : Value) (fa0 : Option Addr) (fc0 : Nat) (w : World) (hO : FlO w0 w fa0 fc0 acc0) (hT : TermAt w0 v t) (hW : ∀ c ∈ t, wfN (c.vn, c.vk)) (hF : FlC F acc0 t) :
    Calls Tryz.prog 71 #[.pointer (some ⟨hb, 0, none⟩), .slice fa0 acc0.length fc0, v] w fun e w' => FlP w0 m acc0 t e w' := by
  obtain ⟨i0, hi, hz, hs5, hby⟩ := info60
  have HH : Hid (HpAt w0 hb M n D m ∧ RgH m ∧ TermAt w0 v t ∧ ∀ c ∈ t, wfN (c.vn, c.vk)) := ⟨hH, hR, hT, hW⟩
  have HN : Hid _ := hN
  have HS0 : Hid (FlS w0 w m F acc0 t 0 fa0 fc0 acc0) := by
    refine ⟨hO, ⟨[], by simp, .nil⟩, ?_⟩
    rcases hF with h | ⟨h1, h2⟩
    · exact .inl h
    · exact .inr ⟨h1, h2, rfl⟩
  obtain ⟨va, vc, hvf⟩ := hT.form
  subst hvf
  have htl : t.length ≤ 9223372036854775807 := hT.1.1
  clear hH hR hN hO hT hW hF
  go_enter Tryz.func71, Tryz.ntmps71
  go_wp2_with fail
  go_loopw [1, 13] (fun sl si wr => ∃ (k : Nat) (fa : Option Addr) (fc an : Nat), k ≤ t.length ∧ an ≤ 256 ∧ sl = .slice fa an fc ∧ si = .int .i64 k ∧ Hid (∃ acc, FlS w0 wr m F acc0 t k fa fc acc ∧ acc.length = an)) (fun _ si _ => t.length - (intOf si).toNat)
  case atStart => exact ⟨0, fa0, fc0, acc0.length, Nat.zero_le _, HS0.out.o.le, rfl, rfl, acc0, HS0.out, rfl⟩
  case round =>
    clear HS0
    obtain ⟨k, fa, fc, an, hk, han, rfl, rfl, HK'⟩ := hrel
    obtain ⟨acc, HK⟩ : ∃ acc, Hid (FlS w0 wr m F acc0 t k fa fc acc ∧ acc.length = an) := HK'.out
    clear HK'
    by_cases hlt : k < t.length
    · have hltI : (k : Int) < (t.length : Int) := by omega
      have hk0 : (0 : Int) ≤ (k : Int) := by omega
      obtain ⟨b, o, rfl, hcap, HT1⟩ : ∃ b o, va = some ⟨b, o, none⟩ ∧ t.length ≤ vc ∧ Hid (TermAt w0 (.slice (some ⟨b, o + k * 5, none⟩) 1 (vc - k)) [t[k]] ∧ vc ≤ maxLen) := by
        obtain ⟨⟨h1, h2⟩, ⟨e, _⟩ | ⟨b, o, cap, e, h3, h4, h5, h6⟩⟩ := HH.out.2.2.1
        · rw [e] at hlt
          simp at hlt
        · simp only [Value.slice.injEq, true_and] at e
          obtain ⟨rfl, rfl⟩ := e
          refine ⟨b, o, rfl, h3, ⟨⟨by simp [maxLen], fun c hc => by simp at hc; subst hc; exact h2 _ (List.getElem_mem hlt)⟩, .inr ⟨b, o + k * 5, vc - k, rfl, by simp; omega, by omega, ?_, h6⟩⟩, h4⟩
          obtain ⟨p0, p1, p2, p3, p4⟩ := term_cells h5 k hlt
          intro j u hu
          simp only [flat, List.flatMap_cons, List.flatMap_nil, List.append_nil, C.vals] at hu
          match j, hu with
          | 0, hu => simp at hu; rw [← hu]; exact p0
          | 1, hu => simp at hu; rw [← hu]; exact p1
          | 2, hu => simp at hu; rw [← hu]; exact p2
          | 3, hu => simp at hu; rw [← hu]; exact p3
          | 4, hu => simp at hu; rw [← hu]; exact p4
          | j + 5, hu => simp at hu
      have hcap2 : vc ≤ 9223372036854775807 := HT1.out.2
      have H37 : Calls Tryz.prog 76 #[.pointer (some ⟨hb, 0, none⟩), .slice (some ⟨b, o + k * 5, none⟩) 1 (vc - k)] wr fun e w' => ∃ a kk c l', e = .returned (.slice a kk c) ∧ Hid (TermAt w0 (.slice a kk c) l' ∧ IsFol m [t[k]] l' ∧ (∀ c ∈ l', wfN (c.vn, c.vk)) ∧ Below w0.heap.size w0 w' ∧ Below wr.heap.size wr w') := h33b m hb M n D w0 [t[k]] _ wr HH.out.1 HK.out.1.o.bel HT1.out.1 (fun c hc => by simp at hc; subst hc; exact HH.out.2.2.2 _ (List.getElem_mem hlt))
      clear HT1
      go_wp2_with fail
      refine H37.mono ?_
      rintro e w2 ⟨a2, n2, c2, l', rfl, H2⟩
      clear H37
      obtain rfl : n2 = l'.length := by
        obtain ⟨a', c', e⟩ := H2.out.1.form
        simp only [Value.slice.injEq] at e
        exact e.2.1
      have HB2 : Hid (Below wr.heap.size wr w2 ∧ FlO w0 w2 fa fc acc) := ⟨H2.out.2.2.2.2, HK.out.1.o.below H2.out.2.2.2.2⟩
      by_cases hl1 : l'.length = 1
      · obtain ⟨x, rfl⟩ : ∃ x, l' = [x] := List.length_eq_one_iff.1 hl1
        obtain ⟨vb, vo, rfl, q0, q1, q2, q3, q4⟩ : ∃ vb vo, a2 = some ⟨vb, vo, none⟩ ∧ w2.cell? ⟨vb, vo, none⟩ = some (.int .u8 x.k) ∧ w2.cell? ⟨vb, vo + 1, none⟩ = some (.string x.t) ∧ w2.cell? ⟨vb, vo + 2, none⟩ = some (.int .i64 x.n) ∧ w2.cell? ⟨vb, vo + 3, none⟩ = some (.int .i64 x.vn) ∧ w2.cell? ⟨vb, vo + 4, none⟩ = some (.int .i64 x.vk) := by
          obtain ⟨_, ⟨e, _⟩ | ⟨vb, vo, cap, e, _, _, h5, _⟩⟩ := H2.out.1.below H2.out.2.2.2.1
          · cases e
          · simp only [Value.slice.injEq] at e
            obtain ⟨rfl, _, _⟩ := e
            have := term_cells h5 0 (by simp)
            simp only [Nat.zero_mul, Nat.add_zero, List.getElem_cons_zero] at this
            exact ⟨vb, vo, rfl, this⟩
        have HX : Hid (IsFol m [t[k]] [x] ∧ x.t.size ≤ maxLen ∧ wfN (x.vn, x.vk)) := ⟨H2.out.2.1, H2.out.1.1.2 x (by simp), H2.out.2.2.1 x (by simp)⟩
        have hal : acc.length = an := HK.out.2
        have HA : Hid (FlO w0 (w2.alloc (.cells #[.int .u8 x.k, .string x.t, .int .i64 x.n, .int .i64 x.vn, .int .i64 x.vk] 78)) fa fc acc) := HB2.out.2.below ((Below.refl _ w2).alloc (Nat.le_refl _) _)
        have HOA : Hid ((w2.alloc (.cells #[.int .u8 x.k, .string x.t, .int .i64 x.n, .int .i64 x.vn, .int .i64 x.vk] 78)).ownsRow w0.heap.size 78 5 (.slice fa an fc) an (flat acc)) := by
          have := HA.out.own
          rw [hal] at this
          exact this
        have HSZ : Hid (w0.heap.size ≤ w2.heap.size) := H2.out.2.2.2.1.size
        clear H2 HB2
        go_wp2_with (at_builtin; refine wpList_append_own _ rfl _ _ 24 rfl w0.heap.size 78 i0 zero60 5 48 Tryz.underlying24 hi hz hs5 hby rfl (by decide) _ an (flat acc) rfl HOA.out ⟨w2.heap.size, 0, none⟩ 1 1 (flat [x]) rfl rfl (news_new w2 x) (flat_one _) (by unfold maxLen; omega) (by omega) HA.out.bel.size ?_)
        intro v' w4 hown hgr _
        obtain ⟨an1, han1⟩ : ∃ an1, an + 1 = an1 := ⟨_, rfl⟩
        obtain ⟨fa', fc', rfl, HF⟩ : ∃ fa' fc', v' = .slice fa' an1 fc' ∧ Hid (w4.ownsRow w0.heap.size 78 5 (.slice fa' (acc ++ [x]).length fc') (acc ++ [x]).length (flat (acc ++ [x])) ∧ Below w0.heap.size w0 w4) := by
          obtain ⟨a', c', e, _⟩ := own_sl hown
          subst e
          refine ⟨a', c', by rw [han1], ?_, HA.out.bel.grown hgr HA.out.bel.size (fun g hg => (HOA.out.lt g hg).1)⟩
          have e1 : (acc ++ [x]).length = an + 1 := by simp [hal]
          rw [e1, flat_append]
          exact hown
        clear hown hgr HOA q0 q1 q2 q3 q4
        by_cases hle : an1 ≤ 256
        · have hleI : ¬ (256 : Int) < (an1 : Int) := by omega
          have HE : Hid (FlS w0 w4 m F acc0 t (k + 1) fa' fc' (acc ++ [x]) ∧ (acc ++ [x]).length = an1) := by
            have e1 : (acc ++ [x]).length = an1 := by simp; omega
            obtain ⟨h1, _⟩ := HK.out
            obtain ⟨oo, e2, h2⟩ := h1.ex
            refine ⟨⟨⟨HF.out.1, HF.out.2, by omega, fun c hc => ?_⟩, ⟨oo ++ [x], by rw [e2, List.append_assoc], take_ex hlt h2 (one_ex HX.out.1)⟩, ?_⟩, e1⟩
            · rcases List.mem_append.1 hc with hc | hc
              · exact h1.o.tx c hc
              · simp at hc
                subst hc
                exact HX.out.2
            · rcases h1.fu with h | ⟨h, _⟩
              · exact .inl (by omega)
              · exact .inl (by omega)
          clear HF HA HK HX
          go_wp2_with fail
          go_roundw
          case rel => exact ⟨k + 1, fa', fc', an1, by omega, hle, rfl, by go_num, acc ++ [x], HE.out⟩
          case measure => simp [intOf]; omega
        · have hleI : (256 : Int) < (an1 : Int) := by omega
          have HE : Hid (Below w0.heap.size w0 w4 ∧ ∀ o, Ex m t o → 256 < acc0.length + o.length) := by
            obtain ⟨h1, _⟩ := HK.out
            obtain ⟨oo, e2, h2⟩ := h1.ex
            have e3 := congrArg List.length e2
            simp only [List.length_append] at e3
            refine ⟨HF.out.2, long_ex hlt h2 (fun y hy => ?_) rfl⟩
            have := hy.uniq (one_ex HX.out.1)
            subst this
            simp only [List.length_singleton]
            omega
          clear HF HA HK HX
          go_wp2_with fail
          refine bodyPost_ret (v := .tuple #[.slice none 0 0, .bool false]) (by simp [results, Tryz.results71, go_sem]) rfl ?_
          exact .inl ⟨rfl, HE.out.1, HE.out.2⟩
      · have hl1I : ¬ (l'.length : Int) = 1 := by omega
        have hal : acc.length = an := HK.out.2
        have HNF : Hid (IsFol m [t[k]] l') := H2.out.2.1
        have H34 : Calls Tryz.prog 71 #[.pointer (some ⟨hb, 0, none⟩), .slice fa an fc, .slice a2 l'.length c2] w2 fun e w' => FlP w0 m acc l' e w' := by
          obtain ⟨q1, q2⟩ := nv_fol HH.out.2.1 H2.out.2.1 hl1
          have h := HN.out acc l' (.slice a2 l'.length c2) fa fc w2 HB2.out.2 H2.out.1 H2.out.2.2.1 ?_ q2
          · rw [hal] at h
            exact h
          · rcases HK.out.1.fu with h | ⟨_, ⟨c, r, e, hc⟩, e2⟩
            · exact h
            · subst e2
              subst e
              exact absurd q1 hc
        clear H2 HB2
        go_wp2_with fail
        refine H34.mono ?_
        rintro e w3 (⟨rfl, hb3, hf⟩ | ⟨o1, fa1, fc1, rfl, hx, hO⟩)
        · have HE : Hid (Below w0.heap.size w0 w3 ∧ ∀ o, Ex m t o → 256 < acc0.length + o.length) := by
            obtain ⟨h1, _⟩ := HK.out
            obtain ⟨oo, e2, h2⟩ := h1.ex
            have e3 := congrArg List.length e2
            simp only [List.length_append] at e3
            refine ⟨hb3, long_ex hlt h2 (fun y hy => ?_) rfl⟩
            have := hf y (more_inv hy HNF.out hl1)
            omega
          clear hb3 hf H34 HK
          go_wp2_with fail
          refine bodyPost_ret (v := .tuple #[.slice none 0 0, .bool false]) (by simp [results, Tryz.results71, go_sem]) rfl ?_
          exact .inl ⟨rfl, HE.out.1, HE.out.2⟩
        · obtain ⟨an1, han1⟩ : ∃ an1, (acc ++ o1).length = an1 := ⟨_, rfl⟩
          have hle : an1 ≤ 256 := by rw [← han1]; exact hO.le
          have hleI : ¬ (256 : Int) < (an1 : Int) := by omega
          have HE : Hid (FlS w0 w3 m F acc0 t (k + 1) fa1 fc1 (acc ++ o1) ∧ (acc ++ o1).length = an1) := by
            obtain ⟨h1, _⟩ := HK.out
            obtain ⟨oo, e2, h2⟩ := h1.ex
            refine ⟨⟨hO, ⟨oo ++ o1, by rw [e2, List.append_assoc], take_ex hlt h2 (more_ex HNF.out hl1 hx)⟩, ?_⟩, han1⟩
            have hlen : 1 ≤ o1.length := by
              obtain ⟨_, ⟨c, r, e, _⟩⟩ := nv_fol HH.out.2.1 HNF.out hl1
              have := hx.len HH.out.2.1
              rw [e] at this
              simp at this
              omega
            rcases h1.fu with h | ⟨h, _⟩
            · exact .inl (by simp; omega)
            · exact .inl (by simp; omega)
          rw [han1]
          clear hx hO H34 HK
          go_wp2_with fail
          go_roundw
          case rel => exact ⟨k + 1, fa1, fc1, an1, by omega, hle, rfl, by go_num, acc ++ o1, HE.out⟩
          case measure => simp [intOf]; omega
    · have hltI : ¬ (k : Int) < (t.length : Int) := by omega
      have HE : Hid (∃ o, acc0 ++ o = acc ∧ Ex m t o ∧ FlO w0 wr fa fc acc ∧ acc.length = an) := by
        obtain ⟨h1, h3⟩ := HK.out
        obtain ⟨oo, e2, h2⟩ := h1.ex
        rw [List.take_of_length_le (by omega)] at h2
        exact ⟨oo, e2.symm, h2, h1.o, h3⟩
      go_wp2_with fail
      refine bodyPost_ret (v := .tuple #[.slice fa an fc, .bool true]) (by simp [results, Tryz.results71, go_sem]) rfl ?_
      obtain ⟨oo, e1, h1, h2, h3⟩ := HE.out
      refine .inr ⟨oo, fa, fc, ?_, h1, ?_⟩
      · rw [e1, h3]
      · rw [e1]
        exact h2
/-- fill, of any term. -/
theorem i34 (m : Hp) (hb M n : Nat) (D : DataW Value) (w0 : World) (hH : HpAt w0 hb M n D m) (hR : RgH m) : ∀ (F : Nat) (acc t : List C) (v : Value) (fa : Option Addr) (fc : Nat) (w : World), FlO w0 w fa fc acc → TermAt w0 v t → (∀ c ∈ t, wfN (c.vn, c.vk)) → FlC F acc t →
    Calls Tryz.prog 71 #[.pointer (some ⟨hb, 0, none⟩), .slice fa acc.length fc, v] w fun e w' => FlP w0 m acc t e w'
  | 0, acc, t, v, fa, fc, w, hO, hT, hW, hF => i34_step m hb M n D w0 hH hR 0 (fun acc _ _ _ _ _ hO _ _ h _ => by have := hO.le; omega) acc t v fa fc w hO hT hW hF
  | F + 1, acc, t, v, fa, fc, w, hO, hT, hW, hF => i34_step m hb M n D w0 hH hR (F + 1) (fun acc t v fa fc w hO hT hW h hv => i34 m hb M n D w0 hH hR F acc t v fa fc w hO hT hW (.inr ⟨by omega, hv⟩)) acc t v fa fc w hO hT hW hF
end Go.Proofs.YtljggjllijacjaaGreatDoor

namespace Go.Proofs.YtljggjllijacjaaGreatDoor
open Go.RowKit
attribute [local go_sem ↓] Go.wp_at_zero Go.wp_at_succ
/-- What Resolve tells. -/
def ResP (w : World) (m : Hp) (t : List C) (e : Ending) (w' : World) : Prop :=
  (∃ c : Int, (c = 5 ∨ c = 6) ∧ e = .returned (.tuple #[.slice none 0 0, .int .i64 c]) ∧ Below w.heap.size w w' ∧ (rightB t = true → ∀ o, Ex m t o → 256 < o.length)) ∨
    ∃ (o : List C) (fa : Option Addr) (fc : Nat), e = .returned (.tuple #[.slice fa o.length fc, .int .i64 0]) ∧ Ex m t o ∧ rightB t = true ∧ FlO w w' fa fc o
set_option maxRecDepth 100000 in
set_option maxHeartbeats 4000000 in
theorem i16 (m : Hp) (hb M n : Nat) (D : DataW Value) (t : List C) (v : Value) (w : World) (hH : HpAt w hb M n D m) (hR : RgH m) (hT : TermAt w v t) (hW : ∀ c ∈ t, wfN (c.vn, c.vk)) (hS : Signs w) :
    Calls Tryz.prog 31 #[.pointer (some ⟨hb, 0, none⟩), v] w fun e w' => ResP w m t e w' := by
  have H33 : Calls Tryz.prog 68 #[v] w fun e w' => e = .returned (.bool (rightB t)) ∧ Hid (Below w.heap.size w w') := c22 t v w hT hS
  have K34 : Hid (∀ u, Below w.heap.size w u → Calls Tryz.prog 71 #[.pointer (some ⟨hb, 0, none⟩), .slice none 0 0, v] u fun e w' => FlP w m [] t e w') := fun u hu =>
    i34 m hb M n D w hH hR 257 [] t v none 0 u ⟨World.ownsRow_nil _ _ _ _, hu, by simp, fun c hc => by cases hc⟩ hT hW (.inl (by simp))
  obtain ⟨va, vc, hvf⟩ := hT.form
  subst hvf
  clear hH hR hT hW hS
  cases hr : rightB t
  · rw [hr] at H33
    go_enter Tryz.func31, Tryz.ntmps31
    go_wp2_with fail
    refine H33.mono ?_
    rintro e w1 ⟨rfl, H1⟩
    clear H33
    go_wp2_with fail
    refine bodyPost_ret (v := .tuple #[.slice none 0 0, .int .i64 6]) (by simp [results, Tryz.results31, go_sem]) rfl ?_
    exact .inl ⟨6, .inr rfl, rfl, H1.out, fun h => by rw [hr] at h; cases h⟩
  · rw [hr] at H33
    go_enter Tryz.func31, Tryz.ntmps31
    go_wp2_with fail
    refine H33.mono ?_
    rintro e w1 ⟨rfl, H1⟩
    clear H33
    go_wp2_with fail
    refine (K34.out w1 H1.out).mono ?_
    rintro e w2 (⟨rfl, hb2, hf⟩ | ⟨o, fa, fc, rfl, hx, hO⟩)
    · have HE : Hid (Below w.heap.size w w2 ∧ ∀ o, Ex m t o → 256 < o.length) := ⟨hb2, fun o ho => by have := hf o ho; simpa using this⟩
      clear hb2 hf
      go_wp2_with fail
      refine bodyPost_ret (v := .tuple #[.slice none 0 0, .int .i64 5]) (by simp [results, Tryz.results31, go_sem]) rfl ?_
      exact .inl ⟨5, .inl rfl, rfl, HE.out.1, fun _ => HE.out.2⟩
    · have HE : Hid (Ex m t o ∧ FlO w w2 fa fc o) := ⟨hx, by simpa using hO⟩
      simp only [List.nil_append]
      clear hx hO
      go_wp2_with fail
      refine bodyPost_ret (v := .tuple #[.slice fa o.length fc, .int .i64 0]) (by simp [results, Tryz.results31, go_sem]) rfl ?_
      exact .inr ⟨o, fa, fc, rfl, HE.out.1, hr, HE.out.2⟩
theorem FlO.term {w0 w : World} {fa : Option Addr} {fc : Nat} {acc : List C} (h : FlO w0 w fa fc acc) : TermAt w (.slice fa acc.length fc) acc :=
  termAt_of_owns h.own (by have := h.le; unfold maxLen; omega) fun c hc => (h.tx c hc).1
end Go.Proofs.YtljggjllijacjaaGreatDoor
