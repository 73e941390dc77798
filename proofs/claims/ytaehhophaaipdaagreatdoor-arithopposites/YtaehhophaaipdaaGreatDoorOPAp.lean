/- Guards and their opposites, in plain terms. -/
import Derived.Test.YtaehhophaaipdaaGreatDoorMCp
import Derived.Test.YtaehhophaaipdaaGreatDoorRHp
namespace Go.Proofs.YtaehhophaaipdaaGreatDoor
open Go.RowKit
theorem opT_un : ∀ i, i < 8 → ∀ j, j < 8 → i ≠ j → ((opT i).toList == (opT j).toList) = false := by
  have key : ∀ i, i < 8 → ∀ j, j < 8 → i ≠ j → decide ((opT i).data.toList = (opT j).data.toList) = false := by decide
  intro i hi j hj hij
  rw [ByteArray.toList_eq, ByteArray.toList_eq]
  have := key i hi j hj hij
  simpa using this
theorem op_one {c : C} {r : List C} {i j : Nat} (hi : i < 8) (hj : j < 8) (h : isB (c :: r) (opT i) (opA i) = true) (h' : isB (c :: r) (opT j) (opA j) = true) : i = j := by
  rw [isB_head] at h h'
  simp only [Bool.and_eq_true] at h h'
  by_cases e : i = j
  · exact e
  · have h1 := opT_un i hi j hj e
    have a := h.1
    have b := h'.1
    simp only [beq_iff_eq] at a b
    rw [← a, ← b] at h1
    simp at h1
/-- The document tells one sum of a term. -/
theorem rs_uniq {m : Hp} {d : Nat} {p : List C} {v : V3} (h : Rs m d p v) : ∀ {d' : Nat} {v' : V3}, Rs m d' p v' → v = v' := by
  induction h with
  | @leaf d c e r' hk hf =>
    intro d' v' h'
    cases h' with
    | leaf hk' hf' =>
      have := hf.uniq hf'
      simp only [List.cons.injEq] at this
      rw [this.1]
    | none hk' _ => exact absurd hk' hk
    | op hk' => exact absurd hk' hk
  | @none d c r hk hn =>
    intro d' v' h'
    cases h' with
    | leaf hk' hf' => exact absurd hk hk'
    | none => rfl
    | op hk' hi hm =>
      have := hn _ hi
      rw [hm] at this
      cases this
  | @op d c r i rs hk hi hm hl hw hok hs ih =>
    intro d' v' h'
    cases h' with
    | leaf hk' _ => exact absurd hk hk'
    | none _ hn =>
      have := hn _ hi
      rw [hm] at this
      cases this
    | @op _ _ _ i' rs' hk' hi' hm' hl' hw' hok' hs' =>
      obtain rfl := op_one hi hi' hm hm'
      have : rs = rs' := by
        refine List.ext_getElem (by omega) fun j h1 h2 => ?_
        have hj : j < (argsL (c :: r)).length := by omega
        exact ih j _ _ (List.getElem?_eq_getElem hj) (List.getElem?_eq_getElem h1) (hs' j _ _ (List.getElem?_eq_getElem hj) (List.getElem?_eq_getElem h2))
      rw [this]
/-- Two right terms, not too long together: what guards of them tell. -/
structure Tw (m : Hp) (x y : List C) (u v : V3) (a b : C) (r s : List C) : Prop where
  cmp : ∀ k, 1 ≤ k → k ≤ 6 → Gv m (ownC (gT k) 2 :: (x ++ y)) (cmpR k [u, v])
  lik : ∀ k, k = 11 ∨ k = 12 → Gv m (ownC (gT k) 2 :: (x ++ y)) (likR k a b)
  sx : ∃ d, Rs m d x u
  sy : ∃ d, Rs m d y v
  fa : IsFol m x (a :: r)
  fb : IsFol m y (b :: s)
  ra : rightB (a :: r) = true
  rb : rightB (b :: s) = true
theorem own_sign : ∀ k, k < 13 → (1 ≤ k ∧ k ≤ 6 ∨ 11 ≤ k) → (ownC (gT k) 2).ok = true := by
  intro k h1 h2
  rcases (show k = 1 ∨ k = 2 ∨ k = 3 ∨ k = 4 ∨ k = 5 ∨ k = 6 ∨ k = 11 ∨ k = 12 by omega) with rfl | rfl | rfl | rfl | rfl | rfl | rfl | rfl <;> kernel_rfl
theorem own_is : ∀ k, k < 13 → (1 ≤ k ∧ k ≤ 6 ∨ 11 ≤ k) → ∀ t : List C, isB (ownC (gT k) 2 :: t) (gT k) (gA k) = true := by
  intro k h1 h2 t
  rw [isB_head]
  have e : gA k = 2 := by
    have : ∀ k, k < 13 → (1 ≤ k ∧ k ≤ 6 ∨ 11 ≤ k) → gA k = 2 := by decide
    exact this k h1 h2
  rw [e]
  simp [ownC]
theorem tw_of {m : Hp} (hR : RgH m) (hD : DescH m) {x y : List C} (hx : rightB x = true) (hy : rightB y = true) (hl : x.length + y.length + 1 ≤ 256) : ∃ u v a b r s, Tw m x y u v a b r s := by
  obtain ⟨x1, x2, x3, x4⟩ := (right_iff _).1 hx
  obtain ⟨y1, y2, y3, y4⟩ := (right_iff _).1 hy
  have hc : compQ (x ++ y) 2 = true := compQ_append x4 y4
  have ha : (x ++ y).all C.ok = true := by rw [List.all_append, x3, y3]; rfl
  have hlen : (x ++ y).length ≤ 255 := by rw [List.length_append]; omega
  have hrt : ∀ k, k < 13 → (1 ≤ k ∧ k ≤ 6 ∨ 11 ≤ k) → rightB (ownC (gT k) 2 :: (x ++ y)) = true := fun k h1 h2 => (right_iff _).2 ⟨by simp, by rw [List.length_cons]; omega, by rw [List.all_cons, own_sign k h1 h2, ha]; rfl, hc⟩
  obtain ⟨ps, rest, rs, h1, h2, h3, h4, h5, h6, h7, h8⟩ := bothSs (bothS hR hD (x ++ y).length) 2 (x ++ y) 0 (Nat.le_refl _) (by omega) hc ha
  obtain rfl := compQ_zero h5
  match ps, rs, h2, h3 with
  | [x', y'], [u, v], _, h3 =>
    simp only [List.flatten_cons, List.flatten_nil, List.append_nil] at h1
    obtain ⟨rfl, rfl⟩ := pre_uniq x4 (h4 x' (by simp)) h1
    have s1 := h7 0 x u rfl rfl
    have s2 := h7 1 y v rfl rfl
    obtain ⟨a, r, fa⟩ := fol_cons hR hD hx
    obtain ⟨b, s, fb⟩ := fol_cons hR hD hy
    have hfree : ∀ v' ∈ [u, v], OkV v' ∧ ∀ z ∈ v'.2.2, lookH m z = none := fun v' hv => by
      refine ⟨h6 v' hv, ?_⟩
      simp only [List.mem_cons, List.not_mem_nil, or_false] at hv
      rcases hv with rfl | rfl
      · exact rs_free hR s1 hx
      · exact rs_free hR s2 hy
    have fr : ∀ {p : List C} {e : C} {q : List C}, rightB p = true → IsFol m p (e :: q) → rightB (e :: q) = true := fun hp hf => by
      rcases fol_right hR hf.1 with h | ⟨_, h⟩
      · rw [h]; exact hp
      · exact h
    refine ⟨u, v, a, b, r, s, fun k k1 k6 => ?_, fun k hk => ?_, ⟨_, s1⟩, ⟨_, s2⟩, fa, fb, fr hx fa, fr hy fb⟩
    · refine .cmp (d := (x ++ y).length) (hrt k (by omega) (by omega)) k1 k6 (own_is k (by omega) (by omega) _) h3 hfree (fun names => ?_) ⟨x, y, u, v, rfl, hx, hy, rfl, s1, s2⟩
      obtain ⟨R1, R2, R3, R4, t1, t2, t3⟩ := h8 names [] 1 (.inl rfl)
      exact ⟨R1, R2, R3, R4, t1, t2, fun hf => ⟨(t3 hf).2.1, by simpa using (t3 hf).2.2.1, (t3 hf).2.2.2⟩⟩
    · exact .lik (hrt k (by omega) (by omega)) hk (own_is k (by omega) (by omega) _) hx hy fa fb
/-- Opposite comparisons. -/
def opK : Nat → Nat
  | 1 => 4
  | 2 => 3
  | _ => 6
theorem cmp_not : ∀ k, k = 1 ∨ k = 2 ∨ k = 5 → ∀ a b : Int, cmpB (opK k) a b = !cmpB k a b := by
  intro k hk a b
  rcases hk with rfl | rfl | rfl
  · show decide (a ≥ b) = !decide (a < b)
    by_cases h : a < b
    · simp [h]
    · simp [h]; omega
  · show decide (a > b) = !decide (a ≤ b)
    by_cases h : a ≤ b
    · simp [h]
    · simp [h]; omega
  · show (a != b) = !(a == b)
    rfl
/-- What two opposite comparisons tell. -/
theorem cmp_opp {k : Nat} (hk : k = 1 ∨ k = 2 ∨ k = 5) (u v : V3) :
    ((u.2.1 = 2 ∨ v.2.1 = 2) ∧ cmpR k [u, v] = (2, []) ∧ cmpR (opK k) [u, v] = (2, [])) ∨
    (u.2.1 ≠ 2 ∧ v.2.1 ≠ 2 ∧ ∃ n, cmpR k [u, v] = (3, n) ∧ cmpR (opK k) [u, v] = (3, n)) ∨
    (u.2.1 ≠ 2 ∧ v.2.1 ≠ 2 ∧ cmpR k [u, v] = (1, []) ∧ cmpR (opK k) [u, v] = (2, [])) ∨
    (u.2.1 ≠ 2 ∧ v.2.1 ≠ 2 ∧ cmpR k [u, v] = (2, []) ∧ cmpR (opK k) [u, v] = (1, [])) := by
  cases hf : failsR [u, v]
  · have hn : u.2.1 ≠ 2 ∧ v.2.1 ≠ 2 := by simpa [failsR] using hf
    by_cases hw : waitsF [] [u, v] = []
    · have e : ∀ j, cmpR j [u, v] = (outO (cmpB j (([u, v].map (·.1)).getD 0 0) (([u, v].map (·.1)).getD 1 0)), []) := fun j => by
        unfold cmpR
        rw [hf, if_pos hw]
        rfl
      rw [e k, e (opK k), cmp_not k hk]
      cases cmpB k (([u, v].map (·.1)).getD 0 0) (([u, v].map (·.1)).getD 1 0)
      · exact .inr (.inr (.inr ⟨hn.1, hn.2, rfl, rfl⟩))
      · exact .inr (.inr (.inl ⟨hn.1, hn.2, rfl, rfl⟩))
    · have e : ∀ j, cmpR j [u, v] = (3, waitsF [] [u, v]) := fun j => by
        unfold cmpR
        rw [hf, if_neg hw]
        rfl
      exact .inr (.inl ⟨hn.1, hn.2, _, e k, e (opK k)⟩)
  · have hn : u.2.1 = 2 ∨ v.2.1 = 2 := by simpa [failsR] using hf
    have e : ∀ j, cmpR j [u, v] = (2, []) := fun j => by
      unfold cmpR
      rw [hf]
      rfl
    exact .inl ⟨hn, e k, e _⟩
theorem cell_kinds {c : C} (h : c.ok = true) : c.k = 1 ∨ c.k = 2 ∨ c.k = 3 ∨ c.k = 4 := by
  unfold C.ok cellB at h
  by_cases h1 : c.k = 1
  · exact .inl h1
  by_cases h2 : c.k = 2
  · exact .inr (.inl h2)
  by_cases h3 : c.k = 3
  · exact .inr (.inr (.inl h3))
  by_cases h4 : c.k = 4
  · exact .inr (.inr (.inr h4))
  simp [h1, h2, h3, h4] at h
theorem eqC_kind {a b : C} (h : a.k ≠ b.k) : eqC a b = false := by
  unfold eqC eqCells
  have : (a.k == b.k) = false := by simpa using h
  simp [this]
/-- What equal and unlike tell. -/
theorem lik_opp {a b : C} {r s : List C} (ra : rightB (a :: r) = true) (rb : rightB (b :: s) = true) :
    (eqT (a :: r) (b :: s) = true ∧ (∃ n, likR 11 a b = (3, n)) ∧ likR 12 a b = (2, [])) ∨
    (∃ n, likR 11 a b = (3, n) ∧ likR 12 a b = (3, n)) ∨
    ((a.k = 3 ∧ b.k = 3) ∧ likR 11 a b = (2, []) ∧ likR 12 a b = (2, [])) ∨
    ((a.k ≠ 3 ∨ b.k ≠ 3) ∧ likR 11 a b = (1, []) ∧ likR 12 a b = (2, [])) ∨
    ((a.k ≠ 3 ∨ b.k ≠ 3) ∧ likR 11 a b = (2, []) ∧ likR 12 a b = (1, [])) := by
  have oa : a.ok = true := by
    have := ((right_iff _).1 ra).2.2.1
    rw [List.all_cons, Bool.and_eq_true] at this
    exact this.1
  have ob : b.ok = true := by
    have := ((right_iff _).1 rb).2.2.1
    rw [List.all_cons, Bool.and_eq_true] at this
    exact this.1
  by_cases h4 : a.k = 4 ∧ eqC a b = true
  · obtain rfl := eqC_eq h4.2
    have e1 := head_var ra h4.1
    have e2 := head_var rb h4.1
    subst e1 e2
    refine .inl ⟨?_, ⟨_, by unfold likR; rw [if_pos h4, if_pos rfl]⟩, by unfold likR; rw [if_pos h4, if_neg (by decide)]⟩
    unfold eqT
    simp [eqC_refl]
  · by_cases hw : bothN (varN a) (varN b) = []
    · have v1 : varN a = [] := by
        by_cases e : varN a = []
        · exact e
        · exact absurd hw (both_ne _ _ e)
      have v2 : varN b = [] := by
        by_cases e : varN b = []
        · exact e
        · exact absurd hw (both_ne2 _ _ e)
      have n1 := var_nil v1
      have n2 := var_nil v2
      have e : ∀ j, likR j a b = (outO (likB j a b), []) := fun j => by
        unfold likR
        rw [if_neg h4, if_pos hw]
      rw [e, e]
      show _ ∨ _ ∨ (_ ∧ (outO (eqlB a b), _) = _ ∧ (outO (unlB a b), _) = _) ∨ (_ ∧ (outO (eqlB a b), _) = _ ∧ (outO (unlB a b), _) = _) ∨ (_ ∧ (outO (eqlB a b), _) = _ ∧ (outO (unlB a b), _) = _)
      refine .inr (.inr ?_)
      unfold eqlB unlB simB
      by_cases a3 : a.k = 3
      · by_cases b3 : b.k = 3
        · refine .inl ⟨⟨a3, b3⟩, ?_⟩
          rw [a3, b3]
          simp [outO]
        · refine .inr (.inr ⟨.inr b3, ?_⟩)
          have hb : b.k = 1 ∨ b.k = 2 := by rcases cell_kinds ob with h | h | h | h <;> simp_all
          rw [eqC_kind (by omega), a3]
          rcases hb with h | h <;> simp [outO, h]
      · have hka : a.k = 1 ∨ a.k = 2 := by rcases cell_kinds oa with h | h | h | h <;> simp_all
        have hs : ((a.k == 1) || (a.k == 2)) = true := by rcases hka with h | h <;> simp [h]
        rw [hs]
        cases eqC a b
        · exact .inr (.inr ⟨.inl a3, rfl, rfl⟩)
        · exact .inr (.inl ⟨.inl a3, rfl, rfl⟩)
    · have e : ∀ j, likR j a b = (3, bothN (varN a) (varN b)) := fun j => by
        unfold likR
        rw [if_neg h4, if_neg hw]
      exact .inr (.inl ⟨_, e 11, e 12⟩)
end Go.Proofs.YtaehhophaaipdaaGreatDoor
