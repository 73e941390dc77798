/- What a guard tells, by a map and by one that says more. What a guard tells stays by a map that says more. -/
import Derived.Test.YtaehhophaaipdaaGreatDoorQJ
import Derived.Test.YtaehhophaaipdaaGreatDoorGB
namespace Go.Proofs.YtaehhophaaipdaaGreatDoor
open Go.RowKit
abbrev G2 := Int × List Nm
def cmpR (k : Nat) (rs : List V3) : G2 := if failsR rs then (2, []) else if waitsF [] rs = [] then (outO (cmpB k ((rs.map (·.1)).getD 0 0) ((rs.map (·.1)).getD 1 0)), []) else (3, waitsF [] rs)
def askR (k : Nat) (e : C) : G2 := if e.k = 4 then (3, [(e.vn, e.vk)]) else (outO (kindB k e.k), [])
def varN (a : C) : List Nm := if a.k = 4 then [(a.vn, a.vk)] else []
def likB (k : Nat) (a b : C) : Bool := if k = 11 then eqlB a b else unlB a b
def likR (k : Nat) (a b : C) : G2 := if a.k = 4 ∧ eqC a b = true then (if k = 11 then (3, [(a.vn, a.vk)]) else (2, [])) else if bothN (varN a) (varN b) = [] then (outO (likB k a b), []) else (3, bothN (varN a) (varN b))
/-- The parts of a guard that compares, and their sums by the document. -/
def PsR (m : Hp) (d : Nat) (t : List C) (rs : List V3) : Prop := ∃ x y u v, t = x ++ y ∧ rightB x = true ∧ rightB y = true ∧ rs = [u, v] ∧ Rs m d x u ∧ Rs m d y v
/-- What becomes of a guard, and what it waits for. -/
inductive Gv (m : Hp) : List C → G2 → Prop
  | wrong {g : List C} (hr : rightB g = false) : Gv m g (2, [])
  | none {g : List C} (hr : rightB g = true) (hn : ∀ k, k < 13 → isB g (gT k) (gA k) = false) : Gv m g (2, [])
  | yes {g : List C} (hr : rightB g = true) (hi : isB g (gT 0) (gA 0) = true) : Gv m g (1, [])
  | cmp {c : C} {t : List C} {k d : Nat} {rs : List V3} (hr : rightB (c :: t) = true) (h1 : 1 ≤ k) (h2 : k ≤ 6) (hi : isB (c :: t) (gT k) (gA k) = true) (hl : rs.length = 2) (hv : ∀ v ∈ rs, OkV v ∧ ∀ x ∈ v.2.2, lookH m x = none)
      (hx : ∀ names, ∃ nums o rest names', Sms m d 2 t names [] 1 nums o rest names' ∧ (failsR rs = true → o = 2) ∧ (failsR rs = false → names' = waitsF names rs ∧ nums = rs.map (·.1) ∧ o = if waitsF [] rs = [] then 1 else 3)) (hq : PsR m d t rs) : Gv m (c :: t) (cmpR k rs)
  | ask {c : C} {t : List C} {k : Nat} {e : C} {r : List C} (hr : rightB (c :: t) = true) (h1 : 7 ≤ k) (h2 : k ≤ 10) (hi : isB (c :: t) (gT k) (gA k) = true) (ht : t ≠ []) (hf : IsFol m t (e :: r)) : Gv m (c :: t) (askR k e)
  | lik {c : C} {p q : List C} {k : Nat} {a b : C} {r s : List C} (hr : rightB (c :: (p ++ q)) = true) (h1 : k = 11 ∨ k = 12) (hi : isB (c :: (p ++ q)) (gT k) (gA k) = true) (hp : rightB p = true) (hq : rightB q = true) (ha : IsFol m p (a :: r)) (hb : IsFol m q (b :: s)) : Gv m (c :: (p ++ q)) (likR k a b)
theorem head_var {e : C} {r : List C} (h : rightB (e :: r) = true) (hk : e.k = 4) : r = [] := by
  have h1 := ((right_iff _).1 h).2.2.2
  have h2 : compQ r (0 + argN e) = true := h1
  rw [var_arg (show isVarL [e] = true by simp [isVarL, hk])] at h2
  exact compQ_zero h2
theorem end_free {m : Hp} (hR : RgH m) {p : List C} (hp : rightB p = true) {e : C} {r : List C} (hf : IsFol m p (e :: r)) (hk : e.k = 4) : r = [] ∧ lookH m (e.vn, e.vk) = none := by
  have hr : rightB (e :: r) = true := by
    rcases fol_right hR hf.1 with h | ⟨_, h⟩
    · rw [h]; exact hp
    · exact h
  have e0 := head_var hr hk
  subst e0
  have h2 := hf.2
  unfold nextH at h2
  rw [if_pos (by simp [isVarL, hk])] at h2
  exact ⟨rfl, h2⟩
theorem add_mem {a : List Nm} {x y : Nm} (h : y ∈ addN a x) : y ∈ a ∨ y = x := by
  unfold addN at h
  split at h
  · exact .inl h
  · simpa using h
theorem both_mem {y : Nm} : ∀ (b a : List Nm), y ∈ bothN a b → y ∈ a ∨ y ∈ b
  | [], _, h => .inl h
  | x :: b, a, h => by
    rcases both_mem b (addN a x) h with h1 | h1
    · rcases add_mem h1 with h2 | h2
      · exact .inl h2
      · exact .inr (by simp [h2])
    · exact .inr (List.mem_cons_of_mem _ h1)
theorem waits_mem {y : Nm} : ∀ (rs : List V3) (a : List Nm), y ∈ waitsF a rs → y ∈ a ∨ ∃ v ∈ rs, y ∈ v.2.2
  | [], _, h => .inl h
  | v :: rs, a, h => by
    rcases waits_mem rs (bothN a v.2.2) h with h1 | ⟨u, hu, h1⟩
    · rcases both_mem _ _ h1 with h2 | h2
      · exact .inl h2
      · exact .inr ⟨v, List.mem_cons_self, h2⟩
    · exact .inr ⟨u, List.mem_cons_of_mem _ hu, h1⟩
/-- What is waited for has no value. -/
theorem rs_free {m : Hp} (hR : RgH m) {d : Nat} {p : List C} {v : V3} (h : Rs m d p v) : rightB p = true → ∀ x ∈ v.2.2, lookH m x = none := by
  induction h with
  | @leaf d c e r' hk hf =>
    intro hr x hx
    unfold leafR at hx
    split at hx
    · cases hx
    · split at hx
      · next h4 =>
        simp at hx
        rw [hx]
        exact (end_free hR hr hf h4).2
      · cases hx
  | none hk hn => intro _ x hx; cases hx
  | @op d c r i rs hk hi hm hl hw hok hs ih =>
    intro hr x hx
    have key : ∀ x ∈ waitsF [] rs, lookH m x = none := fun x hx => by
      rcases waits_mem rs [] hx with h1 | ⟨v, hv, h1⟩
      · cases h1
      · obtain ⟨j, hj, rfl⟩ := List.getElem_of_mem hv
        have hj' : j < (argsL (c :: r)).length := by omega
        obtain ⟨_, _, a3⟩ := argsL_spec (c :: r) hr (by simp) hk
        obtain ⟨g1, g2, g3, g4⟩ := a3 _ (List.getElem_mem hj')
        have h256 := ((right_iff _).1 hr).2.1
        have ha := ((right_iff _).1 hr).2.2.1
        rw [List.all_eq_true] at ha
        refine ih j _ _ (List.getElem?_eq_getElem hj') (List.getElem?_eq_getElem hj) ((right_iff _).2 ⟨g2, by omega, ?_, eat_comp _ 1 g1⟩) x h1
        rw [List.all_eq_true]
        exact fun y hy => ha y (g4 y hy)
    unfold finR at hx
    split at hx
    · cases hx
    · split at hx
      · split at hx <;> cases hx
      · exact key x hx
theorem flat_le {p : List C} : ∀ {ps : List (List C)}, p ∈ ps → p.length ≤ ps.flatten.length
  | q :: ps, h => by
    rw [List.flatten_cons, List.length_append]
    rcases List.mem_cons.1 h with rfl | h
    · omega
    · have := flat_le h
      omega
theorem gT_ne : ∀ i, i < 13 → ∀ j, j < 13 → i ≠ j → ((gT i).toList == (gT j).toList) = false := by
  have key : ∀ i, i < 13 → ∀ j, j < 13 → i ≠ j → decide ((gT i).data.toList = (gT j).data.toList) = false := by decide
  intro i hi j hj hij
  rw [ByteArray.toList_eq, ByteArray.toList_eq]
  have := key i hi j hj hij
  simpa using this
theorem isB_head {c : C} {t : List C} {s : ByteArray} {n : Int} : isB (c :: t) s n = ((c.t.toList == s.toList) && (((c.k == 3) && (c.n == n)) || ((n == 0) && (c.k == 2)))) := rfl
theorem isB_one {g : List C} {i j : Nat} (hi : i < 13) (hj : j < 13) (h : isB g (gT i) (gA i) = true) (h' : isB g (gT j) (gA j) = true) : i = j := by
  cases g with
  | nil => cases h
  | cons c t =>
    rw [isB_head] at h h'
    simp only [Bool.and_eq_true] at h h'
    by_cases e : i = j
    · exact e
    · have h1 := gT_ne i hi j hj e
      have a := h.1
      have b := h'.1
      simp only [beq_iff_eq] at a b
      rw [← a, ← b] at h1
      simp at h1
theorem kB_args {c : C} {t : List C} {k : Nat} (hk : 1 ≤ k) (h13 : k < 13) (h : isB (c :: t) (gT k) (gA k) = true) : c.k = 3 ∧ c.n = gA k := by
  rw [isB_head] at h
  simp only [Bool.and_eq_true, Bool.or_eq_true, beq_iff_eq] at h
  rcases h.2 with h1 | h1
  · exact h1
  · exfalso
    have : ∀ k, k < 13 → 1 ≤ k → gA k ≠ 0 := by decide
    exact this k h13 hk h1.1
theorem comp_tail {c : C} {t : List C} {k : Nat} (hr : rightB (c :: t) = true) (hk : 1 ≤ k) (h13 : k < 13) (h : isB (c :: t) (gT k) (gA k) = true) : compQ t (gA k).toNat = true ∧ t.all C.ok = true ∧ t.length ≤ 255 := by
  obtain ⟨h1, h2⟩ := kB_args hk h13 h
  obtain ⟨_, r2, r3, r4⟩ := (right_iff _).1 hr
  have r5 : compQ t (0 + argN c) = true := r4
  have e : argN c = (gA k).toNat := by
    unfold argN argsOf
    rw [h1, h2, if_pos rfl]
    omega
  rw [e, Nat.zero_add] at r5
  simp only [List.all_cons, Bool.and_eq_true] at r3
  simp only [List.length_cons] at r2
  exact ⟨r5, r3.2, by omega⟩
theorem fol_cons {m : Hp} (hR : RgH m) (hD : DescH m) {p : List C} (hp : rightB p = true) : ∃ e r, IsFol m p (e :: r) := by
  obtain ⟨l', hf⟩ := fol_end hD _ p (Nat.le_refl _)
  have hr : rightB l' = true := by
    rcases fol_right hR hf.1 with rfl | ⟨_, h⟩
    · exact hp
    · exact h
  have h1 := ((right_iff l').1 hr).1
  cases l' with
  | nil => simp at h1
  | cons e r => exact ⟨e, r, hf⟩
theorem gv_some {m : Hp} (hR : RgH m) (hD : DescH m) (g : List C) : ∃ u, Gv m g u := by
  cases hr : rightB g
  · exact ⟨_, .wrong hr⟩
  · by_cases hq : ∃ k, k < 13 ∧ isB g (gT k) (gA k) = true
    · obtain ⟨k, hk, hi⟩ := hq
      by_cases k0 : k = 0
      · subst k0
        exact ⟨_, .yes hr hi⟩
      · cases g with
        | nil => cases hi
        | cons c t =>
          obtain ⟨c1, c2, c3⟩ := comp_tail hr (by omega) hk hi
          by_cases k6 : k ≤ 6
          · have e2 : (gA k).toNat = 2 := by
              have : ∀ k, k < 7 → 1 ≤ k → (gA k).toNat = 2 := by decide
              exact this k (by omega) (by omega)
            rw [e2] at c1
            obtain ⟨ps, rest, rs, h1, h2, h3, h4, h5, h6, h7, h8⟩ := bothSs (bothS hR hD t.length) 2 t 0 (Nat.le_refl _) (by omega) c1 c2
            have hfree : ∀ v ∈ rs, OkV v ∧ ∀ x ∈ v.2.2, lookH m x = none := fun v hv => by
              refine ⟨h6 v hv, ?_⟩
              obtain ⟨j, hj, rfl⟩ := List.getElem_of_mem hv
              have hj' : j < ps.length := by omega
              refine rs_free hR (h7 j _ _ (List.getElem?_eq_getElem hj') (List.getElem?_eq_getElem hj)) ?_
              have q1 := h4 _ (List.getElem_mem hj')
              have hsub : ∀ y ∈ ps[j], y ∈ t := fun y hy => by
                rw [h1]
                exact List.mem_append_left _ (List.mem_flatten.2 ⟨_, List.getElem_mem hj', hy⟩)
              refine (right_iff _).2 ⟨compQ_le q1, ?_, ?_, q1⟩
              · have h9 : ps[j].length ≤ ps.flatten.length := by
                  exact flat_le (List.getElem_mem hj')
                have h10 : ps.flatten.length ≤ t.length := by rw [h1, List.length_append]; omega
                omega
              · rw [List.all_eq_true] at c2 ⊢
                exact fun y hy => c2 y (hsub y hy)
            refine ⟨_, .cmp (d := t.length) hr (by omega) k6 hi h3 hfree (fun names => ?_) ?_⟩
            · obtain ⟨R1, R2, R3, R4, s1, s2, s3⟩ := h8 names [] 1 (.inl rfl)
              exact ⟨R1, R2, R3, R4, s1, s2, fun hf => ⟨(s3 hf).2.1, by simpa using (s3 hf).2.2.1, (s3 hf).2.2.2⟩⟩
            · obtain rfl := compQ_zero h5
              match ps, rs, h2, h3 with
              | [x, y], [u, v], _, _ =>
                simp only [List.flatten_cons, List.flatten_nil, List.append_nil] at h1
                subst h1
                rw [List.all_append, Bool.and_eq_true] at c2
                rw [List.length_append] at c3
                have q1 := h4 x (by simp)
                have q2 := h4 y (by simp)
                exact ⟨x, y, u, v, rfl, (right_iff x).2 ⟨compQ_le q1, by omega, c2.1, q1⟩, (right_iff y).2 ⟨compQ_le q2, by omega, c2.2, q2⟩, rfl, h7 0 x u rfl rfl, h7 1 y v rfl rfl⟩
          · by_cases k10 : k ≤ 10
            · have e1 : (gA k).toNat = 1 := by
                have : ∀ k, k < 11 → 7 ≤ k → (gA k).toNat = 1 := by decide
                exact this k (by omega) (by omega)
              rw [e1] at c1
              have htr : rightB t = true := (right_iff t).2 ⟨compQ_le c1, by omega, c2, c1⟩
              obtain ⟨e, r, hf⟩ := fol_cons hR hD htr
              refine ⟨_, .ask hr (by omega) k10 hi (fun e0 => ?_) hf⟩
              subst e0
              cases c1
            · have e2 : (gA k).toNat = 2 := by
                have : ∀ k, k < 13 → 11 ≤ k → (gA k).toNat = 2 := by decide
                exact this k hk (by omega)
              rw [e2] at c1
              obtain ⟨p, q, rfl, q1, q2⟩ := comp_split t 1 1 c1
              rw [List.all_append, Bool.and_eq_true] at c2
              rw [List.length_append] at c3
              have hp : rightB p = true := (right_iff p).2 ⟨compQ_le q1, by omega, c2.1, q1⟩
              have hq : rightB q = true := (right_iff q).2 ⟨compQ_le q2, by omega, c2.2, q2⟩
              obtain ⟨a, r, ha⟩ := fol_cons hR hD hp
              obtain ⟨b, s, hb⟩ := fol_cons hR hD hq
              exact ⟨_, .lik hr (by omega) hi hp hq ha hb⟩
    · exact ⟨_, .none hr (fun k hk => by
        cases e : isB g (gT k) (gA k)
        · rfl
        · exact absurd ⟨k, hk, e⟩ hq)⟩
theorem fol_more {m m' : Hp} (hs : SubH m m') {t : List C} {e e2 : C} {r r2 : List C} (h : IsFol m t (e :: r)) (h' : IsFol m' t (e2 :: r2)) (he : e.k ≠ 4) : e = e2 := by
  have hn : nextH m' (e :: r) = none := by
    unfold nextH
    rw [if_neg]
    cases r with
    | nil => simp [isVarL, he]
    | cons x y => simp [isVarL]
  have := IsFol.uniq ⟨fol_sub hs h.1, hn⟩ h'
  simp only [List.cons.injEq] at this
  exact this.1
theorem fol_through {m : Hp} {p x L : List C} (h : Fol m p x) : IsFol m p L → IsFol m x L := by
  induction h with
  | here => exact id
  | step e _ ih =>
    intro hL
    refine ih ?_
    obtain ⟨h1, h2⟩ := hL
    cases h1 with
    | here => rw [h2] at e; cases e
    | step e2 r2 =>
      rw [e] at e2
      cases e2
      exact ⟨r2, h2⟩
theorem outO_ne (b : Bool) : outO b ≠ 3 := by
  unfold outO
  split <;> decide
theorem eqC_eq {a b : C} (h : eqC a b = true) : a = b := by
  unfold eqC eqCells at h
  simp only [Bool.and_eq_true, beq_iff_eq] at h
  obtain ⟨k, t, n, vn, vk⟩ := a
  obtain ⟨k', t', n', vn', vk'⟩ := b
  obtain ⟨⟨⟨⟨rfl, ht⟩, rfl⟩, rfl⟩, rfl⟩ := h
  dsimp only at ht
  rw [ByteArray.toList_eq, ByteArray.toList_eq] at ht
  rw [ByteArray.ext (Array.toList_inj.1 ht)]
/-- The form of what a guard tells. -/
theorem gv_shape {m : Hp} {g : List C} {u : G2} (h : Gv m g u) : (u.1 = 1 ∧ u.2 = []) ∨ (u.1 = 2 ∧ u.2 = []) ∨ (u.1 = 3 ∧ u.2 ≠ [] ∧ bothN [] u.2 = u.2) := by
  have ho : ∀ b : Bool, (outO b = 1 ∨ outO b = 2) := fun b => by cases b <;> simp [outO]
  cases h with
  | wrong hr => exact .inr (.inl ⟨rfl, rfl⟩)
  | none hr hn => exact .inr (.inl ⟨rfl, rfl⟩)
  | yes hr hi => exact .inl ⟨rfl, rfl⟩
  | cmp hr h1 h2 hi hl hv hx hq =>
    unfold cmpR
    split
    · exact .inr (.inl ⟨rfl, rfl⟩)
    · split
      · rcases ho _ with e | e
        · exact .inl ⟨e, rfl⟩
        · exact .inr (.inl ⟨e, rfl⟩)
      · next e => exact .inr (.inr ⟨rfl, e, by show bothN [] (waitsF [] _) = waitsF [] _; rw [← waits_of]⟩)
  | ask hr h1 h2 hi ht hf =>
    unfold askR
    split
    · exact .inr (.inr ⟨rfl, by simp, rfl⟩)
    · rcases ho _ with e | e
      · exact .inl ⟨e, rfl⟩
      · exact .inr (.inl ⟨e, rfl⟩)
  | @lik c p q k a b r s hr h1 hi hp hq ha hb =>
    unfold likR
    split
    · split
      · exact .inr (.inr ⟨rfl, by simp, rfl⟩)
      · exact .inr (.inl ⟨rfl, rfl⟩)
    · split
      · rcases ho _ with e | e
        · exact .inl ⟨e, rfl⟩
        · exact .inr (.inl ⟨e, rfl⟩)
      · next e =>
        refine .inr (.inr ⟨rfl, e, ?_⟩)
        show bothN [] (bothN (varN a) (varN b)) = _
        rw [both_assoc]
        have : bothN [] (varN a) = varN a := by unfold varN; split <;> rfl
        rw [this]
theorem gv_free {m : Hp} (hR : RgH m) {g : List C} {u : G2} (h : Gv m g u) : ∀ x ∈ u.2, lookH m x = none := by
  cases h with
  | wrong hr => intro x hx; cases hx
  | none hr hn => intro x hx; cases hx
  | yes hr hi => intro x hx; cases hx
  | cmp hr h1 h2 hi hl hv hx hq =>
    intro x hx
    unfold cmpR at hx
    split at hx
    · cases hx
    · split at hx
      · cases hx
      · rcases waits_mem _ [] hx with h | ⟨v, hv', h⟩
        · cases h
        · exact (hv v hv').2 x h
  | @ask c t k e r hr h1 h2 hi ht hf =>
    intro x hx
    unfold askR at hx
    split at hx
    · next h4 =>
      simp at hx
      rw [hx]
      obtain ⟨c1, c2, c3⟩ := comp_tail hr (by omega) (by omega) hi
      have e1 : (gA k).toNat = 1 := by
        have : ∀ k, k < 11 → 7 ≤ k → (gA k).toNat = 1 := by decide
        exact this k (by omega) (by omega)
      rw [e1] at c1
      exact (end_free hR ((right_iff t).2 ⟨compQ_le c1, by omega, c2, c1⟩) hf h4).2
    · cases hx
  | @lik c p q k a b r s hr h1 hi hp hq ha hb =>
    have key : ∀ x ∈ varN a, lookH m x = none := fun x hx => by
      unfold varN at hx
      split at hx
      · next h4 =>
        simp at hx
        rw [hx]
        exact (end_free hR hp ha h4).2
      · cases hx
    have key2 : ∀ x ∈ varN b, lookH m x = none := fun x hx => by
      unfold varN at hx
      split at hx
      · next h4 =>
        simp at hx
        rw [hx]
        exact (end_free hR hq hb h4).2
      · cases hx
    intro x hx
    unfold likR at hx
    split at hx
    · next h4 =>
      split at hx
      · exact key x (by unfold varN; rw [if_pos h4.1]; exact hx)
      · cases hx
    · split at hx
      · cases hx
      · rcases both_mem _ _ hx with h | h
        · exact key x h
        · exact key2 x h
end Go.Proofs.YtaehhophaaipdaaGreatDoor

namespace Go.Proofs.YtaehhophaaipdaaGreatDoor
open Go.RowKit
/-- The ways of a guard, with the term named. -/
theorem gv_ways {m : Hp} {g : List C} {u : G2} (h : Gv m g u) : (rightB g = false ∧ u = (2, [])) ∨ (rightB g = true ∧ (∀ k, k < 13 → isB g (gT k) (gA k) = false) ∧ u = (2, [])) ∨ (rightB g = true ∧ isB g (gT 0) (gA 0) = true ∧ u = (1, [])) ∨
    (rightB g = true ∧ ∃ k d rs, 1 ≤ k ∧ k ≤ 6 ∧ isB g (gT k) (gA k) = true ∧ u = cmpR k rs ∧ ∀ names, ∃ nums o rest names', Sms m d 2 g.tail names [] 1 nums o rest names' ∧ (failsR rs = true → o = 2) ∧ (failsR rs = false → names' = waitsF names rs ∧ nums = rs.map (·.1) ∧ o = if waitsF [] rs = [] then 1 else 3)) ∨
    (rightB g = true ∧ ∃ k e r, 7 ≤ k ∧ k ≤ 10 ∧ isB g (gT k) (gA k) = true ∧ u = askR k e ∧ IsFol m g.tail (e :: r)) ∨
    (rightB g = true ∧ ∃ p q k a b r s, (k = 11 ∨ k = 12) ∧ isB g (gT k) (gA k) = true ∧ u = likR k a b ∧ g.tail = p ++ q ∧ rightB p = true ∧ rightB q = true ∧ IsFol m p (a :: r) ∧ IsFol m q (b :: s)) := by
  cases h with
  | wrong hr => exact .inl ⟨hr, rfl⟩
  | none hr hn => exact .inr (.inl ⟨hr, hn, rfl⟩)
  | yes hr hi => exact .inr (.inr (.inl ⟨hr, hi, rfl⟩))
  | cmp hr h1 h2 hi hl hv hx _ => exact .inr (.inr (.inr (.inl ⟨hr, _, _, _, h1, h2, hi, rfl, hx⟩)))
  | ask hr h1 h2 hi ht hf => exact .inr (.inr (.inr (.inr (.inl ⟨hr, _, _, _, h1, h2, hi, rfl, hf⟩))))
  | lik hr h1 hi hp hq ha hb => exact .inr (.inr (.inr (.inr (.inr ⟨hr, _, _, _, _, _, _, _, h1, hi, rfl, rfl, hp, hq, ha, hb⟩))))
theorem cmp_more {m m' : Hp} (hs : SubH m m') {t : List C} {k d d' : Nat} {rs rs' : List V3}
    (hx : ∀ names, ∃ nums o rest names', Sms m d 2 t names [] 1 nums o rest names' ∧ (failsR rs = true → o = 2) ∧ (failsR rs = false → names' = waitsF names rs ∧ nums = rs.map (·.1) ∧ o = if waitsF [] rs = [] then 1 else 3))
    (hx' : ∀ names, ∃ nums o rest names', Sms m' d' 2 t names [] 1 nums o rest names' ∧ (failsR rs' = true → o = 2) ∧ (failsR rs' = false → names' = waitsF names rs' ∧ nums = rs'.map (·.1) ∧ o = if waitsF [] rs' = [] then 1 else 3))
    (h3 : (cmpR k rs).1 ≠ 3) : (cmpR k rs').1 = (cmpR k rs).1 := by
  obtain ⟨nums, o, rest, names1, s1, s2, s3⟩ := hx []
  obtain ⟨nums', o', rest', names1', s1', s2', s3'⟩ := hx' []
  obtain ⟨q1, q2⟩ := sms_more (fun h h' => sm_more hs _ _ h h') 2 s1 s1' (.inl rfl) (fun _ => ⟨rfl, rfl⟩)
  cases hf : failsR rs
  · obtain ⟨_, e2, e3⟩ := s3 hf
    by_cases hw : waitsF [] rs = []
    · rw [if_pos hw] at e3
      obtain ⟨p1, p2⟩ := q1 e3
      have hf' : failsR rs' = false := by
        cases e : failsR rs'
        · rfl
        · have := s2' e
          omega
      obtain ⟨_, e2', e3'⟩ := s3' hf'
      have hw' : waitsF [] rs' = [] := by
        by_cases e : waitsF [] rs' = []
        · exact e
        · rw [if_neg e] at e3'
          omega
      have en : rs'.map (·.1) = rs.map (·.1) := by rw [← e2', ← e2, p2]
      unfold cmpR
      rw [hf, hf', if_pos hw, if_pos hw', en]
    · exfalso
      apply h3
      unfold cmpR
      rw [hf, if_neg hw]
      rfl
  · have e2 := q2 (s2 hf)
    have hf' : failsR rs' = true := by
      cases e : failsR rs'
      · have e3 := (s3' e).2.2
        split at e3 <;> omega
      · rfl
    unfold cmpR
    rw [hf, hf']
    rfl
theorem var_nil {a : C} (h : varN a = []) : a.k ≠ 4 := fun e => by
  unfold varN at h
  rw [if_pos e] at h
  cases h
theorem lik_more {m m' : Hp} (hs : SubH m m') (hR : RgH m) {p q : List C} {k : Nat} (hk : k = 11 ∨ k = 12) (hp : rightB p = true) (hq : rightB q = true) {a b a' b' : C} {r s r' s' : List C} (ha : IsFol m p (a :: r)) (hb : IsFol m q (b :: s)) (ha' : IsFol m' p (a' :: r')) (hb' : IsFol m' q (b' :: s')) (h3 : (likR k a b).1 ≠ 3) : (likR k a' b').1 = (likR k a b).1 := by
  by_cases h4 : a.k = 4 ∧ eqC a b = true
  · have e12 : k = 12 := by
      rcases hk with e | e
      · exfalso
        apply h3
        unfold likR
        rw [if_pos h4, if_pos e]
      · exact e
    subst e12
    have e0 : (likR 12 a b).1 = 2 := by
      unfold likR
      rw [if_pos h4]
      rfl
    rw [e0]
    have eab := eqC_eq h4.2
    subst eab
    obtain ⟨rfl, _⟩ := end_free hR hp ha h4.1
    obtain ⟨rfl, _⟩ := end_free hR hq hb h4.1
    have f1 := fol_through (fol_sub hs ha.1) ha'
    have f2 := fol_through (fol_sub hs hb.1) hb'
    have e1 := f1.uniq f2
    simp only [List.cons.injEq] at e1
    obtain ⟨rfl, _⟩ := e1
    unfold likR
    by_cases h5 : a'.k = 4
    · rw [if_pos ⟨h5, eqC_refl a'⟩]
      rfl
    · rw [if_neg (fun h => h5 h.1)]
      have : varN a' = [] := by unfold varN; rw [if_neg h5]
      rw [this, if_pos (show bothN [] [] = [] from rfl)]
      show outO (likB 12 a' a') = 2
      unfold likB unlB
      rw [eqC_refl]
      rfl
  · by_cases hw : bothN (varN a) (varN b) = []
    · have v1 : varN a = [] := by
        by_cases e : varN a = []
        · exact e
        · exact absurd hw (both_ne _ _ e)
      have v2 : varN b = [] := by
        by_cases e : varN b = []
        · exact e
        · exact absurd hw (both_ne2 _ _ e)
      have e1 := fol_more hs ha ha' (var_nil v1)
      have e2 := fol_more hs hb hb' (var_nil v2)
      rw [← e1, ← e2]
    · exfalso
      apply h3
      unfold likR
      rw [if_neg h4, if_neg hw]
/-- What holds or fails does so by a map that says more. -/
theorem gv_more {m m' : Hp} (hs : SubH m m') (hR : RgH m) {g : List C} {u u' : G2} (h : Gv m g u) (h' : Gv m' g u') (h3 : u.1 ≠ 3) : u'.1 = u.1 := by
  rcases gv_ways h with ⟨a1, a2⟩ | ⟨a1, a2, a3⟩ | ⟨a1, a2, a3⟩ | ⟨a1, k, d, rs, a2, a3, a4, a5, a6⟩ | ⟨a1, k, e, r, a2, a3, a4, a5, a6⟩ | ⟨a1, p, q, k, a, b, r, s, a2, a3, a4, a5, a6, a7, a8, a9⟩ <;>
  rcases gv_ways h' with ⟨b1, b2⟩ | ⟨b1, b2, b3⟩ | ⟨b1, b2, b3⟩ | ⟨b1, k', d', rs', b2, b3, b4, b5, b6⟩ | ⟨b1, k', e', r', b2, b3, b4, b5, b6⟩ | ⟨b1, p', q', k', a', b', r', s', b2, b3, b4, b5, b6, b7, b8, b9⟩ <;>
  first
  | (rw [a1] at b1; cases b1; done)
  | (have := a2 _ (show 0 < 13 by omega); rw [b2] at this; cases this; done)
  | (have := a2 k' (by omega); rw [b4] at this; cases this; done)
  | (have := a2 k' (by omega); rw [b3] at this; cases this; done)
  | (have := b2 _ (show 0 < 13 by omega); rw [a2] at this; cases this; done)
  | (have := b2 k (by omega); rw [a4] at this; cases this; done)
  | (have := b2 k (by omega); rw [a3] at this; cases this; done)
  | (have := isB_one (by omega) (by omega) a2 b4; omega)
  | (have := isB_one (by omega) (by omega) a2 b3; omega)
  | (have := isB_one (by omega) (by omega) a4 b2; omega)
  | (have := isB_one (by omega) (by omega) a3 b2; omega)
  | (have := isB_one (by omega) (by omega) a3 b4; omega)
  | (have := isB_one (by omega) (by omega) a4 b3; omega)
  | (have := isB_one (by omega) (by omega) a4 b4; omega)
  | (rw [a2, b2])
  | (rw [a3, b3])
  | (obtain rfl := isB_one (by omega) (by omega) a4 b4
     rw [a5] at h3
     rw [a5, b5]
     exact cmp_more hs a6 b6 h3)
  | (obtain rfl := isB_one (by omega) (by omega) a4 b4
     rw [a5] at h3
     have e4 : e.k ≠ 4 := fun e4 => h3 (by unfold askR; rw [if_pos e4])
     rw [a5, b5, fol_more hs a6 b6 e4])
  | (obtain rfl := isB_one (by omega) (by omega) a3 b3
     rw [a4] at h3
     obtain ⟨rfl, rfl⟩ := pre_uniq ((right_iff _).1 a6).2.2.2 ((right_iff _).1 b6).2.2.2 (a5.symm.trans b5)
     rw [a4, b4]
     exact lik_more hs hR a2 a6 a7 a8 a9 b8 b9 h3)
end Go.Proofs.YtaehhophaaipdaaGreatDoor
