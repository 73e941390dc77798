/- What a guard tells, by a map and by one that says more. What a guard tells stays by a map that says more. -/
import Derived.Test.YtaehhophaaipdaaGreatDoorQJg
import Derived.Test.YtaehhophaaipdaaGreatDoorGBg
namespace Go.Proofs.YtaehhophaaipdaaGreatDoor
open Go.RowKit
abbrev G2 := Int × List Nm
def cmpR (k : Nat) (rs : List V3) : G2 := if failsR rs then (2, []) else if waitsF [] rs = [] then (outO (cmpB k ((rs.map (·.1)).getD 0 0) ((rs.map (·.1)).getD 1 0)), []) else (3, waitsF [] rs)
def askR (k : Nat) (e : C) : G2 := if e.k = 4 then (3, [(e.vn, e.vk)]) else (outO (kindB k e.k), [])
def varN (a : C) : List Nm := if a.k = 4 then [(a.vn, a.vk)] else []
def likB (k : Nat) (a b : C) : Bool := if k = 11 then eqlB a b else unlB a b
def likR (k : Nat) (a b : C) : G2 := if a.k = 4 ∧ eqC a b = true then (if k = 11 then (3, [(a.vn, a.vk)]) else (2, [])) else if bothN (varN a) (varN b) = [] then (outO (likB k a b), []) else (3, bothN (varN a) (varN b))
/-- The parts of a guard that compares, and their sums by the document. -/
def PsR (m : Hp) (d : Nat) (t : List C) (rs : List V3) : Prop := ∃ x y u v, t = x ++ y ∧ rightB x = true ∧ rightB y = true ∧ rs = [u, v] ∧ Rs m d x u ∧ Rs m d y v
/-- What becomes of a guard, and what it waits for. -/
inductive Gv (m : Hp) : List C → G2 → Prop
 | wrong {g : List C} (hr : rightB g = false) : Gv m g (2, [])
 | none {g : List C} (hr : rightB g = true) (hn : ∀ k, k < 13 → isB g (gT k) (gA k) = false) : Gv m g (2, [])
 | yes {g : List C} (hr : rightB g = true) (hi : isB g (gT 0) (gA 0) = true) : Gv m g (1, [])
 | cmp {c : C} {t : List C} {k d : Nat} {rs : List V3} (hr : rightB (c :: t) = true) (h1 : 1 ≤ k) (h2 : k ≤ 6) (hi : isB (c :: t) (gT k) (gA k) = true) (hl : rs.length = 2) (hv : ∀ v ∈ rs, OkV v ∧ ∀ x ∈ v.2.2, lookH m x = none)
   (hx : ∀ names, ∃ nums o rest names', Sms m d 2 t names [] 1 nums o rest names' ∧ (failsR rs = true → o = 2) ∧ (failsR rs = false → names' = waitsF names rs ∧ nums = rs.map (·.1) ∧ o = if waitsF [] rs = [] then 1 else 3)) (hq : PsR m d t rs) : Gv m (c :: t) (cmpR k rs)
 | ask {c : C} {t : List C} {k : Nat} {e : C} {r : List C} (hr : rightB (c :: t) = true) (h1 : 7 ≤ k) (h2 : k ≤ 10) (hi : isB (c :: t) (gT k) (gA k) = true) (ht : t ≠ []) (hf : IsFol m t (e :: r)) : Gv m (c :: t) (askR k e)
 | lik {c : C} {p q : List C} {k : Nat} {a b : C} {r s : List C} (hr : rightB (c :: (p ++ q)) = true) (h1 : k = 11 ∨ k = 12) (hi : isB (c :: (p ++ q)) (gT k) (gA k) = true) (hp : rightB p = true) (hq : rightB q = true) (ha : IsFol m p (a :: r)) (hb : IsFol m q (b :: s)) : Gv m (c :: (p ++ q)) (likR k a b)
theorem head_var {e : C} {r : List C} (h : rightB (e :: r) = true) (hk : e.k = 4) : r = [] := by
 have h1 := ((right_iff _).1 h).2.2.2
 have h2 : compQ r (0 + argN e) = true := h1
 rw [var_arg (show isVarL [e] = true by simp [isVarL, hk])] at h2
 exact compQ_zero h2
theorem end_free {m : Hp} (hR : RgH m) {p : List C} (hp : rightB p = true) {e : C} {r : List C} (hf : IsFol m p (e :: r)) (hk : e.k = 4) : r = [] ∧ lookH m (e.vn, e.vk) = none := by
 have hr : rightB (e :: r) = true := by
  rcases fol_right hR hf.1 with h | ⟨_, h⟩
  ·rw [h]; exact hp
  ·exact h
 have e0 := head_var hr hk
 subst e0
 have h2 := hf.2
 unfold nextH at h2
 rw [if_pos (by simp [isVarL, hk])] at h2
 exact ⟨rfl, h2⟩
theorem add_mem {a : List Nm} {x y : Nm} (h : y ∈ addN a x) : y ∈ a ∨ y = x := by
 unfold addN at h
 split at h
 ·exact .inl h
 ·simpa using h
theorem both_mem {y : Nm} : ∀ (b a : List Nm), y ∈ bothN a b → y ∈ a ∨ y ∈ b
 | [], _, h => .inl h
 | x :: b, a, h => by
  rcases both_mem b (addN a x) h with h1 | h1
  ·rcases add_mem h1 with h2 | h2
   ·exact .inl h2
   ·exact .inr (by simp [h2])
  ·exact .inr (List.mem_cons_of_mem _ h1)
theorem waits_mem {y : Nm} : ∀ (rs : List V3) (a : List Nm), y ∈ waitsF a rs → y ∈ a ∨ ∃ v ∈ rs, y ∈ v.2.2
 | [], _, h => .inl h
 | v :: rs, a, h => by
  rcases waits_mem rs (bothN a v.2.2) h with h1 | ⟨u, hu, h1⟩
  ·rcases both_mem _ _ h1 with h2 | h2
   ·exact .inl h2
   ·exact .inr ⟨v, List.mem_cons_self, h2⟩
  ·exact .inr ⟨u, List.mem_cons_of_mem _ hu, h1⟩
/-- What is waited for has no value. -/
theorem rs_free {m : Hp} (hR : RgH m) {d : Nat} {p : List C} {v : V3} (h : Rs m d p v) : rightB p = true → ∀ x ∈ v.2.2, lookH m x = none := by
 induction h with
 | @leaf d c e r' hk hf =>
  intro hr x hx
  unfold leafR at hx
  split at hx
  ·cases hx
  ·split at hx
   ·next h4 =>
    simp at hx
    rw [hx]
    exact (end_free hR hr hf h4).2
   ·cases hx
 | none hk hn => intro _ x hx; cases hx
 | @op d c r i rs hk hi hm hl hw hok hs ih =>
  intro hr x hx
  have key : ∀ x ∈ waitsF [] rs, lookH m x = none := fun x hx => by
   rcases waits_mem rs [] hx with h1 | ⟨v, hv, h1⟩
   ·cases h1
   ·obtain ⟨j, hj, rfl⟩ := List.getElem_of_mem hv
    have hj' : j < (argsL (c :: r)).length := by omega
    obtain ⟨_, _, a3⟩ := argsL_spec (c :: r) hr (by simp) hk
    obtain ⟨g1, g2, g3, g4⟩ := a3 _ (List.getElem_mem hj')
    have h256 := ((right_iff _).1 hr).2.1
    have ha := ((right_iff _).1 hr).2.2.1
    rw [List.all_eq_true] at ha
    refine ih j _ _ (List.getElem?_eq_getElem hj') (List.getElem?_eq_getElem hj) ((right_iff _).2 ⟨g2, by omega, ?_, eat_comp _ 1 g1⟩) x h1
    rw [List.all_eq_true]
    exact fun y hy => ha y (g4 y hy)
  unfold finR at hx
  split at hx
  ·cases hx
  ·split at hx
   ·split at hx <;> cases hx
   ·exact key x hx
theorem flat_le {p : List C} : ∀ {ps : List (List C)}, p ∈ ps → p.length ≤ ps.flatten.length
 | q :: ps, h => by
  rw [List.flatten_cons, List.length_append]
  rcases List.mem_cons.1 h with rfl | h
  ·omega
  ·have := flat_le h
   omega
theorem gT_ne : ∀ i, i < 13 → ∀ j, j < 13 → i ≠ j → ((gT i).toList == (gT j).toList) = false := by
 have key : ∀ i, i < 13 → ∀ j, j < 13 → i ≠ j → decide ((gT i).data.toList = (gT j).data.toList) = false := by decide
 intro i hi j hj hij
 rw [ByteArray.toList_eq, ByteArray.toList_eq]
 have := key i hi j hj hij
 simpa using this
theorem isB_head {c : C} {t : List C} {s : ByteArray} {n : Int} : isB (c :: t) s n = ((c.t.toList == s.toList) && (((c.k == 3) && (c.n == n)) || ((n == 0) && (c.k == 2)))) := rfl
theorem isB_one {g : List C} {i j : Nat} (hi : i < 13) (hj : j < 13) (h : isB g (gT i) (gA i) = true) (h' : isB g (gT j) (gA j) = true) : i = j := by
 cases g with
 | nil => cases h
 | cons c t =>
  rw [isB_head] at h h'
  simp only [Bool.and_eq_true] at h h'
  by_cases e : i = j
  ·exact e
  ·have h1 := gT_ne i hi j hj e
   have a := h.1
   have b := h'.1
   simp only [beq_iff_eq] at a b
   rw [← a, ← b] at h1
   simp at h1
theorem kB_args {c : C} {t : List C} {k : Nat} (hk : 1 ≤ k) (h13 : k < 13) (h : isB (c :: t) (gT k) (gA k) = true) : c.k = 3 ∧ c.n = gA k := by
 rw [isB_head] at h
 simp only [Bool.and_eq_true, Bool.or_eq_true, beq_iff_eq] at h
 rcases h.2 with h1 | h1
 ·exact h1
 ·exfalso
  have : ∀ k, k < 13 → 1 ≤ k → gA k ≠ 0 := by decide
  exact this k h13 hk h1.1
theorem comp_tail {c : C} {t : List C} {k : Nat} (hr : rightB (c :: t) = true) (hk : 1 ≤ k) (h13 : k < 13) (h : isB (c :: t) (gT k) (gA k) = true) : compQ t (gA k).toNat = true ∧ t.all C.ok = true ∧ t.length ≤ 255 := by
 obtain ⟨h1, h2⟩ := kB_args hk h13 h
 obtain ⟨_, r2, r3, r4⟩ := (right_iff _).1 hr
 have r5 : compQ t (0 + argN c) = true := r4
 have e : argN c = (gA k).toNat := by
  unfold argN argsOf
  rw [h1, h2, if_pos rfl]
  omega
 rw [e, Nat.zero_add] at r5
 simp only [List.all_cons, Bool.and_eq_true] at r3
 simp only [List.length_cons] at r2
 exact ⟨r5, r3.2, by omega⟩
theorem fol_cons {m : Hp} (hR : RgH m) (hD : DescH m) {p : List C} (hp : rightB p = true) : ∃ e r, IsFol m p (e :: r) := by
 obtain ⟨l', hf⟩ := fol_end hD _ p (Nat.le_refl _)
 have hr : rightB l' = true := by
  rcases fol_right hR hf.1 with rfl | ⟨_, h⟩
  ·exact hp
  ·exact h
 have h1 := ((right_iff l').1 hr).1
 cases l' with
 | nil => simp at h1
 | cons e r => exact ⟨e, r, hf⟩
theorem gv_some {m : Hp} (hR : RgH m) (hD : DescH m) (g : List C) : ∃ u, Gv m g u := by
 cases hr : rightB g
 ·exact ⟨_, .wrong hr⟩
 ·by_cases hq : ∃ k, k < 13 ∧ isB g (gT k) (gA k) = true
  ·obtain ⟨k, hk, hi⟩ := hq
   by_cases k0 : k = 0
   ·subst k0
    exact ⟨_, .yes hr hi⟩
   ·cases g with
    | nil => cases hi
    | cons c t =>
     obtain ⟨c1, c2, c3⟩ := comp_tail hr (by omega) hk hi
     by_cases k6 : k ≤ 6
     ·have e2 : (gA k).toNat = 2 := by
       have : ∀ k, k < 7 → 1 ≤ k → (gA k).toNat = 2 := by decide
       exact this k (by omega) (by omega)
      rw [e2] at c1
      obtain ⟨ps, rest, rs, h1, h2, h3, h4, h5, h6, h7, h8⟩ := bothSs (bothS hR hD t.length) 2 t 0 (Nat.le_refl _) (by omega) c1 c2
      have hfree : ∀ v ∈ rs, OkV v ∧ ∀ x ∈ v.2.2, lookH m x = none := fun v hv => by
       refine ⟨h6 v hv, ?_⟩
       obtain ⟨j, hj, rfl⟩ := List.getElem_of_mem hv
       have hj' : j < ps.length := by omega
       refine rs_free hR (h7 j _ _ (List.getElem?_eq_getElem hj') (List.getElem?_eq_getElem hj)) ?_
       have q1 := h4 _ (List.getElem_mem hj')
       have hsub : ∀ y ∈ ps[j], y ∈ t := fun y hy => by
        rw [h1]
        exact List.mem_append_left _ (List.mem_flatten.2 ⟨_, List.getElem_mem hj', hy⟩)
       refine (right_iff _).2 ⟨compQ_le q1, ?_, ?_, q1⟩
       ·have h9 : ps[j].length ≤ ps.flatten.length := by
         exact flat_le (List.getElem_mem hj')
        have h10 : ps.flatten.length ≤ t.length := by rw [h1, List.length_append]; omega
        omega
       ·rw [List.all_eq_true] at c2 ⊢
        exact fun y hy => c2 y (hsub y hy)
      refine ⟨_, .cmp (d := t.length) hr (by omega) k6 hi h3 hfree (fun names => ?_) ?_⟩
      ·obtain ⟨R1, R2, R3, R4, s1, s2, s3⟩ := h8 names [] 1 (.inl rfl)
       exact ⟨R1, R2, R3, R4, s1, s2, fun hf => ⟨(s3 hf).2.1, by simpa using (s3 hf).2.2.1, (s3 hf).2.2.2⟩⟩
      ·obtain rfl := compQ_zero h5
       match ps, rs, h2, h3 with
       | [x, y], [u, v], _, _ =>
        simp only [List.flatten_cons, List.flatten_nil, List.append_nil] at h1
        subst h1
        rw [List.all_append, Bool.and_eq_true] at c2
        rw [List.length_append] at c3
        have q1 := h4 x (by simp)
        have q2 := h4 y (by simp)
        exact ⟨x, y, u, v, rfl, (right_iff x).2 ⟨compQ_le q1, by omega, c2.1, q1⟩, (right_iff y).2 ⟨compQ_le q2, by omega, c2.2, q2⟩, rfl, h7 0 x u rfl rfl, h7 1 y v rfl rfl⟩
     ·by_cases k10 : k ≤ 10
      ·have e1 : (gA k).toNat = 1 := by
        have : ∀ k, k < 11 → 7 ≤ k → (gA k).toNat = 1 := by decide
        exact this k (by omega) (by omega)
       rw [e1] at c1
       have htr : rightB t = true := (right_iff t).2 ⟨compQ_le c1, by omega, c2, c1⟩
       obtain ⟨e, r, hf⟩ := fol_cons hR hD htr
       refine ⟨_, .ask hr (by omega) k10 hi (fun e0 => ?_) hf⟩
       subst e0
       cases c1
      ·have e2 : (gA k).toNat = 2 := by
        have : ∀ k, k < 13 → 11 ≤ k → (gA k).toNat = 2 := by decide
        exact this k hk (by omega)
       rw [e2] at c1
       obtain ⟨p, q, rfl, q1, q2⟩ := comp_split t 1 1 c1
       rw [List.all_append, Bool.and_eq_true] at c2
       rw [List.length_append] at c3
       have hp : rightB p = true := (right_iff p).2 ⟨compQ_le q1, by omega, c2.1, q1⟩
       have hq : rightB q = true := (right_iff q).2 ⟨compQ_le q2, by omega, c2.2, q2⟩
       obtain ⟨a, r, ha⟩ := fol_cons hR hD hp
       obtain ⟨b, s, hb⟩ := fol_cons hR hD hq
       exact ⟨_, .lik hr (by omega) hi hp hq ha hb⟩
  ·exact ⟨_, .none hr (fun k hk => by
    cases e : isB g (gT k) (gA k)
    ·rfl
    ·exact absurd ⟨k, hk, e⟩ hq)⟩
theorem eqC_eq {a b : C} (h : eqC a b = true) : a = b := by
 unfold eqC eqCells at h
 simp only [Bool.and_eq_true, beq_iff_eq] at h
 obtain ⟨k, t, n, vn, vk⟩ := a
 obtain ⟨k', t', n', vn', vk'⟩ := b
 obtain ⟨⟨⟨⟨rfl, ht⟩, rfl⟩, rfl⟩, rfl⟩ := h
 dsimp only at ht
 rw [ByteArray.toList_eq, ByteArray.toList_eq] at ht
 rw [ByteArray.ext (Array.toList_inj.1 ht)]
/-- The form of what a guard tells. -/
theorem gv_shape {m : Hp} {g : List C} {u : G2} (h : Gv m g u) : (u.1 = 1 ∧ u.2 = []) ∨ (u.1 = 2 ∧ u.2 = []) ∨ (u.1 = 3 ∧ u.2 ≠ [] ∧ bothN [] u.2 = u.2) := by
 have ho : ∀ b : Bool, (outO b = 1 ∨ outO b = 2) := fun b => by cases b <;> simp [outO]
 cases h with
 | wrong hr => exact .inr (.inl ⟨rfl, rfl⟩)
 | none hr hn => exact .inr (.inl ⟨rfl, rfl⟩)
 | yes hr hi => exact .inl ⟨rfl, rfl⟩
 | cmp hr h1 h2 hi hl hv hx hq =>
  unfold cmpR
  split
  ·exact .inr (.inl ⟨rfl, rfl⟩)
  ·split
   ·rcases ho _ with e | e
    ·exact .inl ⟨e, rfl⟩
    ·exact .inr (.inl ⟨e, rfl⟩)
   ·next e => exact .inr (.inr ⟨rfl, e, by show bothN [] (waitsF [] _) = waitsF [] _; rw [← waits_of]⟩)
 | ask hr h1 h2 hi ht hf =>
  unfold askR
  split
  ·exact .inr (.inr ⟨rfl, by simp, rfl⟩)
  ·rcases ho _ with e | e
   ·exact .inl ⟨e, rfl⟩
   ·exact .inr (.inl ⟨e, rfl⟩)
 | @lik c p q k a b r s hr h1 hi hp hq ha hb =>
  unfold likR
  split
  ·split
   ·exact .inr (.inr ⟨rfl, by simp, rfl⟩)
   ·exact .inr (.inl ⟨rfl, rfl⟩)
  ·split
   ·rcases ho _ with e | e
    ·exact .inl ⟨e, rfl⟩
    ·exact .inr (.inl ⟨e, rfl⟩)
   ·next e =>
    refine .inr (.inr ⟨rfl, e, ?_⟩)
    show bothN [] (bothN (varN a) (varN b)) = _
    rw [both_assoc]
    have : bothN [] (varN a) = varN a := by unfold varN; split <;> rfl
    rw [this]
end Go.Proofs.YtaehhophaaipdaaGreatDoor

namespace Go.Proofs.YtaehhophaaipdaaGreatDoor
open Go.RowKit
end Go.Proofs.YtaehhophaaipdaaGreatDoor
