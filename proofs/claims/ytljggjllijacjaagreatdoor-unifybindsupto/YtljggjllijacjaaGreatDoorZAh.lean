/- Plain: what is bound in the steps of equations can be bound; by the map that comes of it the equations bind nothing more, and both sides have the same values in them. -/
import Derived.Test.YtljggjllijacjaaGreatDoorYKxh
import Derived.Test.YtljggjllijacjaaGreatDoorFLxh
namespace Go.Proofs.YtljggjllijacjaaGreatDoor
open Go.RowKit
theorem eqC_eq {c d : C} (h : eqC c d = true) : c = d := by
  obtain ⟨k, t, n, vn, vk⟩ := c
  obtain ⟨k', t', n', vn', vk'⟩ := d
  simp only [eqC, eqCells, Bool.and_eq_true, beq_iff_eq, ByteArray.toList_eq] at h
  obtain ⟨⟨⟨⟨h1, h2⟩, h3⟩, h4⟩, h5⟩ := h
  have ht : t = t' := ByteArray.ext (Array.toList_inj.1 h2)
  rw [h1, ht, h3, h4, h5]
theorem hd_ne {l : List C} (h : rightB l = true) : ∃ r, l = hdC l :: r := by
  have h1 : 0 < l.length := (right_len h).1
  match l, h1 with
  | c :: r, _ => exact ⟨r, rfl⟩
theorem one_cell {l : List C} (h : rightB l = true) (hk : (hdC l).k ≠ 3) : l = [hdC l] := by
  obtain ⟨r, e⟩ := hd_ne h
  have h1 := ((right_iff l).1 h).2.2.2
  rw [e] at h1
  have h2 : compQ r (0 + argN (hdC l)) = true := h1
  have h3 : argN (hdC l) = 0 := by simp [argN, argsOf, hk]
  rw [h3] at h2
  rw [compQ_zero h2] at e
  exact e
theorem Fol.ext {m m' : Hp} (hx : ∀ x l, lookH m x = some l → lookH m' x = some l) {a b : List C} (h : Fol m a b) : Fol m' a b := by
  induction h with
  | here => exact .here _
  | step e _ ih =>
    refine .step ?_ ih
    unfold nextH at e ⊢
    split at e
    · next hv =>
      rw [if_pos hv]
      exact hx _ _ e
    · cases e
/-- What is known of a map: its links descend, its values are global. -/
structure MpOk (m : Hp) : Prop where
  desc : DescH m
  gl : ∀ x l, lookH m x = some l → globalB l = true
theorem MpOk.rg {m : Hp} (h : MpOk m) : RgH m := fun x l hl => by
  have h1 := global_right (h.gl x l hl)
  refine ⟨fun e => ?_, h1⟩
  have := (right_len h1).1
  rw [e] at this
  simp at this
theorem fol_gl {m : Hp} (hm : MpOk m) {a b : List C} (h : Fol m a b) (hg : globalB a = true) : globalB b = true := by
  induction h with
  | here => exact hg
  | step e _ ih =>
    refine ih ?_
    unfold nextH at e
    split at e
    · exact hm.gl _ _ e
    · cases e
theorem MpOk.fol {m : Hp} (h : MpOk m) (l : List C) : ∃ a, IsFol m l a := fol_end h.desc _ l (Nat.le_refl _)
theorem isV_one {l : List C} (h : rightB l = true) (hv : isV l = true) : l = [hdC l] ∧ isVarL l = true ∧ varL l = ((hdC l).vn, (hdC l).vk) := by
  have hk : (hdC l).k = 4 := by simpa [isV] using hv
  have e := one_cell h (by rw [hk]; decide)
  refine ⟨e, ?_, ?_⟩
  · rw [e]
    simp [isVarL, hk]
  · rw [e]
    rfl
theorem isVarL_isV {l : List C} (h : isVarL l = true) : isV l = true := by
  match l, h with
  | [c], h => simpa [isVarL, isV, hdC] using h
theorem var_ok {l : List C} (h : globalB l = true) (hv : isV l = true) : 0 ≤ (hdC l).vn ∧ oneT ⟨4, ⟨#[]⟩, 0, (hdC l).vn, (hdC l).vk⟩ ≠ [] := by
  have hr := global_right h
  obtain ⟨e, _, _⟩ := isV_one hr hv
  have hk : (hdC l).k = 4 := by simpa [isV] using hv
  have hok := hd_ok hr
  obtain ⟨t1, t2⟩ := var_cell hok (by simpa using hk)
  have ht : (hdC l).t = ⟨#[]⟩ := by
    rw [ByteArray.toList_eq] at t1
    exact ByteArray.ext (Array.toList_inj.1 (by rw [t1]))
  have hc : hdC l = ⟨4, ⟨#[]⟩, 0, (hdC l).vn, (hdC l).vk⟩ := by
    rw [← hk, ← ht, ← t2]
  constructor
  · unfold globalB at h
    rw [Bool.and_eq_true] at h
    have h1 := h.1
    rw [e] at h1
    have h2 : ¬ (hdC l).vn = -1 := by
      simp [varsOf, hk] at h1
      exact h1
    rw [hc] at hok
    simp [C.ok, cellB, between] at hok
    omega
  · rw [← hc]
    unfold oneT
    rw [← e, if_pos hr]
    intro e2
    rw [e2] at e
    cases e
theorem step_binds {m : Hp} (hm : MpOk m) {l1 l2 a b : List C} (ha : IsFol m l1 a) (hb : IsFol m l2 b) (g1 : globalB l1 = true) (g2 : globalB l2 = true) (hk : stK a b = 2) : bindE m (stV a b) (stT a b) = 0 ∧ eqC (hdC a) (hdC b) = false := by
  have ga := fol_gl hm ha.1 g1
  have gb := fol_gl hm hb.1 g2
  have hno : ∀ x, globalB x = true → isV x = true → nextH m x = none → lookH m ((hdC x).vn, (hdC x).vk) = none := fun x hg hv hn => by
    obtain ⟨_, e2, e3⟩ := isV_one (global_right hg) hv
    unfold nextH at hn
    rw [if_pos e2, e3] at hn
    exact hn
  have hne : eqC (hdC a) (hdC b) = false := by
    cases he : eqC (hdC a) (hdC b)
    · rfl
    · unfold stK at hk
      rw [he, if_pos rfl] at hk
      split at hk
      · split at hk <;> cases hk
      · cases hk
  refine ⟨?_, hne⟩
  unfold stK at hk
  rw [hne] at hk
  simp only [Bool.false_eq_true, if_false] at hk
  have hor : bindsFst a b = true ∨ isV b = true := by
    cases h1 : bindsFst a b
    · cases h2 : isV b
      · rw [h1, h2] at hk
        cases hk
      · exact .inr rfl
    · exact .inl rfl
  have hdiff : isV a = true → isV b = true → ¬ ((hdC a).vn = (hdC b).vn ∧ (hdC a).vk = (hdC b).vk) := fun h1 h2 h3 => by
    obtain ⟨t1, n1⟩ := var_cell (hd_ok (global_right ga)) h1
    obtain ⟨t2, n2⟩ := var_cell (hd_ok (global_right gb)) h2
    have k1 : (hdC a).k = 4 := by simpa [isV] using h1
    have k2 : (hdC b).k = 4 := by simpa [isV] using h2
    have : eqC (hdC a) (hdC b) = true := by simp [eqC, eqCells, k1, k2, t1, t2, n1, n2, h3.1, h3.2]
    rw [hne] at this
    cases this
  unfold bindE stV stT
  cases hf : bindsFst a b
  · have hvb : isV b = true := by
      rcases hor with h | h
      · rw [hf] at h
        cases h
      · exact h
    obtain ⟨p1, p2⟩ := var_ok gb hvb
    simp only [Bool.false_eq_true, if_false]
    rw [if_neg, if_neg, if_neg]
    · rintro ⟨h1, h2⟩
      have hva := isVarL_isV h1
      obtain ⟨_, _, e3⟩ := isV_one (global_right ga) hva
      rw [e3] at h2
      unfold bindsFst at hf
      rw [hva, hvb] at hf
      simp only [Bool.true_and, Bool.not_eq_false'] at hf
      have h3 : lessN ((hdC a).vn, (hdC a).vk) ((hdC b).vn, (hdC b).vk) = true := hf
      rw [h3] at h2
      cases h2
    · rw [hno b gb hvb hb.2]
      simp
    · rintro (h | h | h)
      · omega
      · exact p2 h
      · rw [ga] at h
        cases h
  · have hva : isV a = true := by
      unfold bindsFst at hf
      rw [Bool.and_eq_true] at hf
      exact hf.1
    obtain ⟨p1, p2⟩ := var_ok ga hva
    simp only [if_true]
    rw [if_neg, if_neg, if_neg]
    · rintro ⟨h1, h2⟩
      have hvb := isVarL_isV h1
      obtain ⟨_, _, e3⟩ := isV_one (global_right gb) hvb
      rw [e3] at h2
      unfold bindsFst at hf
      rw [hva, hvb] at hf
      simp only [Bool.true_and, Bool.not_eq_true'] at hf
      have h3 : lessN ((hdC b).vn, (hdC b).vk) ((hdC a).vn, (hdC a).vk) = true := lessB_total hf (hdiff hva hvb)
      rw [h3] at h2
      cases h2
    · rw [hno a ga hva ha.2]
      simp
    · rintro (h | h | h)
      · omega
      · exact p2 h
      · rw [gb] at h
        cases h
/-- An equation is solved by a map: both sides lead to the same, or its parts are solved. -/
inductive Svd (m : Hp) : List C → Prop
  | same {t a : List C} (h1 : IsFol m (sd1 t) a) (h2 : IsFol m (sd2 t) a) : Svd m t
  | part {t a b : List C} (h1 : IsFol m (sd1 t) a) (h2 : IsFol m (sd2 t) b) (ha : rightB a = true) (hb : rightB b = true) (h3 : stK a b = 3) (hp : ∀ p ∈ partsL (argsL a) (argsL b), Svd m p) : Svd m t
/-- Bound one after another. -/
inductive BdC : Hp → List (Nm × List C) → Hp → Prop
  | nil (m : Hp) : BdC m [] m
  | cons {m m' : Hp} {x : Nm} {l : List C} {r : List (Nm × List C)} (h : bindE m x l = 0) (k : BdC (bindH m x l) r m') : BdC m ((x, l) :: r) m'
theorem BdC.ext {m m' : Hp} {r : List (Nm × List C)} (h : BdC m r m') : ∀ x l, lookH m x = some l → lookH m' x = some l := by
  induction h with
  | nil => exact fun x l h => h
  | cons h k ih => exact fun x l hl => ih x l (look_bind hl)
theorem MpOk.bind {m : Hp} (h : MpOk m) (x : Nm) (l : List C) : MpOk (bindH m x l) := ⟨desc_bind h.desc, gl_bind h.gl⟩
theorem MpOk.bdc {m m' : Hp} {r : List (Nm × List C)} (h : BdC m r m') (hm : MpOk m) : MpOk m' := by
  induction h with
  | nil => exact hm
  | cons _ _ ih => exact ih (hm.bind _ _)
/-- How bindings go on from a map. -/
theorem fol_up {m m' : Hp} {l a z : List C} (hx : ∀ x l, lookH m x = some l → lookH m' x = some l) (h : IsFol m l a) (k : IsFol m' a z) : IsFol m' l z := ⟨(h.1.ext hx).trans k.1, k.2⟩
theorem look_new {m : Hp} {x : Nm} {l : List C} (h : bindE m x l = 0) : lookH (bindH m x l) x = some l := by
  unfold bindH
  rw [if_pos h, look_ins m x x l (bind_zero h), if_pos rfl]
/-- A step that is no clash, in the plain. -/
theorem step_is {s : Sta} {n0 : Nat} {t : List C} {r : List (List C)} (h : StaOk s n0) (hr : s.row = t :: r) (hk : (nxK s t).k ≠ 4) : ∃ a b, IsFol s.m (sd1 t) a ∧ IsFol s.m (sd2 t) b ∧ globalB (sd1 t) = true ∧ globalB (sd2 t) = true ∧ (nxK s t).k = stK a b ∧ (nxK s t).V = uV a b ∧ (nxK s t).T = uT a b ∧ (nxK s t).P = uP a b := by
  have hs := h.step hr
  obtain ⟨g1, g2, ⟨a, ha⟩, b, hb⟩ := hs.pn hk
  obtain ⟨k1, k2, k3, k4⟩ := hs.pl a b g1 g2 ha hb
  exact ⟨a, b, ha, hb, g1, g2, k1, k2, k3, k4⟩
theorem stK_cases (a b : List C) : (eqC (hdC a) (hdC b) = true ∧ (hdC a).k = 3 ∧ partsB (argsL a) (argsL b) = true ∧ stK a b = 3) ∨ (eqC (hdC a) (hdC b) = true ∧ (hdC a).k ≠ 3 ∧ stK a b = 1) ∨ (eqC (hdC a) (hdC b) = false ∧ stK a b = 2) ∨ stK a b = 4 := by
  unfold stK
  cases he : eqC (hdC a) (hdC b)
  · simp only [Bool.false_eq_true, if_false]
    split
    · exact .inr (.inr (.inl ⟨by first | trivial | rfl, by first | trivial | rfl⟩))
    · exact .inr (.inr (.inr (by first | trivial | rfl)))
  · simp only [if_true]
    by_cases h3 : (hdC a).k = 3
    · rw [if_pos (by simpa using h3)]
      cases hp : partsB (argsL a) (argsL b)
      · exact .inr (.inr (.inr (by first | trivial | rfl)))
      · exact .inl ⟨by first | trivial | rfl, h3, by first | trivial | rfl, by first | trivial | rfl⟩
    · rw [if_neg (by simpa using h3)]
      exact .inr (.inl ⟨by first | trivial | rfl, h3, by first | trivial | rfl⟩)
theorem struct_next {m : Hp} {a : List C} (h : (hdC a).k = 3) : nextH m a = none := by
  unfold nextH
  rw [if_neg]
  intro hv
  have := isVarL_isV hv
  simp [isV, h] at this
/-- The first run: what it binds can be bound, and solves what was to be solved. -/
theorem run1 : ∀ (g : Nat) (s : Sta) (n0 : Nat), StaOk s n0 → MpOk s.m → (solF g s).out ≠ 2 → ∃ bs m', (solF g s).bd = s.bd ++ bs ∧ BdC s.m bs m' ∧ ((solF g s).out = 1 → ∀ t ∈ s.row, Svd m' t) := by
  intro g
  induction g with
  | zero =>
    intro s n0 h hm ho
    cases hr : s.row with
    | nil =>
      rw [solF_none hr]
      exact ⟨[], s.m, by simp, .nil _, fun _ t ht => by cases ht⟩
    | cons t r =>
      rw [solF_zero hr]
      exact ⟨[], s.m, by simp, .nil _, fun e => by cases e⟩
  | succ g ih =>
    intro s n0 h hm ho
    cases hr : s.row with
    | nil =>
      rw [solF_none hr]
      exact ⟨[], s.m, by simp, .nil _, fun _ t ht => by cases ht⟩
    | cons t r =>
      by_cases hk : (nxK s t).k = 4
      · rw [solF_clash hr hk] at ho
        exact absurd rfl ho
      · rw [solF_next hr hk] at ho ⊢
        obtain ⟨a, b, ha, hb, g1, g2, k1, k2, k3, k4⟩ := step_is h hr hk
        have hra := global_right (fol_gl hm ha.1 g1)
        have hrb := global_right (fol_gl hm hb.1 g2)
        have hnx := h.next hr
        rcases stK_cases a b with ⟨e1, e2, e3, e4⟩ | ⟨e1, e2, e4⟩ | ⟨e1, e4⟩ | e4
        · rw [e4] at k1
          have em : (nxS s t r).m = s.m := by
            unfold nxS
            dsimp only
            rw [k1, if_neg (by decide)]
          have eb : (nxS s t r).bd = s.bd := by
            unfold nxS
            dsimp only
            rw [k1, if_neg (by decide)]
          obtain ⟨bs, m', j1, j2, j3⟩ := ih (nxS s t r) n0 hnx (by rw [em]; exact hm) ho
          rw [em] at j2
          rw [eb] at j1
          refine ⟨bs, m', j1, j2, fun e x hx => ?_⟩
          have j4 := j3 e
          have er : (nxS s t r).row = partsL (argsL a) (argsL b) ++ r := by
            show (nxK s t).P ++ r = _
            rw [k4]
            unfold uP
            rw [if_pos e4]
          rw [er] at j4
          rcases List.mem_cons.1 hx with rfl | hx
          · have e5 : (hdC b).k = 3 := by rw [← eqC_eq e1]; exact e2
            exact .part (fol_up j2.ext ha ⟨.here _, struct_next e2⟩) (fol_up j2.ext hb ⟨.here _, struct_next e5⟩) hra hrb e4 fun p hp => j4 p (List.mem_append_left _ hp)
          · exact j4 x (List.mem_append_right _ hx)
        · rw [e4] at k1
          have em : (nxS s t r).m = s.m := by
            unfold nxS
            dsimp only
            rw [k1, if_neg (by decide)]
          have eb : (nxS s t r).bd = s.bd := by
            unfold nxS
            dsimp only
            rw [k1, if_neg (by decide)]
          obtain ⟨bs, m', j1, j2, j3⟩ := ih (nxS s t r) n0 hnx (by rw [em]; exact hm) ho
          rw [em] at j2
          rw [eb] at j1
          refine ⟨bs, m', j1, j2, fun e x hx => ?_⟩
          rcases List.mem_cons.1 hx with rfl | hx
          · have e5 := eqC_eq e1
            have e6 : a = b := by
              rw [one_cell hra e2, one_cell hrb (by rw [← e5]; exact e2), e5]
            subst e6
            obtain ⟨z, hz⟩ := (MpOk.bdc j2 hm).fol a
            exact .same (fol_up j2.ext ha hz) (fol_up j2.ext hb hz)
          · exact j3 e x (List.mem_append_right _ hx)
        · rw [e4] at k1
          have hbz := (step_binds hm ha hb g1 g2 e4).1
          have em : (nxS s t r).m = bindH s.m (stV a b) (stT a b) := by
            unfold nxS
            dsimp only
            rw [k1, if_pos rfl, k2, k3]
            unfold uV uT
            rw [if_pos e4, if_pos e4]
          have eb : (nxS s t r).bd = s.bd ++ [(stV a b, stT a b)] := by
            unfold nxS
            dsimp only
            rw [k1, if_pos rfl, k2, k3]
            unfold uV uT
            rw [if_pos e4, if_pos e4]
          obtain ⟨bs, m', j1, j2, j3⟩ := ih (nxS s t r) n0 hnx (by rw [em]; exact hm.bind _ _) ho
          rw [em] at j2
          rw [eb, List.append_assoc] at j1
          have hc : BdC s.m ((stV a b, stT a b) :: bs) m' := .cons hbz j2
          refine ⟨_, m', j1, hc, fun e x hx => ?_⟩
          rcases List.mem_cons.1 hx with rfl | hx
          · have hl := j2.ext _ _ (look_new hbz)
            have hone : ∀ x y, globalB x = true → isV x = true → lookH m' ((hdC x).vn, (hdC x).vk) = some y → ∀ z, IsFol m' y z → IsFol m' x z := fun x y hg hv hl z hz => by
              obtain ⟨_, f2, f3⟩ := isV_one (global_right hg) hv
              refine ⟨.step ?_ hz.1, hz.2⟩
              unfold nextH
              rw [if_pos f2, f3]
              exact hl
            have ga := fol_gl hm ha.1 g1
            have gb := fol_gl hm hb.1 g2
            unfold stV stT at hl
            cases hf : bindsFst a b
            · rw [hf] at hl
              simp only [Bool.false_eq_true, if_false] at hl
              have hvb : isV b = true := by
                unfold stK at e4
                rw [e1, hf] at e4
                cases hv : isV b
                · rw [hv] at e4
                  cases e4
                · rfl
              obtain ⟨z, hz⟩ := (MpOk.bdc hc hm).fol a
              exact .same (fol_up hc.ext ha hz) (fol_up hc.ext hb (hone b a gb hvb hl z hz))
            · rw [hf] at hl
              simp only [if_true] at hl
              have hva : isV a = true := by
                unfold bindsFst at hf
                rw [Bool.and_eq_true] at hf
                exact hf.1
              obtain ⟨z, hz⟩ := (MpOk.bdc hc hm).fol b
              exact .same (fol_up hc.ext ha (hone a b ga hva hl z hz)) (fol_up hc.ext hb hz)
          · exact j3 e x (List.mem_append_right _ hx)
        · exact absurd (k1.trans e4) hk
/-- The parts of an equation have the arguments as their sides. -/
theorem part_sides {xs ys : List (List C)} (h : partsB xs ys = true) : ∀ p ∈ partsL xs ys, ∃ x y, (x, y) ∈ xs.zip ys ∧ sd1 p = x ∧ sd2 p = y := by
  intro p hp
  unfold partsL at hp
  obtain ⟨⟨x, y⟩, hxy, rfl⟩ := List.mem_map.1 hp
  unfold partsB at h
  rw [List.all_eq_true] at h
  have h1 : makeE eqS [x, y] = 0 := by simpa using h _ hxy
  obtain ⟨h2, h3⟩ := made_eq h1
  obtain ⟨h4, h5⟩ := sd_yes h2 h3
  exact ⟨x, y, hxy, h4, h5⟩
theorem zip_self {α : Type} : ∀ {xs : List α} {x y : α}, (x, y) ∈ xs.zip xs → x = y
  | [], _, _, h => by cases h
  | a :: r, x, y, h => by
    rw [List.zip_cons_cons] at h
    rcases List.mem_cons.1 h with e | h
    · simp only [Prod.mk.injEq] at e
      rw [e.1, e.2]
    · exact zip_self h
/-- What a step of a solved equation leaves is solved; it binds nothing. -/
theorem svd_step {m : Hp} {t a b : List C} (hm : MpOk m) (h : Svd m t) (ha : IsFol m (sd1 t) a) (hb : IsFol m (sd2 t) b) : stK a b ≠ 2 ∧ (stK a b = 3 → ∀ p ∈ partsL (argsL a) (argsL b), Svd m p) := by
  cases h with
  | same h1 h2 =>
    obtain rfl := ha.uniq h1
    obtain rfl := hb.uniq h2
    rcases stK_cases b b with ⟨e1, e2, e3, e4⟩ | ⟨e1, e2, e4⟩ | ⟨e1, e4⟩ | e4
    · refine ⟨by rw [e4]; decide, fun _ p hp => ?_⟩
      obtain ⟨x, y, h3, h4, h5⟩ := part_sides e3 p hp
      obtain rfl := zip_self h3
      obtain ⟨z, hz⟩ := hm.fol x
      exact .same (by rw [h4]; exact hz) (by rw [h5]; exact hz)
    · exact ⟨by rw [e4]; decide, fun e => by rw [e4] at e; cases e⟩
    · rw [eqC_refl] at e1
      cases e1
    · exact ⟨by rw [e4]; decide, fun e => by rw [e4] at e; cases e⟩
  | part h1 h2 h3 h4 h5 h6 =>
    obtain rfl := ha.uniq h1
    obtain rfl := hb.uniq h2
    exact ⟨by rw [h5]; decide, fun _ => h6⟩
/-- The second run binds nothing. -/
theorem run2 : ∀ (g : Nat) (s : Sta) (n0 : Nat), StaOk s n0 → MpOk s.m → s.bd = [] → (∀ t ∈ s.row, Svd s.m t) → (solF g s).bd = [] := by
  intro g
  induction g with
  | zero =>
    intro s n0 h hm hb hs
    cases hr : s.row with
    | nil =>
      rw [solF_none hr]
      exact hb
    | cons t r =>
      rw [solF_zero hr]
      exact hb
  | succ g ih =>
    intro s n0 h hm hb hs
    cases hr : s.row with
    | nil =>
      rw [solF_none hr]
      exact hb
    | cons t r =>
      by_cases hk : (nxK s t).k = 4
      · rw [solF_clash hr hk]
      · rw [solF_next hr hk]
        obtain ⟨a, b, ha, hb2, g1, g2, k1, k2, k3, k4⟩ := step_is h hr hk
        obtain ⟨j1, j2⟩ := svd_step hm (hs t (by rw [hr]; simp)) ha hb2
        have hk2 : (nxK s t).k ≠ 2 := by rw [k1]; exact j1
        have em : (nxS s t r).m = s.m := by
          unfold nxS
          dsimp only
          rw [if_neg hk2]
        have eb : (nxS s t r).bd = s.bd := by
          unfold nxS
          dsimp only
          rw [if_neg hk2]
        refine ih (nxS s t r) n0 (h.next hr) (by rw [em]; exact hm) (by rw [eb]; exact hb) fun x hx => ?_
        rw [em]
        have hx2 : x ∈ (nxK s t).P ++ r := hx
        rcases List.mem_append.1 hx2 with hx2 | hx2
        · rw [k4] at hx2
          unfold uP at hx2
          split at hx2
          · next e => exact j2 e x hx2
          · cases hx2
        · exact hs x (by rw [hr]; exact List.mem_cons_of_mem _ hx2)
theorem mem_flat_len : ∀ {L : List (List C)} {s : List C}, s ∈ L → s.length ≤ L.flatten.length
  | [], _, h => by cases h
  | a :: r, s, h => by
    rw [List.flatten_cons, List.length_append]
    rcases List.mem_cons.1 h with rfl | h
    · omega
    · have := mem_flat_len h
      omega
theorem args_short {a s : List C} (_ : rightB a = true) (hs : s ∈ argsL a) : s.length + 1 ≤ a.length := by
  by_cases h3 : rightB a = true ∧ 0 < a.length ∧ headK a = 3
  · have h1 := (argsL_spec a h3.1 h3.2.1 h3.2.2).1
    have h2 : s.length ≤ (argsL a).flatten.length := by
      exact mem_flat_len hs
    rw [h1, List.length_tail] at h2
    have := h3.2.1
    omega
  · rw [argsL_none a h3] at hs
    cases hs
theorem make_short {x y : List C} (hx : rightB x = true) (hy : rightB y = true) (hl : x.length + y.length + 1 ≤ 256) : makeE eqS [x, y] = 0 := by
  have hr : allRightB [x, y] = true := by simp [allRightB, hx, hy]
  have hok : (ownC eqS 2).ok = true := by kernel_rfl
  have ht : tot [x, y] = x.length + y.length := by simp [tot]
  unfold makeE
  rw [hr]
  show (if (true && (ownC eqS 2).ok) = true then _ else _) = _
  rw [hok, ht]
  simp
  omega
/-- The second run is no clash where all is short. -/
theorem run3 : ∀ (g : Nat) (s : Sta) (n0 : Nat), StaOk s n0 → MpOk s.m → (∀ t ∈ s.row, Svd s.m t ∧ globalB (sd1 t) = true ∧ globalB (sd2 t) = true ∧ (sd1 t).length ≤ 127 ∧ (sd2 t).length ≤ 127) → (∀ x l, lookH s.m x = some l → l.length ≤ 127) → (solF g s).out ≠ 2 := by
  intro g
  induction g with
  | zero =>
    intro s n0 h hm hs hl
    cases hr : s.row with
    | nil =>
      rw [solF_none hr]
      exact show (1 : Int) ≠ 2 by decide
    | cons t r =>
      rw [solF_zero hr]
      exact show (3 : Int) ≠ 2 by decide
  | succ g ih =>
    intro s n0 h hm hs hl
    cases hr : s.row with
    | nil =>
      rw [solF_none hr]
      exact show (1 : Int) ≠ 2 by decide
    | cons t r =>
      obtain ⟨j0, g1, g2, l1, l2⟩ := hs t (by rw [hr]; simp)
      obtain ⟨a, ha⟩ := hm.fol (sd1 t)
      obtain ⟨b, hb2⟩ := hm.fol (sd2 t)
      obtain ⟨k1, k2, k3, k4⟩ := (h.step hr).pl a b g1 g2 ha hb2
      obtain ⟨j1, j2⟩ := svd_step hm j0 ha hb2
      have hlen : ∀ {x y : List C}, Fol s.m x y → x.length ≤ 127 → y.length ≤ 127 := fun {x y} hf => by
        induction hf with
        | here => exact fun h => h
        | step e _ ih =>
          intro _
          refine ih ?_
          unfold nextH at e
          split at e
          · exact hl _ _ e
          · cases e
      have la := hlen ha.1 l1
      have lb := hlen hb2.1 l2
      have ga := fol_gl hm ha.1 g1
      have gb := fol_gl hm hb2.1 g2
      have hra := global_right ga
      have hrb := global_right gb
      have hk : (nxK s t).k ≠ 4 := by
        rw [k1]
        intro e4
        have heq : eqC (hdC a) (hdC b) = true := by
          cases j0 with
          | same h1 h2 =>
            obtain rfl := ha.uniq h1
            obtain rfl := hb2.uniq h2
            exact eqC_refl _
          | part h1 h2 _ _ h5 _ =>
            obtain rfl := ha.uniq h1
            obtain rfl := hb2.uniq h2
            rw [h5] at e4
            cases e4
        unfold stK at e4
        rw [heq, if_pos rfl] at e4
        split at e4
        · have hp : partsB (argsL a) (argsL b) = true := by
            unfold partsB
            rw [List.all_eq_true]
            rintro ⟨x, y⟩ hxy
            have hz := List.of_mem_zip hxy
            have s1 := args_short hra hz.1
            have s2 := args_short hrb hz.2
            simpa using make_short (args_right hra hz.1) (args_right hrb hz.2) (by omega)
          rw [hp] at e4
          cases e4
        · cases e4
      rw [solF_next hr hk]
      have hk2 : (nxK s t).k ≠ 2 := by rw [k1]; exact j1
      have em : (nxS s t r).m = s.m := by
        unfold nxS
        dsimp only
        rw [if_neg hk2]
      refine ih (nxS s t r) n0 (h.next hr) (by rw [em]; exact hm) (fun x hx => ?_) (by rw [em]; exact hl)
      rw [em]
      have hx2 : x ∈ (nxK s t).P ++ r := hx
      rcases List.mem_append.1 hx2 with hx2 | hx2
      · rw [k4] at hx2
        unfold uP at hx2
        split at hx2
        · next e =>
          have hpB : partsB (argsL a) (argsL b) = true := by
            rcases stK_cases a b with ⟨_, _, e3, _⟩ | ⟨_, _, e4⟩ | ⟨_, e4⟩ | e4
            · exact e3
            all_goals (rw [e4] at e; cases e)
          obtain ⟨x1, y1, h3, h4, h5⟩ := part_sides hpB x hx2
          have hz := List.of_mem_zip h3
          have s1 := args_short hra hz.1
          have s2 := args_short hrb hz.2
          have hgl : ∀ {l s : List C}, globalB l = true → s ∈ argsL l → globalB s = true := fun {l s} hg hs => by
            unfold globalB at hg ⊢
            rw [Bool.and_eq_true] at hg ⊢
            refine ⟨?_, args_right hg.2 hs⟩
            have h6 := (argsL_mem l s hs).2
            rw [List.all_eq_true] at hg ⊢
            intro v hv
            refine hg.1 v ?_
            unfold varsOf at hv ⊢
            obtain ⟨c, hc, rfl⟩ := List.mem_map.1 hv
            obtain ⟨h7, h8⟩ := List.mem_filter.1 hc
            exact List.mem_map.2 ⟨c, List.mem_filter.2 ⟨h6 c h7, h8⟩, rfl⟩
          rw [h4, h5]
          exact ⟨j2 e x hx2, hgl ga hz.1, hgl gb hz.2, by omega, by omega⟩
        · cases hx2
      · exact hs x (by rw [hr]; exact List.mem_cons_of_mem _ hx2)
theorem ex_fol {m : Hp} {x a p : List C} (h : IsFol m x a) (hp : Ex m x p) : Ex m a p := by
  by_cases hv : isVarL x = true
  · match x, hv with
    | [c], hv =>
      cases hp with
      | one h2 k =>
        cases k
        obtain rfl := h2.uniq h
        exact one_ex ⟨.here _, h2.2⟩
      | more h2 hl hx k =>
        cases k
        obtain rfl := h2.uniq h
        simpa using hx
  · have hn : nextH m x = none := by
      unfold nextH
      rw [if_neg hv]
    obtain rfl := h.uniq ⟨.here _, hn⟩
    exact hp
theorem ex_parts {m : Hp} : ∀ (xs ys : List (List C)) (p q : List C), xs.length = ys.length → partsB xs ys = true → (∀ t ∈ partsL xs ys, ∀ u v, Ex m (sd1 t) u → Ex m (sd2 t) v → u = v) → Ex m xs.flatten p → Ex m ys.flatten q → p = q
  | [], [], p, q, _, _, _, hp, hq => by
    cases hp
    cases hq
    rfl
  | [], _ :: _, _, _, hl, _, _, _, _ => by simp at hl
  | _ :: _, [], _, _, hl, _, _, _, _ => by simp at hl
  | x :: xs, y :: ys, p, q, hl, hB, hS, hp, hq => by
    rw [List.flatten_cons] at hp hq
    obtain ⟨p1, p2, rfl, h1, h2⟩ := hp.split
    obtain ⟨q1, q2, rfl, h3, h4⟩ := hq.split
    have hB2 : makeE eqS [x, y] = 0 ∧ partsB xs ys = true := by
      unfold partsB at hB ⊢
      rw [List.zip_cons_cons, List.all_cons, Bool.and_eq_true] at hB
      exact ⟨by simpa using hB.1, hB.2⟩
    obtain ⟨e1, e2⟩ := made_eq hB2.1
    obtain ⟨e3, e4⟩ := sd_yes e1 e2
    have hin : makeL eqS [x, y] ∈ partsL (x :: xs) (y :: ys) := by
      unfold partsL
      rw [List.zip_cons_cons, List.map_cons]
      exact List.mem_cons_self
    have e5 := hS _ hin p1 q1 (by rw [e3]; exact h1) (by rw [e4]; exact h3)
    have e6 := ex_parts xs ys p2 q2 (by simpa using hl) hB2.2 (fun t ht => hS t (by
      unfold partsL at ht ⊢
      rw [List.zip_cons_cons, List.map_cons]
      exact List.mem_cons_of_mem _ ht)) h2 h4
    rw [e5, e6]
/-- Both sides of a solved equation are the same with all values in them. -/
theorem svd_ex {m : Hp} {t : List C} (h : Svd m t) : ∀ p q, Ex m (sd1 t) p → Ex m (sd2 t) q → p = q := by
  induction h with
  | same h1 h2 => exact fun p q hp hq => (ex_fol h1 hp).uniq (ex_fol h2 hq)
  | @part t a b h1 h2 ha hb h3 _ ih =>
    intro p q hp hq
    have pa := ex_fol h1 hp
    have qb := ex_fol h2 hq
    rcases stK_cases a b with ⟨e1, e2, e3, _⟩ | ⟨_, _, e4⟩ | ⟨_, e4⟩ | e4
    · have e5 := eqC_eq e1
      obtain ⟨ra, ea⟩ := hd_ne ha
      obtain ⟨rb, eb⟩ := hd_ne hb
      have e6 : (hdC b).k = 3 := by rw [← e5]; exact e2
      have hf : ∀ {l r o : List C}, rightB l = true → l = hdC l :: r → (hdC l).k = 3 → Ex m l o → ∃ o', o = hdC l :: o' ∧ Ex m (argsL l).flatten o' := fun {l r o} hr el hk he => by
        have h1 : 0 < l.length := (right_len hr).1
        have hh : headK l = 3 := by
          rw [el]
          exact hk
        have h4 := (argsL_spec l hr h1 hh).1
        have h5 : l.tail = r := by
          rw [el]
          rfl
        rw [h4, h5]
        have hc : IsFol m [hdC l] [hdC l] := ⟨.here _, struct_next (a := [hdC l]) hk⟩
        rw [el] at he
        generalize hdC l = c at *
        cases he with
        | one h6 k =>
          have := h6.uniq hc
          simp only [List.cons.injEq, and_true] at this
          subst this
          exact ⟨_, rfl, k⟩
        | more h6 hl hx k =>
          obtain rfl := h6.uniq hc
          exact absurd rfl hl
      obtain ⟨p', f1, f2⟩ := hf ha ea e2 pa
      obtain ⟨q', f3, f4⟩ := hf hb eb e6 qb
      have f5 := ex_parts _ _ p' q' (args_like ha hb e1 (by simpa using e2)) e3 (fun t ht u v hu hv => ih t ht u v hu hv) f2 f4
      rw [f1, f3, f5, e5]
    all_goals (rw [e4] at h3; cases h3)
/-- How a run ends. -/
theorem run_end : ∀ (g : Nat) (s : Sta), ((solF g s).out = 1 ∨ (solF g s).out = 2 ∧ (solF g s).bd = [] ∨ (solF g s).out = 3 ∧ (solF g s).left ≠ [] ∧ (solF g s).st = s.d + g) := by
  intro g
  induction g with
  | zero =>
    intro s
    cases hr : s.row with
    | nil =>
      rw [solF_none hr]
      exact .inl rfl
    | cons t r =>
      rw [solF_zero hr]
      exact .inr (.inr ⟨rfl, by simp, rfl⟩)
  | succ g ih =>
    intro s
    cases hr : s.row with
    | nil =>
      rw [solF_none hr]
      exact .inl rfl
    | cons t r =>
      by_cases hk : (nxK s t).k = 4
      · rw [solF_clash hr hk]
        exact .inr (.inl ⟨rfl, rfl⟩)
      · rw [solF_next hr hk]
        rcases ih (nxS s t r) with h | h | ⟨h1, h2, h3⟩
        · exact .inl h
        · exact .inr (.inl h)
        · refine .inr (.inr ⟨h1, h2, ?_⟩)
          rw [h3]
          show s.d + 1 + g = s.d + (g + 1)
          omega
end Go.Proofs.YtljggjllijacjaaGreatDoor
