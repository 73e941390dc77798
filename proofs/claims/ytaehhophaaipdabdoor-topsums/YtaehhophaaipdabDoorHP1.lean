/- Values of variables: the plain side. -/
import Derived.Test.YtaehhophaaipdabDoorV5

namespace Go.Proofs.YtaehhophaaipdabDoor
open Go.RowKit
/-- The order of names. -/
def lessN (a b : Nm) : Bool := decide (a.1 < b.1) || (a.1 == b.1 && decide (a.2 < b.2))
theorem lessN_irrefl (a : Nm) : lessN a a = false := by simp [lessN]
theorem lessN_trans {a b c : Nm} (h : lessN a b = true) (k : lessN b c = true) : lessN a c = true := by
  simp [lessN] at *
  omega
theorem lessN_total (a b : Nm) : lessN a b = true ∨ a = b ∨ lessN b a = true := by
  rcases Int.lt_trichotomy a.1 b.1 with h | h | h
  · left; simp [lessN, h]
  · rcases Int.lt_trichotomy a.2 b.2 with k | k | k
    · left; simp [lessN, h, k]
    · right; left; exact Prod.ext h k
    · right; right; simp [lessN, h, k]
  · right; right; simp [lessN, h]
/-- Variables with their values. -/
abbrev Hp := List (Nm × List C)
def lookH (m : Hp) (x : Nm) : Option (List C) := (m.find? fun p => p.1 == x).map (·.2)
/-- Is a term one variable? -/
def isVarL : List C → Bool
  | [c] => c.k == 4
  | _ => false
def varL : List C → Nm
  | c :: _ => (c.vn, c.vk)
  | [] => (0, 0)
def nextH (m : Hp) (l : List C) : Option (List C) := if isVarL l then lookH m (varL l) else none
/-- Links descend. -/
def DescH (m : Hp) : Prop := ∀ x l, lookH m x = some l → isVarL l = true → lessN (varL l) x = true
/-- What a term leads to by values. -/
inductive Fol (m : Hp) : List C → List C → Prop
  | here (l : List C) : Fol m l l
  | step {l l' l'' : List C} (h : nextH m l = some l') (r : Fol m l' l'') : Fol m l l''
theorem Fol.trans {m : Hp} {a b c : List C} (h : Fol m a b) (k : Fol m b c) : Fol m a c := by
  induction h with
  | here => exact k
  | step h _ ih => exact .step h (ih k)
theorem Fol.snoc {m : Hp} {a b c : List C} (h : Fol m a b) (k : nextH m b = some c) : Fol m a c := h.trans (.step k (.here _))
def IsFol (m : Hp) (l l' : List C) : Prop := Fol m l l' ∧ nextH m l' = none
theorem IsFol.uniq {m : Hp} {l a b : List C} (h : IsFol m l a) (k : IsFol m l b) : a = b := by
  obtain ⟨h1, h2⟩ := h
  obtain ⟨k1, k2⟩ := k
  induction h1 with
  | here l =>
    cases k1 with
    | here => rfl
    | step e _ => rw [h2] at e; cases e
  | step e _ ih =>
    cases k1 with
    | here => rw [k2] at e; cases e
    | step e' r' =>
      rw [e] at e'
      cases e'
      exact ih h2 r'
/-- How many values a variable may still lead through. -/
def rankH (m : Hp) (l : List C) : Nat := if isVarL l then (m.filter fun p => !lessN (varL l) p.1).length else 0
theorem look_mem {m : Hp} {x : Nm} {l : List C} (h : lookH m x = some l) : (x, l) ∈ m := by
  unfold lookH at h
  obtain ⟨p, hp, rfl⟩ := Option.map_eq_some_iff.1 h
  have h1 := List.find?_some hp
  have h2 := List.mem_of_find?_eq_some hp
  simp at h1
  subst h1
  exact h2
theorem filter_lt {α : Type} (p q : α → Bool) : ∀ (l : List α) (a : α), a ∈ l → q a = true → p a = false → (∀ x ∈ l, p x = true → q x = true) → (l.filter p).length < (l.filter q).length
  | [], a, h, _, _, _ => by simp at h
  | b :: r, a, h, hq, hp, hs => by
    have hle : ∀ r' : List α, (∀ x ∈ r', p x = true → q x = true) → (r'.filter p).length ≤ (r'.filter q).length := by
      intro r'
      induction r' with
      | nil => intro _; simp
      | cons x r' ih =>
        intro h'
        have i := ih (fun y hy => h' y (by simp [hy]))
        have j := h' x (by simp)
        simp only [List.filter_cons]
        cases hpx : p x
        · cases q x <;> simp <;> omega
        · simp [j hpx]; omega
    have hr := hle r (fun x hx => hs x (by simp [hx]))
    simp only [List.filter_cons]
    rcases List.mem_cons.1 h with rfl | h
    · simp [hq, hp]; omega
    · have := filter_lt p q r a h hq hp (fun x hx => hs x (by simp [hx]))
      have j := hs b (by simp)
      cases hpb : p b
      · cases q b <;> simp <;> omega
      · simp [j hpb]; omega
theorem rank_falls {m : Hp} (hD : DescH m) {l l' : List C} (h : nextH m l = some l') : rankH m l' < rankH m l := by
  unfold nextH at h
  split at h
  · next hv =>
    have hm := look_mem h
    have h0 : (!lessN (varL l) (varL l)) = true := by rw [lessN_irrefl]; rfl
    unfold rankH
    rw [if_pos hv]
    split
    · next hv' =>
      have hl := hD _ _ h hv'
      refine filter_lt _ _ m (varL l, l') hm h0 (by simp [hl]) (fun x _ hx => ?_)
      cases hc : lessN (varL l) x.1
      · rfl
      · rw [lessN_trans hl hc] at hx; cases hx
    · exact List.length_pos_of_mem (List.mem_filter.2 ⟨hm, h0⟩)
  · cases h
theorem rank_le (m : Hp) (l : List C) : rankH m l ≤ m.length := by
  unfold rankH
  split
  · exact List.length_filter_le _ _
  · omega
theorem fol_end {m : Hp} (hD : DescH m) : ∀ (n : Nat) (l : List C), rankH m l ≤ n → ∃ l', IsFol m l l'
  | 0, l, h => by
    cases hn : nextH m l with
    | none => exact ⟨l, .here l, hn⟩
    | some l' => have := rank_falls hD hn; omega
  | n + 1, l, h => by
    cases hn : nextH m l with
    | none => exact ⟨l, .here l, hn⟩
    | some l' =>
      have hr := rank_falls hD hn
      obtain ⟨l'', h1, h2⟩ := fol_end hD n l' (by omega)
      exact ⟨l'', .step hn h1, h2⟩
/-- Names rise. -/
def RisesH (m : Hp) : Prop := m.Pairwise fun p q => lessN p.1 q.1 = true
def insH (x : Nm) (l : List C) : Hp → Hp
  | [] => [(x, l)]
  | p :: r => if lessN x p.1 then (x, l) :: p :: r else p :: insH x l r
theorem look_ins (m : Hp) (x y : Nm) (l : List C) (h : lookH m x = none) : lookH (insH x l m) y = if x = y then some l else lookH m y := by
  induction m with
  | nil =>
    by_cases e : x = y
    · subst e; simp [insH, lookH]
    · have : (x == y) = false := by simpa using e
      simp [insH, lookH, e, this]
  | cons p r ih =>
    have hp : (p.1 == x) = false := by
      cases hc : (p.1 == x)
      · rfl
      · simp [lookH, hc] at h
    have hr : lookH r x = none := by
      unfold lookH at h ⊢
      rwa [List.find?_cons, hp] at h
    unfold insH
    split
    · by_cases e : x = y
      · subst e; simp [lookH]
      · have : (x == y) = false := by simpa using e
        simp [lookH, e, this]
    · have i := ih hr
      by_cases e : x = y
      · subst e
        rw [if_pos rfl] at i ⊢
        unfold lookH at i ⊢
        rw [List.find?_cons, hp]
        exact i
      · rw [if_neg e] at i ⊢
        unfold lookH at i ⊢
        rw [List.find?_cons, List.find?_cons]
        cases hc : (p.1 == y)
        · exact i
        · rfl
theorem desc_ins {m : Hp} {x : Nm} {l : List C} (hD : DescH m) (h : lookH m x = none) (hl : isVarL l = true → lessN (varL l) x = true) : DescH (insH x l m) := by
  intro y l' hy hv
  rw [look_ins m x y l h] at hy
  split at hy
  · next e =>
    cases hy
    rw [← e]
    exact hl hv
  · exact hD y l' hy hv
end Go.Proofs.YtaehhophaaipdabDoor
