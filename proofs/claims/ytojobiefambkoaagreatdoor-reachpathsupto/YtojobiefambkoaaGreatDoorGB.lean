/- Variables that are reached by values, level by level: plain lists of paths, each with its end first. -/
import Derived.Test.YtojobiefambkoaaGreatDoorJA
namespace Go.Proofs.YtojobiefambkoaaGreatDoor
open Go.RowKit
theorem snoc_ind {α : Type} {p : List α → Prop} (h0 : p []) (h1 : ∀ l a, p l → p (l ++ [a])) (l : List α) : p l := by
  have h : ∀ l : List α, p l.reverse := by
    intro l
    induction l with
    | nil => exact h0
    | cons a l ih => rw [List.reverse_cons]; exact h1 _ _ ih
  simpa using h l.reverse
/-- The variables of a variable's value, each once, as they come. -/
def leadsH (m : Hp) (v : Nm) : List Nm := nubN (varsOf ((lookH m v).getD []))
/-- What is reached from some variables. -/
inductive Rch (m : Hp) (rs : List Nm) : Nm → Prop
  | root {x : Nm} (h : x ∈ rs) : Rch m rs x
  | step {x y : Nm} (h : Rch m rs x) (k : y ∈ leadsH m x) : Rch m rs y
/-- A path, its end first. -/
inductive Chn (m : Hp) (rs : List Nm) : List Nm → Prop
  | one {x : Nm} (h : x ∈ rs) : Chn m rs [x]
  | more {x y : Nm} {r : List Nm} (h : Chn m rs (x :: r)) (k : y ∈ leadsH m x) : Chn m rs (y :: x :: r)
def hd0 (c : List Nm) : Nm := c.headD (0, 0)
theorem Chn.rch {m : Hp} {rs c : List Nm} (h : Chn m rs c) : Rch m rs (hd0 c) := by
  induction h with
  | one h => exact .root h
  | more _ k ih => exact .step ih k
def firstS (r : List Nm) (s : List Nm × List (List Nm)) (v : Nm) : List Nm × List (List Nm) := if hasN s.1 v then s else (s.1 ++ [v], s.2 ++ [v :: r])
/-- Those of l that are met for the first time, behind the path r: all that are met then, and the new paths. -/
def firstF (met r l : List Nm) : List Nm × List (List Nm) := l.foldl (firstS r) (met, [])
theorem firstF_snoc (met r l : List Nm) (v : Nm) : firstF met r (l ++ [v]) = firstS r (firstF met r l) v := by simp [firstF]
def nextS (m : Hp) (s : List Nm × List (List Nm)) (c : List Nm) : List Nm × List (List Nm) := ((firstF s.1 c (leadsH m (hd0 c))).1, s.2 ++ (firstF s.1 c (leadsH m (hd0 c))).2)
/-- The level behind one. -/
def nextF (m : Hp) (met : List Nm) (lv : List (List Nm)) : List Nm × List (List Nm) := lv.foldl (nextS m) (met, [])
theorem nextF_snoc (m : Hp) (met : List Nm) (lv : List (List Nm)) (c : List Nm) : nextF m met (lv ++ [c]) = nextS m (nextF m met lv) c := by simp [nextF]
/-- What first does. -/
structure Fst (met r l : List Nm) (t : List Nm × List (List Nm)) : Prop where
  mt : t.1 = met ++ t.2.map hd0
  new : ∀ c ∈ t.2, ∃ v, c = v :: r ∧ v ∈ l
  all : ∀ v ∈ l, v ∈ t.1
  nod : met.Nodup → t.1.Nodup
theorem fst_of (met r : List Nm) : ∀ l, Fst met r l (firstF met r l) := by
  intro l
  refine snoc_ind (p := fun l => Fst met r l (firstF met r l)) ?_ ?_ l
  · exact ⟨by simp [firstF], by simp [firstF], by simp, fun h => h⟩
  · clear l
    intro l v ih
    rw [firstF_snoc]
    unfold firstS
    cases hh : hasN (firstF met r l).1 v
    · refine ⟨?_, ?_, ?_, ?_⟩
      · simp only [Bool.false_eq_true, if_false, List.map_append, List.map_cons, List.map_nil]
        show (firstF met r l).1 ++ [v] = _
        rw [ih.mt, List.append_assoc]
        rfl
      · intro c hc
        simp only [Bool.false_eq_true, if_false, List.mem_append, List.mem_singleton] at hc
        rcases hc with hc | rfl
        · obtain ⟨v', h1, h2⟩ := ih.new c hc
          exact ⟨v', h1, by simp [h2]⟩
        · exact ⟨v, rfl, by simp⟩
      · intro x hx
        simp only [Bool.false_eq_true, if_false, List.mem_append, List.mem_singleton] at hx ⊢
        rcases hx with hx | rfl
        · exact .inl (ih.all x hx)
        · exact .inr rfl
      · intro hn
        simp only [Bool.false_eq_true, if_false]
        rw [List.nodup_append]
        refine ⟨ih.nod hn, by simp, fun a ha b hb => ?_⟩
        simp only [List.mem_singleton] at hb
        subst hb
        intro e
        subst e
        have := (hasN_iff _ _).2 ha
        rw [hh] at this
        cases this
    · simp only [if_true]
      refine ⟨ih.mt, fun c hc => ?_, fun x hx => ?_, ih.nod⟩
      · obtain ⟨v', h1, h2⟩ := ih.new c hc
        exact ⟨v', h1, by simp [h2]⟩
      · simp only [List.mem_append, List.mem_singleton] at hx
        rcases hx with hx | rfl
        · exact ih.all x hx
        · exact (hasN_iff _ _).1 hh
/-- What next does. -/
structure Nxt (m : Hp) (met : List Nm) (lv : List (List Nm)) (t : List Nm × List (List Nm)) : Prop where
  mt : t.1 = met ++ t.2.map hd0
  new : ∀ c ∈ t.2, ∃ v r, c = v :: r ∧ r ∈ lv ∧ v ∈ leadsH m (hd0 r)
  all : ∀ c ∈ lv, ∀ v ∈ leadsH m (hd0 c), v ∈ t.1
  nod : met.Nodup → t.1.Nodup
theorem nxt_of (m : Hp) (met : List Nm) : ∀ lv, Nxt m met lv (nextF m met lv) := by
  intro lv
  refine snoc_ind (p := fun lv => Nxt m met lv (nextF m met lv)) ?_ ?_ lv
  · exact ⟨by simp [nextF], by simp [nextF], by simp, fun h => h⟩
  · clear lv
    intro lv c ih
    rw [nextF_snoc]
    have hF := fst_of (nextF m met lv).1 c (leadsH m (hd0 c))
    unfold nextS
    refine ⟨?_, ?_, ?_, fun hn => hF.nod (ih.nod hn)⟩
    · show (firstF (nextF m met lv).1 c (leadsH m (hd0 c))).1 = _
      rw [hF.mt, List.map_append, ← List.append_assoc, ← ih.mt]
    · intro d hd
      simp only [List.mem_append] at hd
      rcases hd with hd | hd
      · obtain ⟨v, r, h1, h2, h3⟩ := ih.new d hd
        exact ⟨v, r, h1, by simp [h2], h3⟩
      · obtain ⟨v, h1, h2⟩ := hF.new d hd
        exact ⟨v, c, h1, by simp, h2⟩
    · intro d hd v hv
      simp only [List.mem_append, List.mem_singleton] at hd
      show v ∈ (firstF (nextF m met lv).1 c (leadsH m (hd0 c))).1
      rcases hd with hd | rfl
      · rw [hF.mt]
        exact List.mem_append_left _ (ih.all d hd v hv)
      · exact hF.all v hv
/-- All paths, level by level. -/
def bfsF (m : Hp) : Nat → List Nm → List (List Nm) → List (List Nm)
  | 0, _, _ => []
  | f + 1, met, lv => if lv = [] then [] else lv ++ bfsF m f (nextF m met lv).1 (nextF m met lv).2
/-- Ahead of a level: what was told, what is met, the level itself. -/
structure Lvl (m : Hp) (rs : List Nm) (pre : List (List Nm)) (met : List Nm) (lv : List (List Nm)) : Prop where
  mt : met = (pre ++ lv).map hd0
  nod : met.Nodup
  chn : ∀ c ∈ pre ++ lv, Chn m rs c
  all : ∀ c ∈ pre, ∀ v ∈ leadsH m (hd0 c), v ∈ met
  rts : ∀ x ∈ rs, x ∈ met
  cl : ∀ c ∈ pre ++ lv, c.length ≤ pre.length + 1
theorem lvl_first (m : Hp) (rs : List Nm) : Lvl m rs [] (firstF [] [] rs).1 (firstF [] [] rs).2 := by
  have h := fst_of [] [] rs
  refine ⟨by rw [List.nil_append]; simpa using h.mt, h.nod List.nodup_nil, fun c hc => ?_, by simp, h.all, fun c hc => ?_⟩
  · obtain ⟨v, rfl, hv⟩ := h.new c (by simpa using hc)
    exact .one hv
  · obtain ⟨v, rfl, _⟩ := h.new c (by simpa using hc)
    simp
theorem lvl_next {m : Hp} {rs : List Nm} {pre : List (List Nm)} {met : List Nm} {lv : List (List Nm)} (h : Lvl m rs pre met lv) : Lvl m rs (pre ++ lv) (nextF m met lv).1 (nextF m met lv).2 := by
  have n := nxt_of m met lv
  refine ⟨?_, n.nod h.nod, fun c hc => ?_, fun c hc v hv => ?_, fun x hx => ?_, fun c hc => ?_⟩
  · rw [n.mt, List.map_append, ← h.mt]
  · rcases List.mem_append.1 hc with hc | hc
    · exact h.chn c hc
    · obtain ⟨v, r, rfl, hr, hv⟩ := n.new c hc
      have hcr := h.chn r (List.mem_append_right _ hr)
      cases hcr with
      | one k => exact .more (.one k) hv
      | more k1 k2 => exact .more (.more k1 k2) hv
  · rcases List.mem_append.1 hc with hc | hc
    · rw [n.mt]; exact List.mem_append_left _ (h.all c hc v hv)
    · exact n.all c hc v hv
  · rw [n.mt]; exact List.mem_append_left _ (h.rts x hx)
  · rw [List.length_append]
    rcases List.mem_append.1 hc with hc | hc
    · have := h.cl c hc
      omega
    · obtain ⟨v, r, rfl, hr, _⟩ := n.new c hc
      have h1 := h.cl r (List.mem_append_right _ hr)
      have h2 := List.length_pos_of_mem hr
      simp
      omega
/-- At the end: just what is reached was met. -/
theorem lvl_end {m : Hp} {rs : List Nm} {pre : List (List Nm)} {met : List Nm} (h : Lvl m rs pre met []) (x : Nm) : x ∈ pre.map hd0 ↔ Rch m rs x := by
  have hm : met = pre.map hd0 := by simpa using h.mt
  rw [← hm]
  constructor
  · intro hx
    rw [hm] at hx
    obtain ⟨c, hc, rfl⟩ := List.mem_map.1 hx
    exact (h.chn c (by simpa using hc)).rch
  · intro hx
    induction hx with
    | root k => exact h.rts _ k
    | step _ k ih =>
      rw [hm] at ih
      obtain ⟨c, hc, rfl⟩ := List.mem_map.1 ih
      exact h.all c hc _ k
/-- All names that there are. -/
def univ (m : Hp) (rs : List Nm) : List Nm := rs ++ m.flatMap fun p => varsOf p.2
theorem leads_univ {m : Hp} {rs : List Nm} {x y : Nm} (h : y ∈ leadsH m x) : y ∈ univ m rs := by
  have h1 := nubN_mem _ _ h
  cases hl : lookH m x with
  | none => rw [hl] at h1; simp [varsOf] at h1
  | some l =>
    rw [hl] at h1
    exact List.mem_append_right _ (List.mem_flatMap.2 ⟨(x, l), look_mem hl, h1⟩)
theorem rch_univ {m : Hp} {rs : List Nm} {x : Nm} (h : Rch m rs x) : x ∈ univ m rs := by
  cases h with
  | root k => exact List.mem_append_left _ k
  | step _ k => exact leads_univ k
theorem nodup_le {l u : List Nm} (hn : l.Nodup) (h : ∀ x ∈ l, x ∈ u) : l.length ≤ u.length := by
  induction l generalizing u with
  | nil => simp
  | cons x l ih =>
    have hx := h x (by simp)
    rw [List.nodup_cons] at hn
    have := ih (u := u.erase x) hn.2 fun y hy => by
      have hne : y ≠ x := fun e => hn.1 (e ▸ hy)
      exact (List.mem_erase_of_ne hne).2 (h y (by simp [hy]))
    rw [List.length_erase_of_mem hx] at this
    have hpos := List.length_pos_of_mem hx
    simp
    omega
theorem Lvl.len {m : Hp} {rs : List Nm} {pre : List (List Nm)} {met : List Nm} {lv : List (List Nm)} (h : Lvl m rs pre met lv) : pre.length + lv.length ≤ (univ m rs).length ∧ met.length = pre.length + lv.length := by
  have e : met.length = pre.length + lv.length := by rw [h.mt]; simp
  refine ⟨?_, e⟩
  rw [← e]
  refine nodup_le h.nod fun x hx => ?_
  rw [h.mt] at hx
  obtain ⟨c, hc, rfl⟩ := List.mem_map.1 hx
  exact rch_univ (h.chn c hc).rch
theorem bfs_lvl {m : Hp} {rs : List Nm} : ∀ (f : Nat) (pre : List (List Nm)) (met : List Nm) (lv : List (List Nm)), Lvl m rs pre met lv → (univ m rs).length + 1 ≤ pre.length + f → ∃ met', Lvl m rs (pre ++ bfsF m f met lv) met' [] := by
  intro f
  induction f with
  | zero =>
    intro pre met lv h hf
    have := h.len.1
    omega
  | succ f ih =>
    intro pre met lv h hf
    unfold bfsF
    by_cases hl : lv = []
    · subst hl
      exact ⟨met, by simpa using h⟩
    · rw [if_neg hl, ← List.append_assoc]
      have := List.length_pos_iff.2 hl
      exact ih _ _ _ (lvl_next h) (by rw [List.length_append]; omega)
/-- All paths from some roots, as they are told. -/
def allC (m : Hp) (rs : List Nm) : List (List Nm) := bfsF m ((univ m rs).length + 1) (firstF [] [] rs).1 (firstF [] [] rs).2
theorem allC_lvl (m : Hp) (rs : List Nm) : ∃ met, Lvl m rs (allC m rs) met [] := by
  have h := bfs_lvl ((univ m rs).length + 1) [] _ _ (lvl_first m rs) (by simp)
  simpa [allC] using h
theorem allC_len (m : Hp) (rs : List Nm) : (allC m rs).length ≤ (univ m rs).length := by
  obtain ⟨met, h⟩ := allC_lvl m rs
  have := h.len.1
  simpa using this
theorem allC_mem (m : Hp) (rs : List Nm) (x : Nm) : x ∈ (allC m rs).map hd0 ↔ Rch m rs x := by
  obtain ⟨met, h⟩ := allC_lvl m rs
  exact lvl_end h x
theorem allC_nod (m : Hp) (rs : List Nm) : ((allC m rs).map hd0).Nodup := by
  obtain ⟨met, h⟩ := allC_lvl m rs
  have := h.mt
  rw [List.append_nil] at this
  rw [← this]
  exact h.nod
theorem allC_cl (m : Hp) (rs c : List Nm) (hc : c ∈ allC m rs) : c.length ≤ (univ m rs).length + 1 := by
  obtain ⟨met, h⟩ := allC_lvl m rs
  have h1 := h.cl c (by simpa using hc)
  have h2 := allC_len m rs
  omega
theorem allC_chn (m : Hp) (rs c : List Nm) (hc : c ∈ allC m rs) : Chn m rs c := by
  obtain ⟨met, h⟩ := allC_lvl m rs
  exact h.chn c (by simpa using hc)
end Go.Proofs.YtojobiefambkoaaGreatDoor
