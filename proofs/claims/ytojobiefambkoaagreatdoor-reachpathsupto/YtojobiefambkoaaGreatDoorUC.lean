/- Plain: paths told one after another are those told level by level. Rows of paths in memory beside the names that are known. -/
import Derived.Test.YtojobiefambkoaaGreatDoorFD
import Derived.Test.YtojobiefambkoaaGreatDoorFF
import Derived.Test.YtojobiefambkoaaGreatDoorUA
import Derived.Test.YtojobiefambkoaaGreatDoorXO
namespace Go.Proofs.YtojobiefambkoaaGreatDoor
open Go.RowKit
attribute [local go_sem ↓] Go.wp_at_zero Go.wp_at_succ
/-- Paths one after another: what is met, what waits, what is told. -/
inductive Qu (m : Hp) : List Nm → List (List Nm) → List (List Nm) → Prop
  | nil {met : List Nm} : Qu m met [] []
  | cons {met : List Nm} {c : List Nm} {q out : List (List Nm)} (h : Qu m (firstF met c (leadsH m (hd0 c))).1 (q ++ (firstF met c (leadsH m (hd0 c))).2) out) : Qu m met (c :: q) (c :: out)
theorem Qu.pre {m : Hp} {met : List Nm} {q out : List (List Nm)} (h : Qu m met q out) : ∃ t, out = q ++ t := by
  induction h with
  | nil => exact ⟨[], rfl⟩
  | cons _ ih =>
    obtain ⟨t, ht⟩ := ih
    exact ⟨_, by rw [ht, List.append_assoc, List.cons_append]⟩
/-- A level, one after another. -/
theorem qu_level {m : Hp} {met : List Nm} {out : List (List Nm)} : ∀ (rest done : List (List Nm)), Qu m (nextF m met (done ++ rest)).1 (nextF m met (done ++ rest)).2 out → Qu m (nextF m met done).1 (rest ++ (nextF m met done).2) (rest ++ out)
  | [], done, h => by simpa using h
  | c :: rest, done, h => by
    have h1 := qu_level rest (done ++ [c]) (by simpa using h)
    rw [nextF_snoc] at h1
    unfold nextS at h1
    rw [← List.append_assoc] at h1
    exact .cons h1
theorem qu_bfs {m : Hp} {rs : List Nm} : ∀ (f : Nat) (pre : List (List Nm)) (met : List Nm) (lv : List (List Nm)), Lvl m rs pre met lv → (univ m rs).length + 1 ≤ pre.length + f → Qu m met lv (bfsF m f met lv) := by
  intro f
  induction f with
  | zero =>
    intro pre met lv h hf
    have := h.len.1
    omega
  | succ f ih =>
    intro pre met lv h hf
    unfold bfsF
    by_cases hl : lv = []
    · subst hl
      exact .nil
    · rw [if_neg hl]
      have := List.length_pos_iff.2 hl
      have h1 := ih (pre ++ lv) _ _ (lvl_next h) (by rw [List.length_append]; omega)
      have h2 := qu_level (met := met) lv [] (by simpa using h1)
      simpa [nextF] using h2
theorem qu_all (m : Hp) (x : Nm) : Qu m [x] [[x]] (allC m [x]) := qu_bfs ((univ m [x]).length + 1) [] _ _ (lvl_first m [x]) (by simp)
theorem find_app {α : Type} (p : α → Bool) (a b : List α) (h : ∀ x ∈ a, p x = false) : (a ++ b).find? p = b.find? p := by
  rw [List.find?_append]
  have : a.find? p = none := List.find?_eq_none.2 fun x hx => by rw [h x hx]; simp
  rw [this]
  rfl
/-- How far the document's Path is: A was looked at, the next is to be looked at. -/
structure PaI (m : Hp) (x y : Nm) (A Q : List (List Nm)) (known : List Nm) : Prop where
  qu : ∃ out, Qu m known Q out ∧ allC m [x] = A ++ out
  no : ∀ c ∈ A, eqN (hd0 c) y = false
  kn : known.length = A.length + Q.length
theorem PaI.start (m : Hp) (x y : Nm) : PaI m x y [] [[x]] [x] := ⟨⟨_, qu_all m x, rfl⟩, fun c hc => by simp at hc, rfl⟩
theorem PaI.hit {m : Hp} {x y : Nm} {A Q : List (List Nm)} {known c : List Nm} (h : PaI m x y A (c :: Q) known) (hy : eqN (hd0 c) y = true) : pathF m x y = some c := by
  obtain ⟨out, h1, h2⟩ := h.qu
  obtain ⟨t, ht⟩ := h1.pre
  unfold pathF
  rw [h2, find_app _ _ _ h.no, ht, List.cons_append, List.find?_cons, hy]
theorem PaI.next {m : Hp} {x y : Nm} {A Q : List (List Nm)} {known c : List Nm} (h : PaI m x y A (c :: Q) known) (hy : eqN (hd0 c) y = false) : PaI m x y (A ++ [c]) (Q ++ (firstF known c (leadsH m (hd0 c))).2) (firstF known c (leadsH m (hd0 c))).1 := by
  obtain ⟨out, h1, h2⟩ := h.qu
  cases h1 with
  | cons h3 =>
    refine ⟨⟨_, h3, by rw [h2]; simp⟩, fun d hd => ?_, ?_⟩
    · rcases List.mem_append.1 hd with hd | hd
      · exact h.no d hd
      · rw [List.mem_singleton.1 hd]; exact hy
    · have h4 := h.kn
      rw [(fst_of known c (leadsH m (hd0 c))).mt]
      simp only [List.length_append, List.length_map, List.length_cons, List.length_nil] at h4 ⊢
      omega
theorem PaI.done {m : Hp} {x y : Nm} {A : List (List Nm)} {known : List Nm} (h : PaI m x y A [] known) : pathF m x y = none := by
  obtain ⟨out, h1, h2⟩ := h.qu
  cases h1
  unfold pathF
  rw [h2, List.append_nil]
  exact List.find?_eq_none.2 fun c hc => by rw [h.no c hc]; simp
theorem PaI.len {m : Hp} {x y : Nm} {A Q : List (List Nm)} {known : List Nm} (h : PaI m x y A Q known) : A.length + Q.length ≤ (univ m [x]).length ∧ ∀ c ∈ Q, c ≠ [] ∧ c.length ≤ (univ m [x]).length + 1 := by
  obtain ⟨out, h1, h2⟩ := h.qu
  obtain ⟨t, ht⟩ := h1.pre
  have h3 := allC_len m [x]
  have h4 : (allC m [x]).length = A.length + (Q.length + t.length) := by rw [h2, ht]; simp
  refine ⟨by omega, fun c hc => ?_⟩
  have hm : c ∈ allC m [x] := by rw [h2, ht]; simp [hc]
  refine ⟨fun e => ?_, allC_cl m [x] c hm⟩
  have := allC_chn m [x] c hm
  rw [e] at this
  cases this
/-- Rows of names in a row, each in memory of its own, apart from the row of names that grows. -/
structure Pq (W : World) (B : Nat) (kv rv : Value) (known : List Nm) (cs : List (List Nm)) : Prop where
  kn : OwnN W B kv known
  rw : ∃ us, W.ownsRow B 23 1 rv cs.length us ∧ ∀ (j : Nat) (u : Value) (c : List Nm), us[j]? = some u → cs[j]? = some c → OwnN W B u c.reverse ∧ ∀ g, u.ownBlock = some g → kv.ownBlock ≠ some g
section
variable {W W' : World} {B : Nat} {kv rv : Value} {known : List Nm} {cs : List (List Nm)}
theorem Pq.below (h : Pq W B kv rv known cs) (hb : Below W.heap.size W W') : Pq W' B kv rv known cs := by
  obtain ⟨us, h1, h2⟩ := h.rw
  refine ⟨owns_below h.kn hb, us, owns_below' h1 hb, fun j u c hu hc => ?_⟩
  obtain ⟨h3, h4⟩ := h2 j u c hu hc
  exact ⟨owns_below h3 hb, h4⟩
/-- A name that is known now. -/
theorem Pq.know {kv' : Value} {x : Nm} (h : Pq W B kv rv known cs) (ho : W'.ownsRow B 49 2 kv' (known.length + 1) (flatN (known ++ [x]))) (hg : W.grownBy W' kv.ownBlock) (hl : kv'.ownBlock = kv.ownBlock ∨ kv'.ownBlock = some W.heap.size) : Pq W' B kv' rv (known ++ [x]) cs := by
  obtain ⟨us, h1, h2⟩ := h.rw
  refine ⟨?_, us, Bk.owns_eq h1 fun g hr => ?_, fun j u c hu hc => ?_⟩
  · show World.ownsRow _ _ _ _ _ _ _
    rw [List.length_append]
    exact ho
  · refine hg.block g (h1.lt g hr).2 fun e => ?_
    obtain ⟨cu, fr, e1⟩ := Bk.owns_typed h1 g hr
    obtain ⟨cu', fr', e2⟩ := Bk.owns_typed h.kn g e.symm
    rw [e1] at e2
    simp at e2
  · obtain ⟨h3, h4⟩ := h2 j u c hu hc
    refine ⟨Bk.owns_eq h3 fun g hr => hg.block g (h3.lt g hr).2 fun e => h4 g hr e.symm, fun g hr e => ?_⟩
    rcases hl with hl | hl
    · rw [hl] at e
      exact h4 g hr e
    · rw [hl] at e
      have := (h3.lt g hr).2
      simp at e
      omega
/-- Blocks between two worlds stay. -/
def Km (wq w3 wr : World) : Prop := w3.heap.size ≤ wr.heap.size ∧ ∀ g, wq.heap.size ≤ g → g < w3.heap.size → wr.heap[g]? = w3.heap[g]?
def Kb (wq w3 : World) (v : Value) : Prop := ∀ g, v.ownBlock = some g → g < wq.heap.size ∨ w3.heap.size ≤ g
theorem Km.below {wq w3 wr w' : World} (h : Km wq w3 wr) (hb : Below wr.heap.size wr w') : Km wq w3 w' := ⟨Nat.le_trans h.1 hb.size, fun g h1 h2 => (hb.block g (Nat.lt_of_lt_of_le h2 h.1)).trans (h.2 g h1 h2)⟩
theorem Km.grown {wq w3 wr w' : World} {v : Value} (h : Km wq w3 wr) (hv : Kb wq w3 v) (hg : wr.grownBy w' v.ownBlock) : Km wq w3 w' :=
  ⟨Nat.le_trans h.1 hg.size, fun g h1 h2 => (hg.block g (Nat.lt_of_lt_of_le h2 h.1) fun e => by have := hv g e.symm; omega).trans (h.2 g h1 h2)⟩
theorem Kb.grown {wq w3 wr : World} {v v' : Value} (h : Kb wq w3 v) (hm : Km wq w3 wr) (hl : v'.ownBlock = v.ownBlock ∨ v'.ownBlock = some wr.heap.size) : Kb wq w3 v' := fun g hg => by
  rcases hl with hl | hl
  · exact h g (by rw [← hl]; exact hg)
  · rw [hl] at hg
    cases hg
    exact .inr hm.1
theorem Km.own {wq w3 wr : World} {v : Value} {xs : List Nm} (h : Km wq w3 wr) (ho : OwnN w3 wq.heap.size v xs) : OwnN wr wq.heap.size v xs := Bk.owns_eq ho fun g hg => h.2 g (ho.lt g hg).1 (ho.lt g hg).2
/-- A path more: its names lie in memory that was laid last. -/
theorem Pq.more {W0 : World} {rv' u : Value} {c : List Nm} (h : Pq W0 B kv rv known cs) (hb : Below W0.heap.size W0 W) (us : List Value) (hus : W0.ownsRow B 23 1 rv cs.length us) (hel : ∀ (j : Nat) (u : Value) (c : List Nm), us[j]? = some u → cs[j]? = some c → OwnN W0 B u c.reverse ∧ ∀ g, u.ownBlock = some g → kv.ownBlock ≠ some g)
    (hu : OwnN W B u c.reverse) (hlo : ∀ g, u.ownBlock = some g → W0.heap.size ≤ g) (ho : W'.ownsRow B 23 1 rv' (cs.length + 1) (us ++ [u])) (hg : W.grownBy W' rv.ownBlock) : Pq W' B kv rv' known (cs ++ [c]) := by
  have husW : W.ownsRow B 23 1 rv cs.length us := owns_below' hus hb
  have hfar : ∀ {v : Value} {xs : List Nm}, OwnN W B v xs → OwnN W' B v xs := fun {v xs} h3 => Bk.owns_eq h3 fun g hr => hg.block g (h3.lt g hr).2 fun e => by
    obtain ⟨cu, fr, e1⟩ := Bk.owns_typed husW g e.symm
    obtain ⟨cu', fr', e2⟩ := Bk.owns_typed h3 g hr
    rw [e1] at e2
    simp at e2
  have hl : us.length = cs.length := by have := hus.1; omega
  refine ⟨hfar (owns_below h.kn hb), us ++ [u], by rw [List.length_append]; exact ho, fun j v d hv hd => ?_⟩
  by_cases hj : j < cs.length
  · rw [List.getElem?_append_left (by omega)] at hv
    rw [List.getElem?_append_left hj] at hd
    obtain ⟨h3, h4⟩ := hel j v d hv hd
    exact ⟨hfar (owns_below h3 hb), h4⟩
  · rw [List.getElem?_append_right (by omega)] at hv hd
    have h0 : j - cs.length = 0 := by
      have := (List.getElem?_eq_some_iff.1 hd).1
      simp at this; omega
    rw [hl, h0] at hv
    rw [h0] at hd
    simp at hv hd
    subst hv hd
    refine ⟨hfar hu, fun g hg e => ?_⟩
    have h5 := hlo g hg
    have h6 := (h.kn.lt g e).2
    omega
theorem ownN_len {a : Option Addr} {n c : Nat} {xs : List Nm} (h : OwnN W B (.slice a n c) xs) : xs.length = n := by
  obtain ⟨a', c', e⟩ := owns_form h
  simp only [Value.slice.injEq] at e
  exact e.2.1.symm
theorem Kb.of {wq w3 : World} {e : TypeId} {s n : Nat} {v : Value} {xs : List Value} (h : wq.ownsRow B e s v n xs) : Kb wq w3 v := fun g hg => .inl (h.lt g hg).2
end
end Go.Proofs.YtojobiefambkoaaGreatDoor
