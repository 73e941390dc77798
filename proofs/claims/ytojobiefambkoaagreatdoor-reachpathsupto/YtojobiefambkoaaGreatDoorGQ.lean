/- Plain: what is reached from more, by more values, without values that are not reached; maps out of bindings; what is resolved by the values that are reached. -/
import Derived.Test.YtojobiefambkoaaGreatDoorGN
import Derived.Test.YtojobiefambkoaaGreatDoorFE
import Derived.Test.YtojobiefambkoaaGreatDoorXC
import Derived.Test.YtojobiefambkoaaGreatDoorJC
namespace Go.Proofs.YtojobiefambkoaaGreatDoor
open Go.RowKit
/-- The second map says what the first one says. -/
def SubH (m m' : Hp) : Prop := ∀ y l, lookH m y = some l → lookH m' y = some l
theorem Rch.mono {m : Hp} {rs rs' : List Nm} {x : Nm} (h : Rch m rs x) (hr : ∀ y ∈ rs, y ∈ rs') : Rch m rs' x := by
  induction h with
  | root h => exact .root (hr _ h)
  | step _ k ih => exact .step ih k
theorem Rch.trans {m : Hp} {rs xs : List Nm} {x : Nm} (h : Rch m xs x) (hr : ∀ y ∈ xs, Rch m rs y) : Rch m rs x := by
  induction h with
  | root h => exact hr _ h
  | step _ k ih => exact .step ih k
theorem leads_none {m : Hp} {x y : Nm} (h : y ∈ leadsH m x) : ∃ l, lookH m x = some l := by
  cases hl : lookH m x with
  | none => unfold leadsH at h; rw [hl] at h; simp [varsOf, nubN] at h
  | some l => exact ⟨l, rfl⟩
theorem leads_same {m m' : Hp} {x : Nm} (h : lookH m' x = lookH m x) : leadsH m' x = leadsH m x := by unfold leadsH; rw [h]
theorem Rch.more {m m' : Hp} (hs : SubH m m') {rs : List Nm} {x : Nm} (h : Rch m rs x) : Rch m' rs x := by
  induction h with
  | root h => exact .root h
  | step _ k ih =>
    obtain ⟨l, hl⟩ := leads_none k
    exact .step ih (by rw [leads_same ((hs _ _ hl).trans hl.symm)]; exact k)
/-- The maps tell the same of all that is reached. -/
theorem Rch.same {m m' : Hp} {rs : List Nm} (hs : ∀ x, Rch m rs x → lookH m' x = lookH m x) {x : Nm} : Rch m' rs x ↔ Rch m rs x := by
  constructor
  · intro h
    induction h with
    | root h => exact .root h
    | step _ k ih => exact .step ih (by rw [leads_same (hs _ ih)] at k; exact k)
  · intro h
    induction h with
    | root h => exact .root h
    | step h k ih => exact .step ih (by rw [leads_same (hs _ h)]; exact k)
theorem rch_one {m : Hp} {rs : List Nm} {x : Nm} : Rch m rs x ↔ ∃ r ∈ rs, Rch m [r] x := by
  constructor
  · intro h
    induction h with
    | @root x h => exact ⟨x, h, .root (by simp)⟩
    | step _ k ih =>
      obtain ⟨r, h1, h2⟩ := ih
      exact ⟨r, h1, .step h2 k⟩
  · rintro ⟨r, h1, h2⟩
    exact h2.mono fun y hy => by rw [List.mem_singleton.1 hy]; exact h1
theorem upn_idem {m : Hp} {rs xs ys : List Nm} (h : UpN (Rch m rs) xs) (k : UpN (Rch m xs) ys) : ys = xs := by
  refine k.like (⟨fun x => ⟨fun hx => .root hx, fun hx => (h.all x).2 (hx.trans fun y hy => (h.all y).1 hy)⟩, h.up⟩ : UpN (Rch m xs) xs)
theorem upn_same {m m' : Hp} {rs xs ys : List Nm} (hs : ∀ x, Rch m rs x → lookH m' x = lookH m x) (h : UpN (Rch m rs) xs) (k : UpN (Rch m' rs) ys) : ys = xs :=
  k.like ⟨fun x => (h.all x).trans (Rch.same hs).symm, h.up⟩
theorem all_has {xs ys : List Nm} (h : ∀ x ∈ xs, x ∈ ys) : xs.all (hasN ys) = true := by
  rw [List.all_eq_true]
  exact fun x hx => (hasN_iff _ _).2 (h x hx)
/-- The names with values that do not stand in a row. -/
def garbF (m : Hp) (xs : List Nm) : List Nm := (m.filter fun p => !hasN xs p.1).map (·.1)
theorem garb_mem {m : Hp} {xs : List Nm} {x : Nm} : x ∈ garbF m xs ↔ x ∉ xs ∧ ∃ l, (x, l) ∈ m := by
  unfold garbF
  rw [List.mem_map]
  constructor
  · rintro ⟨⟨y, l⟩, h, rfl⟩
    rw [List.mem_filter] at h
    refine ⟨fun h2 => ?_, l, h.1⟩
    have := h.2
    rw [(hasN_iff _ _).2 h2] at this
    cases this
  · rintro ⟨h1, l, h2⟩
    refine ⟨(x, l), ?_, rfl⟩
    rw [List.mem_filter]
    refine ⟨h2, ?_⟩
    cases hh : hasN xs x
    · rfl
    · exact absurd ((hasN_iff _ _).1 hh) h1
theorem look_some_mem {m : Hp} {x : Nm} {l : List C} (h : (x, l) ∈ m) : ∃ l', lookH m x = some l' := by
  unfold lookH
  cases hf : m.find? fun p => p.1 == x with
  | none =>
    have := List.find?_eq_none.1 hf _ h
    simp at this
  | some p => exact ⟨p.2, rfl⟩
theorem garb_drop (m : Hp) (xs : List Nm) : dropH m (garbF m xs) = m.filter fun p => hasN xs p.1 := by
  rw [dropH_eq]
  apply List.filter_congr
  rintro ⟨x, l⟩ hp
  have h := garb_mem (m := m) (xs := xs) (x := x)
  cases hh : hasN xs x
  · have : x ∈ garbF m xs := h.2 ⟨fun h2 => (by rw [(hasN_iff _ _).2 h2] at hh; cases hh), l, hp⟩
    rw [(hasN_iff _ _).2 this]
    rfl
  · have : hasN (garbF m xs) x = false := by
      cases h3 : hasN (garbF m xs) x
      · rfl
      · exact absurd ((hasN_iff _ _).1 hh) (h.1 ((hasN_iff _ _).1 h3)).1
    rw [this]
    rfl
theorem garb_look {m : Hp} {xs : List Nm} {x : Nm} (h : x ∈ xs) : lookH (dropH m (garbF m xs)) x = lookH m x := by
  rw [garb_drop]
  exact look_filter ((hasN_iff _ _).2 h)
theorem garb_look_no {m : Hp} {xs : List Nm} {x : Nm} (h : x ∉ xs) : lookH (dropH m (garbF m xs)) x = none := by
  rw [garb_drop]
  refine look_filter_no ?_
  cases hh : hasN xs x
  · rfl
  · exact absurd ((hasN_iff _ _).1 hh) h
theorem garb_sub {m : Hp} {xs : List Nm} : SubH (dropH m (garbF m xs)) m := by
  intro y l hl
  by_cases h : y ∈ xs
  · rw [garb_look h] at hl
    exact hl
  · rw [garb_look_no h] at hl
    cases hl
theorem garb_rises {m : Hp} {xs : List Nm} (h : RisesH m) : RisesH (dropH m (garbF m xs)) := by
  rw [garb_drop]
  exact List.Pairwise.filter _ h
theorem garb_len {m : Hp} {xs : List Nm} : (dropH m (garbF m xs)).length ≤ m.length := by
  rw [garb_drop]
  exact List.length_filter_le _ _
theorem garb_in {m : Hp} {xs : List Nm} {x : Nm} {l : List C} (h : (x, l) ∈ dropH m (garbF m xs)) : x ∈ xs := by
  rw [garb_drop, List.mem_filter] at h
  exact (hasN_iff _ _).1 h.2
theorem garb_none {m : Hp} {xs : List Nm} : garbF (dropH m (garbF m xs)) xs = [] := by
  apply List.eq_nil_iff_forall_not_mem.2
  intro x hx
  obtain ⟨h1, l, h2⟩ := garb_mem.1 hx
  exact h1 (garb_in h2)
theorem GoodH.sub {m m' : Hp} (h : GoodH m) (hs : SubH m' m) : GoodH m' := fun x l hl => h x l (hs x l hl)
theorem WfH.sub {m m' : Hp} (h : WfH m) (hs : SubH m' m) : WfH m' := fun x l hl => h x l (hs x l hl)
/-- Maps out of bindings. -/
theorem foldB_ind {p : Hp → Prop} (h0 : p []) (bs : List Bn) (h1 : ∀ m b, b ∈ bs → p m → p (bindH m b.x b.l)) : p (foldB bs) := by
  have key : ∀ (k : Nat), k ≤ bs.length → p (foldB (bs.take k)) := by
    intro k
    induction k with
    | zero => intro _; exact h0
    | succ k ih =>
      intro hk
      rw [List.take_succ_eq_append_getElem (by omega), foldB_snoc]
      exact h1 _ _ (List.getElem_mem _) (ih (by omega))
  have := key bs.length (Nat.le_refl _)
  rwa [List.take_length] at this
theorem foldB_len (bs : List Bn) : (foldB bs).length ≤ bs.length := by
  have key : ∀ (k : Nat), k ≤ bs.length → (foldB (bs.take k)).length ≤ k := by
    intro k
    induction k with
    | zero => intro _; exact Nat.le_refl _
    | succ k ih =>
      intro hk
      rw [List.take_succ_eq_append_getElem (by omega), foldB_snoc]
      exact Nat.le_trans bind_len (by have := ih (by omega); omega)
  have := key bs.length (Nat.le_refl _)
  rwa [List.take_length] at this
theorem bind_mem {m : Hp} {x : Nm} {l : List C} {p : Nm × List C} (h : p ∈ bindH m x l) : p = (x, l) ∨ p ∈ m := by
  unfold bindH at h
  split at h
  · exact (ins_mem _ _ _ _).1 h
  · exact .inr h
theorem foldB_mem {bs : List Bn} {p : Nm × List C} (h : p ∈ foldB bs) : ∃ b ∈ bs, p = (b.x, b.l) := by
  refine foldB_ind (p := fun m => ∀ p ∈ m, ∃ b ∈ bs, p = (b.x, b.l)) (fun p hp => by cases hp) bs (fun m b hb ih p hp => ?_) p h
  rcases bind_mem hp with rfl | hp
  · exact ⟨b, hb, rfl⟩
  · exact ih p hp
theorem foldB_wf {bs : List Bn} (h : ∀ b ∈ bs, wfN b.x ∧ ∀ c ∈ b.l, wfN (c.vn, c.vk)) : WfH (foldB bs) := by
  intro x l hl
  obtain ⟨b, hb, e⟩ := foldB_mem (look_mem hl)
  cases e
  exact h b hb
theorem flat_le {k : Nat} : ∀ {m : Hp}, (∀ p ∈ m, p.2.length ≤ k) → (m.flatMap fun p => varsOf p.2).length ≤ k * m.length
  | [], _ => by simp
  | p :: r, h => by
    have h1 := flat_le (m := r) fun p hp => h p (List.mem_cons_of_mem _ hp)
    have h2 : (varsOf p.2).length ≤ p.2.length := by unfold varsOf; rw [List.length_map]; exact List.length_filter_le _ _
    have h3 := h p (List.mem_cons_self ..)
    rw [List.flatMap_cons, List.length_append, List.length_cons, Nat.mul_succ]
    omega
theorem univ_le {m : Hp} (hr : RisesH m) (hm : GoodH m) (rs : List Nm) : (univ m rs).length ≤ rs.length + 256 * m.length := by
  unfold univ
  rw [List.length_append]
  have := flat_le (m := m) (k := 256) fun p hp => by
    have h1 := (look_mem_iff m hr p.1 p.2).2 hp
    exact ((right_iff _).1 (hm _ _ h1).2.2).2.1
  omega
theorem chn_at {m : Hp} {rs c : List Nm} (h : Chn m rs c) : (∃ l ∈ rs, c.getLast? = some l) ∧ ∀ (i : Nat) (a b : Nm), c[i]? = some b → c[i + 1]? = some a → b ∈ leadsH m a := by
  induction h with
  | @one x h => exact ⟨⟨x, h, rfl⟩, fun i a b _ h2 => by simp at h2⟩
  | @more x y r _ k ih =>
    obtain ⟨⟨l, h1, h2⟩, h3⟩ := ih
    refine ⟨⟨l, h1, by rw [List.getLast?_cons_cons]; exact h2⟩, fun i a b e1 e2 => ?_⟩
    cases i with
    | zero =>
      simp at e1 e2
      subst e1 e2
      exact k
    | succ i => exact h3 i a b (by simpa using e1) (by simpa using e2)
/-- A path from its beginning on. -/
structure PthOk (m : Hp) (x y : Nm) (p : List Nm) : Prop where
  pos : 1 ≤ p.length
  fst : p[0]? = some x
  lst : p[p.length - 1]? = some y
  stp : ∀ (k : Nat) (a b : Nm), p[k]? = some a → p[k + 1]? = some b → b ∈ leadsH m a
theorem path_ok {m : Hp} {x y : Nm} {ch : List Nm} (h : pathF m x y = some ch) : PthOk m x y ch.reverse := by
  unfold pathF at h
  have h1 := List.mem_of_find?_eq_some h
  have h2 : hd0 ch = y := by
    have h0 := List.find?_some h
    exact (eqN_iff _ _).1 h0
  have hc := allC_chn m [x] ch h1
  obtain ⟨⟨l, g1, g2⟩, g3⟩ := chn_at hc
  obtain rfl := List.mem_singleton.1 g1
  obtain ⟨z, r, rfl⟩ := chn_cons hc
  have hz : z = y := h2
  subst hz
  refine ⟨by simp, ?_, ?_, fun k a b e1 e2 => ?_⟩
  · rw [← List.head?_eq_getElem?, List.head?_reverse]
    exact g2
  · rw [← List.getLast?_eq_getElem?, List.getLast?_reverse]
    rfl
  · have hk : k + 1 < (z :: r).reverse.length := (List.getElem?_eq_some_iff.1 e2).1
    rw [List.length_reverse] at hk
    rw [List.getElem?_reverse (by omega)] at e1
    rw [List.getElem?_reverse hk] at e2
    refine g3 ((z :: r).length - 1 - (k + 1)) a b e2 ?_
    rw [show (z :: r).length - 1 - (k + 1) + 1 = (z :: r).length - 1 - k by omega]
    exact e1
theorem path_some {m : Hp} {x y : Nm} : (pathF m x y).isSome = true ↔ Rch m [x] y := by
  unfold pathF
  rw [List.find?_isSome, ← allC_mem, List.mem_map]
  constructor
  · rintro ⟨c, h1, h2⟩
    exact ⟨c, h1, (eqN_iff _ _).1 h2⟩
  · rintro ⟨c, h1, h2⟩
    exact ⟨c, h1, (eqN_iff _ _).2 h2⟩
/-- What comes of a cell is told by the values that are reached. -/
theorem next_same {m m' : Hp} {rs : List Nm} (hs : ∀ x, Rch m rs x → lookH m' x = lookH m x) {l : List C} (hl : ∀ x ∈ varsOf l, Rch m rs x) : nextH m' l = nextH m l := by
  unfold nextH
  split
  · next hv =>
    obtain ⟨c, rfl⟩ : ∃ c, l = [c] := by
      match l, hv with
      | [c], _ => exact ⟨c, rfl⟩
    refine hs _ (hl _ ?_)
    have hk : (c.k == 4) = true := hv
    simp [varsOf, hk, varL]
  · rfl
theorem addN_in (acc : List Nm) (x y : Nm) (h : y ∈ acc ∨ y = x) : y ∈ addN acc x := by
  unfold addN
  split
  · next hh =>
    rcases h with h | rfl
    · exact h
    · exact (hasN_iff _ _).1 hh
  · rw [List.mem_append, List.mem_singleton]
    exact h
theorem nubN_mem_of (xs : List Nm) (y : Nm) (h : y ∈ xs) : y ∈ nubN xs := by
  revert h
  refine snoc_ind (p := fun xs => y ∈ xs → y ∈ nubN xs) (fun h => by cases h) ?_ xs
  intro l a ih h
  rw [nubN_snoc]
  rw [List.mem_append, List.mem_singleton] at h
  exact addN_in _ _ _ (h.imp ih id)
theorem next_rch {m : Hp} {rs : List Nm} {l l' : List C} (h : nextH m l = some l') (hl : ∀ x ∈ varsOf l, Rch m rs x) : ∀ x ∈ varsOf l', Rch m rs x := by
  unfold nextH at h
  split at h
  · next hv =>
    obtain ⟨c, rfl⟩ : ∃ c, l = [c] := by
      match l, hv with
      | [c], _ => exact ⟨c, rfl⟩
    intro x hx
    have hk : (c.k == 4) = true := hv
    refine .step (hl (varL [c]) (by simp [varsOf, hk, varL])) ?_
    unfold leadsH
    rw [h]
    exact nubN_mem_of _ _ hx
  · cases h
theorem fol_same {m m' : Hp} {rs : List Nm} (hs : ∀ x, Rch m rs x → lookH m' x = lookH m x) {l l' : List C} (h : Fol m l l') : (∀ x ∈ varsOf l, Rch m rs x) → Fol m' l l' ∧ ∀ x ∈ varsOf l', Rch m rs x := by
  induction h with
  | here => exact fun hl => ⟨.here _, hl⟩
  | step h1 _ ih =>
    intro hl
    obtain ⟨i1, i2⟩ := ih (next_rch h1 hl)
    exact ⟨.step ((next_same hs hl).trans h1) i1, i2⟩
theorem isFol_same {m m' : Hp} {rs : List Nm} (hs : ∀ x, Rch m rs x → lookH m' x = lookH m x) {l l' : List C} (h : IsFol m l l') (hl : ∀ x ∈ varsOf l, Rch m rs x) : IsFol m' l l' ∧ ∀ x ∈ varsOf l', Rch m rs x := by
  obtain ⟨i1, i2⟩ := fol_same hs h.1 hl
  exact ⟨⟨i1, (next_same hs i2).trans h.2⟩, i2⟩
theorem vars_cons {c : C} {r : List C} {x : Nm} : x ∈ varsOf (c :: r) ↔ x ∈ varsOf [c] ∨ x ∈ varsOf r := by
  unfold varsOf
  rw [show c :: r = [c] ++ r from rfl, List.filter_append, List.map_append, List.mem_append]
theorem ex_same {m m' : Hp} {rs : List Nm} (hs : ∀ x, Rch m rs x → lookH m' x = lookH m x) {l o : List C} (h : Ex m l o) : (∀ x ∈ varsOf l, Rch m rs x) → Ex m' l o := by
  induction h with
  | nil => exact fun _ => .nil
  | one h _ ih =>
    intro hl
    exact .one (isFol_same hs h fun x hx => hl x (vars_cons.2 (.inl hx))).1 (ih fun x hx => hl x (vars_cons.2 (.inr hx)))
  | more h hn _ _ ih1 ih2 =>
    intro hl
    obtain ⟨i1, i2⟩ := isFol_same hs h fun x hx => hl x (vars_cons.2 (.inl hx))
    exact .more i1 hn (ih1 i2) (ih2 fun x hx => hl x (vars_cons.2 (.inr hx)))
end Go.Proofs.YtojobiefambkoaaGreatDoor
