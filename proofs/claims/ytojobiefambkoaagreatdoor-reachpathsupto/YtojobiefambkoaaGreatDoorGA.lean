/- Maps whose elements are read as the values that they are: what each operation does, by a plain function. -/
import Derived.Maps.OwnIn
import Derived.Maps.OwnSet
import Derived.Maps.Views
import Derived.WideKeyEntry
import Derived.Below
namespace Go.Proofs.YtojobiefambkoaaGreatDoor.Mp
open Go.RowKit Go.Maps Go.WideMaps Go.ChangeMaps Go.WideElems
/-- An element is read as the value that it is. -/
def heldElem : Value → Option (DataW Value × List MemPlace) := fun v => some (.held v, [])
/-- What the keys of a map are. -/
structure Key (P : Program) (kt : TypeId) (κ : Type) where
  v : κ → Value
  l : κ → Lit
  ok : κ → Prop
  law : KeyLaw P kt
  key : ∀ x, ok x → keyOf P kt (v x) = some (l x)
  inj : ∀ x y, ok x → ok y → l x = l y → x = y
/-- The map at b has just these elements, at most n. -/
def MpAt {P : Program} {kt : TypeId} {κ : Type} (K : Key P kt κ) (w : World) (b n : Nat) (f : κ → Option Value) : Prop :=
  ∃ D, w.ownsMap P kt heldElem b n D ∧ ∀ x, K.ok x → has D (K.l x) = (f x).isSome ∧ ∀ v, f x = some v → ∀ z, D.atKey (K.l x) z = .held v
def updF {κ : Type} [DecidableEq κ] (f : κ → Option Value) (x : κ) (v : Option Value) : κ → Option Value := fun y => if y = x then v else f y
theorem updF_same {κ : Type} [DecidableEq κ] (f : κ → Option Value) (x : κ) (v : Option Value) : updF f x v x = v := by simp [updF]
theorem updF_other {κ : Type} [DecidableEq κ] (f : κ → Option Value) {x y : κ} (v : Option Value) (h : y ≠ x) : updF f x v y = f y := by simp [updF, h]
section
variable {P : Program} {kt : TypeId} {κ : Type} {K : Key P kt κ} {w w' : World} {b n : Nat} {f : κ → Option Value}
theorem Key.lit (K : Key P kt κ) {x : κ} (hx : K.ok x) : WideAt.IsKeyLit (K.l x) := (Keyed.of_law K.law).key (K.key x hx)
theorem MpAt.blk (h : MpAt K w b n f) : ∃ es ck, w.heap[b]? = some (.map es ck) := by
  obtain ⟨D, ⟨es, ck, h1, _⟩, _⟩ := h
  exact ⟨es, ck, h1⟩
theorem MpAt.lt (h : MpAt K w b n f) : b < w.heap.size := by
  obtain ⟨es, ck, h1⟩ := h.blk
  exact (Array.getElem?_eq_some_iff.1 h1).1
theorem MpAt.keeps (h : MpAt K w b n f) (hk : w'.heap[b]? = w.heap[b]?) : MpAt K w' b n f := by
  obtain ⟨D, ⟨es, ck, h1, h2⟩, h3⟩ := h
  exact ⟨D, ⟨es, ck, hk.trans h1, h2⟩, h3⟩
theorem MpAt.below (h : MpAt K w b n f) (hb : Below w.heap.size w w') : MpAt K w' b n f := h.keeps (hb.block b h.lt)
theorem MpAt.ne_cells (h : MpAt K w b n f) {g : Nat} {cs : Array Value} {t : TypeId} {p : Nat × Nat} (hg : w.heap[g]? = some (.cells cs t p)) : g ≠ b := by
  obtain ⟨es, ck, h1⟩ := h.blk
  intro e
  rw [e, h1] at hg
  cases hg
theorem mp_made (K : Key P kt κ) (w : World) : MpAt K (w.alloc (.map #[] 0)) w.heap.size 0 (fun _ => none) :=
  ⟨.map [], World.ownsMap_made w P kt heldElem, fun x _ => ⟨rfl, fun v e => by cases e⟩⟩
variable {t E : TypeId} (ht : P.underlying t = some (.map kt E)) {z : Value}
include ht
theorem MpAt.look_ok (h : MpAt K w b n f) (hz : (zeroValue E).run P w = .ok z w) {x : κ} (hx : K.ok x) : (Instr.lookup t (.map (some b)) (K.v x) true).run P w = .ok (.tuple #[(f x).getD z, .bool (f x).isSome]) w := by
  obtain ⟨D, h1, h2⟩ := h
  obtain ⟨u, ps, hrun, hR⟩ := h1.look_ok (Keyed.of_law K.law) ht hz (show heldElem z = some (.held z, []) from rfl) (K.key x hx)
  have hu : DataW.held u = D.atKey (K.l x) (.held z) := by
    have h3 : heldElem u = some (DataW.held u, []) := rfl
    rw [h3] at hR
    simp only [Option.some.injEq, Prod.mk.injEq] at hR
    exact hR.1
  obtain ⟨h3, h4⟩ := h2 x hx
  rw [h3] at hrun
  cases hf : f x with
  | none =>
    rw [hf] at h3
    rw [atKey_of_not_has h3] at hu
    cases hu
    rw [hrun, hf]; rfl
  | some v =>
    rw [h4 v hf] at hu
    cases hu
    rw [hrun, hf]; rfl
theorem MpAt.look (h : MpAt K w b n f) (hz : (zeroValue E).run P w = .ok z w) {x : κ} (hx : K.ok x) : (Instr.lookup t (.map (some b)) (K.v x) false).run P w = .ok ((f x).getD z) w := by
  obtain ⟨D, h1, h2⟩ := h
  obtain ⟨u, ps, hrun, hR⟩ := h1.lookup (Keyed.of_law K.law) ht hz (show heldElem z = some (.held z, []) from rfl) (K.key x hx)
  have hu : DataW.held u = D.atKey (K.l x) (.held z) := by
    have h3 : heldElem u = some (DataW.held u, []) := rfl
    rw [h3] at hR
    simp only [Option.some.injEq, Prod.mk.injEq] at hR
    exact hR.1
  obtain ⟨h3, h4⟩ := h2 x hx
  cases hf : f x with
  | none =>
    rw [hf] at h3
    rw [atKey_of_not_has h3] at hu
    cases hu
    rw [hrun]; rfl
  | some v =>
    rw [h4 v hf] at hu
    cases hu
    rw [hrun]; rfl
variable [DecidableEq κ]
omit ht in
theorem mp_put {D : DataW Value} (hM : IsMap D) (h2 : ∀ x, K.ok x → has D (K.l x) = (f x).isSome ∧ ∀ v, f x = some v → ∀ z, D.atKey (K.l x) z = .held v) {x : κ} (hx : K.ok x) (u : Value) :
    ∀ y, K.ok y → has (D.put (K.l x) (.held u)) (K.l y) = (updF f x (some u) y).isSome ∧ ∀ v, updF f x (some u) y = some v → ∀ z, (D.put (K.l x) (.held u)).atKey (K.l y) z = .held v := by
  intro y hy
  by_cases e : y = x
  · subst e
    rw [updF_same]
    exact ⟨has_put_same hM (K.lit hx) _, fun v hv z => by cases hv; exact atKey_put_same hM (K.lit hx) _ _⟩
  · have hk : K.l y ≠ K.l x := fun e' => e (K.inj y x hy hx e')
    rw [updF_other f _ e, has_put_other hk]
    refine ⟨(h2 y hy).1, fun v hv z => ?_⟩
    rw [atKey_put_other hk]
    exact (h2 y hy).2 v hv z
theorem MpAt.put (h : MpAt K w b n f) (hn : n < maxLen) {x : κ} (hx : K.ok x) (u : Value) : ∃ w', (Instr.mapUpdate t (.map (some b)) (K.v x) u).run P w = .ok () w' ∧ MpAt K w' b (n + 1) (updF f x (some u)) ∧ w.grownBy w' (some b) := by
  obtain ⟨D, h1, h2⟩ := h
  obtain ⟨w', r1, r2, r3⟩ := h1.update (Keyed.of_law K.law) ht hn (K.key x hx) (show heldElem u = some (.held u, []) from rfl)
  exact ⟨w', r1, ⟨_, r2, mp_put h1.isMap h2 hx u⟩, r3⟩
theorem MpAt.del (h : MpAt K w b n f) {x : κ} (hx : K.ok x) (ty : TypeId) : ∃ w', (Builtin.delete_ #[t, kt] ty #[.map (some b), K.v x]).run P w = .ok (.tuple #[]) w' ∧ MpAt K w' b n (updF f x none) ∧ w.grownBy w' (some b) := by
  obtain ⟨D, h1, h2⟩ := h
  obtain ⟨w', r1, r2, r3⟩ := h1.drop (Keyed.of_law K.law) ht (K.key x hx) ty
  refine ⟨w', r1, ⟨_, r2, fun y hy => ?_⟩, r3.grown⟩
  by_cases e : y = x
  · subst e
    rw [updF_same]
    exact ⟨has_del_same, fun v hv => by cases hv⟩
  · have hk : K.l y ≠ K.l x := fun e' => e (K.inj y x hy hx e')
    rw [updF_other f _ e, has_del_other hk]
    refine ⟨(h2 y hy).1, fun v hv z => ?_⟩
    rw [atKey_del_other hk]
    exact (h2 y hy).2 v hv z
/-- 'm[k] = g(m[k])': an entry that is looked up, and stored again. -/
theorem MpAt.entry (h : MpAt K w b n f) (hz : ∀ u : World, (zeroValue E).run P u = .ok z u) (hn : n < maxLen) {x : κ} (hx : K.ok x) :
    ∃ (st : Nat) (W1 : World), (Instr.mapEntry t (.map (some b)) (K.v x)).run P w = .ok (.tuple #[(f x).getD z, .int .i64 ((st : Nat) : Int)]) W1 ∧ w.grownBy W1 (some b) ∧
      ∀ (w2 : World) (u : Value), w2.heap[b]? = W1.heap[b]? → ∃ w3, (Instr.entryStore t (.map (some b)) (.int .i64 ((st : Nat) : Int)) u).run P w2 = .ok () w3 ∧ MpAt K w3 b (n + 1) (updF f x (some u)) ∧ w2.grownBy w3 (some b) := by
  have hl := h.look ht (hz w) hx
  obtain ⟨D, h1, h2⟩ := h
  have hM := h1.isMap
  have h1' := h1
  obtain ⟨es, ck, hb, F, hs, hD⟩ := h1
  have s3 := ((MapKept.stamped_iff es ck).1 F.stamped).2.2
  obtain ⟨v0, st, es1, ck1, he1, hv0, he2⟩ := entry_then_store K.law ht hz hb F (K.key x hx)
  have hg : ∀ (u : World) (e0 : Array MapEntry) (c0 : Nat) (o' : Obj), u.heap[b]? = some (.map e0 c0) → u.grownBy (setBlock u b o') (some b) := fun u e0 c0 o' hu => ⟨rfl, rfl, rfl, by simp [setBlock], fun i _ hi => heap_setBlock_other hu _ (fun e1 => hi (by rw [e1]))⟩
  have hvv : v0 = (f x).getD z := by
    rcases Maps.fit_look false (Keyed.of_law K.law) ht (hz w) hb F (K.key x hx) with ⟨g1, g2, _⟩ | ⟨e0, y, g1, g2, g3, _⟩
    · rw [hl] at g1
      have e1 : (f x).getD z = z := by simpa using g1
      rw [e1]
      rcases hv0 with ⟨f0, hf, hk, _⟩ | ⟨_, h⟩
      · exact absurd hk (g2 _ hf)
      · exact h
    · rw [hl] at g3
      have e1 : (f x).getD z = e0.val := by simpa using g3
      rw [e1]
      rcases hv0 with ⟨f0, hf, hk, h⟩ | ⟨h, _⟩
      · have : ∀ {l : List MapEntry}, l.Pairwise (fun x y => x.key ≠ y.key) → ∀ {x y : MapEntry}, x ∈ l → y ∈ l → x.key = y.key → x = y := by
          intro l hp
          induction hp with
          | nil => intro x y hx; cases hx
          | cons h1 _ ih =>
            intro x y hx hy hk
            rcases List.mem_cons.1 hx with rfl | hx' <;> rcases List.mem_cons.1 hy with rfl | hy'
            · rfl
            · exact absurd hk (h1 _ hy')
            · exact absurd hk.symm (h1 _ hx')
            · exact ih hx' hy' hk
        rw [h, this s3 hf g1 (hk.trans g2.symm)]
      · exact absurd g2 (h _ g1)
  subst hvv
  refine ⟨st, _, he1, hg _ _ _ _ hb, fun w2 u hw2 => ?_⟩
  rw [heap_setBlock_same hb] at hw2
  obtain ⟨es', ck', r1, r2⟩ := he2 w2 u hw2
  refine ⟨_, r1, ?_, hg _ _ _ _ hw2⟩
  obtain ⟨w', q1, q2, q3⟩ := h1'.update (Keyed.of_law K.law) ht hn (K.key x hx) (show heldElem u = some (.held u, []) from rfl)
  rw [r2] at q1
  obtain rfl : setBlock w b (.map es' ck') = w' := by simpa using q1
  have hm : MpAt K (setBlock w b (.map es' ck')) b (n + 1) (updF f x (some u)) := ⟨_, q2, mp_put hM h2 hx u⟩
  refine hm.keeps ?_
  rw [heap_setBlock_same hw2, heap_setBlock_same hb]
end
end Go.Proofs.YtojobiefambkoaaGreatDoor.Mp
