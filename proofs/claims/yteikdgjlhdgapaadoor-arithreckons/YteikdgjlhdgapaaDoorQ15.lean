/- Contract of Vars: each name once, in the order in which they first come. Values of variables: the plain side. Contracts of isVariable, Clone; a heap in memory; contracts of New, has, next, follow, Deref. A heap in memory; contracts of New, has, next, follow, Deref. Contracts of follow, Deref, has, New. What arith looks by: contract of wait. -/
import Derived.Test.YteikdgjlhdgapaaDoorQ14
import Derived.Maps.OwnIn
import Derived.Maps.Views
import Derived.DeepKeys4
import Derived.Test.YteikdgjlhdgapaaDoorQ10
import Derived.Maps.OwnSet
import Derived.Lib.SliceRun
import Derived.Deep.RegionHeld3
import Derived.Test.YteikdgjlhdgapaaDoorQ11
import Derived.Deep.AppendLies
namespace Go.Proofs.YteikdgjlhdgapaaDoor
open Go.RowKit Go.Shelf
attribute [local go_sem] Oper.semAt_some
def wfN (x : Nm) : Prop := (Lit.int .i64 x.1).wf = true ∧ (Lit.int .i64 x.2).wf = true
def kLit (x : Nm) : Lit := .string (keyBytes [.int .i64 x.1, .int .i64 x.2])
theorem law23 : WideMaps.KeyLaw Tryd.prog 23 := deep_law_laid (by kernel_rfl) (m := 2) (by omega) (of_decide_eq_true (by kernel_rfl)) (by kernel_rfl) (by rw [Tryd.underlying23])
theorem keyed23 : Maps.Keyed Tryd.prog 23 := Maps.Keyed.of_law law23
theorem key23 (x : Nm) (h : wfN x) : keyOf Tryd.prog 23 (.agg #[.int .i64 x.1, .int .i64 x.2]) = some (kLit x) := by
  obtain ⟨h1, h2⟩ := h
  have hk : Tryd.prog.keyType 23 = true := by kernel_rfl
  have hc : Tryd.prog.cellsOf 23 = 2 := by kernel_rfl
  have hc3 : Tryd.prog.cellsOf 3 = 1 := by kernel_rfl
  have hs : ∃ n, Tryd.prog.types.size = n + 1 := ⟨Tryd.prog.types.size - 1, by have : 0 < Tryd.prog.types.size := of_decide_eq_true (by kernel_rfl); omega⟩
  obtain ⟨n, hs⟩ := hs
  have hf : (Value.agg #[.int .i64 x.1, .int .i64 x.2]).formed Tryd.prog 23 = true := by simp [Value.formed, Tryd.underlying23, hc]
  unfold keyOf
  rw [Tryd.underlying23]
  simp only [hk, hf, Bool.and_self, if_true, hs]
  simp [Program.keyLits, Tryd.underlying23, Tryd.underlying3, hc, hc3, Value.cells, h1, h2, kLit]
theorem kLit_inj {x y : Nm} (hx : wfN x) (hy : wfN y) (h : kLit x = kLit y) : x = y := by
  have h1 := key23 x hx
  have h2 := key23 y hy
  rw [← h] at h2
  have h3 := law23.inj h1 h2
  simp at h3
  exact Prod.ext h3.1 h3.2
def setD (l : List Nm) : DataW Unit := Maps.setOf (.agg []) (l.map kLit)
theorem has_setD (l : List Nm) (x : Nm) (hl : ∀ y ∈ l, wfN y) (hx : wfN x) : Maps.has (setD l) (kLit x) = hasN l x := by
  unfold setD
  rw [Maps.has_setOf _ _ _ (fun y hy => by obtain ⟨z, hz, rfl⟩ := List.mem_map.1 hy; exact keyed23.key (key23 z (hl z hz)))]
  rw [Bool.eq_iff_iff, hasN_iff, List.any_eq_true]
  constructor
  · rintro ⟨y, hy, h⟩
    obtain ⟨z, hz, rfl⟩ := List.mem_map.1 hy
    have := kLit_inj (hl z hz) hx (WideAt.sameKey_eq h)
    subst this; exact hz
  · intro h
    exact ⟨kLit x, List.mem_map.2 ⟨x, h, rfl⟩, WideAt.sameKey_self (keyed23.key (key23 x hx))⟩
theorem setD_snoc (l : List Nm) (x : Nm) : setD (l ++ [x]) = (setD l).put (kLit x) (.agg []) := by
  unfold setD; rw [List.map_append, List.map_singleton, Maps.setOf_snoc]
theorem addN_mem (acc : List Nm) (x y : Nm) (h : y ∈ addN acc x) : y ∈ acc ∨ y = x := by
  unfold addN at h
  split at h
  · exact .inl h
  · rcases List.mem_append.1 h with h | h
    · exact .inl h
    · exact .inr (by simpa using h)
theorem foldN_mem (xs acc : List Nm) (y : Nm) (h : y ∈ xs.foldl addN acc) : y ∈ acc ∨ y ∈ xs := by
  induction xs generalizing acc with
  | nil => exact .inl h
  | cons a r ih =>
    rcases ih (addN acc a) h with h | h
    · rcases addN_mem _ _ _ h with h | h
      · exact .inl h
      · exact .inr (by simp [h])
    · exact .inr (by simp [h])
theorem nubN_mem (xs : List Nm) (y : Nm) (h : y ∈ nubN xs) : y ∈ xs := by
  rcases foldN_mem xs [] y h with h | h
  · simp at h
  · exact h
theorem zero74 (w : World) : (zeroValue 136).run Tryd.prog w = .ok (.agg #[]) w := by kernel_rfl
abbrev WN := { x : Nm // wfN x }
def nubP (pre : List WN) : List Nm := nubN (pre.map (·.1))
theorem nubP_snoc (pre : List WN) (x : WN) : nubP (pre ++ [x]) = addN (nubP pre) x.1 := by
  unfold nubP; rw [List.map_append, List.map_singleton, nubN_snoc]
theorem nubP_wf (pre : List WN) : ∀ y ∈ nubP pre, wfN y := by
  intro y hy
  obtain ⟨z, hz, rfl⟩ := List.mem_map.1 (nubN_mem _ _ hy)
  exact z.2
theorem row_not_map {w : World} {base : Nat} {e : TypeId} {s n m b : Nat} {v : Value} {xs : List Value} {P : Program} {k : TypeId} {D : DataW Unit} (h : w.ownsRow base e s v n xs) (hm : w.ownsMap P k unitElem b m D) : v.ownBlock ≠ some b := by
  obtain ⟨es, ck, hh, _⟩ := hm
  rcases h.2 with ⟨rfl, _⟩ | ⟨g, cap, cur, rfl, _, hg, _⟩
  · simp [Value.ownBlock]
  · intro e1
    simp [Value.ownBlock] at e1
    subst e1
    rw [hh] at hg; cases hg
theorem map_keeps {w w' : World} {m b : Nat} {P : Program} {k : TypeId} {D : DataW Unit} (hm : w.ownsMap P k unitElem b m D) (hk : KeepsOthers w w') : w'.ownsMap P k unitElem b m D := by
  obtain ⟨es, ck, hh, h⟩ := hm
  exact ⟨es, ck, hk.same _ _ hh rfl, h⟩
end Go.Proofs.YteikdgjlhdgapaaDoor
namespace Go.Proofs.YteikdgjlhdgapaaDoor
open Go.RowKit
/-- The order of names. -/
def lessN (a b : Nm) : Bool := decide (a.1 < b.1) || (a.1 == b.1 && decide (a.2 < b.2))
theorem lessN_irrefl (a : Nm) : lessN a a = false := by simp [lessN]
theorem lessN_trans {a b c : Nm} (h : lessN a b = true) (k : lessN b c = true) : lessN a c = true := by
  simp [lessN] at *
  omega
theorem lessN_total (a b : Nm) : lessN a b = true ∨ a = b ∨ lessN b a = true := by
  rcases Int.lt_trichotomy a.1 b.1 with h | h | h
  · left; simp [lessN, h]
  · rcases Int.lt_trichotomy a.2 b.2 with k | k | k
    · left; simp [lessN, h, k]
    · right; left; exact Prod.ext h k
    · right; right; simp [lessN, h, k]
  · right; right; simp [lessN, h]
/-- Variables with their values. -/
abbrev Hp := List (Nm × List C)
def lookH (m : Hp) (x : Nm) : Option (List C) := (m.find? fun p => p.1 == x).map (·.2)
/-- Is a term one variable? -/
def isVarL : List C → Bool
  | [c] => c.k == 4
  | _ => false
def varL : List C → Nm
  | c :: _ => (c.vn, c.vk)
  | [] => (0, 0)
def nextH (m : Hp) (l : List C) : Option (List C) := if isVarL l then lookH m (varL l) else none
/-- Links descend. -/
def DescH (m : Hp) : Prop := ∀ x l, lookH m x = some l → isVarL l = true → lessN (varL l) x = true
/-- What a term leads to by values. -/
inductive Fol (m : Hp) : List C → List C → Prop
  | here (l : List C) : Fol m l l
  | step {l l' l'' : List C} (h : nextH m l = some l') (r : Fol m l' l'') : Fol m l l''
theorem Fol.trans {m : Hp} {a b c : List C} (h : Fol m a b) (k : Fol m b c) : Fol m a c := by
  induction h with
  | here => exact k
  | step h _ ih => exact .step h (ih k)
theorem Fol.snoc {m : Hp} {a b c : List C} (h : Fol m a b) (k : nextH m b = some c) : Fol m a c := h.trans (.step k (.here _))
def IsFol (m : Hp) (l l' : List C) : Prop := Fol m l l' ∧ nextH m l' = none
theorem IsFol.uniq {m : Hp} {l a b : List C} (h : IsFol m l a) (k : IsFol m l b) : a = b := by
  obtain ⟨h1, h2⟩ := h
  obtain ⟨k1, k2⟩ := k
  induction h1 with
  | here l =>
    cases k1 with
    | here => rfl
    | step e _ => rw [h2] at e; cases e
  | step e _ ih =>
    cases k1 with
    | here => rw [k2] at e; cases e
    | step e' r' =>
      rw [e] at e'
      cases e'
      exact ih h2 r'
/-- How many values a variable may still lead through. -/
def rankH (m : Hp) (l : List C) : Nat := if isVarL l then (m.filter fun p => !lessN (varL l) p.1).length else 0
theorem look_mem {m : Hp} {x : Nm} {l : List C} (h : lookH m x = some l) : (x, l) ∈ m := by
  unfold lookH at h
  obtain ⟨p, hp, rfl⟩ := Option.map_eq_some_iff.1 h
  have h1 := List.find?_some hp
  have h2 := List.mem_of_find?_eq_some hp
  simp at h1
  subst h1
  exact h2
theorem filter_lt {α : Type} (p q : α → Bool) : ∀ (l : List α) (a : α), a ∈ l → q a = true → p a = false → (∀ x ∈ l, p x = true → q x = true) → (l.filter p).length < (l.filter q).length
  | [], a, h, _, _, _ => by simp at h
  | b :: r, a, h, hq, hp, hs => by
    have hle : ∀ r' : List α, (∀ x ∈ r', p x = true → q x = true) → (r'.filter p).length ≤ (r'.filter q).length := by
      intro r'
      induction r' with
      | nil => intro _; simp
      | cons x r' ih =>
        intro h'
        have i := ih (fun y hy => h' y (by simp [hy]))
        have j := h' x (by simp)
        simp only [List.filter_cons]
        cases hpx : p x
        · cases q x <;> simp <;> omega
        · simp [j hpx]; omega
    have hr := hle r (fun x hx => hs x (by simp [hx]))
    simp only [List.filter_cons]
    rcases List.mem_cons.1 h with rfl | h
    · simp [hq, hp]; omega
    · have := filter_lt p q r a h hq hp (fun x hx => hs x (by simp [hx]))
      have j := hs b (by simp)
      cases hpb : p b
      · cases q b <;> simp <;> omega
      · simp [j hpb]; omega
theorem rank_falls {m : Hp} (hD : DescH m) {l l' : List C} (h : nextH m l = some l') : rankH m l' < rankH m l := by
  unfold nextH at h
  split at h
  · next hv =>
    have hm := look_mem h
    have h0 : (!lessN (varL l) (varL l)) = true := by rw [lessN_irrefl]; rfl
    unfold rankH
    rw [if_pos hv]
    split
    · next hv' =>
      have hl := hD _ _ h hv'
      refine filter_lt _ _ m (varL l, l') hm h0 (by simp [hl]) (fun x _ hx => ?_)
      cases hc : lessN (varL l) x.1
      · rfl
      · rw [lessN_trans hl hc] at hx; cases hx
    · exact List.length_pos_of_mem (List.mem_filter.2 ⟨hm, h0⟩)
  · cases h
theorem rank_le (m : Hp) (l : List C) : rankH m l ≤ m.length := by
  unfold rankH
  split
  · exact List.length_filter_le _ _
  · omega
theorem fol_end {m : Hp} (hD : DescH m) : ∀ (n : Nat) (l : List C), rankH m l ≤ n → ∃ l', IsFol m l l'
  | 0, l, h => by
    cases hn : nextH m l with
    | none => exact ⟨l, .here l, hn⟩
    | some l' => have := rank_falls hD hn; omega
  | n + 1, l, h => by
    cases hn : nextH m l with
    | none => exact ⟨l, .here l, hn⟩
    | some l' =>
      have hr := rank_falls hD hn
      obtain ⟨l'', h1, h2⟩ := fol_end hD n l' (by omega)
      exact ⟨l'', .step hn h1, h2⟩
/-- Names rise. -/
def RisesH (m : Hp) : Prop := m.Pairwise fun p q => lessN p.1 q.1 = true
def insH (x : Nm) (l : List C) : Hp → Hp
  | [] => [(x, l)]
  | p :: r => if lessN x p.1 then (x, l) :: p :: r else p :: insH x l r
theorem look_ins (m : Hp) (x y : Nm) (l : List C) (h : lookH m x = none) : lookH (insH x l m) y = if x = y then some l else lookH m y := by
  induction m with
  | nil =>
    by_cases e : x = y
    · subst e; simp [insH, lookH]
    · have : (x == y) = false := by simpa using e
      simp [insH, lookH, e, this]
  | cons p r ih =>
    have hp : (p.1 == x) = false := by
      cases hc : (p.1 == x)
      · rfl
      · simp [lookH, hc] at h
    have hr : lookH r x = none := by
      unfold lookH at h ⊢
      rwa [List.find?_cons, hp] at h
    unfold insH
    split
    · by_cases e : x = y
      · subst e; simp [lookH]
      · have : (x == y) = false := by simpa using e
        simp [lookH, e, this]
    · have i := ih hr
      by_cases e : x = y
      · subst e
        rw [if_pos rfl] at i ⊢
        unfold lookH at i ⊢
        rw [List.find?_cons, hp]
        exact i
      · rw [if_neg e] at i ⊢
        unfold lookH at i ⊢
        rw [List.find?_cons, List.find?_cons]
        cases hc : (p.1 == y)
        · exact i
        · rfl
theorem desc_ins {m : Hp} {x : Nm} {l : List C} (hD : DescH m) (h : lookH m x = none) (hl : isVarL l = true → lessN (varL l) x = true) : DescH (insH x l m) := by
  intro y l' hy hv
  rw [look_ins m x y l h] at hy
  split at hy
  · next e =>
    cases hy
    rw [← e]
    exact hl hv
  · exact hD y l' hy hv
end Go.Proofs.YteikdgjlhdgapaaDoor
namespace Go.Proofs.YteikdgjlhdgapaaDoor
open Go.RowKit
attribute [local go_sem ↓] Go.wp_at_zero Go.wp_at_succ
set_option maxRecDepth 100000 in
theorem h29 (l : List C) (v : Value) (w : World) (h : TermAt w v l) : Calls Tryd.prog 29 #[v] w fun e w' => e = .returned (.bool (isVarL l)) ∧ w' = w := by
  obtain ⟨⟨hc, htx⟩, h⟩ := h
  rcases h with ⟨rfl, ad, rfl⟩ | ⟨b, o, cap, rfl, h2, h5, h3, h4⟩
  · have he : isVarL [] = false := rfl
    rw [he]
    go_enter Tryd.func29, Tryd.ntmps29
    go_wp2_with fail
    go_ret
    exact ⟨rfl, rfl⟩
  · by_cases hl : l.length = 1
    · match l, hl with
      | [c], _ =>
        obtain ⟨p0, p1, p2, p3, p4⟩ := term_cells h3 0 (by simp)
        simp only [Nat.zero_mul, Nat.add_zero, List.getElem_cons_zero] at p0
        have he : isVarL [c] = (c.k == 4) := rfl
        rw [he]
        cases hk : (c.k == 4)
        · simp only [List.length_singleton] at *
          go_enter Tryd.func29, Tryd.ntmps29
          go_wp2_with fail
          go_ret
          exact ⟨rfl, rfl⟩
        · simp only [List.length_singleton] at *
          go_enter Tryd.func29, Tryd.ntmps29
          go_wp2_with fail
          go_ret
          exact ⟨rfl, rfl⟩
    · have he : isVarL l = false := by
        match l, hl with
        | [], _ => rfl
        | _ :: _ :: _, _ => rfl
      have hq : ((l.length : Int) == 1) = false := by rw [beq_eq_false_iff_ne]; omega
      rw [he]
      go_enter Tryd.func29, Tryd.ntmps29
      go_wp2_with fail
      go_ret
      exact ⟨rfl, rfl⟩
/-- A term that is handed on as it is kept. -/
theorem term_nil (w : World) (ad : Option Addr) : TermAt w (.slice ad 0 0) [] := ⟨⟨by simp, by simp⟩, .inl ⟨rfl, ad, rfl⟩⟩
set_option maxRecDepth 100000 in
set_option maxHeartbeats 2000000 in
theorem h22 (l : List C) (v : Value) (w : World) (h : TermAt w v l) (hby : l.length * 48 ≤ 140737488355328) : Calls Tryd.prog 22 #[v] w fun e w' => ∃ u, e = .returned u ∧ TermAt w' u l ∧ (∀ g, u.ownBlock = some g → w.heap.size ≤ g) ∧ Below w.heap.size w w' := by
  obtain ⟨i0, hi, hz, hs, hb0⟩ := info60
  have hnl := fun (a : Option Addr) (n c : Nat) => Lib.run_eql_slice_nil (P := Tryd.prog) w 25 54 a n c 0 0 Tryd.underlying25
  have HT : Hid (TermAt w v l) := h
  have hown0 : (w.alloc (.cells #[] 54)).ownsRow w.heap.size 54 5 (.slice (some ⟨w.heap.size, 0, none⟩) 0 0) 0 [] := ⟨rfl, .inr ⟨w.heap.size, 0, #[], rfl, Nat.le_refl _, heap_alloc_new w _, Nat.le_refl _, by simp, rfl, rfl⟩⟩
  have HO : Hid ((w.alloc (.cells #[] 54)).ownsRow w.heap.size 54 5 (.slice (some ⟨w.heap.size, 0, none⟩) 0 0) 0 []) := hown0
  have HB : Hid (Below w.heap.size w (w.alloc (.cells #[] 54))) := (Below.refl _ w).alloc (Nat.le_refl _) _
  have hbase : w.heap.size ≤ (w.alloc (.cells #[] 54)).heap.size := by simp
  obtain ⟨⟨hc, htx⟩, h⟩ := h
  rcases h with ⟨rfl, ad, rfl⟩ | ⟨b, o, cap, rfl, h2, h5, h3, h4⟩
  · cases ad with
    | none =>
      go_enter Tryd.func22, Tryd.ntmps22
      go_wp2_with fail
      go_ret
      exact ⟨_, rfl, term_nil _ _, by simp [Value.ownBlock], Below.refl _ _⟩
    | some a =>
      go_enter Tryd.func22, Tryd.ntmps22
      go_wp2_with (at_builtin; refine wpList_append_own _ rfl _ _ 25 rfl w.heap.size 54 i0 zero60 5 48 Tryd.underlying25 hi hz hs hb0 rfl (by decide) _ _ _ rfl HO.out a 0 0 [] rfl rfl (fun j u hu => by simp at hu) (fun u hu => by simp at hu) (by unfold maxLen; omega) (by omega) hbase ?_)
      intro v' w' hown hgr _
      have HF : Hid (TermAt w' v' [] ∧ (∀ g, v'.ownBlock = some g → w.heap.size ≤ g) ∧ Below w.heap.size w w') := ⟨termAt_of_owns (l := []) hown (by simp) (by simp), fun g hg => (hown.lt g hg).1, HB.out.grown hgr hbase (fun g hg => (HO.out.lt g hg).1)⟩
      clear hown hgr
      go_wp2_with fail
      go_ret
      exact ⟨_, rfl, HF.out⟩
  · have HN : Hid (∀ j u, (flat l)[j]? = some u → (w.alloc (.cells #[] 54)).cell? ((⟨b, o, none⟩ : Addr).add j) = some u) := fun j u hu => by
      rw [Addr.add_mid]
      exact range_below h3 h4 HB.out j u hu
    have hfl : (flat l).length = l.length * 5 := by rw [flat_length]; omega
    have hle : l.length ≤ maxLen := hc
    clear h2 h5 h3 htx hc
    go_enter Tryd.func22, Tryd.ntmps22
    go_wp2_with (at_builtin; refine wpList_append_own _ rfl _ _ 25 rfl w.heap.size 54 i0 zero60 5 48 Tryd.underlying25 hi hz hs hb0 rfl (by decide) _ _ _ rfl HO.out ⟨b, o, none⟩ l.length cap (flat l) rfl hfl HN.out (flat_one l) (by omega) (by omega) hbase ?_)
    intro v' w' hown hgr _
    have HF : Hid (TermAt w' v' l ∧ (∀ g, v'.ownBlock = some g → w.heap.size ≤ g) ∧ Below w.heap.size w w') := by
      exact ⟨termAt_of_owns hown HT.out.1.1 HT.out.1.2, fun g hg => (hown.lt g hg).1, HB.out.grown hgr hbase (fun g hg => (HO.out.lt g hg).1)⟩
    obtain ⟨a', c', hvf⟩ := owns_form hown
    subst hvf
    clear hown hgr
    go_wp2_with fail
    go_ret
    exact ⟨_, rfl, HF.out⟩
end Go.Proofs.YteikdgjlhdgapaaDoor
namespace Go.Proofs.YteikdgjlhdgapaaDoor
open Go.RowKit
attribute [local go_sem ↓] Go.wp_at_zero Go.wp_at_succ
/-- An element is read as the value that it is. -/
def heldElem : Value → Option (DataW Value × List MemPlace) := fun v => some (.held v, [])
theorem zeroT (w : World) : (zeroValue 25).run Tryd.prog w = .ok (.slice none 0 0) w := by go_simp
/-- A heap at hb with its map at M. -/
structure HpAt (w : World) (hb M n : Nat) (D : DataW Value) (m : Hp) : Prop where
  blk : w.heap[hb]? = some (.cells #[.map (some M)] 57 (0, 0))
  map : w.ownsMap Tryd.prog 23 heldElem M n D
  no : ∀ x, wfN x → lookH m x = none → Maps.has D (kLit x) = false
  yes : ∀ x l, wfN x → lookH m x = some l → ∃ v, (∀ z, D.atKey (kLit x) z = .held v) ∧ TermAt w v l
  desc : DescH m
  wf : ∀ x l, lookH m x = some l → wfN x ∧ ∀ c ∈ l, wfN (c.vn, c.vk)
theorem below_grown {w w' : World} (h : Below w.heap.size w w') : w.grownBy w' none := ⟨h.os, h.tape, h.output, h.size, fun k hk _ => h.block k hk⟩
theorem HpAt.below {w w' : World} {hb M n : Nat} {D : DataW Value} {m : Hp} (h : HpAt w hb M n D m) (hw : Below w.heap.size w w') : HpAt w' hb M n D m := by
  refine ⟨(hw.block hb (Array.getElem?_eq_some_iff.1 h.blk).1).trans h.blk, h.map.kept (below_grown hw) (by simp), h.no, fun x l hx hl => ?_, h.desc, h.wf⟩
  obtain ⟨v, h1, h2⟩ := h.yes x l hx hl
  exact ⟨v, h1, h2.below hw⟩
theorem HpAt.look {w : World} {hb M n : Nat} {D : DataW Value} {m : Hp} (h : HpAt w hb M n D m) (x : Nm) (hx : wfN x) : ∃ u, (Instr.lookup 55 (.map (some M)) (.agg #[.int .i64 x.1, .int .i64 x.2]) true).run Tryd.prog w = .ok (.tuple #[u, .bool (lookH m x).isSome]) w ∧ (∃ a k c, u = .slice a k c) ∧ ∀ l, lookH m x = some l → TermAt w u l := by
  obtain ⟨u, ps, hrun, hR⟩ := h.map.look_ok keyed23 Tryd.underlying55 (zeroT w) (show heldElem (.slice none 0 0) = some (.held (.slice none 0 0), []) from rfl) (key23 x hx)
  have hu : DataW.held u = D.atKey (kLit x) (.held (.slice none 0 0)) := by
    have h1 : heldElem u = some (DataW.held u, []) := rfl
    rw [h1] at hR
    simp only [Option.some.injEq, Prod.mk.injEq] at hR
    exact hR.1
  cases hl : lookH m x with
  | none =>
    have h0 := h.no x hx hl
    rw [h0] at hrun
    rw [Maps.atKey_of_not_has h0] at hu
    cases hu
    exact ⟨_, hrun, ⟨_, _, _, rfl⟩, fun l e => by cases e⟩
  | some l =>
    obtain ⟨v, h1, h2⟩ := h.yes x l hx hl
    have h3 := Maps.has_true_of_atKey h1
    rw [h3] at hrun
    rw [h1] at hu
    cases hu
    refine ⟨_, hrun, ?_, fun l' e => by cases e; exact h2⟩
    obtain ⟨a, c, e⟩ := h2.form
    exact ⟨_, _, _, e⟩
theorem HpAt.cell {w : World} {hb M n : Nat} {D : DataW Value} {m : Hp} (h : HpAt w hb M n D m) : w.cell? ⟨hb, 0, none⟩ = some (.map (some M)) := by
  rw [cell_of_row w hb 0 _ 57 (0, 0) h.blk]; rfl
/-- A heap, or none. -/
def HpV (w : World) (p : Value) (m : Hp) : Prop := (p = .pointer none ∧ m = []) ∨ ∃ hb M n D, p = .pointer (some ⟨hb, 0, none⟩) ∧ HpAt w hb M n D m
theorem HpV.below {w w' : World} {p : Value} {m : Hp} (h : HpV w p m) (hw : Below w.heap.size w w') : HpV w' p m := by
  rcases h with h | ⟨hb, M, n, D, h1, h2⟩
  · exact .inl h
  · exact .inr ⟨hb, M, n, D, h1, h2.below hw⟩
theorem HpV.desc {w : World} {p : Value} {m : Hp} (h : HpV w p m) : DescH m := by
  rcases h with ⟨_, rfl⟩ | ⟨hb, M, n, D, _, h2⟩
  · intro x l hx
    simp [lookH] at hx
  · exact h2.desc
theorem HpV.wf {w : World} {p : Value} {m : Hp} (h : HpV w p m) {x : Nm} {l : List C} (hx : lookH m x = some l) : ∀ c ∈ l, wfN (c.vn, c.vk) := by
  rcases h with ⟨_, rfl⟩ | ⟨hb, M, n, D, _, h2⟩
  · simp [lookH] at hx
  · exact (h2.wf x l hx).2
abbrev NxS (w0 : World) (hb M b o : Nat) (x1 x2 : Int) (u : Value) (f : Bool) (w' : World) : Prop :=
  w'.cell? ⟨hb, 0, none⟩ = some (.map (some M)) ∧ w'.cell? ⟨b, o + 3, none⟩ = some (.int .i64 x1) ∧ w'.cell? ⟨b, o + 3 + 1, none⟩ = some (.int .i64 x2) ∧ (Instr.lookup 55 (.map (some M)) (.agg #[.int .i64 x1, .int .i64 x2]) true).run Tryd.prog w' = .ok (.tuple #[u, .bool f]) w' ∧ Hid (Below w0.heap.size w0 w')
set_option maxRecDepth 100000 in
set_option maxHeartbeats 2000000 in
theorem h23 (m : Hp) (p : Value) (l : List C) (v : Value) (w : World) (hp : HpV w p m) (hT : TermAt w v l) (hW : ∀ c ∈ l, wfN (c.vn, c.vk)) :
    Calls Tryd.prog 23 #[p, v] w fun e w' => ∃ u, e = .returned (.tuple #[u, .bool (nextH m l).isSome]) ∧ (∃ a k c, u = .slice a k c) ∧ (∀ l', nextH m l = some l' → TermAt w' u l') ∧ Below w.heap.size w w' := by
  rcases hp with ⟨rfl, rfl⟩ | ⟨hb, M, n, D, rfl, hH⟩
  · have hn : nextH [] l = none := by unfold nextH lookH; split <;> rfl
    obtain ⟨a, c, hf⟩ := hT.form
    subst hf
    rw [hn]
    clear hT hW
    go_enter Tryd.func23, Tryd.ntmps23
    go_wp2_with fail
    exact bodyPost_ret (v := .tuple #[.slice none 0 0, .bool false]) (by simp [results, Tryd.results23, go_sem]) rfl ⟨_, rfl, ⟨_, _, _, rfl⟩, (fun l' e => by cases e), Below.refl _ _⟩
  · have H29 := h29 l v w hT
    obtain ⟨⟨hc, htx⟩, hT'⟩ := hT
    cases hv : isVarL l
    · have hn : nextH m l = none := by unfold nextH; rw [hv]; rfl
      rw [hv] at H29
      obtain ⟨a, c, hf⟩ := (show TermAt w v l from ⟨⟨hc, htx⟩, hT'⟩).form
      subst hf
      rw [hn]
      clear hT' hW hH hc htx hv
      go_enter Tryd.func23, Tryd.ntmps23
      go_wp2_with fail
      refine H29.mono ?_
      rintro e w1 ⟨rfl, hw⟩
      obtain rfl := hw
      go_wp2_with fail
      exact bodyPost_ret (v := .tuple #[.slice none 0 0, .bool false]) (by simp [results, Tryd.results23, go_sem]) rfl ⟨_, rfl, ⟨_, _, _, rfl⟩, (fun l' e => by cases e), Below.refl _ _⟩
    · match l, hv with
      | [c], hv =>
        have hn : nextH m [c] = lookH m (c.vn, c.vk) := by unfold nextH; rw [hv]; rfl
        rcases hT' with ⟨e, _⟩ | ⟨b, o, cap, rfl, h2, h5, h3, h4⟩
        · cases e
        obtain ⟨_, _, _, p3, p4⟩ := term_cells h3 0 (by simp)
        simp only [Nat.zero_mul, Nat.add_zero, List.getElem_cons_zero] at p3 p4
        obtain ⟨u, hrun, ⟨a', k', c', huf⟩, hu⟩ := hH.look (c.vn, c.vk) (hW c (by simp))
        have hrd : (Instr.lookup 55 (.map (some M)) (.agg #[.int .i64 c.vn, .int .i64 c.vk]) true).run Tryd.prog w.drew = .ok (.tuple #[u, .bool (lookH m (c.vn, c.vk)).isSome]) w.drew := by
          obtain ⟨u2, hrun2, _, _⟩ := (hH.below (Below.drew (Below.refl _ _))).look (c.vn, c.vk) (hW c (by simp))
          obtain ⟨u3, ps3, hrun3, hR3⟩ := hH.map.look_ok keyed23 Tryd.underlying55 (zeroT w) (show heldElem (.slice none 0 0) = some (.held (.slice none 0 0), []) from rfl) (key23 (c.vn, c.vk) (hW c (by simp)))
          obtain ⟨u4, ps4, hrun4, hR4⟩ := hH.map.drew.look_ok keyed23 Tryd.underlying55 (zeroT w.drew) (show heldElem (.slice none 0 0) = some (.held (.slice none 0 0), []) from rfl) (key23 (c.vn, c.vk) (hW c (by simp)))
          have e34 : u3 = u4 := by
            have h1 : heldElem u3 = some (DataW.held u3, []) := rfl
            have h2 : heldElem u4 = some (DataW.held u4, []) := rfl
            rw [h1] at hR3
            rw [h2] at hR4
            simp only [Option.some.injEq, Prod.mk.injEq] at hR3 hR4
            have := hR3.1.trans hR4.1.symm
            cases this
            rfl
          rw [hrun] at hrun3
          simp only [Result.ok.injEq, Value.tuple.injEq, and_true] at hrun3
          have e13 : u = u3 ∧ (lookH m (c.vn, c.vk)).isSome = Maps.has D (kLit (c.vn, c.vk)) := by simpa using hrun3
          rw [hrun4, e13.1, e13.2, e34]
        have hS0 : NxS w hb M b o c.vn c.vk u (lookH m (c.vn, c.vk)).isSome w.drew := ⟨hH.cell, p3, p4, hrd, Below.drew (Below.refl _ _)⟩
        have HU : Hid (∀ l', lookH m (c.vn, c.vk) = some l' → TermAt w.drew u l') := fun l' e => (hu l' e).below (Below.drew (Below.refl _ _))
        rw [hv] at H29
        rw [hn]
        generalize c.vn = x1 at *
        generalize c.vk = x2 at *
        obtain ⟨q, hq⟩ : ∃ q, (lookH m (x1, x2)).isSome = q := ⟨_, rfl⟩
        rw [hq] at hS0 ⊢
        simp only [List.length_singleton] at *
        subst huf
        clear hrun hrd hu hH hW hc htx h3 p3 p4 hq h2 h5
        go_enter Tryd.func23, Tryd.ntmps23
        go_wp2_with fail
        refine H29.mono ?_
        rintro e w1 ⟨rfl, hw⟩
        obtain rfl := hw
        clear H29
        go_wp2_with fail
        refine wp_region_noPanic ?_
        refine wp_region_held_drew (S := fun w' => NxS w1 hb M b o x1 x2 (.slice a' k' c') q w') (by kernel_rfl) hS0 (fun hHeld => ?_)
        refine wpAnyH_take (i := 0) (v := ?_) (by simp only [List.getElem?_toArray, List.getElem?_cons_zero]; rfl) (by kernel_rfl) (by kernel_rfl) (by kernel_rfl) (fun _ _ _ h => h) (Or.inl ⟨by rfl, ?_⟩) (by assumption) ?_
        rotate_left
        · (intro w hSw; (try dsimp only at hSw); go_simp <;> with_reducible rfl)
        try simp only [Act.put, List.setIfInBounds_toArray, List.set_cons_zero, List.set_cons_succ]
        refine wpAnyH_take (i := 1) (v := ?_) (by simp only [List.getElem?_toArray, List.getElem?_cons_zero, List.getElem?_cons_succ]; rfl) (by kernel_rfl) (by kernel_rfl) (by kernel_rfl) (fun _ _ _ h => h) (Or.inl ⟨by rfl, ?_⟩) (by assumption) ?_
        rotate_left
        · (intro w hSw; (try dsimp only at hSw); go_simp <;> with_reducible rfl)
        try simp only [Act.put, List.setIfInBounds_toArray, List.set_cons_zero, List.set_cons_succ]
        refine wpAnyH_take (i := 2) (v := ?_) (by simp only [List.getElem?_toArray, List.getElem?_cons_zero, List.getElem?_cons_succ]; rfl) (by kernel_rfl) (by kernel_rfl) (by kernel_rfl) (fun _ _ _ h => h) (Or.inl ⟨by rfl, ?_⟩) (by assumption) ?_
        rotate_left
        · (intro w hSw; (try dsimp only at hSw); go_simp <;> with_reducible rfl)
        try simp only [Act.put, List.setIfInBounds_toArray, List.set_cons_zero, List.set_cons_succ]
        refine wpAnyH_take (i := 3) (v := ?_) (by simp only [List.getElem?_toArray, List.getElem?_cons_zero, List.getElem?_cons_succ]; rfl) (by kernel_rfl) (by kernel_rfl) (by kernel_rfl) (fun _ _ _ h => h) (Or.inl ⟨by rfl, ?_⟩) (by assumption) ?_
        rotate_left
        · (intro w hSw; (try dsimp only at hSw); go_simp <;> with_reducible rfl)
        try simp only [Act.put, List.setIfInBounds_toArray, List.set_cons_zero, List.set_cons_succ]
        refine wpAnyH_take (i := 4) (v := ?_) (by simp only [List.getElem?_toArray, List.getElem?_cons_zero, List.getElem?_cons_succ]; rfl) (by kernel_rfl) (by kernel_rfl) (by kernel_rfl) (fun _ _ _ h => h) (Or.inl ⟨by rfl, ?_⟩) (by assumption) ?_
        rotate_left
        · (intro w hSw; (try dsimp only at hSw); go_simp <;> with_reducible rfl)
        try simp only [Act.put, List.setIfInBounds_toArray, List.set_cons_zero, List.set_cons_succ]
        refine wpAnyH_take (i := 5) (v := ?_) (by simp only [List.getElem?_toArray, List.getElem?_cons_zero, List.getElem?_cons_succ]; rfl) (by kernel_rfl) (by kernel_rfl) (by kernel_rfl) (fun _ _ _ h => h) (Or.inl ⟨by rfl, ?_⟩) (by assumption) ?_
        rotate_left
        · (intro w hSw; (try dsimp only at hSw); go_simp <;> with_reducible rfl)
        try simp only [Act.put, List.setIfInBounds_toArray, List.set_cons_zero, List.set_cons_succ]
        refine wpAnyH_take (i := 6) (v := ?_) (by simp only [List.getElem?_toArray, List.getElem?_cons_zero, List.getElem?_cons_succ]; rfl) (by kernel_rfl) (by kernel_rfl) (by kernel_rfl) (fun _ _ _ h => h) (Or.inl ⟨by rfl, ?_⟩) (by assumption) ?_
        rotate_left
        · (intro w hSw; (try dsimp only at hSw); go_simp <;> with_reducible rfl)
        try simp only [Act.put, List.setIfInBounds_toArray, List.set_cons_zero, List.set_cons_succ]
        refine wpAnyH_take (i := 7) (v := ?_) (by simp only [List.getElem?_toArray, List.getElem?_cons_zero, List.getElem?_cons_succ]; rfl) (by kernel_rfl) (by kernel_rfl) (by kernel_rfl) (fun _ _ _ h => h) (Or.inl ⟨by rfl, ?_⟩) (by assumption) ?_
        rotate_left
        · (intro w hSw; (try dsimp only at hSw); go_simp <;> with_reducible rfl)
        try simp only [Act.put, List.setIfInBounds_toArray, List.set_cons_zero, List.set_cons_succ]
        refine wpAnyH_take (i := 8) (v := ?_) (by simp only [List.getElem?_toArray, List.getElem?_cons_zero, List.getElem?_cons_succ]; rfl) (by kernel_rfl) (by kernel_rfl) (by kernel_rfl) (fun _ _ _ h => h) (Or.inl ⟨by rfl, ?_⟩) (by assumption) ?_
        rotate_left
        · (intro w hSw; (try dsimp only at hSw); go_simp <;> with_reducible rfl)
        try simp only [Act.put, List.setIfInBounds_toArray, List.set_cons_zero, List.set_cons_succ]
        refine wpAnyH_take (i := 9) (v := ?_) (by simp only [List.getElem?_toArray, List.getElem?_cons_zero, List.getElem?_cons_succ]; rfl) (by kernel_rfl) (by kernel_rfl) (by kernel_rfl) (fun _ _ _ h => h) (Or.inl ⟨by rfl, ?_⟩) (by assumption) ?_
        rotate_left
        · (intro w hSw; (try dsimp only at hSw); go_simp <;> with_reducible rfl)
        try simp only [Act.put, List.setIfInBounds_toArray, List.set_cons_zero, List.set_cons_succ]
        refine wpAnyH_take (i := 10) (v := ?_) (by simp only [List.getElem?_toArray, List.getElem?_cons_zero, List.getElem?_cons_succ]; rfl) (by kernel_rfl) (by kernel_rfl) (by kernel_rfl) (fun _ _ _ h => h) (Or.inl ⟨by rfl, ?_⟩) (by assumption) ?_
        rotate_left
        · (intro w hSw; (try dsimp only at hSw); go_simp <;> with_reducible rfl)
        try simp only [Act.put, List.setIfInBounds_toArray, List.set_cons_zero, List.set_cons_succ]
        refine wpAnyH_take (i := 11) (v := ?_) (by simp only [List.getElem?_toArray, List.getElem?_cons_zero, List.getElem?_cons_succ]; rfl) (by kernel_rfl) (by kernel_rfl) (by kernel_rfl) (fun _ _ _ h => h) (Or.inl ⟨by rfl, ?_⟩) (by assumption) ?_
        rotate_left
        · (intro w hSw; (try dsimp only at hSw); go_simp <;> with_reducible rfl)
        try simp only [Act.put, List.setIfInBounds_toArray, List.set_cons_zero, List.set_cons_succ]
        refine wpAnyH_take (i := 12) (v := ?_) (by simp only [List.getElem?_toArray, List.getElem?_cons_zero, List.getElem?_cons_succ]; rfl) (by kernel_rfl) (by kernel_rfl) (by kernel_rfl) (fun _ _ _ h => h) (Or.inl ⟨by rfl, ?_⟩) (by assumption) ?_
        rotate_left
        · (intro w hSw; (try dsimp only at hSw); go_simp <;> with_reducible rfl)
        try simp only [Act.put, List.setIfInBounds_toArray, List.set_cons_zero, List.set_cons_succ]
        refine wpAnyH_take (i := 13) (v := ?_) (by simp only [List.getElem?_toArray, List.getElem?_cons_zero, List.getElem?_cons_succ]; rfl) (by kernel_rfl) (by kernel_rfl) (by kernel_rfl) (fun _ _ _ h => h) (Or.inl ⟨by rfl, ?_⟩) (by assumption) ?_
        rotate_left
        · (intro w hSw; (try dsimp only at hSw); go_simp <;> with_reducible rfl)
        try simp only [Act.put, List.setIfInBounds_toArray, List.set_cons_zero, List.set_cons_succ]
        refine wpAnyH_done (by kernel_rfl) ?_ _
        refine NoPanic.normal ?_
        clear hHeld hS0
        go_wp2_with fail
        exact bodyPost_ret (v := .tuple #[.slice a' k' c', .bool q]) (by simp [results, Tryd.results23, go_sem]) rfl ⟨_, rfl, ⟨_, _, _, rfl⟩, HU.out, Below.drew (Below.refl _ _)⟩
end Go.Proofs.YteikdgjlhdgapaaDoor
namespace Go.Proofs.YteikdgjlhdgapaaDoor
open Go.RowKit
attribute [local go_sem ↓] Go.wp_at_zero Go.wp_at_succ
theorem flat_inj : ∀ l l' : List C, flat l = flat l' → l = l'
  | [], [], _ => rfl
  | [], c :: r, h => by simp [flat, C.vals] at h
  | c :: r, [], h => by simp [flat, C.vals] at h
  | c :: r, c' :: r', h => by
    have h1 : c.vals ++ flat r = c'.vals ++ flat r' := by simpa [flat] using h
    obtain ⟨h2, h3⟩ := List.append_inj h1 rfl
    have h4 : c = c' := by
      cases c
      cases c'
      simpa [C.vals] using h2
    rw [h4, flat_inj r r' h3]
theorem termAt_uniq {w : World} {v : Value} {l l' : List C} (h : TermAt w v l) (h' : TermAt w v l') : l = l' := by
  obtain ⟨_, h⟩ := h
  obtain ⟨_, h'⟩ := h'
  rcases h with ⟨rfl, ad, rfl⟩ | ⟨b, o, cap, rfl, _, _, h3, _⟩
  · rcases h' with ⟨rfl, _⟩ | ⟨b, o, cap, e, _⟩
    · rfl
    · simp only [Value.slice.injEq] at e
      exact (List.eq_nil_of_length_eq_zero e.2.1.symm).symm
  · rcases h' with ⟨rfl, ad, e⟩ | ⟨b', o', cap', e, _, _, h3', _⟩
    · simp only [Value.slice.injEq] at e
      exact List.eq_nil_of_length_eq_zero e.2.1
    · simp only [Value.slice.injEq, Option.some.injEq, Addr.mk.injEq, and_true] at e
      obtain ⟨⟨rfl, rfl⟩, hl, rfl⟩ := e
      have hlen : (flat l).length = (flat l').length := by rw [flat_length, flat_length, hl]
      refine flat_inj l l' (List.ext_getElem? fun j => ?_)
      by_cases hj : j < (flat l).length
      · have e1 := h3 j _ (List.getElem?_eq_getElem hj)
        have e2 := h3' j _ (List.getElem?_eq_getElem (by omega))
        rw [e1] at e2
        rw [List.getElem?_eq_getElem hj, List.getElem?_eq_getElem (by omega)]
        exact e2
      · rw [List.getElem?_eq_none (by omega), List.getElem?_eq_none (by omega)]
open Classical in
/-- The rank of what a value reads as. -/
noncomputable def rkV (m : Hp) (w : World) (v : Value) : Nat := if h : ∃ l, TermAt w v l then rankH m h.choose else 0
theorem rkV_eq {m : Hp} {w : World} {v : Value} {l : List C} (h : TermAt w v l) : rkV m w v = rankH m l := by
  have hh : ∃ l, TermAt w v l := ⟨l, h⟩
  unfold rkV
  rw [dif_pos hh, termAt_uniq hh.choose_spec h]
set_option maxRecDepth 100000 in
set_option maxHeartbeats 2000000 in
theorem h33 (m : Hp) (p : Value) (l : List C) (v : Value) (w : World) (hp : HpV w p m) (hT : TermAt w v l) (hW : ∀ c ∈ l, wfN (c.vn, c.vk)) :
    Calls Tryd.prog 33 #[p, v] w fun e w' => ∃ u l', e = .returned u ∧ TermAt w' u l' ∧ IsFol m l l' ∧ Below w.heap.size w w' := by
  have HP : Hid (HpV w p m) := hp
  have HT : Hid (TermAt w v l) := hT
  have HW : Hid (∀ c ∈ l, wfN (c.vn, c.vk)) := hW
  have H23 := h23 m p l v w hp hT hW
  obtain ⟨a0, c0, hf0⟩ := hT.form
  subst hf0
  obtain ⟨q, hq⟩ : ∃ q, p = .pointer q := by
    rcases hp with ⟨h, _⟩ | ⟨_, _, _, _, h, _⟩ <;> exact ⟨_, h⟩
  subst hq
  clear hp hT hW
  go_enter Tryd.func33, Tryd.ntmps33
  go_wp2_with fail
  refine H23.mono ?_
  rintro e w1 ⟨u1, rfl, ⟨b1, k1, d1, hf1⟩, hu1, hb1⟩
  subst hf1
  have HU1 : Hid (∀ l', nextH m l = some l' → TermAt w1 (.slice b1 k1 d1) l') := hu1
  clear hu1 H23
  go_wp2_with fail
  go_loopw [1, 5, 6] (fun t x k wr => ∃ (l1 : List C), (∃ a n c, t = .slice a n c) ∧ (∃ a n c, x = .slice a n c) ∧ k = .bool (nextH m l1).isSome ∧ Hid (TermAt wr t l1 ∧ Fol m l l1 ∧ (∀ c ∈ l1, wfN (c.vn, c.vk)) ∧ ∀ l', nextH m l1 = some l' → TermAt wr x l') ∧ Below w.heap.size w wr) (fun t _ _ wr => rkV m wr t)
  case atStart => exact ⟨l, ⟨_, _, _, rfl⟩, ⟨_, _, _, rfl⟩, rfl, ⟨HT.out.below hb1, .here l, HW.out, HU1.out⟩, hb1⟩
  case round =>
    obtain ⟨l1, ⟨a, n, c, rfl⟩, ⟨a', n', c', rfl⟩, rfl, HI, hbr⟩ := hrel
    cases hn : nextH m l1 with
    | none =>
      rw [hn] at HI
      have HN : Hid (TermAt wr (.slice a n c) l1 ∧ IsFol m l l1) := ⟨HI.out.1, HI.out.2.1, hn⟩
      have hs : (none : Option (List C)).isSome = false := rfl
      clear HI hn
      go_wp2_with fail
      go_ret
      exact ⟨_, l1, rfl, HN.out.1, HN.out.2, hbr⟩
    | some l2 =>
      have hTx : TermAt wr (.slice a' n' c') l2 := HI.out.2.2.2 l2 hn
      have hwf2 : ∀ c ∈ l2, wfN (c.vn, c.vk) := by
        unfold nextH at hn
        split at hn
        · exact HP.out.wf hn
        · cases hn
      have H23 := h23 m _ l2 _ wr (HP.out.below hbr) hTx hwf2
      have HR : Hid (rankH m l2 < rankH m l1) := rank_falls HP.out.desc hn
      have HE : Hid (rkV m wr (.slice a n c) = rankH m l1) := rkV_eq HI.out.1
      have HF : Hid (Fol m l l2) := HI.out.2.1.snoc hn
      have HW2 : Hid (∀ c ∈ l2, wfN (c.vn, c.vk)) := hwf2
      have HTx : Hid (TermAt wr (.slice a' n' c') l2) := hTx
      have hs : (some l2 : Option (List C)).isSome = true := rfl
      clear HI hn hTx hwf2
      go_wp2_with fail
      refine H23.mono ?_
      rintro e w2 ⟨u2, rfl, ⟨b2, k2, d2, hf2⟩, hu2, hb2⟩
      subst hf2
      have HU2 : Hid (∀ l', nextH m l2 = some l' → TermAt w2 (.slice b2 k2 d2) l') := hu2
      have hbw2 : Below w.heap.size w w2 := hbr.trans (hb2.mono hbr.size)
      have HT2 : Hid (TermAt w2 (.slice a' n' c') l2) := HTx.out.below hb2
      have HE2 : Hid (rkV m w2 (.slice a' n' c') = rankH m l2) := rkV_eq HT2.out
      clear hu2 H23 hb2
      go_wp2_with fail
      go_roundw
      case rel => exact ⟨l2, ⟨_, _, _, rfl⟩, ⟨_, _, _, rfl⟩, rfl, ⟨HT2.out, HF.out, HW2.out, HU2.out⟩, hbw2⟩
      case measure => rw [HE.out, HE2.out]; exact HR.out
set_option maxRecDepth 100000 in
set_option maxHeartbeats 2000000 in
theorem h15 (m : Hp) (p : Value) (l : List C) (v : Value) (w : World) (hp : HpV w p m) (hT : TermAt w v l) (hW : ∀ c ∈ l, wfN (c.vn, c.vk)) (hby : l.length * 48 ≤ 140737488355328) (hbm : ∀ x l, lookH m x = some l → l.length * 48 ≤ 140737488355328) :
    Calls Tryd.prog 15 #[p, v] w fun e w' => ∃ u l', e = .returned u ∧ TermAt w' u l' ∧ IsFol m l l' ∧ (∀ g, u.ownBlock = some g → w.heap.size ≤ g) ∧ Below w.heap.size w w' := by
  have H33 := h33 m p l v w hp hT hW
  have HB : Hid (∀ l', Fol m l l' → l'.length * 48 ≤ 140737488355328) := fun l' h => by
    have : ∀ a b, Fol m a b → a.length * 48 ≤ 140737488355328 → b.length * 48 ≤ 140737488355328 := by
      intro a b h
      induction h with
      | here => exact id
      | step e _ ih =>
        intro _
        refine ih ?_
        unfold nextH at e
        split at e
        · exact hbm _ _ e
        · cases e
    exact this l l' h hby
  obtain ⟨a0, c0, hf0⟩ := hT.form
  subst hf0
  obtain ⟨q, hq⟩ : ∃ q, p = .pointer q := by
    rcases hp with ⟨h, _⟩ | ⟨_, _, _, _, h, _⟩ <;> exact ⟨_, h⟩
  subst hq
  clear hp hT hW hbm
  go_enter Tryd.func15, Tryd.ntmps15
  go_wp2_with fail
  refine H33.mono ?_
  rintro e w1 ⟨u1, l1, rfl, hT1, hF1, hb1⟩
  have H22 := h22 l1 u1 w1 hT1 (HB.out l1 hF1.1)
  have HF : Hid (IsFol m l l1) := hF1
  obtain ⟨a1, c1, hf1⟩ := hT1.form
  subst hf1
  clear hF1 hT1 H33
  go_wp2_with fail
  refine H22.mono ?_
  rintro e w2 ⟨u2, rfl, hT2, hg2, hb2⟩
  have HT2 : Hid (TermAt w2 u2 l1 ∧ (∀ g, u2.ownBlock = some g → w.heap.size ≤ g) ∧ Below w.heap.size w w2) := ⟨hT2, fun g hg => Nat.le_trans hb1.size (hg2 g hg), hb1.trans (hb2.mono hb1.size)⟩
  obtain ⟨a2, c2, hf2⟩ := hT2.form
  subst hf2
  clear hT2 hg2 hb2 H22
  go_wp2_with fail
  go_ret
  exact ⟨_, l1, rfl, HT2.out.1, HF.out, HT2.out.2.1, HT2.out.2.2⟩
abbrev HsS (w0 : World) (hb M bx : Nat) (x1 x2 : Int) (u : Value) (f : Bool) (w' : World) : Prop :=
  w'.cell? ⟨hb, 0, none⟩ = some (.map (some M)) ∧ w'.cell? ⟨bx, 0, none⟩ = some (.int .i64 x1) ∧ w'.cell? ⟨bx, 1, none⟩ = some (.int .i64 x2) ∧ (Instr.lookup 55 (.map (some M)) (.agg #[.int .i64 x1, .int .i64 x2]) true).run Tryd.prog w' = .ok (.tuple #[u, .bool f]) w' ∧ Hid (Below w0.heap.size w0 w')
set_option maxRecDepth 100000 in
set_option maxHeartbeats 2000000 in
theorem h21 (m : Hp) (hb M n : Nat) (D : DataW Value) (x : Nm) (w : World) (hH : HpAt w hb M n D m) (hx : wfN x) :
    Calls Tryd.prog 21 #[.pointer (some ⟨hb, 0, none⟩), .agg #[.int .i64 x.1, .int .i64 x.2]] w fun e w' => e = .returned (.bool (lookH m x).isSome) ∧ Below w.heap.size w w' := by
  have hba : Below w.heap.size w (w.alloc (.cells #[.int .i64 x.1, .int .i64 x.2] 23)).drew := ((Below.refl _ w).alloc (Nat.le_refl _) _).drew
  have hHa := hH.below hba
  obtain ⟨u, hrun, ⟨a', k', c', huf⟩, _⟩ := hHa.look x hx
  have hbx : (w.alloc (.cells #[.int .i64 x.1, .int .i64 x.2] 23)).drew.heap[w.heap.size]? = some (.cells #[.int .i64 x.1, .int .i64 x.2] 23 (0, 0)) := heap_alloc_new w _
  have hS0 : HsS w hb M w.heap.size x.1 x.2 u (lookH m x).isSome (w.alloc (.cells #[.int .i64 x.1, .int .i64 x.2] 23)).drew := ⟨hHa.cell, by rw [cell_of_row _ _ 0 _ 23 (0, 0) hbx]; rfl, by rw [cell_of_row _ _ 1 _ 23 (0, 0) hbx]; rfl, hrun, hba⟩
  obtain ⟨q, hq⟩ : ∃ q, (lookH m x).isSome = q := ⟨_, rfl⟩
  rw [hq] at hS0 ⊢
  obtain ⟨x1, x2⟩ := x
  subst huf
  have HBA : Hid (Below w.heap.size w (w.alloc (.cells #[.int .i64 x1, .int .i64 x2] 23)).drew) := hba
  clear hrun hHa hH hx hbx hq hba
  go_enter Tryd.func21, Tryd.ntmps21
  go_wp2_with fail
  refine wp_region_noPanic ?_
  refine wp_region_held_drew (S := fun w' => HsS w hb M w.heap.size x1 x2 (.slice a' k' c') q w') (by kernel_rfl) hS0 (fun hHeld => ?_)
  refine wpAnyH_take (i := 0) (v := ?_) (by simp only [List.getElem?_toArray, List.getElem?_cons_zero]; rfl) (by kernel_rfl) (by kernel_rfl) (by kernel_rfl) (fun _ _ _ h => h) (Or.inl ⟨by rfl, ?_⟩) (by assumption) ?_
  rotate_left
  · (intro w hSw; (try dsimp only at hSw); go_simp <;> with_reducible rfl)
  try simp only [Act.put, List.setIfInBounds_toArray, List.set_cons_zero, List.set_cons_succ]
  refine wpAnyH_take (i := 1) (v := ?_) (by simp only [List.getElem?_toArray, List.getElem?_cons_zero, List.getElem?_cons_succ]; rfl) (by kernel_rfl) (by kernel_rfl) (by kernel_rfl) (fun _ _ _ h => h) (Or.inl ⟨by rfl, ?_⟩) (by assumption) ?_
  rotate_left
  · (intro w hSw; (try dsimp only at hSw); go_simp <;> with_reducible rfl)
  try simp only [Act.put, List.setIfInBounds_toArray, List.set_cons_zero, List.set_cons_succ]
  refine wpAnyH_take (i := 2) (v := ?_) (by simp only [List.getElem?_toArray, List.getElem?_cons_zero, List.getElem?_cons_succ]; rfl) (by kernel_rfl) (by kernel_rfl) (by kernel_rfl) (fun _ _ _ h => h) (Or.inl ⟨by rfl, ?_⟩) (by assumption) ?_
  rotate_left
  · (intro w hSw; (try dsimp only at hSw); go_simp <;> with_reducible rfl)
  try simp only [Act.put, List.setIfInBounds_toArray, List.set_cons_zero, List.set_cons_succ]
  refine wpAnyH_take (i := 3) (v := ?_) (by simp only [List.getElem?_toArray, List.getElem?_cons_zero, List.getElem?_cons_succ]; rfl) (by kernel_rfl) (by kernel_rfl) (by kernel_rfl) (fun _ _ _ h => h) (Or.inl ⟨by rfl, ?_⟩) (by assumption) ?_
  rotate_left
  · (intro w hSw; (try dsimp only at hSw); go_simp <;> with_reducible rfl)
  try simp only [Act.put, List.setIfInBounds_toArray, List.set_cons_zero, List.set_cons_succ]
  refine wpAnyH_take (i := 4) (v := ?_) (by simp only [List.getElem?_toArray, List.getElem?_cons_zero, List.getElem?_cons_succ]; rfl) (by kernel_rfl) (by kernel_rfl) (by kernel_rfl) (fun _ _ _ h => h) (Or.inl ⟨by rfl, ?_⟩) (by assumption) ?_
  rotate_left
  · (intro w hSw; (try dsimp only at hSw); go_simp <;> with_reducible rfl)
  try simp only [Act.put, List.setIfInBounds_toArray, List.set_cons_zero, List.set_cons_succ]
  refine wpAnyH_take (i := 5) (v := ?_) (by simp only [List.getElem?_toArray, List.getElem?_cons_zero, List.getElem?_cons_succ]; rfl) (by kernel_rfl) (by kernel_rfl) (by kernel_rfl) (fun _ _ _ h => h) (Or.inl ⟨by rfl, ?_⟩) (by assumption) ?_
  rotate_left
  · (intro w hSw; (try dsimp only at hSw); go_simp <;> with_reducible rfl)
  try simp only [Act.put, List.setIfInBounds_toArray, List.set_cons_zero, List.set_cons_succ]
  refine wpAnyH_take (i := 6) (v := ?_) (by simp only [List.getElem?_toArray, List.getElem?_cons_zero, List.getElem?_cons_succ]; rfl) (by kernel_rfl) (by kernel_rfl) (by kernel_rfl) (fun _ _ _ h => h) (Or.inl ⟨by rfl, ?_⟩) (by assumption) ?_
  rotate_left
  · (intro w hSw; (try dsimp only at hSw); go_simp <;> with_reducible rfl)
  try simp only [Act.put, List.setIfInBounds_toArray, List.set_cons_zero, List.set_cons_succ]
  refine wpAnyH_take (i := 7) (v := ?_) (by simp only [List.getElem?_toArray, List.getElem?_cons_zero, List.getElem?_cons_succ]; rfl) (by kernel_rfl) (by kernel_rfl) (by kernel_rfl) (fun _ _ _ h => h) (Or.inl ⟨by rfl, ?_⟩) (by assumption) ?_
  rotate_left
  · (intro w hSw; (try dsimp only at hSw); go_simp <;> with_reducible rfl)
  try simp only [Act.put, List.setIfInBounds_toArray, List.set_cons_zero, List.set_cons_succ]
  refine wpAnyH_take (i := 8) (v := ?_) (by simp only [List.getElem?_toArray, List.getElem?_cons_zero, List.getElem?_cons_succ]; rfl) (by kernel_rfl) (by kernel_rfl) (by kernel_rfl) (fun _ _ _ h => h) (Or.inl ⟨by rfl, ?_⟩) (by assumption) ?_
  rotate_left
  · (intro w hSw; (try dsimp only at hSw); go_simp <;> with_reducible rfl)
  try simp only [Act.put, List.setIfInBounds_toArray, List.set_cons_zero, List.set_cons_succ]
  refine wpAnyH_take (i := 9) (v := ?_) (by simp only [List.getElem?_toArray, List.getElem?_cons_zero, List.getElem?_cons_succ]; rfl) (by kernel_rfl) (by kernel_rfl) (by kernel_rfl) (fun _ _ _ h => h) (Or.inl ⟨by rfl, ?_⟩) (by assumption) ?_
  rotate_left
  · (intro w hSw; (try dsimp only at hSw); go_simp <;> with_reducible rfl)
  try simp only [Act.put, List.setIfInBounds_toArray, List.set_cons_zero, List.set_cons_succ]
  refine wpAnyH_take (i := 10) (v := ?_) (by simp only [List.getElem?_toArray, List.getElem?_cons_zero, List.getElem?_cons_succ]; rfl) (by kernel_rfl) (by kernel_rfl) (by kernel_rfl) (fun _ _ _ h => h) (Or.inl ⟨by rfl, ?_⟩) (by assumption) ?_
  rotate_left
  · (intro w hSw; (try dsimp only at hSw); go_simp <;> with_reducible rfl)
  try simp only [Act.put, List.setIfInBounds_toArray, List.set_cons_zero, List.set_cons_succ]
  refine wpAnyH_done (by kernel_rfl) ?_ _
  refine NoPanic.normal ?_
  clear hHeld hS0
  go_wp2_with fail
  go_ret
  exact ⟨rfl, HBA.out⟩
theorem HpAt.new (w : World) : HpAt ((w.alloc (.map #[] 0)).alloc (.cells #[.map (some w.heap.size)] 57)) (w.heap.size + 1) w.heap.size 0 (.map []) [] := by
  refine ⟨?_, ?_, ?_, ?_, ?_, ?_⟩
  · have := heap_alloc_new (w.alloc (.map #[] 0)) (.cells #[.map (some w.heap.size)] 57)
    simpa using this
  · exact (World.ownsMap_made w Tryd.prog 23 heldElem).alloc _
  · intro x _ _; rfl
  · intro x l _ h; simp [lookH] at h
  · intro x l h; simp [lookH] at h
  · intro x l h; simp [lookH] at h
set_option maxRecDepth 100000 in
theorem h26 (w : World) : Calls Tryd.prog 26 #[] w fun e w' => e = .returned (.pointer (some ⟨w.heap.size + 1, 0, none⟩)) ∧ HpAt w' (w.heap.size + 1) w.heap.size 0 (.map []) [] ∧ Below w.heap.size w w' := by
  have HN : Hid (HpAt ((w.alloc (.map #[] 0)).alloc (.cells #[.map (some w.heap.size)] 57)) (w.heap.size + 1) w.heap.size 0 (.map []) []) := HpAt.new w
  have HB : Hid (Below w.heap.size w ((w.alloc (.map #[] 0)).alloc (.cells #[.map (some w.heap.size)] 57))) := ((Below.refl _ w).alloc (Nat.le_refl _) _).alloc (by simp) _
  have hmm := @run_makeMap Tryd.prog
  go_enter Tryd.func26, Tryd.ntmps26
  go_wp2_with fail
  go_ret
  exact ⟨rfl, HN.out, HB.out⟩
end Go.Proofs.YteikdgjlhdgapaaDoor
namespace Go.Proofs.YteikdgjlhdgapaaDoor
open Go.RowKit
attribute [local go_sem ↓] Go.wp_at_zero Go.wp_at_succ
/-- All blocks stay that hold neither a look nor names. -/
def KeepT (w w' : World) : Prop := w.heap.size ≤ w'.heap.size ∧ ∀ (k : Nat) (cs : Array Value) (t : TypeId) (fr : Nat × Nat), w.heap[k]? = some (Obj.cells cs t fr) → t ≠ 97 → t ≠ 23 → w'.heap[k]? = some (Obj.cells cs t fr)
theorem KeepT.refl (w : World) : KeepT w w := ⟨Nat.le_refl _, fun _ _ _ _ h _ _ => h⟩
theorem KeepT.trans {a b c : World} (h : KeepT a b) (k : KeepT b c) : KeepT a c := ⟨Nat.le_trans h.1 k.1, fun i cs t fr hi h1 h2 => k.2 i cs t fr (h.2 i cs t fr hi h1 h2) h1 h2⟩
theorem KeepT.of_below {w w' : World} (h : Below w.heap.size w w') : KeepT w w' := ⟨h.size, fun k _ _ _ hk _ _ => (h.block k (Array.getElem?_eq_some_iff.1 hk).1).trans hk⟩
/-- A look at lb: its heap, its operators, the names it waits for, each once. -/
structure LkAt (w : World) (base lb : Nat) (p : Value) (B g M n : Nat) (nv : Value) (names : List Nm) : Prop where
  blk : w.heap[lb]? = some (.cells #[p, .slice (some ⟨g, 0, none⟩) 8 8, nv, .map (some M)] 97 (0, 0))
  hlb : base ≤ lb
  hM : base ≤ M
  ops : OpsAt w B g
  row : w.ownsRow base 23 2 nv names.length (flatN names)
  met : w.ownsMap Tryd.prog 23 (unitElem (H := Unit)) M n (setD names)
  wf : ∀ x ∈ names, wfN x
theorem LkAt.below {w w' : World} {base lb : Nat} {p : Value} {B g M n : Nat} {nv : Value} {names : List Nm} (h : LkAt w base lb p B g M n nv names) (hb : Below w.heap.size w w') : LkAt w' base lb p B g M n nv names :=
  ⟨(hb.block lb (Array.getElem?_eq_some_iff.1 h.blk).1).trans h.blk, h.hlb, h.hM, h.ops.below hb, owns_below h.row hb, h.met.kept (below_grown hb) (by simp), h.wf⟩
theorem LkAt.lookup {w : World} {base lb : Nat} {p : Value} {B g M n : Nat} {nv : Value} {names : List Nm} (h : LkAt w base lb p B g M n nv names) (x : Nm) (hx : wfN x) : (Instr.lookup 95 (.map (some M)) (.agg #[.int .i64 x.1, .int .i64 x.2]) true).run Tryd.prog w = .ok (.tuple #[.agg #[], .bool (hasN names x)]) w := by
  obtain ⟨v, ps, hrun, hR⟩ := h.met.look_ok keyed23 Tryd.underlying95 (z := .agg #[]) (by go_simp) unitElem_mk (key23 x hx)
  obtain ⟨rfl, _⟩ := unitElem_inv hR
  rw [hrun, has_setD names x h.wf hx]
abbrev WtS (lb M bx : Nat) (x1 x2 : Int) (f : Bool) (w' : World) : Prop :=
  w'.cell? ⟨lb, 3, none⟩ = some (.map (some M)) ∧ w'.cell? ⟨bx, 0, none⟩ = some (.int .i64 x1) ∧ w'.cell? ⟨bx, 1, none⟩ = some (.int .i64 x2) ∧ (Instr.lookup 95 (.map (some M)) (.agg #[.int .i64 x1, .int .i64 x2]) true).run Tryd.prog w' = .ok (.tuple #[.agg #[], .bool f]) w'
theorem LkAt.cells {w : World} {base lb : Nat} {p : Value} {B g M n : Nat} {nv : Value} {names : List Nm} (h : LkAt w base lb p B g M n nv names) : w.cell? ⟨lb, 0, none⟩ = some p ∧ w.cell? ⟨lb, 1, none⟩ = some (.slice (some ⟨g, 0, none⟩) 8 8) ∧ w.cell? ⟨lb, 2, none⟩ = some nv ∧ w.cell? ⟨lb, 3, none⟩ = some (.map (some M)) := by
  refine ⟨?_, ?_, ?_, ?_⟩
  · rw [cell_of_row w lb 0 _ 97 (0, 0) h.blk]; rfl
  · rw [cell_of_row w lb 1 _ 97 (0, 0) h.blk]; rfl
  · rw [cell_of_row w lb 2 _ 97 (0, 0) h.blk]; rfl
  · rw [cell_of_row w lb 3 _ 97 (0, 0) h.blk]; rfl
abbrev PtS3 (lb M bx : Nat) (x1 x2 : Int) (w' : World) : Prop :=
  w'.cell? ⟨lb, 3, none⟩ = some (.map (some M)) ∧ w'.cell? ⟨bx, 0, none⟩ = some (.int .i64 x1) ∧ w'.cell? ⟨bx, 1, none⟩ = some (.int .i64 x2)
/-- Between the map's update and the row's. -/
structure LkMid (w : World) (base lb : Nat) (p : Value) (B g M n : Nat) (nv : Value) (names : List Nm) (x : Nm) : Prop where
  blk : w.heap[lb]? = some (.cells #[p, .slice (some ⟨g, 0, none⟩) 8 8, nv, .map (some M)] 97 (0, 0))
  hlb : base ≤ lb
  hM : base ≤ M
  ops : OpsAt w B g
  row : w.ownsRow base 23 2 nv names.length (flatN names)
  met : w.ownsMap Tryd.prog 23 (unitElem (H := Unit)) M (n + 1) (setD (names ++ [x]))
  wf : ∀ y ∈ names ++ [x], wfN y
theorem Below.of_turn {w w' : World} {M base : Nat} (h : w.drew.mapTurned w' M) (hM : base ≤ M) : Below base w w' := by
  have hg := h.grown
  obtain ⟨es, ck, _, _, hm, _⟩ := h
  have hlt : M < w.heap.size := (Array.getElem?_eq_some_iff.1 hm).1
  exact ⟨hg.os, hg.tape, hg.output, hg.size, fun k hk => hg.block k (Nat.lt_trans (Nat.lt_of_lt_of_le hk hM) hlt) (by simp; omega)⟩
theorem KeepT.of_turn {w w' : World} {M : Nat} (h : w.drew.mapTurned w' M) : KeepT w w' := by
  have hg := h.grown
  obtain ⟨es, ck, _, _, hm, _⟩ := h
  refine ⟨hg.size, fun k cs t fr hk _ _ => ?_⟩
  refine (hg.block k (Array.getElem?_eq_some_iff.1 hk).1 (fun e => ?_)).trans hk
  simp only [Option.some.injEq] at e
  rw [e] at hk
  have hm' : w.heap[M]? = some (.map es ck) := hm
  rw [hm'] at hk
  cases hk
theorem LkAt.mid {w w' : World} {base lb : Nat} {p : Value} {B g M n : Nat} {nv : Value} {names : List Nm} {x : Nm} (h : LkAt w base lb p B g M n nv names) (hx : wfN x) (hm : w'.ownsMap Tryd.prog 23 (unitElem (H := Unit)) M (n + 1) ((setD names).put (kLit x) (.agg []))) (ht : w.drew.mapTurned w' M) : LkMid w' base lb p B g M n nv names x := by
  have hg := ht.grown
  obtain ⟨es, ck, hMb, _⟩ := h.met
  have hne : ∀ (k : Nat) (cs : Array Value) (t : TypeId) (fr : Nat × Nat), w.heap[k]? = some (Obj.cells cs t fr) → k ≠ M := fun k cs t fr hk e => by rw [e, hMb] at hk; cases hk
  have hkp : ∀ (k : Nat) (cs : Array Value) (t : TypeId) (fr : Nat × Nat), w.heap[k]? = some (Obj.cells cs t fr) → w'.heap[k]? = some (Obj.cells cs t fr) := fun k cs t fr hk => (hg.block k (Array.getElem?_eq_some_iff.1 hk).1 (by simpa using hne k cs t fr hk)).trans hk
  refine ⟨hkp _ _ _ _ h.blk, h.hlb, h.hM, ⟨hkp _ _ _ _ h.ops.row, fun k hk => hkp _ _ _ _ (h.ops.box k hk)⟩, ?_, by rw [setD_snoc]; exact hm, ?_⟩
  · refine ⟨h.row.1, ?_⟩
    rcases h.row.2 with hh | ⟨g', cap, cur, e1, e2, e3, e4⟩
    · exact .inl hh
    · exact .inr ⟨g', cap, cur, e1, e2, hkp _ _ _ _ e3, e4⟩
  · intro y hy
    rcases List.mem_append.1 hy with hy | hy
    · exact h.wf y hy
    · simp at hy; rw [hy]; exact hx
theorem owns_eq6 {w w' : World} {base : Nat} {e : TypeId} {s n : Nat} {v : Value} {xs : List Value} (h : w.ownsRow base e s v n xs) (hg : ∀ g, v.ownBlock = some g → w'.heap[g]? = w.heap[g]?) : w'.ownsRow base e s v n xs := by
  refine ⟨h.1, ?_⟩
  rcases h.2 with hh | ⟨g, cap, cur, e1, e2, e3, e4⟩
  · exact .inl hh
  · exact .inr ⟨g, cap, cur, e1, e2, (hg g (by rw [e1]; rfl)).trans e3, e4⟩
abbrev PtB (bx : Nat) (x1 x2 : Int) (w' : World) : Prop := w'.cell? ⟨bx, 0, none⟩ = some (.int .i64 x1) ∧ w'.cell? ⟨bx, 1, none⟩ = some (.int .i64 x2)
theorem ptB_of {w : World} {bx : Nat} {x1 x2 : Int} (h : w.heap[bx]? = some (.cells #[.int .i64 x1, .int .i64 x2] 23 (0, 0))) : PtB bx x1 x2 w := ⟨by rw [cell_of_row w _ 0 _ 23 (0, 0) h]; rfl, by rw [cell_of_row w _ 1 _ 23 (0, 0) h]; rfl⟩
theorem LkMid.fin {w w5 : World} {base lb : Nat} {p : Value} {B g M n : Nat} {nv : Value} {names : List Nm} {x : Nm} {A : Obj} {gg cp : Nat} (h : LkMid w base lb p B g M n nv names x) (hown : w5.ownsRow base 23 2 (.slice (some ⟨gg, 0, none⟩) (names.length + 1) cp) (names.length + 1) (flatN names ++ [.int .i64 x.1, .int .i64 x.2])) (hgr : (w.alloc A).drew.grownBy w5 nv.ownBlock) :
    w5.heap[lb]? = some (.cells #[p, .slice (some ⟨g, 0, none⟩) 8 8, nv, .map (some M)] 97 (0, 0)) ∧ LkAt (w5.setCell ⟨lb, 2, none⟩ (.slice (some ⟨gg, 0, none⟩) (names.length + 1) cp)) base lb p B g M (n + 1) (.slice (some ⟨gg, 0, none⟩) (names.length + 1) cp) (names ++ [x]) ∧ Below base w (w5.setCell ⟨lb, 2, none⟩ (.slice (some ⟨gg, 0, none⟩) (names.length + 1) cp)) ∧ KeepT w (w5.setCell ⟨lb, 2, none⟩ (.slice (some ⟨gg, 0, none⟩) (names.length + 1) cp)) := by
  have hnv : ∀ (k : Nat) (cs : Array Value) (t : TypeId) (fr : Nat × Nat), w.heap[k]? = some (Obj.cells cs t fr) → t ≠ 23 → nv.ownBlock ≠ some k := by
    intro k cs t fr hk ht e
    rcases h.row.2 with ⟨h1, _⟩ | ⟨g', c', cur', h1, _, h3, _⟩
    · rw [h1] at e; cases e
    · rw [h1] at e
      simp only [Value.ownBlock, Option.some.injEq] at e
      subst e
      rw [h3] at hk
      simp only [Option.some.injEq, Obj.cells.injEq] at hk
      exact ht hk.2.1.symm
  have hlt : ∀ (k : Nat) (o : Obj), w.heap[k]? = some o → k < w.heap.size := fun k o hk => (Array.getElem?_eq_some_iff.1 hk).1
  have hsz5 : w.heap.size + 1 ≤ w5.heap.size := by have := hgr.size; simpa using this
  have hk5 : ∀ (k : Nat) (cs : Array Value) (t : TypeId) (fr : Nat × Nat), w.heap[k]? = some (Obj.cells cs t fr) → t ≠ 23 → w5.heap[k]? = some (Obj.cells cs t fr) := fun k cs t fr hk ht =>
    (hgr.block k (by show k < (w.alloc A).heap.size; have := hlt k _ hk; simp; omega) (fun e => hnv k cs t fr hk ht e.symm)).trans ((Below.heap_alloc w A k (hlt k _ hk)).trans hk)
  have hblk5 := hk5 lb _ _ _ h.blk (by decide)
  have hlb6 : ∀ (k : Nat), k ≠ lb → (w5.setCell ⟨lb, 2, none⟩ (.slice (some ⟨gg, 0, none⟩) (names.length + 1) cp)).heap[k]? = w5.heap[k]? := fun k hk => heap_setCell_other w5 ⟨lb, 2, none⟩ k _ hk
  have hne97 : ∀ (k : Nat) (cs : Array Value) (t : TypeId) (fr : Nat × Nat), w5.heap[k]? = some (Obj.cells cs t fr) → t ≠ 97 → k ≠ lb := fun k cs t fr hk ht e => by
    rw [e, hblk5] at hk
    simp only [Option.some.injEq, Obj.cells.injEq] at hk
    exact ht hk.2.1.symm
  have hMb : w5.ownsMap Tryd.prog 23 (unitElem (H := Unit)) M (n + 1) (setD (names ++ [x])) := by
    refine ((h.met.alloc A).drew).kept hgr (fun e => ?_)
    obtain ⟨es, ck, hm, _⟩ := h.met
    rcases h.row.2 with ⟨h1, _⟩ | ⟨g', c', cur', h1, _, h3, _⟩
    · rw [h1] at e; cases e
    · rw [h1] at e
      simp only [Value.ownBlock, Option.some.injEq] at e
      rw [← e, hm] at h3
      cases h3
  have hMlb : M ≠ lb := fun e => by
    obtain ⟨es, ck, hm, _⟩ := hMb
    rw [e, hblk5] at hm
    cases hm
  refine ⟨hblk5, ⟨?_, h.hlb, h.hM, ⟨?_, fun k hk => ?_⟩, ?_, hMb.setCell hMlb _, h.wf⟩, ?_, by simp; omega, fun k cs t fr hk h97 h23 => (fun e5 => (hlb6 k (hne97 k cs t fr e5 h97)).trans e5) (hk5 k cs t fr hk h23)⟩
  · exact (heap_setCell_same w5 lb 2 _ 97 _ hblk5).trans rfl
  · have e5 := hk5 _ _ _ _ h.ops.row (by decide)
    exact (hlb6 _ (hne97 _ _ _ _ e5 (by decide))).trans e5
  · have e5 := hk5 _ _ _ _ (h.ops.box k hk) (by decide)
    exact (hlb6 _ (hne97 _ _ _ _ e5 (by decide))).trans e5
  · have hl : (names ++ [x]).length = names.length + 1 := by simp
    rw [hl, flatN_append]
    refine owns_eq6 hown fun g' hg' => hlb6 g' ?_
    rcases hown.2 with ⟨h1, _⟩ | ⟨g2, c2, cur2, h1, _, h3, _⟩
    · cases h1
    · rw [h1] at hg'
      simp only [Value.ownBlock, Option.some.injEq] at hg'
      subst hg'
      exact hne97 _ _ _ _ h3 (by decide)
  · have x1 : Below base w w5 := by
      refine ((Below.refl base w).alloc (Nat.le_trans h.hlb (Nat.le_of_lt (hlt lb _ h.blk))) A).drew.grown hgr (by show base ≤ (w.alloc A).heap.size; have h1 := h.hlb; have h2 := hlt lb _ h.blk; simp; omega) (fun k e => (h.row.lt k e).1)
    exact x1.setCell (p := ⟨lb, 2, none⟩) h.hlb _
set_option maxRecDepth 100000 in
set_option maxHeartbeats 4000000 in
theorem h92 (base lb : Nat) (p : Value) (B g M n : Nat) (nv : Value) (names : List Nm) (x : Nm) (w : World) (h : LkAt w base lb p B g M n nv names) (hx : wfN x) (hn : n < 1000000000) (hl : names.length < 1000000000) (hbs : base ≤ w.heap.size) :
    Calls Tryd.prog 92 #[.pointer (some ⟨lb, 0, none⟩), .agg #[.int .i64 x.1, .int .i64 x.2]] w fun e w' => e = .returned (.int .u8 3) ∧ (∃ n' nv', LkAt w' base lb p B g M n' nv' (addN names x) ∧ n' ≤ n + 1) ∧ Below base w w' ∧ KeepT w w' := by
  have hba : Below w.heap.size w (w.alloc (.cells #[.int .i64 x.1, .int .i64 x.2] 23)) := (Below.refl _ w).alloc (Nat.le_refl _) _
  have HLa : Hid (LkAt (w.alloc (.cells #[.int .i64 x.1, .int .i64 x.2] 23)) base lb p B g M n nv names) := h.below hba
  have HBx : Hid ((w.alloc (.cells #[.int .i64 x.1, .int .i64 x.2] 23)).heap[w.heap.size]? = some (.cells #[.int .i64 x.1, .int .i64 x.2] 23 (0, 0))) := heap_alloc_new w _
  have HX : Hid (wfN x) := hx
  have HBA : Hid (Below base w (w.alloc (.cells #[.int .i64 x.1, .int .i64 x.2] 23))) := hba.mono hbs
  have HSt : Hid (∀ W, Below (w.alloc (.cells #[.int .i64 x.1, .int .i64 x.2] 23)).heap.size (w.alloc (.cells #[.int .i64 x.1, .int .i64 x.2] 23)) W → WtS lb M w.heap.size x.1 x.2 (hasN names x) W) := fun W hW => by
    have h1 := HLa.out.below hW
    have h2 := (hW.block w.heap.size (by simp)).trans HBx.out
    exact ⟨h1.cells.2.2.2, by rw [cell_of_row W _ 0 _ 23 (0, 0) h2]; rfl, by rw [cell_of_row W _ 1 _ 23 (0, 0) h2]; rfl, h1.lookup x hx⟩
  obtain ⟨x1, x2⟩ := x
  have HNv : Hid (∀ k, nv.ownBlock = some k → k ≠ w.heap.size) := fun k e => by have := (h.row.lt k e).2; omega
  clear h hx hba
  have hS0 := HSt.out _ (Below.drew (Below.refl _ _))
  obtain ⟨an, cn, hnf⟩ := owns_form HLa.out.row
  subst hnf
  have HBd : Hid (Below (w.alloc (.cells #[.int .i64 x1, .int .i64 x2] 23)).heap.size (w.alloc (.cells #[.int .i64 x1, .int .i64 x2] 23)) (((w.alloc (.cells #[.int .i64 x1, .int .i64 x2] 23)).alloc (.cells #[] 136)).drew)) := (((Below.refl _ _).alloc (Nat.le_refl _) _).drew : Below _ _ _)
  have HL2 : Hid (LkAt (((w.alloc (.cells #[.int .i64 x1, .int .i64 x2] 23)).alloc (.cells #[] 136)).drew) base lb p B g M n (.slice an names.length cn) names) := HLa.out.below HBd.out
  have HB2 : Hid (Below base w (((w.alloc (.cells #[.int .i64 x1, .int .i64 x2] 23)).alloc (.cells #[] 136)).drew)) := HBA.out.trans (HBd.out.mono (by simp; omega))
  have HK2 : Hid (KeepT w ((w.alloc (.cells #[.int .i64 x1, .int .i64 x2] 23)).alloc (.cells #[] 136)).drew) := (KeepT.of_below ((Below.refl _ w).alloc (Nat.le_refl _) _)).trans (KeepT.of_below HBd.out)
  have HX2 : Hid ((((w.alloc (.cells #[.int .i64 x1, .int .i64 x2] 23)).alloc (.cells #[] 136)).drew).heap[w.heap.size]? = some (.cells #[.int .i64 x1, .int .i64 x2] 23 (0, 0))) := (HBd.out.block w.heap.size (by simp)).trans HBx.out
  cases hh : hasN names (x1, x2)
  · have HE : Hid (addN names (x1, x2) = names ++ [(x1, x2)]) := by show addN names (x1, x2) = _; unfold addN; rw [hh]; rfl
    rw [hh] at hS0
    simp only [hh] at HSt
    clear hh
    go_enter Tryd.func92, Tryd.ntmps92
    go_wp2_with fail
    refine wp_region_noPanic ?_
    refine wp_region_held_drew (S := fun w' => WtS lb M w.heap.size x1 x2 false w') (by kernel_rfl) hS0 (fun hHeld => ?_)
    refine wpAnyH_take (i := 0) (v := ?_) (by simp only [List.getElem?_toArray, List.getElem?_cons_zero]; rfl) (by kernel_rfl) (by kernel_rfl) (by kernel_rfl) (fun _ _ _ h => h) (Or.inl ⟨by rfl, ?_⟩) (by assumption) ?_
    rotate_left
    · (intro w hSw; (try dsimp only at hSw); go_simp <;> with_reducible rfl)
    try simp only [Act.put, List.setIfInBounds_toArray, List.set_cons_zero, List.set_cons_succ]
    refine wpAnyH_take (i := 1) (v := ?_) (by simp only [List.getElem?_toArray, List.getElem?_cons_zero, List.getElem?_cons_succ]; rfl) (by kernel_rfl) (by kernel_rfl) (by kernel_rfl) (fun _ _ _ h => h) (Or.inl ⟨by rfl, ?_⟩) (by assumption) ?_
    rotate_left
    · (intro w hSw; (try dsimp only at hSw); go_simp <;> with_reducible rfl)
    try simp only [Act.put, List.setIfInBounds_toArray, List.set_cons_zero, List.set_cons_succ]
    refine wpAnyH_take (i := 2) (v := ?_) (by simp only [List.getElem?_toArray, List.getElem?_cons_zero, List.getElem?_cons_succ]; rfl) (by kernel_rfl) (by kernel_rfl) (by kernel_rfl) (fun _ _ _ h => h) (Or.inl ⟨by rfl, ?_⟩) (by assumption) ?_
    rotate_left
    · (intro w hSw; (try dsimp only at hSw); go_simp <;> with_reducible rfl)
    try simp only [Act.put, List.setIfInBounds_toArray, List.set_cons_zero, List.set_cons_succ]
    refine wpAnyH_take (i := 3) (v := ?_) (by simp only [List.getElem?_toArray, List.getElem?_cons_zero, List.getElem?_cons_succ]; rfl) (by kernel_rfl) (by kernel_rfl) (by kernel_rfl) (fun _ _ _ h => h) (Or.inl ⟨by rfl, ?_⟩) (by assumption) ?_
    rotate_left
    · (intro w hSw; (try dsimp only at hSw); go_simp <;> with_reducible rfl)
    try simp only [Act.put, List.setIfInBounds_toArray, List.set_cons_zero, List.set_cons_succ]
    refine wpAnyH_take (i := 4) (v := ?_) (by simp only [List.getElem?_toArray, List.getElem?_cons_zero, List.getElem?_cons_succ]; rfl) (by kernel_rfl) (by kernel_rfl) (by kernel_rfl) (fun _ _ _ h => h) (Or.inl ⟨by rfl, ?_⟩) (by assumption) ?_
    rotate_left
    · (intro w hSw; (try dsimp only at hSw); go_simp <;> with_reducible rfl)
    try simp only [Act.put, List.setIfInBounds_toArray, List.set_cons_zero, List.set_cons_succ]
    refine wpAnyH_take (i := 5) (v := ?_) (by simp only [List.getElem?_toArray, List.getElem?_cons_zero, List.getElem?_cons_succ]; rfl) (by kernel_rfl) (by kernel_rfl) (by kernel_rfl) (fun _ _ _ h => h) (Or.inl ⟨by rfl, ?_⟩) (by assumption) ?_
    rotate_left
    · (intro w hSw; (try dsimp only at hSw); go_simp <;> with_reducible rfl)
    try simp only [Act.put, List.setIfInBounds_toArray, List.set_cons_zero, List.set_cons_succ]
    refine wpAnyH_take (i := 6) (v := ?_) (by simp only [List.getElem?_toArray, List.getElem?_cons_zero, List.getElem?_cons_succ]; rfl) (by kernel_rfl) (by kernel_rfl) (by kernel_rfl) (fun _ _ _ h => h) (Or.inl ⟨by rfl, ?_⟩) (by assumption) ?_
    rotate_left
    · (intro w hSw; (try dsimp only at hSw); go_simp <;> with_reducible rfl)
    try simp only [Act.put, List.setIfInBounds_toArray, List.set_cons_zero, List.set_cons_succ]
    refine wpAnyH_take (i := 7) (v := ?_) (by simp only [List.getElem?_toArray, List.getElem?_cons_zero, List.getElem?_cons_succ]; rfl) (by kernel_rfl) (by kernel_rfl) (by kernel_rfl) (fun _ _ _ h => h) (Or.inl ⟨by rfl, ?_⟩) (by assumption) ?_
    rotate_left
    · (intro w hSw; (try dsimp only at hSw); go_simp <;> with_reducible rfl)
    try simp only [Act.put, List.setIfInBounds_toArray, List.set_cons_zero, List.set_cons_succ]
    refine wpAnyH_take (i := 8) (v := ?_) (by simp only [List.getElem?_toArray, List.getElem?_cons_zero, List.getElem?_cons_succ]; rfl) (by kernel_rfl) (by kernel_rfl) (by kernel_rfl) (fun _ _ _ h => h) (Or.inl ⟨by rfl, ?_⟩) (by assumption) ?_
    rotate_left
    · (intro w hSw; (try dsimp only at hSw); go_simp <;> with_reducible rfl)
    try simp only [Act.put, List.setIfInBounds_toArray, List.set_cons_zero, List.set_cons_succ]
    refine wpAnyH_ready (rs := [9]) (by kernel_rfl) (by simp) ?_
    refine AllReadyH.cons (by simp only [List.getElem?_toArray, List.getElem?_cons_zero, List.getElem?_cons_succ]; rfl) (fun K hK => ?_) AllReadyH.nil
    go_simp
    refine hK.out _ _ ?_ (fun hHeld => ?_)
    · exact HSt.out _ HBd.out
    clear hK K
    try simp only [Act.put, List.setIfInBounds_toArray, List.set_cons_zero, List.set_cons_succ]
    refine wpAnyH_ready (rs := [10]) (by kernel_rfl) (by simp) ?_
    refine AllReadyH.cons (by simp only [List.getElem?_toArray, List.getElem?_cons_zero, List.getElem?_cons_succ]; rfl) (fun K hK => ?_) AllReadyH.nil
    go_simp
    refine hK.out _ _ ?_ (fun hHeld => ?_)
    · exact (by assumption)
    clear hK K
    try simp only [Act.put, List.setIfInBounds_toArray, List.set_cons_zero, List.set_cons_succ]
    refine wpAnyH_take (i := 11) (v := ?_) (by simp only [List.getElem?_toArray, List.getElem?_cons_zero, List.getElem?_cons_succ]; rfl) (by kernel_rfl) (by kernel_rfl) (by kernel_rfl) (fun _ _ _ h => h) (Or.inl ⟨by rfl, ?_⟩) (by assumption) ?_
    rotate_left
    · (intro w hSw; (try dsimp only at hSw); go_simp <;> with_reducible rfl)
    try simp only [Act.put, List.setIfInBounds_toArray, List.set_cons_zero, List.set_cons_succ]
    refine wpAnyH_done (by kernel_rfl) ?_ _
    refine NoPanic.normal ?_
    clear hHeld hS0
    go_wp2_with fail
    generalize ((w.alloc (.cells #[.int .i64 x1, .int .i64 x2] 23)).alloc (.cells #[] 136)).drew = W2 at *
    obtain ⟨w4, hrun, hmap4, hturn⟩ := HL2.out.met.drew.store keyed23 Tryd.underlying95 (by unfold maxLen; omega) (key23 (x1, x2) HX.out) unitElem_mk
    have hg4 := hturn.grown
    have hbx2 : w.heap.size < W2.heap.size := (Array.getElem?_eq_some_iff.1 HX2.out).1
    have hbxM : w.heap.size ≠ M := fun e => by
      obtain ⟨es, ck, hm, _⟩ := HL2.out.met
      have := HX2.out
      rw [e, hm] at this
      cases this
    have hX4 : w4.heap[w.heap.size]? = some (.cells #[.int .i64 x1, .int .i64 x2] 23 (0, 0)) := (hg4.block _ hbx2 (by simpa using hbxM)).trans HX2.out
    have hlbM : lb ≠ M := fun e => by
      obtain ⟨es, ck, hm, _⟩ := HL2.out.met
      have := HL2.out.blk
      rw [e, hm] at this
      cases this
    have hblk4 : w4.heap[lb]? = some (.cells #[p, .slice (some ⟨g, 0, none⟩) 8 8, .slice an names.length cn, .map (some M)] 97 (0, 0)) := (hg4.block _ (Array.getElem?_eq_some_iff.1 HL2.out.blk).1 (by simpa using hlbM)).trans HL2.out.blk
    have HS4 : Hid (PtS3 lb M w.heap.size x1 x2 w4) := ⟨by rw [cell_of_row w4 lb 3 _ 97 (0, 0) hblk4]; rfl, by rw [cell_of_row w4 _ 0 _ 23 (0, 0) hX4]; rfl, by rw [cell_of_row w4 _ 1 _ 23 (0, 0) hX4]; rfl⟩
    have hS3 : PtS3 lb M w.heap.size x1 x2 W2.drew := ⟨HL2.out.cells.2.2.2, by rw [cell_of_row W2.drew _ 0 _ 23 (0, 0) HX2.out]; rfl, by rw [cell_of_row W2.drew _ 1 _ 23 (0, 0) HX2.out]; rfl⟩
    have HF4 : Hid (LkMid w4 base lb p B g M n (.slice an names.length cn) names (x1, x2) ∧ Below base w w4 ∧ w4.heap[w.heap.size]? = some (.cells #[.int .i64 x1, .int .i64 x2] 23 (0, 0))) := ⟨HL2.out.mid HX.out hmap4 hturn, HB2.out.trans (Below.of_turn hturn HL2.out.hM), hX4⟩
    have HK4 : Hid (KeepT w w4) := HK2.out.trans (KeepT.of_turn hturn)
    clear hmap4 hturn hg4 hX4 hblk4
    refine wp_region_noPanic ?_
    refine wp_region_held_drew (S := fun w' => PtS3 lb M w.heap.size x1 x2 w') (by kernel_rfl) hS3 (fun hHeld => ?_)
    refine wpAnyH_take (i := 0) (v := ?_) (by simp only [List.getElem?_toArray, List.getElem?_cons_zero]; rfl) (by kernel_rfl) (by kernel_rfl) (by kernel_rfl) (fun _ _ _ h => h) (Or.inl ⟨by rfl, ?_⟩) (by assumption) ?_
    rotate_left
    · (intro w hSw; (try dsimp only at hSw); go_simp <;> with_reducible rfl)
    try simp only [Act.put, List.setIfInBounds_toArray, List.set_cons_zero, List.set_cons_succ]
    refine wpAnyH_take (i := 1) (v := ?_) (by simp only [List.getElem?_toArray, List.getElem?_cons_zero, List.getElem?_cons_succ]; rfl) (by kernel_rfl) (by kernel_rfl) (by kernel_rfl) (fun _ _ _ h => h) (Or.inl ⟨by rfl, ?_⟩) (by assumption) ?_
    rotate_left
    · (intro w hSw; (try dsimp only at hSw); go_simp <;> with_reducible rfl)
    try simp only [Act.put, List.setIfInBounds_toArray, List.set_cons_zero, List.set_cons_succ]
    refine wpAnyH_take (i := 2) (v := ?_) (by simp only [List.getElem?_toArray, List.getElem?_cons_zero, List.getElem?_cons_succ]; rfl) (by kernel_rfl) (by kernel_rfl) (by kernel_rfl) (fun _ _ _ h => h) (Or.inl ⟨by rfl, ?_⟩) (by assumption) ?_
    rotate_left
    · (intro w hSw; (try dsimp only at hSw); go_simp <;> with_reducible rfl)
    try simp only [Act.put, List.setIfInBounds_toArray, List.set_cons_zero, List.set_cons_succ]
    refine wpAnyH_take (i := 3) (v := ?_) (by simp only [List.getElem?_toArray, List.getElem?_cons_zero, List.getElem?_cons_succ]; rfl) (by kernel_rfl) (by kernel_rfl) (by kernel_rfl) (fun _ _ _ h => h) (Or.inl ⟨by rfl, ?_⟩) (by assumption) ?_
    rotate_left
    · (intro w hSw; (try dsimp only at hSw); go_simp <;> with_reducible rfl)
    try simp only [Act.put, List.setIfInBounds_toArray, List.set_cons_zero, List.set_cons_succ]
    refine wpAnyH_take (i := 4) (v := ?_) (by simp only [List.getElem?_toArray, List.getElem?_cons_zero, List.getElem?_cons_succ]; rfl) (by kernel_rfl) (by kernel_rfl) (by kernel_rfl) (fun _ _ _ h => h) (Or.inl ⟨by rfl, ?_⟩) (by assumption) ?_
    rotate_left
    · (intro w hSw; (try dsimp only at hSw); go_simp <;> with_reducible rfl)
    try simp only [Act.put, List.setIfInBounds_toArray, List.set_cons_zero, List.set_cons_succ]
    refine wpAnyH_take (i := 5) (v := ?_) (by simp only [List.getElem?_toArray, List.getElem?_cons_zero, List.getElem?_cons_succ]; rfl) (by kernel_rfl) (by kernel_rfl) (by kernel_rfl) (fun _ _ _ h => h) (Or.inl ⟨by rfl, ?_⟩) (by assumption) ?_
    rotate_left
    · (intro w hSw; (try dsimp only at hSw); go_simp <;> with_reducible rfl)
    try simp only [Act.put, List.setIfInBounds_toArray, List.set_cons_zero, List.set_cons_succ]
    refine wpAnyH_ready (rs := [6]) (by kernel_rfl) (by simp) ?_
    refine AllReadyH.cons (by simp only [List.getElem?_toArray, List.getElem?_cons_zero, List.getElem?_cons_succ]; rfl) (fun K hK => ?_) AllReadyH.nil
    go_simp
    refine hK.out _ _ ?_ (fun hHeld => ?_)
    · exact HS4.out
    clear hK K
    try simp only [Act.put, List.setIfInBounds_toArray, List.set_cons_zero, List.set_cons_succ]
    refine wpAnyH_done (by kernel_rfl) ?_ _
    refine NoPanic.normal ?_
    clear hHeld hS3 hrun
    obtain ⟨i0, hi, hz, hs, hby⟩ := info23
    have hbx4 : w.heap.size < w4.heap.size := (Array.getElem?_eq_some_iff.1 HF4.out.2.2).1
    have HXa : Hid ((w4.alloc (.cells #[.int .i64 x1, .int .i64 x2] 23)).drew.heap[w.heap.size]? = some (.cells #[.int .i64 x1, .int .i64 x2] 23 (0, 0))) := (Below.heap_alloc w4 _ _ hbx4).trans HF4.out.2.2
    have hbx4 : w.heap.size < (w4.alloc (.cells #[.int .i64 x1, .int .i64 x2] 23)).drew.heap.size := (Array.getElem?_eq_some_iff.1 HXa.out).1
    have HSA : Hid (PtB w.heap.size x1 x2 (w4.alloc (.cells #[.int .i64 x1, .int .i64 x2] 23)).drew) := ptB_of HXa.out
    have hS4 : PtB w.heap.size x1 x2 w4.drew := ptB_of HF4.out.2.2
    have HRa : Hid ((w4.alloc (.cells #[.int .i64 x1, .int .i64 x2] 23)).drew.ownsRow base 23 2 (.slice an names.length cn) names.length (flatN names)) := HF4.out.1.row.alloc _
    have hba4 : base ≤ (w4.alloc (.cells #[.int .i64 x1, .int .i64 x2] 23)).drew.heap.size := by
      have h1 := HF4.out.2.1.size
      show base ≤ (w4.alloc _).heap.size
      simp; omega
    have c2 : w4.cell? ⟨lb, 2, none⟩ = some (.slice an names.length cn) := by rw [cell_of_row w4 lb 2 _ 97 (0, 0) HF4.out.1.blk]; rfl
    have hlb4 : lb < w4.heap.size := (Array.getElem?_eq_some_iff.1 HF4.out.1.blk).1
    have c2a : (w4.alloc (.cells #[.int .i64 x1, .int .i64 x2] 23)).cell? ⟨lb, 2, none⟩ = some (.slice an names.length cn) := (World.cell?_of_block (a := ⟨lb, 2, none⟩) (Below.heap_alloc w4 _ _ hlb4)).trans c2
    go_wp2_with fail
    refine wp_region_noPanic ?_
    refine wp_region_held_drew (S := fun w' => PtB w.heap.size x1 x2 w') (by kernel_rfl) hS4 (fun hHeld => ?_)
    refine wpAnyH_take (i := 0) (v := ?_) (by simp only [List.getElem?_toArray, List.getElem?_cons_zero]; rfl) (by kernel_rfl) (by kernel_rfl) (by kernel_rfl) (fun _ _ _ h => h) (Or.inl ⟨by rfl, ?_⟩) (by assumption) ?_
    rotate_left
    · (intro w hSw; (try dsimp only at hSw); go_simp <;> with_reducible rfl)
    try simp only [Act.put, List.setIfInBounds_toArray, List.set_cons_zero, List.set_cons_succ]
    refine wpAnyH_take (i := 1) (v := ?_) (by simp only [List.getElem?_toArray, List.getElem?_cons_zero, List.getElem?_cons_succ]; rfl) (by kernel_rfl) (by kernel_rfl) (by kernel_rfl) (fun _ _ _ h => h) (Or.inl ⟨by rfl, ?_⟩) (by assumption) ?_
    rotate_left
    · (intro w hSw; (try dsimp only at hSw); go_simp <;> with_reducible rfl)
    try simp only [Act.put, List.setIfInBounds_toArray, List.set_cons_zero, List.set_cons_succ]
    refine wpAnyH_take (i := 2) (v := ?_) (by simp only [List.getElem?_toArray, List.getElem?_cons_zero, List.getElem?_cons_succ]; rfl) (by kernel_rfl) (by kernel_rfl) (by kernel_rfl) (fun _ _ _ h => h) (Or.inl ⟨by rfl, ?_⟩) (by assumption) ?_
    rotate_left
    · (intro w hSw; (try dsimp only at hSw); go_simp <;> with_reducible rfl)
    try simp only [Act.put, List.setIfInBounds_toArray, List.set_cons_zero, List.set_cons_succ]
    refine wpAnyH_take (i := 3) (v := ?_) (by simp only [List.getElem?_toArray, List.getElem?_cons_zero, List.getElem?_cons_succ]; rfl) (by kernel_rfl) (by kernel_rfl) (by kernel_rfl) (fun _ _ _ h => h) (Or.inl ⟨by rfl, ?_⟩) (by assumption) ?_
    rotate_left
    · (intro w hSw; (try dsimp only at hSw); go_simp <;> with_reducible rfl)
    try simp only [Act.put, List.setIfInBounds_toArray, List.set_cons_zero, List.set_cons_succ]
    refine wpAnyH_take (i := 5) (v := ?_) (by simp only [List.getElem?_toArray, List.getElem?_cons_zero, List.getElem?_cons_succ]; rfl) (by kernel_rfl) (by kernel_rfl) (by kernel_rfl) (fun _ _ _ h => h) (Or.inl ⟨by rfl, ?_⟩) (by assumption) ?_
    rotate_left
    · (intro w hSw; (try dsimp only at hSw); go_simp <;> with_reducible rfl)
    try simp only [Act.put, List.setIfInBounds_toArray, List.set_cons_zero, List.set_cons_succ]
    refine wpAnyH_ready (rs := [4, 6]) (by kernel_rfl) (by simp) ?_
    refine AllReadyH.cons (by simp only [List.getElem?_toArray, List.getElem?_cons_zero, List.getElem?_cons_succ]; rfl) (fun K hK => ?_) (AllReadyH.cons (by simp only [List.getElem?_toArray, List.getElem?_cons_zero, List.getElem?_cons_succ]; rfl) (fun K hK => ?_) AllReadyH.nil)
    · go_simp
      refine hK.out _ _ ?_ (fun hHeld => ?_)
      · exact (by assumption)
      clear hK K
      try simp only [Act.put, List.setIfInBounds_toArray, List.set_cons_zero, List.set_cons_succ]
      refine wpAnyH_ready (rs := [6]) (by kernel_rfl) (by simp) ?_
      refine AllReadyH.cons (by simp only [List.getElem?_toArray, List.getElem?_cons_zero, List.getElem?_cons_succ]; rfl) (fun K hK => ?_) AllReadyH.nil
      go_simp
      refine hK.out _ _ ?_ (fun hHeld => ?_)
      · exact HSA.out
      clear hK K
      try simp only [Act.put, List.setIfInBounds_toArray, List.set_cons_zero, List.set_cons_succ]
      refine wpAnyH_ready (rs := [7]) (by kernel_rfl) (by simp) ?_
      refine AllReadyH.cons (by simp only [List.getElem?_toArray, List.getElem?_cons_zero, List.getElem?_cons_succ]; rfl) (fun K hK => ?_) AllReadyH.nil
      refine step_append_lies _ (by rfl) _ _ _ (by rfl) base 23 i0 _ 2 16 Tryd.underlying59 hi hz hs hby rfl (by omega) (.slice an names.length cn) names.length (flatN names) (by rfl) HRa.out ⟨w4.heap.size, 0, none⟩ 1 1 [.int .i64 x1, .int .i64 x2] (by rfl) (by rfl) (World.news_of_block (cs := #[.int .i64 x1, .int .i64 x2]) (t := 23) (fr := (0, 0)) (heap_alloc_new w4 _)) (by simp [Value.oneCell']) (by omega) (by unfold maxLen; omega) (by omega) hba4 (w4.heap.size + 1) (by simp) ?_
      intro gg cp w5 hown5 hgr5 hloc5 hlt5
      obtain ⟨hblk5, hLk6, hB6, hK6⟩ := HF4.out.1.fin hown5 hgr5
      have hX5 : w5.heap[w.heap.size]? = some (.cells #[.int .i64 x1, .int .i64 x2] 23 (0, 0)) := (hgr5.block _ hbx4 (fun e => HNv.out _ e.symm rfl)).trans HXa.out
      have c5 : w5.cell? ⟨lb, 2, none⟩ = some (.slice an names.length cn) := by rw [cell_of_row w5 lb 2 _ 97 (0, 0) hblk5]; rfl
      have f5 : w5.frozen? ⟨lb, 2, none⟩ = false := frozen_of_row w5 lb 2 _ 97 hblk5
      have HFf : Hid (LkAt (w5.setCell ⟨lb, 2, none⟩ (.slice (some ⟨gg, 0, none⟩) (names.length + 1) cp)) base lb p B g M (n + 1) (.slice (some ⟨gg, 0, none⟩) (names.length + 1) cp) (addN names (x1, x2)) ∧ Below base w (w5.setCell ⟨lb, 2, none⟩ (.slice (some ⟨gg, 0, none⟩) (names.length + 1) cp)) ∧ KeepT w (w5.setCell ⟨lb, 2, none⟩ (.slice (some ⟨gg, 0, none⟩) (names.length + 1) cp))) := ⟨by rw [HE.out]; exact hLk6, HF4.out.2.1.trans hB6, HK4.out.trans hK6⟩
      have HS5 : Hid (PtB w.heap.size x1 x2 w5 ∧ PtB w.heap.size x1 x2 (w5.setCell ⟨lb, 2, none⟩ (.slice (some ⟨gg, 0, none⟩) (names.length + 1) cp))) := by
        have h6 : (w5.setCell ⟨lb, 2, none⟩ (.slice (some ⟨gg, 0, none⟩) (names.length + 1) cp)).heap[w.heap.size]? = some (.cells #[.int .i64 x1, .int .i64 x2] 23 (0, 0)) := (heap_setCell_other w5 ⟨lb, 2, none⟩ _ _ (fun e => by have e' : w.heap.size = lb := e; rw [e', hblk5] at hX5; cases hX5)).trans hX5
        exact ⟨ptB_of hX5, ptB_of h6⟩
      clear hown5 hgr5 hloc5 hlt5 hblk5 hLk6 hB6 hK6 hX5
      refine hK.out _ _ ?_ (fun hHeld => ?_)
      · exact HS5.out.1
      clear hK K
      try simp only [Act.put, List.setIfInBounds_toArray, List.set_cons_zero, List.set_cons_succ]
      refine wpAnyH_take (i := 8) (v := ?_) (by simp only [List.getElem?_toArray, List.getElem?_cons_zero, List.getElem?_cons_succ]; rfl) (by kernel_rfl) (by kernel_rfl) (by kernel_rfl) (fun _ _ _ h => h) (Or.inl ⟨by rfl, ?_⟩) (by assumption) ?_
      rotate_left
      · (intro w hSw; (try dsimp only at hSw); go_simp <;> with_reducible rfl)
      try simp only [Act.put, List.setIfInBounds_toArray, List.set_cons_zero, List.set_cons_succ]
      refine wpAnyH_take (i := 9) (v := ?_) (by simp only [List.getElem?_toArray, List.getElem?_cons_zero, List.getElem?_cons_succ]; rfl) (by kernel_rfl) (by kernel_rfl) (by kernel_rfl) (fun _ _ _ h => h) (Or.inl ⟨by rfl, ?_⟩) (by assumption) ?_
      rotate_left
      · (intro w hSw; (try dsimp only at hSw); go_simp <;> with_reducible rfl)
      try simp only [Act.put, List.setIfInBounds_toArray, List.set_cons_zero, List.set_cons_succ]
      refine wpAnyH_ready (rs := [10]) (by kernel_rfl) (by simp) ?_
      refine AllReadyH.cons (by simp only [List.getElem?_toArray, List.getElem?_cons_zero, List.getElem?_cons_succ]; rfl) (fun K hK => ?_) AllReadyH.nil
      go_simp
      refine hK.out _ _ ?_ (fun hHeld => ?_)
      · exact HS5.out.2
      clear hK K
      try simp only [Act.put, List.setIfInBounds_toArray, List.set_cons_zero, List.set_cons_succ]
      refine wpAnyH_done (by kernel_rfl) ?_ _
      refine NoPanic.normal ?_
      clear hHeld c5 f5
      go_wp2_with fail
      go_ret
      exact ⟨rfl, ⟨n + 1, _, HFf.out.1, Nat.le_refl _⟩, HFf.out.2⟩
    · go_simp
      refine hK.out _ _ ?_ (fun hHeld => ?_)
      · exact HSA.out
      clear hK K
      try simp only [Act.put, List.setIfInBounds_toArray, List.set_cons_zero, List.set_cons_succ]
      refine wpAnyH_ready (rs := [4]) (by kernel_rfl) (by simp) ?_
      refine AllReadyH.cons (by simp only [List.getElem?_toArray, List.getElem?_cons_zero, List.getElem?_cons_succ]; rfl) (fun K hK => ?_) AllReadyH.nil
      go_simp
      refine hK.out _ _ ?_ (fun hHeld => ?_)
      · exact (by assumption)
      clear hK K
      try simp only [Act.put, List.setIfInBounds_toArray, List.set_cons_zero, List.set_cons_succ]
      refine wpAnyH_ready (rs := [7]) (by kernel_rfl) (by simp) ?_
      refine AllReadyH.cons (by simp only [List.getElem?_toArray, List.getElem?_cons_zero, List.getElem?_cons_succ]; rfl) (fun K hK => ?_) AllReadyH.nil
      refine step_append_lies _ (by rfl) _ _ _ (by rfl) base 23 i0 _ 2 16 Tryd.underlying59 hi hz hs hby rfl (by omega) (.slice an names.length cn) names.length (flatN names) (by rfl) HRa.out ⟨w4.heap.size, 0, none⟩ 1 1 [.int .i64 x1, .int .i64 x2] (by rfl) (by rfl) (World.news_of_block (cs := #[.int .i64 x1, .int .i64 x2]) (t := 23) (fr := (0, 0)) (heap_alloc_new w4 _)) (by simp [Value.oneCell']) (by omega) (by unfold maxLen; omega) (by omega) hba4 (w4.heap.size + 1) (by simp) ?_
      intro gg cp w5 hown5 hgr5 hloc5 hlt5
      obtain ⟨hblk5, hLk6, hB6, hK6⟩ := HF4.out.1.fin hown5 hgr5
      have hX5 : w5.heap[w.heap.size]? = some (.cells #[.int .i64 x1, .int .i64 x2] 23 (0, 0)) := (hgr5.block _ hbx4 (fun e => HNv.out _ e.symm rfl)).trans HXa.out
      have c5 : w5.cell? ⟨lb, 2, none⟩ = some (.slice an names.length cn) := by rw [cell_of_row w5 lb 2 _ 97 (0, 0) hblk5]; rfl
      have f5 : w5.frozen? ⟨lb, 2, none⟩ = false := frozen_of_row w5 lb 2 _ 97 hblk5
      have HFf : Hid (LkAt (w5.setCell ⟨lb, 2, none⟩ (.slice (some ⟨gg, 0, none⟩) (names.length + 1) cp)) base lb p B g M (n + 1) (.slice (some ⟨gg, 0, none⟩) (names.length + 1) cp) (addN names (x1, x2)) ∧ Below base w (w5.setCell ⟨lb, 2, none⟩ (.slice (some ⟨gg, 0, none⟩) (names.length + 1) cp)) ∧ KeepT w (w5.setCell ⟨lb, 2, none⟩ (.slice (some ⟨gg, 0, none⟩) (names.length + 1) cp))) := ⟨by rw [HE.out]; exact hLk6, HF4.out.2.1.trans hB6, HK4.out.trans hK6⟩
      have HS5 : Hid (PtB w.heap.size x1 x2 w5 ∧ PtB w.heap.size x1 x2 (w5.setCell ⟨lb, 2, none⟩ (.slice (some ⟨gg, 0, none⟩) (names.length + 1) cp))) := by
        have h6 : (w5.setCell ⟨lb, 2, none⟩ (.slice (some ⟨gg, 0, none⟩) (names.length + 1) cp)).heap[w.heap.size]? = some (.cells #[.int .i64 x1, .int .i64 x2] 23 (0, 0)) := (heap_setCell_other w5 ⟨lb, 2, none⟩ _ _ (fun e => by have e' : w.heap.size = lb := e; rw [e', hblk5] at hX5; cases hX5)).trans hX5
        exact ⟨ptB_of hX5, ptB_of h6⟩
      clear hown5 hgr5 hloc5 hlt5 hblk5 hLk6 hB6 hK6 hX5
      refine hK.out _ _ ?_ (fun hHeld => ?_)
      · exact HS5.out.1
      clear hK K
      try simp only [Act.put, List.setIfInBounds_toArray, List.set_cons_zero, List.set_cons_succ]
      refine wpAnyH_take (i := 8) (v := ?_) (by simp only [List.getElem?_toArray, List.getElem?_cons_zero, List.getElem?_cons_succ]; rfl) (by kernel_rfl) (by kernel_rfl) (by kernel_rfl) (fun _ _ _ h => h) (Or.inl ⟨by rfl, ?_⟩) (by assumption) ?_
      rotate_left
      · (intro w hSw; (try dsimp only at hSw); go_simp <;> with_reducible rfl)
      try simp only [Act.put, List.setIfInBounds_toArray, List.set_cons_zero, List.set_cons_succ]
      refine wpAnyH_take (i := 9) (v := ?_) (by simp only [List.getElem?_toArray, List.getElem?_cons_zero, List.getElem?_cons_succ]; rfl) (by kernel_rfl) (by kernel_rfl) (by kernel_rfl) (fun _ _ _ h => h) (Or.inl ⟨by rfl, ?_⟩) (by assumption) ?_
      rotate_left
      · (intro w hSw; (try dsimp only at hSw); go_simp <;> with_reducible rfl)
      try simp only [Act.put, List.setIfInBounds_toArray, List.set_cons_zero, List.set_cons_succ]
      refine wpAnyH_ready (rs := [10]) (by kernel_rfl) (by simp) ?_
      refine AllReadyH.cons (by simp only [List.getElem?_toArray, List.getElem?_cons_zero, List.getElem?_cons_succ]; rfl) (fun K hK => ?_) AllReadyH.nil
      go_simp
      refine hK.out _ _ ?_ (fun hHeld => ?_)
      · exact HS5.out.2
      clear hK K
      try simp only [Act.put, List.setIfInBounds_toArray, List.set_cons_zero, List.set_cons_succ]
      refine wpAnyH_done (by kernel_rfl) ?_ _
      refine NoPanic.normal ?_
      clear hHeld c5 f5
      go_wp2_with fail
      go_ret
      exact ⟨rfl, ⟨n + 1, _, HFf.out.1, Nat.le_refl _⟩, HFf.out.2⟩
  · have HE : Hid (addN names (x1, x2) = names) := by show addN names (x1, x2) = names; unfold addN; rw [hh]; rfl
    rw [hh] at hS0
    simp only [hh] at HSt
    clear hh
    go_enter Tryd.func92, Tryd.ntmps92
    go_wp2_with fail
    refine wp_region_noPanic ?_
    refine wp_region_held_drew (S := fun w' => WtS lb M w.heap.size x1 x2 true w') (by kernel_rfl) hS0 (fun hHeld => ?_)
    refine wpAnyH_take (i := 0) (v := ?_) (by simp only [List.getElem?_toArray, List.getElem?_cons_zero]; rfl) (by kernel_rfl) (by kernel_rfl) (by kernel_rfl) (fun _ _ _ h => h) (Or.inl ⟨by rfl, ?_⟩) (by assumption) ?_
    rotate_left
    · (intro w hSw; (try dsimp only at hSw); go_simp <;> with_reducible rfl)
    try simp only [Act.put, List.setIfInBounds_toArray, List.set_cons_zero, List.set_cons_succ]
    refine wpAnyH_take (i := 1) (v := ?_) (by simp only [List.getElem?_toArray, List.getElem?_cons_zero, List.getElem?_cons_succ]; rfl) (by kernel_rfl) (by kernel_rfl) (by kernel_rfl) (fun _ _ _ h => h) (Or.inl ⟨by rfl, ?_⟩) (by assumption) ?_
    rotate_left
    · (intro w hSw; (try dsimp only at hSw); go_simp <;> with_reducible rfl)
    try simp only [Act.put, List.setIfInBounds_toArray, List.set_cons_zero, List.set_cons_succ]
    refine wpAnyH_take (i := 2) (v := ?_) (by simp only [List.getElem?_toArray, List.getElem?_cons_zero, List.getElem?_cons_succ]; rfl) (by kernel_rfl) (by kernel_rfl) (by kernel_rfl) (fun _ _ _ h => h) (Or.inl ⟨by rfl, ?_⟩) (by assumption) ?_
    rotate_left
    · (intro w hSw; (try dsimp only at hSw); go_simp <;> with_reducible rfl)
    try simp only [Act.put, List.setIfInBounds_toArray, List.set_cons_zero, List.set_cons_succ]
    refine wpAnyH_take (i := 3) (v := ?_) (by simp only [List.getElem?_toArray, List.getElem?_cons_zero, List.getElem?_cons_succ]; rfl) (by kernel_rfl) (by kernel_rfl) (by kernel_rfl) (fun _ _ _ h => h) (Or.inl ⟨by rfl, ?_⟩) (by assumption) ?_
    rotate_left
    · (intro w hSw; (try dsimp only at hSw); go_simp <;> with_reducible rfl)
    try simp only [Act.put, List.setIfInBounds_toArray, List.set_cons_zero, List.set_cons_succ]
    refine wpAnyH_take (i := 4) (v := ?_) (by simp only [List.getElem?_toArray, List.getElem?_cons_zero, List.getElem?_cons_succ]; rfl) (by kernel_rfl) (by kernel_rfl) (by kernel_rfl) (fun _ _ _ h => h) (Or.inl ⟨by rfl, ?_⟩) (by assumption) ?_
    rotate_left
    · (intro w hSw; (try dsimp only at hSw); go_simp <;> with_reducible rfl)
    try simp only [Act.put, List.setIfInBounds_toArray, List.set_cons_zero, List.set_cons_succ]
    refine wpAnyH_take (i := 5) (v := ?_) (by simp only [List.getElem?_toArray, List.getElem?_cons_zero, List.getElem?_cons_succ]; rfl) (by kernel_rfl) (by kernel_rfl) (by kernel_rfl) (fun _ _ _ h => h) (Or.inl ⟨by rfl, ?_⟩) (by assumption) ?_
    rotate_left
    · (intro w hSw; (try dsimp only at hSw); go_simp <;> with_reducible rfl)
    try simp only [Act.put, List.setIfInBounds_toArray, List.set_cons_zero, List.set_cons_succ]
    refine wpAnyH_take (i := 6) (v := ?_) (by simp only [List.getElem?_toArray, List.getElem?_cons_zero, List.getElem?_cons_succ]; rfl) (by kernel_rfl) (by kernel_rfl) (by kernel_rfl) (fun _ _ _ h => h) (Or.inl ⟨by rfl, ?_⟩) (by assumption) ?_
    rotate_left
    · (intro w hSw; (try dsimp only at hSw); go_simp <;> with_reducible rfl)
    try simp only [Act.put, List.setIfInBounds_toArray, List.set_cons_zero, List.set_cons_succ]
    refine wpAnyH_take (i := 7) (v := ?_) (by simp only [List.getElem?_toArray, List.getElem?_cons_zero, List.getElem?_cons_succ]; rfl) (by kernel_rfl) (by kernel_rfl) (by kernel_rfl) (fun _ _ _ h => h) (Or.inl ⟨by rfl, ?_⟩) (by assumption) ?_
    rotate_left
    · (intro w hSw; (try dsimp only at hSw); go_simp <;> with_reducible rfl)
    try simp only [Act.put, List.setIfInBounds_toArray, List.set_cons_zero, List.set_cons_succ]
    refine wpAnyH_take (i := 8) (v := ?_) (by simp only [List.getElem?_toArray, List.getElem?_cons_zero, List.getElem?_cons_succ]; rfl) (by kernel_rfl) (by kernel_rfl) (by kernel_rfl) (fun _ _ _ h => h) (Or.inl ⟨by rfl, ?_⟩) (by assumption) ?_
    rotate_left
    · (intro w hSw; (try dsimp only at hSw); go_simp <;> with_reducible rfl)
    try simp only [Act.put, List.setIfInBounds_toArray, List.set_cons_zero, List.set_cons_succ]
    refine wpAnyH_ready (rs := [9]) (by kernel_rfl) (by simp) ?_
    refine AllReadyH.cons (by simp only [List.getElem?_toArray, List.getElem?_cons_zero, List.getElem?_cons_succ]; rfl) (fun K hK => ?_) AllReadyH.nil
    go_simp
    refine hK.out _ _ ?_ (fun hHeld => ?_)
    · exact HSt.out _ HBd.out
    clear hK K
    try simp only [Act.put, List.setIfInBounds_toArray, List.set_cons_zero, List.set_cons_succ]
    refine wpAnyH_ready (rs := [10]) (by kernel_rfl) (by simp) ?_
    refine AllReadyH.cons (by simp only [List.getElem?_toArray, List.getElem?_cons_zero, List.getElem?_cons_succ]; rfl) (fun K hK => ?_) AllReadyH.nil
    go_simp
    refine hK.out _ _ ?_ (fun hHeld => ?_)
    · exact (by assumption)
    clear hK K
    try simp only [Act.put, List.setIfInBounds_toArray, List.set_cons_zero, List.set_cons_succ]
    refine wpAnyH_take (i := 11) (v := ?_) (by simp only [List.getElem?_toArray, List.getElem?_cons_zero, List.getElem?_cons_succ]; rfl) (by kernel_rfl) (by kernel_rfl) (by kernel_rfl) (fun _ _ _ h => h) (Or.inl ⟨by rfl, ?_⟩) (by assumption) ?_
    rotate_left
    · (intro w hSw; (try dsimp only at hSw); go_simp <;> with_reducible rfl)
    try simp only [Act.put, List.setIfInBounds_toArray, List.set_cons_zero, List.set_cons_succ]
    refine wpAnyH_done (by kernel_rfl) ?_ _
    refine NoPanic.normal ?_
    clear hHeld hS0
    go_wp2_with fail
    go_ret
    exact ⟨rfl, ⟨n, _, by rw [HE.out]; exact HL2.out, by omega⟩, HB2.out, HK2.out⟩
end Go.Proofs.YteikdgjlhdgapaaDoor
