/- rightLocals and lacks. Contract of Put: for every term and row of locals it returns the term with them put in, or its error. Rows of names in memory; the reference HasName, SameNames. The reference Vars, VarsOf, Global. Contract of Vars: each name once, in the order in which they first come. Values of variables: the plain side. -/
import Derived.Test.YtljggjllijacjaaGreatDoorV2g
import Derived.Test.YtljggjllijacjaaGreatDoorRAg
import Derived.Maps.OwnIn
import Derived.Maps.Views
import Derived.DeepKeys4
namespace Go.Proofs.YtljggjllijacjaaGreatDoor
open Go.RowKit Go.Shelf
attribute [local go_sem] Oper.semAt_some
/-- The variables of a right term. -/
theorem right_vars {l : List C} (h : rightB l = true) : ∀ x ∈ varsOf l, 0 ≤ x.2 ∧ -1 ≤ x.1 := by
 intro x hx
 unfold varsOf at hx
 obtain ⟨c, hc, rfl⟩ := List.mem_map.1 hx
 rw [List.mem_filter] at hc
 unfold rightB at h
 simp only [Bool.and_eq_true] at h
 have h1 := h.1.2
 unfold cellsB at h1
 have h2 := List.all_eq_true.1 h1 c hc.1
 have h3 : c.k = 4 := by simpa using hc.2
 unfold C.ok cellB at h2
 rw [h3] at h2
 simp [between] at h2
 simp; omega
end Go.Proofs.YtljggjllijacjaaGreatDoor

namespace Go.Proofs.YtljggjllijacjaaGreatDoor
open Go.RowKit Go.Shelf
theorem owns_form {w : World} {base : Nat} {e : TypeId} {s : Nat} {v : Value} {n : Nat} {xs : List Value} (h : w.ownsRow base e s v n xs) : ∃ ad cap, v = .slice ad n cap := by
 rcases h.2 with ⟨h1, h2⟩ | ⟨g, cap, cur, h1, _⟩
 ·exact ⟨none, 0, by rw [h1, h2]⟩
 ·exact ⟨_, _, h1⟩
end Go.Proofs.YtljggjllijacjaaGreatDoor

namespace Go.Proofs.YtljggjllijacjaaGreatDoor
open Go.RowKit
attribute [local go_sem ↓] Go.wp_at_zero Go.wp_at_succ
abbrev Nm := Int × Int
theorem range_of_owns {w : World} {g : Nat} {cur : Array Value} {e : TypeId} {m : Nat} {xs : List Value} (h3 : w.heap[g]? = some (.cells cur e (0, 0))) (h7 : cur.toList.take m = xs) : w.rangeAt g 0 xs := by
 intro j u hu
 rw [cell_of_row _ _ _ _ _ _ h3]
 rw [← h7] at hu
 rw [List.getElem?_take] at hu
 split at hu
 ·simpa using hu
 ·cases hu
theorem owns_below {w w' : World} {base : Nat} {e : TypeId} {s n : Nat} {u : Value} {xs : List Value} (h : w.ownsRow base e s u n xs) (hb : Below w.heap.size w w') : w'.ownsRow base e s u n xs := by
 refine ⟨h.1, ?_⟩
 rcases h.2 with hn | ⟨g, cap, cur, h1, h2, h3, h4⟩
 ·exact Or.inl hn
 ·exact Or.inr ⟨g, cap, cur, h1, h2, (hb.block g (Array.getElem?_eq_some_iff.1 h3).1).trans h3, h4⟩
end Go.Proofs.YtljggjllijacjaaGreatDoor

namespace Go.Proofs.YtljggjllijacjaaGreatDoor
open Go.RowKit
def refGlobalB (l : List C) : Bool := rightB l && (varsOf l).all (fun x => !decide (x.1 < 0))
set_option maxHeartbeats 1000000 in
theorem c37_no (l : List C) (v : Value) (w : World) (_h : TermAt w v l) (hr : rightB l = false) (H23 : Calls Tryz.prog 79 #[v] w fun e w' => e = .returned (.bool (rightB l)) ∧ Below w.heap.size w w') :
  Calls Tryz.prog 44 #[v] w fun e w' => e = .returned (.bool (refGlobalB l)) ∧ Below w.heap.size w w' := by
 have e1 : refGlobalB l = false := by unfold refGlobalB; rw [hr]; rfl
 rw [e1]
 rw [hr] at H23
 clear e1 hr _h
 go_enter Tryz.func44, Tryz.ntmps44
 go_wp2_with fail
 refine H23.mono ?_
 rintro e w1 ⟨rfl, hb1⟩
 go_wp2_with fail
 go_ret
 exact ⟨rfl, hb1⟩
set_option maxHeartbeats 1000000 in
theorem c37_yes (l : List C) (v : Value) (w : World) (h : TermAt w v l) (hr : rightB l = true) (H23 : Calls Tryz.prog 79 #[v] w fun e w' => e = .returned (.bool (rightB l)) ∧ Below w.heap.size w w') :
  Calls Tryz.prog 44 #[v] w fun e w' => e = .returned (.bool (refGlobalB l)) ∧ Below w.heap.size w w' := by
 have hrl := right_len hr
 have e1 : refGlobalB l = (varsOf l).all (fun x => !decide (x.1 < 0)) := by unfold refGlobalB; rw [hr]; rfl
 rw [e1]
 rw [hr] at H23
 clear e1 hr
 obtain ⟨_, h⟩ := h
 rcases h with ⟨rfl, ad, rfl⟩ | ⟨b, o, cap, rfl, h2, h5, h3, h4⟩
 ·simp at hrl
 have HR : Hid (w.rangeAt b o (flat l)) := h3
 clear h3 h2 h5
 go_enter Tryz.func44, Tryz.ntmps44
 go_wp2_with fail
 refine H23.mono ?_
 rintro e w1 ⟨rfl, hb1⟩
 go_wp2_with fail
 go_loopw [3] (fun i wr => ∃ k : Nat, k ≤ l.length ∧ i = .int .i64 k ∧ Hid ((varsOf (l.take k)).all (fun x => !decide (x.1 < 0)) = true) ∧ Below w.heap.size w wr) (fun i _ => l.length - (intOf i).toNat)
 case atStart => exact ⟨0, Nat.zero_le _, rfl, rfl, hb1⟩
 case round =>
  obtain ⟨k, hk, rfl, hall, hbr⟩ := hrel
  by_cases hlt : k < l.length
  ·have hlt' : (k : Int) < (l.length : Int) := by omega
   obtain ⟨q0, q1, q2, q3, q4⟩ := term_cells (range_below HR.out h4 hbr) k hlt
   cases hk4 : (l[k].k == 4)
   ·have hE : Hid ((varsOf (l.take (k + 1))).all (fun x => !decide (x.1 < 0)) = true) := by
     show (varsOf (l.take (k + 1))).all _ = true
     rw [varsOf_snoc_no l k hlt hk4]; exact hall.out
    go_wp2_with fail
    go_roundw
    case rel => exact ⟨k + 1, by omega, by go_num, hE, hbr⟩
    case measure => simp [intOf]; omega
   ·by_cases hneg : l[k].vn < 0
    ·have hF : Hid ((varsOf l).all (fun x => !decide (x.1 < 0)) = false) := by
      show (varsOf l).all _ = false
      rw [List.all_eq_false]
      refine ⟨(l[k].vn, l[k].vk), ?_, by simp [hneg]⟩
      unfold varsOf
      exact List.mem_map.2 ⟨l[k], List.mem_filter.2 ⟨List.getElem_mem _, hk4⟩, rfl⟩
     go_wp2_with fail
     go_ret
     exact ⟨by rw [hF.out]; rfl, hbr⟩
    ·have hE : Hid ((varsOf (l.take (k + 1))).all (fun x => !decide (x.1 < 0)) = true) := by
      show (varsOf (l.take (k + 1))).all _ = true
      rw [varsOf_snoc_yes l k hlt hk4, List.all_append, hall.out]; simp; omega
     go_wp2_with fail
     go_roundw
     case rel => exact ⟨k + 1, by omega, by go_num, hE, hbr⟩
     case measure => simp [intOf]; omega
  ·have hlt' : ¬ ((k : Int) < (l.length : Int)) := by omega
   have hF : Hid ((varsOf l).all (fun x => !decide (x.1 < 0)) = true) := by
    have h := hall.out; rw [List.take_of_length_le (by omega)] at h; exact h
   go_wp2_with fail
   go_ret
   exact ⟨by rw [hF.out]; rfl, hbr⟩
end Go.Proofs.YtljggjllijacjaaGreatDoor

namespace Go.Proofs.YtljggjllijacjaaGreatDoor
open Go.RowKit Go.Shelf
attribute [local go_sem] Oper.semAt_some
def wfN (x : Nm) : Prop := (Lit.int .i64 x.1).wf = true ∧ (Lit.int .i64 x.2).wf = true
def kLit (x : Nm) : Lit := .string (keyBytes [.int .i64 x.1, .int .i64 x.2])
theorem law23 : WideMaps.KeyLaw Tryz.prog 32 := deep_law_laid (by kernel_rfl) (m := 2) (by omega) (of_decide_eq_true (by kernel_rfl)) (by kernel_rfl) (by rw [Tryz.underlying32])
theorem keyed23 : Maps.Keyed Tryz.prog 32 := Maps.Keyed.of_law law23
theorem key23 (x : Nm) (h : wfN x) : keyOf Tryz.prog 32 (.agg #[.int .i64 x.1, .int .i64 x.2]) = some (kLit x) := by
 obtain ⟨h1, h2⟩ := h
 have hk : Tryz.prog.keyType 32 = true := by kernel_rfl
 have hc : Tryz.prog.cellsOf 32 = 2 := by kernel_rfl
 have hc3 : Tryz.prog.cellsOf 3 = 1 := by kernel_rfl
 have hs : ∃ n, Tryz.prog.types.size = n + 1 := ⟨Tryz.prog.types.size - 1, by have : 0 < Tryz.prog.types.size := of_decide_eq_true (by kernel_rfl); omega⟩
 obtain ⟨n, hs⟩ := hs
 have hf : (Value.agg #[.int .i64 x.1, .int .i64 x.2]).formed Tryz.prog 32 = true := by simp [Value.formed, Tryz.underlying32, hc]
 unfold keyOf
 rw [Tryz.underlying32]
 simp only [hk, hf, Bool.and_self, if_true, hs]
 simp [Program.keyLits, Tryz.underlying32, Tryz.underlying3, hc, hc3, Value.cells, h1, h2, kLit]
theorem kLit_inj {x y : Nm} (hx : wfN x) (hy : wfN y) (h : kLit x = kLit y) : x = y := by
 have h1 := key23 x hx
 have h2 := key23 y hy
 rw [← h] at h2
 have h3 := law23.inj h1 h2
 simp at h3
 exact Prod.ext h3.1 h3.2
end Go.Proofs.YtljggjllijacjaaGreatDoor

namespace Go.Proofs.YtljggjllijacjaaGreatDoor
open Go.RowKit
/-- The order of names. -/
def lessN (a b : Nm) : Bool := decide (a.1 < b.1) || (a.1 == b.1 && decide (a.2 < b.2))
theorem lessN_irrefl (a : Nm) : lessN a a = false := by simp [lessN]
theorem lessN_trans {a b c : Nm} (h : lessN a b = true) (k : lessN b c = true) : lessN a c = true := by
 simp [lessN] at *
 omega
theorem lessN_total (a b : Nm) : lessN a b = true ∨ a = b ∨ lessN b a = true := by
 rcases Int.lt_trichotomy a.1 b.1 with h | h | h
 ·left; simp [lessN, h]
 ·rcases Int.lt_trichotomy a.2 b.2 with k | k | k
  ·left; simp [lessN, h, k]
  ·right; left; exact Prod.ext h k
  ·right; right; simp [lessN, h, k]
 ·right; right; simp [lessN, h]
/-- Variables with their values. -/
abbrev Hp := List (Nm × List C)
def lookH (m : Hp) (x : Nm) : Option (List C) := (m.find? fun p => p.1 == x).map (·.2)
/-- Is a term one variable? -/
def isVarL : List C → Bool
 | [c] => c.k == 4
 | _ => false
def varL : List C → Nm
 | c :: _ => (c.vn, c.vk)
 | [] => (0, 0)
def nextH (m : Hp) (l : List C) : Option (List C) := if isVarL l then lookH m (varL l) else none
/-- Links descend. -/
def DescH (m : Hp) : Prop := ∀ x l, lookH m x = some l → isVarL l = true → lessN (varL l) x = true
/-- What a term leads to by values. -/
inductive Fol (m : Hp) : List C → List C → Prop
 | here (l : List C) : Fol m l l
 | step {l l' l'' : List C} (h : nextH m l = some l') (r : Fol m l' l'') : Fol m l l''
theorem Fol.trans {m : Hp} {a b c : List C} (h : Fol m a b) (k : Fol m b c) : Fol m a c := by
 induction h with
 | here => exact k
 | step h _ ih => exact .step h (ih k)
theorem Fol.snoc {m : Hp} {a b c : List C} (h : Fol m a b) (k : nextH m b = some c) : Fol m a c := h.trans (.step k (.here _))
def IsFol (m : Hp) (l l' : List C) : Prop := Fol m l l' ∧ nextH m l' = none
theorem IsFol.uniq {m : Hp} {l a b : List C} (h : IsFol m l a) (k : IsFol m l b) : a = b := by
 obtain ⟨h1, h2⟩ := h
 obtain ⟨k1, k2⟩ := k
 induction h1 with
 | here l =>
  cases k1 with
  | here => rfl
  | step e _ => rw [h2] at e; cases e
 | step e _ ih =>
  cases k1 with
  | here => rw [k2] at e; cases e
  | step e' r' =>
   rw [e] at e'
   cases e'
   exact ih h2 r'
/-- How many values a variable may still lead through. -/
def rankH (m : Hp) (l : List C) : Nat := if isVarL l then (m.filter fun p => !lessN (varL l) p.1).length else 0
theorem look_mem {m : Hp} {x : Nm} {l : List C} (h : lookH m x = some l) : (x, l) ∈ m := by
 unfold lookH at h
 obtain ⟨p, hp, rfl⟩ := Option.map_eq_some_iff.1 h
 have h1 := List.find?_some hp
 have h2 := List.mem_of_find?_eq_some hp
 simp at h1
 subst h1
 exact h2
theorem filter_lt {α : Type} (p q : α → Bool) : ∀ (l : List α) (a : α), a ∈ l → q a = true → p a = false → (∀ x ∈ l, p x = true → q x = true) → (l.filter p).length < (l.filter q).length
 | [], a, h, _, _, _ => by simp at h
 | b :: r, a, h, hq, hp, hs => by
  have hle : ∀ r' : List α, (∀ x ∈ r', p x = true → q x = true) → (r'.filter p).length ≤ (r'.filter q).length := by
   intro r'
   induction r' with
   | nil => intro _; simp
   | cons x r' ih =>
    intro h'
    have i := ih (fun y hy => h' y (by simp [hy]))
    have j := h' x (by simp)
    simp only [List.filter_cons]
    cases hpx : p x
    ·cases q x <;> simp <;> omega
    ·simp [j hpx]; omega
  have hr := hle r (fun x hx => hs x (by simp [hx]))
  simp only [List.filter_cons]
  rcases List.mem_cons.1 h with rfl | h
  ·simp [hq, hp]; omega
  ·have := filter_lt p q r a h hq hp (fun x hx => hs x (by simp [hx]))
   have j := hs b (by simp)
   cases hpb : p b
   ·cases q b <;> simp <;> omega
   ·simp [j hpb]; omega
theorem rank_falls {m : Hp} (hD : DescH m) {l l' : List C} (h : nextH m l = some l') : rankH m l' < rankH m l := by
 unfold nextH at h
 split at h
 ·next hv =>
  have hm := look_mem h
  have h0 : (!lessN (varL l) (varL l)) = true := by rw [lessN_irrefl]; rfl
  unfold rankH
  rw [if_pos hv]
  split
  ·next hv' =>
   have hl := hD _ _ h hv'
   refine filter_lt _ _ m (varL l, l') hm h0 (by simp [hl]) (fun x _ hx => ?_)
   cases hc : lessN (varL l) x.1
   ·rfl
   ·rw [lessN_trans hl hc] at hx; cases hx
  ·exact List.length_pos_of_mem (List.mem_filter.2 ⟨hm, h0⟩)
 ·cases h
theorem rank_le (m : Hp) (l : List C) : rankH m l ≤ m.length := by
 unfold rankH
 split
 ·exact List.length_filter_le _ _
 ·omega
/-- Names rise. -/
def RisesH (m : Hp) : Prop := m.Pairwise fun p q => lessN p.1 q.1 = true
def insH (x : Nm) (l : List C) : Hp → Hp
 | [] => [(x, l)]
 | p :: r => if lessN x p.1 then (x, l) :: p :: r else p :: insH x l r
theorem look_ins (m : Hp) (x y : Nm) (l : List C) (h : lookH m x = none) : lookH (insH x l m) y = if x = y then some l else lookH m y := by
 induction m with
 | nil =>
  by_cases e : x = y
  ·subst e; simp [insH, lookH]
  ·have : (x == y) = false := by simpa using e
   simp [insH, lookH, e, this]
 | cons p r ih =>
  have hp : (p.1 == x) = false := by
   cases hc : (p.1 == x)
   ·rfl
   ·simp [lookH, hc] at h
  have hr : lookH r x = none := by
   unfold lookH at h ⊢
   rwa [List.find?_cons, hp] at h
  unfold insH
  split
  ·by_cases e : x = y
   ·subst e; simp [lookH]
   ·have : (x == y) = false := by simpa using e
    simp [lookH, e, this]
  ·have i := ih hr
   by_cases e : x = y
   ·subst e
    rw [if_pos rfl] at i ⊢
    unfold lookH at i ⊢
    rw [List.find?_cons, hp]
    exact i
   ·rw [if_neg e] at i ⊢
    unfold lookH at i ⊢
    rw [List.find?_cons, List.find?_cons]
    cases hc : (p.1 == y)
    ·exact i
    ·rfl
theorem desc_ins {m : Hp} {x : Nm} {l : List C} (hD : DescH m) (h : lookH m x = none) (hl : isVarL l = true → lessN (varL l) x = true) : DescH (insH x l m) := by
 intro y l' hy hv
 rw [look_ins m x y l h] at hy
 split at hy
 ·next e =>
  cases hy
  rw [← e]
  exact hl hv
 ·exact hD y l' hy hv
end Go.Proofs.YtljggjllijacjaaGreatDoor
