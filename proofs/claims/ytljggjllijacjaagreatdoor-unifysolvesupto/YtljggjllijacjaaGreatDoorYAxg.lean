/- Plain: a step of two terms, with all that is told of it; what comes of equations; which rows are no equations. The library's slices.Reverse at rows of terms, laid at this program by the shelf; its contract. The record of what is being solved: its map, what it bound, its row. -/
import Derived.Test.YtljggjllijacjaaGreatDoorUXg
import Derived.Test.YtljggjllijacjaaGreatDoorUAg
import Derived.Shelf.SlicesE.Reverse
import Derived.Test.YtljggjllijacjaaGreatDoorU8g
namespace Go.Proofs.YtljggjllijacjaaGreatDoor
open Go.RowKit
attribute [local go_sem ↓] Go.wp_at_zero Go.wp_at_succ
def WfT (l : List C) : Prop := ∀ c ∈ l, wfN (c.vn, c.vk)
theorem fol_wf {m : Hp} {a b : List C} (h : Fol m a b) (hm : ∀ x l, lookH m x = some l → wfN x ∧ ∀ c ∈ l, wfN (c.vn, c.vk)) (hr : WfT a) : WfT b := by
 induction h with
 | here => exact hr
 | step e _ ih =>
  refine ih ?_
  unfold nextH at e
  split at e
  ·exact (hm _ _ e).2
  ·cases e
/-- All that is told of a step of two terms by a map. -/
structure StepR (m : Hp) (l1 l2 : List C) (k : Int) (V : Nm) (T : List C) (P : List (List C)) : Prop where
 kr : 1 ≤ k ∧ k ≤ 4
 st : Sht T
 sp : P.length ≤ 8 ∧ ∀ p ∈ P, Sht p
 wv : wfN V
 wt : WfT T
 wp : ∀ p ∈ P, WfT p
 kp : k ≠ 3 → P = []
 pr : ∀ w p v1 v2, HpV w p m → TermAt w v1 l1 → TermAt w v2 l2 → Signs w → Calls Tryz.prog 8 #[p, v1, v2] w fun e w' => StV k V T P e w w'
 rf : ∀ w q v1 v2, DerQ w (.pointer q) m → TermAt w v1 l1 → TermAt w v2 l2 → Calls Tryz.prog 12 #[.pointer q, v1, v2] w fun e w' => StR k V T P e w w'
 pl : ∀ a b, globalB l1 = true → globalB l2 = true → IsFol m l1 a → IsFol m l2 b → k = stK a b ∧ V = uV a b ∧ T = uT a b ∧ P = uP a b
 pn : k ≠ 4 → globalB l1 = true ∧ globalB l2 = true ∧ (∃ a, IsFol m l1 a) ∧ ∃ b, IsFol m l2 b
/-- What is known of each value of a map. -/
structure HpW (m : Hp) : Prop where
 len : ∀ x l, lookH m x = some l → l.length * 48 ≤ 140737488355328 ∧ l ≠ [] ∧ rightB l = true
 wf : ∀ x l, lookH m x = some l → wfN x ∧ ∀ c ∈ l, wfN (c.vn, c.vk)
theorem wf_zero : wfN (0, 0) := by constructor <;> decide
theorem step_all (m : Hp) (l1 l2 : List C) (hm : HpW m) (hW1 : WfT l1) (hW2 : WfT l2) : ∃ k V T P, StepR m l1 l2 k V T P := by
 have hno : ∀ w (q : Option Addr) v1 v2, (globalB l1 && globalB l2) = false → TermAt w v1 l1 → TermAt w v2 l2 → Signs w → Calls Tryz.prog 8 #[.pointer q, v1, v2] w fun e w' => StV 4 (0, 0) [] [] e w w' := fun w q v1 v2 hg h1 h2 hS => by
  refine (u14_no q l1 l2 v1 v2 w h1 h2 hS hg).mono ?_
  rintro e w' ⟨ta, tn, tc, pa, pn, pc, k1, k2, k3, k4⟩
  exact ⟨ta, tn, tc, pa, pn, pc, k1, k2, k3, k4, .inl rfl⟩
 cases hg : (globalB l1 && globalB l2)
 ·refine ⟨4, (0, 0), [], [], by decide, sht_nil, by simp, wf_zero, by simp [WfT], by simp, fun _ => rfl, fun w p v1 v2 hp h1 h2 hS => ?_, fun w q v1 v2 _ h1 h2 => r12_no q l1 l2 v1 v2 w h1 h2 hg, fun a b g1 g2 _ _ => (by rw [g1, g2] at hg; cases hg), fun h => absurd rfl h⟩
  obtain ⟨q, rfl⟩ : ∃ q, p = .pointer q := by
   rcases hp with ⟨h, _⟩ | ⟨_, _, _, _, h, _⟩ <;> exact ⟨_, h⟩
  exact hno w q v1 v2 hg h1 h2 hS
 ·rw [Bool.and_eq_true] at hg
  by_cases hex : (∃ a, IsFol m l1 a) ∧ ∃ b, IsFol m l2 b
  ·obtain ⟨⟨a, ha⟩, b, hb⟩ := hex
   have hra := fol_right ha.1 hm.len (global_right hg.1)
   have hrb := fol_right hb.1 hm.len (global_right hg.2)
   have hwa := fol_wf ha.1 hm.wf hW1
   have hwb := fol_wf hb.1 hm.wf hW2
   have hTu := turned_of hra hrb
   have hha : wfN ((hdC a).vn, (hdC a).vk) := by
    have h1 : 0 < a.length := (right_len hra).1
    rw [← hd_get h1]
    exact hwa _ (List.getElem_mem h1)
   have hhb : wfN ((hdC b).vn, (hdC b).vk) := by
    have h1 : 0 < b.length := (right_len hrb).1
    rw [← hd_get h1]
    exact hwb _ (List.getElem_mem h1)
   refine ⟨stK a b, uV a b, uT a b, uP a b, stK_range a b, ?_, ⟨hTu.2.1, fun p hp => ?_⟩, ?_, ?_, fun p hp => ?_, fun hk => ?_, fun w p v1 v2 hp h1 h2 hS => ?_, fun w q v1 v2 hD h1 h2 => ?_, fun a' b' _ _ h1 h2 => ?_, fun _ => ⟨hg.1, hg.2, ⟨a, ha⟩, b, hb⟩⟩
   ·unfold uT stT
    split
    ·split
     ·exact sht_right hrb
     ·exact sht_right hra
    ·exact sht_nil
   ·obtain ⟨i, hi, rfl⟩ := List.getElem_of_mem hp
    have hi' : i < (uP b a).length := by have := hTu.1; omega
    exact sht_right (hTu.2.2 i _ _ (List.getElem?_eq_getElem hi) (List.getElem?_eq_getElem hi')).1
   ·unfold uV stV
    split
    ·split
     ·exact hha
     ·exact hhb
    ·exact wf_zero
   ·unfold uT stT
    split
    ·split
     ·exact hwb
     ·exact hwa
    ·simp [WfT]
   ·unfold uP at hp
    split at hp
    ·unfold partsL at hp
     obtain ⟨⟨x, y⟩, hxy, rfl⟩ := List.mem_map.1 hp
     have hx := List.of_mem_zip hxy
     intro c hc
     unfold makeL at hc
     split at hc
     ·simp only [List.mem_cons, List.flatten_cons, List.flatten_nil, List.append_nil, List.mem_append] at hc
      rcases hc with rfl | hc | hc
      ·exact wf_zero
      ·exact hwa c ((argsL_mem a x hx.1).2 c hc)
      ·exact hwb c ((argsL_mem b y hx.2).2 c hc)
     ·cases hc
    ·cases hp
   ·unfold uP
    rw [if_neg hk]
   ·refine (u14 m p l1 l2 v1 v2 w hp h1 h2 hW1 hW2 hS hg.1 hg.2 hm.len).mono ?_
    rintro e w' ⟨a', b', k1, k2, _, _, k3⟩
    obtain rfl := k1.uniq ha
    obtain rfl := k2.uniq hb
    exact stV_of k3
   ·refine (r12 m q l1 l2 v1 v2 w hD h1 h2 hW1 hW2 hg.1 hg.2 hm.len).mono ?_
    rintro e w' ⟨a', b', k1, k2, _, _, k3⟩
    obtain rfl := k1.uniq ha
    obtain rfl := k2.uniq hb
    exact k3
   ·obtain rfl := h1.uniq ha
    obtain rfl := h2.uniq hb
    exact ⟨rfl, rfl, rfl, rfl⟩
  ·refine ⟨4, (0, 0), [], [], by decide, sht_nil, by simp, wf_zero, by simp [WfT], by simp, fun _ => rfl, fun w p v1 v2 hp h1 h2 hS => ?_, fun w q v1 v2 hD h1 h2 => ?_, fun a b _ _ h1 h2 => absurd ⟨⟨a, h1⟩, b, h2⟩ hex, fun h => absurd rfl h⟩
   ·refine (u14 m p l1 l2 v1 v2 w hp h1 h2 hW1 hW2 hS hg.1 hg.2 hm.len).mono ?_
    rintro e w' ⟨a', b', k1, k2, _⟩
    exact absurd ⟨⟨a', k1⟩, b', k2⟩ hex
   ·refine (r12 m q l1 l2 v1 v2 w hD h1 h2 hW1 hW2 hg.1 hg.2 hm.len).mono ?_
    rintro e w' ⟨a', b', k1, k2, _⟩
    exact absurd ⟨⟨a', k1⟩, b', k2⟩ hex
/-- A step's four answers. -/
structure Stp where
 k : Int
 V : Nm
 T : List C
 P : List (List C)
open Classical in
/-- The step, where there is one. -/
noncomputable def stOf (m : Hp) (l1 l2 : List C) : Stp := if h : ∃ s : Stp, StepR m l1 l2 s.k s.V s.T s.P then Classical.choose h else ⟨4, (0, 0), [], []⟩
theorem stOf_is (m : Hp) (l1 l2 : List C) (hm : HpW m) (hW1 : WfT l1) (hW2 : WfT l2) : StepR m l1 l2 (stOf m l1 l2).k (stOf m l1 l2).V (stOf m l1 l2).T (stOf m l1 l2).P := by
 obtain ⟨k, V, T, P, h⟩ := step_all m l1 l2 hm hW1 hW2
 have hex : ∃ s : Stp, StepR m l1 l2 s.k s.V s.T s.P := ⟨⟨k, V, T, P⟩, h⟩
 unfold stOf
 rw [dif_pos hex]
 exact Classical.choose_spec hex
/-- What came of equations. -/
structure Sol where
 out : Int
 bd : List (Nm × List C)
 left : List (List C)
 st : Nat
/-- What is left to do: the map, the row, what was bound, how many steps. -/
structure Sta where
 m : Hp
 row : List (List C)
 bd : List (Nm × List C)
 d : Nat
/-- A step of the row's first equation: its answer, and what is left. -/
noncomputable def nxK (s : Sta) (t : List C) : Stp := stOf s.m (sd1 t) (sd2 t)
noncomputable def nxS (s : Sta) (t : List C) (r : List (List C)) : Sta :=
 ⟨if (nxK s t).k = 2 then bindH s.m (nxK s t).V (nxK s t).T else s.m, (nxK s t).P ++ r, if (nxK s t).k = 2 then s.bd ++ [((nxK s t).V, (nxK s t).T)] else s.bd, s.d + 1⟩
open Classical in
/-- What comes of a row, in so many steps at most. -/
noncomputable def solF : Nat → Sta → Sol
 | 0, s => match s.row with
  | [] => ⟨1, s.bd, [], s.d⟩
  | t :: r => ⟨3, s.bd, t :: r, s.d⟩
 | n + 1, s => match s.row with
  | [] => ⟨1, s.bd, [], s.d⟩
  | t :: r => if (nxK s t).k = 4 then ⟨2, [], [], s.d + 1⟩ else solF n (nxS s t r)
/-- What holds of what is left to do, ahead of each step. -/
structure StaOk (s : Sta) (n0 : Nat) : Prop where
 hp : HpW s.m
 row : ∀ t ∈ s.row, Sht t ∧ WfT t
 bd : ∀ b ∈ s.bd, Sht b.2 ∧ WfT b.2 ∧ wfN b.1
 len : s.row.length ≤ n0 + 8 * s.d
 bl : s.bd.length ≤ s.d
theorem sd_wf {l : List C} (h : WfT l) : WfT (sd1 l) ∧ WfT (sd2 l) := by
 cases he : eqB l
 ·rw [(sd_no he).1, (sd_no he).2]
  exact ⟨by simp [WfT], by simp [WfT]⟩
 ·obtain ⟨x, y, ha⟩ := eq_two he
  rw [(sd_yes he ha).1, (sd_yes he ha).2]
  exact ⟨fun c hc => h c ((argsL_mem l x (by rw [ha]; simp)).2 c hc), fun c hc => h c ((argsL_mem l y (by rw [ha]; simp)).2 c hc)⟩
theorem StaOk.step {s : Sta} {n0 : Nat} {t : List C} {r : List (List C)} (h : StaOk s n0) (hr : s.row = t :: r) : StepR s.m (sd1 t) (sd2 t) (nxK s t).k (nxK s t).V (nxK s t).T (nxK s t).P := by
 have h1 := (h.row t (by rw [hr]; simp)).2
 exact stOf_is s.m _ _ h.hp (sd_wf h1).1 (sd_wf h1).2
theorem bind_wf {m : Hp} {x : Nm} {l : List C} (h : HpW m) (hl : Sht l) (hx : wfN x) (hw : WfT l) : HpW (bindH m x l) := by
 refine ⟨len_bind h.len (by have := hl.1; omega), fun y l' hy => ?_⟩
 unfold bindH at hy
 split at hy
 ·next e =>
  rw [look_ins m x y l (bind_zero e)] at hy
  split at hy
  ·next e2 =>
   simp only [Option.some.injEq] at hy
   subst hy
   subst e2
   exact ⟨hx, hw⟩
  ·exact h.wf y l' hy
 ·exact h.wf y l' hy
theorem StaOk.next {s : Sta} {n0 : Nat} {t : List C} {r : List (List C)} (h : StaOk s n0) (hr : s.row = t :: r) : StaOk (nxS s t r) n0 := by
 have hs := h.step hr
 refine ⟨?_, fun p hp => ?_, fun b hb => ?_, ?_, ?_⟩
 ·unfold nxS
  dsimp only
  split
  ·exact bind_wf h.hp hs.st hs.wv hs.wt
  ·exact h.hp
 ·rcases List.mem_append.1 hp with hp | hp
  ·exact ⟨hs.sp.2 p hp, hs.wp p hp⟩
  ·exact h.row p (by rw [hr]; exact List.mem_cons_of_mem _ hp)
 ·unfold nxS at hb
  dsimp only at hb
  split at hb
  ·rcases List.mem_append.1 hb with hb | hb
   ·exact h.bd b hb
   ·rw [List.mem_singleton.1 hb]
    exact ⟨hs.st, hs.wt, hs.wv⟩
  ·exact h.bd b hb
 ·have h1 := h.len
  have h2 := hs.sp.1
  rw [hr] at h1
  unfold nxS
  simp only [List.length_append, List.length_cons] at h1 ⊢
  omega
 ·have h1 := h.bl
  unfold nxS
  dsimp only
  split
  ·simp; omega
  ·omega
theorem args_right {l s : List C} (h : rightB l = true) (hs : s ∈ argsL l) : rightB s = true := by
 by_cases h3 : rightB l = true ∧ 0 < l.length ∧ headK l = 3
 ·obtain ⟨h0, h1, hk⟩ := h3
  obtain ⟨j1, j2, j3, j4⟩ := (argsL_spec l h0 h1 hk).2.2 s hs
  have hl := (right_len h).2
  have hc : cellsB s = true := by
   unfold cellsB
   rw [List.all_eq_true]
   exact fun c hc => right_cell h c (j4 c hc)
  rw [right_eat, j1, hc]
  simp
  omega
 ·rw [argsL_none l h3] at hs
  cases hs
/-- The program's test of equations is the document's. -/
theorem none_same (l : List C) : noneB l = (!eqB l || !globalB (sd1 l) || !globalB (sd2 l)) := by
 cases he : eqB l
 ·rw [(sd_no he).1, (sd_no he).2]
  unfold noneB
  unfold eqB at he
  unfold globalB
  cases hr : rightB l
  ·simp
  ·rw [hr] at he
   simp only [Bool.true_and] at he
   rw [he]
   simp
 ·obtain ⟨x, y, ha⟩ := eq_two he
  rw [(sd_yes he ha).1, (sd_yes he ha).2]
  have hr := eq_right he
  have hx := args_right hr (s := x) (by rw [ha]; simp)
  have hy := args_right hr (s := y) (by rw [ha]; simp)
  have h1 : 0 < l.length := (right_len hr).1
  have hk : headK l = 3 := by
   by_cases h3 : rightB l = true ∧ 0 < l.length ∧ headK l = 3
   ·exact h3.2.2
   ·rw [argsL_none l h3] at ha
    cases ha
  have hf := (argsL_spec l hr h1 hk).1
  rw [ha] at hf
  have hv : varsOf l = varsOf x ++ varsOf y := by
   cases l with
   | nil => simp at h1
   | cons c t =>
    simp only [List.tail_cons, List.flatten_cons, List.flatten_nil, List.append_nil] at hf
    rw [← hf]
    have hc : (c.k == 4) = false := by
     have : c.k = 3 := hk
     rw [this]
     rfl
    unfold varsOf
    simp [hc]
  have hi : isB l eqS 2 = true := by
   unfold eqB at he
   rw [Bool.and_eq_true] at he
   exact he.2
  unfold noneB globalB
  rw [hi, hv, hr, hx, hy, List.all_append]
  simp [Bool.not_and]
end Go.Proofs.YtljggjllijacjaaGreatDoor

namespace Go.Proofs
open Go.Shelf
def Tryz.revT_ren : Go.Shelf.Ren := ⟨fun | 35 => 90 | n => n, fun | 22 => 33 | 23 => 24 | 3 => 3 | 4 => 4 | 0 => 0 | n => n, fun | n => n⟩
theorem Tryz.revT : Go.Proofs.SlLaysE.n35 Tryz.prog Tryz.revT_ren := {
 mixed := by kernel_rfl
 f35 := ⟨Tryz.f90.name, by decide, Tryz.func90.trans (congrArg some (by kernel_rfl))⟩
 t0 := Tryz.underlying0
 a0 := Tryz.isAgg0
 z0 := Tryz.sizeOf0
 v0 := Tryz.zeroValue0
 t3 := Tryz.underlying3
 a3 := Tryz.isAgg3
 z3 := Tryz.sizeOf3
 v3 := Tryz.zeroValue3
 t4 := Tryz.underlying4
 a4 := Tryz.isAgg4
 z4 := Tryz.sizeOf4
 v4 := Tryz.zeroValue4
 t22 := Tryz.underlying33
 a22 := Tryz.isAgg33
 z22 := Tryz.sizeOf33
 v22 := Tryz.zeroValue33
 a23 := Tryz.isAgg24
 z23 := Tryz.sizeOf24 }
end Go.Proofs
namespace Go.Proofs.YtljggjllijacjaaGreatDoor
open Go.RowKit Go.Shelf Go.Sort
attribute [local go_sem ↓] Go.wp_at_zero Go.wp_at_succ
abbrev SlV := Option Addr × Nat × Nat
def encS (x : SlV) : Value := .slice x.1 x.2.1 x.2.2
theorem encS_one : OneCell encS := fun _ => rfl
theorem sl_all {us : List Value} (h : ∀ x ∈ us, ∃ a n c, x = .slice a n c) : ∃ zs : List SlV, us = zs.map encS := by
 induction us with
 | nil => exact ⟨[], rfl⟩
 | cons x us ih =>
  obtain ⟨zs, e⟩ := ih fun y hy => h y (List.mem_cons_of_mem _ hy)
  obtain ⟨a, n, c, rfl⟩ := h x List.mem_cons_self
  exact ⟨(a, n, c) :: zs, by rw [e]; rfl⟩
theorem put_heap {w : World} {g n : Nat} {cur : Array Value} {e : TypeId} {fr : Nat × Nat} (d : Array SlV) (hb : w.heap[g]? = some (.cells cur e fr)) : (putRow encS (Sort.ahead w n) g 0 d).heap[g]? = some (.cells (putCells encS 0 d cur) e fr) := by
 simp [putRow, mapBlock, Sort.ahead, Array.getElem?_modify, hb, onCells]
theorem put_grown {w : World} {g n : Nat} (d : Array SlV) : w.grownBy (putRow encS (Sort.ahead w n) g 0 d) (some g) := by
 refine ⟨rfl, rfl, rfl, by simp [putRow, mapBlock, Sort.ahead], fun j hj hne => ?_⟩
 have : g ≠ j := fun e => hne (by rw [e])
 simp [putRow, mapBlock, Sort.ahead, Array.getElem?_modify, this]
theorem put_row {w : World} {base g cap n m : Nat} {e : TypeId} {cur : Array Value} {l : List SlV} (hl : l.length = m) (hbase : base ≤ g) (hb : w.heap[g]? = some (.cells cur e (0, 0))) (h1 : m ≤ cap) (h2 : cap ≤ maxLen) (h3 : cur.size = cap * 1) :
  (putRow encS (Sort.ahead w n) g 0 l.toArray).ownsRow base e 1 (.slice (some ⟨g, 0, none⟩) m cap) m (l.map encS) := by
 refine ⟨by simp [hl], .inr ⟨g, cap, _, rfl, hbase, put_heap _ hb, h1, h2, by simp [putCells, h3], ?_⟩⟩
 apply List.ext_getElem?
 intro j
 by_cases hj : j < m
 ·have hjc : j < cur.size := by omega
  rw [List.getElem?_take_of_lt (by omega), Array.getElem?_toList]
  simp only [putCells, Array.getElem?_mapIdx, Array.getElem?_eq_getElem hjc, Option.map_some, Nat.zero_le, true_and, Nat.zero_add, Nat.sub_zero]
  rw [if_pos (by simp; omega), List.getElem?_map, List.getElem?_eq_getElem (by omega), Option.map_some, getElem!_pos _ j (by simp; omega)]
  simp
 ·rw [List.getElem?_take_eq_none (by omega), List.getElem?_eq_none (by simp; omega)]
theorem rv90 (B : Nat) (u : Value) (us : List Value) (w : World) (h : w.ownsRow B 24 1 u us.length us) (hs : ∀ x ∈ us, ∃ a n c, x = .slice a n c) :
  Calls Tryz.prog 90 #[u] w fun e w' => e = .returned (.tuple #[]) ∧ Hid (w'.ownsRow B 24 1 u us.length us.reverse ∧ w.grownBy w' u.ownBlock) := by
 obtain ⟨zs, rfl⟩ := sl_all hs
 rcases h.2 with ⟨e, h0⟩ | ⟨g, cap, cur, e, h1, h2, h3, h4, h5, h6⟩
 ·subst e
  obtain rfl : zs = [] := by simpa using h0
  refine (show Calls Tryz.prog 90 #[.slice none 0 0] w _ from AnyE.slices_Reverse_empty Tryz.revT none 0 w).mono ?_
  rintro e w' ⟨rfl, rfl⟩
  exact ⟨rfl, h, ⟨rfl, rfl, rfl, Nat.le_refl _, fun _ _ _ => rfl⟩⟩
 ·subst e
  rw [List.length_map] at h3 h6 ⊢
  have hH : Holds encS w g 0 zs.toArray := by
   intro j hj
   have hj' : j < zs.length := by simpa using hj
   refine ⟨?_, by simp [World.frozen?, h2]⟩
   have h7 := range_of_owns' h2 h6 j (encS zs[j]) (by rw [List.getElem?_map, List.getElem?_eq_getElem hj']; rfl)
   rw [h7, getElem!_pos _ j hj]
   simp
  have hcon := AnyE.slices_Reverse Tryz.revT encS encS_one g 0 cap zs w hH (by unfold maxLen at h4; omega)
  refine (show Calls Tryz.prog 90 #[.slice (some ⟨g, 0, none⟩) zs.length cap] w _ from hcon).mono ?_
  rintro e w' ⟨rfl, n, rfl⟩
  refine ⟨rfl, ?_, put_grown _⟩
  have := put_row (n := n) (l := zs.reverse) (m := zs.length) (by simp) h1 h2 h3 h4 h5
  rw [List.map_reverse] at this
  exact this
end Go.Proofs.YtljggjllijacjaaGreatDoor

namespace Go.Proofs.YtljggjllijacjaaGreatDoor
open Go.RowKit
attribute [local go_sem ↓] Go.wp_at_zero Go.wp_at_succ
/-- The cells of a row of bindings. -/
def encBd (bd : List (Nm × List C)) (ts : List Value) : List Value := (bd.zip ts).flatMap fun p => [.int .i64 p.1.1.1, .int .i64 p.1.1.2, p.2]
theorem encBd_snoc (bd : List (Nm × List C)) (ts : List Value) (b : Nm × List C) (t : Value) (h : ts.length = bd.length) : encBd (bd ++ [b]) (ts ++ [t]) = encBd bd ts ++ [.int .i64 b.1.1, .int .i64 b.1.2, t] := by
 unfold encBd
 rw [List.zip_append h.symm, List.flatMap_append]
 simp
structure Sc (w : World) (B sb hb M : Nat) (m : Hp) (bd : List (Nm × List C)) (row : List (List C)) (d : Nat) (bv rv : Value) (n : Nat) (D : DataW Value) (V : Nat → Prop) (ts us : List Value) : Prop where
 rc : SvAt w sb hb bv rv (d : Int)
 bo : w.ownsRow B 73 3 bv bd.length (encBd bd ts)
 ro : w.ownsRow B 24 1 rv row.length us
 tl : ts.length = bd.length
 to : ∀ (j : Nat) (u : Value) (b : Nm × List C), ts[j]? = some u → bd[j]? = some b → OwnT w B u b.2
 uo : ∀ (j : Nat) (u : Value) (l : List C), us[j]? = some u → row.reverse[j]? = some l → OwnT w B u l
 apt : Ap ts
 apu : Ap us
 apx : ∀ t ∈ ts, ∀ u ∈ us, ∀ g, t.ownBlock = some g → u.ownBlock ≠ some g
 hp : HpAt w hb M n D m
 vb : VB D V
 vv : ∀ g, V g → g < w.heap.size ∧ g ≠ sb ∧ bv.ownBlock ≠ some g ∧ rv.ownBlock ≠ some g
 low : B ≤ sb ∧ B ≤ hb ∧ B ≤ M ∧ B ≤ w.heap.size
theorem own_typed {w : World} {B e s n : Nat} {v : Value} {xs : List Value} (h : w.ownsRow B e s v n xs) (g : Nat) (hg : v.ownBlock = some g) : ∃ cu, w.heap[g]? = some (.cells cu e (0, 0)) := by
 rcases h.2 with ⟨rfl, _⟩ | ⟨g', cap, cur, rfl, h2, h3, h4⟩
 ·simp [Value.ownBlock] at hg
 ·simp [Value.ownBlock] at hg
  subst hg
  exact ⟨cur, h3⟩
section
variable {w w' : World} {B sb hb M : Nat} {m : Hp} {bd : List (Nm × List C)} {row : List (List C)} {d : Nat} {bv rv : Value} {n : Nat} {D : DataW Value} {V : Nat → Prop} {ts us : List Value}
/-- What stays where the record, what it bound and its row are written. -/
def Kw (sb : Nat) (bv rv : Value) (w w' : World) : Prop := w.heap.size ≤ w'.heap.size ∧ ∀ k, k < w.heap.size → k ≠ sb → bv.ownBlock ≠ some k → rv.ownBlock ≠ some k → w'.heap[k]? = w.heap[k]?
theorem Kw.of_below (h : Below w.heap.size w w') : Kw sb bv rv w w' := ⟨h.size, fun k hk _ _ _ => h.block k hk⟩
theorem Sc.typed (h : Sc w B sb hb M m bd row d bv rv n D V ts us) (hk : Kw sb bv rv w w') {k : Nat} {cur : Array Value} {t : TypeId} {fr : Nat × Nat} (h1 : t ≠ 104) (h2 : t ≠ 73) (h3 : t ≠ 24) (hc : w.heap[k]? = some (.cells cur t fr)) : w'.heap[k]? = w.heap[k]? := by
 refine hk.2 k (Array.getElem?_eq_some_iff.1 hc).1 ?_ (fun e => ?_) (fun e => ?_)
 ·rintro rfl
  rw [h.rc] at hc
  simp only [Option.some.injEq, Obj.cells.injEq] at hc
  exact h1 hc.2.1.symm
 ·obtain ⟨cu, e2⟩ := own_typed h.bo k e
  rw [e2] at hc
  simp only [Option.some.injEq, Obj.cells.injEq] at hc
  exact h2 hc.2.1.symm
 ·obtain ⟨cu, e2⟩ := own_typed h.ro k e
  rw [e2] at hc
  simp only [Option.some.injEq, Obj.cells.injEq] at hc
  exact h3 hc.2.1.symm
theorem Sc.term (h : Sc w B sb hb M m bd row d bv rv n D V ts us) (hk : Kw sb bv rv w w') {u : Value} {l : List C} {B' : Nat} (ho : OwnT w B' u l) : OwnT w' B' u l :=
 owns_blocks ho fun _ _ hc => h.typed hk (by decide) (by decide) (by decide) hc
theorem Sc.map (h : Sc w B sb hb M m bd row d bv rv n D V ts us) (hk : Kw sb bv rv w w') : HpAt w' hb M n D m := by
 refine h.hp.keeps h.vb (h.typed hk (by decide) (by decide) (by decide) h.hp.blk) (hk.2 M h.hp.map.lt ?_ (fun e => ?_) (fun e => ?_)) fun g hg => hk.2 g (h.vv g hg).1 (h.vv g hg).2.1 (h.vv g hg).2.2.1 (h.vv g hg).2.2.2
 ·rintro rfl
  obtain ⟨es, ck, k1, _⟩ := h.hp.map
  have := h.rc
  unfold SvAt at this
  rw [this] at k1
  simp at k1
 ·obtain ⟨cu, e2⟩ := own_typed h.bo M e
  obtain ⟨es, ck, k1, _⟩ := h.hp.map
  rw [e2] at k1
  simp at k1
 ·obtain ⟨cu, e2⟩ := own_typed h.ro M e
  obtain ⟨es, ck, k1, _⟩ := h.hp.map
  rw [e2] at k1
  simp at k1
/-- Another record, another row, more that is bound. -/
theorem Sc.turn {bv' rv' : Value} {d' : Nat} {bd' : List (Nm × List C)} {row' : List (List C)} {ts' us' : List Value} (h : Sc w B sb hb M m bd row d bv rv n D V ts us) (hk : Kw sb bv rv w w')
  (hrc : SvAt w' sb hb bv' rv' (d' : Int)) (hbo : w'.ownsRow B 73 3 bv' bd'.length (encBd bd' ts')) (hro : w'.ownsRow B 24 1 rv' row'.length us') (htl : ts'.length = bd'.length)
  (hto : ∀ (j : Nat) (u : Value) (b : Nm × List C), ts'[j]? = some u → bd'[j]? = some b → OwnT w B u b.2 ∨ OwnT w' B u b.2) (huo : ∀ (j : Nat) (u : Value) (l : List C), us'[j]? = some u → row'.reverse[j]? = some l → OwnT w B u l ∨ OwnT w' B u l)
  (hat : Ap ts') (hau : Ap us') (hax : ∀ t ∈ ts', ∀ u ∈ us', ∀ g, t.ownBlock = some g → u.ownBlock ≠ some g)
  (hbv : bv'.ownBlock = bv.ownBlock ∨ ∃ z, bv'.ownBlock = some z ∧ w.heap.size ≤ z) (hrv : rv'.ownBlock = rv.ownBlock ∨ ∃ z, rv'.ownBlock = some z ∧ w.heap.size ≤ z) : Sc w' B sb hb M m bd' row' d' bv' rv' n D V ts' us' := by
 refine ⟨hrc, hbo, hro, htl, fun j u b hu hb => ?_, fun j u l hu hl => ?_, hat, hau, hax, h.map hk, h.vb, fun g hg => ?_, h.low.1, h.low.2.1, h.low.2.2.1, Nat.le_trans h.low.2.2.2 hk.1⟩
 ·rcases hto j u b hu hb with k | k
  ·exact h.term hk k
  ·exact k
 ·rcases huo j u l hu hl with k | k
  ·exact h.term hk k
  ·exact k
 ·obtain ⟨v1, v2, v3, v4⟩ := h.vv g hg
  refine ⟨Nat.lt_of_lt_of_le v1 hk.1, v2, fun e => ?_, fun e => ?_⟩
  ·rcases hbv with k | ⟨z, k1, k2⟩
   ·rw [k] at e; exact v3 e
   ·rw [k1] at e; cases e; omega
  ·rcases hrv with k | ⟨z, k1, k2⟩
   ·rw [k] at e; exact v4 e
   ·rw [k1] at e; cases e; omega
theorem Sc.below (h : Sc w B sb hb M m bd row d bv rv n D V ts us) (hw : Below w.heap.size w w') : Sc w' B sb hb M m bd row d bv rv n D V ts us := by
 refine h.turn (Kw.of_below hw) ((hw.block sb (Array.getElem?_eq_some_iff.1 h.rc).1).trans h.rc) (owns_low h.bo hw) (owns_low h.ro hw) h.tl (fun j u b h1 h2 => .inl (h.to j u b h1 h2)) (fun j u l h1 h2 => .inl (h.uo j u l h1 h2)) h.apt h.apu h.apx (.inl rfl) (.inl rfl)
end
end Go.Proofs.YtljggjllijacjaaGreatDoor
