/- How terms lie one behind the other in a row of cells. Contracts of the library function Clone and of the reference's copied. Contract of Args: for every term it returns the arguments of a structure. Contract of the reference Args. -/
import Derived.Test.YtljggjllijacjaaGreatDoorR1xg
import Derived.Test.YtljggjllijacjaaGreatDoorRAg
import Derived.Lib.SliceRun
namespace Go.Proofs.YtljggjllijacjaaGreatDoor
open Go.RowKit
/-- How many cells so many terms take, from the beginning on. -/
def eat : List C → Nat → Option Nat
 | _, 0 => some 0
 | [], _ + 1 => none
 | c :: r, q + 1 => (eat r (q + (argsOf c.k c.n).toNat)).map (· + 1)
theorem eat_zero (l : List C) : eat l 0 = some 0 := by cases l <;> rfl
theorem eat_le : ∀ (l : List C) (q m : Nat), eat l q = some m → q ≤ m ∧ m ≤ l.length
 | l, 0, m, h => by rw [eat_zero] at h; cases h; simp
 | [], q + 1, m, h => by simp [eat] at h
 | c :: r, q + 1, m, h => by
  simp only [eat, Option.map_eq_some_iff] at h
  obtain ⟨m', h', rfl⟩ := h
  have := eat_le r _ _ h'
  simp; omega
theorem eat_split : ∀ (l : List C) (p q m : Nat), eat l (p + q) = some m → ∃ m1 m2, eat l p = some m1 ∧ eat (l.drop m1) q = some m2 ∧ m = m1 + m2
 | l, 0, q, m, h => ⟨0, m, eat_zero l, by simpa using h, by simp⟩
 | [], p + 1, q, m, h => by rw [show p + 1 + q = (p + q) + 1 by omega] at h; simp [eat] at h
 | c :: r, p + 1, q, m, h => by
  rw [show p + 1 + q = (p + q) + 1 by omega] at h
  simp only [eat, Option.map_eq_some_iff] at h
  obtain ⟨m', h', rfl⟩ := h
  rw [show p + q + (argsOf c.k c.n).toNat = (p + (argsOf c.k c.n).toNat) + q by omega] at h'
  obtain ⟨m1, m2, e1, e2, rfl⟩ := eat_split r _ _ _ h'
  exact ⟨m1 + 1, m2, by simp [eat, e1], by simpa using e2, by omega⟩
theorem eat_take : ∀ (l : List C) (q m : Nat), eat l q = some m → eat (l.take m) q = some m
 | l, 0, m, h => by rw [eat_zero] at h; cases h; simp [eat_zero]
 | [], q + 1, m, h => by simp [eat] at h
 | c :: r, q + 1, m, h => by
  simp only [eat, Option.map_eq_some_iff] at h
  obtain ⟨m', h', rfl⟩ := h
  simp [eat, eat_take r _ _ h']
theorem refF_eat (len : Int) : ∀ (l : List C) (i : Int) (q : Nat), (l.length : Int) ≤ len → refF len l i q = (match eat l q with | some m => i + m | none => 0)
 | [], i, 0, _ => by simp [refF, eat]
 | c :: r, i, 0, _ => by simp [refF, eat]
 | [], i, q + 1, _ => by
  have hq : (0 : Int) < ((q + 1 : Nat) : Int) := by omega
  simp only [refF, hq, if_true, eat]
 | c :: r, i, q + 1, hl => by
  have ha := argsOf_nonneg c.k c.n
  simp at hl
  have hq : (0 : Int) < ((q + 1 : Nat) : Int) := by omega
  simp only [refF, hq, if_true, eat]
  have hr := refF_eat len r (i + 1) (q + (argsOf c.k c.n).toNat) (by omega)
  rw [show ((q + (argsOf c.k c.n).toNat : Nat) : Int) = ((q + 1 : Nat) : Int) - 1 + argsOf c.k c.n by omega] at hr
  by_cases hb : len < argsOf c.k c.n
  ·rw [if_pos hb]
   cases he : eat r (q + (argsOf c.k c.n).toNat) with
   | none => rfl
   | some m => have := eat_le _ _ _ he; omega
  ·rw [if_neg hb, hr]
   cases he : eat r (q + (argsOf c.k c.n).toNat) with
   | none => rfl
   | some m =>
    show i + 1 + (m : Int) = i + ((m + 1 : Nat) : Int)
    omega
theorem endS_eat (l : List C) (p : Nat) (hp : p < l.length) : endS l p = (match eat (l.drop p) 1 with | some m => (p : Int) + m | none => 0) := by
 rw [← refF_eat l.length (l.drop p) p 1 (by simp)]
 rw [show ((1 : Nat) : Int) = 1 from rfl, refF_eq _ _ _ _ (by omega) (by simp)]
 unfold endS
 rw [if_neg (by omega)]; simp
theorem right_eat {l : List C} : rightB l = (decide (1 ≤ l.length) && decide (l.length ≤ 256) && cellsB l && (eat l 1 == some l.length)) := by
 unfold rightB
 by_cases h1 : 1 ≤ l.length
 ·have h := endS_eat l 0 (by omega)
  rw [List.drop_zero] at h
  have h0 : endS l 0 = (match eat l 1 with | some m => ((0 : Nat) : Int) + m | none => 0) := h
  have e : (endS l 0 == (l.length : Int)) = (eat l 1 == some l.length) := by
   rw [h0]
   cases he : eat l 1 with
   | none => simp; omega
   | some m =>
    rw [Bool.eq_iff_iff]
    simp
    omega
  rw [e]
  have e1 : decide (1 ≤ (l.length : Int)) = decide (1 ≤ l.length) := by simp; omega
  have e2 : decide ((l.length : Int) ≤ 256) = decide (l.length ≤ 256) := by
   rw [Bool.eq_iff_iff]; simp; omega
  rw [e1, e2]
 ·have e1 : decide (1 ≤ (l.length : Int)) = false := by simp; omega
  rw [e1, decide_eq_false h1]; simp
/-- The terms of which a row of cells is made. -/
def cutF : Nat → List C → List (List C)
 | 0, _ => []
 | _ + 1, [] => []
 | f + 1, c :: r => match eat (c :: r) 1 with
  | some m => (c :: r).take m :: cutF f ((c :: r).drop m)
  | none => []
theorem cut_step (f : Nat) (r : List C) (q : Nat) (hr : 0 < r.length) (h : eat r q = some r.length) : ∃ m q', q = q' + 1 ∧ eat r 1 = some m ∧ 1 ≤ m ∧ m ≤ r.length ∧ eat (r.drop m) q' = some (r.drop m).length ∧ cutF (f + 1) r = r.take m :: cutF f (r.drop m) := by
 cases q with
 | zero =>
  rw [eat_zero] at h
  have := Option.some.inj h
  omega
 | succ q' =>
  rw [Nat.add_comm] at h
  obtain ⟨m1, m2, e1, e2, e3⟩ := eat_split r 1 q' _ h
  have hle := eat_le _ _ _ e1
  refine ⟨m1, q', rfl, e1, hle.1, hle.2, ?_, ?_⟩
  ·rw [e2]; simp; omega
  ·match r, hr with
   | c :: r', _ => simp only [cutF, e1]
theorem cut_spec : ∀ (f : Nat) (r : List C) (q : Nat), r.length ≤ f → eat r q = some r.length → (cutF f r).flatten = r ∧ (cutF f r).length = q ∧ ∀ s ∈ cutF f r, eat s 1 = some s.length ∧ 1 ≤ s.length ∧ s.length ≤ r.length ∧ ∀ c ∈ s, c ∈ r
 | f, [], q, hf, h => by
  have hle := eat_le _ _ _ h
  simp at hle
  subst hle
  cases f <;> simp [cutF]
 | 0, c :: r, q, hf, h => by simp at hf
 | f + 1, c :: r, q, hf, h => by
  obtain ⟨m, q', rfl, e1, h1, hm, e2, e3⟩ := cut_step f (c :: r) q (by simp) h
  obtain ⟨i1, i2, i3⟩ := cut_spec f ((c :: r).drop m) q' (by simp at hf ⊢; omega) e2
  rw [e3]
  refine ⟨by rw [List.flatten_cons, i1, List.take_append_drop], by rw [List.length_cons, i2], ?_⟩
  intro s hs
  rcases List.mem_cons.1 hs with rfl | hs
  ·have ht := eat_take _ _ _ e1
   have hl : ((c :: r).take m).length = m := by rw [List.length_take]; omega
   exact ⟨by rw [hl]; exact ht, by omega, by omega, fun d hd => List.mem_of_mem_take hd⟩
  ·obtain ⟨j1, j2, j3, j4⟩ := i3 s hs
   exact ⟨j1, j2, by simp at j3; simp; omega, fun d hd => List.mem_of_mem_drop (j4 d hd)⟩
theorem cut_fuel : ∀ (f g : Nat) (r : List C), r.length ≤ f → r.length ≤ g → cutF f r = cutF g r
 | 0, g, r, hf, _ => by
  have : r = [] := List.eq_nil_of_length_eq_zero (by omega)
  subst this; cases g <;> rfl
 | f + 1, 0, r, _, hg => by
  have : r = [] := List.eq_nil_of_length_eq_zero (by omega)
  subst this; rfl
 | f + 1, g + 1, [], _, _ => rfl
 | f + 1, g + 1, c :: r, hf, hg => by
  simp only [cutF]
  cases he : eat (c :: r) 1 with
  | none => rfl
  | some m =>
   have hle := eat_le _ _ _ he
   simp only
   rw [cut_fuel f g ((c :: r).drop m) (by simp at hf ⊢; omega) (by simp at hg ⊢; omega)]
def headK (l : List C) : Int := match l with | [] => 0 | c :: _ => c.k
/-- The arguments of a structure. -/
def argsL (l : List C) : List (List C) := if rightB l && (headK l == 3) then cutF l.length l.tail else []
end Go.Proofs.YtljggjllijacjaaGreatDoor

namespace Go.Proofs.YtljggjllijacjaaGreatDoor
open Go.RowKit
theorem flat_drop (l : List C) (k : Nat) : flat (l.drop k) = (flat l).drop (5 * k) := by
 induction l generalizing k with
 | nil => simp [flat]
 | cons a r ih =>
  cases k with
  | zero => simp
  | succ k =>
   rw [List.drop_succ_cons, ih k]
   have e : flat (a :: r) = a.vals ++ flat r := by simp [flat]
   rw [e, show 5 * (k + 1) = 5 * k + 5 by omega, Nat.add_comm, ← List.drop_drop]
   rfl
theorem flat_take (l : List C) (k : Nat) : flat (l.take k) = (flat l).take (5 * k) := by
 induction l generalizing k with
 | nil => simp [flat]
 | cons a r ih =>
  cases k with
  | zero => simp [flat]
  | succ k =>
   rw [List.take_succ_cons]
   have e : ∀ x : List C, flat (a :: x) = a.vals ++ flat x := fun x => by simp [flat]
   rw [e, e, ih k, show 5 * (k + 1) = a.vals.length + 5 * k by simp [C.vals]; omega, List.take_length_add_append]
theorem range_sub {w : World} {b o : Nat} {l : List C} (h : w.rangeAt b o (flat l)) (k m : Nat) : w.rangeAt b (o + k * 5) (flat ((l.drop k).take m)) := by
 intro j v hv
 rw [flat_take, flat_drop, List.getElem?_take] at hv
 split at hv
 ·rw [List.getElem?_drop] at hv
  have := h _ v hv
  rw [show o + (5 * k + j) = o + k * 5 + j by omega] at this
  exact this
 ·cases hv
set_option maxHeartbeats 1000000 in
theorem c52_in (l : List C) (b o cap : Nat) (w : World) (hr : w.rangeAt b o (flat l)) (hby47 : l.length * 48 ≤ 140737488355328) :
  Calls Tryz.prog 83 #[.slice (some ⟨b, o, none⟩) l.length cap] w fun e w' => ∃ u, e = .returned u ∧ OwnT w' w.heap.size u l ∧ Below w.heap.size w w' := by
 obtain ⟨i0, hi, hz, hs, hby⟩ := info60
 have hnews : Hid (∀ j u, (flat l)[j]? = some u → w.cell? ((⟨b, o, none⟩ : Addr).add j) = some u) := fun j u hu => by rw [Addr.add_mid]; exact hr j u hu
 have hlen : Hid ((flat l).length = l.length * 5) := by
  show (flat l).length = l.length * 5
  rw [flat_length]; omega
 clear hr
 go_enter Tryz.func83, Tryz.ntmps83
 go_wp2_with (at_builtin; refine wpList_append_own _ rfl _ _ 24 rfl w.heap.size 78 i0 zero60 5 48 Tryz.underlying24 hi hz hs hby rfl (by decide) _ _ _ rfl (World.ownsRow_nil w w.heap.size 78 5) ⟨b, o, none⟩ l.length cap (flat l) rfl hlen.out hnews.out (flat_one _) (by unfold maxLen; omega) (by omega) (Nat.le_refl _) ?_)
 intro v' w' hown' hgrow hnil
 have hown' : Hid (OwnT w' w.heap.size v' l) := hown'
 have hb : Hid (Below w.heap.size w w') := (Below.refl _ _).grown hgrow (Nat.le_refl _) (fun g hg => by simp [Value.ownBlock] at hg)
 clear hgrow hnil
 go_wp2_with fail
 go_ret
 exact ⟨_, rfl, hown'.out, hb.out⟩
set_option maxHeartbeats 1000000 in
theorem c51_in (l : List C) (b o cap : Nat) (w : World) (hr : w.rangeAt b o (flat l)) (hb : b < w.heap.size) (hby47 : l.length * 48 ≤ 140737488355328) :
  Calls Tryz.prog 56 #[.slice (some ⟨b, o, none⟩) l.length cap] w fun e w' => ∃ u, e = .returned u ∧ OwnT w' w.heap.size u l ∧ Below w.heap.size w w' := by
 obtain ⟨i0, hi, hz, hs, hby⟩ := info60
 have hnl := fun (w : World) (a : Option Addr) (n c : Nat) => Lib.run_eql_slice_nil (P := Tryz.prog) w 24 78 a n c 0 0 Tryz.underlying24
 have hB : ∀ ob : Obj, Hid (Below w.heap.size w (w.alloc ob)) := fun ob => below_alloc w ob
 have hnews : ∀ ob : Obj, Hid (∀ j u, (flat l)[j]? = some u → (w.alloc ob).cell? ((⟨b, o, none⟩ : Addr).add j) = some u) := fun ob j u hu => by rw [Addr.add_mid]; exact cell_alloc hb (hr j u hu)
 have hown0 : Hid ((w.alloc (.cells #[] 78)).ownsRow w.heap.size 78 5 (.slice (some ⟨w.heap.size, 0, none⟩) 0 0) 0 []) := World.ownsRow_lit w #[] 0 (Nat.le_refl _) (by simp) rfl
 have hlen : Hid ((flat l).length = l.length * 5) := by
  show (flat l).length = l.length * 5
  rw [flat_length]; omega
 clear hr
 go_enter Tryz.func56, Tryz.ntmps56
 go_wp2_with (at_builtin; refine wpList_append_own _ rfl _ _ 24 rfl w.heap.size 78 i0 zero60 5 48 Tryz.underlying24 hi hz hs hby rfl (by decide) _ _ _ rfl hown0.out ⟨b, o, none⟩ l.length cap (flat l) rfl hlen.out (hnews _).out (flat_one _) (by unfold maxLen; omega) (by omega) (by simp) ?_)
 intro v' w' hown' hgrow hnil
 have hown' : Hid (OwnT w' w.heap.size v' l) := hown'
 have hb : Hid (Below w.heap.size w w') := (hB _).out.grown hgrow (by simp) (fun g hg => by simp [Value.ownBlock] at hg; omega)
 clear hgrow hnil
 go_wp2_with fail
 go_ret
 exact ⟨_, rfl, hown'.out, hb.out⟩
end Go.Proofs.YtljggjllijacjaaGreatDoor

namespace Go.Proofs.YtljggjllijacjaaGreatDoor
open Go.RowKit
theorem headK_get {l : List C} (h : 0 < l.length) : headK l = l[0].k := by
 match l, h with
 | c :: r, _ => rfl
theorem right_cell {l : List C} (hr : rightB l = true) : ∀ c ∈ l, c.ok = true := by
 unfold rightB at hr
 simp only [Bool.and_eq_true] at hr
 have := hr.1.2
 unfold cellsB at this
 rw [List.all_eq_true] at this
 exact this
theorem struct_n {c : C} (h : c.ok = true) (hk : c.k = 3) : 1 ≤ c.n ∧ c.n ≤ 8 := by
 obtain ⟨k, t, n, vn, vk⟩ := c
 simp only at hk
 subst hk
 have h1 : structFits 1 8 t.data.toList n = true := by
  simp only [C.ok, cellB, if_neg (show ¬ ((3 : Int) = 1) by decide), if_neg (show ¬ ((3 : Int) = 2) by decide), if_true, Bool.and_eq_true] at h
  exact h.2
 simp only [structFits, between, Bool.and_eq_true, Bool.or_eq_true, decide_eq_true_eq, beq_iff_eq] at h1
 show 1 ≤ n ∧ n ≤ 8
 omega
theorem head_n {l : List C} (hr : rightB l = true) (h1 : 0 < l.length) (hk : l[0].k = 3) : 1 ≤ l[0].n ∧ l[0].n ≤ 8 := struct_n (right_cell hr _ (List.getElem_mem _)) hk
theorem head_eat {l : List C} (hr : rightB l = true) (h1 : 0 < l.length) : eat (l.drop 1) (argsOf l[0].k l[0].n).toNat = some (l.drop 1).length := by
 rw [right_eat] at hr
 simp only [Bool.and_eq_true, beq_iff_eq] at hr
 have h := hr.2
 match l, h1 with
 | c :: r, _ =>
  simp only [eat, Option.map_eq_some_iff] at h
  obtain ⟨m, h2, h3⟩ := h
  simp at h3
  subst h3
  simpa using h2

theorem argsL_spec (l : List C) (hr : rightB l = true) (h1 : 0 < l.length) (hk : headK l = 3) : (argsL l).flatten = l.tail ∧ (argsL l).length = (argsOf l[0].k l[0].n).toNat ∧ ∀ s ∈ argsL l, eat s 1 = some s.length ∧ 1 ≤ s.length ∧ s.length ≤ l.length ∧ ∀ c ∈ s, c ∈ l := by
 have e : argsL l = cutF l.length l.tail := by unfold argsL; rw [hr, hk]; rfl
 have he := head_eat hr h1
 rw [List.drop_one] at he
 obtain ⟨i1, i2, i3⟩ := cut_spec l.length l.tail _ (by simp) he
 rw [e]
 refine ⟨i1, i2, fun s hs => ?_⟩
 obtain ⟨j1, j2, j3, j4⟩ := i3 s hs
 exact ⟨j1, j2, by simp at j3; omega, fun c hc => List.mem_of_mem_tail (j4 c hc)⟩
theorem argsL_none (l : List C) (h : ¬ (rightB l = true ∧ 0 < l.length ∧ headK l = 3)) : argsL l = [] := by
 unfold argsL
 by_cases hr : rightB l = true
 ·have := (right_len hr).1
  have hk : ¬ headK l = 3 := fun e => h ⟨hr, by omega, e⟩
  rw [if_neg (by simp [hk])]
 ·rw [if_neg (by simp [hr])]
theorem argsL_len (l : List C) : (argsL l).length ≤ 8 := by
 by_cases h : rightB l = true ∧ 0 < l.length ∧ headK l = 3
 ·obtain ⟨hr, h1, hk⟩ := h
  rw [(argsL_spec l hr h1 hk).2.1]
  rw [headK_get h1] at hk
  have hn := head_n hr h1 hk
  unfold argsOf; rw [if_pos hk]; omega
 ·rw [argsL_none l h]; simp
theorem argsL_mem (l : List C) (s : List C) (hs : s ∈ argsL l) : s.length ≤ 256 ∧ ∀ c ∈ s, c ∈ l := by
 by_cases h : rightB l = true ∧ 0 < l.length ∧ headK l = 3
 ·obtain ⟨hr, h1, hk⟩ := h
  obtain ⟨j1, j2, j3, j4⟩ := (argsL_spec l hr h1 hk).2.2 s hs
  have := (right_len hr).2
  exact ⟨by omega, j4⟩
 ·rw [argsL_none l h] at hs; cases hs
/-- Slices in blocks that are not shared. -/
def Ap (us : List Value) : Prop := ∀ (j j' : Nat) (v v' : Value) (g : Nat), j ≠ j' → us[j]? = some v → us[j']? = some v' → v.ownBlock = some g → v'.ownBlock ≠ some g
theorem ap_snoc {us : List Value} {u : Value} {n : Nat} (h : Ap us) (ho : ∀ (j : Nat) (v : Value) (g : Nat), us[j]? = some v → v.ownBlock = some g → g < n) (hn : ∀ g, u.ownBlock = some g → n ≤ g) : Ap (us ++ [u]) := by
 have hget : ∀ (j : Nat) (x : Value), (us ++ [u])[j]? = some x → us[j]? = some x ∨ (j = us.length ∧ x = u) := by
  intro j x hx
  by_cases hj : j < us.length
  ·rw [List.getElem?_append_left hj] at hx; exact .inl hx
  ·rw [List.getElem?_append_right (by omega)] at hx
   have h0 : j - us.length = 0 := by
    have := (List.getElem?_eq_some_iff.1 hx).1
    simp at this; omega
   rw [h0] at hx; simp at hx
   exact .inr ⟨by omega, hx.symm⟩
 intro j j' v v' g hne hv hv' hg hg'
 rcases hget j v hv with h1 | ⟨h1, rfl⟩ <;> rcases hget j' v' hv' with h2 | ⟨h2, rfl⟩
 ·exact h j j' v v' g hne h1 h2 hg hg'
 ·have := ho j v g h1 hg; have := hn g hg'; omega
 ·have := ho j' v' g h2 hg'; have := hn g hg; omega
 ·exact hne (h1.trans h2.symm)
/-- A row of terms in memory of its own. -/
def OwnRow (w : World) (n : Nat) (u : Value) (ls : List (List C)) : Prop := ∃ us, w.ownsRow n 24 1 u ls.length us ∧ (∀ (j : Nat) (v : Value) (x : List C), us[j]? = some v → ls[j]? = some x → OwnT w n v x) ∧ Ap us
theorem ownRow_nil (w : World) (n : Nat) : OwnRow w n (.slice none 0 0) [] := ⟨[], World.ownsRow_nil _ _ _ _, fun j v x h => by simp at h, fun j j' v v' g _ h => by simp at h⟩
theorem ownRow_row {w : World} {n : Nat} {u : Value} {ls : List (List C)} (h : OwnRow w n u ls) (hl : ls.length ≤ maxLen) (ht : ∀ x ∈ ls, x.length ≤ maxLen ∧ ∀ c ∈ x, c.t.size ≤ maxLen) : RowAt w u ls := by
 obtain ⟨us, h1, h2, _⟩ := h
 by_cases h0 : ls.length = 0
 ·have e0 : ls = [] := List.eq_nil_of_length_eq_zero h0
  subst e0
  rcases h1.2 with ⟨e1, _⟩ | ⟨g, c, cur, e1, e2, e3, e4, e5, _⟩
  ·exact ⟨by simp, Or.inl ⟨rfl, none, e1⟩⟩
  ·exact ⟨by simp, Or.inr ⟨g, 0, c, [], e1, by simp, e5, (Array.getElem?_eq_some_iff.1 e3).1, rfl, fun j u hu => by simp at hu, fun i u l hu => by simp at hu⟩⟩
 ·refine rowAt_of_owns h1 (by omega) hl (fun i u x hu hx => ?_)
  have hin := ht x (List.mem_of_getElem? hx)
  exact ownT_term (h2 i u x hu hx) hin.1 hin.2
set_option maxRecDepth 100000 in
set_option maxHeartbeats 2000000 in
theorem c26_no (l : List C) (v : Value) (w : World) (hT : TermAt w v l) (hS : Signs w) (hno : rightB l = false) :
  Calls Tryz.prog 70 #[v] w fun e w' => e = .returned (.slice none 0 0) ∧ Below w.heap.size w w' := by
 have HT : Hid (TermAt w v l) := hT
 have HS : Hid (Signs w) := hS
 clear hS
 obtain ⟨ad, cap, hf⟩ := hT.form
 subst hf
 clear hT
 have HC := c22 l _ w HT.out HS.out
 rw [hno] at HC
 have HC : Hid (Calls Tryz.prog 68 #[.slice ad l.length cap] w fun e w' => e = .returned (.bool false) ∧ Below w.heap.size w w') := HC
 clear hno
 go_enter Tryz.func70, Tryz.ntmps70
 go_wp2_with fail
 refine HC.out.mono ?_
 rintro e w' ⟨rfl, hb⟩
 go_wp2_with fail
 go_ret
 exact ⟨rfl, hb⟩
set_option maxRecDepth 100000 in
set_option maxHeartbeats 2000000 in
theorem c26_kind (l : List C) (b o cap : Nat) (w : World) (hT : TermAt w (.slice (some ⟨b, o, none⟩) l.length cap) l) (hS : Signs w) (hr : w.rangeAt b o (flat l)) (hb : b < w.heap.size) (h1 : 0 < l.length) (hyes : rightB l = true) (hk : (l[0].k != 3) = true) :
  Calls Tryz.prog 70 #[.slice (some ⟨b, o, none⟩) l.length cap] w fun e w' => e = .returned (.slice none 0 0) ∧ Below w.heap.size w w' := by
 have HT : Hid (TermAt w (.slice (some ⟨b, o, none⟩) l.length cap) l) := hT
 have HS : Hid (Signs w) := hS
 clear hS
 have HC := c22 l _ w HT.out HS.out
 rw [hyes] at HC
 have HC : Hid (Calls Tryz.prog 68 #[.slice (some ⟨b, o, none⟩) l.length cap] w fun e w' => e = .returned (.bool true) ∧ Below w.heap.size w w') := HC
 have HR : Hid (w.rangeAt b o (flat l)) := hr
 have h1' : (0 : Int) < (l.length : Int) := by omega
 clear hyes hr hT
 go_enter Tryz.func70, Tryz.ntmps70
 go_wp2_with fail
 refine HC.out.mono ?_
 rintro e w' ⟨rfl, hbb⟩
 obtain ⟨p0, p1, p2, p3, p4⟩ := term_cells (range_below HR.out hb hbb) 0 h1
 simp only [Nat.zero_mul, Nat.add_zero] at p0 p1 p2 p3 p4
 go_wp2_with fail
 go_ret
 exact ⟨rfl, hbb⟩
set_option maxRecDepth 100000 in
set_option maxHeartbeats 4000000 in
theorem c26_in (l : List C) (b o cap : Nat) (w : World) (hT : TermAt w (.slice (some ⟨b, o, none⟩) l.length cap) l) (hS : Signs w) (hr : w.rangeAt b o (flat l)) (hb : b < w.heap.size) (hcap : l.length ≤ cap) (hcm : cap ≤ maxLen) (h1 : 0 < l.length) (hyes : rightB l = true) (hk : l[0].k = 3) :
  Calls Tryz.prog 70 #[.slice (some ⟨b, o, none⟩) l.length cap] w fun e w' => ∃ u, e = .returned u ∧ OwnRow w' w.heap.size u (argsL l) ∧ Below w.heap.size w w' := by
 obtain ⟨i0, hi, hz0, hs0, hby⟩ := info29
 have HT : Hid (TermAt w (.slice (some ⟨b, o, none⟩) l.length cap) l) := hT
 have HS : Hid (Signs w) := hS
 clear hS
 have HC := c22 l _ w HT.out HS.out
 rw [hyes] at HC
 have HC : Hid (Calls Tryz.prog 68 #[.slice (some ⟨b, o, none⟩) l.length cap] w fun e w' => e = .returned (.bool true) ∧ Below w.heap.size w w') := HC
 have HR : Hid (w.rangeAt b o (flat l)) := hr
 have hcm' : cap ≤ 2 ^ 63 - 1 := hcm
 have h256 := (right_len hyes).2
 have h1' : (0 : Int) < (l.length : Int) := by omega
 have hcap' : (l.length : Int) ≤ (cap : Int) := by omega
 have hkb : (l[0].k != 3) = false := by simp [hk]
 obtain ⟨hn1, hn8⟩ := head_n hyes h1 hk
 have hnn : Hid (l[0].n = (l[0].n.toNat : Int)) := by
  show l[0].n = (l[0].n.toNat : Int)
  omega
 have HE1 : Hid (eat (l.drop 1) (argsOf l[0].k l[0].n).toNat = some (l.drop 1).length) := head_eat hyes h1
 have HA1 : Hid ([] ++ cutF l.length (l.drop 1) = argsL l) := by
  show [] ++ cutF l.length (l.drop 1) = argsL l
  unfold argsL
  rw [hyes, headK_get h1, hk]
  simp
 clear hyes hr hT hk hcm
 go_enter Tryz.func70, Tryz.ntmps70
 go_wp2_with fail
 refine HC.out.mono ?_
 rintro e w' ⟨rfl, hbb⟩
 obtain ⟨p0, p1, p2, p3, p4⟩ := term_cells (range_below HR.out hb hbb) 0 h1
 simp only [Nat.zero_mul, Nat.add_zero] at p0 p1 p2 p3 p4
 go_wp2_with (at_make; refine wpList_make_own _ rfl _ _ 33 rfl w.heap.size 24 i0 (.slice none 0 0) 1 Tryz.underlying33 hi hz0 hs0 .i64 .i64 _ l[0].n.toNat rfl rfl hnn.out (by rw [hby]; omega) (by unfold maxLen; omega) hbb.size ?_)
 intro w1 hown1 hgrow1
 have hbw1 : Hid (Below w.heap.size w w1) := hbb.grown hgrow1 hbb.size (fun g hg => by cases hg)
 have HO1 : Hid (w1.ownsRow w.heap.size 24 1 (.slice (some ⟨w'.heap.size, 0, none⟩) 0 l[0].n.toNat) 0 []) := hown1
 clear hown1 hgrow1
 go_wp2_with fail
 go_loopw [3, 4] (fun out i wr => ∃ (k q : Nat) (us : List Value) (done : List (List C)), 1 ≤ k ∧ k ≤ l.length ∧ i = .int .i64 k ∧ Hid (wr.ownsRow w.heap.size 24 1 out done.length us ∧ (∀ (j : Nat) (u : Value) (x : List C), us[j]? = some u → done[j]? = some x → OwnT wr w.heap.size u x) ∧ eat (l.drop k) q = some (l.drop k).length ∧ done ++ cutF l.length (l.drop k) = argsL l ∧ Ap us) ∧ Below w.heap.size w wr) (fun _ i _ => l.length - (intOf i).toNat)
 case atStart => exact ⟨1, (argsOf l[0].k l[0].n).toNat, [], [], by omega, by omega, rfl, ⟨HO1.out, fun j u x hu => by simp at hu, HE1.out, HA1.out, fun j j' v v' g _ h => by simp at h⟩, hbw1.out⟩
 case round =>
  obtain ⟨k, q, us, done, hk1, hk, rfl, HO, hbr⟩ := hrel
  have hsz := hbr.size
  by_cases hlt : k < l.length
  ·have hlt' : (k : Int) < (l.length : Int) := by omega
   obtain ⟨m, q', hq, e1, hm1, hm2, e2, e3⟩ := cut_step (l.length - 1) (l.drop k) q (by simp; omega) HO.out.2.2.1
   rw [show l.length - 1 + 1 = l.length by omega] at e3
   have hml : k + m ≤ l.length := by simp at hm2; omega
   have hes : endS l (k : Int) = ((k + m : Nat) : Int) := by
    rw [endS_eat l k hlt, e1]; simp
   have hfu : cutF (l.length - 1) ((l.drop k).drop m) = cutF l.length (l.drop (k + m)) := by
    rw [List.drop_drop, cut_fuel (l.length - 1) l.length _ (by simp; omega) (by simp)]
   have hseg : ((l.drop k).take m).length = m := by rw [List.length_take, List.length_drop]; omega
   have HN1 : Hid (eat (l.drop (k + m)) q' = some (l.drop (k + m)).length) := by
    show eat (l.drop (k + m)) q' = some (l.drop (k + m)).length
    rw [← List.drop_drop]; exact e2
   have HN2 : Hid ((done ++ [(l.drop k).take m]) ++ cutF l.length (l.drop (k + m)) = argsL l) := by
    show (done ++ [(l.drop k).take m]) ++ cutF l.length (l.drop (k + m)) = argsL l
    rw [← HO.out.2.2.2.1, e3, hfu, List.append_assoc]; rfl
   have HCE : Hid (Calls Tryz.prog 94 #[.slice (some ⟨b, o, none⟩) l.length cap, .int .i64 (k : Int)] wr fun e w' => e = .returned (.int .i64 (((k + m : Nat) : Int))) ∧ Below wr.heap.size wr w') := by
    have h := c24 l _ (k : Int) wr (HT.out.below hbr)
    rw [hes] at h; exact h
   have HCL : Hid (∀ w' : World, Below w.heap.size w w' → Calls Tryz.prog 56 #[.slice (some ⟨b, o + k * 5, none⟩) m (cap - k)] w' fun e w'' => ∃ u, e = .returned u ∧ OwnT w'' w'.heap.size u ((l.drop k).take m) ∧ Below w'.heap.size w' w'') := fun w' hb' => by
    have h := c51_in ((l.drop k).take m) b (o + k * 5) (cap - k) w' (range_sub (range_below HR.out hb hb') k m) (Nat.lt_of_lt_of_le hb hb'.size) (by rw [hseg]; omega)
    rw [hseg] at h; exact h
   have hml' : ((k + m : Nat) : Int) ≤ (cap : Int) := by omega
   have hkm' : (k : Int) ≤ ((k + m : Nat) : Int) := by omega
   clear e1 e2 e3 hfu hes hm2 hq
   generalize hkmg : k + m = km at *
   have Hkm : Hid (k + m = km) := hkmg
   have hmk : Hid (km - k = m) := by
    show km - k = m
    omega
   clear hkmg
   go_wp2_with fail
   refine HCE.out.mono ?_
   rintro e w2 ⟨rfl, hb2⟩
   have hbw2 : Hid (Below w.heap.size w w2) := hbr.trans (hb2.mono hsz)
   go_wp2_with fail
   rw [hmk.out]
   refine (HCL.out _ hbw2.out).mono ?_
   rintro e w3 ⟨u, rfl, hO1, hb3⟩
   have hz2 := hb2.size
   have hz3 := hb3.size
   have hou : Hid (∃ (ad : Option Addr) (n c : Nat), u = .slice ad n c) := by
    rcases hO1.2 with ⟨h, _⟩ | ⟨g, c, cur, h, _⟩
    ·exact ⟨none, 0, 0, h⟩
    ·exact ⟨_, _, _, h⟩
   have HO1 : Hid (OwnT w3 w.heap.size u ((l.drop k).take m)) := ⟨hO1.1, by
    rcases hO1.2 with h | ⟨g, c, cur, h1, h2, h3⟩
    ·exact Or.inl h
    ·exact Or.inr ⟨g, c, cur, h1, by omega, h3⟩⟩
   have HAp : Hid (Ap (us ++ [u])) := by
    refine ap_snoc (n := wr.heap.size) HO.out.2.2.2.2 (fun j v g hv hg => ?_) (fun g hg => Nat.le_trans hz2 (World.ownsRow.lt hO1 g hg).1)
    have hj : j < done.length := by have := (List.getElem?_eq_some_iff.1 hv).1; have := HO.out.1.1; omega
    exact (World.ownsRow.lt (HO.out.2.1 j v _ hv (List.getElem?_eq_getElem hj)) g hg).2
   obtain ⟨ad, un, uc, hu⟩ := hou.out
   have hbw3 : Hid (Below w.heap.size w w3) := hbw2.out.trans (hb3.mono (by omega))
   have hb23 : Hid (Below wr.heap.size wr w3) := hb2.trans (hb3.mono hz2)
   clear hO1
   subst hu
   have hown1 : Hid ((w3.alloc (.cells #[.slice ad un uc] 24)).ownsRow w.heap.size 24 1 u3 done.length us) := by
    have h1 := HO.out.1
    refine World.ownsRow.alloc (w := w3) ?_ _
    refine ⟨h1.1, ?_⟩
    rcases h1.2 with h | ⟨g, c, cur, e1, e2, e3, e4⟩
    ·exact Or.inl h
    ·exact Or.inr ⟨g, c, cur, e1, e2, (hb23.out.block g (Array.getElem?_eq_some_iff.1 e3).1).trans e3, e4⟩
   have HOs : Hid (∀ (j : Nat) (u : Value) (x : List C), us[j]? = some u → done[j]? = some x → OwnT (w3.alloc (.cells #[.slice ad un uc] 24)) w.heap.size u x) := fun j u x h1 h2 => ownT_below (ownT_below (HO.out.2.1 j u x h1 h2) hb23.out) (below_alloc _ _)
   have HO2 : Hid (OwnT (w3.alloc (.cells #[.slice ad un uc] 24)) w.heap.size (.slice ad un uc) ((l.drop k).take m)) := ownT_below HO1.out (below_alloc _ _)
   have hnew : Hid (∀ j u, [(.slice ad un uc : Value)][j]? = some u → (w3.alloc (.cells #[.slice ad un uc] 24)).cell? ((⟨w3.heap.size, 0, none⟩ : Addr).add j) = some u) := fun j u hu => by
    rw [Addr.add_mid]; exact range_new w3 [.slice ad un uc] 24 j u hu
   have hbw4 : Hid (Below w.heap.size w (w3.alloc (.cells #[.slice ad un uc] 24))) := hbw3.out.alloc (by omega) _
   have hdl : done.length ≤ 256 := by
    have h := HO.out.2.2.2.1
    have h2 := argsL_len l
    rw [← h, List.length_append] at h2
    omega
   have hk63 : Hid (done.length + 1 ≤ maxLen) := by
    show done.length + 1 ≤ maxLen
    unfold maxLen; omega
   go_wp2_with (at_builtin; refine wpList_append_own _ rfl _ _ 33 rfl w.heap.size 24 i0 (.slice none 0 0) 1 24 Tryz.underlying33 hi hz0 hs0 hby rfl (by decide) _ _ _ rfl hown1.out ⟨w3.heap.size, 0, none⟩ 1 1 [.slice ad un uc] rfl rfl hnew.out (fun x hx => by simp at hx; subst hx; rfl) hk63.out (by omega) (by simp; omega) ?_)
   intro v' w4 hown' hgrow hnil
   have HN : Hid (w4.ownsRow w.heap.size 24 1 v' (done ++ [(l.drop k).take m]).length (us ++ [.slice ad un uc]) ∧ (∀ (j : Nat) (u : Value) (x : List C), (us ++ [.slice ad un uc])[j]? = some u → (done ++ [(l.drop k).take m])[j]? = some x → OwnT w4 w.heap.size u x) ∧ eat (l.drop km) q' = some (l.drop km).length ∧ (done ++ [(l.drop k).take m]) ++ cutF l.length (l.drop km) = argsL l ∧ Ap (us ++ [.slice ad un uc])) := by
    refine ⟨by rw [List.length_append]; exact hown', fun j u x h1 h2 => ?_, HN1.out, HN2.out, HAp.out⟩
    have hul : us.length = done.length := by have := HO.out.1.1; omega
    by_cases hj : j < done.length
    ·rw [List.getElem?_append_left (by omega)] at h1
     rw [List.getElem?_append_left (by omega)] at h2
     exact World.ownsRow.kept (HOs.out j u x h1 h2) hgrow (ownT_far (HOs.out j u x h1 h2) hown1.out)
    ·rw [List.getElem?_append_right (by omega)] at h1
     rw [List.getElem?_append_right (by omega)] at h2
     have hj0 : j = done.length := by
      by_cases e : j = done.length
      ·exact e
      ·rw [List.getElem?_eq_none (by simp; omega)] at h1; cases h1
     subst hj0
     rw [hul, Nat.sub_self] at h1
     rw [Nat.sub_self] at h2
     simp at h1 h2
     subst h1 h2
     exact World.ownsRow.kept HO2.out hgrow (ownT_far HO2.out hown1.out)
   have hbw5 : Hid (Below w.heap.size w w4) := hbw4.out.grown hgrow (by simp; omega) (fun g hg => (hown1.out.lt g hg).1)
   clear hgrow hnil hown'
   go_wp2_with fail
   go_roundw
   case rel => exact ⟨km, q', _, _, by have := Hkm.out; omega, by omega, rfl, HN, hbw5.out⟩
   case measure => have := Hkm.out; simp [intOf]; omega
  ·have hlt' : ¬ ((k : Int) < (l.length : Int)) := by omega
   have hfin : Hid (done = argsL l) := by
    have h := HO.out.2.2.2.1
    rw [List.drop_of_length_le (by omega : l.length ≤ k)] at h
    have h0 : cutF l.length [] = [] := by cases l.length <;> rfl
    rw [h0, List.append_nil] at h
    exact h
   go_wp2_with fail
   go_ret
   refine ⟨_, rfl, ?_, hbr⟩
   rw [← hfin.out]
   exact ⟨us, HO.out.1, HO.out.2.1, HO.out.2.2.2.2⟩
theorem c26o (l : List C) (v : Value) (w : World) (hT : TermAt w v l) (hS : Signs w) :
  Calls Tryz.prog 70 #[v] w fun e w' => ∃ u, e = .returned u ∧ OwnRow w' w.heap.size u (argsL l) ∧ Below w.heap.size w w' := by
 cases hr : rightB l
 ·rw [argsL_none l (by simp [hr])]
  exact (c26_no l v w hT hS hr).mono fun e w' ⟨h1, h2⟩ => ⟨_, h1, ownRow_nil _ _, h2⟩
 ·have h1 : 0 < l.length := (right_len hr).1
  have hT' := hT
  obtain ⟨_, h⟩ := hT
  rcases h with ⟨e, _⟩ | ⟨b, o, cap, rfl, h2, h5, h3, h4⟩
  ·rw [e] at h1; simp at h1
  by_cases hk : l[0].k = 3
  ·exact c26_in l b o cap w hT' hS h3 h4 h2 h5 h1 hr hk
  ·rw [argsL_none l (by rw [headK_get h1]; simp [hk])]
   exact (c26_kind l b o cap w hT' hS h3 h4 h1 hr (by simp [hk])).mono fun e w' ⟨h1, h2⟩ => ⟨_, h1, ownRow_nil _ _, h2⟩
theorem args_row {w : World} {n : Nat} {u : Value} {l : List C} (h : OwnRow w n u (argsL l)) (ht : ∀ c ∈ l, c.t.size ≤ maxLen) : RowAt w u (argsL l) := by
 refine ownRow_row h ?_ ?_
 ·have h2 := argsL_len l
  unfold maxLen; omega
 ·intro x hx
  obtain ⟨j1, j2⟩ := argsL_mem l x hx
  exact ⟨by unfold maxLen; omega, fun c hc => ht c (j2 c hc)⟩
end Go.Proofs.YtljggjllijacjaaGreatDoor

namespace Go.Proofs.YtljggjllijacjaaGreatDoor
open Go.RowKit
set_option maxRecDepth 100000 in
set_option maxHeartbeats 2000000 in
theorem c27_no (l : List C) (v : Value) (w : World) (hT : TermAt w v l) (hno : rightB l = false) :
  Calls Tryz.prog 46 #[v] w fun e w' => e = .returned (.slice none 0 0) ∧ Below w.heap.size w w' := by
 have HT : Hid (TermAt w v l) := hT
 obtain ⟨ad, cap, hf⟩ := hT.form
 subst hf
 clear hT
 have HC := c23 l _ w HT.out
 rw [hno] at HC
 have HC : Hid (Calls Tryz.prog 79 #[.slice ad l.length cap] w fun e w' => e = .returned (.bool false) ∧ Below w.heap.size w w') := HC
 clear hno
 go_enter Tryz.func46, Tryz.ntmps46
 go_wp2_with fail
 refine HC.out.mono ?_
 rintro e w' ⟨rfl, hb⟩
 go_wp2_with fail
 go_ret
 exact ⟨rfl, hb⟩
set_option maxRecDepth 100000 in
set_option maxHeartbeats 2000000 in
theorem c27_kind (l : List C) (b o cap : Nat) (w : World) (hT : TermAt w (.slice (some ⟨b, o, none⟩) l.length cap) l) (hr : w.rangeAt b o (flat l)) (hb : b < w.heap.size) (h1 : 0 < l.length) (hyes : rightB l = true) (hk : (l[0].k != 3) = true) :
  Calls Tryz.prog 46 #[.slice (some ⟨b, o, none⟩) l.length cap] w fun e w' => e = .returned (.slice none 0 0) ∧ Below w.heap.size w w' := by
 have HT : Hid (TermAt w (.slice (some ⟨b, o, none⟩) l.length cap) l) := hT
 have HC := c23 l _ w HT.out
 rw [hyes] at HC
 have HC : Hid (Calls Tryz.prog 79 #[.slice (some ⟨b, o, none⟩) l.length cap] w fun e w' => e = .returned (.bool true) ∧ Below w.heap.size w w') := HC
 have HR : Hid (w.rangeAt b o (flat l)) := hr
 have h1' : (0 : Int) < (l.length : Int) := by omega
 clear hyes hr hT
 go_enter Tryz.func46, Tryz.ntmps46
 go_wp2_with fail
 refine HC.out.mono ?_
 rintro e w' ⟨rfl, hbb⟩
 obtain ⟨p0, p1, p2, p3, p4⟩ := term_cells (range_below HR.out hb hbb) 0 h1
 simp only [Nat.zero_mul, Nat.add_zero] at p0 p1 p2 p3 p4
 go_wp2_with fail
 go_ret
 exact ⟨rfl, hbb⟩
set_option maxRecDepth 100000 in
set_option maxHeartbeats 4000000 in
theorem c27_in (l : List C) (b o cap : Nat) (w : World) (hT : TermAt w (.slice (some ⟨b, o, none⟩) l.length cap) l) (hr : w.rangeAt b o (flat l)) (hb : b < w.heap.size) (hcap : l.length ≤ cap) (hcm : cap ≤ maxLen) (h1 : 0 < l.length) (hyes : rightB l = true) (hk : l[0].k = 3) :
  Calls Tryz.prog 46 #[.slice (some ⟨b, o, none⟩) l.length cap] w fun e w' => ∃ u, e = .returned u ∧ RowAt w' u (argsL l) ∧ Below w.heap.size w w' := by
 obtain ⟨i0, hi, hz0, hs0, hby⟩ := info29
 have HT : Hid (TermAt w (.slice (some ⟨b, o, none⟩) l.length cap) l) := hT
 have HC := c23 l _ w HT.out
 rw [hyes] at HC
 have HC : Hid (Calls Tryz.prog 79 #[.slice (some ⟨b, o, none⟩) l.length cap] w fun e w' => e = .returned (.bool true) ∧ Below w.heap.size w w') := HC
 have HR : Hid (w.rangeAt b o (flat l)) := hr
 have hcm' : cap ≤ 2 ^ 63 - 1 := hcm
 have h256 := (right_len hyes).2
 have h1' : (0 : Int) < (l.length : Int) := by omega
 have hcap' : (l.length : Int) ≤ (cap : Int) := by omega
 have hkb : (l[0].k != 3) = false := by simp [hk]
 obtain ⟨hn1, hn8⟩ := head_n hyes h1 hk
 have hnn : Hid (l[0].n = (l[0].n.toNat : Int)) := by
  show l[0].n = (l[0].n.toNat : Int)
  omega
 have HE1 : Hid (eat (l.drop 1) (argsOf l[0].k l[0].n).toNat = some (l.drop 1).length) := head_eat hyes h1
 have HA1 : Hid ([] ++ cutF l.length (l.drop 1) = argsL l) := by
  show [] ++ cutF l.length (l.drop 1) = argsL l
  unfold argsL
  rw [hyes, headK_get h1, hk]
  simp
 have HX : Hid (∀ c ∈ l, c.t.size ≤ maxLen) := hT.1.2
 clear hyes hr hT hk hcm
 go_enter Tryz.func46, Tryz.ntmps46
 go_wp2_with fail
 refine HC.out.mono ?_
 rintro e w' ⟨rfl, hbb⟩
 obtain ⟨p0, p1, p2, p3, p4⟩ := term_cells (range_below HR.out hb hbb) 0 h1
 simp only [Nat.zero_mul, Nat.add_zero] at p0 p1 p2 p3 p4
 go_wp2_with fail
 go_loopw [3, 4] (fun out i wr => ∃ (k q : Nat) (us : List Value) (done : List (List C)), 1 ≤ k ∧ k ≤ l.length ∧ i = .int .i64 k ∧ Hid (wr.ownsRow w.heap.size 24 1 out done.length us ∧ (∀ (j : Nat) (u : Value) (x : List C), us[j]? = some u → done[j]? = some x → OwnT wr w.heap.size u x) ∧ eat (l.drop k) q = some (l.drop k).length ∧ done ++ cutF l.length (l.drop k) = argsL l) ∧ Below w.heap.size w wr) (fun _ i _ => l.length - (intOf i).toNat)
 case atStart => exact ⟨1, (argsOf l[0].k l[0].n).toNat, [], [], by omega, by omega, rfl, ⟨World.ownsRow_nil _ _ _ _, fun j u x hu => by simp at hu, HE1.out, HA1.out⟩, hbb⟩
 case round =>
  obtain ⟨k, q, us, done, hk1, hk, rfl, HO, hbr⟩ := hrel
  have hsz := hbr.size
  by_cases hlt : k < l.length
  ·have hlt' : (k : Int) < (l.length : Int) := by omega
   obtain ⟨m, q', hq, e1, hm1, hm2, e2, e3⟩ := cut_step (l.length - 1) (l.drop k) q (by simp; omega) HO.out.2.2.1
   rw [show l.length - 1 + 1 = l.length by omega] at e3
   have hml : k + m ≤ l.length := by simp at hm2; omega
   have hes : endS l (k : Int) = ((k + m : Nat) : Int) := by
    rw [endS_eat l k hlt, e1]; simp
   have hfu : cutF (l.length - 1) ((l.drop k).drop m) = cutF l.length (l.drop (k + m)) := by
    rw [List.drop_drop, cut_fuel (l.length - 1) l.length _ (by simp; omega) (by simp)]
   have hseg : ((l.drop k).take m).length = m := by rw [List.length_take, List.length_drop]; omega
   have HN1 : Hid (eat (l.drop (k + m)) q' = some (l.drop (k + m)).length) := by
    show eat (l.drop (k + m)) q' = some (l.drop (k + m)).length
    rw [← List.drop_drop]; exact e2
   have HN2 : Hid ((done ++ [(l.drop k).take m]) ++ cutF l.length (l.drop (k + m)) = argsL l) := by
    show (done ++ [(l.drop k).take m]) ++ cutF l.length (l.drop (k + m)) = argsL l
    rw [← HO.out.2.2.2, e3, hfu, List.append_assoc]; rfl
   have HCE : Hid (Calls Tryz.prog 82 #[.slice (some ⟨b, o, none⟩) l.length cap, .int .i64 (k : Int)] wr fun e w' => e = .returned (.int .i64 (((k + m : Nat) : Int))) ∧ Below wr.heap.size wr w') := by
    have h := c25 l _ (k : Int) wr (HT.out.below hbr) (by omega)
    rw [hes] at h; exact h.mono fun e w' ⟨h1, h2⟩ => ⟨h1, by rw [h2]; exact Below.refl _ _⟩
   have HCL : Hid (∀ w' : World, Below w.heap.size w w' → Calls Tryz.prog 83 #[.slice (some ⟨b, o + k * 5, none⟩) m (cap - k)] w' fun e w'' => ∃ u, e = .returned u ∧ OwnT w'' w'.heap.size u ((l.drop k).take m) ∧ Below w'.heap.size w' w'') := fun w' hb' => by
    have h := c52_in ((l.drop k).take m) b (o + k * 5) (cap - k) w' (range_sub (range_below HR.out hb hb') k m) (by rw [hseg]; omega)
    rw [hseg] at h; exact h
   have hml' : ((k + m : Nat) : Int) ≤ (cap : Int) := by omega
   have hkm' : (k : Int) ≤ ((k + m : Nat) : Int) := by omega
   clear e1 e2 e3 hfu hes hm2 hq
   generalize hkmg : k + m = km at *
   have Hkm : Hid (k + m = km) := hkmg
   have hmk : Hid (km - k = m) := by
    show km - k = m
    omega
   clear hkmg
   go_wp2_with fail
   refine HCE.out.mono ?_
   rintro e w2 ⟨rfl, hb2⟩
   have hbw2 : Hid (Below w.heap.size w w2) := hbr.trans (hb2.mono hsz)
   go_wp2_with fail
   rw [hmk.out]
   refine (HCL.out _ hbw2.out).mono ?_
   rintro e w3 ⟨u, rfl, hO1, hb3⟩
   have hz2 := hb2.size
   have hz3 := hb3.size
   have hou : Hid (∃ (ad : Option Addr) (n c : Nat), u = .slice ad n c) := by
    rcases hO1.2 with ⟨h, _⟩ | ⟨g, c, cur, h, _⟩
    ·exact ⟨none, 0, 0, h⟩
    ·exact ⟨_, _, _, h⟩
   have HO1 : Hid (OwnT w3 w.heap.size u ((l.drop k).take m)) := ⟨hO1.1, by
    rcases hO1.2 with h | ⟨g, c, cur, h1, h2, h3⟩
    ·exact Or.inl h
    ·exact Or.inr ⟨g, c, cur, h1, by omega, h3⟩⟩
   obtain ⟨ad, un, uc, hu⟩ := hou.out
   have hbw3 : Hid (Below w.heap.size w w3) := hbw2.out.trans (hb3.mono (by omega))
   have hb23 : Hid (Below wr.heap.size wr w3) := hb2.trans (hb3.mono hz2)
   clear hO1
   subst hu
   have hown1 : Hid ((w3.alloc (.cells #[.slice ad un uc] 24)).ownsRow w.heap.size 24 1 u3 done.length us) := by
    have h1 := HO.out.1
    refine World.ownsRow.alloc (w := w3) ?_ _
    refine ⟨h1.1, ?_⟩
    rcases h1.2 with h | ⟨g, c, cur, e1, e2, e3, e4⟩
    ·exact Or.inl h
    ·exact Or.inr ⟨g, c, cur, e1, e2, (hb23.out.block g (Array.getElem?_eq_some_iff.1 e3).1).trans e3, e4⟩
   have HOs : Hid (∀ (j : Nat) (u : Value) (x : List C), us[j]? = some u → done[j]? = some x → OwnT (w3.alloc (.cells #[.slice ad un uc] 24)) w.heap.size u x) := fun j u x h1 h2 => ownT_below (ownT_below (HO.out.2.1 j u x h1 h2) hb23.out) (below_alloc _ _)
   have HO2 : Hid (OwnT (w3.alloc (.cells #[.slice ad un uc] 24)) w.heap.size (.slice ad un uc) ((l.drop k).take m)) := ownT_below HO1.out (below_alloc _ _)
   have hnew : Hid (∀ j u, [(.slice ad un uc : Value)][j]? = some u → (w3.alloc (.cells #[.slice ad un uc] 24)).cell? ((⟨w3.heap.size, 0, none⟩ : Addr).add j) = some u) := fun j u hu => by
    rw [Addr.add_mid]; exact range_new w3 [.slice ad un uc] 24 j u hu
   have hbw4 : Hid (Below w.heap.size w (w3.alloc (.cells #[.slice ad un uc] 24))) := hbw3.out.alloc (by omega) _
   have hdl : done.length ≤ 256 := by
    have h := HO.out.2.2.2
    have h2 := argsL_len l
    rw [← h, List.length_append] at h2
    omega
   have hk63 : Hid (done.length + 1 ≤ maxLen) := by
    show done.length + 1 ≤ maxLen
    unfold maxLen; omega
   go_wp2_with (at_builtin; refine wpList_append_own _ rfl _ _ 33 rfl w.heap.size 24 i0 (.slice none 0 0) 1 24 Tryz.underlying33 hi hz0 hs0 hby rfl (by decide) _ _ _ rfl hown1.out ⟨w3.heap.size, 0, none⟩ 1 1 [.slice ad un uc] rfl rfl hnew.out (fun x hx => by simp at hx; subst hx; rfl) hk63.out (by omega) (by simp; omega) ?_)
   intro v' w4 hown' hgrow hnil
   have HN : Hid (w4.ownsRow w.heap.size 24 1 v' (done ++ [(l.drop k).take m]).length (us ++ [.slice ad un uc]) ∧ (∀ (j : Nat) (u : Value) (x : List C), (us ++ [.slice ad un uc])[j]? = some u → (done ++ [(l.drop k).take m])[j]? = some x → OwnT w4 w.heap.size u x) ∧ eat (l.drop km) q' = some (l.drop km).length ∧ (done ++ [(l.drop k).take m]) ++ cutF l.length (l.drop km) = argsL l) := by
    refine ⟨by rw [List.length_append]; exact hown', fun j u x h1 h2 => ?_, HN1.out, HN2.out⟩
    have hul : us.length = done.length := by have := HO.out.1.1; omega
    by_cases hj : j < done.length
    ·rw [List.getElem?_append_left (by omega)] at h1
     rw [List.getElem?_append_left (by omega)] at h2
     exact World.ownsRow.kept (HOs.out j u x h1 h2) hgrow (ownT_far (HOs.out j u x h1 h2) hown1.out)
    ·rw [List.getElem?_append_right (by omega)] at h1
     rw [List.getElem?_append_right (by omega)] at h2
     have hj0 : j = done.length := by
      by_cases e : j = done.length
      ·exact e
      ·rw [List.getElem?_eq_none (by simp; omega)] at h1; cases h1
     subst hj0
     rw [hul, Nat.sub_self] at h1
     rw [Nat.sub_self] at h2
     simp at h1 h2
     subst h1 h2
     exact World.ownsRow.kept HO2.out hgrow (ownT_far HO2.out hown1.out)
   have hbw5 : Hid (Below w.heap.size w w4) := hbw4.out.grown hgrow (by simp; omega) (fun g hg => (hown1.out.lt g hg).1)
   clear hgrow hnil hown'
   go_wp2_with fail
   go_roundw
   case rel => exact ⟨km, q', _, _, by have := Hkm.out; omega, by omega, rfl, HN, hbw5.out⟩
   case measure => have := Hkm.out; simp [intOf]; omega
  ·have hlt' : ¬ ((k : Int) < (l.length : Int)) := by omega
   have hfin : Hid (done = argsL l) := by
    have h := HO.out.2.2.2
    rw [List.drop_of_length_le (by omega : l.length ≤ k)] at h
    have h0 : cutF l.length [] = [] := by cases l.length <;> rfl
    rw [h0, List.append_nil] at h
    exact h
   have hdl : Hid (done.length ≤ maxLen) := by
    have h2 := argsL_len l
    show done.length ≤ maxLen
    rw [hfin.out]; unfold maxLen; omega
   have htx : Hid (∀ x ∈ done, x.length ≤ maxLen ∧ ∀ c ∈ x, c.t.size ≤ maxLen) := by
    show ∀ x ∈ done, x.length ≤ maxLen ∧ ∀ c ∈ x, c.t.size ≤ maxLen
    rw [hfin.out]
    intro x hx
    obtain ⟨j1, j2⟩ := argsL_mem l x hx
    exact ⟨by unfold maxLen; omega, fun c hc => HX.out c (j2 c hc)⟩
   go_wp2_with fail
   go_ret
   refine ⟨_, rfl, ?_, hbr⟩
   rw [← hfin.out]
   by_cases h0 : done.length = 0
   ·have e0 : done = [] := List.eq_nil_of_length_eq_zero h0
    subst e0
    rcases HO.out.1.2 with ⟨e1, _⟩ | ⟨g, c, cur, e1, e2, e3, e4, e5, _⟩
    ·exact ⟨by simp, Or.inl ⟨rfl, none, e1⟩⟩
    ·exact ⟨by simp, Or.inr ⟨g, 0, c, [], e1, by simp, e5, (Array.getElem?_eq_some_iff.1 e3).1, rfl, fun j u hu => by simp at hu, fun i u l hu => by simp at hu⟩⟩
   ·refine rowAt_of_owns HO.out.1 (by omega) hdl.out (fun i u x hu hx => ?_)
    have hin := htx.out x (List.mem_of_getElem? hx)
    exact ownT_term (HO.out.2.1 i u x hu hx) hin.1 hin.2
theorem c27 (l : List C) (v : Value) (w : World) (hT : TermAt w v l) :
  Calls Tryz.prog 46 #[v] w fun e w' => ∃ u, e = .returned u ∧ RowAt w' u (argsL l) ∧ Below w.heap.size w w' := by
 cases hr : rightB l
 ·rw [argsL_none l (by simp [hr])]
  exact (c27_no l v w hT hr).mono fun e w' ⟨h1, h2⟩ => ⟨_, h1, ⟨by simp, Or.inl ⟨rfl, none, rfl⟩⟩, h2⟩
 ·have h1 : 0 < l.length := (right_len hr).1
  have hT' := hT
  obtain ⟨_, h⟩ := hT
  rcases h with ⟨e, _⟩ | ⟨b, o, cap, rfl, h2, h5, h3, h4⟩
  ·rw [e] at h1; simp at h1
  by_cases hk : l[0].k = 3
  ·exact c27_in l b o cap w hT' h3 h4 h2 h5 h1 hr hk
  ·rw [argsL_none l (by rw [headK_get h1]; simp [hk])]
   exact (c27_kind l b o cap w hT' h3 h4 h1 hr (by simp [hk])).mono fun e w' ⟨h1, h2⟩ => ⟨_, h1, ⟨by simp, Or.inl ⟨rfl, none, rfl⟩⟩, h2⟩
end Go.Proofs.YtljggjllijacjaaGreatDoor
