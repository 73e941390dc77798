/- Contracts of isVariable, Clone; a heap in memory; contracts of New, has, next, follow, Deref. A heap in memory; contracts of New, has, next, follow, Deref. Contracts of follow, Deref, has, New. -/
import Derived.Test.YtljggjllijacjaaGreatDoorVAg
import Derived.Test.YtljggjllijacjaaGreatDoorRAg
import Derived.Test.YtljggjllijacjaaGreatDoorWDg
import Derived.Maps.OwnSet
import Derived.Lib.SliceRun
import Derived.Deep.RegionHeld3
namespace Go.Proofs.YtljggjllijacjaaGreatDoor
open Go.RowKit
attribute [local go_sem ↓] Go.wp_at_zero Go.wp_at_succ
set_option maxRecDepth 100000 in
theorem h29 (l : List C) (v : Value) (w : World) (h : TermAt w v l) : Calls Tryz.prog 67 #[v] w fun e w' => e = .returned (.bool (isVarL l)) ∧ w' = w := by
 obtain ⟨⟨hc, htx⟩, h⟩ := h
 rcases h with ⟨rfl, ad, rfl⟩ | ⟨b, o, cap, rfl, h2, h5, h3, h4⟩
 ·have he : isVarL [] = false := rfl
  rw [he]
  go_enter Tryz.func67, Tryz.ntmps67
  go_wp2_with fail
  go_ret
  exact ⟨rfl, rfl⟩
 ·by_cases hl : l.length = 1
  ·match l, hl with
   | [c], _ =>
    obtain ⟨p0, p1, p2, p3, p4⟩ := term_cells h3 0 (by simp)
    simp only [Nat.zero_mul, Nat.add_zero, List.getElem_cons_zero] at p0
    have he : isVarL [c] = (c.k == 4) := rfl
    rw [he]
    cases hk : (c.k == 4)
    ·simp only [List.length_singleton] at *
     go_enter Tryz.func67, Tryz.ntmps67
     go_wp2_with fail
     go_ret
     exact ⟨rfl, rfl⟩
    ·simp only [List.length_singleton] at *
     go_enter Tryz.func67, Tryz.ntmps67
     go_wp2_with fail
     go_ret
     exact ⟨rfl, rfl⟩
  ·have he : isVarL l = false := by
    match l, hl with
    | [], _ => rfl
    | _ :: _ :: _, _ => rfl
   have hq : ((l.length : Int) == 1) = false := by rw [beq_eq_false_iff_ne]; omega
   rw [he]
   go_enter Tryz.func67, Tryz.ntmps67
   go_wp2_with fail
   go_ret
   exact ⟨rfl, rfl⟩
/-- A term that is handed on as it is kept. -/
theorem term_nil (w : World) (ad : Option Addr) : TermAt w (.slice ad 0 0) [] := ⟨⟨by simp, by simp⟩, .inl ⟨rfl, ad, rfl⟩⟩
set_option maxRecDepth 100000 in
set_option maxHeartbeats 2000000 in
theorem h22 (l : List C) (v : Value) (w : World) (h : TermAt w v l) (hby : l.length * 48 ≤ 140737488355328) : Calls Tryz.prog 56 #[v] w fun e w' => ∃ u, e = .returned u ∧ TermAt w' u l ∧ (∀ g, u.ownBlock = some g → w.heap.size ≤ g) ∧ Below w.heap.size w w' ∧ OwnT w' w.heap.size u l := by
 obtain ⟨i0, hi, hz, hs, hb0⟩ := info60
 have hnl := fun (a : Option Addr) (n c : Nat) => Lib.run_eql_slice_nil (P := Tryz.prog) w 24 78 a n c 0 0 Tryz.underlying24
 have HT : Hid (TermAt w v l) := h
 have hown0 : (w.alloc (.cells #[] 78)).ownsRow w.heap.size 78 5 (.slice (some ⟨w.heap.size, 0, none⟩) 0 0) 0 [] := ⟨rfl, .inr ⟨w.heap.size, 0, #[], rfl, Nat.le_refl _, heap_alloc_new w _, Nat.le_refl _, by simp, rfl, rfl⟩⟩
 have HO : Hid ((w.alloc (.cells #[] 78)).ownsRow w.heap.size 78 5 (.slice (some ⟨w.heap.size, 0, none⟩) 0 0) 0 []) := hown0
 have HB : Hid (Below w.heap.size w (w.alloc (.cells #[] 78))) := (Below.refl _ w).alloc (Nat.le_refl _) _
 have hbase : w.heap.size ≤ (w.alloc (.cells #[] 78)).heap.size := by simp
 obtain ⟨⟨hc, htx⟩, h⟩ := h
 rcases h with ⟨rfl, ad, rfl⟩ | ⟨b, o, cap, rfl, h2, h5, h3, h4⟩
 ·cases ad with
  | none =>
   go_enter Tryz.func56, Tryz.ntmps56
   go_wp2_with fail
   go_ret
   exact ⟨_, rfl, term_nil _ _, by simp [Value.ownBlock], Below.refl _ _, World.ownsRow_nil _ _ _ _⟩
  | some a =>
   go_enter Tryz.func56, Tryz.ntmps56
   go_wp2_with (at_builtin; refine wpList_append_own _ rfl _ _ 24 rfl w.heap.size 78 i0 zero60 5 48 Tryz.underlying24 hi hz hs hb0 rfl (by decide) _ _ _ rfl HO.out a 0 0 [] rfl rfl (fun j u hu => by simp at hu) (fun u hu => by simp at hu) (by unfold maxLen; omega) (by omega) hbase ?_)
   intro v' w' hown hgr _
   have HF : Hid (TermAt w' v' [] ∧ (∀ g, v'.ownBlock = some g → w.heap.size ≤ g) ∧ Below w.heap.size w w' ∧ OwnT w' w.heap.size v' []) := ⟨termAt_of_owns (l := []) hown (by simp) (by simp), fun g hg => (hown.lt g hg).1, HB.out.grown hgr hbase (fun g hg => (HO.out.lt g hg).1), hown⟩
   clear hown hgr
   go_wp2_with fail
   go_ret
   exact ⟨_, rfl, HF.out⟩
 ·have HN : Hid (∀ j u, (flat l)[j]? = some u → (w.alloc (.cells #[] 78)).cell? ((⟨b, o, none⟩ : Addr).add j) = some u) := fun j u hu => by
   rw [Addr.add_mid]
   exact range_below h3 h4 HB.out j u hu
  have hfl : (flat l).length = l.length * 5 := by rw [flat_length]; omega
  have hle : l.length ≤ maxLen := hc
  clear h2 h5 h3 htx hc
  go_enter Tryz.func56, Tryz.ntmps56
  go_wp2_with (at_builtin; refine wpList_append_own _ rfl _ _ 24 rfl w.heap.size 78 i0 zero60 5 48 Tryz.underlying24 hi hz hs hb0 rfl (by decide) _ _ _ rfl HO.out ⟨b, o, none⟩ l.length cap (flat l) rfl hfl HN.out (flat_one l) (by omega) (by omega) hbase ?_)
  intro v' w' hown hgr _
  have HF : Hid (TermAt w' v' l ∧ (∀ g, v'.ownBlock = some g → w.heap.size ≤ g) ∧ Below w.heap.size w w' ∧ OwnT w' w.heap.size v' l) := by
   exact ⟨termAt_of_owns hown HT.out.1.1 HT.out.1.2, fun g hg => (hown.lt g hg).1, HB.out.grown hgr hbase (fun g hg => (HO.out.lt g hg).1), hown⟩
  obtain ⟨a', c', hvf⟩ := owns_form hown
  subst hvf
  clear hown hgr
  go_wp2_with fail
  go_ret
  exact ⟨_, rfl, HF.out⟩
end Go.Proofs.YtljggjllijacjaaGreatDoor

namespace Go.Proofs.YtljggjllijacjaaGreatDoor
open Go.RowKit
attribute [local go_sem ↓] Go.wp_at_zero Go.wp_at_succ
/-- An element is read as the value that it is. -/
def heldElem : Value → Option (DataW Value × List MemPlace) := fun v => some (.held v, [])
theorem zeroT (w : World) : (zeroValue 24).run Tryz.prog w = .ok (.slice none 0 0) w := by go_simp
/-- A heap at hb with its map at M. -/
structure HpAt (w : World) (hb M n : Nat) (D : DataW Value) (m : Hp) : Prop where
 blk : w.heap[hb]? = some (.cells #[.map (some M)] 99 (0, 0))
 map : w.ownsMap Tryz.prog 32 heldElem M n D
 no : ∀ x, wfN x → lookH m x = none → Maps.has D (kLit x) = false
 yes : ∀ x l, wfN x → lookH m x = some l → ∃ v, (∀ z, D.atKey (kLit x) z = .held v) ∧ TermAt w v l
 desc : DescH m
 wf : ∀ x l, lookH m x = some l → wfN x ∧ ∀ c ∈ l, wfN (c.vn, c.vk)
theorem below_grown {w w' : World} (h : Below w.heap.size w w') : w.grownBy w' none := ⟨h.os, h.tape, h.output, h.size, fun k hk _ => h.block k hk⟩
theorem HpAt.below {w w' : World} {hb M n : Nat} {D : DataW Value} {m : Hp} (h : HpAt w hb M n D m) (hw : Below w.heap.size w w') : HpAt w' hb M n D m := by
 refine ⟨(hw.block hb (Array.getElem?_eq_some_iff.1 h.blk).1).trans h.blk, h.map.kept (below_grown hw) (by simp), h.no, fun x l hx hl => ?_, h.desc, h.wf⟩
 obtain ⟨v, h1, h2⟩ := h.yes x l hx hl
 exact ⟨v, h1, h2.below hw⟩
theorem HpAt.look {w : World} {hb M n : Nat} {D : DataW Value} {m : Hp} (h : HpAt w hb M n D m) (x : Nm) (hx : wfN x) : ∃ u, (Instr.lookup 97 (.map (some M)) (.agg #[.int .i64 x.1, .int .i64 x.2]) true).run Tryz.prog w = .ok (.tuple #[u, .bool (lookH m x).isSome]) w ∧ (∃ a k c, u = .slice a k c) ∧ ∀ l, lookH m x = some l → TermAt w u l := by
 obtain ⟨u, ps, hrun, hR⟩ := h.map.look_ok keyed23 Tryz.underlying97 (zeroT w) (show heldElem (.slice none 0 0) = some (.held (.slice none 0 0), []) from rfl) (key23 x hx)
 have hu : DataW.held u = D.atKey (kLit x) (.held (.slice none 0 0)) := by
  have h1 : heldElem u = some (DataW.held u, []) := rfl
  rw [h1] at hR
  simp only [Option.some.injEq, Prod.mk.injEq] at hR
  exact hR.1
 cases hl : lookH m x with
 | none =>
  have h0 := h.no x hx hl
  rw [h0] at hrun
  rw [Maps.atKey_of_not_has h0] at hu
  cases hu
  exact ⟨_, hrun, ⟨_, _, _, rfl⟩, fun l e => by cases e⟩
 | some l =>
  obtain ⟨v, h1, h2⟩ := h.yes x l hx hl
  have h3 := Maps.has_true_of_atKey h1
  rw [h3] at hrun
  rw [h1] at hu
  cases hu
  refine ⟨_, hrun, ?_, fun l' e => by cases e; exact h2⟩
  obtain ⟨a, c, e⟩ := h2.form
  exact ⟨_, _, _, e⟩
theorem HpAt.cell {w : World} {hb M n : Nat} {D : DataW Value} {m : Hp} (h : HpAt w hb M n D m) : w.cell? ⟨hb, 0, none⟩ = some (.map (some M)) := by
 rw [cell_of_row w hb 0 _ 99 (0, 0) h.blk]; rfl
/-- A heap, or none. -/
def HpV (w : World) (p : Value) (m : Hp) : Prop := (p = .pointer none ∧ m = []) ∨ ∃ hb M n D, p = .pointer (some ⟨hb, 0, none⟩) ∧ HpAt w hb M n D m
theorem HpV.below {w w' : World} {p : Value} {m : Hp} (h : HpV w p m) (hw : Below w.heap.size w w') : HpV w' p m := by
 rcases h with h | ⟨hb, M, n, D, h1, h2⟩
 ·exact .inl h
 ·exact .inr ⟨hb, M, n, D, h1, h2.below hw⟩
theorem HpV.desc {w : World} {p : Value} {m : Hp} (h : HpV w p m) : DescH m := by
 rcases h with ⟨_, rfl⟩ | ⟨hb, M, n, D, _, h2⟩
 ·intro x l hx
  simp [lookH] at hx
 ·exact h2.desc
theorem HpV.wf {w : World} {p : Value} {m : Hp} (h : HpV w p m) {x : Nm} {l : List C} (hx : lookH m x = some l) : ∀ c ∈ l, wfN (c.vn, c.vk) := by
 rcases h with ⟨_, rfl⟩ | ⟨hb, M, n, D, _, h2⟩
 ·simp [lookH] at hx
 ·exact (h2.wf x l hx).2
abbrev NxS (w0 : World) (hb M b o : Nat) (x1 x2 : Int) (u : Value) (f : Bool) (w' : World) : Prop :=
 w'.cell? ⟨hb, 0, none⟩ = some (.map (some M)) ∧ w'.cell? ⟨b, o + 3, none⟩ = some (.int .i64 x1) ∧ w'.cell? ⟨b, o + 3 + 1, none⟩ = some (.int .i64 x2) ∧ (Instr.lookup 97 (.map (some M)) (.agg #[.int .i64 x1, .int .i64 x2]) true).run Tryz.prog w' = .ok (.tuple #[u, .bool f]) w' ∧ Hid (Below w0.heap.size w0 w')
set_option maxRecDepth 100000 in
set_option maxHeartbeats 2000000 in
theorem h23 (m : Hp) (p : Value) (l : List C) (v : Value) (w : World) (hp : HpV w p m) (hT : TermAt w v l) (hW : ∀ c ∈ l, wfN (c.vn, c.vk)) :
  Calls Tryz.prog 97 #[p, v] w fun e w' => ∃ u, e = .returned (.tuple #[u, .bool (nextH m l).isSome]) ∧ (∃ a k c, u = .slice a k c) ∧ (∀ l', nextH m l = some l' → TermAt w' u l') ∧ Below w.heap.size w w' := by
 rcases hp with ⟨rfl, rfl⟩ | ⟨hb, M, n, D, rfl, hH⟩
 ·have hn : nextH [] l = none := by unfold nextH lookH; split <;> rfl
  obtain ⟨a, c, hf⟩ := hT.form
  subst hf
  rw [hn]
  clear hT hW
  go_enter Tryz.func97, Tryz.ntmps97
  go_wp2_with fail
  exact bodyPost_ret (v := .tuple #[.slice none 0 0, .bool false]) (by simp [results, Tryz.results97, go_sem]) rfl ⟨_, rfl, ⟨_, _, _, rfl⟩, (fun l' e => by cases e), Below.refl _ _⟩
 ·have H29 := h29 l v w hT
  obtain ⟨⟨hc, htx⟩, hT'⟩ := hT
  cases hv : isVarL l
  ·have hn : nextH m l = none := by unfold nextH; rw [hv]; rfl
   rw [hv] at H29
   obtain ⟨a, c, hf⟩ := (show TermAt w v l from ⟨⟨hc, htx⟩, hT'⟩).form
   subst hf
   rw [hn]
   clear hT' hW hH hc htx hv
   go_enter Tryz.func97, Tryz.ntmps97
   go_wp2_with fail
   refine H29.mono ?_
   rintro e w1 ⟨rfl, hw⟩
   obtain rfl := hw
   go_wp2_with fail
   exact bodyPost_ret (v := .tuple #[.slice none 0 0, .bool false]) (by simp [results, Tryz.results97, go_sem]) rfl ⟨_, rfl, ⟨_, _, _, rfl⟩, (fun l' e => by cases e), Below.refl _ _⟩
  ·match l, hv with
   | [c], hv =>
    have hn : nextH m [c] = lookH m (c.vn, c.vk) := by unfold nextH; rw [hv]; rfl
    rcases hT' with ⟨e, _⟩ | ⟨b, o, cap, rfl, h2, h5, h3, h4⟩
    ·cases e
    obtain ⟨_, _, _, p3, p4⟩ := term_cells h3 0 (by simp)
    simp only [Nat.zero_mul, Nat.add_zero, List.getElem_cons_zero] at p3 p4
    obtain ⟨u, hrun, ⟨a', k', c', huf⟩, hu⟩ := hH.look (c.vn, c.vk) (hW c (by simp))
    have hrd : (Instr.lookup 97 (.map (some M)) (.agg #[.int .i64 c.vn, .int .i64 c.vk]) true).run Tryz.prog w.drew = .ok (.tuple #[u, .bool (lookH m (c.vn, c.vk)).isSome]) w.drew := by
     obtain ⟨u2, hrun2, _, _⟩ := (hH.below (Below.drew (Below.refl _ _))).look (c.vn, c.vk) (hW c (by simp))
     obtain ⟨u3, ps3, hrun3, hR3⟩ := hH.map.look_ok keyed23 Tryz.underlying97 (zeroT w) (show heldElem (.slice none 0 0) = some (.held (.slice none 0 0), []) from rfl) (key23 (c.vn, c.vk) (hW c (by simp)))
     obtain ⟨u4, ps4, hrun4, hR4⟩ := hH.map.drew.look_ok keyed23 Tryz.underlying97 (zeroT w.drew) (show heldElem (.slice none 0 0) = some (.held (.slice none 0 0), []) from rfl) (key23 (c.vn, c.vk) (hW c (by simp)))
     have e34 : u3 = u4 := by
      have h1 : heldElem u3 = some (DataW.held u3, []) := rfl
      have h2 : heldElem u4 = some (DataW.held u4, []) := rfl
      rw [h1] at hR3
      rw [h2] at hR4
      simp only [Option.some.injEq, Prod.mk.injEq] at hR3 hR4
      have := hR3.1.trans hR4.1.symm
      cases this
      rfl
     rw [hrun] at hrun3
     simp only [Result.ok.injEq, Value.tuple.injEq, and_true] at hrun3
     have e13 : u = u3 ∧ (lookH m (c.vn, c.vk)).isSome = Maps.has D (kLit (c.vn, c.vk)) := by simpa using hrun3
     rw [hrun4, e13.1, e13.2, e34]
    have hS0 : NxS w hb M b o c.vn c.vk u (lookH m (c.vn, c.vk)).isSome w.drew := ⟨hH.cell, p3, p4, hrd, Below.drew (Below.refl _ _)⟩
    have HU : Hid (∀ l', lookH m (c.vn, c.vk) = some l' → TermAt w.drew u l') := fun l' e => (hu l' e).below (Below.drew (Below.refl _ _))
    rw [hv] at H29
    rw [hn]
    generalize c.vn = x1 at *
    generalize c.vk = x2 at *
    obtain ⟨q, hq⟩ : ∃ q, (lookH m (x1, x2)).isSome = q := ⟨_, rfl⟩
    rw [hq] at hS0 ⊢
    simp only [List.length_singleton] at *
    subst huf
    clear hrun hrd hu hH hW hc htx h3 p3 p4 hq h2 h5
    go_enter Tryz.func97, Tryz.ntmps97
    go_wp2_with fail
    refine H29.mono ?_
    rintro e w1 ⟨rfl, hw⟩
    obtain rfl := hw
    clear H29
    go_wp2_with fail
    refine wp_region_noPanic ?_
    refine wp_region_held_drew (S := fun w' => NxS w1 hb M b o x1 x2 (.slice a' k' c') q w') (by kernel_rfl) hS0 (fun hHeld => ?_)
    refine wpAnyH_take (i := 0) (v := ?_) (by simp only [List.getElem?_toArray, List.getElem?_cons_zero]; rfl) (by kernel_rfl) (by kernel_rfl) (by kernel_rfl) (fun _ _ _ h => h) (Or.inl ⟨by rfl, ?_⟩) (by assumption) ?_
    rotate_left
    ·(intro w hSw; (try dsimp only at hSw); go_simp <;> with_reducible rfl)
    try simp only [Act.put, List.setIfInBounds_toArray, List.set_cons_zero, List.set_cons_succ]
    refine wpAnyH_take (i := 1) (v := ?_) (by simp only [List.getElem?_toArray, List.getElem?_cons_zero, List.getElem?_cons_succ]; rfl) (by kernel_rfl) (by kernel_rfl) (by kernel_rfl) (fun _ _ _ h => h) (Or.inl ⟨by rfl, ?_⟩) (by assumption) ?_
    rotate_left
    ·(intro w hSw; (try dsimp only at hSw); go_simp <;> with_reducible rfl)
    try simp only [Act.put, List.setIfInBounds_toArray, List.set_cons_zero, List.set_cons_succ]
    refine wpAnyH_take (i := 2) (v := ?_) (by simp only [List.getElem?_toArray, List.getElem?_cons_zero, List.getElem?_cons_succ]; rfl) (by kernel_rfl) (by kernel_rfl) (by kernel_rfl) (fun _ _ _ h => h) (Or.inl ⟨by rfl, ?_⟩) (by assumption) ?_
    rotate_left
    ·(intro w hSw; (try dsimp only at hSw); go_simp <;> with_reducible rfl)
    try simp only [Act.put, List.setIfInBounds_toArray, List.set_cons_zero, List.set_cons_succ]
    refine wpAnyH_take (i := 3) (v := ?_) (by simp only [List.getElem?_toArray, List.getElem?_cons_zero, List.getElem?_cons_succ]; rfl) (by kernel_rfl) (by kernel_rfl) (by kernel_rfl) (fun _ _ _ h => h) (Or.inl ⟨by rfl, ?_⟩) (by assumption) ?_
    rotate_left
    ·(intro w hSw; (try dsimp only at hSw); go_simp <;> with_reducible rfl)
    try simp only [Act.put, List.setIfInBounds_toArray, List.set_cons_zero, List.set_cons_succ]
    refine wpAnyH_take (i := 4) (v := ?_) (by simp only [List.getElem?_toArray, List.getElem?_cons_zero, List.getElem?_cons_succ]; rfl) (by kernel_rfl) (by kernel_rfl) (by kernel_rfl) (fun _ _ _ h => h) (Or.inl ⟨by rfl, ?_⟩) (by assumption) ?_
    rotate_left
    ·(intro w hSw; (try dsimp only at hSw); go_simp <;> with_reducible rfl)
    try simp only [Act.put, List.setIfInBounds_toArray, List.set_cons_zero, List.set_cons_succ]
    refine wpAnyH_take (i := 5) (v := ?_) (by simp only [List.getElem?_toArray, List.getElem?_cons_zero, List.getElem?_cons_succ]; rfl) (by kernel_rfl) (by kernel_rfl) (by kernel_rfl) (fun _ _ _ h => h) (Or.inl ⟨by rfl, ?_⟩) (by assumption) ?_
    rotate_left
    ·(intro w hSw; (try dsimp only at hSw); go_simp <;> with_reducible rfl)
    try simp only [Act.put, List.setIfInBounds_toArray, List.set_cons_zero, List.set_cons_succ]
    refine wpAnyH_take (i := 6) (v := ?_) (by simp only [List.getElem?_toArray, List.getElem?_cons_zero, List.getElem?_cons_succ]; rfl) (by kernel_rfl) (by kernel_rfl) (by kernel_rfl) (fun _ _ _ h => h) (Or.inl ⟨by rfl, ?_⟩) (by assumption) ?_
    rotate_left
    ·(intro w hSw; (try dsimp only at hSw); go_simp <;> with_reducible rfl)
    try simp only [Act.put, List.setIfInBounds_toArray, List.set_cons_zero, List.set_cons_succ]
    refine wpAnyH_take (i := 7) (v := ?_) (by simp only [List.getElem?_toArray, List.getElem?_cons_zero, List.getElem?_cons_succ]; rfl) (by kernel_rfl) (by kernel_rfl) (by kernel_rfl) (fun _ _ _ h => h) (Or.inl ⟨by rfl, ?_⟩) (by assumption) ?_
    rotate_left
    ·(intro w hSw; (try dsimp only at hSw); go_simp <;> with_reducible rfl)
    try simp only [Act.put, List.setIfInBounds_toArray, List.set_cons_zero, List.set_cons_succ]
    refine wpAnyH_take (i := 8) (v := ?_) (by simp only [List.getElem?_toArray, List.getElem?_cons_zero, List.getElem?_cons_succ]; rfl) (by kernel_rfl) (by kernel_rfl) (by kernel_rfl) (fun _ _ _ h => h) (Or.inl ⟨by rfl, ?_⟩) (by assumption) ?_
    rotate_left
    ·(intro w hSw; (try dsimp only at hSw); go_simp <;> with_reducible rfl)
    try simp only [Act.put, List.setIfInBounds_toArray, List.set_cons_zero, List.set_cons_succ]
    refine wpAnyH_take (i := 9) (v := ?_) (by simp only [List.getElem?_toArray, List.getElem?_cons_zero, List.getElem?_cons_succ]; rfl) (by kernel_rfl) (by kernel_rfl) (by kernel_rfl) (fun _ _ _ h => h) (Or.inl ⟨by rfl, ?_⟩) (by assumption) ?_
    rotate_left
    ·(intro w hSw; (try dsimp only at hSw); go_simp <;> with_reducible rfl)
    try simp only [Act.put, List.setIfInBounds_toArray, List.set_cons_zero, List.set_cons_succ]
    refine wpAnyH_take (i := 10) (v := ?_) (by simp only [List.getElem?_toArray, List.getElem?_cons_zero, List.getElem?_cons_succ]; rfl) (by kernel_rfl) (by kernel_rfl) (by kernel_rfl) (fun _ _ _ h => h) (Or.inl ⟨by rfl, ?_⟩) (by assumption) ?_
    rotate_left
    ·(intro w hSw; (try dsimp only at hSw); go_simp <;> with_reducible rfl)
    try simp only [Act.put, List.setIfInBounds_toArray, List.set_cons_zero, List.set_cons_succ]
    refine wpAnyH_take (i := 11) (v := ?_) (by simp only [List.getElem?_toArray, List.getElem?_cons_zero, List.getElem?_cons_succ]; rfl) (by kernel_rfl) (by kernel_rfl) (by kernel_rfl) (fun _ _ _ h => h) (Or.inl ⟨by rfl, ?_⟩) (by assumption) ?_
    rotate_left
    ·(intro w hSw; (try dsimp only at hSw); go_simp <;> with_reducible rfl)
    try simp only [Act.put, List.setIfInBounds_toArray, List.set_cons_zero, List.set_cons_succ]
    refine wpAnyH_take (i := 12) (v := ?_) (by simp only [List.getElem?_toArray, List.getElem?_cons_zero, List.getElem?_cons_succ]; rfl) (by kernel_rfl) (by kernel_rfl) (by kernel_rfl) (fun _ _ _ h => h) (Or.inl ⟨by rfl, ?_⟩) (by assumption) ?_
    rotate_left
    ·(intro w hSw; (try dsimp only at hSw); go_simp <;> with_reducible rfl)
    try simp only [Act.put, List.setIfInBounds_toArray, List.set_cons_zero, List.set_cons_succ]
    refine wpAnyH_take (i := 13) (v := ?_) (by simp only [List.getElem?_toArray, List.getElem?_cons_zero, List.getElem?_cons_succ]; rfl) (by kernel_rfl) (by kernel_rfl) (by kernel_rfl) (fun _ _ _ h => h) (Or.inl ⟨by rfl, ?_⟩) (by assumption) ?_
    rotate_left
    ·(intro w hSw; (try dsimp only at hSw); go_simp <;> with_reducible rfl)
    try simp only [Act.put, List.setIfInBounds_toArray, List.set_cons_zero, List.set_cons_succ]
    refine wpAnyH_done (by kernel_rfl) ?_ _
    refine NoPanic.normal ?_
    clear hHeld hS0
    go_wp2_with fail
    exact bodyPost_ret (v := .tuple #[.slice a' k' c', .bool q]) (by simp [results, Tryz.results97, go_sem]) rfl ⟨_, rfl, ⟨_, _, _, rfl⟩, HU.out, Below.drew (Below.refl _ _)⟩
end Go.Proofs.YtljggjllijacjaaGreatDoor

namespace Go.Proofs.YtljggjllijacjaaGreatDoor
open Go.RowKit
attribute [local go_sem ↓] Go.wp_at_zero Go.wp_at_succ
theorem flat_inj : ∀ l l' : List C, flat l = flat l' → l = l'
 | [], [], _ => rfl
 | [], c :: r, h => by simp [flat, C.vals] at h
 | c :: r, [], h => by simp [flat, C.vals] at h
 | c :: r, c' :: r', h => by
  have h1 : c.vals ++ flat r = c'.vals ++ flat r' := by simpa [flat] using h
  obtain ⟨h2, h3⟩ := List.append_inj h1 rfl
  have h4 : c = c' := by
   cases c
   cases c'
   simpa [C.vals] using h2
  rw [h4, flat_inj r r' h3]
theorem termAt_uniq {w : World} {v : Value} {l l' : List C} (h : TermAt w v l) (h' : TermAt w v l') : l = l' := by
 obtain ⟨_, h⟩ := h
 obtain ⟨_, h'⟩ := h'
 rcases h with ⟨rfl, ad, rfl⟩ | ⟨b, o, cap, rfl, _, _, h3, _⟩
 ·rcases h' with ⟨rfl, _⟩ | ⟨b, o, cap, e, _⟩
  ·rfl
  ·simp only [Value.slice.injEq] at e
   exact (List.eq_nil_of_length_eq_zero e.2.1.symm).symm
 ·rcases h' with ⟨rfl, ad, e⟩ | ⟨b', o', cap', e, _, _, h3', _⟩
  ·simp only [Value.slice.injEq] at e
   exact List.eq_nil_of_length_eq_zero e.2.1
  ·simp only [Value.slice.injEq, Option.some.injEq, Addr.mk.injEq, and_true] at e
   obtain ⟨⟨rfl, rfl⟩, hl, rfl⟩ := e
   have hlen : (flat l).length = (flat l').length := by rw [flat_length, flat_length, hl]
   refine flat_inj l l' (List.ext_getElem? fun j => ?_)
   by_cases hj : j < (flat l).length
   ·have e1 := h3 j _ (List.getElem?_eq_getElem hj)
    have e2 := h3' j _ (List.getElem?_eq_getElem (by omega))
    rw [e1] at e2
    rw [List.getElem?_eq_getElem hj, List.getElem?_eq_getElem (by omega)]
    exact e2
   ·rw [List.getElem?_eq_none (by omega), List.getElem?_eq_none (by omega)]
open Classical in
/-- The rank of what a value reads as. -/
noncomputable def rkV (m : Hp) (w : World) (v : Value) : Nat := if h : ∃ l, TermAt w v l then rankH m h.choose else 0
theorem rkV_eq {m : Hp} {w : World} {v : Value} {l : List C} (h : TermAt w v l) : rkV m w v = rankH m l := by
 have hh : ∃ l, TermAt w v l := ⟨l, h⟩
 unfold rkV
 rw [dif_pos hh, termAt_uniq hh.choose_spec h]
set_option maxRecDepth 100000 in
set_option maxHeartbeats 2000000 in
theorem h33 (m : Hp) (p : Value) (l : List C) (v : Value) (w : World) (hp : HpV w p m) (hT : TermAt w v l) (hW : ∀ c ∈ l, wfN (c.vn, c.vk)) :
  Calls Tryz.prog 76 #[p, v] w fun e w' => ∃ u l', e = .returned u ∧ TermAt w' u l' ∧ IsFol m l l' ∧ Below w.heap.size w w' := by
 have HP : Hid (HpV w p m) := hp
 have HT : Hid (TermAt w v l) := hT
 have HW : Hid (∀ c ∈ l, wfN (c.vn, c.vk)) := hW
 have H23 := h23 m p l v w hp hT hW
 obtain ⟨a0, c0, hf0⟩ := hT.form
 subst hf0
 obtain ⟨q, hq⟩ : ∃ q, p = .pointer q := by
  rcases hp with ⟨h, _⟩ | ⟨_, _, _, _, h, _⟩ <;> exact ⟨_, h⟩
 subst hq
 clear hp hT hW
 go_enter Tryz.func76, Tryz.ntmps76
 go_wp2_with fail
 refine H23.mono ?_
 rintro e w1 ⟨u1, rfl, ⟨b1, k1, d1, hf1⟩, hu1, hb1⟩
 subst hf1
 have HU1 : Hid (∀ l', nextH m l = some l' → TermAt w1 (.slice b1 k1 d1) l') := hu1
 clear hu1 H23
 go_wp2_with fail
 go_loopw [1, 5, 6] (fun t x k wr => ∃ (l1 : List C), (∃ a n c, t = .slice a n c) ∧ (∃ a n c, x = .slice a n c) ∧ k = .bool (nextH m l1).isSome ∧ Hid (TermAt wr t l1 ∧ Fol m l l1 ∧ (∀ c ∈ l1, wfN (c.vn, c.vk)) ∧ ∀ l', nextH m l1 = some l' → TermAt wr x l') ∧ Below w.heap.size w wr) (fun t _ _ wr => rkV m wr t)
 case atStart => exact ⟨l, ⟨_, _, _, rfl⟩, ⟨_, _, _, rfl⟩, rfl, ⟨HT.out.below hb1, .here l, HW.out, HU1.out⟩, hb1⟩
 case round =>
  obtain ⟨l1, ⟨a, n, c, rfl⟩, ⟨a', n', c', rfl⟩, rfl, HI, hbr⟩ := hrel
  cases hn : nextH m l1 with
  | none =>
   rw [hn] at HI
   have HN : Hid (TermAt wr (.slice a n c) l1 ∧ IsFol m l l1) := ⟨HI.out.1, HI.out.2.1, hn⟩
   have hs : (none : Option (List C)).isSome = false := rfl
   clear HI hn
   go_wp2_with fail
   go_ret
   exact ⟨_, l1, rfl, HN.out.1, HN.out.2, hbr⟩
  | some l2 =>
   have hTx : TermAt wr (.slice a' n' c') l2 := HI.out.2.2.2 l2 hn
   have hwf2 : ∀ c ∈ l2, wfN (c.vn, c.vk) := by
    unfold nextH at hn
    split at hn
    ·exact HP.out.wf hn
    ·cases hn
   have H23 := h23 m _ l2 _ wr (HP.out.below hbr) hTx hwf2
   have HR : Hid (rankH m l2 < rankH m l1) := rank_falls HP.out.desc hn
   have HE : Hid (rkV m wr (.slice a n c) = rankH m l1) := rkV_eq HI.out.1
   have HF : Hid (Fol m l l2) := HI.out.2.1.snoc hn
   have HW2 : Hid (∀ c ∈ l2, wfN (c.vn, c.vk)) := hwf2
   have HTx : Hid (TermAt wr (.slice a' n' c') l2) := hTx
   have hs : (some l2 : Option (List C)).isSome = true := rfl
   clear HI hn hTx hwf2
   go_wp2_with fail
   refine H23.mono ?_
   rintro e w2 ⟨u2, rfl, ⟨b2, k2, d2, hf2⟩, hu2, hb2⟩
   subst hf2
   have HU2 : Hid (∀ l', nextH m l2 = some l' → TermAt w2 (.slice b2 k2 d2) l') := hu2
   have hbw2 : Below w.heap.size w w2 := hbr.trans (hb2.mono hbr.size)
   have HT2 : Hid (TermAt w2 (.slice a' n' c') l2) := HTx.out.below hb2
   have HE2 : Hid (rkV m w2 (.slice a' n' c') = rankH m l2) := rkV_eq HT2.out
   clear hu2 H23 hb2
   go_wp2_with fail
   go_roundw
   case rel => exact ⟨l2, ⟨_, _, _, rfl⟩, ⟨_, _, _, rfl⟩, rfl, ⟨HT2.out, HF.out, HW2.out, HU2.out⟩, hbw2⟩
   case measure => rw [HE.out, HE2.out]; exact HR.out
set_option maxRecDepth 100000 in
set_option maxHeartbeats 2000000 in
theorem h15 (m : Hp) (p : Value) (l : List C) (v : Value) (w : World) (hp : HpV w p m) (hT : TermAt w v l) (hW : ∀ c ∈ l, wfN (c.vn, c.vk)) (hby : l.length * 48 ≤ 140737488355328) (hbm : ∀ x l, lookH m x = some l → l.length * 48 ≤ 140737488355328) :
  Calls Tryz.prog 38 #[p, v] w fun e w' => ∃ u l', e = .returned u ∧ TermAt w' u l' ∧ IsFol m l l' ∧ (∀ g, u.ownBlock = some g → w.heap.size ≤ g) ∧ Below w.heap.size w w' ∧ OwnT w' w.heap.size u l' := by
 have H33 := h33 m p l v w hp hT hW
 have HB : Hid (∀ l', Fol m l l' → l'.length * 48 ≤ 140737488355328) := fun l' h => by
  have : ∀ a b, Fol m a b → a.length * 48 ≤ 140737488355328 → b.length * 48 ≤ 140737488355328 := by
   intro a b h
   induction h with
   | here => exact id
   | step e _ ih =>
    intro _
    refine ih ?_
    unfold nextH at e
    split at e
    ·exact hbm _ _ e
    ·cases e
  exact this l l' h hby
 obtain ⟨a0, c0, hf0⟩ := hT.form
 subst hf0
 obtain ⟨q, hq⟩ : ∃ q, p = .pointer q := by
  rcases hp with ⟨h, _⟩ | ⟨_, _, _, _, h, _⟩ <;> exact ⟨_, h⟩
 subst hq
 clear hp hT hW hbm
 go_enter Tryz.func38, Tryz.ntmps38
 go_wp2_with fail
 refine H33.mono ?_
 rintro e w1 ⟨u1, l1, rfl, hT1, hF1, hb1⟩
 have H22 := h22 l1 u1 w1 hT1 (HB.out l1 hF1.1)
 have HF : Hid (IsFol m l l1) := hF1
 obtain ⟨a1, c1, hf1⟩ := hT1.form
 subst hf1
 clear hF1 hT1 H33
 go_wp2_with fail
 refine H22.mono ?_
 rintro e w2 ⟨u2, rfl, hT2, hg2, hb2, hO2⟩
 have HT2 : Hid (TermAt w2 u2 l1 ∧ (∀ g, u2.ownBlock = some g → w.heap.size ≤ g) ∧ Below w.heap.size w w2 ∧ OwnT w2 w.heap.size u2 l1) := ⟨hT2, fun g hg => Nat.le_trans hb1.size (hg2 g hg), hb1.trans (hb2.mono hb1.size), ownT_base hO2 hb1.size⟩
 obtain ⟨a2, c2, hf2⟩ := hT2.form
 subst hf2
 clear hT2 hg2 hb2 hO2 H22
 go_wp2_with fail
 go_ret
 exact ⟨_, l1, rfl, HT2.out.1, HF.out, HT2.out.2.1, HT2.out.2.2⟩
abbrev HsS (w0 : World) (hb M bx : Nat) (x1 x2 : Int) (u : Value) (f : Bool) (w' : World) : Prop :=
 w'.cell? ⟨hb, 0, none⟩ = some (.map (some M)) ∧ w'.cell? ⟨bx, 0, none⟩ = some (.int .i64 x1) ∧ w'.cell? ⟨bx, 1, none⟩ = some (.int .i64 x2) ∧ (Instr.lookup 97 (.map (some M)) (.agg #[.int .i64 x1, .int .i64 x2]) true).run Tryz.prog w' = .ok (.tuple #[u, .bool f]) w' ∧ Hid (Below w0.heap.size w0 w')
set_option maxRecDepth 100000 in
set_option maxHeartbeats 2000000 in
theorem h21 (m : Hp) (hb M n : Nat) (D : DataW Value) (x : Nm) (w : World) (hH : HpAt w hb M n D m) (hx : wfN x) :
  Calls Tryz.prog 66 #[.pointer (some ⟨hb, 0, none⟩), .agg #[.int .i64 x.1, .int .i64 x.2]] w fun e w' => e = .returned (.bool (lookH m x).isSome) ∧ Below w.heap.size w w' := by
 have hba : Below w.heap.size w (w.alloc (.cells #[.int .i64 x.1, .int .i64 x.2] 32)).drew := ((Below.refl _ w).alloc (Nat.le_refl _) _).drew
 have hHa := hH.below hba
 obtain ⟨u, hrun, ⟨a', k', c', huf⟩, _⟩ := hHa.look x hx
 have hbx : (w.alloc (.cells #[.int .i64 x.1, .int .i64 x.2] 32)).drew.heap[w.heap.size]? = some (.cells #[.int .i64 x.1, .int .i64 x.2] 32 (0, 0)) := heap_alloc_new w _
 have hS0 : HsS w hb M w.heap.size x.1 x.2 u (lookH m x).isSome (w.alloc (.cells #[.int .i64 x.1, .int .i64 x.2] 32)).drew := ⟨hHa.cell, by rw [cell_of_row _ _ 0 _ 32 (0, 0) hbx]; rfl, by rw [cell_of_row _ _ 1 _ 32 (0, 0) hbx]; rfl, hrun, hba⟩
 obtain ⟨q, hq⟩ : ∃ q, (lookH m x).isSome = q := ⟨_, rfl⟩
 rw [hq] at hS0 ⊢
 obtain ⟨x1, x2⟩ := x
 subst huf
 have HBA : Hid (Below w.heap.size w (w.alloc (.cells #[.int .i64 x1, .int .i64 x2] 32)).drew) := hba
 clear hrun hHa hH hx hbx hq hba
 go_enter Tryz.func66, Tryz.ntmps66
 go_wp2_with fail
 refine wp_region_noPanic ?_
 refine wp_region_held_drew (S := fun w' => HsS w hb M w.heap.size x1 x2 (.slice a' k' c') q w') (by kernel_rfl) hS0 (fun hHeld => ?_)
 refine wpAnyH_take (i := 0) (v := ?_) (by simp only [List.getElem?_toArray, List.getElem?_cons_zero]; rfl) (by kernel_rfl) (by kernel_rfl) (by kernel_rfl) (fun _ _ _ h => h) (Or.inl ⟨by rfl, ?_⟩) (by assumption) ?_
 rotate_left
 ·(intro w hSw; (try dsimp only at hSw); go_simp <;> with_reducible rfl)
 try simp only [Act.put, List.setIfInBounds_toArray, List.set_cons_zero, List.set_cons_succ]
 refine wpAnyH_take (i := 1) (v := ?_) (by simp only [List.getElem?_toArray, List.getElem?_cons_zero, List.getElem?_cons_succ]; rfl) (by kernel_rfl) (by kernel_rfl) (by kernel_rfl) (fun _ _ _ h => h) (Or.inl ⟨by rfl, ?_⟩) (by assumption) ?_
 rotate_left
 ·(intro w hSw; (try dsimp only at hSw); go_simp <;> with_reducible rfl)
 try simp only [Act.put, List.setIfInBounds_toArray, List.set_cons_zero, List.set_cons_succ]
 refine wpAnyH_take (i := 2) (v := ?_) (by simp only [List.getElem?_toArray, List.getElem?_cons_zero, List.getElem?_cons_succ]; rfl) (by kernel_rfl) (by kernel_rfl) (by kernel_rfl) (fun _ _ _ h => h) (Or.inl ⟨by rfl, ?_⟩) (by assumption) ?_
 rotate_left
 ·(intro w hSw; (try dsimp only at hSw); go_simp <;> with_reducible rfl)
 try simp only [Act.put, List.setIfInBounds_toArray, List.set_cons_zero, List.set_cons_succ]
 refine wpAnyH_take (i := 3) (v := ?_) (by simp only [List.getElem?_toArray, List.getElem?_cons_zero, List.getElem?_cons_succ]; rfl) (by kernel_rfl) (by kernel_rfl) (by kernel_rfl) (fun _ _ _ h => h) (Or.inl ⟨by rfl, ?_⟩) (by assumption) ?_
 rotate_left
 ·(intro w hSw; (try dsimp only at hSw); go_simp <;> with_reducible rfl)
 try simp only [Act.put, List.setIfInBounds_toArray, List.set_cons_zero, List.set_cons_succ]
 refine wpAnyH_take (i := 4) (v := ?_) (by simp only [List.getElem?_toArray, List.getElem?_cons_zero, List.getElem?_cons_succ]; rfl) (by kernel_rfl) (by kernel_rfl) (by kernel_rfl) (fun _ _ _ h => h) (Or.inl ⟨by rfl, ?_⟩) (by assumption) ?_
 rotate_left
 ·(intro w hSw; (try dsimp only at hSw); go_simp <;> with_reducible rfl)
 try simp only [Act.put, List.setIfInBounds_toArray, List.set_cons_zero, List.set_cons_succ]
 refine wpAnyH_take (i := 5) (v := ?_) (by simp only [List.getElem?_toArray, List.getElem?_cons_zero, List.getElem?_cons_succ]; rfl) (by kernel_rfl) (by kernel_rfl) (by kernel_rfl) (fun _ _ _ h => h) (Or.inl ⟨by rfl, ?_⟩) (by assumption) ?_
 rotate_left
 ·(intro w hSw; (try dsimp only at hSw); go_simp <;> with_reducible rfl)
 try simp only [Act.put, List.setIfInBounds_toArray, List.set_cons_zero, List.set_cons_succ]
 refine wpAnyH_take (i := 6) (v := ?_) (by simp only [List.getElem?_toArray, List.getElem?_cons_zero, List.getElem?_cons_succ]; rfl) (by kernel_rfl) (by kernel_rfl) (by kernel_rfl) (fun _ _ _ h => h) (Or.inl ⟨by rfl, ?_⟩) (by assumption) ?_
 rotate_left
 ·(intro w hSw; (try dsimp only at hSw); go_simp <;> with_reducible rfl)
 try simp only [Act.put, List.setIfInBounds_toArray, List.set_cons_zero, List.set_cons_succ]
 refine wpAnyH_take (i := 7) (v := ?_) (by simp only [List.getElem?_toArray, List.getElem?_cons_zero, List.getElem?_cons_succ]; rfl) (by kernel_rfl) (by kernel_rfl) (by kernel_rfl) (fun _ _ _ h => h) (Or.inl ⟨by rfl, ?_⟩) (by assumption) ?_
 rotate_left
 ·(intro w hSw; (try dsimp only at hSw); go_simp <;> with_reducible rfl)
 try simp only [Act.put, List.setIfInBounds_toArray, List.set_cons_zero, List.set_cons_succ]
 refine wpAnyH_take (i := 8) (v := ?_) (by simp only [List.getElem?_toArray, List.getElem?_cons_zero, List.getElem?_cons_succ]; rfl) (by kernel_rfl) (by kernel_rfl) (by kernel_rfl) (fun _ _ _ h => h) (Or.inl ⟨by rfl, ?_⟩) (by assumption) ?_
 rotate_left
 ·(intro w hSw; (try dsimp only at hSw); go_simp <;> with_reducible rfl)
 try simp only [Act.put, List.setIfInBounds_toArray, List.set_cons_zero, List.set_cons_succ]
 refine wpAnyH_take (i := 9) (v := ?_) (by simp only [List.getElem?_toArray, List.getElem?_cons_zero, List.getElem?_cons_succ]; rfl) (by kernel_rfl) (by kernel_rfl) (by kernel_rfl) (fun _ _ _ h => h) (Or.inl ⟨by rfl, ?_⟩) (by assumption) ?_
 rotate_left
 ·(intro w hSw; (try dsimp only at hSw); go_simp <;> with_reducible rfl)
 try simp only [Act.put, List.setIfInBounds_toArray, List.set_cons_zero, List.set_cons_succ]
 refine wpAnyH_take (i := 10) (v := ?_) (by simp only [List.getElem?_toArray, List.getElem?_cons_zero, List.getElem?_cons_succ]; rfl) (by kernel_rfl) (by kernel_rfl) (by kernel_rfl) (fun _ _ _ h => h) (Or.inl ⟨by rfl, ?_⟩) (by assumption) ?_
 rotate_left
 ·(intro w hSw; (try dsimp only at hSw); go_simp <;> with_reducible rfl)
 try simp only [Act.put, List.setIfInBounds_toArray, List.set_cons_zero, List.set_cons_succ]
 refine wpAnyH_done (by kernel_rfl) ?_ _
 refine NoPanic.normal ?_
 clear hHeld hS0
 go_wp2_with fail
 go_ret
 exact ⟨rfl, HBA.out⟩
theorem HpAt.new (w : World) : HpAt ((w.alloc (.map #[] 0)).alloc (.cells #[.map (some w.heap.size)] 99)) (w.heap.size + 1) w.heap.size 0 (.map []) [] := by
 refine ⟨?_, ?_, ?_, ?_, ?_, ?_⟩
 ·have := heap_alloc_new (w.alloc (.map #[] 0)) (.cells #[.map (some w.heap.size)] 99)
  simpa using this
 ·exact (World.ownsMap_made w Tryz.prog 32 heldElem).alloc _
 ·intro x _ _; rfl
 ·intro x l _ h; simp [lookH] at h
 ·intro x l h; simp [lookH] at h
 ·intro x l h; simp [lookH] at h
set_option maxRecDepth 100000 in
theorem h26 (w : World) : Calls Tryz.prog 33 #[] w fun e w' => e = .returned (.pointer (some ⟨w.heap.size + 1, 0, none⟩)) ∧ HpAt w' (w.heap.size + 1) w.heap.size 0 (.map []) [] ∧ Below w.heap.size w w' := by
 have HN : Hid (HpAt ((w.alloc (.map #[] 0)).alloc (.cells #[.map (some w.heap.size)] 99)) (w.heap.size + 1) w.heap.size 0 (.map []) []) := HpAt.new w
 have HB : Hid (Below w.heap.size w ((w.alloc (.map #[] 0)).alloc (.cells #[.map (some w.heap.size)] 99))) := ((Below.refl _ w).alloc (Nat.le_refl _) _).alloc (by simp) _
 have hmm := @run_makeMap Tryz.prog
 go_enter Tryz.func33, Tryz.ntmps33
 go_wp2_with fail
 go_ret
 exact ⟨rfl, HN.out, HB.out⟩
end Go.Proofs.YtljggjllijacjaaGreatDoor
