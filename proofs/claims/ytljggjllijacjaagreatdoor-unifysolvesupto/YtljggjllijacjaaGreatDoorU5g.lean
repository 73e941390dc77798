/- Contracts of isNone, IndexFunc and ContainsFunc at it. The iterator of Backward. -/
import Derived.Test.YtljggjllijacjaaGreatDoorU3g
import Derived.RangeFuncNested
import Derived.RangeFuncBound
import Derived.RangeFuncCalls
import Derived.RangeFuncLeaves
import Derived.RangeFuncBox
import Derived.RangeFuncKeeps
import Derived.Shelf.Abstract
import Derived.Shelf.RegionOpen
import Derived.OwnWalkIn
import Derived.TacticsInMore
import Derived.LoopNIn
import Derived.LoopIn
import Derived.Sort.EveryDepth
import Derived.Maps.OwnIn
namespace Go.Proofs.YtljggjllijacjaaGreatDoor
open Go.RowKit
attribute [local go_sem ↓] Go.wp_at_zero Go.wp_at_succ
/-- No equation of global terms. -/
def noneB (l : List C) : Bool := !globalB l || !isB l eqS 2
set_option maxRecDepth 100000 in
theorem u47 (l : List C) (v : Value) (w : World) (hT : TermAt w v l) (hS : Signs w) : Calls Tryz.prog 58 #[v] w fun e w' => e = .returned (.bool (noneB l)) ∧ Below w.heap.size w w' := by
 have HG := c36 l v w hT hS
 have HI : ∀ w', Below w.heap.size w w' → Calls Tryz.prog 69 #[v, .string ⟨#[61]⟩, .int .i64 2] w' fun e w'' => e = .returned (.bool (isB l eqS 2)) ∧ w'' = w' := fun w' hb => c28 l v eqS 2 w' (hT.below hb)
 have HN : Hid (noneB l = (!globalB l || !isB l eqS 2)) := rfl
 obtain ⟨ad, cap, hf⟩ := hT.form
 subst hf
 clear hT hS
 generalize globalB l = gb at *
 generalize isB l eqS 2 = ib at *
 cases gb
 ·have hn : noneB l = true := HN.out
  rw [hn]
  clear hn HN HI
  go_enter Tryz.func58, Tryz.ntmps58
  go_wp2_with fail
  refine HG.mono ?_
  rintro e w1 ⟨rfl, hb1⟩
  clear HG
  go_wp2_with fail
  go_ret
  exact ⟨rfl, hb1⟩
 ·have hn : noneB l = !ib := HN.out
  rw [hn]
  clear hn HN
  cases ib
  all_goals
   go_enter Tryz.func58, Tryz.ntmps58
   go_wp2_with fail
   refine HG.mono ?_
   rintro e w1 ⟨rfl, hb1⟩
   clear HG
   go_wp2_with fail
   refine (HI _ hb1).mono ?_
   rintro e w2 ⟨rfl, hw⟩
   obtain rfl := hw.symm
   clear HI
   go_wp2_with fail
   go_ret
   exact ⟨rfl, hb1⟩
/-- The place of the first that is none, or -1. -/
def IxPost (ls : List (List C)) (e : Ending) (w w' : World) : Prop := ∃ r : Int, e = .returned (.int .i64 r) ∧ (decide (0 ≤ r) = ls.any noneB) ∧ Below w.heap.size w w'
set_option maxRecDepth 100000 in
set_option maxHeartbeats 2000000 in
theorem u70 (ls : List (List C)) (v : Value) (w : World) (h : RowAt w v ls) (hS : Signs w) : Calls Tryz.prog 87 #[v, .func (.func 58) #[] #[]] w fun e w' => IxPost ls e w w' := by
 have HR : Hid (RowAt w v ls ∧ Signs w) := ⟨h, hS⟩
 have hlm := h.1
 obtain ⟨a, c, hf⟩ := h.form
 subst hf
 obtain ⟨q, hq⟩ : ∃ q, ls.length = q := ⟨_, rfl⟩
 rw [hq] at hlm
 have HQ : Hid (ls.length = q) := hq
 have hq' : (Value.slice a ls.length c) = .slice a q c := by rw [hq]
 rw [hq'] at HR ⊢
 unfold maxLen at hlm
 clear h hS hq hq'
 go_enter Tryz.func87, Tryz.ntmps87
 go_wp2_with fail
 go_loopw [8] (fun i wr => ∃ k : Nat, k ≤ q ∧ i = .int .i64 k ∧ Hid ((ls.take k).any noneB = false ∧ Below w.heap.size w wr)) (fun i _ => q - (intOf i).toNat)
 case atStart => exact ⟨0, Nat.zero_le _, rfl, rfl, Below.refl _ _⟩
 case round =>
  obtain ⟨k, hk, rfl, HK⟩ := hrel
  by_cases hlt : k < q
  ·have hltI : (k : Int) < (q : Int) := by omega
   have hk0 : (0 : Int) ≤ (k : Int) := by omega
   have hkl : k < ls.length := by rw [HQ.out]; exact hlt
   obtain ⟨b, o, cp, u, ef, hbl, cu, hTu⟩ := row_at (HR.out.1.below HK.out.2) k hkl
   simp only [Value.slice.injEq] at ef
   obtain ⟨rfl, hh, rfl⟩ := ef
   clear hh
   have H47 : Hid (Calls Tryz.prog 58 #[u] wr fun e w' => e = .returned (.bool (noneB ls[k])) ∧ Below wr.heap.size wr w') := u47 ls[k] u wr hTu (HR.out.2.below HK.out.2)
   have HT : Hid ((ls.take (k + 1)).any noneB = ((ls.take k).any noneB || noneB ls[k])) := by
    show (ls.take (k + 1)).any noneB = ((ls.take k).any noneB || noneB ls[k])
    rw [List.take_succ_eq_append_getElem hkl, List.any_append]; simp
   have HM : Hid (noneB ls[k] = true → ls.any noneB = true) := fun h => by
    rw [List.any_eq_true]
    exact ⟨ls[k], List.getElem_mem _, h⟩
   clear hTu
   generalize noneB ls[k] = nb at *
   cases nb
   ·go_wp2_with fail
    refine H47.out.mono ?_
    rintro e w2 ⟨rfl, hb2⟩
    have HF : Hid ((ls.take (k + 1)).any noneB = false ∧ Below w.heap.size w w2) := ⟨by rw [HT.out, HK.out.1]; rfl, HK.out.2.trans (hb2.mono HK.out.2.size)⟩
    clear hb2 H47 HT HM
    go_wp2_with fail
    go_roundw
    case rel => exact ⟨k + 1, by omega, by go_num, HF⟩
    case measure => simp [intOf]; omega
   ·go_wp2_with fail
    refine H47.out.mono ?_
    rintro e w2 ⟨rfl, hb2⟩
    have HF : Hid (ls.any noneB = true ∧ Below w.heap.size w w2) := ⟨HM.out trivial, HK.out.2.trans (hb2.mono HK.out.2.size)⟩
    clear hb2 H47 HT HM
    go_wp2_with fail
    go_ret
    exact ⟨k, rfl, by rw [HF.out.1]; simp, HF.out.2⟩
  ·have hltI : ¬ (k : Int) < (q : Int) := by omega
   obtain rfl : k = q := by omega
   have HF : Hid (ls.any noneB = false ∧ Below w.heap.size w wr) := ⟨by
    have h := HK.out.1
    rw [List.take_of_length_le (by rw [HQ.out]; exact Nat.le_refl _)] at h
    exact h, HK.out.2⟩
   go_wp2_with fail
   go_ret
   exact ⟨-1, rfl, by rw [HF.out.1]; rfl, HF.out.2⟩
set_option maxRecDepth 100000 in
theorem u46 (ls : List (List C)) (v : Value) (w : World) (h : RowAt w v ls) (hS : Signs w) : Calls Tryz.prog 57 #[v, .func (.func 58) #[] #[]] w fun e w' => e = .returned (.bool (ls.any noneB)) ∧ Below w.heap.size w w' := by
 have H70 := u70 ls v w h hS
 obtain ⟨a, c, hf⟩ := h.form
 subst hf
 clear h hS
 go_enter Tryz.func57, Tryz.ntmps57
 go_wp2_with fail
 refine H70.mono ?_
 rintro e w1 ⟨r, rfl, hr, hb1⟩
 have HR : Hid (decide (0 ≤ r) = ls.any noneB) := hr
 clear hr H70
 go_wp2_with fail
 go_ret
 exact ⟨by rw [← HR.out]; simp, hb1⟩
end Go.Proofs.YtljggjllijacjaaGreatDoor

namespace Go.Proofs.YtljggjllijacjaaGreatDoor
open Go.RowKit Go.Shelf
attribute [local go_sem] Oper.semAt_some
/-- Values with their places, the last one first. -/
def enB (l : List Value) : List (Nat × Value) := (List.range l.length).map fun k => (l.length - 1 - k, l.getD (l.length - 1 - k) (.slice none 0 0))
theorem enB_length (l : List Value) : (enB l).length = l.length := by simp [enB]
theorem enB_get (l : List Value) (k : Nat) (hk : k < (enB l).length) : (enB l)[k] = (l.length - 1 - k, l[l.length - 1 - k]'(by rw [enB_length] at hk; omega)) := by
 have hk' : k < l.length := by rw [enB_length] at hk; exact hk
 simp [enB, show l.length - 1 - k < l.length by omega]
abbrev encVal (x : Nat × Value) : Array Value := #[.int .i64 x.1, x.2]
/-- What the body keeps: old memory, and the iterator's own variable. -/
def KpB (n B : Nat) (W W' : World) : Prop := Below n W W' ∧ W'.heap[B]? = W.heap[B]?
theorem kpB_t {n B : Nat} {x y z : World} (h : KpB n B x y) (k : KpB n B y z) : KpB n B x z := ⟨h.1.trans k.1, k.2.trans h.2⟩
theorem kpB_b {n B : Nat} {w : World} (hn : n ≤ w.heap.size) (hB : B < w.heap.size) (W : World) (l : Nat) (o o' : Obj) (hl : w.heap.size ≤ l) (h : W.heap[l]? = some o) (h1 : o.isCells = false) (h2 : o.isWalk = false) : KpB n B W (W.putObj l o') :=
 ⟨belowK_b hn W l o o' hl h h1 h2, (grownBy_putObj' W l o').block B (by have := (Array.getElem?_eq_some_iff.1 h).1; omega) (fun e => by cases e; omega)⟩
set_option maxRecDepth 100000 in
set_option maxHeartbeats 2000000 in
theorem bw_in (n : Nat) (hn : 1 ≤ n) (l Bs : Nat) (w0 : World) (B0 : Nat) (J Jx : List (Nat × Value) → World → Prop) (hJ : AbidesFrom B0 J) (ds : List Value) (ad : Option Addr) (cap : Nat) (hl : ds.length ≤ maxLen) (hc1 : ∀ u ∈ ds, ∃ a n c, u = .slice a n c)
  (hr : ds.length = 0 ∨ ∃ g o, ad = some ⟨g, o, none⟩ ∧ g < w0.heap.size ∧ w0.rangeAt g o ds)
  (hY : ∀ pre x W, J pre W → pre ++ [x] <+: enB ds → YieldAt Fence.wide (n - 1) Tryz.prog l (encVal x) W fun e W' =>
   (e = .returned (.bool true) ∧ J (pre ++ [x]) W' ∧ KpB w0.heap.size Bs W W') ∨ (e = .returned (.bool false) ∧ Jx (pre ++ [x]) W'))
  (W : World) (hBs : Boxed W Bs 33 (.slice ad ds.length cap)) (hW : Below w0.heap.size w0 W) (h0 : J [] W) :
  CallsIn Fence.wide n Tryz.prog 109 #[.func (.yield l) #[] #[], .pointer (some ⟨Bs, 0, none⟩)] W fun e W' => (∃ v, e = .returned v) ∧
   ((∃ ys, ys = enB ds ∧ J ys W') ∨ (∃ pre, pre <+: enB ds ∧ Jx pre W')) := by
 unfold maxLen at hl
 have HR : Hid (ds.length = 0 ∨ ∃ g o, ad = some ⟨g, o, none⟩ ∧ g < w0.heap.size ∧ w0.rangeAt g o ds) := hr
 have HY : Hid (∀ pre x W, J pre W → pre ++ [x] <+: enB ds → YieldAt Fence.wide (n - 1) Tryz.prog l (encVal x) W fun e W' =>
   (e = .returned (.bool true) ∧ J (pre ++ [x]) W' ∧ KpB w0.heap.size Bs W W') ∨ (e = .returned (.bool false) ∧ Jx (pre ++ [x]) W')) := hY
 have HJ : Hid (AbidesFrom B0 J) := hJ
 have HC1 : Hid (∀ u ∈ ds, ∃ a n c, u = .slice a n c) := hc1
 have c0 := hBs.cell
 have HB0 : Hid (Boxed W Bs 33 (.slice ad ds.length cap)) := hBs
 clear hr hY hJ hc1 hBs
 refine callsIn_of_wp Tryz.func109 rfl trivial ?_ rfl
 simp only [Tryz.ntmps109, List.size_toArray, List.length_cons, List.length_nil, Nat.reduceAdd, Nat.reduceSub, Array.replicate_succ, Array.replicate_zero, List.push_toArray, List.append_toArray, List.nil_append, List.cons_append]
 gi_wp2
 gi_loopw [3] (fun i wr => ∃ m : Nat, m ≤ ds.length ∧ i = .int .i64 ((m : Int) - 1) ∧ Hid (J ((enB ds).take (ds.length - m)) wr) ∧ Below w0.heap.size w0 wr ∧ Hid (Boxed wr Bs 33 (.slice ad ds.length cap))) (fun i _ => (intOf i + 1).toNat)
 case atStart => exact ⟨ds.length, Nat.le_refl _, rfl, by
  show J ((enB ds).take (ds.length - ds.length)) W
  rw [Nat.sub_self]; exact h0, hW, HB0⟩
 case round =>
  obtain ⟨m, hm, rfl, hJs, hbr, hbx⟩ := hrel
  clear c0
  have c0 := hbx.out.cell
  by_cases hlt : 0 < m
  ·obtain ⟨j, rfl⟩ : ∃ j, m = j + 1 := ⟨m - 1, by omega⟩
   have ej : (((j + 1 : Nat) : Int) - 1) = (j : Int) := by omega
   rw [ej]
   have hj0 : (0 : Int) ≤ (j : Int) := by omega
   have hjl : (j : Int) < (ds.length : Int) := by omega
   obtain ⟨g, o, hadg, hg, hrg⟩ : ∃ g o, ad = some ⟨g, o, none⟩ ∧ g < w0.heap.size ∧ w0.rangeAt g o ds := by
    rcases HR.out with e | h
    ·omega
    ·exact h
   subst hadg
   have hjn : j < ds.length := by omega
   have p0 : wr.cell? ⟨g, o + j, none⟩ = some ds[j] := (hbr.cell (p := ⟨g, o + j, none⟩) hg).trans (hrg j _ (List.getElem?_eq_getElem hjn))
   obtain ⟨xa, xn, xc, hx⟩ := HC1.out ds[j] (List.getElem_mem hjn)
   have hke : ds.length - (j + 1) < (enB ds).length := by rw [enB_length]; omega
   have HT : Hid ((enB ds).take (ds.length - j) = (enB ds).take (ds.length - (j + 1)) ++ [(j, ds[j])]) := by
    show (enB ds).take (ds.length - j) = (enB ds).take (ds.length - (j + 1)) ++ [(j, ds[j])]
    have e1 : ds.length - j = ds.length - (j + 1) + 1 := by omega
    rw [e1, List.take_succ_eq_append_getElem hke, enB_get ds _ hke]
    have e2 : ds.length - 1 - (ds.length - (j + 1)) = j := by omega
    simp only [e2]
   have HP : Hid ((enB ds).take (ds.length - (j + 1)) ++ [(j, ds[j])] <+: enB ds) := by
    show (enB ds).take (ds.length - (j + 1)) ++ [(j, ds[j])] <+: enB ds
    rw [← HT.out]; exact List.take_prefix _ _
   obtain ⟨fn, tmps, assign, body, hy, hR⟩ := HY.out ((enB ds).take (ds.length - (j + 1))) (j, ds[j]) wr hJs.out HP.out
   dsimp only [encVal] at hy
   rw [hx] at p0 hy HT HP
   rw [hx] at hR
   have HXe : Hid (ds[j] = .slice xa xn xc) := hx
   clear hrg hx ej
   gi_wp2
   refine hR.mono ?_
   rintro e W3 (⟨rfl, hJ3, hk3⟩ | ⟨rfl, hJx3⟩)
   ·have HB4 : Hid (Below w0.heap.size w0 W3) := hbr.trans hk3.1
    have HBx3 : Hid (Boxed W3 Bs 33 (.slice (some ⟨g, o, none⟩) ds.length cap)) := hk3.2.trans hbx.out
    gi_wp2
    go_roundw
    case rel => exact ⟨j, by omega, by go_num, by
     show J ((enB ds).take (ds.length - j)) _
     rw [HT.out]; exact hJ3, HB4.out, HBx3⟩
    case measure => simp [intOf] <;> omega
   ·gi_wp2
    refine bodyPost_ret (results_none rfl _ _ _) rfl ?_
    exact ⟨⟨_, rfl⟩, .inr ⟨_, HP.out, hJx3⟩⟩
  ·obtain rfl : m = 0 := by omega
   have hkl : (enB ds).take (ds.length - 0) = enB ds := List.take_of_length_le (by rw [enB_length]; omega)
   have HJe : Hid (J (enB ds) wr) := by
    show J (enB ds) wr
    have h := hJs.out
    rw [hkl] at h
    exact h
   clear hkl
   gi_wp2
   go_end0
   exact ⟨⟨_, rfl⟩, .inl ⟨_, rfl, HJe.out⟩⟩
theorem bw_stopsQ (Q : Nat × Value → Prop) (n : Nat) (hn : 1 ≤ n) (Bs : Nat) (ds : List Value) (ad : Option Addr) (cap : Nat) (w0 w : World) (hw : Below w0.heap.size w0 w) (hc : Boxed w Bs 33 (.slice ad ds.length cap)) (hl : ds.length ≤ maxLen) (hc1 : ∀ u ∈ ds, ∃ a n c, u = .slice a n c)
  (hr : ds.length = 0 ∨ ∃ g o, ad = some ⟨g, o, none⟩ ∧ g < w0.heap.size ∧ w0.rangeAt g o ds) (hQ : ∀ x ∈ enB ds, Q x) :
  SeqStopsK Fence.wide n Tryz.prog 109 #[.pointer (some ⟨Bs, 0, none⟩)] (fun x : { x : Nat × Value // Q x } => encVal x.1) (KpB w0.heap.size Bs) (fun ys => ys.map (·.1) = enB ds) (fun pre => pre.map (·.1) <+: enB ds) ds.length w := by
 intro l J Jx W hW hJ hJx hY h0
 let J' : List (Nat × Value) → World → Prop := fun pre W => ∃ q : List { x : Nat × Value // Q x }, q.map (·.1) = pre ∧ J q W
 let Jx' : List (Nat × Value) → World → Prop := fun pre W => ∃ q : List { x : Nat × Value // Q x }, q.map (·.1) = pre ∧ Jx q W
 have key := bw_in n hn l Bs w0 W.heap.size J' Jx' (by
  rintro s A B row ⟨q, rfl, hq⟩ hg hr
  exact ⟨q, rfl, hJ _ _ _ _ hq hg hr⟩) ds ad cap hl hc1 hr (by
  rintro pre x W1 ⟨q, rfl, hq⟩ hp
  have hx : Q x := hQ x (hp.subset (by simp))
  have hl : q.length < ds.length := by
   have := hp.length_le; rw [enB_length] at this; simp at this; omega
  refine (hY q ⟨x, hx⟩ W1 hq hl).mono ?_
  rintro e W2 (⟨rfl, h1, h2⟩ | ⟨rfl, h1⟩)
  ·exact .inl ⟨rfl, ⟨_, by simp, h1⟩, h2⟩
  ·exact .inr ⟨rfl, ⟨_, by simp, h1⟩⟩) W ((hW.block Bs hc.lt).trans hc) (hw.trans (hW.mono hw.size)) ⟨[], rfl, h0⟩
 refine key.mono ?_
 rintro e W' ⟨hv, ⟨ys, h1, q, h2, h3⟩ | ⟨pre, h1, q, h2, h3⟩⟩
 ·exact ⟨hv, .inl ⟨q, h2.trans h1, h3⟩⟩
 ·exact ⟨hv, .inr ⟨q, show q.map (·.1) <+: enB ds from h2 ▸ h1, h3⟩⟩
set_option maxRecDepth 100000 in
theorem u72 (a : Option Addr) (k c : Nat) (w : World) :
  Calls Tryz.prog 89 #[.slice a k c] w fun e w' => e = .returned (.func (.func 109) #[] #[.pointer (some ⟨w.heap.size, 0, none⟩)]) ∧ w' = w.alloc (.cells #[.slice a k c] 33) := by
 go_enter Tryz.func89, Tryz.ntmps89
 go_wp2_with fail
 go_ret
 exact ⟨rfl, rfl⟩
theorem enB_mem {l : List Value} {x : Nat × Value} (h : x ∈ enB l) : l[x.1]? = some x.2 := by
 obtain ⟨k, hk, rfl⟩ := List.getElem_of_mem h
 rw [enB_get l k hk]
 have : k < l.length := by rw [enB_length] at hk; exact hk
 exact List.getElem?_eq_getElem (by omega)
end Go.Proofs.YtljggjllijacjaaGreatDoor
