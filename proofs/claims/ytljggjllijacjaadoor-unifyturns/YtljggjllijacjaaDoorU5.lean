/- The iterator of Backward. -/
import Derived.Test.YtljggjllijacjaaDoorU4
import Derived.RangeFuncNested
import Derived.RangeFuncBound
import Derived.RangeFuncCalls
import Derived.RangeFuncLeaves
import Derived.RangeFuncBox
import Derived.RangeFuncKeeps
import Derived.Shelf.Abstract
import Derived.Shelf.RegionOpen
import Derived.OwnWalkIn
import Derived.TacticsInMore
import Derived.LoopNIn
import Derived.LoopIn
import Derived.Sort.EveryDepth
import Derived.Maps.OwnIn
namespace Go.Proofs.YtljggjllijacjaaDoor
open Go.RowKit Go.Shelf
attribute [local go_sem] Oper.semAt_some
/-- Values with their places, the last one first. -/
def enB (l : List Value) : List (Nat × Value) := (List.range l.length).map fun k => (l.length - 1 - k, l.getD (l.length - 1 - k) (.slice none 0 0))
theorem enB_length (l : List Value) : (enB l).length = l.length := by simp [enB]
theorem enB_get (l : List Value) (k : Nat) (hk : k < (enB l).length) : (enB l)[k] = (l.length - 1 - k, l[l.length - 1 - k]'(by rw [enB_length] at hk; omega)) := by
  have hk' : k < l.length := by rw [enB_length] at hk; exact hk
  simp [enB, show l.length - 1 - k < l.length by omega]
abbrev encVal (x : Nat × Value) : Array Value := #[.int .i64 x.1, x.2]
/-- What the body keeps: old memory, and the iterator's own variable. -/
def KpB (n B : Nat) (W W' : World) : Prop := Below n W W' ∧ W'.heap[B]? = W.heap[B]?
theorem kpB_t {n B : Nat} {x y z : World} (h : KpB n B x y) (k : KpB n B y z) : KpB n B x z := ⟨h.1.trans k.1, k.2.trans h.2⟩
theorem kpB_b {n B : Nat} {w : World} (hn : n ≤ w.heap.size) (hB : B < w.heap.size) (W : World) (l : Nat) (o o' : Obj) (hl : w.heap.size ≤ l) (h : W.heap[l]? = some o) (h1 : o.isCells = false) (h2 : o.isWalk = false) : KpB n B W (W.putObj l o') :=
  ⟨belowK_b hn W l o o' hl h h1 h2, (grownBy_putObj' W l o').block B (by have := (Array.getElem?_eq_some_iff.1 h).1; omega) (fun e => by cases e; omega)⟩
set_option maxRecDepth 100000 in
set_option maxHeartbeats 2000000 in
theorem bw_in (n : Nat) (hn : 1 ≤ n) (l Bs : Nat) (w0 : World) (B0 : Nat) (J Jx : List (Nat × Value) → World → Prop) (hJ : AbidesFrom B0 J) (ds : List Value) (ad : Option Addr) (cap : Nat) (hl : ds.length ≤ maxLen) (hc1 : ∀ u ∈ ds, ∃ a n c, u = .slice a n c)
    (hr : ds.length = 0 ∨ ∃ g o, ad = some ⟨g, o, none⟩ ∧ g < w0.heap.size ∧ w0.rangeAt g o ds)
    (hY : ∀ pre x W, J pre W → pre ++ [x] <+: enB ds → YieldAt Fence.wide (n - 1) Tryd.prog l (encVal x) W fun e W' =>
      (e = .returned (.bool true) ∧ J (pre ++ [x]) W' ∧ KpB w0.heap.size Bs W W') ∨ (e = .returned (.bool false) ∧ Jx (pre ++ [x]) W'))
    (W : World) (hBs : Boxed W Bs 47 (.slice ad ds.length cap)) (hW : Below w0.heap.size w0 W) (h0 : J [] W) :
    CallsIn Fence.wide n Tryd.prog 94 #[.func (.yield l) #[] #[], .pointer (some ⟨Bs, 0, none⟩)] W fun e W' => (∃ v, e = .returned v) ∧
      ((∃ ys, ys = enB ds ∧ J ys W') ∨ (∃ pre, pre <+: enB ds ∧ Jx pre W')) := by
  unfold maxLen at hl
  have HR : Hid (ds.length = 0 ∨ ∃ g o, ad = some ⟨g, o, none⟩ ∧ g < w0.heap.size ∧ w0.rangeAt g o ds) := hr
  have HY : Hid (∀ pre x W, J pre W → pre ++ [x] <+: enB ds → YieldAt Fence.wide (n - 1) Tryd.prog l (encVal x) W fun e W' =>
      (e = .returned (.bool true) ∧ J (pre ++ [x]) W' ∧ KpB w0.heap.size Bs W W') ∨ (e = .returned (.bool false) ∧ Jx (pre ++ [x]) W')) := hY
  have HJ : Hid (AbidesFrom B0 J) := hJ
  have HC1 : Hid (∀ u ∈ ds, ∃ a n c, u = .slice a n c) := hc1
  have c0 := hBs.cell
  have HB0 : Hid (Boxed W Bs 47 (.slice ad ds.length cap)) := hBs
  clear hr hY hJ hc1 hBs
  refine callsIn_of_wp Tryd.func94 rfl trivial ?_ rfl
  simp only [Tryd.ntmps94, List.size_toArray, List.length_cons, List.length_nil, Nat.reduceAdd, Nat.reduceSub, Array.replicate_succ, Array.replicate_zero, List.push_toArray, List.append_toArray, List.nil_append, List.cons_append]
  gi_wp2
  gi_loopw [3] (fun i wr => ∃ m : Nat, m ≤ ds.length ∧ i = .int .i64 ((m : Int) - 1) ∧ Hid (J ((enB ds).take (ds.length - m)) wr) ∧ Below w0.heap.size w0 wr ∧ Hid (Boxed wr Bs 47 (.slice ad ds.length cap))) (fun i _ => (intOf i + 1).toNat)
  case atStart => exact ⟨ds.length, Nat.le_refl _, rfl, by
    show J ((enB ds).take (ds.length - ds.length)) W
    rw [Nat.sub_self]; exact h0, hW, HB0⟩
  case round =>
    obtain ⟨m, hm, rfl, hJs, hbr, hbx⟩ := hrel
    clear c0
    have c0 := hbx.out.cell
    by_cases hlt : 0 < m
    · obtain ⟨j, rfl⟩ : ∃ j, m = j + 1 := ⟨m - 1, by omega⟩
      have ej : (((j + 1 : Nat) : Int) - 1) = (j : Int) := by omega
      rw [ej]
      have hj0 : (0 : Int) ≤ (j : Int) := by omega
      have hjl : (j : Int) < (ds.length : Int) := by omega
      obtain ⟨g, o, hadg, hg, hrg⟩ : ∃ g o, ad = some ⟨g, o, none⟩ ∧ g < w0.heap.size ∧ w0.rangeAt g o ds := by
        rcases HR.out with e | h
        · omega
        · exact h
      subst hadg
      have hjn : j < ds.length := by omega
      have p0 : wr.cell? ⟨g, o + j, none⟩ = some ds[j] := (hbr.cell (p := ⟨g, o + j, none⟩) hg).trans (hrg j _ (List.getElem?_eq_getElem hjn))
      obtain ⟨xa, xn, xc, hx⟩ := HC1.out ds[j] (List.getElem_mem hjn)
      have hke : ds.length - (j + 1) < (enB ds).length := by rw [enB_length]; omega
      have HT : Hid ((enB ds).take (ds.length - j) = (enB ds).take (ds.length - (j + 1)) ++ [(j, ds[j])]) := by
        show (enB ds).take (ds.length - j) = (enB ds).take (ds.length - (j + 1)) ++ [(j, ds[j])]
        have e1 : ds.length - j = ds.length - (j + 1) + 1 := by omega
        rw [e1, List.take_succ_eq_append_getElem hke, enB_get ds _ hke]
        have e2 : ds.length - 1 - (ds.length - (j + 1)) = j := by omega
        simp only [e2]
      have HP : Hid ((enB ds).take (ds.length - (j + 1)) ++ [(j, ds[j])] <+: enB ds) := by
        show (enB ds).take (ds.length - (j + 1)) ++ [(j, ds[j])] <+: enB ds
        rw [← HT.out]; exact List.take_prefix _ _
      obtain ⟨fn, tmps, assign, body, hy, hR⟩ := HY.out ((enB ds).take (ds.length - (j + 1))) (j, ds[j]) wr hJs.out HP.out
      dsimp only [encVal] at hy
      rw [hx] at p0 hy HT HP
      rw [hx] at hR
      have HXe : Hid (ds[j] = .slice xa xn xc) := hx
      clear hrg hx ej
      gi_wp2
      refine hR.mono ?_
      rintro e W3 (⟨rfl, hJ3, hk3⟩ | ⟨rfl, hJx3⟩)
      · have HB4 : Hid (Below w0.heap.size w0 W3) := hbr.trans hk3.1
        have HBx3 : Hid (Boxed W3 Bs 47 (.slice (some ⟨g, o, none⟩) ds.length cap)) := hk3.2.trans hbx.out
        gi_wp2
        go_roundw
        case rel => exact ⟨j, by omega, by go_num, by
          show J ((enB ds).take (ds.length - j)) _
          rw [HT.out]; exact hJ3, HB4.out, HBx3⟩
        case measure => simp [intOf] <;> omega
      · gi_wp2
        refine bodyPost_ret (results_none rfl _ _ _) rfl ?_
        exact ⟨⟨_, rfl⟩, .inr ⟨_, HP.out, hJx3⟩⟩
    · obtain rfl : m = 0 := by omega
      have hkl : (enB ds).take (ds.length - 0) = enB ds := List.take_of_length_le (by rw [enB_length]; omega)
      have HJe : Hid (J (enB ds) wr) := by
        show J (enB ds) wr
        have h := hJs.out
        rw [hkl] at h
        exact h
      clear hkl
      gi_wp2
      go_end0
      exact ⟨⟨_, rfl⟩, .inl ⟨_, rfl, HJe.out⟩⟩
theorem bw_stopsQ (Q : Nat × Value → Prop) (n : Nat) (hn : 1 ≤ n) (Bs : Nat) (ds : List Value) (ad : Option Addr) (cap : Nat) (w0 w : World) (hw : Below w0.heap.size w0 w) (hc : Boxed w Bs 47 (.slice ad ds.length cap)) (hl : ds.length ≤ maxLen) (hc1 : ∀ u ∈ ds, ∃ a n c, u = .slice a n c)
    (hr : ds.length = 0 ∨ ∃ g o, ad = some ⟨g, o, none⟩ ∧ g < w0.heap.size ∧ w0.rangeAt g o ds) (hQ : ∀ x ∈ enB ds, Q x) :
    SeqStopsK Fence.wide n Tryd.prog 94 #[.pointer (some ⟨Bs, 0, none⟩)] (fun x : { x : Nat × Value // Q x } => encVal x.1) (KpB w0.heap.size Bs) (fun ys => ys.map (·.1) = enB ds) (fun pre => pre.map (·.1) <+: enB ds) ds.length w := by
  intro l J Jx W hW hJ hJx hY h0
  let J' : List (Nat × Value) → World → Prop := fun pre W => ∃ q : List { x : Nat × Value // Q x }, q.map (·.1) = pre ∧ J q W
  let Jx' : List (Nat × Value) → World → Prop := fun pre W => ∃ q : List { x : Nat × Value // Q x }, q.map (·.1) = pre ∧ Jx q W
  have key := bw_in n hn l Bs w0 W.heap.size J' Jx' (by
    rintro s A B row ⟨q, rfl, hq⟩ hg hr
    exact ⟨q, rfl, hJ _ _ _ _ hq hg hr⟩) ds ad cap hl hc1 hr (by
    rintro pre x W1 ⟨q, rfl, hq⟩ hp
    have hx : Q x := hQ x (hp.subset (by simp))
    have hl : q.length < ds.length := by
      have := hp.length_le; rw [enB_length] at this; simp at this; omega
    refine (hY q ⟨x, hx⟩ W1 hq hl).mono ?_
    rintro e W2 (⟨rfl, h1, h2⟩ | ⟨rfl, h1⟩)
    · exact .inl ⟨rfl, ⟨_, by simp, h1⟩, h2⟩
    · exact .inr ⟨rfl, ⟨_, by simp, h1⟩⟩) W ((hW.block Bs hc.lt).trans hc) (hw.trans (hW.mono hw.size)) ⟨[], rfl, h0⟩
  refine key.mono ?_
  rintro e W' ⟨hv, ⟨ys, h1, q, h2, h3⟩ | ⟨pre, h1, q, h2, h3⟩⟩
  · exact ⟨hv, .inl ⟨q, h2.trans h1, h3⟩⟩
  · exact ⟨hv, .inr ⟨q, show q.map (·.1) <+: enB ds from h2 ▸ h1, h3⟩⟩
set_option maxRecDepth 100000 in
theorem u72 (a : Option Addr) (k c : Nat) (w : World) :
    Calls Tryd.prog 72 #[.slice a k c] w fun e w' => e = .returned (.func (.func 94) #[] #[.pointer (some ⟨w.heap.size, 0, none⟩)]) ∧ w' = w.alloc (.cells #[.slice a k c] 47) := by
  go_enter Tryd.func72, Tryd.ntmps72
  go_wp2_with fail
  go_ret
  exact ⟨rfl, rfl⟩
theorem enB_mem {l : List Value} {x : Nat × Value} (h : x ∈ enB l) : l[x.1]? = some x.2 := by
  obtain ⟨k, hk, rfl⟩ := List.getElem_of_mem h
  rw [enB_get l k hk]
  have : k < l.length := by rw [enB_length] at hk; exact hk
  exact List.getElem?_eq_getElem (by omega)
theorem enB_rev (l : List Value) : (enB l).map (·.2) = l.reverse := by
  refine List.ext_getElem (by simp [enB_length]) fun i h1 h2 => ?_
  have h3 : i < (enB l).length := by simpa using h1
  rw [List.getElem_map, enB_get l i h3, List.getElem_reverse]
end Go.Proofs.YtljggjllijacjaaDoor
