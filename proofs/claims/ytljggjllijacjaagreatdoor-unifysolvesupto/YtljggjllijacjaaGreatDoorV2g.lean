/- isLocal and Global: a range over the iterator. -/
import Derived.Test.YtljggjllijacjaaGreatDoorWDg
import Derived.RangeFuncNested
import Derived.RangeFuncBound
import Derived.RangeFuncCalls
import Derived.RangeFuncLeaves
import Derived.Shelf.Abstract
import Derived.Shelf.RegionOpen
import Derived.OwnWalkIn
import Derived.TacticsInMore
import Derived.LoopNIn
import Derived.LoopIn
import Derived.Sort.EveryDepth
import Derived.Test.YtljggjllijacjaaGreatDoorHP2g
namespace Go.Proofs.YtljggjllijacjaaGreatDoor
open Go.RowKit Go.Shelf
attribute [local go_sem] Oper.semAt_some
def varsOf (l : List C) : List (Int × Int) := (l.filter fun c => c.k == 4).map fun c => (c.vn, c.vk)
def varsAll (ls : List (List C)) : List (Int × Int) := ls.flatMap varsOf
theorem varsOf_snoc_yes (l : List C) (j : Nat) (hj : j < l.length) (hk : (l[j].k == 4) = true) : varsOf (l.take (j + 1)) = varsOf (l.take j) ++ [(l[j].vn, l[j].vk)] := by
 unfold varsOf
 rw [List.take_succ_eq_append_getElem hj, List.filter_append]; simp [hk]
theorem varsOf_snoc_no (l : List C) (j : Nat) (hj : j < l.length) (hk : (l[j].k == 4) = false) : varsOf (l.take (j + 1)) = varsOf (l.take j) := by
 unfold varsOf
 rw [List.take_succ_eq_append_getElem hj, List.filter_append]; simp [hk]
theorem varsAll_snoc (ls : List (List C)) (k : Nat) (hk : k < ls.length) : varsAll (ls.take (k + 1)) = varsAll (ls.take k) ++ varsOf ls[k] := by
 unfold varsAll
 rw [List.take_succ_eq_append_getElem hk, List.flatMap_append]; simp
theorem varsOf_prefix (l : List C) (j : Nat) : varsOf (l.take j) <+: varsOf l := by
 have h : varsOf l = varsOf (l.take j) ++ varsOf (l.drop j) := by
  unfold varsOf
  rw [← List.map_append, ← List.filter_append, List.take_append_drop]
 rw [h]; exact List.prefix_append _ _
theorem varsAll_prefix (ls : List (List C)) (k : Nat) : varsAll (ls.take k) <+: varsAll ls := by
 have h : varsAll ls = varsAll (ls.take k) ++ varsAll (ls.drop k) := by
  unfold varsAll
  rw [← List.flatMap_append, List.take_append_drop]
 rw [h]; exact List.prefix_append _ _
theorem vars_at_prefix (ls : List (List C)) (k j : Nat) (hk : k < ls.length) : varsAll (ls.take k) ++ varsOf (ls[k].take j) <+: varsAll ls := by
 have h1 := varsAll_prefix ls (k + 1)
 rw [varsAll_snoc ls k hk] at h1
 exact ((List.prefix_append_right_inj _).2 (varsOf_prefix _ _)).trans h1
theorem abides_alloc {β : Type} {B : Nat} {J : β → World → Prop} (h : AbidesFrom B J) {s : β} {W : World} (o : Obj) (hs : J s W) : J s (W.alloc o) :=
 h s W _ none hs (World.grownBy_alloc W o none) (fun r e => by cases e)
set_option maxRecDepth 100000 in
set_option maxHeartbeats 4000000 in
theorem vars_in (F : Fence) (n : Nat) (h65 : F.fn 96) (hro : F.round = none) (hn : 1 ≤ n) (l Bs : Nat) (w0 : World) (B0 : Nat) (J Jx : List (Int × Int) → World → Prop) (hJ : AbidesFrom B0 J)
  (ls : List (List C)) (b o cap : Nat) (vs : List Value) (hb : b < w0.heap.size) (hc : ls.length ≤ maxLen) (hvl : vs.length = ls.length) (hr : w0.rangeAt b o vs) (ht : ∀ (i : Nat) (u : Value) (x : List C), vs[i]? = some u → ls[i]? = some x → TermAt w0 u x)
  (hY : ∀ pre x W, J pre W → pre ++ [x] <+: varsAll ls → YieldAt F (n - 1) Tryz.prog l #[.agg #[.int .i64 x.1, .int .i64 x.2]] W fun e W' =>
   (e = .returned (.bool true) ∧ J (pre ++ [x]) W' ∧ Below w0.heap.size W W') ∨ (e = .returned (.bool false) ∧ Jx (pre ++ [x]) W'))
  (W : World) (hBs : W.cell? ⟨Bs, 0, none⟩ = some (.slice (some ⟨b, o, none⟩) ls.length cap)) (hW : Below w0.heap.size w0 W) (h0 : J [] W) :
  CallsIn F n Tryz.prog 96 #[.func (.yield l) #[] #[], .pointer (some ⟨Bs, 0, none⟩)] W fun e W' => (∃ v, e = .returned v) ∧
   ((∃ ys, ys = varsAll ls ∧ J ys W') ∨ (∃ pre, pre <+: varsAll ls ∧ Jx pre W')) := by
 unfold maxLen at hc
 have HR : Hid (w0.rangeAt b o vs) := hr
 have HT : Hid (∀ (i : Nat) (u : Value) (x : List C), vs[i]? = some u → ls[i]? = some x → TermAt w0 u x) := ht
 have HV : Hid (vs.length = ls.length) := hvl
 have HY : Hid (∀ pre x W, J pre W → pre ++ [x] <+: varsAll ls → YieldAt F (n - 1) Tryz.prog l #[.agg #[.int .i64 x.1, .int .i64 x.2]] W fun e W' =>
   (e = .returned (.bool true) ∧ J (pre ++ [x]) W' ∧ Below w0.heap.size W W') ∨ (e = .returned (.bool false) ∧ Jx (pre ++ [x]) W')) := hY
 have HJ : Hid (AbidesFrom B0 J) := hJ
 clear hr ht hvl hY hJ
 refine callsIn_of_wp Tryz.func96 rfl h65 ?_ hro
 simp only [Tryz.ntmps96, List.size_toArray, List.length_cons, List.length_nil, Nat.reduceAdd, Nat.reduceSub, Array.replicate_succ, Array.replicate_zero, List.push_toArray, List.append_toArray, List.nil_append, List.cons_append]
 gi_wp2
 gi_loopw [9] (fun i wr => ∃ k : Nat, k ≤ ls.length ∧ i = .int .i64 k ∧ Hid (J (varsAll (ls.take k)) wr) ∧ Below w0.heap.size w0 wr) (fun i _ => ls.length - (intOf i).toNat)
 case atStart => exact ⟨0, Nat.zero_le _, rfl, h0, hW⟩
 case round =>
  obtain ⟨k, hk, rfl, hJs, hbr⟩ := hrel
  by_cases hlt : k < ls.length
  ·have hlt' : (k : Int) < (ls.length : Int) := by omega
   have hkv : k < vs.length := by rw [HV.out]; exact hlt
   have p0 := row_cell (range_below HR.out hb hbr) k hkv
   have hta := HT.out k _ _ (List.getElem?_eq_getElem hkv) (List.getElem?_eq_getElem hlt)
   obtain ⟨ak, ck, hfk⟩ := hta.form
   have HTA : Hid (TermAt w0 vs[k] ls[k]) := hta
   have hlen63 : ls[k].length ≤ 2 ^ 63 - 1 := hta.1.1
   rw [hfk] at p0
   rw [hfk] at HTA
   clear hta hfk
   gi_wp2
   gi_loopw [15] (fun i wr => ∃ j : Nat, j ≤ ls[k].length ∧ i = .int .i64 j ∧ Hid (J (varsAll (ls.take k) ++ varsOf (ls[k].take j)) wr) ∧ Below w0.heap.size w0 wr) (fun i _ => ls[k].length - (intOf i).toNat)
   case atStart => exact ⟨0, Nat.zero_le _, rfl, by
    show J (varsAll (ls.take k) ++ varsOf (ls[k].take 0)) _
    simpa [varsOf] using hJs.out, hbr⟩
   case round =>
    obtain ⟨j, hj, rfl, hJ2, hbr2⟩ := hrel
    by_cases hltj : j < ls[k].length
    ·have hltj' : (j : Int) < (ls[k].length : Int) := by omega
     obtain ⟨_, hta2⟩ := HTA.out
     rcases hta2 with ⟨hnil, _⟩ | ⟨bk, ok, ck2, hf, _, _, hrk, hbk⟩
     ·rw [hnil] at hltj; simp at hltj
     simp only [Value.slice.injEq, true_and] at hf
     obtain ⟨hf1, hf2⟩ := hf
     subst hf1 hf2
     obtain ⟨q0, q1, q2, q3, q4⟩ := term_cells (range_below hrk hbk hbr2) j hltj
     have hpre := vars_at_prefix ls k (j + 1) hlt
     have hB3 : ∀ ob : Obj, Hid (Below w0.heap.size w0 (wr.alloc ob)) := fun ob => hbr2.alloc hbr2.size ob
     clear hrk
     cases h4 : (ls[k][j].k == 4)
     ·have hv := varsOf_snoc_no ls[k] j hltj h4
      have hJ3 : ∀ ob : Obj, Hid (J (varsAll (ls.take k) ++ varsOf (ls[k].take (j + 1))) (wr.alloc ob)) := fun ob => by
       show J (varsAll (ls.take k) ++ varsOf (ls[k].take (j + 1))) (wr.alloc ob)
       rw [hv]; exact abides_alloc HJ.out ob hJ2.out
      clear hv hpre
      gi_wp2
      refine ⟨fun _ h => (by cases h), ?_⟩
      gi_wp2
      go_roundw
      case rel => exact ⟨j + 1, by omega, by go_num, hJ3 _, (hB3 _).out⟩
      case measure => simp [intOf]; omega
     ·have hv := varsOf_snoc_yes ls[k] j hltj h4
      have HP : Hid (varsAll (ls.take k) ++ varsOf (ls[k].take (j + 1)) <+: varsAll ls) := hpre
      have HV2 : Hid (varsAll (ls.take k) ++ varsOf (ls[k].take j) ++ [(ls[k][j].vn, ls[k][j].vk)] = varsAll (ls.take k) ++ varsOf (ls[k].take (j + 1))) := by
       show varsAll (ls.take k) ++ varsOf (ls[k].take j) ++ [(ls[k][j].vn, ls[k][j].vk)] = varsAll (ls.take k) ++ varsOf (ls[k].take (j + 1))
       rw [hv, List.append_assoc]
      obtain ⟨fn, tmps, assign, body, hy, hR⟩ := HY.out (varsAll (ls.take k) ++ varsOf (ls[k].take j)) (ls[k][j].vn, ls[k][j].vk) (wr.alloc (.cells #[.int .u8 ls[k][j].k, .string ls[k][j].t, .int .i64 ls[k][j].n, .int .i64 ls[k][j].vn, .int .i64 ls[k][j].vk] 78)) (abides_alloc HJ.out _ hJ2.out) (by rw [HV2.out]; exact HP.out)
      dsimp only at hy
      clear hv hpre
      gi_wp2
      refine hR.mono ?_
      rintro e W3 (⟨rfl, hJ3, hk3⟩ | ⟨rfl, hJx3⟩)
      ·have HB4 : Hid (Below w0.heap.size w0 W3) := (hB3 _).out.trans hk3
       gi_wp2
       go_roundw
       case rel => exact ⟨j + 1, by omega, by go_num, by
        show J (varsAll (ls.take k) ++ varsOf (ls[k].take (j + 1))) _
        rw [← HV2.out]; exact hJ3, HB4.out⟩
       case measure => simp [intOf]; omega
      ·gi_wp2
       refine bodyPost_ret (results_none rfl _ _ _) rfl ?_
       exact ⟨⟨_, rfl⟩, .inr ⟨_, by rw [HV2.out]; exact HP.out, hJx3⟩⟩
    ·obtain rfl : j = ls[k].length := by omega
     have HJ4 : Hid (J (varsAll (ls.take (k + 1))) wr) := by
      show J (varsAll (ls.take (k + 1))) wr
      rw [varsAll_snoc ls k hlt]
      simpa using hJ2.out
     gi_wp2
     go_roundw
     case rel => exact ⟨k + 1, by omega, by go_num, HJ4, hbr2⟩
     case measure => simp [intOf]; omega
  ·obtain rfl : k = ls.length := by omega
   gi_wp2
   go_end0
   exact ⟨⟨_, rfl⟩, .inl ⟨varsAll ls, rfl, by simpa using hJs.out⟩⟩
set_option maxRecDepth 100000 in
set_option maxHeartbeats 4000000 in
theorem vars_nil (F : Fence) (n : Nat) (h65 : F.fn 96) (hro : F.round = none) (l Bs : Nat) (J Jx : List (Int × Int) → World → Prop) (ad : Option Addr) (W : World) (hBs : W.cell? ⟨Bs, 0, none⟩ = some (.slice ad 0 0)) (h0 : J [] W) :
  CallsIn F n Tryz.prog 96 #[.func (.yield l) #[] #[], .pointer (some ⟨Bs, 0, none⟩)] W fun e W' => (∃ v, e = .returned v) ∧
   ((∃ ys, ys = varsAll [] ∧ J ys W') ∨ (∃ pre, pre <+: varsAll [] ∧ Jx pre W')) := by
 have H0 : Hid (J [] W) := h0
 clear h0
 refine callsIn_of_wp Tryz.func96 rfl h65 ?_ hro
 simp only [Tryz.ntmps96, List.size_toArray, List.length_cons, List.length_nil, Nat.reduceAdd, Nat.reduceSub, Array.replicate_succ, Array.replicate_zero, List.push_toArray, List.append_toArray, List.nil_append, List.cons_append]
 gi_wp2
 gi_loopw [9] (fun i wr => i = .int .i64 0 ∧ wr = W) (fun _ _ => 0)
 case atStart => exact ⟨rfl, rfl⟩
 case round =>
  obtain ⟨rfl, rfl⟩ := hrel
  gi_wp2
  go_end0
  exact ⟨⟨_, rfl⟩, .inl ⟨[], rfl, H0.out⟩⟩
set_option maxHeartbeats 1000000 in
theorem variables_in (F : Fence) (n : Nat) (h57 : F.fn 74) (hro : F.round = none) (v : Value) (w : World) (hv : ∃ ad len cap, v = .slice ad len cap) :
  CallsIn F n Tryz.prog 74 #[v] w fun e w' => e = .returned (.func (.func 96) #[] #[.pointer (some ⟨w.heap.size, 0, none⟩)]) ∧ w' = w.alloc (.cells #[v] 33) := by
 obtain ⟨ad, len, cap, rfl⟩ := hv
 refine callsIn_of_wp Tryz.func74 rfl h57 ?_ hro
 simp only [Tryz.ntmps74, List.size_toArray, List.length_cons, List.length_nil, Nat.reduceAdd, Nat.reduceSub, Array.replicate_succ, Array.replicate_zero, List.push_toArray, List.append_toArray, List.nil_append, List.cons_append]
 gi_wp2
 go_ret
 exact ⟨rfl, rfl⟩
/-- The iterator's word: names of which Q is known. -/
theorem vars_stops (F : Fence) (n : Nat) (h65 : F.fn 96) (hro : F.round = none) (hn : 1 ≤ n) (Q : Int × Int → Prop) (Bs : Nat) (ls : List (List C)) (v : Value) (w0 w : World) (hBs : Bs < w.heap.size) (hw : Below w0.heap.size w0 w)
  (hc : w.cell? ⟨Bs, 0, none⟩ = some v) (hR : RowAt w0 v ls) (hQ : ∀ x ∈ varsAll ls, Q x) :
  SeqStopsK F n Tryz.prog 96 #[.pointer (some ⟨Bs, 0, none⟩)] (fun x : { x : Int × Int // Q x } => #[Value.agg #[.int .i64 x.1.1, .int .i64 x.1.2]]) (Below w0.heap.size) (fun ys => ys.map (·.1) = varsAll ls) (fun pre => pre.map (·.1) <+: varsAll ls) (varsAll ls).length w := by
 intro l J Jx W hW hJ hJx hY h0
 have hcW : W.cell? ⟨Bs, 0, none⟩ = some v := (hW.cell (p := ⟨Bs, 0, none⟩) hBs).trans hc
 let J' : List (Int × Int) → World → Prop := fun pre W => ∃ q : List { x : Int × Int // Q x }, q.map (·.1) = pre ∧ J q W
 let Jx' : List (Int × Int) → World → Prop := fun pre W => ∃ q : List { x : Int × Int // Q x }, q.map (·.1) = pre ∧ Jx q W
 have key : CallsIn F n Tryz.prog 96 #[.func (.yield l) #[] #[], .pointer (some ⟨Bs, 0, none⟩)] W fun e W' => (∃ v, e = .returned v) ∧
   ((∃ ys, ys = varsAll ls ∧ J' ys W') ∨ (∃ pre, pre <+: varsAll ls ∧ Jx' pre W')) := by
  rcases hR.2 with ⟨rfl, ad, rfl⟩ | ⟨b, o, cap, vs, rfl, _, _, hb, hvl, hr, ht⟩
  ·exact vars_nil F n h65 hro l Bs J' Jx' ad W hcW ⟨[], rfl, h0⟩
  ·refine vars_in F n h65 hro hn l Bs w0 W.heap.size J' Jx' ?_ ls b o cap vs hb hR.1 hvl hr ht ?_ W hcW (hw.trans (hW.mono hw.size)) ⟨[], rfl, h0⟩
   ·rintro s A B row ⟨q, rfl, hq⟩ hg hr
    exact ⟨q, rfl, hJ _ _ _ _ hq hg hr⟩
   ·rintro pre x W1 ⟨q, rfl, hq⟩ hp
    have hx : Q x := hQ x (hp.subset (by simp))
    have hl : q.length < (varsAll ls).length := by
     have := hp.length_le; simp at this; omega
    refine (hY q ⟨x, hx⟩ W1 hq hl).mono ?_
    rintro e W2 (⟨rfl, h1, h2⟩ | ⟨rfl, h1⟩)
    ·exact .inl ⟨rfl, ⟨_, by simp, h1⟩, h2⟩
    ·exact .inr ⟨rfl, ⟨_, by simp, h1⟩⟩
 refine key.mono ?_
 rintro e W' ⟨hv, ⟨ys, h1, q, h2, h3⟩ | ⟨pre, h1, q, h2, h3⟩⟩
 ·exact ⟨hv, .inl ⟨q, h2.trans h1, h3⟩⟩
 ·exact ⟨hv, .inr ⟨q, show q.map (·.1) <+: varsAll ls from h2 ▸ h1, h3⟩⟩
end Go.Proofs.YtljggjllijacjaaGreatDoor

namespace Go.Proofs.YtljggjllijacjaaGreatDoor
open Go.RowKit Go.Shelf
attribute [local go_sem] Oper.semAt_some
set_option maxHeartbeats 1000000 in
theorem isLocal_in (F : Fence) (n : Nat) (h56 : F.fn 75) (hro : F.round = none) (a b : Int) (w : World) :
  CallsIn F n Tryz.prog 75 #[.agg #[.int .i64 a, .int .i64 b]] w fun e w' => e = .returned (.bool (a == -1)) ∧ w' = w.alloc (.cells #[.int .i64 a, .int .i64 b] 32) := by
 refine callsIn_of_wp Tryz.func75 rfl h56 ?_ hro
 simp only [Tryz.ntmps75, List.size_toArray, List.length_cons, List.length_nil, Nat.reduceAdd, Nat.reduceSub, Array.replicate_succ, Array.replicate_zero, List.push_toArray, List.append_toArray, List.nil_append, List.cons_append]
 gi_wp2
 go_ret
 exact ⟨rfl, rfl⟩
/-- A pair that lies in a block of its own. -/
def Pair (W : World) (B : Nat) (t : TypeId) (a b : Int) : Prop := W.heap[B]? = some (.cells #[.int .i64 a, .int .i64 b] t (0, 0))
theorem Pair.cell0 {W : World} {B : Nat} {t : TypeId} {a b : Int} (h : Pair W B t a b) : W.cell? ⟨B, 0, none⟩ = some (.int .i64 a) := by simp [World.cell?, show W.heap[B]? = _ from h]
theorem Pair.cell1 {W : World} {B : Nat} {t : TypeId} {a b : Int} (h : Pair W B t a b) : W.cell? ⟨B, 1, none⟩ = some (.int .i64 b) := by simp [World.cell?, show W.heap[B]? = _ from h]
theorem Pair.lt {W : World} {B : Nat} {t : TypeId} {a b : Int} (h : Pair W B t a b) : B < W.heap.size := (Array.getElem?_eq_some_iff.1 h).1
theorem Pair.new (W : World) (t : TypeId) (a b : Int) : Pair (W.alloc (.cells #[.int .i64 a, .int .i64 b] t)) W.heap.size t a b := World.alloc_heap_new W _
theorem Pair.kept {W W' : World} {row : Option Nat} {B : Nat} {t : TypeId} {a b : Int} (h : Pair W B t a b) (hg : W.grownBy W' row) (hr : ∀ r, row = some r → ∃ o : Obj, W.heap[r]? = some o ∧ o.isCells = false) : Pair W' B t a b :=
 (hg.block B h.lt (fun e => by
  obtain ⟨o, h1, h2⟩ := hr B e.symm
  rw [show W.heap[B]? = _ from h] at h1
  cases h1
  cases h2)).trans h
def globalB (l : List C) : Bool := (varsOf l).all (fun x => !(x.1 == -1)) && rightB l
set_option maxRecDepth 100000 in
set_option maxHeartbeats 4000000 in
theorem c36 (l : List C) (v : Value) (w : World) (h : TermAt w v l) (hS : Signs w) :
  Calls Tryz.prog 37 #[v] w fun e w' => e = .returned (.bool (globalB l)) ∧ Below w.heap.size w w' := by
 refine (callsIn_wide (n := 6)).1 ?_
 have HT : Hid (TermAt w v l) := h
 have HS : Hid (Signs w) := hS
 obtain ⟨ad, cap, hv⟩ := h.form
 subst hv
 clear h hS
 refine callsIn_of_wp_marks Tryz.func37 rfl trivial ?_ rfl
 simp only [Tryz.ntmps37, List.size_toArray, List.length_cons, List.length_nil, Nat.reduceAdd, Nat.reduceSub, Array.replicate_succ, Array.replicate_zero, List.push_toArray, List.append_toArray, List.nil_append, List.cons_append]
 gi_wp2_with (refine ⟨trivial, ?_⟩; gi_at_call 74; refine (variables_in Fence.wide _ trivial rfl _ _ ⟨_, _, _, rfl⟩).mono ?_; rintro e w' ⟨rfl, rfl⟩)
 have bS := ((Boxed.new w 4 (.bool false)).alloc (.cells #[.slice ad l.length cap] 24)).alloc (.cells #[.slice (some ⟨w.heap.size + 1, 0, none⟩) 1 1] 33)
 have bT := (Boxed.new (w.alloc (.cells #[.bool false] 4)) 24 (.slice ad l.length cap)).alloc (.cells #[.slice (some ⟨w.heap.size + 1, 0, none⟩) 1 1] 33)
 have bL := Boxed.new ((w.alloc (.cells #[.bool false] 4)).alloc (.cells #[.slice ad l.length cap] 24)) 33 (.slice (some ⟨w.heap.size + 1, 0, none⟩) 1 1)
 simp only [World.size_alloc] at bT bL
 have hB0 : Below w.heap.size w (((w.alloc (.cells #[.bool false] 4)).alloc (.cells #[.slice ad l.length cap] 24)).alloc (.cells #[.slice (some ⟨w.heap.size + 1, 0, none⟩) 1 1] 33)) := (((Below.refl _ w).alloc (Nat.le_refl _) _).alloc (by simp) _).alloc (by simp; omega) _
 have hsz : (((w.alloc (.cells #[.bool false] 4)).alloc (.cells #[.slice ad l.length cap] 24)).alloc (.cells #[.slice (some ⟨w.heap.size + 1, 0, none⟩) 1 1] 33)).heap.size = w.heap.size + 3 := by simp
 obtain ⟨W0, hW0⟩ : ∃ W0, (((w.alloc (.cells #[.bool false] 4)).alloc (.cells #[.slice ad l.length cap] 24)).alloc (.cells #[.slice (some ⟨w.heap.size + 1, 0, none⟩) 1 1] 33)) = W0 := ⟨_, rfl⟩
 rw [hW0] at bS bT bL hB0 hsz ⊢
 clear hW0
 have hrow : RowAt W0 (.slice (some ⟨w.heap.size + 1, 0, none⟩) 1 1) [l] := by
  refine ⟨by simp [maxLen], .inr ⟨_, _, _, [.slice ad l.length cap], rfl, by simp, by simp [maxLen], by omega, rfl, ?_, ?_⟩⟩
  ·intro i u hu
   match i, hu with
   | 0, hu => simp at hu; subst hu; exact bT.cell
  ·intro i u x hu hx
   match i, hu, hx with
   | 0, hu, hx => simp at hu hx; subst hu hx; exact HT.out.below hB0
 have hva : varsAll [l] = varsOf l := by simp [varsAll]
 refine wpIn_rangeFunc_ownH rfl (by decide) (gf := 96) (lb := #[.pointer (some ⟨w.heap.size + 1 + 1, 0, none⟩)]) rfl trivial (enters_of Tryz.func96 (by kernel_rfl) rfl)
  (vars_stops Fence.wide 5 trivial rfl (by decide) (fun _ => True) (w.heap.size + 1 + 1) [l] _ W0 W0 (by omega) (Below.refl _ _) bL.cell hrow (fun _ _ => trivial)) belowK_t (belowK_b (Nat.le_refl _)) (Below.refl _ _) (fun _ => rfl)
  (fun pre W => ((∀ y ∈ pre, (y.1.1 == -1) = false) ∧ Boxed W w.heap.size 4 (.bool false)) ∧ Below W0.heap.size W0 W)
  (fun c pre W => (c = .ret ∧ (∃ y ∈ pre, (y.1.1 == -1) = true) ∧ Boxed W w.heap.size 4 (.bool false)) ∧ Below w.heap.size w W)
  (OwnFrom.and (Own.from (fun s A B row hs hg hr => ⟨hs.1, boxed_own w.heap.size 4 (fun (_ : Unit) => Value.bool false) () A B row hs.2 hg hr⟩) _) (ownFrom_below (Nat.le_refl _) (Nat.le_refl _)))
  (fun c => OwnFrom.and (Own.from (fun s A B row hs hg hr => ⟨hs.1, hs.2.1, boxed_own w.heap.size 4 (fun (_ : Unit) => Value.bool false) () A B row hs.2.2 hg hr⟩) _) (ownFrom_below (Nat.le_refl _) (by omega)))
  ⟨⟨by simp, bS⟩, Below.refl _ _⟩
  (fun x a' W => ∃ Bx, Pair W Bx 32 x.1.1 x.1.2 ∧ a' = { tmps := #[.slice ad l.length cap, undef, .pointer (some ⟨w.heap.size, 0, none⟩), .pointer (some ⟨Bx, 0, none⟩), .slice ad l.length cap, .slice (some ⟨w.heap.size + 1, 0, none⟩) 1 1, .func (.func 96) #[] #[.pointer (some ⟨w.heap.size + 1 + 1, 0, none⟩)], .agg #[.int .i64 x.1.1, .int .i64 x.1.2], undef, undef, undef, undef], defers := [] })
  (fun x a' _ X Y row hs hg hr => by obtain ⟨Bx, h2, h3⟩ := hs; exact ⟨Bx, h2.kept hg (fun r e => (hr r e).2), h3⟩)
  ?assign ?body ?done ?stop
 case assign =>
  rintro lp pre x W K ⟨⟨hp, b1⟩, hB1⟩ hK
  gi_wp2
  exact hK _ _ ((KeepsOthers.alloc _ _).from _) ((Below.refl _ W).alloc hB1.size _) ⟨⟨hp, b1.alloc _⟩, hB1.alloc hB1.size _⟩ ⟨W.heap.size, Pair.new W 32 _ _, rfl⟩
 case body =>
  rintro lp pre x a' W hl ⟨r, hr⟩ ⟨⟨hp, b1⟩, hB1⟩ ⟨Bx, bX, rfl⟩ hlt
  have cX0 := bX.cell0
  have cX1 := bX.cell1
  have b2 := b1.alloc (.cells #[.int .i64 x.1.1, .int .i64 x.1.2] 32)
  have c1 := b2.cell
  have f1 := b2.frozen
  have HBW : Hid (Below w.heap.size w W) := hB0.trans (hB1.mono hB0.size)
  have HP : Hid (∀ y ∈ pre, (y.1.1 == -1) = false) := hp
  clear hp hr hlt
  gi_wp2_with (refine ⟨trivial, ?_⟩; gi_at_call 75; refine (CallsIn.inRound lp (isLocal_in Fence.wide _ trivial rfl _ _ _)).mono ?_; rintro e w' ⟨rfl, rfl⟩)
  ·rename_i hx
   refine ⟨((KeepsOthers.alloc _ _).trans (KeepsOthers.setCell _ _ _)).from _, ⟨rfl, ⟨x, by simp, hx⟩, b2.set _⟩, ?_⟩
   exact (HBW.out.alloc HBW.out.size _).setCell (p := ⟨w.heap.size, 0, none⟩) (Nat.le_refl _) _
  ·rename_i hx
   refine ⟨(KeepsOthers.alloc _ _).from _, (Below.refl _ W).alloc hB1.size _, ⟨fun y hy => ?_, b2⟩, hB1.alloc hB1.size _⟩
   rcases List.mem_append.1 hy with hy | hy
   ·exact HP.out y hy
   ·simp only [List.mem_singleton] at hy
    subst hy
    simpa using hx
 case done =>
  rintro D zs W hD hzs ⟨⟨hp, b1⟩, hB1⟩ hK
  have c1 := b1.cell
  have f1 := b1.frozen
  have HBW : Hid (Below w.heap.size w W) := hB0.trans (hB1.mono hB0.size)
  have H22 := c22 l _ W (HT.out.below HBW.out) (HS.out.below HBW.out)
  have hlt1 := b1.lt
  have hg : globalB l = rightB l := by
   unfold globalB
   rw [List.all_eq_true.2 (fun x hx => ?_), Bool.true_and]
   rw [← hva, ← hzs] at hx
   obtain ⟨y, hy, rfl⟩ := List.mem_map.1 hx
   simp [hp y hy]
  have hDl : D < W.heap.size := (Array.getElem?_eq_some_iff.1 hK).1
  gi_wp2_with (refine ⟨trivial, ?_⟩; gi_at_call 68; refine (callsIn_wide.2 H22).mono ?_; rintro e w' ⟨rfl, hb22⟩; have b3 : Boxed w' w.heap.size 4 (.bool false) := (hb22.block w.heap.size hlt1).trans b1; have hK2 := (hb22.block D hDl).trans hK; have c3 := b3.cell; have f3 := b3.frozen)
  have hK' := (KeepsOthers.setCell w' ⟨w.heap.size, 0, none⟩ (.bool (rightB l))).same D _ hK2 rfl
  refine ⟨by simp, .inl ⟨_, _, rfl, run_takeDeferred hK', ?_⟩⟩
  have hc5 := cell_kept (b3.set (.bool (rightB l))).cell (grownBy_putObj' _ D (.deferred none)) (fun r e => by cases e; exact ⟨_, hK', rfl⟩)
  refine ⟨.bool (rightB l), ?_, by rw [hg], ((HBW.out.trans (hb22.mono HBW.out.size)).setCell (p := ⟨w.heap.size, 0, none⟩) (Nat.le_refl _) _).trans (belowK_b (w := w) (Nat.le_refl _) _ D _ _ (by omega) hK' rfl rfl)⟩
  simp [results, Tryz.f37, go_sem, hc5]
 case stop =>
  rintro D c pre W hD hpre ⟨⟨rfl, hin, b1⟩, hB1⟩ hK
  have c1 := b1.cell
  have hg : globalB l = false := by
   obtain ⟨y, hy, hy1⟩ := hin
   unfold globalB
   rw [List.all_eq_false.2 ⟨y.1, ?_, by simp [hy1]⟩, Bool.false_and]
   rw [← hva]
   exact hpre.subset (List.mem_map.2 ⟨y, hy, rfl⟩)
  gi_wp2
  refine ⟨by simp, .inl ⟨_, _, rfl, run_takeDeferred hK, ?_⟩⟩
  have hc5 := cell_kept c1 (grownBy_putObj' _ D (.deferred none)) (fun r e => by cases e; exact ⟨_, hK, rfl⟩)
  refine ⟨.bool false, ?_, by rw [hg], hB1.trans (belowK_b (w := w) (Nat.le_refl _) W D _ _ (by omega) hK rfl rfl)⟩
  simp [results, Tryz.f37, go_sem, hc5]
end Go.Proofs.YtljggjllijacjaaGreatDoor
