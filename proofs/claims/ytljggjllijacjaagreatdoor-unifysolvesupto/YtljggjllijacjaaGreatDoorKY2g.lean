/- The iterator over a map's keys, where these are names: what it yields. Contracts of AppendSeq and Collect over a map's keys. -/
import Derived.Test.YtljggjllijacjaaGreatDoorVAg
import Derived.RangeFuncNested
import Derived.RangeFuncBound
import Derived.RangeFuncCalls
import Derived.RangeFuncLeaves
import Derived.Shelf.Abstract
import Derived.Shelf.RegionOpen
import Derived.OwnWalkIn
import Derived.TacticsInMore
import Derived.LoopNIn
import Derived.LoopIn
import Derived.Sort.EveryDepth
import Derived.Sort.MapsRangeIn
import Derived.Maps.OwnIn
import Derived.Maps.Views
import Derived.RangeFuncBox
import Derived.Maps.AppendAt
import Derived.Deep.MidRow
namespace Go.Proofs.YtljggjllijacjaaGreatDoor
open Go.RowKit Go.Shelf
attribute [local go_sem] Oper.semAt_some
set_option maxRecDepth 100000 in
theorem lits_int {d : Nat} {cs : List Value} {ls : List Lit} (h : Tryz.prog.keyLits (d + 1) 3 cs = some ls) : ∃ n, cs = [.int .i64 n] ∧ (Lit.int .i64 n).wf = true ∧ ls = [.int .i64 n] := by
 unfold Program.keyLits at h
 rw [Tryz.underlying3] at h
 match cs, h with
 | [.int q n], h =>
  simp only at h
  split at h
  ·next hq =>
   obtain ⟨rfl, hw⟩ := hq
   simp only [Option.some.injEq] at h
   exact ⟨n, rfl, hw, h.symm⟩
  ·cases h
set_option maxRecDepth 100000 in
theorem key_inv {key : Value} {kl : Lit} (h : keyOf Tryz.prog 32 key = some kl) : ∃ x : Nm, wfN x ∧ key = .agg #[.int .i64 x.1, .int .i64 x.2] ∧ kl = kLit x := by
 have hc : Tryz.prog.cellsOf 32 = 2 := by kernel_rfl
 have hc3 : Tryz.prog.cellsOf 3 = 1 := by kernel_rfl
 have hs : ∃ n, Tryz.prog.types.size = n + 2 := ⟨Tryz.prog.types.size - 2, by have : 1 < Tryz.prog.types.size := of_decide_eq_true (by kernel_rfl); omega⟩
 obtain ⟨n, hs⟩ := hs
 unfold keyOf at h
 rw [Tryz.underlying32] at h
 simp only at h
 split at h
 ·next hf =>
  rw [Option.map_eq_some_iff] at h
  obtain ⟨ls, h1, h2⟩ := h
  simp only [Bool.and_eq_true] at hf
  have hform := hf.2
  match key, hform with
  | .agg cs, hform =>
   have hsz : cs.size = 2 := by
    simp [Value.formed, Tryz.underlying32, hc] at hform
    exact hform
   obtain ⟨l⟩ := cs
   match l, hsz with
   | [a, b], _ =>
    rw [hs] at h1
    replace h1 : Tryz.prog.keyLits (n + 2 + 1) 32 [a, b] = some ls := h1
    unfold Program.keyLits at h1
    rw [Tryz.underlying32] at h1
    replace h1 := (if_pos (show [a, b].length = Tryz.prog.cellsOf 32 ∧ _ from ⟨by rw [hc]; rfl, by kernel_rfl⟩)).symm.trans h1
    rw [Option.map_eq_some_iff] at h1
    obtain ⟨lls, h3, h4⟩ := h1
    simp only [List.mapM_cons, List.mapM_nil, hc3, List.drop_zero, List.drop_succ_cons, List.take_succ_cons, List.take_zero, Option.bind_eq_bind, Option.bind_eq_some_iff, Option.pure_def, Option.some.injEq] at h3
    obtain ⟨l1, h5, l2, ⟨l3, h6, l4, rfl, rfl⟩, rfl⟩ := h3
    obtain ⟨m1, e1, w1, rfl⟩ := lits_int h5
    obtain ⟨m2, e2, w2, rfl⟩ := lits_int h6
    simp only [List.cons.injEq, and_true] at e1 e2
    subst e1 e2
    refine ⟨(m1, m2), ⟨w1, w2⟩, rfl, ?_⟩
    rw [← h2, ← h4]
    rfl
 ·cases h
/-- What has come, and what is left to come. -/
structure Gt {H : Type} (D : DataW H) (left : Lit → Bool) (xs : List Nm) : Prop where
 nd : xs.Nodup
 el : ∀ x ∈ xs, wfN x ∧ Maps.has D (kLit x) = true ∧ left (kLit x) = false
 all : ∀ x, wfN x → Maps.has D (kLit x) = true → left (kLit x) = true ∨ x ∈ xs
theorem Gt.start {H : Type} (D : DataW H) : Gt D (Maps.has D) [] := ⟨List.Pairwise.nil, (fun x hx => by cases hx), fun x _ h => .inl h⟩
theorem Gt.step {H : Type} {D : DataW H} {left : Lit → Bool} {xs : List Nm} (h : Gt D left xs) {k : Nm} (hk : wfN k) (hl : left (kLit k) = true) (hD : Maps.has D (kLit k) = true) : Gt D (fun z => left z && !z.sameKey (kLit k)) (xs ++ [k]) := by
 have hself : (kLit k).sameKey (kLit k) = true := WideAt.sameKey_self (keyed23.key (key23 k hk))
 refine ⟨?_, fun x hx => ?_, fun x hx hd => ?_⟩
 ·rw [List.nodup_append]
  refine ⟨h.nd, by simp, fun x hx y hy => ?_⟩
  obtain rfl : y = k := by simpa using hy
  rintro rfl
  have := (h.el x hx).2.2
  rw [hl] at this
  cases this
 ·rcases List.mem_append.1 hx with hx | hx
  ·obtain ⟨h1, h2, h3⟩ := h.el x hx
   exact ⟨h1, h2, by simp [h3]⟩
  ·obtain rfl : x = k := by simpa using hx
   exact ⟨hk, hD, by simp [hself]⟩
 ·rcases h.all x hx hd with h1 | h1
  ·by_cases e : x = k
   ·subst e; exact .inr (by simp)
   ·have : (kLit x).sameKey (kLit k) = false := Maps.sameKey_ne fun e2 => e (kLit_inj hx hk e2)
    exact .inl (by simp [h1, this])
  ·exact .inr (List.mem_append_left _ h1)
/-- All keys, each once. -/
def AllK {H : Type} (D : DataW H) (xs : List Nm) : Prop := xs.Nodup ∧ ∀ x, x ∈ xs ↔ wfN x ∧ Maps.has D (kLit x) = true
abbrev encN (x : Nm) : Array Value := #[.agg #[.int .i64 x.1, .int .i64 x.2]]
theorem ranges_le {H : Type} {w : World} {P : Program} {k : TypeId} {R : Value → Option (DataW H × List MemPlace)} {b r n : Nat} {D : DataW H} {left : Lit → Bool} {cnt : Nat} (h : w.ranges P k R b r n D left cnt) : cnt ≤ n := by
 obtain ⟨es, clock, since, seen, c0, _, _, h3, _, _, _, h7, _⟩ := h
 rw [← h7]
 refine Nat.le_trans ?_ h3
 unfold leftOf
 simp
 try exact Array.size_filter_le
set_option maxRecDepth 100000 in
set_option maxHeartbeats 2000000 in
theorem keys_in {H : Type} {R : Value → Option (DataW H × List MemPlace)} (n : Nat) (hn : 1 ≤ n) (l Bm b nn : Nat) (D : DataW H) (J Jx : List Nm → World → Prop)
  (hY : ∀ pre x W, J pre W → pre.length < nn → YieldAt Fence.wide (n - 1) Tryz.prog l (encN x) W fun e W' =>
   (e = .returned (.bool true) ∧ J (pre ++ [x]) W' ∧ KeepsWalks W W') ∨ (e = .returned (.bool false) ∧ Jx (pre ++ [x]) W'))
  (W : World) (hJ : AbidesFrom W.heap.size J) (hm : W.cell? ⟨Bm, 0, none⟩ = some (.map (some b))) (hown : W.ownsMap Tryz.prog 32 R b nn D) (h0 : J [] W) :
  CallsIn Fence.wide n Tryz.prog 107 #[.func (.yield l) #[] #[], .pointer (some ⟨Bm, 0, none⟩)] W fun e W' => (∃ v, e = .returned v) ∧
   ((∃ ys, (AllK D ys ∧ ys.length ≤ nn) ∧ J ys W') ∨ (∃ pre : List Nm, True ∧ Jx pre W')) := by
 have HY : Hid (∀ pre x W, J pre W → pre.length < nn → YieldAt Fence.wide (n - 1) Tryz.prog l (encN x) W fun e W' =>
   (e = .returned (.bool true) ∧ J (pre ++ [x]) W' ∧ KeepsWalks W W') ∨ (e = .returned (.bool false) ∧ Jx (pre ++ [x]) W')) := hY
 have HJ : Hid (AbidesFrom W.heap.size J) := hJ
 clear hY hJ
 refine callsIn_of_wp Tryz.func107 rfl trivial ?_ rfl
 simp only [Tryz.ntmps107, List.size_toArray, List.length_cons, List.length_nil, Nat.reduceAdd, Nat.reduceSub, Array.replicate_succ, Array.replicate_zero, List.push_toArray, List.append_toArray, List.nil_append, List.cons_append]
 gi_wp2_with (first
  | (gi_at_range; refine wpListIn_range_own _ rfl _ 97 rfl 32 24 keyed23 Tryz.underlying97 _ b nn _ rfl hown ?_; intro w0 hrg0 hg0 hs0)
  | gi_in)
 go_frame
 gi_loopw [3] (fun _ wr => ∃ (left : Lit → Bool) (cnt : Nat) (xs : List Nm), Hid (wr.ranges Tryz.prog 32 R b W.heap.size nn D left cnt ∧ xs.length + cnt ≤ nn ∧ Gt D left xs ∧ (∀ x, wfN x → left (kLit x) = true → Maps.has D (kLit x) = true) ∧ J xs wr))
  (fun _ wr => wr.rangeLeft b W.heap.size)
 case atStart =>
  exact ⟨_, _, [], hrg0, by simpa using ranges_le hrg0, Gt.start D, fun x _ h => h, HJ.out [] W w0 none h0 hg0 (fun r e => by cases e)⟩
 case round =>
  obtain ⟨left, cnt, xs, HK⟩ := hrel
  have hrg := HK.out.1
  gi_wp2_with (first
   | (gi_at_next; refine wpListIn_next_ranges (α := Value) (β := Value) _ rfl _ rfl 32 keyed23 R (fun x => x) (fun x => x) (fun key _ _ => ⟨key, rfl⟩) (fun v _ _ => ⟨v, rfl⟩) b W.heap.size nn _ _ _ rfl hrg ?_ ?_)
   | gi_in)
  ·intro hc0 hl0
   have HE : Hid ((AllK D xs ∧ xs.length ≤ nn) ∧ J xs wr) := by
    obtain ⟨_, h2, h3, _, h5⟩ := HK.out
    refine ⟨⟨⟨h3.nd, fun x => ⟨fun hx => ⟨(h3.el x hx).1, (h3.el x hx).2.1⟩, fun hx => ?_⟩⟩, by omega⟩, h5⟩
    rcases h3.all x hx.1 hx.2 with h | h
    ·rw [hl0] at h; cases h
    ·exact h
   clear HK hrg
   gi_wp2
   go_end0
   exact ⟨⟨_, rfl⟩, .inl ⟨xs, HE.out.1, HE.out.2⟩⟩
  ·intro x c kl yd yp w2 cnt2 hkey hlk hv hat hrg2 hlt hg2 hs2 hen
   obtain ⟨k, hwk, hxk, hkl⟩ := key_inv hkey
   subst hxk hkl
   obtain ⟨k1, k2⟩ := k
   have hen' : (Instr.entry (.pointer (some ⟨W.heap.size, 0, none⟩))).run Tryz.prog w2 = .ok (.tuple #[.agg #[.int .i64 k1, .int .i64 k2], c]) w2 := hen
   have HS : Hid ((w2.alloc (.cells #[.int .i64 k1, .int .i64 k2] 32)).ranges Tryz.prog 32 R b W.heap.size nn D (fun z => left z && !z.sameKey (kLit (k1, k2))) cnt2 ∧ (xs ++ [(k1, k2)]).length + cnt2 ≤ nn ∧ Gt D (fun z => left z && !z.sameKey (kLit (k1, k2))) (xs ++ [(k1, k2)]) ∧ (∀ x, wfN x → (left (kLit x) && !(kLit x).sameKey (kLit (k1, k2))) = true → Maps.has D (kLit x) = true) ∧ J xs (w2.alloc (.cells #[.int .i64 k1, .int .i64 k2] 32)) ∧ cnt2 < cnt ∧ xs.length < nn ∧ wr.rangeLeft b W.heap.size = cnt) := by
    obtain ⟨q1, q2, q3, q4, q5⟩ := HK.out
    have hJ2 : J xs w2 := HJ.out xs wr w2 (some W.heap.size) q5 hg2 (fun r e => by cases e; exact ⟨Nat.le_refl _, q1.iter_walk⟩)
    refine ⟨hrg2.alloc _, by simp; omega, q3.step hwk hlk (q4 _ hwk hlk), fun x hx h => ?_, HJ.out xs w2 _ none hJ2 (World.grownBy_alloc w2 _ none) (fun r e => by cases e), hlt, by omega, q1.left_eq⟩
    simp only [Bool.and_eq_true] at h
    exact q4 x hx h.1
   obtain ⟨fn, tmps, assign, body, hy, hR⟩ := HY.out xs (k1, k2) (w2.alloc (.cells #[.int .i64 k1, .int .i64 k2] 32)) HS.out.2.2.2.2.1 HS.out.2.2.2.2.2.2.1
   dsimp only [encN] at hy
   clear hs2 hen hkey hlk hv hat hrg2 hlt hg2 hrg HK hwk
   gi_wp2
   refine hR.mono ?_
   rintro e W3 (⟨rfl, hJ3, hk3⟩ | ⟨rfl, hJx3⟩)
   ·have HN : Hid (W3.ranges Tryz.prog 32 R b W.heap.size nn D (fun z => left z && !z.sameKey (kLit (k1, k2))) cnt2 ∧ (xs ++ [(k1, k2)]).length + cnt2 ≤ nn ∧ Gt D (fun z => left z && !z.sameKey (kLit (k1, k2))) (xs ++ [(k1, k2)]) ∧ (∀ x, wfN x → (left (kLit x) && !(kLit x).sameKey (kLit (k1, k2))) = true → Maps.has D (kLit x) = true) ∧ J (xs ++ [(k1, k2)]) W3) := ⟨HS.out.1.of_walks hk3, HS.out.2.1, HS.out.2.2.1, HS.out.2.2.2.1, hJ3⟩
    clear hR hy hJ3 hk3
    gi_wp2
    go_roundw
    case rel => exact ⟨_, cnt2, xs ++ [(k1, k2)], HN⟩
    case measure => rw [HN.out.1.left_eq, HS.out.2.2.2.2.2.2.2]; exact HS.out.2.2.2.2.2.1
   ·gi_wp2
    refine bodyPost_ret (results_none rfl _ _ _) rfl ?_
    exact ⟨⟨_, rfl⟩, .inr ⟨_, trivial, hJx3⟩⟩
theorem keys_stops {H : Type} {R : Value → Option (DataW H × List MemPlace)} (n : Nat) (hn : 1 ≤ n) (Bm b nn : Nat) (D : DataW H) (w : World) (hBm : Bm < w.heap.size) (hm : w.cell? ⟨Bm, 0, none⟩ = some (.map (some b))) (hown : w.ownsMap Tryz.prog 32 R b nn D) :
  SeqStopsK Fence.wide n Tryz.prog 107 #[.pointer (some ⟨Bm, 0, none⟩)] encN KeepsWalks (fun ys => AllK D ys ∧ ys.length ≤ nn) (fun _ => True) nn w := by
 intro l J Jx W hW hJ _ hY h0
 have hown' : W.ownsMap Tryz.prog 32 R b nn D := by
  have hbl := hown.lt
  obtain ⟨es, clock, hb, Ft, hs, hD⟩ := hown
  exact ⟨es, clock, (hW.block b hbl).trans hb, Ft, hs, hD⟩
 exact keys_in n hn l Bm b nn D J Jx hY W hJ ((hW.cell (p := ⟨Bm, 0, none⟩) hBm).trans hm) hown' h0
end Go.Proofs.YtljggjllijacjaaGreatDoor

namespace Go.Proofs.YtljggjllijacjaaGreatDoor
open Go.RowKit Go.Shelf
attribute [local go_sem] Oper.semAt_some
theorem infoN : ∃ i, Tryz.prog.info? 32 = some i ∧ i.zero = some (.agg #[.int .i64 0, .int .i64 0]) ∧ i.size = 2 ∧ i.bytes = 16 := by
 have h : (Tryz.prog.info? 32).map (fun i => (i.zero, i.size, i.bytes)) = some (some (.agg #[.int .i64 0, .int .i64 0]), 2, 16) := by kernel_rfl
 cases hq : Tryz.prog.info? 32 with
 | none => rw [hq] at h; cases h
 | some i =>
  rw [hq] at h
  simp only [Option.map_some, Option.some.injEq, Prod.mk.injEq] at h
  exact ⟨i, rfl, h.1, h.2.1, h.2.2⟩
def encM (x : Nm) : List Value := [.int .i64 x.1, .int .i64 x.2]
theorem encM_len (x : Nm) : (encM x).length = 2 := rfl
theorem encM_one (x : Nm) : ∀ v ∈ encM x, v.oneCell' = true := fun v hv => by
 simp [encM] at hv
 rcases hv with rfl | rfl <;> rfl
theorem kept_cells {A B : World} {row : Option Nat} (hg : A.grownBy B row) (hr : ∀ r, row = some r → ∃ o : Obj, A.heap[r]? = some o ∧ o.isCells = false) {k : Nat} {cs : Array Value} {t : TypeId} {fr : Nat × Nat} (h : A.heap[k]? = some (.cells cs t fr)) : B.heap[k]? = some (.cells cs t fr) :=
 (hg.block k (Array.getElem?_eq_some_iff.1 h).1 (fun e => by
  obtain ⟨o, h1, h2⟩ := hr k e.symm
  rw [h] at h1; cases h1; cases h2)).trans h
theorem kept_row {A B : World} {row : Option Nat} (hg : A.grownBy B row) (hr : ∀ r, row = some r → ∃ o : Obj, A.heap[r]? = some o ∧ o.isCells = false) {n0 : Nat} {e : TypeId} {s n : Nat} {u : Value} {xs : List Value} (h : A.ownsRow n0 e s u n xs) : B.ownsRow n0 e s u n xs := by
 refine ⟨h.1, ?_⟩
 rcases h.2 with h1 | ⟨g, cap, cur, h1, h2, h3, h4⟩
 ·exact .inl h1
 ·exact .inr ⟨g, cap, cur, h1, h2, kept_cells hg hr h3, h4⟩
/-- Between two rounds: what has come lies in a row of the call's own. -/
def ApI (n0 : Nat) (pre : List Nm) (W : World) : Prop :=
 ∃ ua uc, Boxed W n0 95 (.slice ua pre.length uc) ∧ W.ownsRow n0 32 2 (.slice ua pre.length uc) pre.length (pre.flatMap encM)
theorem apI_own (n0 : Nat) : Own (ApI n0) := by
 rintro s A B row ⟨ua, uc, h1, h2⟩ hg hr
 exact ⟨ua, uc, kept_cells hg hr h1, kept_row hg hr h2⟩
/-- All keys of a map, each once, in a row of the call's own. -/
def ColTo {H : Type} (D : DataW H) (nn : Nat) (w : World) (u : Value) (w' : World) : Prop := ∃ ys, (AllK D ys ∧ ys.length ≤ nn) ∧ (∃ a c, u = .slice a ys.length c) ∧ w'.ownsRow w.heap.size 32 2 u ys.length (ys.flatMap encM) ∧ Below w.heap.size w w'
set_option maxRecDepth 100000 in
set_option maxHeartbeats 4000000 in
theorem y89 {H : Type} {R : Value → Option (DataW H × List MemPlace)} (Bm b nn : Nat) (D : DataW H) (w : World) (hBm : Bm < w.heap.size) (hm : w.cell? ⟨Bm, 0, none⟩ = some (.map (some b))) (hown : w.ownsMap Tryz.prog 32 R b nn D) (hnn : nn ≤ 4000000000000) :
  Calls Tryz.prog 115 #[.slice none 0 0, .func (.func 107) #[] #[.pointer (some ⟨Bm, 0, none⟩)]] w fun e w' => ∃ u, e = .returned u ∧ ColTo D nn w u w' := by
 refine (callsIn_wide (n := 6)).1 ?_
 obtain ⟨i0, hi, hz, hsz, hby⟩ := infoN
 refine callsIn_of_wp_marks Tryz.func115 rfl trivial ?_ rfl
 simp only [Tryz.ntmps115, List.size_toArray, List.length_cons, List.length_nil, Nat.reduceAdd, Nat.reduceSub, Array.replicate_succ, Array.replicate_zero, List.push_toArray, List.append_toArray, List.nil_append, List.cons_append]
 gi_wp2
 have hL0 : Below w.heap.size w (w.alloc (.cells #[.slice none 0 0] 95)) := (Below.refl _ w).alloc (Nat.le_refl _) _
 have bS := Boxed.new w 95 (.slice none 0 0)
 obtain ⟨W0, hW0⟩ : ∃ W0, w.alloc (.cells #[.slice none 0 0] 95) = W0 := ⟨_, rfl⟩
 have hs0 : W0.heap.size = w.heap.size + 1 := by rw [← hW0]; simp
 rw [hW0] at hL0 bS ⊢
 clear hW0
 have hown0 : W0.ownsMap Tryz.prog 32 R b nn D := by
  have hbl := hown.lt
  obtain ⟨es, clock, hb, Ft, hs, hD⟩ := hown
  exact ⟨es, clock, (hL0.block b hbl).trans hb, Ft, hs, hD⟩
 have HST := keys_stops 5 (by decide) Bm b nn D W0 (by omega) ((hL0.cell (p := ⟨Bm, 0, none⟩) hBm).trans hm) hown0
 obtain ⟨n0, hn0⟩ : ∃ n0, w.heap.size = n0 := ⟨_, rfl⟩
 rw [hn0] at hL0 bS hs0 ⊢
 clear hown hown0
 refine wpIn_rangeFunc_ownH rfl (by decide) (gf := 107) (lb := #[.pointer (some ⟨Bm, 0, none⟩)]) rfl trivial (enters_of Tryz.func107 (by kernel_rfl) rfl)
  HST walksK_t walksK_b (Below.refl _ _) (fun _ => rfl)
  (fun pre W => ApI n0 pre W ∧ Below n0 w W)
  (fun _ _ _ => False)
  (OwnFrom.and (Own.from (apI_own n0) _) (ownFrom_below (by omega) (by omega)))
  (fun _ _ _ _ _ hs _ _ => hs)
  ⟨⟨none, 0, bS, World.ownsRow_nil _ _ _ _⟩, hL0⟩
  (fun x a' W => ∃ Bx, n0 < Bx ∧ W.heap[Bx]? = some (.cells #[.int .i64 x.1, .int .i64 x.2] 32 (0, 0)) ∧ a' = { tmps := #[.slice none 0 0, .func (.func 107) #[] #[.pointer (some ⟨Bm, 0, none⟩)], .pointer (some ⟨n0, 0, none⟩), undef, .slice none 0 0, .pointer (some ⟨Bx, 0, none⟩), .func (.func 107) #[] #[.pointer (some ⟨Bm, 0, none⟩)], .agg #[.int .i64 x.1, .int .i64 x.2], undef, undef, undef, undef, undef], defers := [] })
  (fun x a' _ X Y row hs hg hr => by obtain ⟨Bx, h1, h2, h3⟩ := hs; exact ⟨Bx, h1, kept_cells hg (fun r e => (hr r e).2) h2, h3⟩)
  ?assign ?body ?done ?stop
 case assign =>
  rintro lp pre x W K ⟨⟨ua, uc, h1, h2⟩, hB1⟩ hK
  gi_wp2
  exact hK _ _ ((KeepsOthers.alloc _ _).from _) (KeepsOthers.alloc _ _).walks ⟨⟨ua, uc, h1.alloc _, h2.alloc _⟩, hB1.alloc (by have := hB1.size; omega) _⟩ ⟨W.heap.size, h1.lt, heap_alloc_new W _, rfl⟩
 case body =>
  rintro lp pre ⟨x1, x2⟩ a' W hlp ⟨r, hr⟩ ⟨⟨ua, uc, bU, rU⟩, hB1⟩ ⟨Bx, hBx, bX, rfl⟩ hlt
  have hszn : n0 ≤ W.heap.size := by have := bU.lt; omega
  have e0 : W.cell? ⟨Bx, 0, none⟩ = some (.int .i64 x1) := by rw [cell_of_row W Bx 0 _ 32 (0, 0) bX]; rfl
  have e1 : W.cell? ⟨Bx, 1, none⟩ = some (.int .i64 x2) := by rw [cell_of_row W Bx 1 _ 32 (0, 0) bX]; rfl
  have eU := bU.cell
  have HL : Hid (pre.length < nn) := hlt
  have HC : Hid (∀ j u, (encM (x1, x2))[j]? = some u → (W.alloc (.cells #[.int .i64 x1, .int .i64 x2] 32)).cell? ((⟨W.heap.size, 0, none⟩ : Addr).add j) = some u) := fun j u hu => by
   rw [Addr.add_mid, Nat.zero_add, cell_of_row _ W.heap.size j _ 32 (0, 0) (heap_alloc_new W _)]
   simpa [encM] using hu
  have HS2 : Hid (pre.length + 1 ≤ maxLen ∧ (pre.length + 1) * 16 ≤ 140737488355328 ∧ n0 ≤ (W.alloc (.cells #[.int .i64 x1, .int .i64 x2] 32)).heap.size) := by
   refine ⟨by unfold maxLen; omega, by omega, by simp; omega⟩
  have HG : Hid (∀ v' w2, w2.ownsRow n0 32 2 v' (pre.length + 1) (pre.flatMap encM ++ encM (x1, x2)) → (W.alloc (.cells #[.int .i64 x1, .int .i64 x2] 32)).grownBy w2 (Value.slice ua pre.length uc).ownBlock → ∃ g' cap', v' = .slice (some ⟨g', 0, none⟩) (pre.length + 1) cap' ∧ (w2.cell? ⟨n0, 0, none⟩ = some (.slice ua pre.length uc) ∧ w2.frozen? ⟨n0, 0, none⟩ = false) ∧ Boxed (w2.setCell ⟨n0, 0, none⟩ v') n0 95 v' ∧ (w2.setCell ⟨n0, 0, none⟩ v').ownsRow n0 32 2 v' (pre.length + 1) (pre.flatMap encM ++ encM (x1, x2)) ∧ KeepsOthers W (w2.setCell ⟨n0, 0, none⟩ v') ∧ Below n0 W (w2.setCell ⟨n0, 0, none⟩ v')) := fun v' w2 h1 h2 => by
   obtain ⟨g', cap', rfl⟩ := ownsRow_succ h1
   obtain ⟨hv1, hv2, hr2, hk2, hb2⟩ := bU.appended (by decide) rU hszn (Nat.le_refl _) h1 h2
   exact ⟨g', cap', rfl, ⟨hv1.cell, hv1.frozen⟩, hv2, hr2, hk2, hb2⟩
  gi_wp2_with (gi_at_builtin; refine wpListIn_append_own _ rfl _ _ 95 rfl n0 32 i0 (.agg #[.int .i64 0, .int .i64 0]) 2 16 Tryz.underlying95 hi hz hsz hby rfl (by decide) _ _ _ rfl (rU.alloc _) ⟨W.heap.size, 0, none⟩ 1 1 (encM (x1, x2)) rfl rfl HC.out (encM_one _) HS2.out.1 HS2.out.2.1 HS2.out.2.2 ?_; intro v' w2 hown' hgrow2 _; obtain ⟨g', cap', rfl, ⟨hc1, hf1⟩, hv2, hr2, hk2, hb2⟩ := HG.out v' w2 hown' hgrow2)
  refine ⟨hk2.from _, hk2.walks, ⟨some ⟨g', 0, none⟩, cap', ?_, ?_⟩, hB1.trans hb2⟩
  ·rw [List.length_append]; exact hv2
  ·rw [List.length_append, List.flatMap_append]; simpa using hr2
 case done =>
  rintro E zs W hE hzs ⟨⟨ua, uc, b1, r1⟩, hB1⟩ hK
  have e1 := b1.cell
  have hg := grownBy_putObj' W E (.deferred none)
  have hr : ∀ r, some E = some r → ∃ o : Obj, W.heap[r]? = some o ∧ o.isCells = false := fun r e => by cases e; exact ⟨_, hK, rfl⟩
  have HR : Hid ((W.putObj E (.deferred none)).ownsRow n0 32 2 (.slice ua zs.length uc) zs.length (zs.flatMap encM)) := kept_row hg hr r1
  have HBW : Hid (Below n0 w (W.putObj E (.deferred none))) := hB1.trans (belowK_b (w := W0) (by omega) W E _ _ hE hK rfl rfl)
  have HZ : Hid (AllK D zs ∧ zs.length ≤ nn) := hzs
  clear r1 hg hr hzs
  gi_wp2
  refine ⟨by simp, .inl ⟨_, _, rfl, run_takeDeferred hK, ?_⟩⟩
  refine ⟨.slice ua zs.length uc, ?_, _, rfl, zs, HZ.out, ⟨_, _, rfl⟩, ?_, ?_⟩
  ·simp [results, Tryz.f115, go_sem]
  ·rw [hn0]; exact HR.out
  ·rw [hn0]; exact HBW.out
 case stop =>
  rintro E c pre W hE hpre hF
  exact hF.elim
set_option maxRecDepth 100000 in
theorem y69 {H : Type} {R : Value → Option (DataW H × List MemPlace)} (Bm b nn : Nat) (D : DataW H) (w : World) (hBm : Bm < w.heap.size) (hm : w.cell? ⟨Bm, 0, none⟩ = some (.map (some b))) (hown : w.ownsMap Tryz.prog 32 R b nn D) (hnn : nn ≤ 4000000000000) :
  Calls Tryz.prog 105 #[.func (.func 107) #[] #[.pointer (some ⟨Bm, 0, none⟩)]] w fun e w' => ∃ u, e = .returned u ∧ ColTo D nn w u w' := by
 have H89 : Calls Tryz.prog 115 #[.slice none 0 0, .func (.func 107) #[] #[.pointer (some ⟨Bm, 0, none⟩)]] w fun e w' => ∃ u, e = .returned u ∧ Hid (ColTo D nn w u w') := y89 Bm b nn D w hBm hm hown hnn
 clear hBm hm hown hnn
 go_enter Tryz.func105, Tryz.ntmps105
 go_wp2_with fail
 refine H89.mono ?_
 rintro e w1 ⟨u, rfl, H1⟩
 go_wp2_with fail
 go_ret
 exact ⟨u, rfl, H1.out⟩
end Go.Proofs.YtljggjllijacjaaGreatDoor
