/- The iterator over a map's keys, where these are names: what it yields. -/
import Derived.Test.YtgcpkkeonameeaaGreatDoorV5
import Derived.RangeFuncNested
import Derived.RangeFuncBound
import Derived.RangeFuncCalls
import Derived.RangeFuncLeaves
import Derived.Shelf.Abstract
import Derived.Shelf.RegionOpen
import Derived.OwnWalkIn
import Derived.TacticsInMore
import Derived.LoopNIn
import Derived.LoopIn
import Derived.Sort.EveryDepth
import Derived.Sort.MapsRangeIn
import Derived.Maps.OwnIn
import Derived.Maps.Views
namespace Go.Proofs.YtgcpkkeonameeaaGreatDoor
open Go.RowKit Go.Shelf
attribute [local go_sem] Oper.semAt_some
set_option maxRecDepth 100000 in
theorem lits_int {d : Nat} {cs : List Value} {ls : List Lit} (h : Tryz.prog.keyLits (d + 1) 3 cs = some ls) : ∃ n, cs = [.int .i64 n] ∧ (Lit.int .i64 n).wf = true ∧ ls = [.int .i64 n] := by
  unfold Program.keyLits at h
  rw [Tryz.underlying3] at h
  match cs, h with
  | [.int q n], h =>
    simp only at h
    split at h
    · next hq =>
      obtain ⟨rfl, hw⟩ := hq
      simp only [Option.some.injEq] at h
      exact ⟨n, rfl, hw, h.symm⟩
    · cases h
set_option maxRecDepth 100000 in
theorem key_inv {key : Value} {kl : Lit} (h : keyOf Tryz.prog 24 key = some kl) : ∃ x : Nm, wfN x ∧ key = .agg #[.int .i64 x.1, .int .i64 x.2] ∧ kl = kLit x := by
  have hc : Tryz.prog.cellsOf 24 = 2 := by kernel_rfl
  have hc3 : Tryz.prog.cellsOf 3 = 1 := by kernel_rfl
  have hs : ∃ n, Tryz.prog.types.size = n + 2 := ⟨Tryz.prog.types.size - 2, by have : 1 < Tryz.prog.types.size := of_decide_eq_true (by kernel_rfl); omega⟩
  obtain ⟨n, hs⟩ := hs
  unfold keyOf at h
  rw [Tryz.underlying24] at h
  simp only at h
  split at h
  · next hf =>
    rw [Option.map_eq_some_iff] at h
    obtain ⟨ls, h1, h2⟩ := h
    simp only [Bool.and_eq_true] at hf
    have hform := hf.2
    match key, hform with
    | .agg cs, hform =>
      have hsz : cs.size = 2 := by
        simp [Value.formed, Tryz.underlying24, hc] at hform
        exact hform
      obtain ⟨l⟩ := cs
      match l, hsz with
      | [a, b], _ =>
        rw [hs] at h1
        replace h1 : Tryz.prog.keyLits (n + 2 + 1) 24 [a, b] = some ls := h1
        unfold Program.keyLits at h1
        rw [Tryz.underlying24] at h1
        replace h1 := (if_pos (show [a, b].length = Tryz.prog.cellsOf 24 ∧ _ from ⟨by rw [hc]; rfl, by kernel_rfl⟩)).symm.trans h1
        rw [Option.map_eq_some_iff] at h1
        obtain ⟨lls, h3, h4⟩ := h1
        simp only [List.mapM_cons, List.mapM_nil, hc3, List.drop_zero, List.drop_succ_cons, List.take_succ_cons, List.take_zero, Option.bind_eq_bind, Option.bind_eq_some_iff, Option.pure_def, Option.some.injEq] at h3
        obtain ⟨l1, h5, l2, ⟨l3, h6, l4, rfl, rfl⟩, rfl⟩ := h3
        obtain ⟨m1, e1, w1, rfl⟩ := lits_int h5
        obtain ⟨m2, e2, w2, rfl⟩ := lits_int h6
        simp only [List.cons.injEq, and_true] at e1 e2
        subst e1 e2
        refine ⟨(m1, m2), ⟨w1, w2⟩, rfl, ?_⟩
        rw [← h2, ← h4]
        rfl
  · cases h
/-- What has come, and what is left to come. -/
structure Gt {H : Type} (D : DataW H) (left : Lit → Bool) (xs : List Nm) : Prop where
  nd : xs.Nodup
  el : ∀ x ∈ xs, wfN x ∧ Maps.has D (kLit x) = true ∧ left (kLit x) = false
  all : ∀ x, wfN x → Maps.has D (kLit x) = true → left (kLit x) = true ∨ x ∈ xs
theorem Gt.start {H : Type} (D : DataW H) : Gt D (Maps.has D) [] := ⟨List.Pairwise.nil, (fun x hx => by cases hx), fun x _ h => .inl h⟩
theorem Gt.step {H : Type} {D : DataW H} {left : Lit → Bool} {xs : List Nm} (h : Gt D left xs) {k : Nm} (hk : wfN k) (hl : left (kLit k) = true) (hD : Maps.has D (kLit k) = true) : Gt D (fun z => left z && !z.sameKey (kLit k)) (xs ++ [k]) := by
  have hself : (kLit k).sameKey (kLit k) = true := WideAt.sameKey_self (keyed23.key (key23 k hk))
  refine ⟨?_, fun x hx => ?_, fun x hx hd => ?_⟩
  · rw [List.nodup_append]
    refine ⟨h.nd, by simp, fun x hx y hy => ?_⟩
    obtain rfl : y = k := by simpa using hy
    rintro rfl
    have := (h.el x hx).2.2
    rw [hl] at this
    cases this
  · rcases List.mem_append.1 hx with hx | hx
    · obtain ⟨h1, h2, h3⟩ := h.el x hx
      exact ⟨h1, h2, by simp [h3]⟩
    · obtain rfl : x = k := by simpa using hx
      exact ⟨hk, hD, by simp [hself]⟩
  · rcases h.all x hx hd with h1 | h1
    · by_cases e : x = k
      · subst e; exact .inr (by simp)
      · have : (kLit x).sameKey (kLit k) = false := Maps.sameKey_ne fun e2 => e (kLit_inj hx hk e2)
        exact .inl (by simp [h1, this])
    · exact .inr (List.mem_append_left _ h1)
/-- All keys, each once. -/
def AllK {H : Type} (D : DataW H) (xs : List Nm) : Prop := xs.Nodup ∧ ∀ x, x ∈ xs ↔ wfN x ∧ Maps.has D (kLit x) = true
abbrev encN (x : Nm) : Array Value := #[.agg #[.int .i64 x.1, .int .i64 x.2]]
theorem ranges_le {H : Type} {w : World} {P : Program} {k : TypeId} {R : Value → Option (DataW H × List MemPlace)} {b r n : Nat} {D : DataW H} {left : Lit → Bool} {cnt : Nat} (h : w.ranges P k R b r n D left cnt) : cnt ≤ n := by
  obtain ⟨es, clock, since, seen, c0, _, _, h3, _, _, _, h7, _⟩ := h
  rw [← h7]
  refine Nat.le_trans ?_ h3
  unfold leftOf
  simp
  try exact Array.size_filter_le
set_option maxRecDepth 100000 in
set_option maxHeartbeats 2000000 in
theorem keys_in {H : Type} {R : Value → Option (DataW H × List MemPlace)} (n : Nat) (hn : 1 ≤ n) (l Bm b nn : Nat) (D : DataW H) (J Jx : List Nm → World → Prop)
    (hY : ∀ pre x W, J pre W → pre.length < nn → YieldAt Fence.wide (n - 1) Tryz.prog l (encN x) W fun e W' =>
      (e = .returned (.bool true) ∧ J (pre ++ [x]) W' ∧ KeepsWalks W W') ∨ (e = .returned (.bool false) ∧ Jx (pre ++ [x]) W'))
    (W : World) (hJ : AbidesFrom W.heap.size J) (hm : W.cell? ⟨Bm, 0, none⟩ = some (.map (some b))) (hown : W.ownsMap Tryz.prog 24 R b nn D) (h0 : J [] W) :
    CallsIn Fence.wide n Tryz.prog 64 #[.func (.yield l) #[] #[], .pointer (some ⟨Bm, 0, none⟩)] W fun e W' => (∃ v, e = .returned v) ∧
      ((∃ ys, (AllK D ys ∧ ys.length ≤ nn) ∧ J ys W') ∨ (∃ pre : List Nm, True ∧ Jx pre W')) := by
  have HY : Hid (∀ pre x W, J pre W → pre.length < nn → YieldAt Fence.wide (n - 1) Tryz.prog l (encN x) W fun e W' =>
      (e = .returned (.bool true) ∧ J (pre ++ [x]) W' ∧ KeepsWalks W W') ∨ (e = .returned (.bool false) ∧ Jx (pre ++ [x]) W')) := hY
  have HJ : Hid (AbidesFrom W.heap.size J) := hJ
  clear hY hJ
  refine callsIn_of_wp Tryz.func64 rfl trivial ?_ rfl
  simp only [Tryz.ntmps64, List.size_toArray, List.length_cons, List.length_nil, Nat.reduceAdd, Nat.reduceSub, Array.replicate_succ, Array.replicate_zero, List.push_toArray, List.append_toArray, List.nil_append, List.cons_append]
  gi_wp2_with (first
    | (gi_at_range; refine wpListIn_range_own _ rfl _ 61 rfl 24 26 keyed23 Tryz.underlying61 _ b nn _ rfl hown ?_; intro w0 hrg0 hg0 hs0)
    | gi_in)
  go_frame
  gi_loopw [3] (fun _ wr => ∃ (left : Lit → Bool) (cnt : Nat) (xs : List Nm), Hid (wr.ranges Tryz.prog 24 R b W.heap.size nn D left cnt ∧ xs.length + cnt ≤ nn ∧ Gt D left xs ∧ (∀ x, wfN x → left (kLit x) = true → Maps.has D (kLit x) = true) ∧ J xs wr))
    (fun _ wr => wr.rangeLeft b W.heap.size)
  case atStart =>
    exact ⟨_, _, [], hrg0, by simpa using ranges_le hrg0, Gt.start D, fun x _ h => h, HJ.out [] W w0 none h0 hg0 (fun r e => by cases e)⟩
  case round =>
    obtain ⟨left, cnt, xs, HK⟩ := hrel
    have hrg := HK.out.1
    gi_wp2_with (first
      | (gi_at_next; refine wpListIn_next_ranges (α := Value) (β := Value) _ rfl _ rfl 24 keyed23 R (fun x => x) (fun x => x) (fun key _ _ => ⟨key, rfl⟩) (fun v _ _ => ⟨v, rfl⟩) b W.heap.size nn _ _ _ rfl hrg ?_ ?_)
      | gi_in)
    · intro hc0 hl0
      have HE : Hid ((AllK D xs ∧ xs.length ≤ nn) ∧ J xs wr) := by
        obtain ⟨_, h2, h3, _, h5⟩ := HK.out
        refine ⟨⟨⟨h3.nd, fun x => ⟨fun hx => ⟨(h3.el x hx).1, (h3.el x hx).2.1⟩, fun hx => ?_⟩⟩, by omega⟩, h5⟩
        rcases h3.all x hx.1 hx.2 with h | h
        · rw [hl0] at h; cases h
        · exact h
      clear HK hrg
      gi_wp2
      go_end0
      exact ⟨⟨_, rfl⟩, .inl ⟨xs, HE.out.1, HE.out.2⟩⟩
    · intro x c kl yd yp w2 cnt2 hkey hlk hv hat hrg2 hlt hg2 hs2 hen
      obtain ⟨k, hwk, hxk, hkl⟩ := key_inv hkey
      subst hxk hkl
      obtain ⟨k1, k2⟩ := k
      have hen' : (Instr.entry (.pointer (some ⟨W.heap.size, 0, none⟩))).run Tryz.prog w2 = .ok (.tuple #[.agg #[.int .i64 k1, .int .i64 k2], c]) w2 := hen
      have HS : Hid ((w2.alloc (.cells #[.int .i64 k1, .int .i64 k2] 24)).ranges Tryz.prog 24 R b W.heap.size nn D (fun z => left z && !z.sameKey (kLit (k1, k2))) cnt2 ∧ (xs ++ [(k1, k2)]).length + cnt2 ≤ nn ∧ Gt D (fun z => left z && !z.sameKey (kLit (k1, k2))) (xs ++ [(k1, k2)]) ∧ (∀ x, wfN x → (left (kLit x) && !(kLit x).sameKey (kLit (k1, k2))) = true → Maps.has D (kLit x) = true) ∧ J xs (w2.alloc (.cells #[.int .i64 k1, .int .i64 k2] 24)) ∧ cnt2 < cnt ∧ xs.length < nn ∧ wr.rangeLeft b W.heap.size = cnt) := by
        obtain ⟨q1, q2, q3, q4, q5⟩ := HK.out
        have hJ2 : J xs w2 := HJ.out xs wr w2 (some W.heap.size) q5 hg2 (fun r e => by cases e; exact ⟨Nat.le_refl _, q1.iter_walk⟩)
        refine ⟨hrg2.alloc _, by simp; omega, q3.step hwk hlk (q4 _ hwk hlk), fun x hx h => ?_, HJ.out xs w2 _ none hJ2 (World.grownBy_alloc w2 _ none) (fun r e => by cases e), hlt, by omega, q1.left_eq⟩
        simp only [Bool.and_eq_true] at h
        exact q4 x hx h.1
      obtain ⟨fn, tmps, assign, body, hy, hR⟩ := HY.out xs (k1, k2) (w2.alloc (.cells #[.int .i64 k1, .int .i64 k2] 24)) HS.out.2.2.2.2.1 HS.out.2.2.2.2.2.2.1
      dsimp only [encN] at hy
      clear hs2 hen hkey hlk hv hat hrg2 hlt hg2 hrg HK hwk
      gi_wp2
      refine hR.mono ?_
      rintro e W3 (⟨rfl, hJ3, hk3⟩ | ⟨rfl, hJx3⟩)
      · have HN : Hid (W3.ranges Tryz.prog 24 R b W.heap.size nn D (fun z => left z && !z.sameKey (kLit (k1, k2))) cnt2 ∧ (xs ++ [(k1, k2)]).length + cnt2 ≤ nn ∧ Gt D (fun z => left z && !z.sameKey (kLit (k1, k2))) (xs ++ [(k1, k2)]) ∧ (∀ x, wfN x → (left (kLit x) && !(kLit x).sameKey (kLit (k1, k2))) = true → Maps.has D (kLit x) = true) ∧ J (xs ++ [(k1, k2)]) W3) := ⟨HS.out.1.of_walks hk3, HS.out.2.1, HS.out.2.2.1, HS.out.2.2.2.1, hJ3⟩
        clear hR hy hJ3 hk3
        gi_wp2
        go_roundw
        case rel => exact ⟨_, cnt2, xs ++ [(k1, k2)], HN⟩
        case measure => rw [HN.out.1.left_eq, HS.out.2.2.2.2.2.2.2]; exact HS.out.2.2.2.2.2.1
      · gi_wp2
        refine bodyPost_ret (results_none rfl _ _ _) rfl ?_
        exact ⟨⟨_, rfl⟩, .inr ⟨_, trivial, hJx3⟩⟩
theorem keys_stops {H : Type} {R : Value → Option (DataW H × List MemPlace)} (n : Nat) (hn : 1 ≤ n) (Bm b nn : Nat) (D : DataW H) (w : World) (hBm : Bm < w.heap.size) (hm : w.cell? ⟨Bm, 0, none⟩ = some (.map (some b))) (hown : w.ownsMap Tryz.prog 24 R b nn D) :
    SeqStopsK Fence.wide n Tryz.prog 64 #[.pointer (some ⟨Bm, 0, none⟩)] encN KeepsWalks (fun ys => AllK D ys ∧ ys.length ≤ nn) (fun _ => True) nn w := by
  intro l J Jx W hW hJ _ hY h0
  have hown' : W.ownsMap Tryz.prog 24 R b nn D := by
    have hbl := hown.lt
    obtain ⟨es, clock, hb, Ft, hs, hD⟩ := hown
    exact ⟨es, clock, (hW.block b hbl).trans hb, Ft, hs, hD⟩
  exact keys_in n hn l Bm b nn D J Jx hY W hJ ((hW.cell (p := ⟨Bm, 0, none⟩) hBm).trans hm) hown' h0
end Go.Proofs.YtgcpkkeonameeaaGreatDoor
