/- The iterator over a map's keys, where these are names: what it yields. -/
import Derived.Test.YtdonclnjgopmbaaOA
import Derived.RangeFuncNested
import Derived.RangeFuncBound
import Derived.RangeFuncCalls
import Derived.RangeFuncLeaves
import Derived.Shelf.Abstract
import Derived.Shelf.RegionOpen
import Derived.OwnWalkIn
import Derived.TacticsInMore
import Derived.LoopNIn
import Derived.LoopIn
import Derived.Sort.EveryDepth
import Derived.Sort.MapsRangeIn
import Derived.Maps.OwnIn
import Derived.Maps.Views
import Derived.Test.YtdonclnjgopmbaaKY3
namespace Go.Proofs.Ytdonclnjgopmbaa.R
open Go.RowKit Go.Shelf
attribute [local go_sem] Oper.semAt_some
set_option maxRecDepth 100000 in
set_option maxHeartbeats 2000000 in
theorem keys_in {H : Type} {R : Value → Option (DataW H × List MemPlace)} (n : Nat) (hn : 1 ≤ n) (l Bm b nn : Nat) (D : DataW H) (J Jx : List Nm → World → Prop)
    (hY : ∀ pre x W, J pre W → pre.length < nn → YieldAt Fence.wide (n - 1) Try.prog l (encN x) W fun e W' =>
      (e = .returned (.bool true) ∧ J (pre ++ [x]) W' ∧ KeepsWalks W W') ∨ (e = .returned (.bool false) ∧ Jx (pre ++ [x]) W'))
    (W : World) (hJ : AbidesFrom W.heap.size J) (hm : W.cell? ⟨Bm, 0, none⟩ = some (.map (some b))) (hown : W.ownsMap Try.prog 28 R b nn D) (h0 : J [] W) :
    CallsIn Fence.wide n Try.prog 49 #[.func (.yield l) #[] #[], .pointer (some ⟨Bm, 0, none⟩)] W fun e W' => (∃ v, e = .returned v) ∧
      ((∃ ys, (AllK D ys ∧ ys.length ≤ nn) ∧ J ys W') ∨ (∃ pre : List Nm, True ∧ Jx pre W')) := by
  have HY : Hid (∀ pre x W, J pre W → pre.length < nn → YieldAt Fence.wide (n - 1) Try.prog l (encN x) W fun e W' =>
      (e = .returned (.bool true) ∧ J (pre ++ [x]) W' ∧ KeepsWalks W W') ∨ (e = .returned (.bool false) ∧ Jx (pre ++ [x]) W')) := hY
  have HJ : Hid (AbidesFrom W.heap.size J) := hJ
  clear hY hJ
  refine callsIn_of_wp Try.func49 rfl trivial ?_ rfl
  simp only [Try.ntmps49, List.size_toArray, List.length_cons, List.length_nil, Nat.reduceAdd, Nat.reduceSub, Array.replicate_succ, Array.replicate_zero, List.push_toArray, List.append_toArray, List.nil_append, List.cons_append]
  gi_wp2_with (first
    | (gi_at_range; refine wpListIn_range_own _ rfl _ 44 rfl 28 34 (Maps.Keyed.of_law law28) Try.underlying44 _ b nn _ rfl hown ?_; intro w0 hrg0 hg0 hs0)
    | gi_in)
  go_frame
  gi_loopw [3] (fun _ wr => ∃ (left : Lit → Bool) (cnt : Nat) (xs : List Nm), Hid (wr.ranges Try.prog 28 R b W.heap.size nn D left cnt ∧ xs.length + cnt ≤ nn ∧ Gt D left xs ∧ (∀ x, wfN x → left (kLit x) = true → Maps.has D (kLit x) = true) ∧ J xs wr))
    (fun _ wr => wr.rangeLeft b W.heap.size)
  case atStart =>
    exact ⟨_, _, [], hrg0, by simpa using ranges_le hrg0, Gt.start D, fun x _ h => h, HJ.out [] W w0 none h0 hg0 (fun r e => by cases e)⟩
  case round =>
    obtain ⟨left, cnt, xs, HK⟩ := hrel
    have hrg := HK.out.1
    gi_wp2_with (first
      | (gi_at_next; refine wpListIn_next_ranges (α := Value) (β := Value) _ rfl _ rfl 28 (Maps.Keyed.of_law law28) R (fun x => x) (fun x => x) (fun key _ _ => ⟨key, rfl⟩) (fun v _ _ => ⟨v, rfl⟩) b W.heap.size nn _ _ _ rfl hrg ?_ ?_)
      | gi_in)
    · intro hc0 hl0
      have HE : Hid ((AllK D xs ∧ xs.length ≤ nn) ∧ J xs wr) := by
        obtain ⟨_, h2, h3, _, h5⟩ := HK.out
        refine ⟨⟨⟨h3.nd, fun x => ⟨fun hx => ⟨(h3.el x hx).1, (h3.el x hx).2.1⟩, fun hx => ?_⟩⟩, by omega⟩, h5⟩
        rcases h3.all x hx.1 hx.2 with h | h
        · rw [hl0] at h; cases h
        · exact h
      clear HK hrg
      gi_wp2
      go_end0
      exact ⟨⟨_, rfl⟩, .inl ⟨xs, HE.out.1, HE.out.2⟩⟩
    · intro x c kl yd yp w2 cnt2 hkey hlk hv hat hrg2 hlt hg2 hs2 hen
      obtain ⟨k, hwk, hxk, hkl⟩ := key_inv hkey
      subst hxk hkl
      obtain ⟨k1, k2⟩ := k
      have hen' : (Instr.entry (.pointer (some ⟨W.heap.size, 0, none⟩))).run Try.prog w2 = .ok (.tuple #[.agg #[.int .i64 k1, .int .i64 k2], c]) w2 := hen
      have HS : Hid ((w2.alloc (.cells #[.int .i64 k1, .int .i64 k2] 28)).ranges Try.prog 28 R b W.heap.size nn D (fun z => left z && !z.sameKey (kLit (k1, k2))) cnt2 ∧ (xs ++ [(k1, k2)]).length + cnt2 ≤ nn ∧ Gt D (fun z => left z && !z.sameKey (kLit (k1, k2))) (xs ++ [(k1, k2)]) ∧ (∀ x, wfN x → (left (kLit x) && !(kLit x).sameKey (kLit (k1, k2))) = true → Maps.has D (kLit x) = true) ∧ J xs (w2.alloc (.cells #[.int .i64 k1, .int .i64 k2] 28)) ∧ cnt2 < cnt ∧ xs.length < nn ∧ wr.rangeLeft b W.heap.size = cnt) := by
        obtain ⟨q1, q2, q3, q4, q5⟩ := HK.out
        have hJ2 : J xs w2 := HJ.out xs wr w2 (some W.heap.size) q5 hg2 (fun r e => by cases e; exact ⟨Nat.le_refl _, q1.iter_walk⟩)
        refine ⟨hrg2.alloc _, by simp; omega, q3.step hwk hlk (q4 _ hwk hlk), fun x hx h => ?_, HJ.out xs w2 _ none hJ2 (World.grownBy_alloc w2 _ none) (fun r e => by cases e), hlt, by omega, q1.left_eq⟩
        simp only [Bool.and_eq_true] at h
        exact q4 x hx h.1
      obtain ⟨fn, tmps, assign, body, hy, hR⟩ := HY.out xs (k1, k2) (w2.alloc (.cells #[.int .i64 k1, .int .i64 k2] 28)) HS.out.2.2.2.2.1 HS.out.2.2.2.2.2.2.1
      dsimp only [encN] at hy
      clear hs2 hen hkey hlk hv hat hrg2 hlt hg2 hrg HK hwk
      gi_wp2
      refine hR.mono ?_
      rintro e W3 (⟨rfl, hJ3, hk3⟩ | ⟨rfl, hJx3⟩)
      · have HN : Hid (W3.ranges Try.prog 28 R b W.heap.size nn D (fun z => left z && !z.sameKey (kLit (k1, k2))) cnt2 ∧ (xs ++ [(k1, k2)]).length + cnt2 ≤ nn ∧ Gt D (fun z => left z && !z.sameKey (kLit (k1, k2))) (xs ++ [(k1, k2)]) ∧ (∀ x, wfN x → (left (kLit x) && !(kLit x).sameKey (kLit (k1, k2))) = true → Maps.has D (kLit x) = true) ∧ J (xs ++ [(k1, k2)]) W3) := ⟨HS.out.1.of_walks hk3, HS.out.2.1, HS.out.2.2.1, HS.out.2.2.2.1, hJ3⟩
        clear hR hy hJ3 hk3
        gi_wp2
        go_roundw
        case rel => exact ⟨_, cnt2, xs ++ [(k1, k2)], HN⟩
        case measure => rw [HN.out.1.left_eq, HS.out.2.2.2.2.2.2.2]; exact HS.out.2.2.2.2.2.1
      · gi_wp2
        refine bodyPost_ret (results_none rfl _ _ _) rfl ?_
        exact ⟨⟨_, rfl⟩, .inr ⟨_, trivial, hJx3⟩⟩
theorem keys_stops {H : Type} {R : Value → Option (DataW H × List MemPlace)} (n : Nat) (hn : 1 ≤ n) (Bm b nn : Nat) (D : DataW H) (w : World) (hBm : Bm < w.heap.size) (hm : w.cell? ⟨Bm, 0, none⟩ = some (.map (some b))) (hown : w.ownsMap Try.prog 28 R b nn D) :
    SeqStopsK Fence.wide n Try.prog 49 #[.pointer (some ⟨Bm, 0, none⟩)] encN KeepsWalks (fun ys => AllK D ys ∧ ys.length ≤ nn) (fun _ => True) nn w := by
  intro l J Jx W hW hJ _ hY h0
  have hown' : W.ownsMap Try.prog 28 R b nn D := by
    have hbl := hown.lt
    obtain ⟨es, clock, hb, Ft, hs, hD⟩ := hown
    exact ⟨es, clock, (hW.block b hbl).trans hb, Ft, hs, hD⟩
  exact keys_in n hn l Bm b nn D J Jx hY W hJ ((hW.cell (p := ⟨Bm, 0, none⟩) hBm).trans hm) hown' h0
end Go.Proofs.Ytdonclnjgopmbaa.R
