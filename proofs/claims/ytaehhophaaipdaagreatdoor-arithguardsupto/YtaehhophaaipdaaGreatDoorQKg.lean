/- Contracts of SameNames, of the document's rows of names and operators. Contract of the reference Args. Contract of the document's sum: a leaf, and what is no operator. -/
import Derived.Test.YtaehhophaaipdaaGreatDoorQDg
import Derived.Test.YtaehhophaaipdaaGreatDoorAR4g
import Derived.Test.YtaehhophaaipdaaGreatDoorQHg
import Derived.Test.YtaehhophaaipdaaGreatDoorQJg
import Derived.Test.YtaehhophaaipdaaGreatDoorQBg
import Derived.Test.YtaehhophaaipdaaGreatDoorQIg
namespace Go.Proofs.YtaehhophaaipdaaGreatDoor
open Go.RowKit
attribute [local go_sem ↓] Go.wp_at_zero Go.wp_at_succ
set_option maxHeartbeats 1000000 in
theorem c33_len (n m c1 c2 : Nat) (a1 a2 : Option Addr) (w : World) (h : ((n : Int) != (m : Int)) = true) :
  Calls Tryz.prog 12 #[.slice a1 n c1, .slice a2 m c2] w fun e w' => e = .returned (.bool false) ∧ Below w.heap.size w w' := by
 go_enter Tryz.func12, Tryz.ntmps12
 go_wp2_with fail
 go_ret
 exact ⟨rfl, Below.refl _ _⟩
set_option maxHeartbeats 1000000 in
theorem c33_nil (c1 c2 : Nat) (a1 a2 : Option Addr) (w : World) :
  Calls Tryz.prog 12 #[.slice a1 0 c1, .slice a2 0 c2] w fun e w' => e = .returned (.bool true) ∧ Below w.heap.size w w' := by
 go_enter Tryz.func12, Tryz.ntmps12
 go_wp2_with fail
 refine wp_loop_rounds 1 ?_
 rw [rounds_succ]
 go_wp2_with fail
 go_ret
 exact ⟨rfl, Below.refl _ _⟩
set_option maxHeartbeats 2000000 in
theorem c33_in (l m : List Nm) (b1 o1 c1 b2 o2 c2 : Nat) (w : World) (hr1 : w.rangeAt b1 o1 (flatN l)) (hr2 : w.rangeAt b2 o2 (flatN m)) (hl : l.length = m.length) (hc : l.length ≤ maxLen) (hb1 : b1 < w.heap.size) (hb2 : b2 < w.heap.size) :
  Calls Tryz.prog 12 #[.slice (some ⟨b1, o1, none⟩) l.length c1, .slice (some ⟨b2, o2, none⟩) l.length c2] w fun e w' => e = .returned (.bool (eqNs l m)) ∧ Below w.heap.size w w' := by
 unfold maxLen at hc
 have HR1 : Hid (w.rangeAt b1 o1 (flatN l)) := hr1
 have HR2 : Hid (w.rangeAt b2 o2 (flatN m)) := hr2
 have HL : Hid (l.length = m.length) := hl
 have hne : (((l.length : Nat) : Int) != (l.length : Int)) = false := by simp
 clear hr1 hr2 hl
 go_enter Tryz.func12, Tryz.ntmps12
 go_wp2_with fail
 go_loopw [5] (fun i wr => ∃ k : Nat, k ≤ l.length ∧ i = .int .i64 k ∧ Hid (eqNUpto l m k) ∧ Below w.heap.size w wr) (fun i _ => l.length - (intOf i).toNat)
 case atStart => exact ⟨0, by omega, rfl, fun j hj => by omega, Below.refl _ _⟩
 case round =>
  obtain ⟨k, hk, rfl, HU, hbr⟩ := hrel
  by_cases hlt : k < l.length
  ·have hlt' : (k : Int) < (l.length : Int) := by omega
   have hk0 : (0 : Int) ≤ (k : Int) := by omega
   have hlm : k < m.length := by rw [← HL.out]; exact hlt
   obtain ⟨p0, p1⟩ := name_cells (range_below HR1.out hb1 hbr) k hlt
   obtain ⟨q0, q1⟩ := name_cells (range_below HR2.out hb2 hbr) k hlm
   have hN := neq23 l[k].1 l[k].2 m[k].1 m[k].2
   have e1 : (l[k].1 == m[k].1 && l[k].2 == m[k].2) = eqN l[k] m[k] := rfl
   rw [e1] at hN
   clear e1
   cases hq : eqN l[k] m[k]
   ·have hF : Hid (eqNs l m = false) := eqNs_false k hlt hlm hq
    rw [hq] at hN
    clear hq
    go_wp2_with fail
    go_quiet (fail)
    go_wp2_with fail
    go_ret
    exact ⟨by rw [hF.out]; rfl, below_drewN hbr _⟩
   ·have hU : Hid (eqNUpto l m (k + 1)) := fun j hj h1 h2 => if e : j = k then by subst e; exact hq else HU.out j (by omega) h1 h2
    rw [hq] at hN
    clear hq
    go_wp2_with fail
    go_quiet (fail)
    go_wp2_with fail
    go_roundw
    case rel => exact ⟨k + 1, by omega, by go_num, hU, below_drewN hbr _⟩
    case measure => simp [intOf]; omega
  ·have hF : Hid (eqNs l m = true) := eqNs_true HL.out (by rw [show l.length = k by omega]; exact HU.out)
   have hlt' : ¬ ((k : Int) < (l.length : Int)) := by omega
   go_wp2_with fail
   go_ret
   exact ⟨by rw [hF.out]; rfl, hbr⟩
theorem c33 (l m : List Nm) (v u : Value) (w : World) (hv : NamesAt w v l) (hu : NamesAt w u m) :
  Calls Tryz.prog 12 #[v, u] w fun e w' => e = .returned (.bool (eqNs l m)) ∧ Below w.heap.size w w' := by
 by_cases hl : l.length = m.length
 ·by_cases h0 : l.length = 0
  ·obtain ⟨a1, c1, rfl⟩ := hv.form
   obtain ⟨a2, c2, rfl⟩ := hu.form
   have e1 : l = [] := List.eq_nil_of_length_eq_zero h0
   have e2 : m = [] := List.eq_nil_of_length_eq_zero (by omega)
   subst e1 e2
   exact c33_nil c1 c2 a1 a2 w
  ·obtain ⟨hc, hv⟩ := hv
   obtain ⟨_, hu⟩ := hu
   rcases hv with ⟨e, _⟩ | ⟨b1, o1, c1, rfl, hr1, hb1⟩
   ·rw [e] at h0; simp at h0
   rcases hu with ⟨e, _⟩ | ⟨b2, o2, c2, rfl, hr2, hb2⟩
   ·rw [hl, e] at h0; simp at h0
   rw [← hl]
   exact c33_in l m b1 o1 c1 b2 o2 c2 w hr1 hr2 hl hc hb1 hb2
 ·obtain ⟨a1, c1, rfl⟩ := hv.form
  obtain ⟨a2, c2, rfl⟩ := hu.form
  have e : eqNs l m = false := by
   unfold eqNs; rw [decide_eq_false_iff_not]; intro e; rw [e] at hl; exact hl rfl
  rw [e]
  exact c33_len _ _ c1 c2 a1 a2 w (by simp; omega)
theorem z70_0 (t : ByteArray) (n : Int) (w : World) (ht : t.toList = [43]) : Calls Tryz.prog 70 #[.string t, .int .i64 n] w fun e w' => e = .returned (.bool (n == 2)) ∧ w' = w := by
 have f0 : (t.toList == [43]) = true := by rw [ht]; decide
 have f1 : (t.toList == [45]) = false := by rw [ht]; decide
 have f2 : (t.toList == [42]) = false := by rw [ht]; decide
 have f3 : (t.toList == [100, 105, 118]) = false := by rw [ht]; decide
 have f4 : (t.toList == [109, 111, 100]) = false := by rw [ht]; decide
 have f5 : (t.toList == [109, 105, 110]) = false := by rw [ht]; decide
 have f6 : (t.toList == [109, 97, 120]) = false := by rw [ht]; decide
 have f7 : (t.toList == [97, 98, 115]) = false := by rw [ht]; decide
 clear ht
 go_enter Tryz.func70, Tryz.ntmps70
 go_wp2_with fail
 go_ret
 exact ⟨rfl, rfl⟩
theorem z70_1 (t : ByteArray) (n : Int) (w : World) (ht : t.toList = [45]) : Calls Tryz.prog 70 #[.string t, .int .i64 n] w fun e w' => e = .returned (.bool (n == 2)) ∧ w' = w := by
 have f0 : (t.toList == [43]) = false := by rw [ht]; decide
 have f1 : (t.toList == [45]) = true := by rw [ht]; decide
 have f2 : (t.toList == [42]) = false := by rw [ht]; decide
 have f3 : (t.toList == [100, 105, 118]) = false := by rw [ht]; decide
 have f4 : (t.toList == [109, 111, 100]) = false := by rw [ht]; decide
 have f5 : (t.toList == [109, 105, 110]) = false := by rw [ht]; decide
 have f6 : (t.toList == [109, 97, 120]) = false := by rw [ht]; decide
 have f7 : (t.toList == [97, 98, 115]) = false := by rw [ht]; decide
 clear ht
 go_enter Tryz.func70, Tryz.ntmps70
 go_wp2_with fail
 go_ret
 exact ⟨rfl, rfl⟩
theorem z70_2 (t : ByteArray) (n : Int) (w : World) (ht : t.toList = [42]) : Calls Tryz.prog 70 #[.string t, .int .i64 n] w fun e w' => e = .returned (.bool (n == 2)) ∧ w' = w := by
 have f0 : (t.toList == [43]) = false := by rw [ht]; decide
 have f1 : (t.toList == [45]) = false := by rw [ht]; decide
 have f2 : (t.toList == [42]) = true := by rw [ht]; decide
 have f3 : (t.toList == [100, 105, 118]) = false := by rw [ht]; decide
 have f4 : (t.toList == [109, 111, 100]) = false := by rw [ht]; decide
 have f5 : (t.toList == [109, 105, 110]) = false := by rw [ht]; decide
 have f6 : (t.toList == [109, 97, 120]) = false := by rw [ht]; decide
 have f7 : (t.toList == [97, 98, 115]) = false := by rw [ht]; decide
 clear ht
 go_enter Tryz.func70, Tryz.ntmps70
 go_wp2_with fail
 go_ret
 exact ⟨rfl, rfl⟩
theorem z70_3 (t : ByteArray) (n : Int) (w : World) (ht : t.toList = [100, 105, 118]) : Calls Tryz.prog 70 #[.string t, .int .i64 n] w fun e w' => e = .returned (.bool (n == 2)) ∧ w' = w := by
 have f0 : (t.toList == [43]) = false := by rw [ht]; decide
 have f1 : (t.toList == [45]) = false := by rw [ht]; decide
 have f2 : (t.toList == [42]) = false := by rw [ht]; decide
 have f3 : (t.toList == [100, 105, 118]) = true := by rw [ht]; decide
 have f4 : (t.toList == [109, 111, 100]) = false := by rw [ht]; decide
 have f5 : (t.toList == [109, 105, 110]) = false := by rw [ht]; decide
 have f6 : (t.toList == [109, 97, 120]) = false := by rw [ht]; decide
 have f7 : (t.toList == [97, 98, 115]) = false := by rw [ht]; decide
 clear ht
 go_enter Tryz.func70, Tryz.ntmps70
 go_wp2_with fail
 go_ret
 exact ⟨rfl, rfl⟩
theorem z70_4 (t : ByteArray) (n : Int) (w : World) (ht : t.toList = [109, 111, 100]) : Calls Tryz.prog 70 #[.string t, .int .i64 n] w fun e w' => e = .returned (.bool (n == 2)) ∧ w' = w := by
 have f0 : (t.toList == [43]) = false := by rw [ht]; decide
 have f1 : (t.toList == [45]) = false := by rw [ht]; decide
 have f2 : (t.toList == [42]) = false := by rw [ht]; decide
 have f3 : (t.toList == [100, 105, 118]) = false := by rw [ht]; decide
 have f4 : (t.toList == [109, 111, 100]) = true := by rw [ht]; decide
 have f5 : (t.toList == [109, 105, 110]) = false := by rw [ht]; decide
 have f6 : (t.toList == [109, 97, 120]) = false := by rw [ht]; decide
 have f7 : (t.toList == [97, 98, 115]) = false := by rw [ht]; decide
 clear ht
 go_enter Tryz.func70, Tryz.ntmps70
 go_wp2_with fail
 go_ret
 exact ⟨rfl, rfl⟩
theorem z70_5 (t : ByteArray) (n : Int) (w : World) (ht : t.toList = [109, 105, 110]) : Calls Tryz.prog 70 #[.string t, .int .i64 n] w fun e w' => e = .returned (.bool (n == 2)) ∧ w' = w := by
 have f0 : (t.toList == [43]) = false := by rw [ht]; decide
 have f1 : (t.toList == [45]) = false := by rw [ht]; decide
 have f2 : (t.toList == [42]) = false := by rw [ht]; decide
 have f3 : (t.toList == [100, 105, 118]) = false := by rw [ht]; decide
 have f4 : (t.toList == [109, 111, 100]) = false := by rw [ht]; decide
 have f5 : (t.toList == [109, 105, 110]) = true := by rw [ht]; decide
 have f6 : (t.toList == [109, 97, 120]) = false := by rw [ht]; decide
 have f7 : (t.toList == [97, 98, 115]) = false := by rw [ht]; decide
 clear ht
 go_enter Tryz.func70, Tryz.ntmps70
 go_wp2_with fail
 go_ret
 exact ⟨rfl, rfl⟩
theorem z70_6 (t : ByteArray) (n : Int) (w : World) (ht : t.toList = [109, 97, 120]) : Calls Tryz.prog 70 #[.string t, .int .i64 n] w fun e w' => e = .returned (.bool (n == 2)) ∧ w' = w := by
 have f0 : (t.toList == [43]) = false := by rw [ht]; decide
 have f1 : (t.toList == [45]) = false := by rw [ht]; decide
 have f2 : (t.toList == [42]) = false := by rw [ht]; decide
 have f3 : (t.toList == [100, 105, 118]) = false := by rw [ht]; decide
 have f4 : (t.toList == [109, 111, 100]) = false := by rw [ht]; decide
 have f5 : (t.toList == [109, 105, 110]) = false := by rw [ht]; decide
 have f6 : (t.toList == [109, 97, 120]) = true := by rw [ht]; decide
 have f7 : (t.toList == [97, 98, 115]) = false := by rw [ht]; decide
 clear ht
 go_enter Tryz.func70, Tryz.ntmps70
 go_wp2_with fail
 go_ret
 exact ⟨rfl, rfl⟩
theorem z70_7 (t : ByteArray) (n : Int) (w : World) (ht : t.toList = [97, 98, 115]) : Calls Tryz.prog 70 #[.string t, .int .i64 n] w fun e w' => e = .returned (.bool (n == 1)) ∧ w' = w := by
 have f0 : (t.toList == [43]) = false := by rw [ht]; decide
 have f1 : (t.toList == [45]) = false := by rw [ht]; decide
 have f2 : (t.toList == [42]) = false := by rw [ht]; decide
 have f3 : (t.toList == [100, 105, 118]) = false := by rw [ht]; decide
 have f4 : (t.toList == [109, 111, 100]) = false := by rw [ht]; decide
 have f5 : (t.toList == [109, 105, 110]) = false := by rw [ht]; decide
 have f6 : (t.toList == [109, 97, 120]) = false := by rw [ht]; decide
 have f7 : (t.toList == [97, 98, 115]) = true := by rw [ht]; decide
 clear ht
 go_enter Tryz.func70, Tryz.ntmps70
 go_wp2_with fail
 go_ret
 exact ⟨rfl, rfl⟩
theorem z70_o (t : ByteArray) (n : Int) (w : World) (hop : ∀ i, i < 8 → ((opT i).toList == t.toList) = false) : Calls Tryz.prog 70 #[.string t, .int .i64 n] w fun e w' => e = .returned (.bool false) ∧ w' = w := by
 have f0 : (t.toList == [43]) = false := by rw [BEq.comm, ← show (⟨#[43]⟩ : ByteArray).toList = [43] by kernel_rfl]; exact hop 0 (by omega)
 have f1 : (t.toList == [45]) = false := by rw [BEq.comm, ← show (⟨#[45]⟩ : ByteArray).toList = [45] by kernel_rfl]; exact hop 1 (by omega)
 have f2 : (t.toList == [42]) = false := by rw [BEq.comm, ← show (⟨#[42]⟩ : ByteArray).toList = [42] by kernel_rfl]; exact hop 2 (by omega)
 have f3 : (t.toList == [100, 105, 118]) = false := by rw [BEq.comm, ← show (⟨#[100, 105, 118]⟩ : ByteArray).toList = [100, 105, 118] by kernel_rfl]; exact hop 3 (by omega)
 have f4 : (t.toList == [109, 111, 100]) = false := by rw [BEq.comm, ← show (⟨#[109, 111, 100]⟩ : ByteArray).toList = [109, 111, 100] by kernel_rfl]; exact hop 4 (by omega)
 have f5 : (t.toList == [109, 105, 110]) = false := by rw [BEq.comm, ← show (⟨#[109, 105, 110]⟩ : ByteArray).toList = [109, 105, 110] by kernel_rfl]; exact hop 5 (by omega)
 have f6 : (t.toList == [109, 97, 120]) = false := by rw [BEq.comm, ← show (⟨#[109, 97, 120]⟩ : ByteArray).toList = [109, 97, 120] by kernel_rfl]; exact hop 6 (by omega)
 have f7 : (t.toList == [97, 98, 115]) = false := by rw [BEq.comm, ← show (⟨#[97, 98, 115]⟩ : ByteArray).toList = [97, 98, 115] by kernel_rfl]; exact hop 7 (by omega)
 clear hop
 go_enter Tryz.func70, Tryz.ntmps70
 go_wp2_with fail
 go_ret
 exact ⟨rfl, rfl⟩
theorem z70 (i : Nat) (hi : i < 8) (t : ByteArray) (n : Int) (w : World) (ht : t.toList = (opT i).toList) : Calls Tryz.prog 70 #[.string t, .int .i64 n] w fun e w' => e = .returned (.bool (n == opA i)) ∧ w' = w := by
 match i, hi with
 | 0, _ => exact z70_0 t n w (ht.trans (show (⟨#[43]⟩ : ByteArray).toList = [43] by kernel_rfl))
 | 1, _ => exact z70_1 t n w (ht.trans (show (⟨#[45]⟩ : ByteArray).toList = [45] by kernel_rfl))
 | 2, _ => exact z70_2 t n w (ht.trans (show (⟨#[42]⟩ : ByteArray).toList = [42] by kernel_rfl))
 | 3, _ => exact z70_3 t n w (ht.trans (show (⟨#[100, 105, 118]⟩ : ByteArray).toList = [100, 105, 118] by kernel_rfl))
 | 4, _ => exact z70_4 t n w (ht.trans (show (⟨#[109, 111, 100]⟩ : ByteArray).toList = [109, 111, 100] by kernel_rfl))
 | 5, _ => exact z70_5 t n w (ht.trans (show (⟨#[109, 105, 110]⟩ : ByteArray).toList = [109, 105, 110] by kernel_rfl))
 | 6, _ => exact z70_6 t n w (ht.trans (show (⟨#[109, 97, 120]⟩ : ByteArray).toList = [109, 97, 120] by kernel_rfl))
 | 7, _ => exact z70_7 t n w (ht.trans (show (⟨#[97, 98, 115]⟩ : ByteArray).toList = [97, 98, 115] by kernel_rfl))
theorem both_len : ∀ (b a : List Nm), (bothN a b).length ≤ a.length + b.length
 | [], a => Nat.le_refl _
 | x :: b, a => by
  have h := both_len b (addN a x)
  have h2 : (addN a x).length ≤ a.length + 1 := by unfold addN; split <;> simp
  show (bothN (addN a x) b).length ≤ _
  rw [List.length_cons]
  omega
theorem both_take (a b : List Nm) (k : Nat) (hk : k < b.length) : bothN a (b.take (k + 1)) = addN (bothN a (b.take k)) b[k] := by
 unfold bothN
 rw [List.take_succ_eq_append_getElem hk, List.foldl_append]
 rfl
set_option maxRecDepth 100000 in
set_option maxHeartbeats 4000000 in
theorem z40 (a b : List Nm) (va vb : Value) (w : World) (ha : NamesAt w va a) (hb : NamesAt w vb b) (hl : a.length + b.length ≤ 1000000000000) :
  Calls Tryz.prog 40 #[va, vb] w fun e w' => ∃ q c, e = .returned (.slice q (bothN a b).length c) ∧ Hid (OwnN w' w.heap.size (.slice q (bothN a b).length c) (bothN a b) ∧ Below w.heap.size w w') := by
 obtain ⟨i0, hi, hz, hs, hby⟩ := info23
 obtain ⟨aa, ac, hva⟩ := ha.form
 obtain ⟨ba, bc, hvb⟩ := hb.form
 subst hva hvb
 have HA : Hid (NamesAt w (.slice aa a.length ac) a) := ha
 have HB : Hid (NamesAt w (.slice ba b.length bc) b) := hb
 clear ha hb
 have HO : Hid ((w.alloc (.cells #[] 60)).ownsRow w.heap.size 60 2 (.slice (some ⟨w.heap.size, 0, none⟩) 0 0) 0 []) := ⟨rfl, .inr ⟨w.heap.size, 0, #[], rfl, Nat.le_refl _, heap_alloc_new w _, Nat.le_refl _, by simp, rfl, rfl⟩⟩
 have HW : Hid (Below w.heap.size w (w.alloc (.cells #[] 60))) := below_alloc _ _
 have HN : Hid (a.length = 0 ∨ ∃ ad, aa = some ad ∧ ∀ j u, (flatN a)[j]? = some u → (w.alloc (.cells #[] 60)).cell? (ad.add j) = some u) := by
  rcases (HA.out.below HW.out).2 with ⟨e, _⟩ | ⟨b', o', c', e, h3, _⟩
  ·exact .inl (by rw [e]; rfl)
  ·simp only [Value.slice.injEq] at e
   exact .inr ⟨_, e.1, fun j u hu => by rw [Addr.add_mid]; exact h3 j u hu⟩
 have hfl : (flatN a).length = a.length * 2 := flatN_length a
 have hf1 : ∀ u ∈ flatN a, u.oneCell' = true := flatN_one a
 go_enter Tryz.func40, Tryz.ntmps40
 go_wp2_with (at_builtin; refine wpList_append_any _ rfl _ _ 31 rfl w.heap.size 60 i0 (.agg #[.int .i64 0, .int .i64 0]) 2 16 Tryz.underlying31 hi hz hs hby rfl (by decide) _ _ _ rfl HO.out aa a.length ac (flatN a) rfl hfl HN.out hf1 (by unfold maxLen; omega) (by omega) (by simp) ?_)
 intro qa qc w1 hown hgr
 have H1 : Hid (OwnN w1 w.heap.size (.slice qa a.length qc) a ∧ Below w.heap.size w w1) := by
  refine ⟨hown, HW.out.grown hgr (by simp) (fun g hg => (HO.out.lt g hg).1)⟩
 clear hown hgr HO HW HN hfl hf1
 go_wp2_with fail
 go_loopw [5, 6] (fun out iv wr => ∃ (k : Nat) (q : Option Addr) (c : Nat), k ≤ b.length ∧ iv = .int .i64 k ∧ out = .slice q (bothN a (b.take k)).length c ∧ Hid (OwnN wr w.heap.size (.slice q (bothN a (b.take k)).length c) (bothN a (b.take k)) ∧ Below w.heap.size w wr)) (fun _ iv _ => b.length - (intOf iv).toNat)
 case atStart => exact ⟨0, qa, qc, Nat.zero_le _, rfl, rfl, H1⟩
 case round =>
  clear H1
  obtain ⟨k, q, c, hk, rfl, rfl, HK⟩ := hrel
  by_cases hlt : k < b.length
  ·have g1 : (k : Int) < (b.length : Int) := by omega
   have g0 : (0 : Int) ≤ (k : Int) := by omega
   have HT : Hid (bothN a (b.take (k + 1)) = addN (bothN a (b.take k)) b[k]) := both_take a b k hlt
   have hA : (bothN a (b.take k)).length ≤ a.length + b.length := Nat.le_trans (both_len _ _) (by rw [List.length_take]; omega)
   obtain ⟨bb, oo, hba, HC⟩ : ∃ bb oo, ba = some ⟨bb, oo, none⟩ ∧ Hid (∀ W, Below w.heap.size w W → W.cell? ⟨bb, oo + k * 2, none⟩ = some (.int .i64 b[k].1) ∧ W.cell? ⟨bb, oo + k * 2 + 1, none⟩ = some (.int .i64 b[k].2)) := by
    rcases HB.out.2 with ⟨e, _⟩ | ⟨b', o', c', e, h3, h4⟩
    ·rw [e] at hlt; simp at hlt
    ·simp only [Value.slice.injEq] at e
     exact ⟨b', o', e.1, fun W hW => name_cells (range_below h3 h4 hW) k hlt⟩
   subst hba
   have hown := HK.out.1
   have hbel := HK.out.2
   obtain ⟨p0, p1⟩ := HC.out wr hbel
   have H43 := c43 (bothN a (b.take k)) _ b[k] wr (namesAt_of_owns hown (by unfold maxLen; omega))
   generalize bothN a (b.take k) = A at *
   generalize b[k] = x at *
   obtain ⟨x1, x2⟩ := x
   dsimp only at p0 p1 H43
   clear hown hbel
   cases hh : hasN A (x1, x2)
   ·have HE : Hid (bothN a (b.take (k + 1)) = A ++ [(x1, x2)]) := by show bothN a (b.take (k + 1)) = _; rw [HT.out]; unfold addN; rw [hh]; rfl
    rw [hh] at H43
    clear hh
    go_wp2_with fail
    refine H43.mono ?_
    rintro e w2 ⟨rfl, hb2⟩
    clear H43
    have HB2 : Hid (OwnN w2 w.heap.size (.slice q A.length c) A ∧ Below w.heap.size w w2) := ⟨owns_below HK.out.1 hb2, HK.out.2.trans (hb2.mono HK.out.2.size)⟩
    clear hb2
    obtain ⟨r0, r1⟩ := HC.out w2 HB2.out.2
    have hnews : Hid (∀ j' u, (flatN [(x1, x2)])[j']? = some u → (w2.alloc (.cells #[.int .i64 x1, .int .i64 x2] 60)).cell? ((⟨w2.heap.size, 0, none⟩ : Addr).add j') = some u) := newsN_new w2 (x1, x2)
    have hlen : Hid ((flatN [(x1, x2)]).length = 1 * 2) := rfl
    have HB3 : Hid (Below w.heap.size w (w2.alloc (.cells #[.int .i64 x1, .int .i64 x2] 60)) ∧ OwnN (w2.alloc (.cells #[.int .i64 x1, .int .i64 x2] 60)) w.heap.size (.slice q A.length c) A) := ⟨HB2.out.2.trans ((below_alloc _ _).mono HB2.out.2.size), HB2.out.1.alloc _⟩
    go_wp2_with (at_builtin; refine wpList_append_own _ rfl _ _ 31 rfl w.heap.size 60 i0 (.agg #[.int .i64 0, .int .i64 0]) 2 16 Tryz.underlying31 hi hz hs hby rfl (by decide) _ _ _ rfl HB3.out.2 ⟨w2.heap.size, 0, none⟩ 1 1 (flatN [(x1, x2)]) rfl hlen.out hnews.out (flatN_one _) (by unfold maxLen; omega) (by omega) HB3.out.1.size ?_)
    intro v' w3 hown' hgrow _
    obtain ⟨q', c', rfl, HF⟩ : ∃ q' c', v' = .slice q' (A.length + 1) c' ∧ Hid (OwnN w3 w.heap.size (.slice q' (A.length + 1) c') (A ++ [(x1, x2)]) ∧ Below w.heap.size w w3) := by
     obtain ⟨q', c', e, _⟩ := own_sl hown'
     subst e
     refine ⟨q', c', rfl, ?_, HB3.out.1.grown hgrow HB3.out.1.size (fun g hg => (HB3.out.2.lt g hg).1)⟩
     show w3.ownsRow w.heap.size 60 2 _ _ _
     rw [flatN_append, List.length_append]
     exact hown'
    clear hown' hgrow HB3 HB2
    go_wp2_with fail
    go_roundw
    case rel =>
     refine ⟨k + 1, q', c', by omega, by go_num, ?_, ?_⟩
     ·rw [HE.out]; simp
     ·rw [HE.out, List.length_append]; exact HF
    case measure => simp [intOf]; omega
   ·have HE : Hid (bothN a (b.take (k + 1)) = A) := by show bothN a (b.take (k + 1)) = _; rw [HT.out]; unfold addN; rw [hh]; rfl
    rw [hh] at H43
    clear hh
    go_wp2_with fail
    refine H43.mono ?_
    rintro e w2 ⟨rfl, hb2⟩
    clear H43
    have HB2 : Hid (OwnN w2 w.heap.size (.slice q A.length c) A ∧ Below w.heap.size w w2) := ⟨owns_below HK.out.1 hb2, HK.out.2.trans (hb2.mono HK.out.2.size)⟩
    clear hb2
    go_wp2_with fail
    go_roundw
    case rel =>
     refine ⟨k + 1, q, c, by omega, by go_num, ?_, ?_⟩
     ·rw [HE.out]
     ·rw [HE.out]; exact HB2
    case measure => simp [intOf]; omega
  ·have g1 : ¬ (k : Int) < (b.length : Int) := by omega
   have HE : Hid (bothN a (b.take k) = bothN a b) := by show _ = _; rw [List.take_of_length_le (by omega)]
   rw [HE.out] at HK
   rw [HE.out]
   go_wp2_with fail
   go_ret
   exact ⟨q, c, rfl, HK⟩
end Go.Proofs.YtaehhophaaipdaaGreatDoor

namespace Go.Proofs.YtaehhophaaipdaaGreatDoor
open Go.RowKit
set_option maxRecDepth 100000 in
set_option maxHeartbeats 2000000 in
theorem c27_no (l : List C) (v : Value) (w : World) (hT : TermAt w v l) (hno : rightB l = false) :
  Calls Tryz.prog 42 #[v] w fun e w' => e = .returned (.slice none 0 0) ∧ Below w.heap.size w w' := by
 have HT : Hid (TermAt w v l) := hT
 obtain ⟨ad, cap, hf⟩ := hT.form
 subst hf
 clear hT
 have HC := c23 l _ w HT.out
 rw [hno] at HC
 have HC : Hid (Calls Tryz.prog 35 #[.slice ad l.length cap] w fun e w' => e = .returned (.bool false) ∧ Below w.heap.size w w') := HC
 clear hno
 go_enter Tryz.func42, Tryz.ntmps42
 go_wp2_with fail
 refine HC.out.mono ?_
 rintro e w' ⟨rfl, hb⟩
 go_wp2_with fail
 go_ret
 exact ⟨rfl, hb⟩
set_option maxRecDepth 100000 in
set_option maxHeartbeats 2000000 in
theorem c27_kind (l : List C) (b o cap : Nat) (w : World) (hT : TermAt w (.slice (some ⟨b, o, none⟩) l.length cap) l) (hr : w.rangeAt b o (flat l)) (hb : b < w.heap.size) (h1 : 0 < l.length) (hyes : rightB l = true) (hk : (l[0].k != 3) = true) :
  Calls Tryz.prog 42 #[.slice (some ⟨b, o, none⟩) l.length cap] w fun e w' => e = .returned (.slice none 0 0) ∧ Below w.heap.size w w' := by
 have HT : Hid (TermAt w (.slice (some ⟨b, o, none⟩) l.length cap) l) := hT
 have HC := c23 l _ w HT.out
 rw [hyes] at HC
 have HC : Hid (Calls Tryz.prog 35 #[.slice (some ⟨b, o, none⟩) l.length cap] w fun e w' => e = .returned (.bool true) ∧ Below w.heap.size w w') := HC
 have HR : Hid (w.rangeAt b o (flat l)) := hr
 have h1' : (0 : Int) < (l.length : Int) := by omega
 clear hyes hr hT
 go_enter Tryz.func42, Tryz.ntmps42
 go_wp2_with fail
 refine HC.out.mono ?_
 rintro e w' ⟨rfl, hbb⟩
 obtain ⟨p0, p1, p2, p3, p4⟩ := term_cells (range_below HR.out hb hbb) 0 h1
 simp only [Nat.zero_mul, Nat.add_zero] at p0 p1 p2 p3 p4
 go_wp2_with fail
 go_ret
 exact ⟨rfl, hbb⟩
set_option maxRecDepth 100000 in
set_option maxHeartbeats 4000000 in
theorem c27_in (l : List C) (b o cap : Nat) (w : World) (hT : TermAt w (.slice (some ⟨b, o, none⟩) l.length cap) l) (hr : w.rangeAt b o (flat l)) (hb : b < w.heap.size) (hcap : l.length ≤ cap) (hcm : cap ≤ maxLen) (h1 : 0 < l.length) (hyes : rightB l = true) (hk : l[0].k = 3) :
  Calls Tryz.prog 42 #[.slice (some ⟨b, o, none⟩) l.length cap] w fun e w' => ∃ u, e = .returned u ∧ RowAt w' u (argsL l) ∧ Below w.heap.size w w' := by
 obtain ⟨i0, hi, hz0, hs0, hby⟩ := info29
 have HT : Hid (TermAt w (.slice (some ⟨b, o, none⟩) l.length cap) l) := hT
 have HC := c23 l _ w HT.out
 rw [hyes] at HC
 have HC : Hid (Calls Tryz.prog 35 #[.slice (some ⟨b, o, none⟩) l.length cap] w fun e w' => e = .returned (.bool true) ∧ Below w.heap.size w w') := HC
 have HR : Hid (w.rangeAt b o (flat l)) := hr
 have hcm' : cap ≤ 2 ^ 63 - 1 := hcm
 have h256 := (right_len hyes).2
 have h1' : (0 : Int) < (l.length : Int) := by omega
 have hcap' : (l.length : Int) ≤ (cap : Int) := by omega
 have hkb : (l[0].k != 3) = false := by simp [hk]
 obtain ⟨hn1, hn8⟩ := head_n hyes h1 hk
 have hnn : Hid (l[0].n = (l[0].n.toNat : Int)) := by
  show l[0].n = (l[0].n.toNat : Int)
  omega
 have HE1 : Hid (eat (l.drop 1) (argsOf l[0].k l[0].n).toNat = some (l.drop 1).length) := head_eat hyes h1
 have HA1 : Hid ([] ++ cutF l.length (l.drop 1) = argsL l) := by
  show [] ++ cutF l.length (l.drop 1) = argsL l
  unfold argsL
  rw [hyes, headK_get h1, hk]
  simp
 have HX : Hid (∀ c ∈ l, c.t.size ≤ maxLen) := hT.1.2
 clear hyes hr hT hk hcm
 go_enter Tryz.func42, Tryz.ntmps42
 go_wp2_with fail
 refine HC.out.mono ?_
 rintro e w' ⟨rfl, hbb⟩
 obtain ⟨p0, p1, p2, p3, p4⟩ := term_cells (range_below HR.out hb hbb) 0 h1
 simp only [Nat.zero_mul, Nat.add_zero] at p0 p1 p2 p3 p4
 go_wp2_with fail
 go_loopw [3, 4] (fun out i wr => ∃ (k q : Nat) (us : List Value) (done : List (List C)), 1 ≤ k ∧ k ≤ l.length ∧ i = .int .i64 k ∧ Hid (wr.ownsRow w.heap.size 24 1 out done.length us ∧ (∀ (j : Nat) (u : Value) (x : List C), us[j]? = some u → done[j]? = some x → OwnT wr w.heap.size u x) ∧ eat (l.drop k) q = some (l.drop k).length ∧ done ++ cutF l.length (l.drop k) = argsL l) ∧ Below w.heap.size w wr) (fun _ i _ => l.length - (intOf i).toNat)
 case atStart => exact ⟨1, (argsOf l[0].k l[0].n).toNat, [], [], by omega, by omega, rfl, ⟨World.ownsRow_nil _ _ _ _, fun j u x hu => by simp at hu, HE1.out, HA1.out⟩, hbb⟩
 case round =>
  obtain ⟨k, q, us, done, hk1, hk, rfl, HO, hbr⟩ := hrel
  have hsz := hbr.size
  by_cases hlt : k < l.length
  ·have hlt' : (k : Int) < (l.length : Int) := by omega
   obtain ⟨m, q', hq, e1, hm1, hm2, e2, e3⟩ := cut_step (l.length - 1) (l.drop k) q (by simp; omega) HO.out.2.2.1
   rw [show l.length - 1 + 1 = l.length by omega] at e3
   have hml : k + m ≤ l.length := by simp at hm2; omega
   have hes : endS l (k : Int) = ((k + m : Nat) : Int) := by
    rw [endS_eat l k hlt, e1]; simp
   have hfu : cutF (l.length - 1) ((l.drop k).drop m) = cutF l.length (l.drop (k + m)) := by
    rw [List.drop_drop, cut_fuel (l.length - 1) l.length _ (by simp; omega) (by simp)]
   have hseg : ((l.drop k).take m).length = m := by rw [List.length_take, List.length_drop]; omega
   have HN1 : Hid (eat (l.drop (k + m)) q' = some (l.drop (k + m)).length) := by
    show eat (l.drop (k + m)) q' = some (l.drop (k + m)).length
    rw [← List.drop_drop]; exact e2
   have HN2 : Hid ((done ++ [(l.drop k).take m]) ++ cutF l.length (l.drop (k + m)) = argsL l) := by
    show (done ++ [(l.drop k).take m]) ++ cutF l.length (l.drop (k + m)) = argsL l
    rw [← HO.out.2.2.2, e3, hfu, List.append_assoc]; rfl
   have HCE : Hid (Calls Tryz.prog 69 #[.slice (some ⟨b, o, none⟩) l.length cap, .int .i64 (k : Int)] wr fun e w' => e = .returned (.int .i64 (((k + m : Nat) : Int))) ∧ Below wr.heap.size wr w') := by
    have h := c25 l _ (k : Int) wr (HT.out.below hbr) (by omega)
    rw [hes] at h; exact h.mono fun e w' ⟨h1, h2⟩ => ⟨h1, by rw [h2]; exact Below.refl _ _⟩
   have HCL : Hid (∀ w' : World, Below w.heap.size w w' → Calls Tryz.prog 78 #[.slice (some ⟨b, o + k * 5, none⟩) m (cap - k)] w' fun e w'' => ∃ u, e = .returned u ∧ OwnT w'' w'.heap.size u ((l.drop k).take m) ∧ Below w'.heap.size w' w'') := fun w' hb' => by
    have h := c52_in ((l.drop k).take m) b (o + k * 5) (cap - k) w' (range_sub (range_below HR.out hb hb') k m) (by rw [hseg]; omega)
    rw [hseg] at h; exact h
   have hml' : ((k + m : Nat) : Int) ≤ (cap : Int) := by omega
   have hkm' : (k : Int) ≤ ((k + m : Nat) : Int) := by omega
   clear e1 e2 e3 hfu hes hm2 hq
   generalize hkmg : k + m = km at *
   have Hkm : Hid (k + m = km) := hkmg
   have hmk : Hid (km - k = m) := by
    show km - k = m
    omega
   clear hkmg
   go_wp2_with fail
   refine HCE.out.mono ?_
   rintro e w2 ⟨rfl, hb2⟩
   have hbw2 : Hid (Below w.heap.size w w2) := hbr.trans (hb2.mono hsz)
   go_wp2_with fail
   rw [hmk.out]
   refine (HCL.out _ hbw2.out).mono ?_
   rintro e w3 ⟨u, rfl, hO1, hb3⟩
   have hz2 := hb2.size
   have hz3 := hb3.size
   have hou : Hid (∃ (ad : Option Addr) (n c : Nat), u = .slice ad n c) := by
    rcases hO1.2 with ⟨h, _⟩ | ⟨g, c, cur, h, _⟩
    ·exact ⟨none, 0, 0, h⟩
    ·exact ⟨_, _, _, h⟩
   have HO1 : Hid (OwnT w3 w.heap.size u ((l.drop k).take m)) := ⟨hO1.1, by
    rcases hO1.2 with h | ⟨g, c, cur, h1, h2, h3⟩
    ·exact Or.inl h
    ·exact Or.inr ⟨g, c, cur, h1, by omega, h3⟩⟩
   obtain ⟨ad, un, uc, hu⟩ := hou.out
   have hbw3 : Hid (Below w.heap.size w w3) := hbw2.out.trans (hb3.mono (by omega))
   have hb23 : Hid (Below wr.heap.size wr w3) := hb2.trans (hb3.mono hz2)
   clear hO1
   subst hu
   have hown1 : Hid ((w3.alloc (.cells #[.slice ad un uc] 24)).ownsRow w.heap.size 24 1 u3 done.length us) := by
    have h1 := HO.out.1
    refine World.ownsRow.alloc (w := w3) ?_ _
    refine ⟨h1.1, ?_⟩
    rcases h1.2 with h | ⟨g, c, cur, e1, e2, e3, e4⟩
    ·exact Or.inl h
    ·exact Or.inr ⟨g, c, cur, e1, e2, (hb23.out.block g (Array.getElem?_eq_some_iff.1 e3).1).trans e3, e4⟩
   have HOs : Hid (∀ (j : Nat) (u : Value) (x : List C), us[j]? = some u → done[j]? = some x → OwnT (w3.alloc (.cells #[.slice ad un uc] 24)) w.heap.size u x) := fun j u x h1 h2 => ownT_below (ownT_below (HO.out.2.1 j u x h1 h2) hb23.out) (below_alloc _ _)
   have HO2 : Hid (OwnT (w3.alloc (.cells #[.slice ad un uc] 24)) w.heap.size (.slice ad un uc) ((l.drop k).take m)) := ownT_below HO1.out (below_alloc _ _)
   have hnew : Hid (∀ j u, [(.slice ad un uc : Value)][j]? = some u → (w3.alloc (.cells #[.slice ad un uc] 24)).cell? ((⟨w3.heap.size, 0, none⟩ : Addr).add j) = some u) := fun j u hu => by
    rw [Addr.add_mid]; exact range_new w3 [.slice ad un uc] 24 j u hu
   have hbw4 : Hid (Below w.heap.size w (w3.alloc (.cells #[.slice ad un uc] 24))) := hbw3.out.alloc (by omega) _
   have hdl : done.length ≤ 256 := by
    have h := HO.out.2.2.2
    have h2 := argsL_len l
    rw [← h, List.length_append] at h2
    omega
   have hk63 : Hid (done.length + 1 ≤ maxLen) := by
    show done.length + 1 ≤ maxLen
    unfold maxLen; omega
   go_wp2_with (at_builtin; refine wpList_append_own _ rfl _ _ 39 rfl w.heap.size 24 i0 (.slice none 0 0) 1 24 Tryz.underlying39 hi hz0 hs0 hby rfl (by decide) _ _ _ rfl hown1.out ⟨w3.heap.size, 0, none⟩ 1 1 [.slice ad un uc] rfl rfl hnew.out (fun x hx => by simp at hx; subst hx; rfl) hk63.out (by omega) (by simp; omega) ?_)
   intro v' w4 hown' hgrow hnil
   have HN : Hid (w4.ownsRow w.heap.size 24 1 v' (done ++ [(l.drop k).take m]).length (us ++ [.slice ad un uc]) ∧ (∀ (j : Nat) (u : Value) (x : List C), (us ++ [.slice ad un uc])[j]? = some u → (done ++ [(l.drop k).take m])[j]? = some x → OwnT w4 w.heap.size u x) ∧ eat (l.drop km) q' = some (l.drop km).length ∧ (done ++ [(l.drop k).take m]) ++ cutF l.length (l.drop km) = argsL l) := by
    refine ⟨by rw [List.length_append]; exact hown', fun j u x h1 h2 => ?_, HN1.out, HN2.out⟩
    have hul : us.length = done.length := by have := HO.out.1.1; omega
    by_cases hj : j < done.length
    ·rw [List.getElem?_append_left (by omega)] at h1
     rw [List.getElem?_append_left (by omega)] at h2
     exact World.ownsRow.kept (HOs.out j u x h1 h2) hgrow (ownT_far (HOs.out j u x h1 h2) hown1.out)
    ·rw [List.getElem?_append_right (by omega)] at h1
     rw [List.getElem?_append_right (by omega)] at h2
     have hj0 : j = done.length := by
      by_cases e : j = done.length
      ·exact e
      ·rw [List.getElem?_eq_none (by simp; omega)] at h1; cases h1
     subst hj0
     rw [hul, Nat.sub_self] at h1
     rw [Nat.sub_self] at h2
     simp at h1 h2
     subst h1 h2
     exact World.ownsRow.kept HO2.out hgrow (ownT_far HO2.out hown1.out)
   have hbw5 : Hid (Below w.heap.size w w4) := hbw4.out.grown hgrow (by simp; omega) (fun g hg => (hown1.out.lt g hg).1)
   clear hgrow hnil hown'
   go_wp2_with fail
   go_roundw
   case rel => exact ⟨km, q', _, _, by have := Hkm.out; omega, by omega, rfl, HN, hbw5.out⟩
   case measure => have := Hkm.out; simp [intOf]; omega
  ·have hlt' : ¬ ((k : Int) < (l.length : Int)) := by omega
   have hfin : Hid (done = argsL l) := by
    have h := HO.out.2.2.2
    rw [List.drop_of_length_le (by omega : l.length ≤ k)] at h
    have h0 : cutF l.length [] = [] := by cases l.length <;> rfl
    rw [h0, List.append_nil] at h
    exact h
   have hdl : Hid (done.length ≤ maxLen) := by
    have h2 := argsL_len l
    show done.length ≤ maxLen
    rw [hfin.out]; unfold maxLen; omega
   have htx : Hid (∀ x ∈ done, x.length ≤ maxLen ∧ ∀ c ∈ x, c.t.size ≤ maxLen) := by
    show ∀ x ∈ done, x.length ≤ maxLen ∧ ∀ c ∈ x, c.t.size ≤ maxLen
    rw [hfin.out]
    intro x hx
    obtain ⟨j1, j2⟩ := argsL_mem l x hx
    exact ⟨by unfold maxLen; omega, fun c hc => HX.out c (j2 c hc)⟩
   go_wp2_with fail
   go_ret
   refine ⟨_, rfl, ?_, hbr⟩
   rw [← hfin.out]
   by_cases h0 : done.length = 0
   ·have e0 : done = [] := List.eq_nil_of_length_eq_zero h0
    subst e0
    rcases HO.out.1.2 with ⟨e1, _⟩ | ⟨g, c, cur, e1, e2, e3, e4, e5, _⟩
    ·exact ⟨by simp, Or.inl ⟨rfl, none, e1⟩⟩
    ·exact ⟨by simp, Or.inr ⟨g, 0, c, [], e1, by simp, e5, (Array.getElem?_eq_some_iff.1 e3).1, rfl, fun j u hu => by simp at hu, fun i u l hu => by simp at hu⟩⟩
   ·refine rowAt_of_owns HO.out.1 (by omega) hdl.out (fun i u x hu hx => ?_)
    have hin := htx.out x (List.mem_of_getElem? hx)
    exact ownT_term (HO.out.2.1 i u x hu hx) hin.1 hin.2
theorem c27 (l : List C) (v : Value) (w : World) (hT : TermAt w v l) :
  Calls Tryz.prog 42 #[v] w fun e w' => ∃ u, e = .returned u ∧ RowAt w' u (argsL l) ∧ Below w.heap.size w w' := by
 cases hr : rightB l
 ·rw [argsL_none l (by simp [hr])]
  exact (c27_no l v w hT hr).mono fun e w' ⟨h1, h2⟩ => ⟨_, h1, ⟨by simp, Or.inl ⟨rfl, none, rfl⟩⟩, h2⟩
 ·have h1 : 0 < l.length := (right_len hr).1
  have hT' := hT
  obtain ⟨_, h⟩ := hT
  rcases h with ⟨e, _⟩ | ⟨b, o, cap, rfl, h2, h5, h3, h4⟩
  ·rw [e] at h1; simp at h1
  by_cases hk : l[0].k = 3
  ·exact c27_in l b o cap w hT' h3 h4 h2 h5 h1 hr hk
  ·rw [argsL_none l (by rw [headK_get h1]; simp [hk])]
   exact (c27_kind l b o cap w hT' h3 h4 h1 hr (by simp [hk])).mono fun e w' ⟨h1, h2⟩ => ⟨_, h1, ⟨by simp, Or.inl ⟨rfl, none, rfl⟩⟩, h2⟩
end Go.Proofs.YtaehhophaaipdaaGreatDoor

namespace Go.Proofs.YtaehhophaaipdaaGreatDoor
open Go.RowKit
attribute [local go_sem ↓] Go.wp_at_zero Go.wp_at_succ
theorem waits_flat : ∀ (ps : List (List C)) (rs : List V3) (a : List Nm), rs.length = ps.length → (∀ (j : Nat) (p : List C) (v : V3), ps[j]? = some p → rs[j]? = some v → v.2.2.length ≤ p.length) → (waitsF a rs).length ≤ a.length + ps.flatten.length
 | [], [], a, _, _ => Nat.le_refl _
 | [], _ :: _, _, h, _ => by simp at h
 | _ :: _, [], _, h, _ => by simp at h
 | p :: ps, v :: rs, a, h, hj => by
  have h1 := waits_flat ps rs (bothN a v.2.2) (by simpa using h) (fun j p v hp hv => hj (j + 1) p v (by simpa using hp) (by simpa using hv))
  have h2 := both_len v.2.2 a
  have h3 := hj 0 p v rfl rfl
  show (waitsF (bothN a v.2.2) rs).length ≤ _
  rw [List.flatten_cons, List.length_append]
  omega
theorem waits_len {K : Nat} : ∀ (rs : List V3) (a : List Nm), (∀ v ∈ rs, v.2.2.length ≤ K) → (waitsF a rs).length ≤ a.length + rs.length * K
 | [], a, _ => by simp [waitsF]
 | v :: rs, a, h => by
  have h1 := waits_len rs (bothN a v.2.2) (fun u hu => h u (List.mem_cons_of_mem _ hu))
  have h2 := both_len v.2.2 a
  have h3 := h v List.mem_cons_self
  show (waitsF (bothN a v.2.2) rs).length ≤ _
  rw [List.length_cons, Nat.succ_mul]
  omega
theorem args_flat (c : C) (r : List C) : (argsL (c :: r)).flatten.length ≤ (c :: r).length := by
 by_cases h : rightB (c :: r) = true ∧ 0 < (c :: r).length ∧ headK (c :: r) = 3
 ·rw [(argsL_spec _ h.1 h.2.1 h.2.2).1]
  simp
 ·rw [argsL_none _ h]
  simp
theorem rs_len {m : Hp} {d : Nat} {p : List C} {v : V3} (h : Rs m d p v) : v.2.2.length ≤ p.length := by
 induction h with
 | leaf hk hf =>
  unfold leafR
  split
  ·simp
  ·split <;> simp
 | none hk hn => simp
 | @op d c r i rs hk hi hm hl hw hok hs ih =>
  have h1 := waits_flat (argsL (c :: r)) rs [] hl ih
  have h2 := args_flat c r
  unfold finR
  split
  ·simp
  ·split
   ·split <;> simp
   ·simp only [List.length_nil, Nat.zero_add] at h1
    exact Nat.le_trans h1 h2
/-- The document's Deref of one cell, whatever map. -/
def DerR (w0 : World) (p : Option Addr) (m : Hp) : Prop := ∀ (W : World) (c : C) (v : Value), Below w0.heap.size w0 W → TermAt W v [c] → wfN (c.vn, c.vk) → Calls Tryz.prog 26 #[.pointer p, v] W fun e w' => ∃ a n cp l', e = .returned (.slice a n cp) ∧ Hid (IsFol m [c] l' ∧ TermAt w' (.slice a n cp) l' ∧ Below W.heap.size W w')
/-- What a call of the document's sum tells. -/
def RvPost (v : V3) (w : World) (e : Ending) (w' : World) : Prop := ∃ q c, e = .returned (.tuple #[.int .i64 v.1, .int .u8 v.2.1, .slice q v.2.2.length c]) ∧ NamesAt w' (.slice q v.2.2.length c) v.2.2 ∧ Below w.heap.size w w'
theorem namesAt_nil (w : World) : NamesAt w (.slice none 0 0) [] := ⟨by simp, .inl ⟨rfl, none, rfl⟩⟩
theorem post_nil {n o : Int} {w w' : World} (h : Below w.heap.size w w') : RvPost (n, o, []) w (.returned (.tuple #[.int .i64 n, .int .u8 o, .slice none 0 0])) w' := ⟨none, 0, rfl, namesAt_nil _, h⟩
theorem names_new (W : World) (x : Nm) : NamesAt (W.alloc (.cells #[.int .i64 x.1, .int .i64 x.2] 60)) (.slice (some ⟨W.heap.size, 0, none⟩) 1 1) [x] := by
 refine ⟨by unfold maxLen; simp, .inr ⟨W.heap.size, 0, 1, rfl, fun j u hu => ?_, by simp⟩⟩
 have := newsN_new W x j u hu
 rwa [Addr.add_mid] at this
theorem head_cells {w : World} {v : Value} {c : C} {r : List C} (h : TermAt w v (c :: r)) : ∃ b o cap, v = .slice (some ⟨b, o, none⟩) (r.length + 1) cap ∧ r.length + 1 ≤ cap ∧ Hid (∀ W, Below w.heap.size w W → W.cell? ⟨b, o, none⟩ = some (.int .u8 c.k) ∧ W.cell? ⟨b, o + 1, none⟩ = some (.string c.t) ∧ W.cell? ⟨b, o + 2, none⟩ = some (.int .i64 c.n) ∧ W.cell? ⟨b, o + 3, none⟩ = some (.int .i64 c.vn) ∧ W.cell? ⟨b, o + 4, none⟩ = some (.int .i64 c.vk)) := by
 rcases h.2 with ⟨e, _⟩ | ⟨b, o, cap, rfl, h2, _, h3, h4⟩
 ·cases e
 ·refine ⟨b, o, cap, rfl, h2, fun W hW => ?_⟩
  have := term_cells (range_below h3 h4 hW) 0 (by simp)
  simpa using this
set_option maxRecDepth 100000 in
set_option maxHeartbeats 4000000 in
theorem z36_leaf (m : Hp) (w0 : World) (p : Option Addr) (hD : DerR w0 p m) (c e : C) (r' : List C) (hk : c.k ≠ 3) (hf : IsFol m [c] (e :: r')) (v : Value) (w : World) (hb : Below w0.heap.size w0 w) (hT : TermAt w v [c]) (hr : rightB [c] = true) (hW : wfN (c.vn, c.vk)) :
  Calls Tryz.prog 36 #[.pointer p, v] w (RvPost (leafR e) w) := by
 have H26 := hD w c v hb hT hW
 have hkk : c.k = 1 ∨ c.k = 2 ∨ c.k = 4 := by
  have hok : c.ok = true := by
   have := ((right_iff _).1 hr).2.2.1
   simpa using this
  have hok' : cellB c.k c.t c.n c.vn c.vk = true := hok
  unfold cellB at hok'
  by_cases k1 : c.k = 1
  ·exact .inl k1
  ·by_cases k2 : c.k = 2
   ·exact .inr (.inl k2)
   ·by_cases k4 : c.k = 4
    ·exact .inr (.inr k4)
    ·rw [if_neg k1, if_neg k2, if_neg hk, if_neg k4] at hok'
     cases hok'
 have hself : c.k ≠ 4 → e = c := fun h => by
  have h1 : IsFol m [c] [c] := ⟨.here _, by unfold nextH; rw [if_neg (by simpa [isVarL] using h)]⟩
  have := hf.uniq h1
  simp at this
  exact this.1
 obtain ⟨b, o, cap, rfl, hcap, HC⟩ := head_cells hT
 obtain ⟨p0, p1, p2, p3, p4⟩ := HC.out w (Below.refl _ _)
 have HF : Hid (IsFol m [c] (e :: r')) := hf
 have HB : Hid (DerR w0 p m ∧ Below w0.heap.size w0 w ∧ TermAt w (.slice (some ⟨b, o, none⟩) 1 cap) [c]) := ⟨hD, hb, hT⟩
 clear hD hb hT hf hr hW
 rcases hkk with h1 | h1 | h1
 ·have HE : Hid (leafR e = (c.n, 1, [])) := by
   rw [hself (by omega)]
   show leafR c = _
   unfold leafR
   rw [if_pos h1]
  clear hself H26 hk HF
  rw [h1] at p0
  go_enter Tryz.func36, Tryz.ntmps36
  go_wp2_with fail
  refine bodyPost_ret (v := .tuple #[.int .i64 c.n, .int .u8 1, .slice none 0 0]) (by simp [results, Tryz.results36, go_sem]) rfl ?_
  rw [HE.out]
  exact post_nil (Below.refl _ _)
 ·have HE : Hid (leafR e = (0, 2, [])) := by
   rw [hself (by omega)]
   show leafR c = _
   unfold leafR
   rw [if_neg (by omega), if_neg (by omega)]
  clear hself H26 hk HF
  rw [h1] at p0
  go_enter Tryz.func36, Tryz.ntmps36
  go_wp2_with fail
  refine bodyPost_ret (v := .tuple #[.int .i64 0, .int .u8 2, .slice none 0 0]) (by simp [results, Tryz.results36, go_sem]) rfl ?_
  rw [HE.out]
  exact post_nil (Below.refl _ _)
 ·rw [h1] at p0
  clear hself hk h1
  go_enter Tryz.func36, Tryz.ntmps36
  go_wp2_with fail
  refine H26.mono ?_
  rintro e' w2 ⟨a2, n2, c2, l', rfl, H2⟩
  clear H26
  obtain rfl : l' = e :: r' := H2.out.1.uniq HF.out
  obtain ⟨b2, o2, cap2, e2, hcap2, HC2⟩ := head_cells H2.out.2.1
  simp only [Value.slice.injEq] at e2
  obtain ⟨rfl, rfl, rfl⟩ := e2
  obtain ⟨t0, t1, t2, t3, t4⟩ := HC2.out w2 (Below.refl _ _)
  have HC3 : ∀ ob, (w2.alloc ob).cell? ⟨b2, o2, none⟩ = some (.int .u8 e.k) ∧ (w2.alloc ob).cell? ⟨b2, o2 + 3, none⟩ = some (.int .i64 e.vn) ∧ (w2.alloc ob).cell? ⟨b2, o2 + 4, none⟩ = some (.int .i64 e.vk) := fun ob => by
   obtain ⟨x0, x1, x2, x3, x4⟩ := HC2.out (w2.alloc ob) (below_alloc _ _)
   exact ⟨x0, x3, x4⟩
  by_cases k1 : e.k = 1
  ·have HE : Hid (leafR e = (e.n, 1, [])) := by show leafR e = _; unfold leafR; rw [if_pos k1]
   rw [k1] at t0
   clear HC3
   go_wp2_with fail
   refine bodyPost_ret (v := .tuple #[.int .i64 e.n, .int .u8 1, .slice none 0 0]) (by simp [results, Tryz.results36, go_sem]) rfl ?_
   rw [HE.out]
   exact post_nil H2.out.2.2
  ·by_cases k4 : e.k = 4
   ·have HE : Hid (leafR e = (0, 3, [(e.vn, e.vk)])) := by show leafR e = _; unfold leafR; rw [if_neg k1, if_pos k4]
    rw [k4] at t0
    rw [k4] at HC3
    go_wp2_with fail
    go_region
    all_goals (
     go_wp2_with fail
     refine bodyPost_ret (v := .tuple #[.int .i64 0, .int .u8 3, .slice (some ⟨w2.heap.size, 0, none⟩) 1 1]) (by simp [results, Tryz.results36, go_sem]) rfl ?_
     rw [HE.out]
     refine ⟨_, _, rfl, ?_, ?_⟩
     ·exact names_new w2 (e.vn, e.vk)
     ·exact (H2.out.2.2.trans ((below_alloc _ _).mono H2.out.2.2.size)).drew)
   ·have HE : Hid (leafR e = (0, 2, [])) := by show leafR e = _; unfold leafR; rw [if_neg k1, if_neg k4]
    clear HC3
    go_wp2_with fail
    refine bodyPost_ret (v := .tuple #[.int .i64 0, .int .u8 2, .slice none 0 0]) (by simp [results, Tryz.results36, go_sem]) rfl ?_
    rw [HE.out]
    exact post_nil H2.out.2.2
end Go.Proofs.YtaehhophaaipdaaGreatDoor
