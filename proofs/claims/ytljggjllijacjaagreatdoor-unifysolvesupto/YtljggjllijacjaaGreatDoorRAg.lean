/- Contract of the reference Equal: for every two terms it says whether they have the same cells. Contracts of the reference Right, one, OfInt, OfAtom, OfVar. Contract of the reference SameTerms. Contracts of lent and rows: a term, a row of terms in memory of their own. -/
import Derived.Test.YtljggjllijacjaaGreatDoorWDg
import Derived.Deep.RegionHeld3
import Derived.Deep.DrawnRows
import Derived.Test.YtljggjllijacjaaGreatDoorR1xg
namespace Go.Proofs.YtljggjllijacjaaGreatDoor
open Go.RowKit
attribute [local go_sem ↓] Go.wp_at_zero Go.wp_at_succ
set_option maxHeartbeats 1000000 in
theorem neq60 (k : Int) (t : ByteArray) (n vn vk : Int) (k' : Int) (t' : ByteArray) (n' vn' vk' : Int) (w : World) :
  (binOp .neq 78 (.agg #[.int .u8 k, .string t, .int .i64 n, .int .i64 vn, .int .i64 vk]) (.agg #[.int .u8 k', .string t', .int .i64 n', .int .i64 vn', .int .i64 vk'])).run Tryz.prog w = .ok (.bool (!eqCells k t n vn vk k' t' n' vn' vk')) w := by
 unfold eqCells
 cases h1 : (k == k') <;> cases h2 : (t.toList == t'.toList) <;> cases h3 : (n == n') <;> cases h4 : (vn == vn') <;> cases h5 : (vk == vk') <;> go_simp
def eqC (c d : C) : Bool := eqCells c.k c.t c.n c.vn c.vk d.k d.t d.n d.vn d.vk
def eqUpto (l m : List C) (k : Nat) : Prop := ∀ j, j < k → ∀ (h1 : j < l.length) (h2 : j < m.length), eqC l[j] m[j] = true
def eqT (l m : List C) : Bool := decide (l.length = m.length) && (l.zip m).all (fun p => eqC p.1 p.2)
theorem eqT_len {l m : List C} (h : ¬ l.length = m.length) : eqT l m = false := by simp [eqT, h]
theorem eqT_true {l m : List C} (h : l.length = m.length) (hu : eqUpto l m l.length) : eqT l m = true := by
 simp only [eqT, h, decide_true, Bool.true_and, List.all_eq_true]
 intro p hp
 obtain ⟨j, hj, rfl⟩ := List.getElem_of_mem hp
 simp at hj
 simpa using hu j (by omega) (by omega) (by omega)
theorem eqT_false {l m : List C} (j : Nat) (h1 : j < l.length) (h2 : j < m.length) (h : eqC l[j] m[j] = false) : eqT l m = false := by
 unfold eqT
 have : (l.zip m).all (fun p => eqC p.1 p.2) = false := by
  rw [List.all_eq_false]
  exact ⟨(l.zip m)[j]'(by simp; omega), List.getElem_mem _, by simp [h]⟩
 rw [this]; simp
theorem eqC_refl (c : C) : eqC c c = true := by simp [eqC, eqCells]
theorem eqT_refl (l : List C) : eqT l l = true := eqT_true rfl (fun j _ h1 _ => eqC_refl l[j])
set_option maxHeartbeats 1000000 in
theorem c13_len (n m c1 c2 : Nat) (a1 a2 : Option Addr) (w : World) (h : ((n : Int) != (m : Int)) = true) :
  Calls Tryz.prog 32 #[.slice a1 n c1, .slice a2 m c2] w fun e w' => e = .returned (.bool false) ∧ Below w.heap.size w w' := by
 go_enter Tryz.func32, Tryz.ntmps32
 go_wp2_with fail
 go_ret
 exact ⟨rfl, Below.refl _ _⟩
set_option maxHeartbeats 1000000 in
theorem c13_nil (c1 c2 : Nat) (a1 a2 : Option Addr) (w : World) :
  Calls Tryz.prog 32 #[.slice a1 0 c1, .slice a2 0 c2] w fun e w' => e = .returned (.bool true) ∧ Below w.heap.size w w' := by
 go_enter Tryz.func32, Tryz.ntmps32
 go_wp2_with fail
 refine wp_loop_rounds 1 ?_
 rw [rounds_succ]
 go_wp2_with fail
 go_ret
 exact ⟨rfl, Below.refl _ _⟩
set_option maxHeartbeats 2000000 in
theorem c13_in (l m : List C) (b1 o1 c1 b2 o2 c2 : Nat) (w : World) (hr1 : w.rangeAt b1 o1 (flat l)) (hr2 : w.rangeAt b2 o2 (flat m)) (hl : l.length = m.length) (hc : l.length ≤ maxLen) (hb1 : b1 < w.heap.size) (hb2 : b2 < w.heap.size) :
  Calls Tryz.prog 32 #[.slice (some ⟨b1, o1, none⟩) l.length c1, .slice (some ⟨b2, o2, none⟩) l.length c2] w fun e w' => e = .returned (.bool (eqT l m)) ∧ Below w.heap.size w w' := by
 unfold maxLen at hc
 have HR1 : Hid (w.rangeAt b1 o1 (flat l)) := hr1
 have HR2 : Hid (w.rangeAt b2 o2 (flat m)) := hr2
 have HL : Hid (l.length = m.length) := hl
 have hne : (((l.length : Nat) : Int) != (l.length : Int)) = false := by simp
 clear hr1 hr2 hl
 go_enter Tryz.func32, Tryz.ntmps32
 go_wp2_with fail
 go_loopw [5] (fun i wr => ∃ k : Nat, k ≤ l.length ∧ i = .int .i64 k ∧ Hid (eqUpto l m k) ∧ Below w.heap.size w wr) (fun i _ => l.length - (intOf i).toNat)
 case atStart => exact ⟨0, by omega, rfl, fun j hj => by omega, Below.refl _ _⟩
 case round =>
  obtain ⟨k, hk, rfl, HU, hbr⟩ := hrel
  by_cases hlt : k < l.length
  ·have hlt' : (k : Int) < (l.length : Int) := by omega
   have hk0 : (0 : Int) ≤ (k : Int) := by omega
   have hlm : k < m.length := by rw [← HL.out]; exact hlt
   obtain ⟨p0, p1, p2, p3, p4⟩ := term_cells (range_below HR1.out hb1 hbr) k hlt
   obtain ⟨q0, q1, q2, q3, q4⟩ := term_cells (range_below HR2.out hb2 hbr) k hlm
   have hN := neq60 l[k].k l[k].t l[k].n l[k].vn l[k].vk m[k].k m[k].t m[k].n m[k].vn m[k].vk
   have e1 : eqCells l[k].k l[k].t l[k].n l[k].vn l[k].vk m[k].k m[k].t m[k].n m[k].vn m[k].vk = eqC l[k] m[k] := rfl
   rw [e1] at hN
   clear e1
   cases hq : eqC l[k] m[k]
   ·have hF : Hid (eqT l m = false) := eqT_false k hlt hlm hq
    rw [hq] at hN
    clear hq
    go_wp2_with fail
    go_quiet (fail)
    go_wp2_with fail
    go_ret
    exact ⟨by rw [hF.out]; rfl, below_drewN hbr _⟩
   ·have hU : Hid (eqUpto l m (k + 1)) := fun j hj h1 h2 => if e : j = k then by subst e; exact hq else HU.out j (by omega) h1 h2
    rw [hq] at hN
    clear hq
    go_wp2_with fail
    go_quiet (fail)
    go_wp2_with fail
    go_roundw
    case rel => exact ⟨k + 1, by omega, by go_num, hU, below_drewN hbr _⟩
    case measure => simp [intOf]; omega
  ·have hF : Hid (eqT l m = true) := eqT_true HL.out (by rw [show l.length = k by omega]; exact HU.out)
   have hlt' : ¬ ((k : Int) < (l.length : Int)) := by omega
   go_wp2_with fail
   go_ret
   exact ⟨by rw [hF.out]; rfl, hbr⟩
theorem c13 (l m : List C) (v u : Value) (w : World) (hv : TermAt w v l) (hu : TermAt w u m) :
  Calls Tryz.prog 32 #[v, u] w fun e w' => e = .returned (.bool (eqT l m)) ∧ Below w.heap.size w w' := by
 by_cases hl : l.length = m.length
 ·by_cases h0 : l.length = 0
  ·obtain ⟨a1, c1, rfl⟩ := hv.form
   obtain ⟨a2, c2, rfl⟩ := hu.form
   have e1 : l = [] := List.eq_nil_of_length_eq_zero h0
   have e2 : m = [] := List.eq_nil_of_length_eq_zero (by omega)
   subst e1 e2
   exact c13_nil c1 c2 a1 a2 w
  ·obtain ⟨⟨hc, _⟩, hv⟩ := hv
   obtain ⟨_, hu⟩ := hu
   rcases hv with ⟨e, _⟩ | ⟨b1, o1, c1, rfl, _, _, hr1, hb1⟩
   ·rw [e] at h0; simp at h0
   rcases hu with ⟨e, _⟩ | ⟨b2, o2, c2, rfl, _, _, hr2, hb2⟩
   ·rw [hl, e] at h0; simp at h0
   rw [← hl]
   exact c13_in l m b1 o1 c1 b2 o2 c2 w hr1 hr2 hl hc hb1 hb2
 ·obtain ⟨a1, c1, rfl⟩ := hv.form
  obtain ⟨a2, c2, rfl⟩ := hu.form
  rw [eqT_len hl]
  exact c13_len _ _ c1 c2 a1 a2 w (by simp; omega)
end Go.Proofs.YtljggjllijacjaaGreatDoor

namespace Go.Proofs.YtljggjllijacjaaGreatDoor
open Go.RowKit
set_option maxHeartbeats 1000000 in
theorem c23_len (ad : Option Addr) (n cap : Nat) (w : World) (h : (n : Int) < 1 ∨ 256 < (n : Int)) :
  Calls Tryz.prog 79 #[.slice ad n cap] w fun e w' => e = .returned (.bool false) ∧ Below w.heap.size w w' := by
 by_cases h1 : (n : Int) < 1
 ·go_enter Tryz.func79, Tryz.ntmps79
  go_wp2_with fail
  go_ret
  exact ⟨rfl, Below.refl _ _⟩
 ·have h2 : 256 < (n : Int) := by omega
  go_enter Tryz.func79, Tryz.ntmps79
  go_wp2_with fail
  go_ret
  exact ⟨rfl, Below.refl _ _⟩
set_option maxHeartbeats 1000000 in
theorem c23_in (l : List C) (b o cap : Nat) (w : World) (hr : w.rangeAt b o (flat l)) (hb : b < w.heap.size) (h1 : 1 ≤ l.length) (h256 : l.length ≤ 256) (htx : ∀ c ∈ l, c.t.size ≤ maxLen) (hT : TermAt w (.slice (some ⟨b, o, none⟩) l.length cap) l) :
  Calls Tryz.prog 79 #[.slice (some ⟨b, o, none⟩) l.length cap] w fun e w' => e = .returned (.bool (rightB l)) ∧ Below w.heap.size w w' := by
 have hrb : rightB l = (cellsB l && (endS l 0 == (l.length : Int))) := by
  unfold rightB; rw [decide_eq_true (by omega), decide_eq_true (by omega)]; simp
 rw [hrb]; clear hrb
 have HR : Hid (w.rangeAt b o (flat l)) := hr
 have HX : Hid (∀ c ∈ l, c.t.size ≤ maxLen) := htx
 have HT : Hid (TermAt w (.slice (some ⟨b, o, none⟩) l.length cap) l) := hT
 have g1 : ¬ ((l.length : Int) < 1) := by omega
 have g2 : ¬ (256 < (l.length : Int)) := by omega
 clear hr htx hT
 go_enter Tryz.func79, Tryz.ntmps79
 go_wp2_with fail
 go_loopw [3] (fun i wr => ∃ k : Nat, k ≤ l.length ∧ i = .int .i64 k ∧ Hid ((l.take k).all C.ok = true) ∧ Below w.heap.size w wr) (fun i _ => l.length - (intOf i).toNat)
 case atStart => exact ⟨0, by omega, rfl, rfl, Below.refl _ _⟩
 case round =>
  obtain ⟨k, hk, rfl, hall, hbr⟩ := hrel
  by_cases hlt : k < l.length
  ·have hlt' : (k : Int) < (l.length : Int) := by omega
   obtain ⟨p0, p1, p2, p3, p4⟩ := term_cells (range_below HR.out hb hbr) k hlt
   have HC : Hid (Calls Tryz.prog 80 #[.agg #[.int .u8 l[k].k, .string l[k].t, .int .i64 l[k].n, .int .i64 l[k].vn, .int .i64 l[k].vk]] wr fun e w' => e = .returned (.bool l[k].ok) ∧ Below wr.heap.size wr w') := c47 l[k].k l[k].t l[k].n l[k].vn l[k].vk wr (HX.out _ (List.getElem_mem _))
   cases hok : l[k].ok
   ·have hF : Hid (cellsB l = false) := cells_false l k hlt hok
    rw [hok] at HC
    clear hok
    go_wp2_with fail
    refine HC.out.mono ?_
    rintro e w' ⟨rfl, hb2⟩
    go_wp2_with fail
    go_ret
    exact ⟨by rw [hF.out]; rfl, hbr.trans (hb2.mono hbr.size)⟩
   ·have hT : Hid ((l.take (k + 1)).all C.ok = true) := cells_snoc l k hlt hall.out hok
    rw [hok] at HC
    clear hok
    go_wp2_with fail
    refine HC.out.mono ?_
    rintro e w' ⟨rfl, hb2⟩
    go_wp2_with fail
    go_roundw
    case rel => exact ⟨k + 1, by omega, by go_num, hT, hbr.trans (hb2.mono hbr.size)⟩
    case measure => simp [intOf]; omega
  ·have hT : Hid (cellsB l = true) := by
    have h := hall.out; rw [List.take_of_length_le (by omega)] at h; exact h
   have hlt' : ¬ ((k : Int) < (l.length : Int)) := by omega
   go_wp2_with fail
   refine (c25 l _ 0 wr (HT.out.below hbr) (by omega)).mono ?_
   rintro e w' ⟨rfl, rfl⟩
   go_wp2_with fail
   go_ret
   exact ⟨by rw [hT.out]; simp, hbr⟩
theorem c23 (l : List C) (v : Value) (w : World) (h : TermAt w v l) :
  Calls Tryz.prog 79 #[v] w fun e w' => e = .returned (.bool (rightB l)) ∧ Below w.heap.size w w' := by
 by_cases hl : 1 ≤ l.length ∧ l.length ≤ 256
 ·have hT := h
  obtain ⟨⟨hc, hx⟩, h⟩ := h
  rcases h with ⟨rfl, ad, rfl⟩ | ⟨b, o, cap, rfl, h2, h5, h3, h4⟩
  ·simp at hl
  ·exact c23_in l b o cap w h3 h4 hl.1 hl.2 hx hT
 ·have e : rightB l = false := by
   unfold rightB
   by_cases h1 : 1 ≤ l.length
   ·rw [decide_eq_false (p := (l.length : Int) ≤ 256) (by omega)]; simp
   ·rw [decide_eq_false (p := 1 ≤ (l.length : Int)) (by omega)]; simp
  rw [e]
  obtain ⟨ad, cap, rfl⟩ := h.form
  exact c23_len ad l.length cap w (by omega)
theorem right_one (c : C) (hk : c.k ≠ 3) : rightB [c] = c.ok := by
 have ha : argsOf c.k c.n = 0 := by unfold argsOf; rw [if_neg hk]
 have h : endS [c] 0 = 1 := by simp [endS, endF, ha]
 unfold rightB cellsB
 rw [h]
 simp
set_option maxHeartbeats 1000000 in
theorem c49 (k : Int) (t : ByteArray) (n vn vk : Int) (w : World) (ht : t.size ≤ maxLen) (hk : k ≠ 3) :
  Calls Tryz.prog 95 #[.agg #[.int .u8 k, .string t, .int .i64 n, .int .i64 vn, .int .i64 vk]] w fun e w' => ∃ v, e = .returned v ∧ TermAt w' v (oneT ⟨k, t, n, vn, vk⟩) ∧ Below w.heap.size w w' := by
 have hB : ∀ o1 : Obj, Hid (Below w.heap.size w (w.alloc o1)) := fun o1 => below_alloc w o1
 have HO : Hid (rightB [⟨k, t, n, vn, vk⟩] = cellB k t n vn vk) := right_one ⟨k, t, n, vn, vk⟩ hk
 have HC := fun o : Obj => c47 k t n vn vk (w.alloc o) ht
 clear hk
 cases hq : cellB k t n vn vk
 ·have e1 : oneT ⟨k, t, n, vn, vk⟩ = [] := by unfold oneT; rw [HO.out, hq]; rfl
  rw [hq] at HC
  have HC : Hid (∀ o : Obj, _) := HC
  rw [e1]; clear e1 hq HO
  go_enter Tryz.func95, Tryz.ntmps95
  go_wp2_with fail
  refine (HC.out _).mono ?_
  rintro e w' ⟨rfl, hb2⟩
  go_wp2_with fail
  go_ret
  exact ⟨_, rfl, termAt_nil _, (hB _).out.trans (hb2.mono (by simp))⟩
 ·have e1 : oneT ⟨k, t, n, vn, vk⟩ = [⟨k, t, n, vn, vk⟩] := by unfold oneT; rw [HO.out, hq]; rfl
  rw [hq] at HC
  have HC : Hid (∀ o : Obj, _) := HC
  rw [e1]; clear e1 hq HO
  go_enter Tryz.func95, Tryz.ntmps95
  go_wp2_with fail
  refine (HC.out _).mono ?_
  rintro e w' ⟨rfl, hb2⟩
  obtain ⟨hcc, hff⟩ := bcell hb2
  have hT : Hid (TermAt (w'.alloc (.cells #[.int .u8 k, .string t, .int .i64 n, .int .i64 vn, .int .i64 vk] 78)) (.slice (some ⟨w'.heap.size, 0, none⟩) 1 1) [⟨k, t, n, vn, vk⟩]) := termAt_new w' ⟨k, t, n, vn, vk⟩ ht
  have hw' : Hid (Below w.heap.size w w') := (hB _).out.trans (hb2.mono (by simp))
  go_wp2_with fail
  go_ret
  exact ⟨_, rfl, hT.out, hw'.out.alloc hw'.out.size _⟩
set_option maxHeartbeats 1000000 in
theorem c19 (vn vk : Int) (w : World) :
  Calls Tryz.prog 72 #[.agg #[.int .i64 vn, .int .i64 vk]] w fun e w' => ∃ v, e = .returned v ∧ TermAt w' v (oneT ⟨4, ⟨#[]⟩, 0, vn, vk⟩) ∧ Below w.heap.size w w' := by
 go_enter Tryz.func72, Tryz.ntmps72
 go_wp2_with fail
 refine (c49 4 ⟨#[]⟩ 0 vn vk _ (Nat.zero_le _) (by decide)).mono ?_
 rintro e w' ⟨v, rfl, hT, hb⟩
 have hT : Hid _ := hT
 go_wp2_with fail
 go_ret
 exact ⟨_, rfl, hT.out, (below_alloc _ _).trans (hb.mono (by simp))⟩
end Go.Proofs.YtljggjllijacjaaGreatDoor

namespace Go.Proofs.YtljggjllijacjaaGreatDoor
open Go.RowKit
attribute [local go_sem ↓] Go.wp_at_zero Go.wp_at_succ
end Go.Proofs.YtljggjllijacjaaGreatDoor

namespace Go.Proofs.YtljggjllijacjaaGreatDoor
open Go.RowKit
theorem ownT_term {w : World} {base : Nat} {u : Value} {l : List C} (h : OwnT w base u l) (hl : l.length ≤ maxLen) (ht : ∀ c ∈ l, c.t.size ≤ maxLen) : TermAt w u l := termAt_of_owns h hl ht
theorem ownT_below {w w' : World} {base : Nat} {u : Value} {l : List C} (h : OwnT w base u l) (hb : Below w.heap.size w w') : OwnT w' base u l := by
 refine ⟨h.1, ?_⟩
 rcases h.2 with hn | ⟨g, cap, cur, h1, h2, h3, h4⟩
 ·exact Or.inl hn
 ·exact Or.inr ⟨g, cap, cur, h1, h2, (hb.block g (Array.getElem?_eq_some_iff.1 h3).1).trans h3, h4⟩
/-- A term of its own lies in another block than a row of terms. -/
theorem ownT_far {w : World} {base base' : Nat} {u v : Value} {l : List C} {n : Nat} {xs : List Value} (h : OwnT w base u l) (h' : w.ownsRow base' 24 1 v n xs) : u.ownBlock = none ∨ u.ownBlock ≠ v.ownBlock := by
 rcases h.2 with ⟨rfl, _⟩ | ⟨g, cap, cur, rfl, _, h3, _⟩
 ·exact Or.inl rfl
 ·right
  rcases h'.2 with ⟨rfl, _⟩ | ⟨g', cap', cur', rfl, _, h3', _⟩
  ·simp [Value.ownBlock]
  ·intro e
   simp [Value.ownBlock] at e
   subst e
   rw [h3] at h3'
   simp at h3'
end Go.Proofs.YtljggjllijacjaaGreatDoor
