/- Contract of the reference Equal: for every two terms it says whether they have the same cells. -/
import Derived.Test.YtaehhophaaipdaaGreatDoorQAp
import Derived.Deep.RegionHeld3
import Derived.Deep.DrawnRows
namespace Go.Proofs.YtaehhophaaipdaaGreatDoor
open Go.RowKit
attribute [local go_sem ↓] Go.wp_at_zero Go.wp_at_succ
set_option maxHeartbeats 1000000 in
theorem neq60 (k : Int) (t : ByteArray) (n vn vk : Int) (k' : Int) (t' : ByteArray) (n' vn' vk' : Int) (w : World) :
    (binOp .neq 69 (.agg #[.int .u8 k, .string t, .int .i64 n, .int .i64 vn, .int .i64 vk]) (.agg #[.int .u8 k', .string t', .int .i64 n', .int .i64 vn', .int .i64 vk'])).run Tryz.prog w = .ok (.bool (!eqCells k t n vn vk k' t' n' vn' vk')) w := by
  unfold eqCells
  cases h1 : (k == k') <;> cases h2 : (t.toList == t'.toList) <;> cases h3 : (n == n') <;> cases h4 : (vn == vn') <;> cases h5 : (vk == vk') <;> go_simp
def eqC (c d : C) : Bool := eqCells c.k c.t c.n c.vn c.vk d.k d.t d.n d.vn d.vk
def eqUpto (l m : List C) (k : Nat) : Prop := ∀ j, j < k → ∀ (h1 : j < l.length) (h2 : j < m.length), eqC l[j] m[j] = true
def eqT (l m : List C) : Bool := decide (l.length = m.length) && (l.zip m).all (fun p => eqC p.1 p.2)
theorem eqT_len {l m : List C} (h : ¬ l.length = m.length) : eqT l m = false := by simp [eqT, h]
theorem eqT_true {l m : List C} (h : l.length = m.length) (hu : eqUpto l m l.length) : eqT l m = true := by
  simp only [eqT, h, decide_true, Bool.true_and, List.all_eq_true]
  intro p hp
  obtain ⟨j, hj, rfl⟩ := List.getElem_of_mem hp
  simp at hj
  simpa using hu j (by omega) (by omega) (by omega)
theorem eqT_false {l m : List C} (j : Nat) (h1 : j < l.length) (h2 : j < m.length) (h : eqC l[j] m[j] = false) : eqT l m = false := by
  unfold eqT
  have : (l.zip m).all (fun p => eqC p.1 p.2) = false := by
    rw [List.all_eq_false]
    exact ⟨(l.zip m)[j]'(by simp; omega), List.getElem_mem _, by simp [h]⟩
  rw [this]; simp
theorem eqC_refl (c : C) : eqC c c = true := by simp [eqC, eqCells]
set_option maxHeartbeats 1000000 in
theorem c13_len (n m c1 c2 : Nat) (a1 a2 : Option Addr) (w : World) (h : ((n : Int) != (m : Int)) = true) :
    Calls Tryz.prog 25 #[.slice a1 n c1, .slice a2 m c2] w fun e w' => e = .returned (.bool false) ∧ Below w.heap.size w w' := by
  go_enter Tryz.func25, Tryz.ntmps25
  go_wp2_with fail
  go_ret
  exact ⟨rfl, Below.refl _ _⟩
set_option maxHeartbeats 1000000 in
theorem c13_nil (c1 c2 : Nat) (a1 a2 : Option Addr) (w : World) :
    Calls Tryz.prog 25 #[.slice a1 0 c1, .slice a2 0 c2] w fun e w' => e = .returned (.bool true) ∧ Below w.heap.size w w' := by
  go_enter Tryz.func25, Tryz.ntmps25
  go_wp2_with fail
  refine wp_loop_rounds 1 ?_
  rw [rounds_succ]
  go_wp2_with fail
  go_ret
  exact ⟨rfl, Below.refl _ _⟩
set_option maxHeartbeats 2000000 in
theorem c13_in (l m : List C) (b1 o1 c1 b2 o2 c2 : Nat) (w : World) (hr1 : w.rangeAt b1 o1 (flat l)) (hr2 : w.rangeAt b2 o2 (flat m)) (hl : l.length = m.length) (hc : l.length ≤ maxLen) (hb1 : b1 < w.heap.size) (hb2 : b2 < w.heap.size) :
    Calls Tryz.prog 25 #[.slice (some ⟨b1, o1, none⟩) l.length c1, .slice (some ⟨b2, o2, none⟩) l.length c2] w fun e w' => e = .returned (.bool (eqT l m)) ∧ Below w.heap.size w w' := by
  unfold maxLen at hc
  have HR1 : Hid (w.rangeAt b1 o1 (flat l)) := hr1
  have HR2 : Hid (w.rangeAt b2 o2 (flat m)) := hr2
  have HL : Hid (l.length = m.length) := hl
  have hne : (((l.length : Nat) : Int) != (l.length : Int)) = false := by simp
  clear hr1 hr2 hl
  go_enter Tryz.func25, Tryz.ntmps25
  go_wp2_with fail
  go_loopw [5] (fun i wr => ∃ k : Nat, k ≤ l.length ∧ i = .int .i64 k ∧ Hid (eqUpto l m k) ∧ Below w.heap.size w wr) (fun i _ => l.length - (intOf i).toNat)
  case atStart => exact ⟨0, by omega, rfl, fun j hj => by omega, Below.refl _ _⟩
  case round =>
    obtain ⟨k, hk, rfl, HU, hbr⟩ := hrel
    by_cases hlt : k < l.length
    · have hlt' : (k : Int) < (l.length : Int) := by omega
      have hk0 : (0 : Int) ≤ (k : Int) := by omega
      have hlm : k < m.length := by rw [← HL.out]; exact hlt
      obtain ⟨p0, p1, p2, p3, p4⟩ := term_cells (range_below HR1.out hb1 hbr) k hlt
      obtain ⟨q0, q1, q2, q3, q4⟩ := term_cells (range_below HR2.out hb2 hbr) k hlm
      have hN := neq60 l[k].k l[k].t l[k].n l[k].vn l[k].vk m[k].k m[k].t m[k].n m[k].vn m[k].vk
      have e1 : eqCells l[k].k l[k].t l[k].n l[k].vn l[k].vk m[k].k m[k].t m[k].n m[k].vn m[k].vk = eqC l[k] m[k] := rfl
      rw [e1] at hN
      clear e1
      cases hq : eqC l[k] m[k]
      · have hF : Hid (eqT l m = false) := eqT_false k hlt hlm hq
        rw [hq] at hN
        clear hq
        go_wp2_with fail
        go_quiet (fail)
        go_wp2_with fail
        go_ret
        exact ⟨by rw [hF.out]; rfl, below_drewN hbr _⟩
      · have hU : Hid (eqUpto l m (k + 1)) := fun j hj h1 h2 => if e : j = k then by subst e; exact hq else HU.out j (by omega) h1 h2
        rw [hq] at hN
        clear hq
        go_wp2_with fail
        go_quiet (fail)
        go_wp2_with fail
        go_roundw
        case rel => exact ⟨k + 1, by omega, by go_num, hU, below_drewN hbr _⟩
        case measure => simp [intOf]; omega
    · have hF : Hid (eqT l m = true) := eqT_true HL.out (by rw [show l.length = k by omega]; exact HU.out)
      have hlt' : ¬ ((k : Int) < (l.length : Int)) := by omega
      go_wp2_with fail
      go_ret
      exact ⟨by rw [hF.out]; rfl, hbr⟩
theorem c13 (l m : List C) (v u : Value) (w : World) (hv : TermAt w v l) (hu : TermAt w u m) :
    Calls Tryz.prog 25 #[v, u] w fun e w' => e = .returned (.bool (eqT l m)) ∧ Below w.heap.size w w' := by
  by_cases hl : l.length = m.length
  · by_cases h0 : l.length = 0
    · obtain ⟨a1, c1, rfl⟩ := hv.form
      obtain ⟨a2, c2, rfl⟩ := hu.form
      have e1 : l = [] := List.eq_nil_of_length_eq_zero h0
      have e2 : m = [] := List.eq_nil_of_length_eq_zero (by omega)
      subst e1 e2
      exact c13_nil c1 c2 a1 a2 w
    · obtain ⟨⟨hc, _⟩, hv⟩ := hv
      obtain ⟨_, hu⟩ := hu
      rcases hv with ⟨e, _⟩ | ⟨b1, o1, c1, rfl, _, _, hr1, hb1⟩
      · rw [e] at h0; simp at h0
      rcases hu with ⟨e, _⟩ | ⟨b2, o2, c2, rfl, _, _, hr2, hb2⟩
      · rw [hl, e] at h0; simp at h0
      rw [← hl]
      exact c13_in l m b1 o1 c1 b2 o2 c2 w hr1 hr2 hl hc hb1 hb2
  · obtain ⟨a1, c1, rfl⟩ := hv.form
    obtain ⟨a2, c2, rfl⟩ := hu.form
    rw [eqT_len hl]
    exact c13_len _ _ c1 c2 a1 a2 w (by simp; omega)
end Go.Proofs.YtaehhophaaipdaaGreatDoor
