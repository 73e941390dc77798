/- Contracts of Equal, Is and the reference Is. -/
import Derived.Test.YtpepogmkbcbmpaaDoorR3
namespace Go.Proofs.YtpepogmkbcbmpaaDoor
open Go.RowKit
attribute [local go_sem ↓] Go.wp_at_zero Go.wp_at_succ
set_option maxHeartbeats 1000000 in
theorem c53_len (n m c1 c2 : Nat) (a1 a2 : Option Addr) (w : World) (h : ((n : Int) != (m : Int)) = true) :
    Calls Tryd.prog 53 #[.slice a1 n c1, .slice a2 m c2] w fun e w' => e = .returned (.bool false) ∧ Below w.heap.size w w' := by
  go_enter Tryd.func53, Tryd.ntmps53
  go_wp2_with fail
  go_ret
  exact ⟨rfl, Below.refl _ _⟩
set_option maxHeartbeats 1000000 in
theorem c53_nil (c1 c2 : Nat) (a1 a2 : Option Addr) (w : World) :
    Calls Tryd.prog 53 #[.slice a1 0 c1, .slice a2 0 c2] w fun e w' => e = .returned (.bool true) ∧ Below w.heap.size w w' := by
  go_enter Tryd.func53, Tryd.ntmps53
  go_wp2_with fail
  refine wp_loop_rounds 1 ?_
  rw [rounds_succ]
  go_wp2_with fail
  go_ret
  exact ⟨rfl, Below.refl _ _⟩
set_option maxHeartbeats 2000000 in
theorem c53_in (l m : List C) (b1 o1 c1 b2 o2 c2 : Nat) (w : World) (hr1 : w.rangeAt b1 o1 (flat l)) (hr2 : w.rangeAt b2 o2 (flat m)) (hl : l.length = m.length) (hc : l.length ≤ maxLen) (hb1 : b1 < w.heap.size) (hb2 : b2 < w.heap.size) :
    Calls Tryd.prog 53 #[.slice (some ⟨b1, o1, none⟩) l.length c1, .slice (some ⟨b2, o2, none⟩) l.length c2] w fun e w' => e = .returned (.bool (eqT l m)) ∧ Below w.heap.size w w' := by
  unfold maxLen at hc
  have HR1 : Hid (w.rangeAt b1 o1 (flat l)) := hr1
  have HR2 : Hid (w.rangeAt b2 o2 (flat m)) := hr2
  have HL : Hid (l.length = m.length) := hl
  have hne : (((l.length : Nat) : Int) != (l.length : Int)) = false := by simp
  clear hr1 hr2 hl
  go_enter Tryd.func53, Tryd.ntmps53
  go_wp2_with fail
  go_loopw [13] (fun i wr => ∃ k : Nat, k ≤ l.length ∧ i = .int .i64 k ∧ Hid (eqUpto l m k) ∧ Below w.heap.size w wr) (fun i _ => l.length - (intOf i).toNat)
  case atStart => exact ⟨0, by omega, rfl, fun j hj => by omega, Below.refl _ _⟩
  case round =>
    obtain ⟨k, hk, rfl, HU, hbr⟩ := hrel
    by_cases hlt : k < l.length
    · have hlt' : (k : Int) < (l.length : Int) := by omega
      have hk0 : (0 : Int) ≤ (k : Int) := by omega
      have hlm : k < m.length := by rw [← HL.out]; exact hlt
      obtain ⟨p0, p1, p2, p3, p4⟩ := term_cells (range_below HR1.out hb1 hbr) k hlt
      obtain ⟨q0, q1, q2, q3, q4⟩ := term_cells (range_below HR2.out hb2 hbr) k hlm
      have hN := neq60 l[k].k l[k].t l[k].n l[k].vn l[k].vk m[k].k m[k].t m[k].n m[k].vn m[k].vk
      have e1 : eqCells l[k].k l[k].t l[k].n l[k].vn l[k].vk m[k].k m[k].t m[k].n m[k].vn m[k].vk = eqC l[k] m[k] := rfl
      rw [e1] at hN
      clear e1
      cases hq : eqC l[k] m[k]
      · have hF : Hid (eqT l m = false) := eqT_false k hlt hlm hq
        rw [hq] at hN
        clear hq
        go_wp2_with fail
        go_quiet (fail)
        go_wp2_with fail
        go_ret
        exact ⟨by rw [hF.out]; rfl, below_drewN hbr _⟩
      · have hU : Hid (eqUpto l m (k + 1)) := fun j hj h1 h2 => if e : j = k then by subst e; exact hq else HU.out j (by omega) h1 h2
        rw [hq] at hN
        clear hq
        go_wp2_with fail
        go_quiet (fail)
        go_wp2_with fail
        go_roundw
        case rel => exact ⟨k + 1, by omega, by go_num, hU, below_drewN hbr _⟩
        case measure => simp [intOf]; omega
    · have hF : Hid (eqT l m = true) := eqT_true HL.out (by rw [show l.length = k by omega]; exact HU.out)
      have hlt' : ¬ ((k : Int) < (l.length : Int)) := by omega
      go_wp2_with fail
      go_ret
      exact ⟨by rw [hF.out]; rfl, hbr⟩
theorem c53 (l m : List C) (v u : Value) (w : World) (hv : TermAt w v l) (hu : TermAt w u m) :
    Calls Tryd.prog 53 #[v, u] w fun e w' => e = .returned (.bool (eqT l m)) ∧ Below w.heap.size w w' := by
  by_cases hl : l.length = m.length
  · by_cases h0 : l.length = 0
    · obtain ⟨a1, c1, rfl⟩ := hv.form
      obtain ⟨a2, c2, rfl⟩ := hu.form
      have e1 : l = [] := List.eq_nil_of_length_eq_zero h0
      have e2 : m = [] := List.eq_nil_of_length_eq_zero (by omega)
      subst e1 e2
      exact c53_nil c1 c2 a1 a2 w
    · obtain ⟨⟨hc, _⟩, hv⟩ := hv
      obtain ⟨_, hu⟩ := hu
      rcases hv with ⟨e, _⟩ | ⟨b1, o1, c1, rfl, _, _, hr1, hb1⟩
      · rw [e] at h0; simp at h0
      rcases hu with ⟨e, _⟩ | ⟨b2, o2, c2, rfl, _, _, hr2, hb2⟩
      · rw [hl, e] at h0; simp at h0
      rw [← hl]
      exact c53_in l m b1 o1 c1 b2 o2 c2 w hr1 hr2 hl hc hb1 hb2
  · obtain ⟨a1, c1, rfl⟩ := hv.form
    obtain ⟨a2, c2, rfl⟩ := hu.form
    rw [eqT_len hl]
    exact c53_len _ _ c1 c2 a1 a2 w (by simp; omega)
set_option maxHeartbeats 1000000 in
theorem c30 (l m : List C) (v u : Value) (w : World) (hv : TermAt w v l) (hu : TermAt w u m) :
    Calls Tryd.prog 30 #[v, u] w fun e w' => e = .returned (.bool (eqT l m)) ∧ Below w.heap.size w w' := by
  have H : Hid (Calls Tryd.prog 53 #[v, u] w fun e w' => e = .returned (.bool (eqT l m)) ∧ Below w.heap.size w w') := c53 l m v u w hv hu
  clear hv hu
  go_enter Tryd.func30, Tryd.ntmps30
  go_wp2_with fail
  refine H.out.mono ?_
  rintro e w' ⟨rfl, hb⟩
  go_wp2_with fail
  go_ret
  exact ⟨rfl, hb⟩
def isB (l : List C) (s : ByteArray) (n : Int) : Bool := match l with
  | [] => false
  | c :: _ => (c.t.toList == s.toList) && (((c.k == 3) && (c.n == n)) || ((n == 0) && (c.k == 2)))
theorem isB_get {l : List C} (h : 0 < l.length) (s : ByteArray) (n : Int) : isB l s n = ((l[0].t.toList == s.toList) && (((l[0].k == 3) && (l[0].n == n)) || ((n == 0) && (l[0].k == 2)))) := by
  match l, h with
  | c :: r, _ => rfl
set_option maxHeartbeats 1000000 in
theorem c28_nil (s : ByteArray) (n : Int) (c : Nat) (a : Option Addr) (w : World) :
    Calls Tryd.prog 28 #[.slice a 0 c, .string s, .int .i64 n] w fun e w' => e = .returned (.bool false) ∧ w' = w := by
  go_enter Tryd.func28, Tryd.ntmps28
  go_wp2_with fail
  go_ret
  exact ⟨rfl, rfl⟩
set_option maxHeartbeats 1000000 in
theorem c29_nil (s : ByteArray) (n : Int) (c : Nat) (a : Option Addr) (w : World) :
    Calls Tryd.prog 29 #[.slice a 0 c, .string s, .int .i64 n] w fun e w' => e = .returned (.bool false) ∧ w' = w := by
  go_enter Tryd.func29, Tryd.ntmps29
  go_wp2_with fail
  go_ret
  exact ⟨rfl, rfl⟩
set_option maxHeartbeats 4000000 in
theorem c28_in (l : List C) (b o cap : Nat) (s : ByteArray) (n : Int) (w : World) (hr : w.rangeAt b o (flat l)) (h1 : 0 < l.length) :
    Calls Tryd.prog 28 #[.slice (some ⟨b, o, none⟩) l.length cap, .string s, .int .i64 n] w fun e w' => e = .returned (.bool (isB l s n)) ∧ w' = w := by
  rw [isB_get h1]
  obtain ⟨p0, p1, p2, p3, p4⟩ := term_cells hr 0 h1
  simp only [Nat.zero_mul, Nat.add_zero] at p0 p1 p2 p3 p4
  have h1' : (0 : Int) < (l.length : Int) := by omega
  have h1b : ((l.length : Int) == 0) = false := by rw [beq_eq_false_iff_ne]; omega
  clear hr
  generalize l[0].t = t at *
  generalize l[0].k = k at *
  generalize l[0].n = m at *
  cases ht : (t.toList == s.toList)
  · go_enter Tryd.func28, Tryd.ntmps28
    go_wp2_with fail
    go_ret
    exact ⟨rfl, rfl⟩
  · by_cases hk2 : k = 2
    · subst hk2
      go_enter Tryd.func28, Tryd.ntmps28
      go_wp2_with fail
      go_ret
      exact ⟨by simp, rfl⟩
    · have hk2b : (k == 2) = false := by simp [hk2]
      cases hk3 : (k == 3)
      · go_enter Tryd.func28, Tryd.ntmps28
        go_wp2_with fail
        go_ret
        exact ⟨by simp [hk2], rfl⟩
      · go_enter Tryd.func28, Tryd.ntmps28
        go_wp2_with fail
        go_ret
        exact ⟨by simp [hk2], rfl⟩
set_option maxHeartbeats 4000000 in
theorem c29_in (l : List C) (b o cap : Nat) (s : ByteArray) (n : Int) (w : World) (hr : w.rangeAt b o (flat l)) (h1 : 0 < l.length) :
    Calls Tryd.prog 29 #[.slice (some ⟨b, o, none⟩) l.length cap, .string s, .int .i64 n] w fun e w' => e = .returned (.bool (isB l s n)) ∧ w' = w := by
  rw [isB_get h1]
  obtain ⟨p0, p1, p2, p3, p4⟩ := term_cells hr 0 h1
  simp only [Nat.zero_mul, Nat.add_zero] at p0 p1 p2 p3 p4
  have h1' : (0 : Int) < (l.length : Int) := by omega
  have h1b : ((l.length : Int) == 0) = false := by rw [beq_eq_false_iff_ne]; omega
  clear hr
  generalize l[0].t = t at *
  generalize l[0].k = k at *
  generalize l[0].n = m at *
  cases ht : (t.toList == s.toList)
  · go_enter Tryd.func29, Tryd.ntmps29
    go_wp2_with fail
    go_ret
    exact ⟨rfl, rfl⟩
  · cases hk3 : (k == 3) <;> cases hmn : (m == n) <;> cases hn0 : (n == 0) <;> cases hk2 : (k == 2)
    all_goals first
      | (exfalso; simp at hk3 hk2; omega)
      | (go_enter Tryd.func29, Tryd.ntmps29
         go_wp2_with fail
         go_ret
         exact ⟨by simp, rfl⟩)
theorem c28 (l : List C) (v : Value) (s : ByteArray) (n : Int) (w : World) (hT : TermAt w v l) :
    Calls Tryd.prog 28 #[v, .string s, .int .i64 n] w fun e w' => e = .returned (.bool (isB l s n)) ∧ w' = w := by
  by_cases h0 : 0 < l.length
  · obtain ⟨_, h⟩ := hT
    rcases h with ⟨e, _⟩ | ⟨b, o, cap, rfl, _, _, hr, _⟩
    · rw [e] at h0; simp at h0
    exact c28_in l b o cap s n w hr h0
  · obtain ⟨a, c, rfl⟩ := hT.form
    have e : l = [] := List.eq_nil_of_length_eq_zero (by omega)
    subst e
    exact c28_nil s n c a w
theorem c29 (l : List C) (v : Value) (s : ByteArray) (n : Int) (w : World) (hT : TermAt w v l) :
    Calls Tryd.prog 29 #[v, .string s, .int .i64 n] w fun e w' => e = .returned (.bool (isB l s n)) ∧ w' = w := by
  by_cases h0 : 0 < l.length
  · obtain ⟨_, h⟩ := hT
    rcases h with ⟨e, _⟩ | ⟨b, o, cap, rfl, _, _, hr, _⟩
    · rw [e] at h0; simp at h0
    exact c29_in l b o cap s n w hr h0
  · obtain ⟨a, c, rfl⟩ := hT.form
    have e : l = [] := List.eq_nil_of_length_eq_zero (by omega)
    subst e
    exact c29_nil s n c a w
end Go.Proofs.YtpepogmkbcbmpaaDoor
