/- Contracts of Equal, Is and the reference Is. -/
import Derived.Test.YtljggjllijacjaaGreatDoorRAg
namespace Go.Proofs.YtljggjllijacjaaGreatDoor
open Go.RowKit
attribute [local go_sem ↓] Go.wp_at_zero Go.wp_at_succ
def isB (l : List C) (s : ByteArray) (n : Int) : Bool := match l with
  | [] => false
  | c :: _ => (c.t.toList == s.toList) && (((c.k == 3) && (c.n == n)) || ((n == 0) && (c.k == 2)))
theorem isB_get {l : List C} (h : 0 < l.length) (s : ByteArray) (n : Int) : isB l s n = ((l[0].t.toList == s.toList) && (((l[0].k == 3) && (l[0].n == n)) || ((n == 0) && (l[0].k == 2)))) := by
  match l, h with
  | c :: r, _ => rfl
set_option maxHeartbeats 1000000 in
theorem c28_nil (s : ByteArray) (n : Int) (c : Nat) (a : Option Addr) (w : World) :
    Calls Tryz.prog 69 #[.slice a 0 c, .string s, .int .i64 n] w fun e w' => e = .returned (.bool false) ∧ w' = w := by
  go_enter Tryz.func69, Tryz.ntmps69
  go_wp2_with fail
  go_ret
  exact ⟨rfl, rfl⟩
set_option maxHeartbeats 1000000 in
theorem c29_nil (s : ByteArray) (n : Int) (c : Nat) (a : Option Addr) (w : World) :
    Calls Tryz.prog 91 #[.slice a 0 c, .string s, .int .i64 n] w fun e w' => e = .returned (.bool false) ∧ w' = w := by
  go_enter Tryz.func91, Tryz.ntmps91
  go_wp2_with fail
  go_ret
  exact ⟨rfl, rfl⟩
set_option maxHeartbeats 4000000 in
theorem c28_in (l : List C) (b o cap : Nat) (s : ByteArray) (n : Int) (w : World) (hr : w.rangeAt b o (flat l)) (h1 : 0 < l.length) :
    Calls Tryz.prog 69 #[.slice (some ⟨b, o, none⟩) l.length cap, .string s, .int .i64 n] w fun e w' => e = .returned (.bool (isB l s n)) ∧ w' = w := by
  rw [isB_get h1]
  obtain ⟨p0, p1, p2, p3, p4⟩ := term_cells hr 0 h1
  simp only [Nat.zero_mul, Nat.add_zero] at p0 p1 p2 p3 p4
  have h1' : (0 : Int) < (l.length : Int) := by omega
  have h1b : ((l.length : Int) == 0) = false := by rw [beq_eq_false_iff_ne]; omega
  clear hr
  generalize l[0].t = t at *
  generalize l[0].k = k at *
  generalize l[0].n = m at *
  cases ht : (t.toList == s.toList)
  · go_enter Tryz.func69, Tryz.ntmps69
    go_wp2_with fail
    go_ret
    exact ⟨rfl, rfl⟩
  · by_cases hk2 : k = 2
    · subst hk2
      go_enter Tryz.func69, Tryz.ntmps69
      go_wp2_with fail
      go_ret
      exact ⟨by simp, rfl⟩
    · have hk2b : (k == 2) = false := by simp [hk2]
      cases hk3 : (k == 3)
      · go_enter Tryz.func69, Tryz.ntmps69
        go_wp2_with fail
        go_ret
        exact ⟨by simp [hk2], rfl⟩
      · go_enter Tryz.func69, Tryz.ntmps69
        go_wp2_with fail
        go_ret
        exact ⟨by simp [hk2], rfl⟩
set_option maxHeartbeats 4000000 in
theorem c29_in (l : List C) (b o cap : Nat) (s : ByteArray) (n : Int) (w : World) (hr : w.rangeAt b o (flat l)) (h1 : 0 < l.length) :
    Calls Tryz.prog 91 #[.slice (some ⟨b, o, none⟩) l.length cap, .string s, .int .i64 n] w fun e w' => e = .returned (.bool (isB l s n)) ∧ w' = w := by
  rw [isB_get h1]
  obtain ⟨p0, p1, p2, p3, p4⟩ := term_cells hr 0 h1
  simp only [Nat.zero_mul, Nat.add_zero] at p0 p1 p2 p3 p4
  have h1' : (0 : Int) < (l.length : Int) := by omega
  have h1b : ((l.length : Int) == 0) = false := by rw [beq_eq_false_iff_ne]; omega
  clear hr
  generalize l[0].t = t at *
  generalize l[0].k = k at *
  generalize l[0].n = m at *
  cases ht : (t.toList == s.toList)
  · go_enter Tryz.func91, Tryz.ntmps91
    go_wp2_with fail
    go_ret
    exact ⟨rfl, rfl⟩
  · cases hk3 : (k == 3) <;> cases hmn : (m == n) <;> cases hn0 : (n == 0) <;> cases hk2 : (k == 2)
    all_goals first
      | (exfalso; simp at hk3 hk2; omega)
      | (go_enter Tryz.func91, Tryz.ntmps91
         go_wp2_with fail
         go_ret
         exact ⟨by simp, rfl⟩)
theorem c28 (l : List C) (v : Value) (s : ByteArray) (n : Int) (w : World) (hT : TermAt w v l) :
    Calls Tryz.prog 69 #[v, .string s, .int .i64 n] w fun e w' => e = .returned (.bool (isB l s n)) ∧ w' = w := by
  by_cases h0 : 0 < l.length
  · obtain ⟨_, h⟩ := hT
    rcases h with ⟨e, _⟩ | ⟨b, o, cap, rfl, _, _, hr, _⟩
    · rw [e] at h0; simp at h0
    exact c28_in l b o cap s n w hr h0
  · obtain ⟨a, c, rfl⟩ := hT.form
    have e : l = [] := List.eq_nil_of_length_eq_zero (by omega)
    subst e
    exact c28_nil s n c a w
theorem c29 (l : List C) (v : Value) (s : ByteArray) (n : Int) (w : World) (hT : TermAt w v l) :
    Calls Tryz.prog 91 #[v, .string s, .int .i64 n] w fun e w' => e = .returned (.bool (isB l s n)) ∧ w' = w := by
  by_cases h0 : 0 < l.length
  · obtain ⟨_, h⟩ := hT
    rcases h with ⟨e, _⟩ | ⟨b, o, cap, rfl, _, _, hr, _⟩
    · rw [e] at h0; simp at h0
    exact c29_in l b o cap s n w hr h0
  · obtain ⟨a, c, rfl⟩ := hT.form
    have e : l = [] := List.eq_nil_of_length_eq_zero (by omega)
    subst e
    exact c29_nil s n c a w
end Go.Proofs.YtljggjllijacjaaGreatDoor
