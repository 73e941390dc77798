/- How terms lie one behind the other in a row of cells. -/
import Derived.Test.YtpepogmkbcbmpabDoorR1
namespace Go.Proofs.YtpepogmkbcbmpabDoor
open Go.RowKit
/-- How many cells so many terms take, from the beginning on. -/
def eat : List C → Nat → Option Nat
  | _, 0 => some 0
  | [], _ + 1 => none
  | c :: r, q + 1 => (eat r (q + (argsOf c.k c.n).toNat)).map (· + 1)
theorem eat_zero (l : List C) : eat l 0 = some 0 := by cases l <;> rfl
theorem eat_le : ∀ (l : List C) (q m : Nat), eat l q = some m → q ≤ m ∧ m ≤ l.length
  | l, 0, m, h => by rw [eat_zero] at h; cases h; simp
  | [], q + 1, m, h => by simp [eat] at h
  | c :: r, q + 1, m, h => by
    simp only [eat, Option.map_eq_some_iff] at h
    obtain ⟨m', h', rfl⟩ := h
    have := eat_le r _ _ h'
    simp; omega
theorem eat_split : ∀ (l : List C) (p q m : Nat), eat l (p + q) = some m → ∃ m1 m2, eat l p = some m1 ∧ eat (l.drop m1) q = some m2 ∧ m = m1 + m2
  | l, 0, q, m, h => ⟨0, m, eat_zero l, by simpa using h, by simp⟩
  | [], p + 1, q, m, h => by rw [show p + 1 + q = (p + q) + 1 by omega] at h; simp [eat] at h
  | c :: r, p + 1, q, m, h => by
    rw [show p + 1 + q = (p + q) + 1 by omega] at h
    simp only [eat, Option.map_eq_some_iff] at h
    obtain ⟨m', h', rfl⟩ := h
    rw [show p + q + (argsOf c.k c.n).toNat = (p + (argsOf c.k c.n).toNat) + q by omega] at h'
    obtain ⟨m1, m2, e1, e2, rfl⟩ := eat_split r _ _ _ h'
    exact ⟨m1 + 1, m2, by simp [eat, e1], by simpa using e2, by omega⟩
theorem eat_take : ∀ (l : List C) (q m : Nat), eat l q = some m → eat (l.take m) q = some m
  | l, 0, m, h => by rw [eat_zero] at h; cases h; simp [eat_zero]
  | [], q + 1, m, h => by simp [eat] at h
  | c :: r, q + 1, m, h => by
    simp only [eat, Option.map_eq_some_iff] at h
    obtain ⟨m', h', rfl⟩ := h
    simp [eat, eat_take r _ _ h']
theorem refF_eat (len : Int) : ∀ (l : List C) (i : Int) (q : Nat), (l.length : Int) ≤ len → refF len l i q = (match eat l q with | some m => i + m | none => 0)
  | [], i, 0, _ => by simp [refF, eat]
  | c :: r, i, 0, _ => by simp [refF, eat]
  | [], i, q + 1, _ => by
    have hq : (0 : Int) < ((q + 1 : Nat) : Int) := by omega
    simp only [refF, hq, if_true, eat]
  | c :: r, i, q + 1, hl => by
    have ha := argsOf_nonneg c.k c.n
    simp at hl
    have hq : (0 : Int) < ((q + 1 : Nat) : Int) := by omega
    simp only [refF, hq, if_true, eat]
    have hr := refF_eat len r (i + 1) (q + (argsOf c.k c.n).toNat) (by omega)
    rw [show ((q + (argsOf c.k c.n).toNat : Nat) : Int) = ((q + 1 : Nat) : Int) - 1 + argsOf c.k c.n by omega] at hr
    by_cases hb : len < argsOf c.k c.n
    · rw [if_pos hb]
      cases he : eat r (q + (argsOf c.k c.n).toNat) with
      | none => rfl
      | some m => have := eat_le _ _ _ he; omega
    · rw [if_neg hb, hr]
      cases he : eat r (q + (argsOf c.k c.n).toNat) with
      | none => rfl
      | some m =>
        show i + 1 + (m : Int) = i + ((m + 1 : Nat) : Int)
        omega
theorem endS_eat (l : List C) (p : Nat) (hp : p < l.length) : endS l p = (match eat (l.drop p) 1 with | some m => (p : Int) + m | none => 0) := by
  rw [← refF_eat l.length (l.drop p) p 1 (by simp)]
  rw [show ((1 : Nat) : Int) = 1 from rfl, refF_eq _ _ _ _ (by omega) (by simp)]
  unfold endS
  rw [if_neg (by omega)]; simp
theorem right_eat {l : List C} : rightB l = (decide (1 ≤ l.length) && decide (l.length ≤ 256) && cellsB l && (eat l 1 == some l.length)) := by
  unfold rightB
  by_cases h1 : 1 ≤ l.length
  · have h := endS_eat l 0 (by omega)
    rw [List.drop_zero] at h
    have h0 : endS l 0 = (match eat l 1 with | some m => ((0 : Nat) : Int) + m | none => 0) := h
    have e : (endS l 0 == (l.length : Int)) = (eat l 1 == some l.length) := by
      rw [h0]
      cases he : eat l 1 with
      | none => simp; omega
      | some m =>
        rw [Bool.eq_iff_iff]
        simp
        omega
    rw [e]
    have e1 : decide (1 ≤ (l.length : Int)) = decide (1 ≤ l.length) := by simp; omega
    have e2 : decide ((l.length : Int) ≤ 256) = decide (l.length ≤ 256) := by
      rw [Bool.eq_iff_iff]; simp; omega
    rw [e1, e2]
  · have e1 : decide (1 ≤ (l.length : Int)) = false := by simp; omega
    rw [e1, decide_eq_false h1]; simp
/-- The terms of which a row of cells is made. -/
def cutF : Nat → List C → List (List C)
  | 0, _ => []
  | _ + 1, [] => []
  | f + 1, c :: r => match eat (c :: r) 1 with
    | some m => (c :: r).take m :: cutF f ((c :: r).drop m)
    | none => []
theorem cut_step (f : Nat) (r : List C) (q : Nat) (hr : 0 < r.length) (h : eat r q = some r.length) : ∃ m q', q = q' + 1 ∧ eat r 1 = some m ∧ 1 ≤ m ∧ m ≤ r.length ∧ eat (r.drop m) q' = some (r.drop m).length ∧ cutF (f + 1) r = r.take m :: cutF f (r.drop m) := by
  cases q with
  | zero =>
    rw [eat_zero] at h
    have := Option.some.inj h
    omega
  | succ q' =>
    rw [Nat.add_comm] at h
    obtain ⟨m1, m2, e1, e2, e3⟩ := eat_split r 1 q' _ h
    have hle := eat_le _ _ _ e1
    refine ⟨m1, q', rfl, e1, hle.1, hle.2, ?_, ?_⟩
    · rw [e2]; simp; omega
    · match r, hr with
      | c :: r', _ => simp only [cutF, e1]
theorem cut_spec : ∀ (f : Nat) (r : List C) (q : Nat), r.length ≤ f → eat r q = some r.length → (cutF f r).flatten = r ∧ (cutF f r).length = q ∧ ∀ s ∈ cutF f r, eat s 1 = some s.length ∧ 1 ≤ s.length ∧ s.length ≤ r.length ∧ ∀ c ∈ s, c ∈ r
  | f, [], q, hf, h => by
    have hle := eat_le _ _ _ h
    simp at hle
    subst hle
    cases f <;> simp [cutF]
  | 0, c :: r, q, hf, h => by simp at hf
  | f + 1, c :: r, q, hf, h => by
    obtain ⟨m, q', rfl, e1, h1, hm, e2, e3⟩ := cut_step f (c :: r) q (by simp) h
    obtain ⟨i1, i2, i3⟩ := cut_spec f ((c :: r).drop m) q' (by simp at hf ⊢; omega) e2
    rw [e3]
    refine ⟨by rw [List.flatten_cons, i1, List.take_append_drop], by rw [List.length_cons, i2], ?_⟩
    intro s hs
    rcases List.mem_cons.1 hs with rfl | hs
    · have ht := eat_take _ _ _ e1
      have hl : ((c :: r).take m).length = m := by rw [List.length_take]; omega
      exact ⟨by rw [hl]; exact ht, by omega, by omega, fun d hd => List.mem_of_mem_take hd⟩
    · obtain ⟨j1, j2, j3, j4⟩ := i3 s hs
      exact ⟨j1, j2, by simp at j3; simp; omega, fun d hd => List.mem_of_mem_drop (j4 d hd)⟩
theorem cut_fuel : ∀ (f g : Nat) (r : List C), r.length ≤ f → r.length ≤ g → cutF f r = cutF g r
  | 0, g, r, hf, _ => by
    have : r = [] := List.eq_nil_of_length_eq_zero (by omega)
    subst this; cases g <;> rfl
  | f + 1, 0, r, _, hg => by
    have : r = [] := List.eq_nil_of_length_eq_zero (by omega)
    subst this; rfl
  | f + 1, g + 1, [], _, _ => rfl
  | f + 1, g + 1, c :: r, hf, hg => by
    simp only [cutF]
    cases he : eat (c :: r) 1 with
    | none => rfl
    | some m =>
      have hle := eat_le _ _ _ he
      simp only
      rw [cut_fuel f g ((c :: r).drop m) (by simp at hf ⊢; omega) (by simp at hg ⊢; omega)]
def headK (l : List C) : Int := match l with | [] => 0 | c :: _ => c.k
/-- The arguments of a structure. -/
def argsL (l : List C) : List (List C) := if rightB l && (headK l == 3) then cutF l.length l.tail else []
end Go.Proofs.YtpepogmkbcbmpabDoor
