/- Contract of Split of any amount; its parts make the amount. -/
import Derived.Test.YtopapmnoepnpcaaDoorDH
import Derived.Test.YtopapmnoepnpcaaDoorCF1
import Derived.Test.YtopapmnoepnpcaaDoorCF2
import Derived.Test.YtopapmnoepnpcaaDoorCP
namespace Go.Proofs.YtopapmnoepnpcaaDoor
open Go.RowKit
theorem rise_snoc : ∀ (B : List Int) (p y : Int), 0 ≤ p → riseB p (B ++ [y]) = true → riseB p B = true ∧ p + B.length + 1 ≤ y ∧ y ≤ 1048576
  | [], p, y, _, h => by
    have := (rise_cons.1 h).1
    exact ⟨rfl, by simpa using this.1, this.2⟩
  | b :: l, p, y, h0, h => by
    obtain ⟨h1, h2⟩ := rise_cons.1 h
    obtain ⟨h3, h4, h5⟩ := rise_snoc l b y (by omega) h2
    refine ⟨rise_cons.2 ⟨h1, h3⟩, ?_, h5⟩
    simp only [List.length_cons, Int.natCast_add, Int.natCast_one]
    omega
/-- Both parts of an amount that is not zero. -/
def prts (W : Int) (B : List Int) : (Int × List Int) × (Int × List Int) :=
  if B = [] then (if W = 1 then ((0, [1]), (0, [1])) else ((W - 1, []), (1, [])))
  else if W = 0 ∧ B.length = 1 then ((0, [B.getLastD 0 + 1]), (0, [B.getLastD 0 + 1])) else ((W, B.dropLast), (0, [B.getLastD 0]))
theorem prts_cases (W : Int) (B : List Int) (hr : rightB W B = true) (hz : zeroB W B.length = false) :
    (W = 1 ∧ B = [] ∧ prts W B = ((0, [1]), (0, [1]))) ∨ (2 ≤ W ∧ W ≤ 2147483647 ∧ B = [] ∧ prts W B = ((W - 1, []), (1, [])))
    ∨ (∃ y, W = 0 ∧ B = [y] ∧ 1 ≤ y ∧ y ≤ 1048576 ∧ prts W B = ((0, [y + 1]), (0, [y + 1])))
    ∨ ∃ A y, B = A ++ [y] ∧ ¬ (W = 0 ∧ A = []) ∧ 0 ≤ W ∧ W ≤ 2147483647 ∧ riseB 0 A = true ∧ (A.length : Int) + 1 ≤ y ∧ y ≤ 1048576 ∧ prts W B = ((W, A), (0, [y])) := by
  obtain ⟨⟨hW, hW'⟩, hB⟩ := right_iff.1 hr
  by_cases h0 : B = []
  · subst h0
    have hW0 : W ≠ 0 := by rintro rfl; simp [zeroB] at hz
    by_cases h1 : W = 1
    · exact .inl ⟨h1, rfl, by simp [prts, h1]⟩
    · exact .inr (.inl ⟨by omega, hW', rfl, by simp [prts, h1]⟩)
  · obtain ⟨A, y, rfl⟩ : ∃ A y, B = A ++ [y] := ⟨B.dropLast, B.getLast h0, (List.dropLast_concat_getLast h0).symm⟩
    obtain ⟨h3, h4, h5⟩ := rise_snoc A 0 y (by omega) hB
    by_cases h1 : W = 0 ∧ A = []
    · obtain ⟨rfl, rfl⟩ := h1
      exact .inr (.inr (.inl ⟨y, rfl, rfl, by simpa using h4, h5, by simp [prts]⟩))
    · refine .inr (.inr (.inr ⟨A, y, rfl, h1, hW, hW', h3, by omega, h5, ?_⟩))
      have h2 : ¬ (W = 0 ∧ (A ++ [y]).length = 1) := fun ⟨e, l⟩ => h1 ⟨e, by simpa using l⟩
      simp only [prts, h0, if_false, h2]
      simp
/-- Both parts make the amount, and neither is zero. -/
theorem prts_val (N : Nat) (hN : 1048576 ≤ N) (W : Int) (B : List Int) (hr : rightB W B = true) (hz : zeroB W B.length = false) (h2 : rightB (prts W B).2.1 (prts W B).2.2 = true) :
    rightB (prts W B).1.1 (prts W B).1.2 = true ∧ zeroB (prts W B).1.1 (prts W B).1.2.length = false ∧ zeroB (prts W B).2.1 (prts W B).2.2.length = false
    ∧ val N (prts W B).1.1 (prts W B).1.2 + val N (prts W B).2.1 (prts W B).2.2 = val N W B := by
  rcases prts_cases W B hr hz with ⟨rfl, rfl, e⟩ | ⟨h1, h3, rfl, e⟩ | ⟨y, rfl, rfl, h1, h3, e⟩ | ⟨A, y, rfl, h0, h1, h3, h4, h5, h6, e⟩
  · rw [e]
    have := pw_double N 1 (by omega) (by omega)
    refine ⟨by decide, by decide, by decide, ?_⟩
    simp [val, vl] at this ⊢
    omega
  · rw [e]
    refine ⟨right_iff.2 ⟨⟨by simp only; omega, by simp only; omega⟩, rfl⟩, by simp [zeroB]; omega, by simp [zeroB], ?_⟩
    simp only [val, vl, Int.sub_mul]
    omega
  · rw [e] at h2 ⊢
    obtain ⟨_, h5⟩ := right_iff.1 h2
    have h6 := (rise_cons.1 h5).1
    have := pw_double N (y + 1) (by omega) (by omega)
    refine ⟨h2, by simp [zeroB], by simp [zeroB], ?_⟩
    simp [val, vl] at this ⊢
    omega
  · rw [e]
    refine ⟨right_iff.2 ⟨⟨h1, h3⟩, h4⟩, ?_, by simp [zeroB], ?_⟩
    · simp only [zeroB, Bool.and_eq_false_iff, decide_eq_false_iff_not]
      by_cases hW : W = 0
      · exact .inr fun hl => h0 ⟨hW, List.length_eq_zero_iff.1 hl⟩
      · exact .inl hW
    · simp only [val, vl_append]
      omega
theorem d16 (W : Int) (a : Option Addr) (n c : Nat) (B : List Int) (w : World) (h : Sl w a n c B) (hr : rightB W B = true) (hz : zeroB W B.length = false) : Calls Tryd.prog 16 #[.agg #[.int .i64 W, .slice a n c]] w fun e w' => TwoE e w w' (prts W B) := by
  have hn := h.i.len
  have hc := h.cap
  rcases prts_cases W B hr hz with ⟨rfl, rfl, e⟩ | ⟨h1, h3, rfl, e⟩ | ⟨y, rfl, rfl, h1, h3, e⟩ | ⟨A, y, rfl, h0, h1, h3, h4, h5, h6, e⟩
  · subst hn; rw [e]; exact d16_one a c w
  · subst hn; rw [e]; exact d16_units W a c w h1 h3
  · subst hn; rw [e]; exact d16_bit y a c w h.i (by omega) h3
  · rw [List.length_append, List.length_singleton] at hn
    subst hn
    rw [e]
    by_cases hA : A.length = 0
    · have hA' := List.length_eq_zero_iff.1 hA
      subst hA'
      exact d16_more2 W a c [] y w h.i hc fun hW => h0 ⟨hW, rfl⟩
    · exact d16_more1 W a A.length c A y w h.i (by omega) hc hA
/-- What Split tells. -/
def splK (W : Int) (B : List Int) : Int := if rightB W B = false then 6 else if zeroB W B.length = true then 4 else if rightB (prts W B).2.1 (prts W B).2.2 = false then 3 else 0
theorem d6a (v : Value) (W : Int) (B : List Int) (w : World) (h : Am w v W B) : Calls Tryd.prog 6 #[v] w fun e w' => (splK W B ≠ 0 ∧ SplB e w w' (splK W B)) ∨ (rightB W B = true ∧ zeroB W B.length = false ∧ rightB (prts W B).2.1 (prts W B).2.2 = true ∧ SplE e w w' (prts W B)) := by
  by_cases hr : rightB W B = false
  · exact (d6_form v W B w h hr).mono fun e w' h1 => .inl (by simp only [splK, hr, if_true]; exact ⟨by decide, h1⟩)
  have hr' : rightB W B = true := by simpa using hr
  by_cases hz : zeroB W B.length = true
  · exact (d6_none v W B w h hr' hz).mono fun e w' h1 => .inl (by simp only [splK, hr', hz, if_true]; exact ⟨by decide, h1⟩)
  have hz' : zeroB W B.length = false := by simpa using hz
  obtain ⟨a, n, c, e0, hS⟩ := h.val
  have hp : ∀ V, Below w.heap.size w V → Calls Tryd.prog 16 #[v] V fun e w' => TwoE e V w' (prts W B) := fun V hV => by rw [e0]; exact d16 W a n c B V (hS.below hV) hr' hz'
  by_cases h2 : rightB (prts W B).2.1 (prts W B).2.2 = false
  · exact (d6_full v W B (prts W B) w h hr' hz' h2 hp).mono fun e w' h1 => .inl (by simp only [splK, hr', hz', h2, if_true]; exact ⟨by decide, h1⟩)
  · have h2' : rightB (prts W B).2.1 (prts W B).2.2 = true := by simpa using h2
    exact (d6 v W B (prts W B) w h hr' hz' h2' hp).mono fun e w' h1 => .inr ⟨hr', hz', h2', h1⟩
end Go.Proofs.YtopapmnoepnpcaaDoor
