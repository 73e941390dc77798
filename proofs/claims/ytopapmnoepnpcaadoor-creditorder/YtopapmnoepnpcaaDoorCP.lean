/- The plain side of amounts: what an amount is worth. -/
import Derived.Test.YtopapmnoepnpcaaDoorCA
namespace Go.Proofs.YtopapmnoepnpcaaDoor
/-- A Bit, in parts of which two to the N are a unit. -/
def pw (N : Nat) (b : Int) : Int := 2 ^ (N - b.toNat)
def vl (N : Nat) : List Int → Int
  | [] => 0
  | b :: l => pw N b + vl N l
def val (N : Nat) (W : Int) (B : List Int) : Int := W * pw N 0 + vl N B
theorem pw_pos (N : Nat) (b : Int) : 0 < pw N b := Int.pow_pos (by decide)
theorem pw_double (N : Nat) (b : Int) (h1 : 1 ≤ b) (h2 : b ≤ N) : pw N b + pw N b = pw N (b - 1) := by
  unfold pw
  have e : N - (b - 1).toNat = (N - b.toNat) + 1 := by omega
  rw [e, Int.pow_succ]
  omega
theorem pw_anti (N : Nat) (p : Int) (d : Nat) (h0 : 0 ≤ p) (h : p + d ≤ N) : pw N (p + d) ≤ pw N p := by
  induction d with
  | zero => simp
  | succ d ih =>
    have h1 := pw_double N (p + d + 1) (by omega) (by omega)
    have h2 := pw_pos N (p + d + 1)
    have h3 := ih (by omega)
    have e : p + d + 1 - 1 = p + d := by omega
    rw [e] at h1
    have e2 : p + ((d + 1 : Nat) : Int) = p + d + 1 := by omega
    rw [e2]
    omega
theorem pw_le (N : Nat) (p b : Int) (h0 : 0 ≤ p) (h1 : p ≤ b) (h2 : b ≤ N) : pw N b ≤ pw N p := by
  have := pw_anti N p (b - p).toNat h0 (by omega)
  rwa [show p + ((b - p).toNat : Int) = b by omega] at this
theorem rise_cons {p b : Int} {l : List Int} : riseB p (b :: l) = true ↔ (p + 1 ≤ b ∧ b ≤ 1048576) ∧ riseB b l = true := by
  simp [riseB]
theorem vl_lt (N : Nat) (hN : 1048576 ≤ N) : ∀ (B : List Int) (p : Int), 0 ≤ p → p ≤ N → riseB p B = true → 0 ≤ vl N B ∧ vl N B < pw N p
  | [], p, _, _, _ => ⟨by simp [vl], by simpa [vl] using pw_pos N p⟩
  | b :: l, p, h0, hp, h => by
    obtain ⟨⟨h1, h2⟩, h3⟩ := rise_cons.1 h
    obtain ⟨i1, i2⟩ := vl_lt N hN l b (by omega) (by omega) h3
    have d := pw_double N b (by omega) (by omega)
    have a := pw_le N p (b - 1) h0 (by omega) (by omega)
    have q := pw_pos N b
    simp only [vl]
    omega
theorem vl_pos (N : Nat) (hN : 1048576 ≤ N) (b : Int) (l : List Int) (h : riseB 0 (b :: l) = true) : 0 < vl N (b :: l) := by
  obtain ⟨⟨h1, h2⟩, h3⟩ := rise_cons.1 h
  obtain ⟨i1, _⟩ := vl_lt N hN l b (by omega) (by omega) h3
  have := pw_pos N b
  simp only [vl]
  omega
def cmpI (x y : Int) : Int := if x < y then -1 else if y < x then 1 else 0
def cmpL : List Int → List Int → Int
  | [], [] => 0
  | [], _ :: _ => -1
  | _ :: _, [] => 1
  | x :: a, y :: b => if x = y then cmpL a b else cmpI y x
theorem cmpL_val (N : Nat) (hN : 1048576 ≤ N) : ∀ (A B : List Int) (p : Int), 0 ≤ p → p ≤ N → riseB p A = true → riseB p B = true → (cmpL A B = -1 ∧ vl N A < vl N B) ∨ (cmpL A B = 0 ∧ A = B) ∨ (cmpL A B = 1 ∧ vl N B < vl N A)
  | [], [], _, _, _, _, _ => .inr (.inl ⟨rfl, rfl⟩)
  | [], y :: b, p, h0, hp, _, h => .inl ⟨rfl, by
      obtain ⟨⟨h1, h2⟩, h3⟩ := rise_cons.1 h
      obtain ⟨i1, _⟩ := vl_lt N hN b y (by omega) (by omega) h3
      have := pw_pos N y
      simp only [vl]; omega⟩
  | x :: a, [], p, h0, hp, h, _ => .inr (.inr ⟨rfl, by
      obtain ⟨⟨h1, h2⟩, h3⟩ := rise_cons.1 h
      obtain ⟨i1, _⟩ := vl_lt N hN a x (by omega) (by omega) h3
      have := pw_pos N x
      simp only [vl]; omega⟩)
  | x :: a, y :: b, p, h0, hp, hA, hB => by
    obtain ⟨⟨x1, x2⟩, x3⟩ := rise_cons.1 hA
    obtain ⟨⟨y1, y2⟩, y3⟩ := rise_cons.1 hB
    by_cases e : x = y
    · subst e
      rcases cmpL_val N hN a b x (by omega) (by omega) x3 y3 with ⟨c1, c2⟩ | ⟨c1, c2⟩ | ⟨c1, c2⟩
      · exact .inl ⟨by simp [cmpL, c1], by simp only [vl]; omega⟩
      · exact .inr (.inl ⟨by simp [cmpL, c1], by rw [c2]⟩)
      · exact .inr (.inr ⟨by simp [cmpL, c1], by simp only [vl]; omega⟩)
    · obtain ⟨i1, i2⟩ := vl_lt N hN a x (by omega) (by omega) x3
      obtain ⟨j1, j2⟩ := vl_lt N hN b y (by omega) (by omega) y3
      by_cases hlt : x < y
      · refine .inr (.inr ⟨by simp [cmpL, e, cmpI]; omega, ?_⟩)
        have d := pw_double N y (by omega) (by omega)
        have q := pw_le N x (y - 1) (by omega) (by omega) (by omega)
        simp only [vl]; omega
      · refine .inl ⟨by simp [cmpL, e, cmpI]; omega, ?_⟩
        have d := pw_double N x (by omega) (by omega)
        have q := pw_le N y (x - 1) (by omega) (by omega) (by omega)
        simp only [vl]; omega
def cmpA (W : Int) (A : List Int) (V : Int) (B : List Int) : Int := if W = V then cmpL A B else cmpI W V
theorem right_iff {W : Int} {B : List Int} : rightB W B = true ↔ (0 ≤ W ∧ W ≤ 2147483647) ∧ riseB 0 B = true := by
  simp [rightB]
theorem mul_lt_step (W V q x y : Int) (h : W < V) (h1 : x < q) (h2 : 0 ≤ y) (h3 : 0 < q) : W * q + x < V * q + y := by
  have h4 : (W + 1) * q ≤ V * q := Int.mul_le_mul_of_nonneg_right (by omega) (by omega)
  rw [Int.add_mul, Int.one_mul] at h4
  omega
theorem cmpA_val (N : Nat) (hN : 1048576 ≤ N) (W V : Int) (A B : List Int) (hA : rightB W A = true) (hB : rightB V B = true) : (cmpA W A V B = -1 ∧ val N W A < val N V B) ∨ (cmpA W A V B = 0 ∧ W = V ∧ A = B) ∨ (cmpA W A V B = 1 ∧ val N V B < val N W A) := by
  obtain ⟨a1, a2⟩ := right_iff.1 hA
  obtain ⟨b1, b2⟩ := right_iff.1 hB
  obtain ⟨i1, i2⟩ := vl_lt N hN A 0 (by omega) (by omega) a2
  obtain ⟨j1, j2⟩ := vl_lt N hN B 0 (by omega) (by omega) b2
  have q := pw_pos N 0
  unfold cmpA val
  by_cases e : W = V
  · subst e
    rcases cmpL_val N hN A B 0 (by omega) (by omega) a2 b2 with ⟨c1, c2⟩ | ⟨c1, c2⟩ | ⟨c1, c2⟩
    · exact .inl ⟨by simp [c1], by omega⟩
    · exact .inr (.inl ⟨by simp [c1], rfl, c2⟩)
    · exact .inr (.inr ⟨by simp [c1], by omega⟩)
  · by_cases hlt : W < V
    · exact .inl ⟨by simp [e, cmpI, hlt], mul_lt_step W V _ _ _ hlt i2 j1 q⟩
    · refine .inr (.inr ⟨by simp [e, cmpI]; omega, mul_lt_step V W _ _ _ (by omega) j2 i1 q⟩)
theorem val_inj (N : Nat) (hN : 1048576 ≤ N) {W V : Int} {A B : List Int} (hA : rightB W A = true) (hB : rightB V B = true) (h : val N W A = val N V B) : W = V ∧ A = B := by
  rcases cmpA_val N hN W V A B hA hB with ⟨_, c⟩ | ⟨_, c⟩ | ⟨_, c⟩
  · omega
  · exact c
  · omega
theorem val_bd (N : Nat) (hN : 1048576 ≤ N) {W : Int} {A : List Int} (hA : rightB W A = true) : 0 ≤ val N W A ∧ val N W A < 2147483648 * pw N 0 := by
  obtain ⟨a1, a2⟩ := right_iff.1 hA
  obtain ⟨i1, i2⟩ := vl_lt N hN A 0 (by omega) (by omega) a2
  have q := pw_pos N 0
  unfold val
  have h1 := mul_lt_step W 2147483648 _ (vl N A) 0 (by omega) i2 (by omega) q
  have h2 : 0 ≤ W * pw N 0 := Int.mul_nonneg a1.1 (by omega)
  omega
theorem val_zero (N : Nat) (hN : 1048576 ≤ N) {W : Int} {A : List Int} (hA : rightB W A = true) : val N W A = 0 ↔ W = 0 ∧ A = [] := by
  have h0 : rightB 0 [] = true := by decide
  constructor
  · intro h
    have : val N 0 [] = 0 := by simp [val, vl]
    exact val_inj N hN hA h0 (by omega)
  · rintro ⟨rfl, rfl⟩
    simp [val, vl]
/-- One Bit more, on Bits that fall. -/
def stepC : List Int → Int → List Int × Int
  | [], b => if b = 0 then ([], 1) else ([b], 0)
  | r :: R, b => if r = b then stepC R (b - 1) else if b = 0 then (r :: R, 1) else (b :: r :: R, 0)
def fallP : List Int → Int → Prop
  | [], _ => True
  | r :: R, b => 1 ≤ r ∧ r ≤ b ∧ fallP R (r - 1)
theorem fallP_mono : ∀ (R : List Int) (b c : Int), b ≤ c → fallP R b → fallP R c
  | [], _, _, _, _ => trivial
  | _ :: _, _, _, h, ⟨h1, h2, h3⟩ => ⟨h1, by omega, h3⟩
theorem stepC_val (N : Nat) : ∀ (R : List Int) (b : Int), 0 ≤ b → b ≤ N → fallP R b → vl N (stepC R b).1 + (stepC R b).2 * pw N 0 = vl N R + pw N b ∧ fallP (stepC R b).1 b ∧ 0 ≤ (stepC R b).2 ∧ (stepC R b).2 ≤ 1
  | [], b, h0, h1, _ => by
    unfold stepC
    split
    · next e => subst e; simp [vl, fallP]
    · next e => exact ⟨by simp [vl], ⟨by omega, by omega, trivial⟩, by omega, by omega⟩
  | r :: R, b, h0, h1, ⟨f1, f2, f3⟩ => by
    unfold stepC
    split
    · next e =>
      subst e
      obtain ⟨i1, i2, i3⟩ := stepC_val N R (r - 1) (by omega) (by omega) f3
      refine ⟨?_, fallP_mono _ _ _ (by omega) i2, i3⟩
      have d := pw_double N r f1 h1
      simp only [vl]
      omega
    · next e =>
      split
      · next e0 => omega
      · next e0 => exact ⟨by simp only [vl]; omega, ⟨by omega, by omega, f1, by omega, f3⟩, by omega, by omega⟩
theorem fall_rise : ∀ (R : List Int) (b : Int) (S : List Int), b ≤ 1048576 → fallP R b → (∀ h, (∀ r ∈ R.head?, h = r) → (R = [] → h = 0) → riseB h S = true) → riseB 0 (R.reverse ++ S) = true
  | [], _, S, _, _, h => h 0 (by simp) (fun _ => rfl)
  | r :: R, b, S, hb, ⟨f1, f2, f3⟩, h => by
    rw [List.reverse_cons, List.append_assoc]
    refine fall_rise R (r - 1) ([r] ++ S) (by omega) f3 ?_
    intro g h1 h2
    rw [List.singleton_append, rise_cons]
    refine ⟨⟨?_, by omega⟩, h r (by simp) (by simp)⟩
    cases R with
    | nil => have := h2 rfl; omega
    | cons r' R' =>
      have := h1 r' (by simp)
      obtain ⟨g1, g2, _⟩ := f3
      omega
theorem fall_right (R : List Int) (b : Int) (hb : b ≤ 1048576) (h : fallP R b) : riseB 0 R.reverse = true := by
  have := fall_rise R b [] hb h (fun _ _ _ => rfl)
  simpa using this
theorem vl_append (N : Nat) : ∀ (A B : List Int), vl N (A ++ B) = vl N A + vl N B
  | [], B => by simp [vl]
  | a :: A, B => by simp only [List.cons_append, vl]; rw [vl_append N A B]; omega
theorem vl_perm (N : Nat) {A B : List Int} (h : A.Perm B) : vl N A = vl N B := by
  induction h with
  | nil => rfl
  | cons x _ ih => simp only [vl]; omega
  | swap x y l => simp only [vl]; omega
  | trans _ _ i1 i2 => omega
theorem vl_reverse (N : Nat) (A : List Int) : vl N A.reverse = vl N A := vl_perm N (List.reverse_perm A)
end Go.Proofs.YtopapmnoepnpcaaDoor
