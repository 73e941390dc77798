/- A step the other way round: the plain side. -/
import Derived.Test.YtljggjllijacjaaDoorU3
namespace Go.Proofs.YtljggjllijacjaaDoor
open Go.RowKit
theorem eat_more : ∀ (l r : List C) (q m : Nat), eat l q = some m → eat (l ++ r) q = some m
  | l, r, 0, m, h => by rw [eat_zero] at h; cases h; rw [eat_zero]
  | [], r, q + 1, m, h => by simp [eat] at h
  | c :: l, r, q + 1, m, h => by
    simp only [eat, Option.map_eq_some_iff] at h
    obtain ⟨m', h', rfl⟩ := h
    simp only [List.cons_append, eat, eat_more l r _ _ h', Option.map_some]
theorem eat_both : ∀ (x y : List C) (p q : Nat), eat x p = some x.length → eat y q = some y.length → eat (x ++ y) (p + q) = some (x.length + y.length)
  | x, y, 0, q, h, k => by
    rw [eat_zero] at h
    have : x = [] := List.eq_nil_of_length_eq_zero (Option.some.inj h).symm
    subst this
    simpa using k
  | [], y, p + 1, q, h, k => by simp [eat] at h
  | c :: x, y, p + 1, q, h, k => by
    simp only [eat, Option.map_eq_some_iff] at h
    obtain ⟨m', h', e⟩ := h
    simp at e
    subst e
    have := eat_both x y (p + (argsOf c.k c.n).toNat) q h' k
    rw [show p + 1 + q = (p + q) + 1 by omega]
    simp only [List.cons_append, eat]
    rw [show p + q + (argsOf c.k c.n).toNat = p + (argsOf c.k c.n).toNat + q by omega, this]
    simp; omega
theorem makeE_form' {text : ByteArray} {ls : List (List C)} (h : allRightB ls = false) : makeE text ls = 6 := by unfold makeE; rw [h]; rfl
theorem right_eat1 {l : List C} (h : rightB l = true) : eat l 1 = some l.length ∧ cellsB l = true := by
  rw [right_eat] at h
  simp only [Bool.and_eq_true, beq_iff_eq] at h
  exact ⟨h.2, h.1.2⟩
theorem cut_two {x y : List C} (hx : eat x 1 = some x.length) (hy : eat y 1 = some y.length) (f : Nat) : cutF (f + 3) (x ++ y) = [x, y] := by
  have lx := (eat_le _ _ _ hx).1
  have ly := (eat_le _ _ _ hy).1
  match x, y, lx, ly with
  | c :: x, d :: y, _, _ =>
    have e1 := eat_more (c :: x) (d :: y) 1 _ hx
    rw [List.cons_append] at e1
    simp only [List.cons_append, cutF, e1]
    have e2 : (c :: (x ++ d :: y)).take (c :: x).length = c :: x := by simp
    have e3 : (c :: (x ++ d :: y)).drop (c :: x).length = d :: y := by simp
    rw [e2, e3]
    simp only [cutF, hy]
    simp [cutF]
/-- An equation that was made has its sides as arguments. -/
theorem made_eq {x y : List C} (h : makeE eqS [x, y] = 0) : eqB (makeL eqS [x, y]) = true ∧ argsL (makeL eqS [x, y]) = [x, y] := by
  have hr : allRightB [x, y] = true := by
    cases e : allRightB [x, y]
    · rw [(makeE_form' e)] at h; cases h
    · rfl
  have hx : rightB x = true := allRight_get hr x (by simp)
  have hy : rightB y = true := allRight_get hr y (by simp)
  have hl : makeL eqS [x, y] = ownC eqS 2 :: (x ++ y) := by
    unfold makeL
    rw [h]
    simp
  have hlen : x.length + y.length + 1 ≤ 256 := by
    unfold makeE at h
    split at h
    · split at h
      · cases h
      · rename_i h2
        simp [tot] at h2
        omega
    · cases h
  have hok : (ownC eqS 2).ok = true := by kernel_rfl
  obtain ⟨x1, x2⟩ := right_eat1 hx
  obtain ⟨y1, y2⟩ := right_eat1 hy
  have hb := eat_both x y 1 1 x1 y1
  have hrr : rightB (ownC eqS 2 :: (x ++ y)) = true := by
    rw [right_eat]
    have e : eat (ownC eqS 2 :: (x ++ y)) 1 = some (ownC eqS 2 :: (x ++ y)).length := by
      show (eat (x ++ y) (0 + (argsOf 3 2).toNat)).map (· + 1) = _
      have ea : (0 + (argsOf 3 2).toNat) = 1 + 1 := by decide
      rw [ea, hb]
      simp
    have ec : cellsB (ownC eqS 2 :: (x ++ y)) = true := by
      unfold cellsB at *
      simp only [List.all_cons, List.all_append, hok, x2, y2]
      rfl
    rw [e, ec]
    simp
    omega
  refine ⟨?_, ?_⟩
  · unfold eqB
    rw [hl, hrr]
    kernel_rfl
  · rw [hl]
    unfold argsL
    rw [hrr]
    have lx := (eat_le _ _ _ x1).1
    have ly := (eat_le _ _ _ y1).1
    have hc := cut_two x1 y1 (x.length + y.length - 2)
    have ef : (ownC eqS 2 :: (x ++ y)).length = (x.length + y.length - 2) + 3 := by simp; omega
    rw [ef]
    have hk : headK (ownC eqS 2 :: (x ++ y)) = 3 := rfl
    rw [hk]
    exact hc
theorem eqC_symm (c d : C) : eqC c d = eqC d c := by
  rw [Bool.eq_iff_iff]
  simp only [eqC, eqCells, Bool.and_eq_true, beq_iff_eq]
  constructor <;> (rintro ⟨⟨⟨⟨h1, h2⟩, h3⟩, h4⟩, h5⟩; exact ⟨⟨⟨⟨h1.symm, h2.symm⟩, h3.symm⟩, h4.symm⟩, h5.symm⟩)
theorem makeE_symm (x y : List C) : makeE eqS [x, y] = makeE eqS [y, x] := by
  have e1 : allRightB [x, y] = allRightB [y, x] := by simp [allRightB, Bool.and_comm]
  have e2 : tot [x, y] = tot [y, x] := by simp [tot, Nat.add_comm]
  unfold makeE
  rw [e1, e2]
  rfl
theorem partsB_symm : ∀ (xs ys : List (List C)), partsB xs ys = partsB ys xs
  | [], ys => by cases ys <;> rfl
  | x :: xs, [] => rfl
  | x :: xs, y :: ys => by
    have ih := partsB_symm xs ys
    unfold partsB at *
    simp only [List.zip_cons_cons, List.all_cons]
    rw [ih, makeE_symm x y]
theorem lessB_false {a0 a1 b0 b1 : Int} (h : lessB a0 a1 b0 b1 = true) : lessB b0 b1 a0 a1 = false := by
  simp [lessB] at *
  omega
theorem lessB_total {a0 a1 b0 b1 : Int} (h : lessB a0 a1 b0 b1 = false) (hne : ¬ (a0 = b0 ∧ a1 = b1)) : lessB b0 b1 a0 a1 = true := by
  simp [lessB] at *
  omega
theorem hd_ok {l : List C} (h : rightB l = true) : (hdC l).ok = true := by
  have h1 : 0 < l.length := (right_len h).1
  rw [← hd_get h1]
  exact right_cell h _ (List.getElem_mem _)
theorem var_cell {c : C} (h : c.ok = true) (hk : (c.k == 4) = true) : c.t.toList = [] ∧ c.n = 0 := by
  obtain ⟨k, t, n, vn, vk⟩ := c
  simp only [beq_iff_eq] at hk
  subst hk
  simp only [C.ok, cellB, if_neg (show ¬ ((4 : Int) = 1) by decide), if_neg (show ¬ ((4 : Int) = 2) by decide), if_neg (show ¬ ((4 : Int) = 3) by decide), if_true, Bool.and_eq_true, eqCells, beq_iff_eq] at h
  exact ⟨h.1.1.1.1.2.trans (by rw [ByteArray.toList_eq]), h.1.1.1.2⟩
theorem st_turn {a b : List C} (ha : rightB a = true) (hb : rightB b = true) : stK a b = stK b a ∧ (stK a b = 2 → stV a b = stV b a ∧ stT a b = stT b a) := by
  have hes := eqC_symm (hdC a) (hdC b)
  cases he : eqC (hdC a) (hdC b)
  · rw [he] at hes
    have hne : isV a = true → isV b = true → ¬ ((hdC a).vn = (hdC b).vn ∧ (hdC a).vk = (hdC b).vk) := fun h1 h2 h3 => by
      obtain ⟨t1, n1⟩ := var_cell (hd_ok ha) h1
      obtain ⟨t2, n2⟩ := var_cell (hd_ok hb) h2
      have k1 : (hdC a).k = 4 := by simpa [isV] using h1
      have k2 : (hdC b).k = 4 := by simpa [isV] using h2
      have : eqC (hdC a) (hdC b) = true := by
        simp [eqC, eqCells, k1, k2, t1, t2, n1, n2, h3.1, h3.2]
      rw [he] at this; cases this
    unfold stK stV stT bindsFst
    rw [he, ← hes]
    cases h1 : isV a <;> cases h2 : isV b
    · simp
    · simp
    · simp
    · cases h3 : lessB (hdC a).vn (hdC a).vk (hdC b).vn (hdC b).vk
      · have h4 := lessB_total h3 (hne h1 h2)
        simp [h4]
      · have h4 := lessB_false h3
        simp [h4]
  · rw [he] at hes
    have hk : (hdC a).k = (hdC b).k := by
      have h := he
      unfold eqC eqCells at h
      simp only [Bool.and_eq_true, beq_iff_eq] at h
      exact h.1.1.1.1
    unfold stK
    rw [he, ← hes, partsB_symm (argsL b) (argsL a), ← hk]
    refine ⟨rfl, fun h => ?_⟩
    exfalso
    simp only [if_true] at h
    split at h
    · split at h <;> cases h
    · cases h
end Go.Proofs.YtljggjllijacjaaDoor
