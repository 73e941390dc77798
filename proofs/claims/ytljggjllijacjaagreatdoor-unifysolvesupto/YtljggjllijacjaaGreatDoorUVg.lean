/- A step the other way round: the plain side. Step of any terms, in one form. -/
import Derived.Test.YtljggjllijacjaaGreatDoorU3g
import Derived.Test.YtljggjllijacjaaGreatDoorUAg
import Derived.Test.YtljggjllijacjaaGreatDoorMAg
namespace Go.Proofs.YtljggjllijacjaaGreatDoor
open Go.RowKit
theorem eat_more : ∀ (l r : List C) (q m : Nat), eat l q = some m → eat (l ++ r) q = some m
 | l, r, 0, m, h => by rw [eat_zero] at h; cases h; rw [eat_zero]
 | [], r, q + 1, m, h => by simp [eat] at h
 | c :: l, r, q + 1, m, h => by
  simp only [eat, Option.map_eq_some_iff] at h
  obtain ⟨m', h', rfl⟩ := h
  simp only [List.cons_append, eat, eat_more l r _ _ h', Option.map_some]
theorem eat_both : ∀ (x y : List C) (p q : Nat), eat x p = some x.length → eat y q = some y.length → eat (x ++ y) (p + q) = some (x.length + y.length)
 | x, y, 0, q, h, k => by
  rw [eat_zero] at h
  have : x = [] := List.eq_nil_of_length_eq_zero (Option.some.inj h).symm
  subst this
  simpa using k
 | [], y, p + 1, q, h, k => by simp [eat] at h
 | c :: x, y, p + 1, q, h, k => by
  simp only [eat, Option.map_eq_some_iff] at h
  obtain ⟨m', h', e⟩ := h
  simp at e
  subst e
  have := eat_both x y (p + (argsOf c.k c.n).toNat) q h' k
  rw [show p + 1 + q = (p + q) + 1 by omega]
  simp only [List.cons_append, eat]
  rw [show p + q + (argsOf c.k c.n).toNat = p + (argsOf c.k c.n).toNat + q by omega, this]
  simp; omega
theorem makeE_form' {text : ByteArray} {ls : List (List C)} (h : allRightB ls = false) : makeE text ls = 6 := by unfold makeE; rw [h]; rfl
theorem right_eat1 {l : List C} (h : rightB l = true) : eat l 1 = some l.length ∧ cellsB l = true := by
 rw [right_eat] at h
 simp only [Bool.and_eq_true, beq_iff_eq] at h
 exact ⟨h.2, h.1.2⟩
theorem cut_two {x y : List C} (hx : eat x 1 = some x.length) (hy : eat y 1 = some y.length) (f : Nat) : cutF (f + 3) (x ++ y) = [x, y] := by
 have lx := (eat_le _ _ _ hx).1
 have ly := (eat_le _ _ _ hy).1
 match x, y, lx, ly with
 | c :: x, d :: y, _, _ =>
  have e1 := eat_more (c :: x) (d :: y) 1 _ hx
  rw [List.cons_append] at e1
  simp only [List.cons_append, cutF, e1]
  have e2 : (c :: (x ++ d :: y)).take (c :: x).length = c :: x := by simp
  have e3 : (c :: (x ++ d :: y)).drop (c :: x).length = d :: y := by simp
  rw [e2, e3]
  simp only [cutF, hy]
  simp [cutF]
/-- An equation that was made has its sides as arguments. -/
theorem made_eq {x y : List C} (h : makeE eqS [x, y] = 0) : eqB (makeL eqS [x, y]) = true ∧ argsL (makeL eqS [x, y]) = [x, y] := by
 have hr : allRightB [x, y] = true := by
  cases e : allRightB [x, y]
  ·rw [(makeE_form' e)] at h; cases h
  ·rfl
 have hx : rightB x = true := allRight_get hr x (by simp)
 have hy : rightB y = true := allRight_get hr y (by simp)
 have hl : makeL eqS [x, y] = ownC eqS 2 :: (x ++ y) := by
  unfold makeL
  rw [h]
  simp
 have hlen : x.length + y.length + 1 ≤ 256 := by
  unfold makeE at h
  split at h
  ·split at h
   ·cases h
   ·rename_i h2
    simp [tot] at h2
    omega
  ·cases h
 have hok : (ownC eqS 2).ok = true := by kernel_rfl
 obtain ⟨x1, x2⟩ := right_eat1 hx
 obtain ⟨y1, y2⟩ := right_eat1 hy
 have hb := eat_both x y 1 1 x1 y1
 have hrr : rightB (ownC eqS 2 :: (x ++ y)) = true := by
  rw [right_eat]
  have e : eat (ownC eqS 2 :: (x ++ y)) 1 = some (ownC eqS 2 :: (x ++ y)).length := by
   show (eat (x ++ y) (0 + (argsOf 3 2).toNat)).map (· + 1) = _
   have ea : (0 + (argsOf 3 2).toNat) = 1 + 1 := by decide
   rw [ea, hb]
   simp
  have ec : cellsB (ownC eqS 2 :: (x ++ y)) = true := by
   unfold cellsB at *
   simp only [List.all_cons, List.all_append, hok, x2, y2]
   rfl
  rw [e, ec]
  simp
  omega
 refine ⟨?_, ?_⟩
 ·unfold eqB
  rw [hl, hrr]
  kernel_rfl
 ·rw [hl]
  unfold argsL
  rw [hrr]
  have lx := (eat_le _ _ _ x1).1
  have ly := (eat_le _ _ _ y1).1
  have hc := cut_two x1 y1 (x.length + y.length - 2)
  have ef : (ownC eqS 2 :: (x ++ y)).length = (x.length + y.length - 2) + 3 := by simp; omega
  rw [ef]
  have hk : headK (ownC eqS 2 :: (x ++ y)) = 3 := rfl
  rw [hk]
  exact hc
theorem eqC_symm (c d : C) : eqC c d = eqC d c := by
 rw [Bool.eq_iff_iff]
 simp only [eqC, eqCells, Bool.and_eq_true, beq_iff_eq]
 constructor <;> (rintro ⟨⟨⟨⟨h1, h2⟩, h3⟩, h4⟩, h5⟩; exact ⟨⟨⟨⟨h1.symm, h2.symm⟩, h3.symm⟩, h4.symm⟩, h5.symm⟩)
theorem makeE_symm (x y : List C) : makeE eqS [x, y] = makeE eqS [y, x] := by
 have e1 : allRightB [x, y] = allRightB [y, x] := by simp [allRightB, Bool.and_comm]
 have e2 : tot [x, y] = tot [y, x] := by simp [tot, Nat.add_comm]
 unfold makeE
 rw [e1, e2]
 rfl
theorem partsB_symm : ∀ (xs ys : List (List C)), partsB xs ys = partsB ys xs
 | [], ys => by cases ys <;> rfl
 | x :: xs, [] => rfl
 | x :: xs, y :: ys => by
  have ih := partsB_symm xs ys
  unfold partsB at *
  simp only [List.zip_cons_cons, List.all_cons]
  rw [ih, makeE_symm x y]
theorem lessB_false {a0 a1 b0 b1 : Int} (h : lessB a0 a1 b0 b1 = true) : lessB b0 b1 a0 a1 = false := by
 simp [lessB] at *
 omega
theorem lessB_total {a0 a1 b0 b1 : Int} (h : lessB a0 a1 b0 b1 = false) (hne : ¬ (a0 = b0 ∧ a1 = b1)) : lessB b0 b1 a0 a1 = true := by
 simp [lessB] at *
 omega
theorem hd_ok {l : List C} (h : rightB l = true) : (hdC l).ok = true := by
 have h1 : 0 < l.length := (right_len h).1
 rw [← hd_get h1]
 exact right_cell h _ (List.getElem_mem _)
theorem var_cell {c : C} (h : c.ok = true) (hk : (c.k == 4) = true) : c.t.toList = [] ∧ c.n = 0 := by
 obtain ⟨k, t, n, vn, vk⟩ := c
 simp only [beq_iff_eq] at hk
 subst hk
 simp only [C.ok, cellB, if_neg (show ¬ ((4 : Int) = 1) by decide), if_neg (show ¬ ((4 : Int) = 2) by decide), if_neg (show ¬ ((4 : Int) = 3) by decide), if_true, Bool.and_eq_true, eqCells, beq_iff_eq] at h
 exact ⟨h.1.1.1.1.2.trans (by rw [ByteArray.toList_eq]), h.1.1.1.2⟩
theorem st_turn {a b : List C} (ha : rightB a = true) (hb : rightB b = true) : stK a b = stK b a ∧ (stK a b = 2 → stV a b = stV b a ∧ stT a b = stT b a) := by
 have hes := eqC_symm (hdC a) (hdC b)
 cases he : eqC (hdC a) (hdC b)
 ·rw [he] at hes
  have hne : isV a = true → isV b = true → ¬ ((hdC a).vn = (hdC b).vn ∧ (hdC a).vk = (hdC b).vk) := fun h1 h2 h3 => by
   obtain ⟨t1, n1⟩ := var_cell (hd_ok ha) h1
   obtain ⟨t2, n2⟩ := var_cell (hd_ok hb) h2
   have k1 : (hdC a).k = 4 := by simpa [isV] using h1
   have k2 : (hdC b).k = 4 := by simpa [isV] using h2
   have : eqC (hdC a) (hdC b) = true := by
    simp [eqC, eqCells, k1, k2, t1, t2, n1, n2, h3.1, h3.2]
   rw [he] at this; cases this
  unfold stK stV stT bindsFst
  rw [he, ← hes]
  cases h1 : isV a <;> cases h2 : isV b
  ·simp
  ·simp
  ·simp
  ·cases h3 : lessB (hdC a).vn (hdC a).vk (hdC b).vn (hdC b).vk
   ·have h4 := lessB_total h3 (hne h1 h2)
    simp [h4]
   ·have h4 := lessB_false h3
    simp [h4]
 ·rw [he] at hes
  have hk : (hdC a).k = (hdC b).k := by
   have h := he
   unfold eqC eqCells at h
   simp only [Bool.and_eq_true, beq_iff_eq] at h
   exact h.1.1.1.1
  unfold stK
  rw [he, ← hes, partsB_symm (argsL b) (argsL a), ← hk]
  refine ⟨rfl, fun h => ?_⟩
  exfalso
  simp only [if_true] at h
  split at h
  ·split at h <;> cases h
  ·cases h
end Go.Proofs.YtljggjllijacjaaGreatDoor

namespace Go.Proofs.YtljggjllijacjaaGreatDoor
open Go.RowKit
attribute [local go_sem ↓] Go.wp_at_zero Go.wp_at_succ
theorem toList_size (t : ByteArray) : t.data.toList.length = t.size := by simp
theorem ok_text {c : C} (h : c.ok = true) : c.t.size ≤ maxLen := by
 obtain ⟨k, t, n, vn, vk⟩ := c
 have hl := toList_size t
 have he : t.toList = (⟨#[]⟩ : ByteArray).toList → t.size = 0 := fun e => by
  rw [ByteArray.toList_eq, ByteArray.toList_eq] at e
  rw [e] at hl
  simpa using hl.symm
 have hs : isNameB t.data.toList = true → t.size ≤ 16 := fun e => by
  unfold isNameB at e
  simp only [Bool.and_eq_true, decide_eq_true_eq] at e
  omega
 have hg : isSignB t.data.toList = true → t.size ≤ 16 := fun e => by
  unfold isSignB at e
  rw [List.contains_iff_mem] at e
  have : ∀ s ∈ signs, s.length ≤ 16 := by decide
  have := this _ e
  omega
 simp only [C.ok, cellB] at h
 show t.size ≤ maxLen
 unfold maxLen
 split at h
 ·simp only [Bool.and_eq_true, eqCells, beq_iff_eq] at h
  have := he h.1.1.1.1.2
  omega
 ·split at h
  ·simp only [Bool.and_eq_true] at h
   have := hs h.2
   omega
  ·split at h
   ·simp only [Bool.and_eq_true, structFits, Bool.or_eq_true] at h
    rcases h.2 with h | h
    ·have := hs h.1; omega
    ·have := hg h.1; omega
   ·split at h
    ·simp only [Bool.and_eq_true, eqCells, beq_iff_eq] at h
     have := he h.1.1.1.1.2
     omega
    ·cases h
theorem right_text {l : List C} (h : rightB l = true) : l.length ≤ maxLen ∧ ∀ c ∈ l, c.t.size ≤ maxLen := ⟨by have := (right_len h).2; unfold maxLen; omega, fun c hc => ok_text (right_cell h c hc)⟩
/-- A step's answer in memory. -/
def StU (k : Int) (V : Nm) (T : List C) (P : List (List C)) (e : Ending) (w w' : World) : Prop := ∃ ta tn tc pa pn pc, e = .returned (.agg #[.int .u8 k, .int .i64 V.1, .int .i64 V.2, .slice ta tn tc, .slice pa pn pc]) ∧ OwnT w' w.heap.size (.slice ta tn tc) T ∧ OwnRow w' w.heap.size (.slice pa pn pc) P ∧ Below w.heap.size w w'
def uV (a b : List C) : Nm := if stK a b = 2 then stV a b else (0, 0)
def uT (a b : List C) : List C := if stK a b = 2 then stT a b else []
def uP (a b : List C) : List (List C) := if stK a b = 3 then partsL (argsL a) (argsL b) else []
/-- Parts, turned about. -/
def Turned (P P' : List (List C)) : Prop := P.length = P'.length ∧ P.length ≤ 8 ∧ ∀ (i : Nat) (p p' : List C), P[i]? = some p → P'[i]? = some p' → rightB p = true ∧ rightB p' = true ∧ eqB p = true ∧ eqB p' = true ∧ sd1 p = sd2 p' ∧ sd2 p = sd1 p'
theorem turned_nil : Turned [] [] := ⟨rfl, by simp, fun i p p' h => by simp at h⟩
theorem partsB_get {xs ys : List (List C)} (h : partsB xs ys = true) {k : Nat} (hx : k < xs.length) (hy : k < ys.length) : makeE eqS [xs[k], ys[k]] = 0 := by
 unfold partsB at h
 rw [List.all_eq_true] at h
 have := h (xs[k], ys[k]) (by rw [← List.getElem_zip (h := by rw [List.length_zip]; omega)]; exact List.getElem_mem _)
 simpa using this
theorem eq_right {l : List C} (h : eqB l = true) : rightB l = true := by
 unfold eqB at h
 rw [Bool.and_eq_true] at h
 exact h.1
theorem st3 {a b : List C} (h : stK a b = 3) : partsB (argsL a) (argsL b) = true ∧ eqC (hdC a) (hdC b) = true ∧ ((hdC a).k == 3) = true := by
 unfold stK at h
 split at h
 ·rename_i h1
  split at h
  ·rename_i h2
   split at h
   ·rename_i h3
    exact ⟨h3, h1, h2⟩
   ·cases h
  ·cases h
 ·split at h <;> cases h
theorem turned_of {a b : List C} (ha : rightB a = true) (hb : rightB b = true) : Turned (uP a b) (uP b a) := by
 have hk := (st_turn ha hb).1
 unfold uP
 rw [← hk]
 by_cases h3 : stK a b = 3
 ·rw [if_pos h3, if_pos h3]
  obtain ⟨h4, h5, h6⟩ := st3 h3
  have hl := args_like ha hb h5 h6
  have h4' : partsB (argsL b) (argsL a) = true := by rw [partsB_symm]; exact h4
  refine ⟨by rw [parts_len _ _ hl, parts_len _ _ hl.symm, hl], by rw [parts_len _ _ hl]; exact argsL_len a, fun i p p' hp hp' => ?_⟩
  have hi : i < (argsL a).length := by have := (List.getElem?_eq_some_iff.1 hp).1; rw [parts_len _ _ hl] at this; exact this
  have hi' : i < (argsL b).length := by omega
  rw [parts_get hi hi'] at hp
  rw [parts_get hi' hi] at hp'
  cases hp
  cases hp'
  obtain ⟨e1, e2⟩ := made_eq (partsB_get h4 hi hi')
  obtain ⟨f1, f2⟩ := made_eq (partsB_get h4' hi' hi)
  obtain ⟨s1, s2⟩ := sd_yes e1 e2
  obtain ⟨t1, t2⟩ := sd_yes f1 f2
  exact ⟨eq_right e1, eq_right f1, e1, f1, by rw [s1, t2], by rw [s2, t1]⟩
 ·rw [if_neg h3, if_neg h3]
  exact turned_nil
set_option maxRecDepth 100000 in
set_option maxHeartbeats 2000000 in
theorem u14_no (q : Option Addr) (l1 l2 : List C) (v1 v2 : Value) (w : World) (hT1 : TermAt w v1 l1) (hT2 : TermAt w v2 l2) (hS : Signs w) (hno : (globalB l1 && globalB l2) = false) :
  Calls Tryz.prog 8 #[.pointer q, v1, v2] w fun e w' => StU 4 (0, 0) [] [] e w w' := by
 have HG1 : Hid (∀ W, Below w.heap.size w W → Calls Tryz.prog 37 #[v1] W fun e w' => e = .returned (.bool (globalB l1)) ∧ Below W.heap.size W w') := fun W hW => c36 l1 v1 W (hT1.below hW) (hS.below hW)
 have HG2 : Hid (∀ W, Below w.heap.size w W → Calls Tryz.prog 37 #[v2] W fun e w' => e = .returned (.bool (globalB l2)) ∧ Below W.heap.size W w') := fun W hW => c36 l2 v2 W (hT2.below hW) (hS.below hW)
 have HF0 : Hid (Fr w (w.alloc (.cells #[.int .u8 0, .int .i64 0, .int .i64 0, .slice none 0 0, .slice none 0 0] 35))) := by
  show Below _ _ _
  exact Below.refl _ _
 obtain ⟨a0, c0, hf⟩ := hT1.form
 subst hf
 obtain ⟨b0, d0, hf⟩ := hT2.form
 subst hf
 have HE : Hid (∀ W, Fr w W → ∀ a b c d e, StU 4 (0, 0) [] [] (.returned (.agg #[.int .u8 4, .int .i64 0, .int .i64 0, .slice none 0 0, .slice none 0 0])) w (put49 W w.heap.size a b c d e)) := fun W hW a b c d e =>
  ⟨none, 0, 0, none, 0, 0, rfl, World.ownsRow_nil _ _ _ _, ownRow_nil _ _, put49_bel hW.bel (Nat.le_refl _) a b c d e⟩
 clear hT1 hT2 hS
 generalize globalB l1 = g1 at *
 generalize globalB l2 = g2 at *
 cases g1
 ·go_enter Tryz.func8, Tryz.ntmps8
  go_wp2_with fail
  refine (HG1.out _ HF0.out.bel).mono ?_
  rintro e w1 ⟨rfl, hb1⟩
  have HF1 : Hid (Fr w w1) := HF0.out.low hb1
  obtain ⟨⟨s0, s1, s2, s3, s4⟩, sf⟩ := HF1.out.cells
  have f0 := sf 0
  have f1 := sf 1
  have f2 := sf 2
  have f3 := sf 3
  have f4 := sf 4
  have HX := HE.out _ HF1.out
  have HX : Hid (∀ a b c d e, StU 4 (0, 0) [] [] (.returned (.agg #[.int .u8 4, .int .i64 0, .int .i64 0, .slice none 0 0, .slice none 0 0])) w (put49 w1 w.heap.size a b c d e)) := HX
  clear sf HG1 HG2 hb1
  go_wp2_with fail
  exact bodyPost_ret (v := .agg #[.int .u8 4, .int .i64 0, .int .i64 0, .slice none 0 0, .slice none 0 0]) (by simp [results, Tryz.results8, go_sem, s0, s1, s2, s3, s4]) rfl (HX.out _ _ _ _ _)
 ·obtain rfl : g2 = false := by simpa using hno
  go_enter Tryz.func8, Tryz.ntmps8
  go_wp2_with fail
  refine (HG1.out _ HF0.out.bel).mono ?_
  rintro e w1 ⟨rfl, hb1⟩
  have HF1 : Hid (Fr w w1) := HF0.out.low hb1
  clear HG1 hb1
  go_wp2_with fail
  refine (HG2.out _ HF1.out.bel).mono ?_
  rintro e w2 ⟨rfl, hb2⟩
  have HF2 : Hid (Fr w w2) := HF1.out.low hb2
  obtain ⟨⟨s0, s1, s2, s3, s4⟩, sf⟩ := HF2.out.cells
  have f0 := sf 0
  have f1 := sf 1
  have f2 := sf 2
  have f3 := sf 3
  have f4 := sf 4
  have HX : Hid (∀ a b c d e, StU 4 (0, 0) [] [] (.returned (.agg #[.int .u8 4, .int .i64 0, .int .i64 0, .slice none 0 0, .slice none 0 0])) w (put49 w2 w.heap.size a b c d e)) := HE.out _ HF2.out
  clear sf HG2 hb2
  go_wp2_with fail
  exact bodyPost_ret (v := .agg #[.int .u8 4, .int .i64 0, .int .i64 0, .slice none 0 0, .slice none 0 0]) (by simp [results, Tryz.results8, go_sem, s0, s1, s2, s3, s4]) rfl (HX.out _ _ _ _ _)
end Go.Proofs.YtljggjllijacjaaGreatDoor
