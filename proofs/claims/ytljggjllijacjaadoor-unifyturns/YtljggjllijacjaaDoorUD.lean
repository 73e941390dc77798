/- Step of any terms, in one form. -/
import Derived.Test.YtljggjllijacjaaDoorUC
import Derived.Test.YtljggjllijacjaaDoorUA
import Derived.Test.YtljggjllijacjaaDoorMA
namespace Go.Proofs.YtljggjllijacjaaDoor
open Go.RowKit
attribute [local go_sem ↓] Go.wp_at_zero Go.wp_at_succ
theorem toList_size (t : ByteArray) : t.data.toList.length = t.size := by simp
theorem ok_text {c : C} (h : c.ok = true) : c.t.size ≤ maxLen := by
  obtain ⟨k, t, n, vn, vk⟩ := c
  have hl := toList_size t
  have he : t.toList = (⟨#[]⟩ : ByteArray).toList → t.size = 0 := fun e => by
    rw [ByteArray.toList_eq, ByteArray.toList_eq] at e
    rw [e] at hl
    simpa using hl.symm
  have hs : isNameB t.data.toList = true → t.size ≤ 16 := fun e => by
    unfold isNameB at e
    simp only [Bool.and_eq_true, decide_eq_true_eq] at e
    omega
  have hg : isSignB t.data.toList = true → t.size ≤ 16 := fun e => by
    unfold isSignB at e
    rw [List.contains_iff_mem] at e
    have : ∀ s ∈ signs, s.length ≤ 16 := by decide
    have := this _ e
    omega
  simp only [C.ok, cellB] at h
  show t.size ≤ maxLen
  unfold maxLen
  split at h
  · simp only [Bool.and_eq_true, eqCells, beq_iff_eq] at h
    have := he h.1.1.1.1.2
    omega
  · split at h
    · simp only [Bool.and_eq_true] at h
      have := hs h.2
      omega
    · split at h
      · simp only [Bool.and_eq_true, structFits, Bool.or_eq_true] at h
        rcases h.2 with h | h
        · have := hs h.1; omega
        · have := hg h.1; omega
      · split at h
        · simp only [Bool.and_eq_true, eqCells, beq_iff_eq] at h
          have := he h.1.1.1.1.2
          omega
        · cases h
theorem right_text {l : List C} (h : rightB l = true) : l.length ≤ maxLen ∧ ∀ c ∈ l, c.t.size ≤ maxLen := ⟨by have := (right_len h).2; unfold maxLen; omega, fun c hc => ok_text (right_cell h c hc)⟩
/-- A step's answer in memory. -/
def StU (k : Int) (V : Nm) (T : List C) (P : List (List C)) (e : Ending) (w w' : World) : Prop := ∃ ta tn tc pa pn pc, e = .returned (.agg #[.int .u8 k, .int .i64 V.1, .int .i64 V.2, .slice ta tn tc, .slice pa pn pc]) ∧ OwnT w' w.heap.size (.slice ta tn tc) T ∧ OwnRow w' w.heap.size (.slice pa pn pc) P ∧ Below w.heap.size w w'
def uV (a b : List C) : Nm := if stK a b = 2 then stV a b else (0, 0)
def uT (a b : List C) : List C := if stK a b = 2 then stT a b else []
def uP (a b : List C) : List (List C) := if stK a b = 3 then partsL (argsL a) (argsL b) else []
theorem stU_of {a b : List C} {e : Ending} {w w' : World} (h : StPost a b e w w') : StU (stK a b) (uV a b) (uT a b) (uP a b) e w w' := by
  obtain ⟨hb, h⟩ := h
  unfold uV uT uP
  rcases h with ⟨h1, h2⟩ | ⟨h1, h2⟩ | ⟨h1, ad, n, c, h2, h3⟩ | ⟨h1, ad, n, c, h2, h3⟩
  · rw [h1, if_neg (by decide), if_neg (by decide), if_neg (by decide)]
    exact ⟨none, 0, 0, none, 0, 0, h2, World.ownsRow_nil _ _ _ _, ownRow_nil _ _, hb⟩
  · rw [h1, if_neg (by decide), if_neg (by decide), if_neg (by decide)]
    exact ⟨none, 0, 0, none, 0, 0, h2, World.ownsRow_nil _ _ _ _, ownRow_nil _ _, hb⟩
  · rw [h1, if_pos rfl, if_pos rfl, if_neg (by decide)]
    exact ⟨ad, n, c, none, 0, 0, h2, h3, ownRow_nil _ _, hb⟩
  · rw [h1, if_neg (by decide), if_neg (by decide), if_pos rfl]
    exact ⟨none, 0, 0, ad, n, c, h2, World.ownsRow_nil _ _ _ _, h3, hb⟩
/-- Parts, turned about. -/
def Turned (P P' : List (List C)) : Prop := P.length = P'.length ∧ P.length ≤ 8 ∧ ∀ (i : Nat) (p p' : List C), P[i]? = some p → P'[i]? = some p' → rightB p = true ∧ rightB p' = true ∧ eqB p = true ∧ eqB p' = true ∧ sd1 p = sd2 p' ∧ sd2 p = sd1 p'
theorem turned_nil : Turned [] [] := ⟨rfl, by simp, fun i p p' h => by simp at h⟩
theorem partsB_get {xs ys : List (List C)} (h : partsB xs ys = true) {k : Nat} (hx : k < xs.length) (hy : k < ys.length) : makeE eqS [xs[k], ys[k]] = 0 := by
  unfold partsB at h
  rw [List.all_eq_true] at h
  have := h (xs[k], ys[k]) (by rw [← List.getElem_zip (h := by rw [List.length_zip]; omega)]; exact List.getElem_mem _)
  simpa using this
theorem eq_right {l : List C} (h : eqB l = true) : rightB l = true := by
  unfold eqB at h
  rw [Bool.and_eq_true] at h
  exact h.1
theorem st3 {a b : List C} (h : stK a b = 3) : partsB (argsL a) (argsL b) = true ∧ eqC (hdC a) (hdC b) = true ∧ ((hdC a).k == 3) = true := by
  unfold stK at h
  split at h
  · rename_i h1
    split at h
    · rename_i h2
      split at h
      · rename_i h3
        exact ⟨h3, h1, h2⟩
      · cases h
    · cases h
  · split at h <;> cases h
theorem turned_of {a b : List C} (ha : rightB a = true) (hb : rightB b = true) : Turned (uP a b) (uP b a) := by
  have hk := (st_turn ha hb).1
  unfold uP
  rw [← hk]
  by_cases h3 : stK a b = 3
  · rw [if_pos h3, if_pos h3]
    obtain ⟨h4, h5, h6⟩ := st3 h3
    have hl := args_like ha hb h5 h6
    have h4' : partsB (argsL b) (argsL a) = true := by rw [partsB_symm]; exact h4
    refine ⟨by rw [parts_len _ _ hl, parts_len _ _ hl.symm, hl], by rw [parts_len _ _ hl]; exact argsL_len a, fun i p p' hp hp' => ?_⟩
    have hi : i < (argsL a).length := by have := (List.getElem?_eq_some_iff.1 hp).1; rw [parts_len _ _ hl] at this; exact this
    have hi' : i < (argsL b).length := by omega
    rw [parts_get hi hi'] at hp
    rw [parts_get hi' hi] at hp'
    cases hp
    cases hp'
    obtain ⟨e1, e2⟩ := made_eq (partsB_get h4 hi hi')
    obtain ⟨f1, f2⟩ := made_eq (partsB_get h4' hi' hi)
    obtain ⟨s1, s2⟩ := sd_yes e1 e2
    obtain ⟨t1, t2⟩ := sd_yes f1 f2
    exact ⟨eq_right e1, eq_right f1, e1, f1, by rw [s1, t2], by rw [s2, t1]⟩
  · rw [if_neg h3, if_neg h3]
    exact turned_nil
set_option maxRecDepth 100000 in
set_option maxHeartbeats 2000000 in
theorem u14_no (q : Option Addr) (l1 l2 : List C) (v1 v2 : Value) (w : World) (hT1 : TermAt w v1 l1) (hT2 : TermAt w v2 l2) (hS : Signs w) (hno : (globalB l1 && globalB l2) = false) :
    Calls Tryd.prog 14 #[.pointer q, v1, v2] w fun e w' => StU 4 (0, 0) [] [] e w w' := by
  have HG1 : Hid (∀ W, Below w.heap.size w W → Calls Tryd.prog 35 #[v1] W fun e w' => e = .returned (.bool (globalB l1)) ∧ Below W.heap.size W w') := fun W hW => c36 l1 v1 W (hT1.below hW) (hS.below hW)
  have HG2 : Hid (∀ W, Below w.heap.size w W → Calls Tryd.prog 35 #[v2] W fun e w' => e = .returned (.bool (globalB l2)) ∧ Below W.heap.size W w') := fun W hW => c36 l2 v2 W (hT2.below hW) (hS.below hW)
  have HF0 : Hid (Fr w (w.alloc (.cells #[.int .u8 0, .int .i64 0, .int .i64 0, .slice none 0 0, .slice none 0 0] 49))) := by
    show Below _ _ _
    exact Below.refl _ _
  obtain ⟨a0, c0, hf⟩ := hT1.form
  subst hf
  obtain ⟨b0, d0, hf⟩ := hT2.form
  subst hf
  have HE : Hid (∀ W, Fr w W → ∀ a b c d e, StU 4 (0, 0) [] [] (.returned (.agg #[.int .u8 4, .int .i64 0, .int .i64 0, .slice none 0 0, .slice none 0 0])) w (put49 W w.heap.size a b c d e)) := fun W hW a b c d e =>
    ⟨none, 0, 0, none, 0, 0, rfl, World.ownsRow_nil _ _ _ _, ownRow_nil _ _, put49_bel hW.bel (Nat.le_refl _) a b c d e⟩
  clear hT1 hT2 hS
  generalize globalB l1 = g1 at *
  generalize globalB l2 = g2 at *
  cases g1
  · go_enter Tryd.func14, Tryd.ntmps14
    go_wp2_with fail
    refine (HG1.out _ HF0.out.bel).mono ?_
    rintro e w1 ⟨rfl, hb1⟩
    have HF1 : Hid (Fr w w1) := HF0.out.low hb1
    obtain ⟨⟨s0, s1, s2, s3, s4⟩, sf⟩ := HF1.out.cells
    have f0 := sf 0
    have f1 := sf 1
    have f2 := sf 2
    have f3 := sf 3
    have f4 := sf 4
    have HX := HE.out _ HF1.out
    have HX : Hid (∀ a b c d e, StU 4 (0, 0) [] [] (.returned (.agg #[.int .u8 4, .int .i64 0, .int .i64 0, .slice none 0 0, .slice none 0 0])) w (put49 w1 w.heap.size a b c d e)) := HX
    clear sf HG1 HG2 hb1
    go_wp2_with fail
    exact bodyPost_ret (v := .agg #[.int .u8 4, .int .i64 0, .int .i64 0, .slice none 0 0, .slice none 0 0]) (by simp [results, Tryd.results14, go_sem, s0, s1, s2, s3, s4]) rfl (HX.out _ _ _ _ _)
  · obtain rfl : g2 = false := by simpa using hno
    go_enter Tryd.func14, Tryd.ntmps14
    go_wp2_with fail
    refine (HG1.out _ HF0.out.bel).mono ?_
    rintro e w1 ⟨rfl, hb1⟩
    have HF1 : Hid (Fr w w1) := HF0.out.low hb1
    clear HG1 hb1
    go_wp2_with fail
    refine (HG2.out _ HF1.out.bel).mono ?_
    rintro e w2 ⟨rfl, hb2⟩
    have HF2 : Hid (Fr w w2) := HF1.out.low hb2
    obtain ⟨⟨s0, s1, s2, s3, s4⟩, sf⟩ := HF2.out.cells
    have f0 := sf 0
    have f1 := sf 1
    have f2 := sf 2
    have f3 := sf 3
    have f4 := sf 4
    have HX : Hid (∀ a b c d e, StU 4 (0, 0) [] [] (.returned (.agg #[.int .u8 4, .int .i64 0, .int .i64 0, .slice none 0 0, .slice none 0 0])) w (put49 w2 w.heap.size a b c d e)) := HE.out _ HF2.out
    clear sf HG2 hb2
    go_wp2_with fail
    exact bodyPost_ret (v := .agg #[.int .u8 4, .int .i64 0, .int .i64 0, .slice none 0 0, .slice none 0 0]) (by simp [results, Tryd.results14, go_sem, s0, s1, s2, s3, s4]) rfl (HX.out _ _ _ _ _)
/-- Both steps of two terms. -/
theorem u14_both (m : Hp) (p : Value) (l1 l2 : List C) (v1 v2 : Value) (hm : ∀ x l, lookH m x = some l → l.length * 48 ≤ 140737488355328 ∧ l ≠ [] ∧ rightB l = true) (hW1 : ∀ c ∈ l1, wfN (c.vn, c.vk)) (hW2 : ∀ c ∈ l2, wfN (c.vn, c.vk)) :
    ∃ k V T P P', Turned P P' ∧ (T.length ≤ maxLen ∧ ∀ c ∈ T, c.t.size ≤ maxLen) ∧
      (∀ w, HpV w p m → TermAt w v1 l1 → TermAt w v2 l2 → Signs w → Calls Tryd.prog 14 #[p, v1, v2] w fun e w' => StU k V T P e w w') ∧
      (∀ w, HpV w p m → TermAt w v1 l1 → TermAt w v2 l2 → Signs w → Calls Tryd.prog 14 #[p, v2, v1] w fun e w' => StU k V T P' e w w') := by
  cases hg : (globalB l1 && globalB l2)
  · refine ⟨4, (0, 0), [], [], [], turned_nil, by simp, fun w hp h1 h2 hS => ?_, fun w hp h1 h2 hS => ?_⟩
    · obtain ⟨q, rfl⟩ : ∃ q, p = .pointer q := by
        rcases hp with ⟨h, _⟩ | ⟨_, _, _, _, h, _⟩ <;> exact ⟨_, h⟩
      exact u14_no q l1 l2 v1 v2 w h1 h2 hS hg
    · obtain ⟨q, rfl⟩ : ∃ q, p = .pointer q := by
        rcases hp with ⟨h, _⟩ | ⟨_, _, _, _, h, _⟩ <;> exact ⟨_, h⟩
      exact u14_no q l2 l1 v2 v1 w h2 h1 hS (by rw [Bool.and_comm]; exact hg)
  · rw [Bool.and_eq_true] at hg
    by_cases hex : (∃ a, IsFol m l1 a) ∧ ∃ b, IsFol m l2 b
    · obtain ⟨⟨a, ha⟩, b, hb⟩ := hex
      have hra := fol_right ha.1 hm (global_right hg.1)
      have hrb := fol_right hb.1 hm (global_right hg.2)
      obtain ⟨hk, hvt⟩ := st_turn hra hrb
      have hv : uV a b = uV b a := by
        unfold uV
        rw [← hk]
        by_cases h2 : stK a b = 2
        · rw [if_pos h2, if_pos h2, (hvt h2).1]
        · rw [if_neg h2, if_neg h2]
      have ht : uT a b = uT b a := by
        unfold uT
        rw [← hk]
        by_cases h2 : stK a b = 2
        · rw [if_pos h2, if_pos h2, (hvt h2).2]
        · rw [if_neg h2, if_neg h2]
      refine ⟨stK a b, uV a b, uT a b, uP a b, uP b a, turned_of hra hrb, ?_, fun w hp h1 h2 hS => ?_, fun w hp h1 h2 hS => ?_⟩
      · unfold uT stT
        split
        · split
          · exact right_text hrb
          · exact right_text hra
        · simp
      · refine (u14 m p l1 l2 v1 v2 w hp h1 h2 hW1 hW2 hS hg.1 hg.2 hm).mono ?_
        rintro e w' ⟨a', b', k1, k2, _, _, k3⟩
        obtain rfl := k1.uniq ha
        obtain rfl := k2.uniq hb
        exact stU_of k3
      · refine (u14 m p l2 l1 v2 v1 w hp h2 h1 hW2 hW1 hS hg.2 hg.1 hm).mono ?_
        rintro e w' ⟨b', a', k1, k2, _, _, k3⟩
        obtain rfl := k1.uniq hb
        obtain rfl := k2.uniq ha
        rw [hk, hv, ht]
        exact stU_of k3
    · refine ⟨4, (0, 0), [], [], [], turned_nil, by simp, fun w hp h1 h2 hS => ?_, fun w hp h1 h2 hS => ?_⟩
      · refine (u14 m p l1 l2 v1 v2 w hp h1 h2 hW1 hW2 hS hg.1 hg.2 hm).mono ?_
        rintro e w' ⟨a', b', k1, k2, _⟩
        exact absurd ⟨⟨a', k1⟩, b', k2⟩ hex
      · refine (u14 m p l2 l1 v2 v1 w hp h2 h1 hW2 hW1 hS hg.2 hg.1 hm).mono ?_
        rintro e w' ⟨b', a', k1, k2, _⟩
        exact absurd ⟨⟨a', k2⟩, b', k1⟩ hex
end Go.Proofs.YtljggjllijacjaaDoor
