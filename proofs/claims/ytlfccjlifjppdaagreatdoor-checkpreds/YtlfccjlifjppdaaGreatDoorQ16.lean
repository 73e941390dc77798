/- The contract of IsGuard. Contract of the reference Args. Sums, by their parts. -/
import Derived.Test.YtlfccjlifjppdaaGreatDoorQ12
import Derived.Test.YtlfccjlifjppdaaGreatDoorQ11
namespace Go.Proofs.YtlfccjlifjppdaaGreatDoor
open Go.RowKit
def flatB (l : List C) : Bool := (l.length : Int) == (1 : Int) + (headC l).n
/-- What a right term's text asks of it as a guard. -/
def guardK (t : ByteArray) (a b c d : Bool) : Bool := if t.toList == [60] then a else if t.toList == [61, 60] then a else if t.toList == [62] then a else if t.toList == [62, 61] then a else if t.toList == [61, 58, 61] then a else if t.toList == [61, 92, 61] then a else if t.toList == [105, 110, 116, 101, 103, 101, 114] then b else if t.toList == [97, 116, 111, 109] then b else if t.toList == [99, 111, 109, 112, 111, 117, 110, 100] then b else if t.toList == [107, 110, 111, 119, 110] then b else if t.toList == [101, 113, 117, 97, 108] then c else if t.toList == [117, 110, 108, 105, 107, 101] then c else d
def guardS (l : List C) : Bool := guardK (headC l).t (sumAll (l.drop 1)) ((headC l).n == 1 && flatB l) ((headC l).n == 2 && flatB l) (isTrueS l)
def isGuardS (l : List C) : Bool := rightB l && guardS l
set_option maxRecDepth 100000 in
set_option maxHeartbeats 4000000 in
theorem k10 (l : List C) (v : Value) (w : World) (h : TermAt w v l) (hS : Signs w) :
    Calls Tryz.prog 35 #[v] w fun e w' => e = .returned (.bool (isGuardS l)) ∧ Below w.heap.size w w' := by
  have H24 := c22 l v w h hS
  have HT : Hid (TermAt w v l) := h
  cases hr : rightB l
  · have e : isGuardS l = false := by unfold isGuardS; rw [hr]; rfl
    rw [e]
    rw [hr] at H24
    clear h hr e
    go_enter Tryz.func35, Tryz.ntmps35
    go_wp2_with fail
    refine H24.mono ?_
    rintro e w' ⟨rfl, hb⟩
    go_wp2_with fail
    go_ret
    exact ⟨rfl, hb⟩
  · have h1 : 0 < l.length := (right_len hr).1
    have e : isGuardS l = guardS l := by unfold isGuardS; rw [hr]; rfl
    rw [e]
    rw [hr] at H24
    have HF : Hid (flatB l = ((l.length : Int) == (1 : Int) + l[0].n)) := by
      show flatB l = _
      unfold flatB; rw [headC_get h1]
    have HG : Hid (guardS l = if l[0].t.toList == [60] then (sumAll (l.drop 1)) else if l[0].t.toList == [61, 60] then (sumAll (l.drop 1)) else if l[0].t.toList == [62] then (sumAll (l.drop 1)) else if l[0].t.toList == [62, 61] then (sumAll (l.drop 1)) else if l[0].t.toList == [61, 58, 61] then (sumAll (l.drop 1)) else if l[0].t.toList == [61, 92, 61] then (sumAll (l.drop 1)) else if l[0].t.toList == [105, 110, 116, 101, 103, 101, 114] then (l[0].n == 1 && flatB l) else if l[0].t.toList == [97, 116, 111, 109] then (l[0].n == 1 && flatB l) else if l[0].t.toList == [99, 111, 109, 112, 111, 117, 110, 100] then (l[0].n == 1 && flatB l) else if l[0].t.toList == [107, 110, 111, 119, 110] then (l[0].n == 1 && flatB l) else if l[0].t.toList == [101, 113, 117, 97, 108] then (l[0].n == 2 && flatB l) else if l[0].t.toList == [117, 110, 108, 105, 107, 101] then (l[0].n == 2 && flatB l) else (isTrueS l)) := by
      show guardS l = _
      unfold guardS guardK
      rw [headC_get h1]
    have H29 : Hid (∀ W, Below w.heap.size w W → Calls Tryz.prog 78 #[v] W fun e w' => e = .returned (.bool (isTrueS l)) ∧ Below W.heap.size W w') := fun W hW => k29 l v W (HT.out.below hW)
    have H28 : Hid (l[0].n = 1 ∨ l[0].n = 2 → ∀ W, Below w.heap.size w W → Calls Tryz.prog 77 #[v] W fun e w' => e = .returned (.bool (flatB l)) ∧ Below W.heap.size W w') := fun hn W hW => by
      have h := k28 l v W (HT.out.below hW) h1 (by omega)
      rw [← HF.out] at h
      exact h
    have HL3 : Hid (isSignB l[0].t.data.toList = true → 0 < (l.drop 1).length) := fun hs => by
      obtain ⟨e1, e2⟩ := sign_cell (right_cell hr _ (List.getElem_mem h1)) hs
      obtain ⟨m, hm1, hml, _⟩ := two_parts hr h1 e1 e2
      rw [List.length_drop]; omega
    obtain ⟨⟨hc, htx⟩, h⟩ := h
    rcases h with ⟨rfl, _⟩ | ⟨b, o, cap, rfl, h2, h5, h3, h4⟩
    · simp at h1
    have hcell : ∀ W, Below w.heap.size w W → (W.cell? ⟨b, o, none⟩ = some (.int .u8 l[0].k) ∧ W.cell? ⟨b, o + 1, none⟩ = some (.string l[0].t) ∧ W.cell? ⟨b, o + 2, none⟩ = some (.int .i64 l[0].n) ∧ W.cell? ⟨b, o + 3, none⟩ = some (.int .i64 l[0].vn) ∧ W.cell? ⟨b, o + 4, none⟩ = some (.int .i64 l[0].vk)) := fun W hW => by
      obtain ⟨p0, p1, p2, p3, p4⟩ := term_cells (range_below h3 h4 hW) 0 h1
      simp only [Nat.zero_mul, Nat.add_zero] at p0 p1 p2 p3 p4
      exact ⟨p0, p1, p2, p3, p4⟩
    have HCL : Hid (∀ W, Below w.heap.size w W → _) := hcell
    have H25 : Hid (isSignB l[0].t.data.toList = true → 1 < cap ∧ ∀ W, Below w.heap.size w W → Calls Tryz.prog 76 #[.slice (some ⟨b, o + 5, none⟩) (l.length - 1) (cap - 1)] W fun e w' => e = .returned (.bool (sumAll (l.drop 1))) ∧ Below W.heap.size W w') := fun hs => by
      have hd := HL3.out hs
      refine ⟨by rw [List.length_drop] at hd; omega, fun W hW => ?_⟩
      have ht := sub_term (range_below h3 h4 hW) (Nat.lt_of_lt_of_le h4 hW.size) htx h2 h5 1 (l.length - 1) (by omega)
      rw [List.take_of_length_le (by rw [List.length_drop]; exact Nat.le_refl _), show o + 1 * 5 = o + 5 by omega] at ht
      exact k25 (l.drop 1) _ W ht hd
    have h1' : (0 : Int) < (l.length : Int) := by omega
    have h1'' : (1 : Int) ≤ (l.length : Int) := by omega
    have hcap' : (l.length : Int) ≤ (cap : Int) := by omega
    have hB : ∀ (W : World) (o : Obj), Below w.heap.size w W → Hid (Below w.heap.size w (W.alloc o)) := fun W o hW => hW.alloc hW.size o
    have hsg : ∀ t : List UInt8, l[0].t.toList = t → l[0].t.data.toList = t := fun t ht => by rw [← ByteArray.toList_eq]; exact ht
    clear hr h3 e hcell HL3 HF
    generalize sumAll (l.drop 1) = sa at *
    generalize isTrueS l = it at *
    generalize flatB l = fb at *
    generalize l[0] = c at *
    cases h1 : (c.t.toList == [60])
    rotate_left
    · simp only [h1, if_true] at HG
      obtain ⟨hcp, H25'⟩ := H25.out (by rw [hsg [60] (by simpa using h1)]; decide)
      have hcp1 : ¬ (cap = 1) := by omega
      have hcp2 : ¬ (cap - 1 = 0) := by omega
      have hcp3 : (1 : Int) < (cap : Int) := by omega
      go_enter Tryz.func35, Tryz.ntmps35
      go_wp2_with fail
      refine H24.mono ?_
      rintro e w' ⟨rfl, hb⟩
      obtain ⟨p0, p1, p2, p3, p4⟩ := HCL.out _ hb
      have hba := hB w' (.cells #[.int .u8 c.k, .string c.t, .int .i64 c.n, .int .i64 c.vn, .int .i64 c.vk] 82) hb
      go_wp2_with fail
      refine (H25' _ hba.out).mono ?_
      rintro e w'' ⟨rfl, hb2⟩
      go_wp2_with fail
      go_ret
      exact ⟨by rw [HG.out]; rfl, hba.out.trans (hb2.mono hba.out.size)⟩
    cases h2 : (c.t.toList == [61, 60])
    rotate_left
    · simp only [h1, h2, if_true, if_false, Bool.false_eq_true] at HG
      obtain ⟨hcp, H25'⟩ := H25.out (by rw [hsg [61, 60] (by simpa using h2)]; decide)
      have hcp1 : ¬ (cap = 1) := by omega
      have hcp2 : ¬ (cap - 1 = 0) := by omega
      have hcp3 : (1 : Int) < (cap : Int) := by omega
      go_enter Tryz.func35, Tryz.ntmps35
      go_wp2_with fail
      refine H24.mono ?_
      rintro e w' ⟨rfl, hb⟩
      obtain ⟨p0, p1, p2, p3, p4⟩ := HCL.out _ hb
      have hba := hB w' (.cells #[.int .u8 c.k, .string c.t, .int .i64 c.n, .int .i64 c.vn, .int .i64 c.vk] 82) hb
      go_wp2_with fail
      refine (H25' _ hba.out).mono ?_
      rintro e w'' ⟨rfl, hb2⟩
      go_wp2_with fail
      go_ret
      exact ⟨by rw [HG.out]; rfl, hba.out.trans (hb2.mono hba.out.size)⟩
    cases h3 : (c.t.toList == [62])
    rotate_left
    · simp only [h1, h2, h3, if_true, if_false, Bool.false_eq_true] at HG
      obtain ⟨hcp, H25'⟩ := H25.out (by rw [hsg [62] (by simpa using h3)]; decide)
      have hcp1 : ¬ (cap = 1) := by omega
      have hcp2 : ¬ (cap - 1 = 0) := by omega
      have hcp3 : (1 : Int) < (cap : Int) := by omega
      go_enter Tryz.func35, Tryz.ntmps35
      go_wp2_with fail
      refine H24.mono ?_
      rintro e w' ⟨rfl, hb⟩
      obtain ⟨p0, p1, p2, p3, p4⟩ := HCL.out _ hb
      have hba := hB w' (.cells #[.int .u8 c.k, .string c.t, .int .i64 c.n, .int .i64 c.vn, .int .i64 c.vk] 82) hb
      go_wp2_with fail
      refine (H25' _ hba.out).mono ?_
      rintro e w'' ⟨rfl, hb2⟩
      go_wp2_with fail
      go_ret
      exact ⟨by rw [HG.out]; rfl, hba.out.trans (hb2.mono hba.out.size)⟩
    cases h4 : (c.t.toList == [62, 61])
    rotate_left
    · simp only [h1, h2, h3, h4, if_true, if_false, Bool.false_eq_true] at HG
      obtain ⟨hcp, H25'⟩ := H25.out (by rw [hsg [62, 61] (by simpa using h4)]; decide)
      have hcp1 : ¬ (cap = 1) := by omega
      have hcp2 : ¬ (cap - 1 = 0) := by omega
      have hcp3 : (1 : Int) < (cap : Int) := by omega
      go_enter Tryz.func35, Tryz.ntmps35
      go_wp2_with fail
      refine H24.mono ?_
      rintro e w' ⟨rfl, hb⟩
      obtain ⟨p0, p1, p2, p3, p4⟩ := HCL.out _ hb
      have hba := hB w' (.cells #[.int .u8 c.k, .string c.t, .int .i64 c.n, .int .i64 c.vn, .int .i64 c.vk] 82) hb
      go_wp2_with fail
      refine (H25' _ hba.out).mono ?_
      rintro e w'' ⟨rfl, hb2⟩
      go_wp2_with fail
      go_ret
      exact ⟨by rw [HG.out]; rfl, hba.out.trans (hb2.mono hba.out.size)⟩
    cases h5 : (c.t.toList == [61, 58, 61])
    rotate_left
    · simp only [h1, h2, h3, h4, h5, if_true, if_false, Bool.false_eq_true] at HG
      obtain ⟨hcp, H25'⟩ := H25.out (by rw [hsg [61, 58, 61] (by simpa using h5)]; decide)
      have hcp1 : ¬ (cap = 1) := by omega
      have hcp2 : ¬ (cap - 1 = 0) := by omega
      have hcp3 : (1 : Int) < (cap : Int) := by omega
      go_enter Tryz.func35, Tryz.ntmps35
      go_wp2_with fail
      refine H24.mono ?_
      rintro e w' ⟨rfl, hb⟩
      obtain ⟨p0, p1, p2, p3, p4⟩ := HCL.out _ hb
      have hba := hB w' (.cells #[.int .u8 c.k, .string c.t, .int .i64 c.n, .int .i64 c.vn, .int .i64 c.vk] 82) hb
      go_wp2_with fail
      refine (H25' _ hba.out).mono ?_
      rintro e w'' ⟨rfl, hb2⟩
      go_wp2_with fail
      go_ret
      exact ⟨by rw [HG.out]; rfl, hba.out.trans (hb2.mono hba.out.size)⟩
    cases h6 : (c.t.toList == [61, 92, 61])
    rotate_left
    · simp only [h1, h2, h3, h4, h5, h6, if_true, if_false, Bool.false_eq_true] at HG
      obtain ⟨hcp, H25'⟩ := H25.out (by rw [hsg [61, 92, 61] (by simpa using h6)]; decide)
      have hcp1 : ¬ (cap = 1) := by omega
      have hcp2 : ¬ (cap - 1 = 0) := by omega
      have hcp3 : (1 : Int) < (cap : Int) := by omega
      go_enter Tryz.func35, Tryz.ntmps35
      go_wp2_with fail
      refine H24.mono ?_
      rintro e w' ⟨rfl, hb⟩
      obtain ⟨p0, p1, p2, p3, p4⟩ := HCL.out _ hb
      have hba := hB w' (.cells #[.int .u8 c.k, .string c.t, .int .i64 c.n, .int .i64 c.vn, .int .i64 c.vk] 82) hb
      go_wp2_with fail
      refine (H25' _ hba.out).mono ?_
      rintro e w'' ⟨rfl, hb2⟩
      go_wp2_with fail
      go_ret
      exact ⟨by rw [HG.out]; rfl, hba.out.trans (hb2.mono hba.out.size)⟩
    cases h7 : (c.t.toList == [105, 110, 116, 101, 103, 101, 114])
    rotate_left
    · simp only [h1, h2, h3, h4, h5, h6, h7, if_true, if_false, Bool.false_eq_true] at HG
      cases hn : (c.n == 1)
      · rw [hn] at HG
        go_enter Tryz.func35, Tryz.ntmps35
        go_wp2_with fail
        refine H24.mono ?_
        rintro e w' ⟨rfl, hb⟩
        obtain ⟨p0, p1, p2, p3, p4⟩ := HCL.out _ hb
        have hba := hB w' (.cells #[.int .u8 c.k, .string c.t, .int .i64 c.n, .int .i64 c.vn, .int .i64 c.vk] 82) hb
        go_wp2_with fail
        go_ret
        exact ⟨by rw [HG.out]; rfl, hba.out⟩
      · rw [hn] at HG
        have H28' := H28.out (by simp at hn; omega)
        go_enter Tryz.func35, Tryz.ntmps35
        go_wp2_with fail
        refine H24.mono ?_
        rintro e w' ⟨rfl, hb⟩
        obtain ⟨p0, p1, p2, p3, p4⟩ := HCL.out _ hb
        have hba := hB w' (.cells #[.int .u8 c.k, .string c.t, .int .i64 c.n, .int .i64 c.vn, .int .i64 c.vk] 82) hb
        go_wp2_with fail
        refine (H28' _ hba.out).mono ?_
        rintro e w'' ⟨rfl, hb2⟩
        go_wp2_with fail
        go_ret
        exact ⟨by rw [HG.out]; rfl, hba.out.trans (hb2.mono hba.out.size)⟩
    cases h8 : (c.t.toList == [97, 116, 111, 109])
    rotate_left
    · simp only [h1, h2, h3, h4, h5, h6, h7, h8, if_true, if_false, Bool.false_eq_true] at HG
      cases hn : (c.n == 1)
      · rw [hn] at HG
        go_enter Tryz.func35, Tryz.ntmps35
        go_wp2_with fail
        refine H24.mono ?_
        rintro e w' ⟨rfl, hb⟩
        obtain ⟨p0, p1, p2, p3, p4⟩ := HCL.out _ hb
        have hba := hB w' (.cells #[.int .u8 c.k, .string c.t, .int .i64 c.n, .int .i64 c.vn, .int .i64 c.vk] 82) hb
        go_wp2_with fail
        go_ret
        exact ⟨by rw [HG.out]; rfl, hba.out⟩
      · rw [hn] at HG
        have H28' := H28.out (by simp at hn; omega)
        go_enter Tryz.func35, Tryz.ntmps35
        go_wp2_with fail
        refine H24.mono ?_
        rintro e w' ⟨rfl, hb⟩
        obtain ⟨p0, p1, p2, p3, p4⟩ := HCL.out _ hb
        have hba := hB w' (.cells #[.int .u8 c.k, .string c.t, .int .i64 c.n, .int .i64 c.vn, .int .i64 c.vk] 82) hb
        go_wp2_with fail
        refine (H28' _ hba.out).mono ?_
        rintro e w'' ⟨rfl, hb2⟩
        go_wp2_with fail
        go_ret
        exact ⟨by rw [HG.out]; rfl, hba.out.trans (hb2.mono hba.out.size)⟩
    cases h9 : (c.t.toList == [99, 111, 109, 112, 111, 117, 110, 100])
    rotate_left
    · simp only [h1, h2, h3, h4, h5, h6, h7, h8, h9, if_true, if_false, Bool.false_eq_true] at HG
      cases hn : (c.n == 1)
      · rw [hn] at HG
        go_enter Tryz.func35, Tryz.ntmps35
        go_wp2_with fail
        refine H24.mono ?_
        rintro e w' ⟨rfl, hb⟩
        obtain ⟨p0, p1, p2, p3, p4⟩ := HCL.out _ hb
        have hba := hB w' (.cells #[.int .u8 c.k, .string c.t, .int .i64 c.n, .int .i64 c.vn, .int .i64 c.vk] 82) hb
        go_wp2_with fail
        go_ret
        exact ⟨by rw [HG.out]; rfl, hba.out⟩
      · rw [hn] at HG
        have H28' := H28.out (by simp at hn; omega)
        go_enter Tryz.func35, Tryz.ntmps35
        go_wp2_with fail
        refine H24.mono ?_
        rintro e w' ⟨rfl, hb⟩
        obtain ⟨p0, p1, p2, p3, p4⟩ := HCL.out _ hb
        have hba := hB w' (.cells #[.int .u8 c.k, .string c.t, .int .i64 c.n, .int .i64 c.vn, .int .i64 c.vk] 82) hb
        go_wp2_with fail
        refine (H28' _ hba.out).mono ?_
        rintro e w'' ⟨rfl, hb2⟩
        go_wp2_with fail
        go_ret
        exact ⟨by rw [HG.out]; rfl, hba.out.trans (hb2.mono hba.out.size)⟩
    cases h10 : (c.t.toList == [107, 110, 111, 119, 110])
    rotate_left
    · simp only [h1, h2, h3, h4, h5, h6, h7, h8, h9, h10, if_true, if_false, Bool.false_eq_true] at HG
      cases hn : (c.n == 1)
      · rw [hn] at HG
        go_enter Tryz.func35, Tryz.ntmps35
        go_wp2_with fail
        refine H24.mono ?_
        rintro e w' ⟨rfl, hb⟩
        obtain ⟨p0, p1, p2, p3, p4⟩ := HCL.out _ hb
        have hba := hB w' (.cells #[.int .u8 c.k, .string c.t, .int .i64 c.n, .int .i64 c.vn, .int .i64 c.vk] 82) hb
        go_wp2_with fail
        go_ret
        exact ⟨by rw [HG.out]; rfl, hba.out⟩
      · rw [hn] at HG
        have H28' := H28.out (by simp at hn; omega)
        go_enter Tryz.func35, Tryz.ntmps35
        go_wp2_with fail
        refine H24.mono ?_
        rintro e w' ⟨rfl, hb⟩
        obtain ⟨p0, p1, p2, p3, p4⟩ := HCL.out _ hb
        have hba := hB w' (.cells #[.int .u8 c.k, .string c.t, .int .i64 c.n, .int .i64 c.vn, .int .i64 c.vk] 82) hb
        go_wp2_with fail
        refine (H28' _ hba.out).mono ?_
        rintro e w'' ⟨rfl, hb2⟩
        go_wp2_with fail
        go_ret
        exact ⟨by rw [HG.out]; rfl, hba.out.trans (hb2.mono hba.out.size)⟩
    cases h11 : (c.t.toList == [101, 113, 117, 97, 108])
    rotate_left
    · simp only [h1, h2, h3, h4, h5, h6, h7, h8, h9, h10, h11, if_true, if_false, Bool.false_eq_true] at HG
      cases hn : (c.n == 2)
      · rw [hn] at HG
        go_enter Tryz.func35, Tryz.ntmps35
        go_wp2_with fail
        refine H24.mono ?_
        rintro e w' ⟨rfl, hb⟩
        obtain ⟨p0, p1, p2, p3, p4⟩ := HCL.out _ hb
        have hba := hB w' (.cells #[.int .u8 c.k, .string c.t, .int .i64 c.n, .int .i64 c.vn, .int .i64 c.vk] 82) hb
        go_wp2_with fail
        go_ret
        exact ⟨by rw [HG.out]; rfl, hba.out⟩
      · rw [hn] at HG
        have H28' := H28.out (by simp at hn; omega)
        go_enter Tryz.func35, Tryz.ntmps35
        go_wp2_with fail
        refine H24.mono ?_
        rintro e w' ⟨rfl, hb⟩
        obtain ⟨p0, p1, p2, p3, p4⟩ := HCL.out _ hb
        have hba := hB w' (.cells #[.int .u8 c.k, .string c.t, .int .i64 c.n, .int .i64 c.vn, .int .i64 c.vk] 82) hb
        go_wp2_with fail
        refine (H28' _ hba.out).mono ?_
        rintro e w'' ⟨rfl, hb2⟩
        go_wp2_with fail
        go_ret
        exact ⟨by rw [HG.out]; rfl, hba.out.trans (hb2.mono hba.out.size)⟩
    cases h12 : (c.t.toList == [117, 110, 108, 105, 107, 101])
    rotate_left
    · simp only [h1, h2, h3, h4, h5, h6, h7, h8, h9, h10, h11, h12, if_true, if_false, Bool.false_eq_true] at HG
      cases hn : (c.n == 2)
      · rw [hn] at HG
        go_enter Tryz.func35, Tryz.ntmps35
        go_wp2_with fail
        refine H24.mono ?_
        rintro e w' ⟨rfl, hb⟩
        obtain ⟨p0, p1, p2, p3, p4⟩ := HCL.out _ hb
        have hba := hB w' (.cells #[.int .u8 c.k, .string c.t, .int .i64 c.n, .int .i64 c.vn, .int .i64 c.vk] 82) hb
        go_wp2_with fail
        go_ret
        exact ⟨by rw [HG.out]; rfl, hba.out⟩
      · rw [hn] at HG
        have H28' := H28.out (by simp at hn; omega)
        go_enter Tryz.func35, Tryz.ntmps35
        go_wp2_with fail
        refine H24.mono ?_
        rintro e w' ⟨rfl, hb⟩
        obtain ⟨p0, p1, p2, p3, p4⟩ := HCL.out _ hb
        have hba := hB w' (.cells #[.int .u8 c.k, .string c.t, .int .i64 c.n, .int .i64 c.vn, .int .i64 c.vk] 82) hb
        go_wp2_with fail
        refine (H28' _ hba.out).mono ?_
        rintro e w'' ⟨rfl, hb2⟩
        go_wp2_with fail
        go_ret
        exact ⟨by rw [HG.out]; rfl, hba.out.trans (hb2.mono hba.out.size)⟩
    simp only [h1, h2, h3, h4, h5, h6, h7, h8, h9, h10, h11, h12, if_false, Bool.false_eq_true] at HG
    go_enter Tryz.func35, Tryz.ntmps35
    go_wp2_with fail
    refine H24.mono ?_
    rintro e w' ⟨rfl, hb⟩
    obtain ⟨p0, p1, p2, p3, p4⟩ := HCL.out _ hb
    have hba := hB w' (.cells #[.int .u8 c.k, .string c.t, .int .i64 c.n, .int .i64 c.vn, .int .i64 c.vk] 82) hb
    go_wp2_with fail
    refine (H29.out _ hba.out).mono ?_
    rintro e w'' ⟨rfl, hb2⟩
    go_wp2_with fail
    go_ret
    exact ⟨by rw [HG.out]; rfl, hba.out.trans (hb2.mono hba.out.size)⟩
end Go.Proofs.YtlfccjlifjppdaaGreatDoor
namespace Go.Proofs.YtlfccjlifjppdaaGreatDoor
open Go.RowKit
set_option maxRecDepth 100000 in
set_option maxHeartbeats 2000000 in
theorem c27_no (l : List C) (v : Value) (w : World) (hT : TermAt w v l) (hno : rightB l = false) :
    Calls Tryz.prog 83 #[v] w fun e w' => e = .returned (.slice none 0 0) ∧ Below w.heap.size w w' := by
  have HT : Hid (TermAt w v l) := hT
  obtain ⟨ad, cap, hf⟩ := hT.form
  subst hf
  clear hT
  have HC := c23 l _ w HT.out
  rw [hno] at HC
  have HC : Hid (Calls Tryz.prog 82 #[.slice ad l.length cap] w fun e w' => e = .returned (.bool false) ∧ Below w.heap.size w w') := HC
  clear hno
  go_enter Tryz.func83, Tryz.ntmps83
  go_wp2_with fail
  refine HC.out.mono ?_
  rintro e w' ⟨rfl, hb⟩
  go_wp2_with fail
  go_ret
  exact ⟨rfl, hb⟩
set_option maxRecDepth 100000 in
set_option maxHeartbeats 2000000 in
theorem c27_kind (l : List C) (b o cap : Nat) (w : World) (hT : TermAt w (.slice (some ⟨b, o, none⟩) l.length cap) l) (hr : w.rangeAt b o (flat l)) (hb : b < w.heap.size) (h1 : 0 < l.length) (hyes : rightB l = true) (hk : (l[0].k != 3) = true) :
    Calls Tryz.prog 83 #[.slice (some ⟨b, o, none⟩) l.length cap] w fun e w' => e = .returned (.slice none 0 0) ∧ Below w.heap.size w w' := by
  have HT : Hid (TermAt w (.slice (some ⟨b, o, none⟩) l.length cap) l) := hT
  have HC := c23 l _ w HT.out
  rw [hyes] at HC
  have HC : Hid (Calls Tryz.prog 82 #[.slice (some ⟨b, o, none⟩) l.length cap] w fun e w' => e = .returned (.bool true) ∧ Below w.heap.size w w') := HC
  have HR : Hid (w.rangeAt b o (flat l)) := hr
  have h1' : (0 : Int) < (l.length : Int) := by omega
  clear hyes hr hT
  go_enter Tryz.func83, Tryz.ntmps83
  go_wp2_with fail
  refine HC.out.mono ?_
  rintro e w' ⟨rfl, hbb⟩
  obtain ⟨p0, p1, p2, p3, p4⟩ := term_cells (range_below HR.out hb hbb) 0 h1
  simp only [Nat.zero_mul, Nat.add_zero] at p0 p1 p2 p3 p4
  go_wp2_with fail
  go_ret
  exact ⟨rfl, hbb⟩
set_option maxRecDepth 100000 in
set_option maxHeartbeats 4000000 in
theorem c27_in (l : List C) (b o cap : Nat) (w : World) (hT : TermAt w (.slice (some ⟨b, o, none⟩) l.length cap) l) (hr : w.rangeAt b o (flat l)) (hb : b < w.heap.size) (hcap : l.length ≤ cap) (hcm : cap ≤ maxLen) (h1 : 0 < l.length) (hyes : rightB l = true) (hk : l[0].k = 3) :
    Calls Tryz.prog 83 #[.slice (some ⟨b, o, none⟩) l.length cap] w fun e w' => ∃ u, e = .returned u ∧ RowAt w' u (argsL l) ∧ Below w.heap.size w w' := by
  obtain ⟨i0, hi, hz0, hs0, hby⟩ := info29
  have HT : Hid (TermAt w (.slice (some ⟨b, o, none⟩) l.length cap) l) := hT
  have HC := c23 l _ w HT.out
  rw [hyes] at HC
  have HC : Hid (Calls Tryz.prog 82 #[.slice (some ⟨b, o, none⟩) l.length cap] w fun e w' => e = .returned (.bool true) ∧ Below w.heap.size w w') := HC
  have HR : Hid (w.rangeAt b o (flat l)) := hr
  have hcm' : cap ≤ 2 ^ 63 - 1 := hcm
  have h256 := (right_len hyes).2
  have h1' : (0 : Int) < (l.length : Int) := by omega
  have hcap' : (l.length : Int) ≤ (cap : Int) := by omega
  have hkb : (l[0].k != 3) = false := by simp [hk]
  obtain ⟨hn1, hn8⟩ := head_n hyes h1 hk
  have hnn : Hid (l[0].n = (l[0].n.toNat : Int)) := by
    show l[0].n = (l[0].n.toNat : Int)
    omega
  have HE1 : Hid (eat (l.drop 1) (argsOf l[0].k l[0].n).toNat = some (l.drop 1).length) := head_eat hyes h1
  have HA1 : Hid ([] ++ cutF l.length (l.drop 1) = argsL l) := by
    show [] ++ cutF l.length (l.drop 1) = argsL l
    unfold argsL
    rw [hyes, headK_get h1, hk]
    simp
  have HX : Hid (∀ c ∈ l, c.t.size ≤ maxLen) := hT.1.2
  clear hyes hr hT hk hcm
  go_enter Tryz.func83, Tryz.ntmps83
  go_wp2_with fail
  refine HC.out.mono ?_
  rintro e w' ⟨rfl, hbb⟩
  obtain ⟨p0, p1, p2, p3, p4⟩ := term_cells (range_below HR.out hb hbb) 0 h1
  simp only [Nat.zero_mul, Nat.add_zero] at p0 p1 p2 p3 p4
  go_wp2_with fail
  go_loopw [3, 4] (fun out i wr => ∃ (k q : Nat) (us : List Value) (done : List (List C)), 1 ≤ k ∧ k ≤ l.length ∧ i = .int .i64 k ∧ Hid (wr.ownsRow w.heap.size 64 1 out done.length us ∧ (∀ (j : Nat) (u : Value) (x : List C), us[j]? = some u → done[j]? = some x → OwnT wr w.heap.size u x) ∧ eat (l.drop k) q = some (l.drop k).length ∧ done ++ cutF l.length (l.drop k) = argsL l) ∧ Below w.heap.size w wr) (fun _ i _ => l.length - (intOf i).toNat)
  case atStart => exact ⟨1, (argsOf l[0].k l[0].n).toNat, [], [], by omega, by omega, rfl, ⟨World.ownsRow_nil _ _ _ _, fun j u x hu => by simp at hu, HE1.out, HA1.out⟩, hbb⟩
  case round =>
    obtain ⟨k, q, us, done, hk1, hk, rfl, HO, hbr⟩ := hrel
    have hsz := hbr.size
    by_cases hlt : k < l.length
    · have hlt' : (k : Int) < (l.length : Int) := by omega
      obtain ⟨m, q', hq, e1, hm1, hm2, e2, e3⟩ := cut_step (l.length - 1) (l.drop k) q (by simp; omega) HO.out.2.2.1
      rw [show l.length - 1 + 1 = l.length by omega] at e3
      have hml : k + m ≤ l.length := by simp at hm2; omega
      have hes : endS l (k : Int) = ((k + m : Nat) : Int) := by
        rw [endS_eat l k hlt, e1]; simp
      have hfu : cutF (l.length - 1) ((l.drop k).drop m) = cutF l.length (l.drop (k + m)) := by
        rw [List.drop_drop, cut_fuel (l.length - 1) l.length _ (by simp; omega) (by simp)]
      have hseg : ((l.drop k).take m).length = m := by rw [List.length_take, List.length_drop]; omega
      have HN1 : Hid (eat (l.drop (k + m)) q' = some (l.drop (k + m)).length) := by
        show eat (l.drop (k + m)) q' = some (l.drop (k + m)).length
        rw [← List.drop_drop]; exact e2
      have HN2 : Hid ((done ++ [(l.drop k).take m]) ++ cutF l.length (l.drop (k + m)) = argsL l) := by
        show (done ++ [(l.drop k).take m]) ++ cutF l.length (l.drop (k + m)) = argsL l
        rw [← HO.out.2.2.2, e3, hfu, List.append_assoc]; rfl
      have HCE : Hid (Calls Tryz.prog 109 #[.slice (some ⟨b, o, none⟩) l.length cap, .int .i64 (k : Int)] wr fun e w' => e = .returned (.int .i64 (((k + m : Nat) : Int))) ∧ Below wr.heap.size wr w') := by
        have h := c25 l _ (k : Int) wr (HT.out.below hbr) (by omega)
        rw [hes] at h; exact h.mono fun e w' ⟨h1, h2⟩ => ⟨h1, by rw [h2]; exact Below.refl _ _⟩
      have HCL : Hid (∀ w' : World, Below w.heap.size w w' → Calls Tryz.prog 110 #[.slice (some ⟨b, o + k * 5, none⟩) m (cap - k)] w' fun e w'' => ∃ u, e = .returned u ∧ OwnT w'' w'.heap.size u ((l.drop k).take m) ∧ Below w'.heap.size w' w'') := fun w' hb' => by
        have h := c52_in ((l.drop k).take m) b (o + k * 5) (cap - k) w' (range_sub (range_below HR.out hb hb') k m) (by rw [hseg]; omega)
        rw [hseg] at h; exact h
      have hml' : ((k + m : Nat) : Int) ≤ (cap : Int) := by omega
      have hkm' : (k : Int) ≤ ((k + m : Nat) : Int) := by omega
      clear e1 e2 e3 hfu hes hm2 hq
      generalize hkmg : k + m = km at *
      have Hkm : Hid (k + m = km) := hkmg
      have hmk : Hid (km - k = m) := by
        show km - k = m
        omega
      clear hkmg
      go_wp2_with fail
      refine HCE.out.mono ?_
      rintro e w2 ⟨rfl, hb2⟩
      have hbw2 : Hid (Below w.heap.size w w2) := hbr.trans (hb2.mono hsz)
      go_wp2_with fail
      rw [hmk.out]
      refine (HCL.out _ hbw2.out).mono ?_
      rintro e w3 ⟨u, rfl, hO1, hb3⟩
      have hz2 := hb2.size
      have hz3 := hb3.size
      have hou : Hid (∃ (ad : Option Addr) (n c : Nat), u = .slice ad n c) := by
        rcases hO1.2 with ⟨h, _⟩ | ⟨g, c, cur, h, _⟩
        · exact ⟨none, 0, 0, h⟩
        · exact ⟨_, _, _, h⟩
      have HO1 : Hid (OwnT w3 w.heap.size u ((l.drop k).take m)) := ⟨hO1.1, by
        rcases hO1.2 with h | ⟨g, c, cur, h1, h2, h3⟩
        · exact Or.inl h
        · exact Or.inr ⟨g, c, cur, h1, by omega, h3⟩⟩
      obtain ⟨ad, un, uc, hu⟩ := hou.out
      have hbw3 : Hid (Below w.heap.size w w3) := hbw2.out.trans (hb3.mono (by omega))
      have hb23 : Hid (Below wr.heap.size wr w3) := hb2.trans (hb3.mono hz2)
      clear hO1
      subst hu
      have hown1 : Hid ((w3.alloc (.cells #[.slice ad un uc] 64)).ownsRow w.heap.size 64 1 u3 done.length us) := by
        have h1 := HO.out.1
        refine World.ownsRow.alloc (w := w3) ?_ _
        refine ⟨h1.1, ?_⟩
        rcases h1.2 with h | ⟨g, c, cur, e1, e2, e3, e4⟩
        · exact Or.inl h
        · exact Or.inr ⟨g, c, cur, e1, e2, (hb23.out.block g (Array.getElem?_eq_some_iff.1 e3).1).trans e3, e4⟩
      have HOs : Hid (∀ (j : Nat) (u : Value) (x : List C), us[j]? = some u → done[j]? = some x → OwnT (w3.alloc (.cells #[.slice ad un uc] 64)) w.heap.size u x) := fun j u x h1 h2 => ownT_below (ownT_below (HO.out.2.1 j u x h1 h2) hb23.out) (below_alloc _ _)
      have HO2 : Hid (OwnT (w3.alloc (.cells #[.slice ad un uc] 64)) w.heap.size (.slice ad un uc) ((l.drop k).take m)) := ownT_below HO1.out (below_alloc _ _)
      have hnew : Hid (∀ j u, [(.slice ad un uc : Value)][j]? = some u → (w3.alloc (.cells #[.slice ad un uc] 64)).cell? ((⟨w3.heap.size, 0, none⟩ : Addr).add j) = some u) := fun j u hu => by
        rw [Addr.add_mid]; exact range_new w3 [.slice ad un uc] 64 j u hu
      have hbw4 : Hid (Below w.heap.size w (w3.alloc (.cells #[.slice ad un uc] 64))) := hbw3.out.alloc (by omega) _
      have hdl : done.length ≤ 256 := by
        have h := HO.out.2.2.2
        have h2 := argsL_len l
        rw [← h, List.length_append] at h2
        omega
      have hk63 : Hid (done.length + 1 ≤ maxLen) := by
        show done.length + 1 ≤ maxLen
        unfold maxLen; omega
      go_wp2_with (at_builtin; refine wpList_append_own _ rfl _ _ 32 rfl w.heap.size 64 i0 (.slice none 0 0) 1 24 Tryz.underlying32 hi hz0 hs0 hby rfl (by decide) _ _ _ rfl hown1.out ⟨w3.heap.size, 0, none⟩ 1 1 [.slice ad un uc] rfl rfl hnew.out (fun x hx => by simp at hx; subst hx; rfl) hk63.out (by omega) (by simp; omega) ?_)
      intro v' w4 hown' hgrow hnil
      have HN : Hid (w4.ownsRow w.heap.size 64 1 v' (done ++ [(l.drop k).take m]).length (us ++ [.slice ad un uc]) ∧ (∀ (j : Nat) (u : Value) (x : List C), (us ++ [.slice ad un uc])[j]? = some u → (done ++ [(l.drop k).take m])[j]? = some x → OwnT w4 w.heap.size u x) ∧ eat (l.drop km) q' = some (l.drop km).length ∧ (done ++ [(l.drop k).take m]) ++ cutF l.length (l.drop km) = argsL l) := by
        refine ⟨by rw [List.length_append]; exact hown', fun j u x h1 h2 => ?_, HN1.out, HN2.out⟩
        have hul : us.length = done.length := by have := HO.out.1.1; omega
        by_cases hj : j < done.length
        · rw [List.getElem?_append_left (by omega)] at h1
          rw [List.getElem?_append_left (by omega)] at h2
          exact World.ownsRow.kept (HOs.out j u x h1 h2) hgrow (ownT_far (HOs.out j u x h1 h2) hown1.out)
        · rw [List.getElem?_append_right (by omega)] at h1
          rw [List.getElem?_append_right (by omega)] at h2
          have hj0 : j = done.length := by
            by_cases e : j = done.length
            · exact e
            · rw [List.getElem?_eq_none (by simp; omega)] at h1; cases h1
          subst hj0
          rw [hul, Nat.sub_self] at h1
          rw [Nat.sub_self] at h2
          simp at h1 h2
          subst h1 h2
          exact World.ownsRow.kept HO2.out hgrow (ownT_far HO2.out hown1.out)
      have hbw5 : Hid (Below w.heap.size w w4) := hbw4.out.grown hgrow (by simp; omega) (fun g hg => (hown1.out.lt g hg).1)
      clear hgrow hnil hown'
      go_wp2_with fail
      go_roundw
      case rel => exact ⟨km, q', _, _, by have := Hkm.out; omega, by omega, rfl, HN, hbw5.out⟩
      case measure => have := Hkm.out; simp [intOf]; omega
    · have hlt' : ¬ ((k : Int) < (l.length : Int)) := by omega
      have hfin : Hid (done = argsL l) := by
        have h := HO.out.2.2.2
        rw [List.drop_of_length_le (by omega : l.length ≤ k)] at h
        have h0 : cutF l.length [] = [] := by cases l.length <;> rfl
        rw [h0, List.append_nil] at h
        exact h
      have hdl : Hid (done.length ≤ maxLen) := by
        have h2 := argsL_len l
        show done.length ≤ maxLen
        rw [hfin.out]; unfold maxLen; omega
      have htx : Hid (∀ x ∈ done, x.length ≤ maxLen ∧ ∀ c ∈ x, c.t.size ≤ maxLen) := by
        show ∀ x ∈ done, x.length ≤ maxLen ∧ ∀ c ∈ x, c.t.size ≤ maxLen
        rw [hfin.out]
        intro x hx
        obtain ⟨j1, j2⟩ := argsL_mem l x hx
        exact ⟨by unfold maxLen; omega, fun c hc => HX.out c (j2 c hc)⟩
      go_wp2_with fail
      go_ret
      refine ⟨_, rfl, ?_, hbr⟩
      rw [← hfin.out]
      by_cases h0 : done.length = 0
      · have e0 : done = [] := List.eq_nil_of_length_eq_zero h0
        subst e0
        rcases HO.out.1.2 with ⟨e1, _⟩ | ⟨g, c, cur, e1, e2, e3, e4, e5, _⟩
        · exact ⟨by simp, Or.inl ⟨rfl, none, e1⟩⟩
        · exact ⟨by simp, Or.inr ⟨g, 0, c, [], e1, by simp, e5, (Array.getElem?_eq_some_iff.1 e3).1, rfl, fun j u hu => by simp at hu, fun i u l hu => by simp at hu⟩⟩
      · refine rowAt_of_owns HO.out.1 (by omega) hdl.out (fun i u x hu hx => ?_)
        have hin := htx.out x (List.mem_of_getElem? hx)
        exact ownT_term (HO.out.2.1 i u x hu hx) hin.1 hin.2
theorem c27 (l : List C) (v : Value) (w : World) (hT : TermAt w v l) :
    Calls Tryz.prog 83 #[v] w fun e w' => ∃ u, e = .returned u ∧ RowAt w' u (argsL l) ∧ Below w.heap.size w w' := by
  cases hr : rightB l
  · rw [argsL_none l (by simp [hr])]
    exact (c27_no l v w hT hr).mono fun e w' ⟨h1, h2⟩ => ⟨_, h1, ⟨by simp, Or.inl ⟨rfl, none, rfl⟩⟩, h2⟩
  · have h1 : 0 < l.length := (right_len hr).1
    have hT' := hT
    obtain ⟨_, h⟩ := hT
    rcases h with ⟨e, _⟩ | ⟨b, o, cap, rfl, h2, h5, h3, h4⟩
    · rw [e] at h1; simp at h1
    by_cases hk : l[0].k = 3
    · exact c27_in l b o cap w hT' h3 h4 h2 h5 h1 hr hk
    · rw [argsL_none l (by rw [headK_get h1]; simp [hk])]
      exact (c27_kind l b o cap w hT' h3 h4 h1 hr (by simp [hk])).mono fun e w' ⟨h1, h2⟩ => ⟨_, h1, ⟨by simp, Or.inl ⟨rfl, none, rfl⟩⟩, h2⟩
end Go.Proofs.YtlfccjlifjppdaaGreatDoor
namespace Go.Proofs.YtlfccjlifjppdaaGreatDoor
open Go.RowKit
/-- Is a text one of the seven operators of two parts? -/
def opT (t : ByteArray) : Bool := (t.toList == [43]) || (t.toList == [45]) || (t.toList == [42]) || (t.toList == [100, 105, 118]) || (t.toList == [109, 111, 100]) || (t.toList == [109, 105, 110]) || (t.toList == [109, 97, 120])
theorem ok_var {c : C} (h : c.ok = true) (hk : c.k = 1 ∨ c.k = 4) : c.t.toList = [] := by
  obtain ⟨k, t, n, vn, vk⟩ := c
  simp only [C.ok, cellB] at h
  rcases hk with rfl | rfl
  · rw [if_pos rfl] at h
    simp only [Bool.and_eq_true, eqCells, beq_iff_eq] at h
    exact (h.1.1.1.1.2).trans (by rw [ByteArray.toList_eq])
  · rw [if_neg (by decide), if_neg (by decide), if_neg (by decide), if_pos rfl] at h
    simp only [Bool.and_eq_true, eqCells, beq_iff_eq] at h
    exact (h.1.1.1.1.2).trans (by rw [ByteArray.toList_eq])
theorem ok_kinds {c : C} (h : c.ok = true) : c.k = 1 ∨ c.k = 2 ∨ c.k = 3 ∨ c.k = 4 := by
  obtain ⟨k, t, n, vn, vk⟩ := c
  simp only [C.ok, cellB] at h
  by_cases h1 : k = 1
  · exact .inl h1
  · by_cases h2 : k = 2
    · exact .inr (.inl h2)
    · by_cases h3 : k = 3
      · exact .inr (.inr (.inl h3))
      · by_cases h4 : k = 4
        · exact .inr (.inr (.inr h4))
        · rw [if_neg h1, if_neg h2, if_neg h3, if_neg h4] at h; cases h
theorem ok_atom {c : C} (h : c.ok = true) (hk : c.k = 2) : c.n = 0 ∧ isNameB c.t.toList = true := by
  obtain ⟨k, t, n, vn, vk⟩ := c
  simp only at hk
  subst hk
  simp only [C.ok, cellB] at h
  rw [if_neg (by decide), if_pos trivial] at h
  simp only [Bool.and_eq_true, eqCells, beq_iff_eq] at h
  exact ⟨h.1.1.1.2, by rw [ByteArray.toList_eq]; exact h.2⟩
theorem ok_struct {c : C} (h : c.ok = true) (hk : c.k = 3) : (isNameB c.t.toList = true ∧ 1 ≤ c.n ∧ c.n ≤ 8) ∨ (isSignB c.t.toList = true ∧ c.n = 2) := by
  obtain ⟨k, t, n, vn, vk⟩ := c
  simp only at hk
  subst hk
  simp only [C.ok, cellB] at h
  rw [if_neg (by decide), if_neg (by decide), if_pos trivial] at h
  simp only [Bool.and_eq_true, structFits, between, Bool.or_eq_true, decide_eq_true_eq, beq_iff_eq] at h
  rw [ByteArray.toList_eq]
  rcases h.2 with h2 | h2
  · exact .inl ⟨h2.1, h2.2⟩
  · exact .inr ⟨h2.1, h2.2⟩
theorem sumC_var {c : C} (h : c.ok = true) (hk : c.k = 1 ∨ c.k = 4) : sumC c = true := by
  have ht := ok_var h hk
  unfold sumC
  rw [ht]
  rcases hk with hk | hk <;> rw [hk] <;> simp
theorem sumC_atom {c : C} (h : c.ok = true) (hk : c.k = 2) : sumC c = false := by
  obtain ⟨hn, hm⟩ := ok_atom h hk
  unfold sumC
  rw [hn, hk]
  have d1 : (c.t.toList == [43]) = false := by
    cases hq : (c.t.toList == [43]) with
    | false => rfl
    | true => rw [eq_of_beq hq] at hm; exact absurd hm (by decide)
  have d2 : (c.t.toList == [45]) = false := by
    cases hq : (c.t.toList == [45]) with
    | false => rfl
    | true => rw [eq_of_beq hq] at hm; exact absurd hm (by decide)
  have d3 : (c.t.toList == [42]) = false := by
    cases hq : (c.t.toList == [42]) with
    | false => rfl
    | true => rw [eq_of_beq hq] at hm; exact absurd hm (by decide)
  rw [d1, d2, d3]
  simp
theorem sumC_struct {c : C} (h : c.ok = true) (hk : c.k = 3) : sumC c = if c.n = 1 then (c.t.toList == [97, 98, 115]) else if c.n = 2 then opT c.t else false := by
  have hs := ok_struct h hk
  unfold sumC opT
  rw [hk]
  have hsg : ∀ t : List UInt8, isNameB t = false → (c.t.toList == t) = true → c.n = 2 := fun t ht hq => by
    rw [eq_of_beq hq] at hs
    rcases hs with ⟨h1, _⟩ | ⟨_, h2⟩
    · rw [ht] at h1; cases h1
    · exact h2
  cases q1 : (c.t.toList == [43])
  rotate_left
  · have := hsg _ (by decide) q1
    rw [this]; simp
  cases q2 : (c.t.toList == [45])
  rotate_left
  · have := hsg _ (by decide) q2
    rw [this]; simp
  cases q3 : (c.t.toList == [42])
  rotate_left
  · have := hsg _ (by decide) q3
    rw [this]; simp
  by_cases n1 : c.n = 1
  · rw [n1]
    cases q4 : (c.t.toList == [100, 105, 118]) <;> cases q5 : (c.t.toList == [109, 111, 100]) <;> cases q6 : (c.t.toList == [109, 105, 110]) <;> cases q7 : (c.t.toList == [109, 97, 120]) <;> cases q8 : (c.t.toList == [97, 98, 115]) <;> first | rfl | (exfalso; simp_all)
  · by_cases n2 : c.n = 2
    · rw [n2]
      cases q4 : (c.t.toList == [100, 105, 118]) <;> cases q5 : (c.t.toList == [109, 111, 100]) <;> cases q6 : (c.t.toList == [109, 105, 110]) <;> cases q7 : (c.t.toList == [109, 97, 120]) <;> cases q8 : (c.t.toList == [97, 98, 115]) <;> first | rfl | (exfalso; simp_all)
    · have e1 : (c.n == 1) = false := by simp [n1]
      have e2 : (c.n == 2) = false := by simp [n2]
      rw [if_neg n1, if_neg n2, e1, e2]
      simp
theorem sumAll_cons (c : C) (r : List C) : sumAll (c :: r) = (sumC c && sumAll r) := rfl
theorem sumAll_append (a b : List C) : sumAll (a ++ b) = (sumAll a && sumAll b) := by unfold sumAll; rw [List.all_append]
/-- A right term that is no structure is one cell. -/
theorem right_cell1 {c : C} {r : List C} (hr : rightB (c :: r) = true) (hk : c.k ≠ 3) : r = [] := by
  have he := head_eat hr (by simp)
  have ha : (argsOf c.k c.n).toNat = 0 := by unfold argsOf; rw [if_neg hk]; rfl
  simp only [List.getElem_cons_zero, List.drop_one, List.tail_cons] at he
  rw [ha, eat_zero] at he
  exact List.eq_nil_of_length_eq_zero (Option.some.inj he).symm
theorem sum_simple {l : List C} (hr : rightB l = true) (h1 : 0 < l.length) (hk : l[0].k = 1 ∨ l[0].k = 4) : sumAll l = true := by
  match l, h1 with
  | c :: r, _ =>
    simp only [List.getElem_cons_zero] at hk
    have hc := right_cell hr c List.mem_cons_self
    rw [right_cell1 hr (by omega), sumAll_cons, sumC_var hc hk]; rfl
theorem sum_atom {l : List C} (hr : rightB l = true) (h1 : 0 < l.length) (hk : l[0].k = 2) : sumAll l = false := by
  match l, h1 with
  | c :: r, _ =>
    simp only [List.getElem_cons_zero] at hk
    have hc := right_cell hr c List.mem_cons_self
    rw [sumAll_cons, sumC_atom hc hk]; rfl
theorem sum_struct {l : List C} (hr : rightB l = true) (h1 : 0 < l.length) (hk : l[0].k = 3) :
    ((argsL l).length = l[0].n.toNat ∧ 1 ≤ l[0].n ∧ l[0].n ≤ 8) ∧ sumAll l = ((if l[0].n = 1 then (l[0].t.toList == [97, 98, 115]) else if l[0].n = 2 then opT l[0].t else false) && sumAll (argsL l).flatten) := by
  have hn := head_n hr h1 hk
  obtain ⟨s1, s2, _⟩ := argsL_spec l hr h1 (by rw [headK_get h1]; exact hk)
  have ha : (argsOf l[0].k l[0].n).toNat = l[0].n.toNat := by unfold argsOf; rw [if_pos hk]; omega
  refine ⟨⟨by rw [s2, ha], hn⟩, ?_⟩
  rw [s1]
  match l, h1 with
  | c :: r, _ =>
    simp only [List.getElem_cons_zero, List.tail_cons] at *
    rw [sumAll_cons, sumC_struct (right_cell hr c List.mem_cons_self) hk]
end Go.Proofs.YtlfccjlifjppdaaGreatDoor
