/- Contract of Make: for every text and row of terms it returns the structure, or its error. -/
import Derived.Test.YtpepogmkbcbmpabDoorW16
namespace Go.Proofs.YtpepogmkbcbmpabDoor
open Go.RowKit
def ownC (text : ByteArray) (n : Nat) : C := ⟨3, text, n, 0, 0⟩
def makeE (text : ByteArray) (ls : List (List C)) : Int := if allRightB ls && (ownC text ls.length).ok then (if (256 : Int) < ((tot ls + 1 : Nat) : Int) then 5 else 0) else 6
def makeL (text : ByteArray) (ls : List (List C)) : List C := if makeE text ls = 0 then ownC text ls.length :: ls.flatten else []
theorem rowAt_of_owns {w : World} {base : Nat} {v : Value} {ls : List (List C)} {vs : List Value} (h : w.ownsRow base 23 1 v ls.length vs) (hl : 0 < ls.length) (hm : ls.length ≤ maxLen) (ht : ∀ (i : Nat) (u : Value) (l : List C), vs[i]? = some u → ls[i]? = some l → TermAt w u l) : RowAt w v ls := by
  refine ⟨hm, ?_⟩
  have h0 := h.1
  rcases h.2 with ⟨h1, h2⟩ | ⟨g, cap, cur, h1, h2, h3, h4, h5, h6, h7⟩
  · omega
  · refine Or.inr ⟨g, 0, cap, vs, h1, h4, h5, (Array.getElem?_eq_some_iff.1 h3).1, by omega, ?_, ht⟩
    intro j u hu
    rw [cell_of_row _ _ _ _ _ _ h3]
    rw [← h7] at hu
    rw [List.getElem?_take] at hu
    split at hu
    · simpa using hu
    · cases hu
theorem right_len {l : List C} (h : rightB l = true) : 1 ≤ l.length ∧ l.length ≤ 256 := by
  unfold rightB at h
  simp only [Bool.and_eq_true, decide_eq_true_eq] at h
  omega
theorem allRight_get {ls : List (List C)} (h : allRightB ls = true) : ∀ l ∈ ls, rightB l = true := by
  unfold allRightB at h; rw [List.all_eq_true] at h; exact h
theorem tot_bound {ls : List (List C)} (h : ∀ l ∈ ls, l.length ≤ 256) : tot ls ≤ 256 * ls.length := by
  induction ls with
  | nil => simp [tot]
  | cons a r ih =>
    have h1 := h a (by simp)
    have h2 := ih (fun l hl => h l (by simp [hl]))
    simp [tot] at *; omega
theorem own_n {text : ByteArray} {n : Nat} (h : (ownC text n).ok = true) : 1 ≤ n ∧ n ≤ 8 := by
  have h1 : structFits 1 8 text.data.toList n = true := by
    simp only [C.ok, ownC, cellB, if_neg (show ¬ ((3 : Int) = 1) by decide), if_neg (show ¬ ((3 : Int) = 2) by decide), if_true, Bool.and_eq_true] at h
    exact h.2
  simp only [structFits, between, Bool.and_eq_true, Bool.or_eq_true, decide_eq_true_eq, beq_iff_eq] at h1
  omega
set_option maxHeartbeats 2000000 in
theorem c10_form (text : ByteArray) (ls : List (List C)) (v : Value) (w : World) (h : RowAt w v ls) (hS : Signs w) (_ht : text.size ≤ maxLen) (hno : allRightB ls = false) :
    Calls Tryd.prog 17 #[.string text, v] w fun e w' => e = .returned (.tuple #[.slice none 0 0, .int .i64 6]) ∧ Below w.heap.size w w' := by
  obtain ⟨ad, cap, hf⟩ := h.form
  have hc := h.1
  unfold maxLen at hc
  have H44 := fun o => c44 ls v (w.alloc o) (h.below (below_alloc _ o)) (hS.below (below_alloc _ o))
  rw [hno, hf] at H44
  rw [hf]
  have H44 : Hid (∀ o : Obj, _) := H44
  have hB : ∀ o : Obj, Hid (Below w.heap.size w (w.alloc o)) := fun o => below_alloc w o
  clear h hS hno hf
  go_enter Tryd.func17, Tryd.ntmps17
  go_wp2_with fail
  refine (H44.out _).mono ?_
  rintro e w1 ⟨rfl, hb1⟩
  go_wp2_with fail
  go_ret2
  exact ⟨rfl, (hB _).out.trans (hb1.mono (by simp))⟩
set_option maxHeartbeats 2000000 in
theorem c10_cell (text : ByteArray) (ls : List (List C)) (v : Value) (w : World) (h : RowAt w v ls) (hS : Signs w) (ht : text.size ≤ maxLen) (hyes : allRightB ls = true) (hno : (ownC text ls.length).ok = false) :
    Calls Tryd.prog 17 #[.string text, v] w fun e w' => e = .returned (.tuple #[.slice none 0 0, .int .i64 6]) ∧ Below w.heap.size w w' := by
  obtain ⟨ad, cap, hf⟩ := h.form
  have hc := h.1
  unfold maxLen at hc
  have H44 := fun o => c44 ls v (w.alloc o) (h.below (below_alloc _ o)) (hS.below (below_alloc _ o))
  rw [hyes, hf] at H44
  rw [hf]
  have H44 : Hid (∀ o : Obj, _) := H44
  have hB : ∀ o : Obj, Hid (Below w.heap.size w (w.alloc o)) := fun o => below_alloc w o
  have HN : Hid ((ownC text ls.length).ok = false) := hno
  have HS : Hid (Signs w) := hS
  clear h hS hyes hf hno
  go_enter Tryd.func17, Tryd.ntmps17
  go_wp2_with fail
  refine (H44.out _).mono ?_
  rintro e w1 ⟨rfl, hb1⟩
  obtain ⟨hcc, hff⟩ := bcell hb1
  have hz : w.heap.size < w1.heap.size := by have := hb1.size; simp at this; omega
  go_wp2_with fail
  refine (c45 [ownC text ls.length] _ _ (termAt_new w1 (ownC text ls.length) ht) ((HS.out.below ((hB _).out.trans (hb1.mono (by simp)))).below (below_alloc _ _))).mono ?_
  have e1 : cellsB [ownC text ls.length] = (ownC text ls.length).ok := by simp [cellsB]
  rw [e1, HN.out]
  clear e1
  rintro e w2 ⟨rfl, hb2⟩
  go_wp2_with fail
  go_ret2
  exact ⟨rfl, ((hB _).out.trans (hb1.mono (by simp))).trans ((below_alloc w1 _).trans (hb2.mono (by simp)) |>.mono (by omega))⟩
set_option maxRecDepth 100000 in
set_option maxHeartbeats 4000000 in
theorem c10_made (text : ByteArray) (ls : List (List C)) (v : Value) (w : World) (h : RowAt w v ls) (hS : Signs w) (ht : text.size ≤ maxLen) (hyes : allRightB ls = true) (hno : (ownC text ls.length).ok = true) :
    Calls Tryd.prog 17 #[.string text, v] w fun e w' => ∃ u, e = .returned (.tuple #[u, .int .i64 (makeE text ls)]) ∧ TermAt w' u (makeL text ls) ∧ Below w.heap.size w w' := by
  have hrl := fun l hl => right_len (allRight_get hyes l hl)
  obtain ⟨hn1, hn8⟩ := own_n hno
  have htb := tot_bound (fun l hl => (hrl l hl).2)
  have hmE : makeE text ls = if (256 : Int) < ((tot ls + 1 : Nat) : Int) then 5 else 0 := by unfold makeE; rw [hyes, hno]; rfl
  have HRow : Hid (RowAt w v ls) := h
  obtain ⟨hc, h⟩ := h
  rcases h with ⟨rfl, ad, rfl⟩ | ⟨b, o, cap, vs, rfl, h2, h3, h4, h5, h6, h7⟩
  · simp at hn1
  unfold maxLen at hc
  have H44 := fun o' => c44 ls _ (w.alloc o') (HRow.out.below (below_alloc _ o')) (hS.below (below_alloc _ o'))
  rw [hyes] at H44
  have H44 : Hid (∀ o : Obj, _) := H44
  have hB : ∀ o : Obj, Hid (Below w.heap.size w (w.alloc o)) := fun o => below_alloc w o
  have HN : Hid ((ownC text ls.length).ok = true) := hno
  have HS : Hid (Signs w) := hS
  have HR : Hid (w.rangeAt b o vs) := h6
  have HT : Hid (∀ (i : Nat) (u : Value) (l : List C), vs[i]? = some u → ls[i]? = some l → TermAt w u l) := h7
  have HV : Hid (vs.length = ls.length) := h5
  have HL : Hid (∀ l ∈ ls, 1 ≤ l.length ∧ l.length ≤ 256) := hrl
  have HE : Hid (makeE text ls = if (256 : Int) < ((tot ls + 1 : Nat) : Int) then 5 else 0) := hmE
  obtain ⟨i0, hi, hz0, hs0, hby⟩ := info29
  clear hS hyes hno h5 h6 h7 hrl h2 h3 hmE
  go_enter Tryd.func17, Tryd.ntmps17
  go_wp2_with fail
  refine (H44.out _).mono ?_
  rintro e w1 ⟨rfl, hb1⟩
  obtain ⟨hcc, hff⟩ := bcell hb1
  have hz : w.heap.size < w1.heap.size := by have := hb1.size; simp at this; omega
  have hw1 : Hid (Below w.heap.size w w1) := (hB _).out.trans (hb1.mono (by simp))
  go_wp2_with fail
  refine (c45 [ownC text ls.length] _ _ (termAt_new w1 (ownC text ls.length) ht) ((HS.out.below hw1.out).below (below_alloc _ _))).mono ?_
  have e1 : cellsB [ownC text ls.length] = (ownC text ls.length).ok := by simp [cellsB]
  rw [e1, HN.out]
  clear e1
  rintro e w2 ⟨rfl, hb2⟩
  have hw2 : Hid (Below w.heap.size w w2) := hw1.out.trans ((below_alloc w1 _).trans (hb2.mono (by simp)) |>.mono (by omega))
  obtain ⟨hcc2, hff2⟩ := bcell hb2
  have hz2 : w.heap.size < w2.heap.size := by have := hb2.size; simp at this; omega
  have hW3 : ∀ o1 o2 : Obj, Hid (Below w.heap.size w ((w2.alloc o1).alloc o2)) := fun o1 o2 => ((hw2.out.alloc (by omega) o1).alloc (by simp; omega) o2)
  have hown3 : ∀ o1 : Obj, Hid (((w2.alloc o1).alloc (.cells #[.slice (some ⟨w2.heap.size, 0, none⟩) 1 1] 23)).ownsRow w.heap.size 23 1 (.slice (some ⟨w2.heap.size + 1, 0, none⟩) 1 1) 1 [.slice (some ⟨w2.heap.size, 0, none⟩) 1 1]) := fun o1 => by
    have h := World.ownsRow_lit (base := w.heap.size) (e := 23) (size := 1) (w2.alloc o1) #[.slice (some ⟨w2.heap.size, 0, none⟩) 1 1] 1 (by simp; omega) (by simp [maxLen]) rfl
    rw [World.size_alloc] at h; exact h
  have hnews : ∀ o1 o2 : Obj, Hid (∀ j u, vs[j]? = some u → ((w2.alloc o1).alloc o2).cell? ((⟨b, o, none⟩ : Addr).add j) = some u) := fun o1 o2 j u hu => by
    rw [Addr.add_mid]; exact range_below HR.out h4 (hW3 o1 o2).out j u hu
  have hlv : Hid (vs.length = ls.length * 1) := by
    show vs.length = ls.length * 1
    rw [HV.out]; omega
  have hone : Hid (∀ u ∈ vs, u.oneCell' = true) := by
    show ∀ u ∈ vs, u.oneCell' = true
    intro u hu
    obtain ⟨j, hj, rfl⟩ := List.getElem_of_mem hu
    have hj2 : j < ls.length := by rw [← HV.out]; exact hj
    obtain ⟨ad', cp', hf'⟩ := (HT.out j _ _ (List.getElem?_eq_getElem hj) (List.getElem?_eq_getElem hj2)).form
    rw [hf']; rfl
  have hTn : Hid (TermAt (w2.alloc (.cells #[.int .u8 3, .string text, .int .i64 (ls.length : Int), .int .i64 0, .int .i64 0] 34)) (.slice (some ⟨w2.heap.size, 0, none⟩) 1 1) [ownC text ls.length]) := termAt_new w2 (ownC text ls.length) ht
  go_wp2_with (at_builtin; refine wpList_append_own _ rfl _ _ 25 rfl w.heap.size 23 i0 (.slice none 0 0) 1 24 Tryd.underlying25 hi hz0 hs0 hby rfl (by decide) _ _ _ rfl (hown3 _).out ⟨b, o, none⟩ ls.length cap vs rfl hlv.out (hnews _ _).out hone.out (by unfold maxLen; omega) (by omega) (by simp; omega) ?_)
  intro v' w3 hown' hgrow hnil
  have hw3 : Hid (Below w.heap.size w w3) := (hW3 _ _).out.grown hgrow (by simp; omega) (fun g hg => by simp [Value.ownBlock] at hg; omega)
  have hb3 : Hid (Below (w2.heap.size + 1) (w2.alloc (.cells #[.int .u8 3, .string text, .int .i64 (ls.length : Int), .int .i64 0, .int .i64 0] 34)) w3) := (((Below.refl _ _).alloc (by simp) _).grown hgrow (by simp) (fun g hg => by simp [Value.ownBlock] at hg; omega))
  have hrow : Hid (RowAt w3 v' ([ownC text ls.length] :: ls)) := by
    refine rowAt_of_owns (base := w.heap.size) (vs := [.slice (some ⟨w2.heap.size, 0, none⟩) 1 1] ++ vs) ?_ (by simp) (by simp [maxLen]; omega) ?_
    · rw [List.length_cons, Nat.add_comm]; exact hown'
    · intro j u l hu hl
      cases j with
      | zero =>
        simp at hu hl
        subst hu; subst hl
        exact hTn.out.below (by rw [World.size_alloc]; exact hb3.out)
      | succ j => exact (HT.out j u l (by simpa using hu) (by simpa using hl)).below hw3.out
  have htt : Hid (tot ([ownC text ls.length] :: ls) = tot ls + 1) := by
    show tot ([ownC text ls.length] :: ls) = tot ls + 1
    simp [tot]; omega
  have hnn : Hid (∀ l ∈ [ownC text ls.length] :: ls, 0 < l.length) := by
    show ∀ l ∈ [ownC text ls.length] :: ls, 0 < l.length
    intro l hl
    rcases List.mem_cons.1 hl with rfl | hl
    · simp
    · exact (HL.out l hl).1
  clear hgrow hnil hown'
  go_wp2_with fail
  refine (c46 _ _ _ hrow.out hnn.out (by rw [htt.out]; omega) (by rw [htt.out]; omega)).mono ?_
  rintro e w4 ⟨u, rfl, hTu, hb4⟩
  have hw4 : Hid (Below w.heap.size w w4) := hw3.out.trans (hb4.mono hw3.out.size)
  have hlen : Hid (([ownC text ls.length] :: ls).flatten.length = tot ls + 1) := by
    show ([ownC text ls.length] :: ls).flatten.length = tot ls + 1
    rw [tot_flatten, htt.out]
  obtain ⟨adu, cpu, hfu⟩ := hTu.form
  rw [hlen.out] at hfu
  have HTu : Hid (TermAt w4 u ([ownC text ls.length] :: ls).flatten) := hTu
  have HFu : Hid (u = .slice adu (tot ls + 1) cpu) := hfu
  clear hTu hfu
  rw [HFu.out]
  rw [HFu.out] at HTu
  by_cases hbig : (256 : Int) < ((tot ls + 1 : Nat) : Int)
  · have e5 : Hid (makeE text ls = 5) := by
      show makeE text ls = 5
      rw [HE.out, if_pos hbig]
    have eL : Hid (makeL text ls = []) := by
      show makeL text ls = []
      unfold makeL; rw [e5.out]; rfl
    have hbig' : (256 : Int) < ((tot ls : Nat) : Int) + 1 := by omega
    clear hbig
    go_wp2_with fail
    go_ret2
    exact ⟨_, by rw [e5.out]; rfl, by rw [eL.out]; exact termAt_nil _, hw4.out⟩
  · have e5 : Hid (makeE text ls = 0) := by
      show makeE text ls = 0
      rw [HE.out, if_neg hbig]
    have eL : Hid (makeL text ls = ([ownC text ls.length] :: ls).flatten) := by
      show makeL text ls = ([ownC text ls.length] :: ls).flatten
      unfold makeL; rw [e5.out]; rfl
    have hbig' : ¬ ((256 : Int) < ((tot ls : Nat) : Int) + 1) := by omega
    clear hbig
    go_wp2_with fail
    go_ret2
    exact ⟨_, by rw [e5.out]; rfl, by rw [eL.out]; exact HTu.out, hw4.out⟩
theorem c10 (text : ByteArray) (ls : List (List C)) (v : Value) (w : World) (h : RowAt w v ls) (hS : Signs w) (ht : text.size ≤ maxLen) :
    Calls Tryd.prog 17 #[.string text, v] w fun e w' => ∃ u, e = .returned (.tuple #[u, .int .i64 (makeE text ls)]) ∧ TermAt w' u (makeL text ls) ∧ Below w.heap.size w w' := by
  cases hA : allRightB ls
  · have e6 : makeE text ls = 6 := by unfold makeE; rw [hA]; rfl
    have eL : makeL text ls = [] := by unfold makeL; rw [e6]; rfl
    rw [e6, eL]
    exact (c10_form text ls v w h hS ht hA).mono fun e w' ⟨h1, h2⟩ => ⟨_, h1, termAt_nil _, h2⟩
  · cases hO : (ownC text ls.length).ok
    · have e6 : makeE text ls = 6 := by unfold makeE; rw [hA, hO]; rfl
      have eL : makeL text ls = [] := by unfold makeL; rw [e6]; rfl
      rw [e6, eL]
      exact (c10_cell text ls v w h hS ht hA hO).mono fun e w' ⟨h1, h2⟩ => ⟨_, h1, termAt_nil _, h2⟩
    · exact c10_made text ls v w h hS ht hA hO
end Go.Proofs.YtpepogmkbcbmpabDoor
