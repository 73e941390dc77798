/- Contract of the statement that a structure comes back from its arguments. -/
import Derived.Test.YtpepogmkbcbmpaaDoorA3
import Derived.Test.YtpepogmkbcbmpaaDoorR5
import Derived.Test.YtpepogmkbcbmpaaDoorW18
namespace Go.Proofs.YtpepogmkbcbmpaaDoor
open Go.RowKit
theorem args_right {l : List C} (hr : rightB l = true) (h1 : 0 < l.length) (hk : headK l = 3) : allRightB (argsL l) = true := by
  unfold allRightB
  rw [List.all_eq_true]
  intro s hs
  obtain ⟨j1, j2, j3, j4⟩ := (argsL_spec l hr h1 hk).2.2 s hs
  rw [right_eat, j1]
  have h256 := (right_len hr).2
  have hc : cellsB s = true := by
    unfold cellsB; rw [List.all_eq_true]; exact fun c hc => right_cell hr c (j4 c hc)
  rw [hc, decide_eq_true j2, decide_eq_true (by omega)]; simp
theorem own_eq {l : List C} (hr : rightB l = true) (h1 : 0 < l.length) (hk : headK l = 3) : ownC l[0].t (argsL l).length = l[0] := by
  have hok := right_cell hr _ (List.getElem_mem h1)
  rw [(argsL_spec l hr h1 hk).2.1]
  have hk' : l[0].k = 3 := by rw [← headK_get h1]; exact hk
  have hn := struct_n hok hk'
  have ea : argsOf l[0].k l[0].n = l[0].n := by unfold argsOf; rw [if_pos hk']; omega
  rw [ea]
  generalize l[0] = c at *
  obtain ⟨k, t, n, vn, vk⟩ := c
  simp only at hk' hn
  subst hk'
  have hv : vn = 0 ∧ vk = 0 := by
    simp only [C.ok, cellB, if_neg (show ¬ ((3 : Int) = 1) by decide), if_neg (show ¬ ((3 : Int) = 2) by decide), if_true, Bool.and_eq_true, eqCells, beq_iff_eq] at hok
    exact ⟨hok.1.1.2, hok.1.2⟩
  obtain ⟨rfl, rfl⟩ := hv
  show (⟨3, t, ((n.toNat : Nat) : Int), 0, 0⟩ : C) = ⟨3, t, n, 0, 0⟩
  rw [show ((n.toNat : Nat) : Int) = n by omega]
theorem back {l : List C} (hr : rightB l = true) (h1 : 0 < l.length) (hk : headK l = 3) : makeE l[0].t (argsL l) = 0 ∧ makeL l[0].t (argsL l) = l := by
  have hok := right_cell hr _ (List.getElem_mem h1)
  have h256 := (right_len hr).2
  have hfl := (argsL_spec l hr h1 hk).1
  have htt : tot (argsL l) = l.length - 1 := by rw [← tot_flatten, hfl]; simp
  have e0 : makeE l[0].t (argsL l) = 0 := by
    unfold makeE
    rw [args_right hr h1 hk, own_eq hr h1 hk, hok]
    simp only [Bool.and_self, if_true]
    rw [if_neg (by omega)]
  refine ⟨e0, ?_⟩
  unfold makeL
  rw [e0, if_pos rfl, own_eq hr h1 hk, hfl]
  match l, h1 with
  | c :: r, _ => rfl
set_option maxRecDepth 100000 in
set_option maxHeartbeats 4000000 in
theorem c7_no (l : List C) (v : Value) (w : World) (hT : TermAt w v l) (hS : Signs w) (hno : rightB l = false) :
    Calls Tryd.prog 7 #[v] w fun e w' => e = .returned (.bool true) ∧ Below w.heap.size w w' := by
  have HT : Hid (TermAt w v l) := hT
  have HS : Hid (Signs w) := hS
  have eA : argsL l = [] := argsL_none l (by simp [hno])
  have H26 := c26 l v w hT hS
  rw [eA] at H26
  have H26 : Hid (Calls Tryd.prog 26 #[v] w fun e w' => ∃ u, e = .returned u ∧ RowAt w' u [] ∧ Below w.heap.size w w') := H26
  have H23 : Hid (∀ w' : World, Below w.heap.size w w' → Calls Tryd.prog 23 #[v] w' fun e w'' => e = .returned (.bool false) ∧ Below w'.heap.size w' w'') := fun w' hb => by
    have h := c23 l v w' (HT.out.below hb); rw [hno] at h; exact h
  clear hT hS eA hno
  go_enter Tryd.func7, Tryd.ntmps7
  go_wp2_with fail
  refine H26.out.mono ?_
  rintro e w1 ⟨u, rfl, hR, hb1⟩
  obtain ⟨au, cu, hf⟩ := hR.form
  subst hf
  clear hR
  go_wp2_with fail
  refine (c12 w1 (HS.out.below hb1)).mono ?_
  rintro e w2 ⟨rfl, hb2⟩
  have hw2 : Hid (Below w.heap.size w w2) := hb1.trans (hb2.mono hb1.size)
  go_wp2_with fail
  refine (H23.out _ hw2.out).mono ?_
  rintro e w3 ⟨rfl, hb3⟩
  go_wp2_with fail
  go_ret
  exact ⟨rfl, hw2.out.trans (hb3.mono hw2.out.size)⟩
set_option maxRecDepth 100000 in
set_option maxHeartbeats 4000000 in
theorem c7_kind (l : List C) (b o cap : Nat) (w : World) (hT : TermAt w (.slice (some ⟨b, o, none⟩) l.length cap) l) (hS : Signs w) (hr : w.rangeAt b o (flat l)) (hb : b < w.heap.size) (h1 : 0 < l.length) (hyes : rightB l = true) (hk : (l[0].k != 3) = true) :
    Calls Tryd.prog 7 #[.slice (some ⟨b, o, none⟩) l.length cap] w fun e w' => e = .returned (.bool true) ∧ Below w.heap.size w w' := by
  have HT : Hid (TermAt w (.slice (some ⟨b, o, none⟩) l.length cap) l) := hT
  have HS : Hid (Signs w) := hS
  have HR : Hid (w.rangeAt b o (flat l)) := hr
  have h1' : (0 : Int) < (l.length : Int) := by omega
  have eA : argsL l = [] := argsL_none l (by rw [headK_get h1]; simp at hk; simp [hk])
  have H26 := c26 l _ w hT hS
  rw [eA] at H26
  have H26 : Hid (Calls Tryd.prog 26 #[.slice (some ⟨b, o, none⟩) l.length cap] w fun e w' => ∃ u, e = .returned u ∧ RowAt w' u [] ∧ Below w.heap.size w w') := H26
  have H23 : Hid (∀ w' : World, Below w.heap.size w w' → Calls Tryd.prog 23 #[.slice (some ⟨b, o, none⟩) l.length cap] w' fun e w'' => e = .returned (.bool true) ∧ Below w'.heap.size w' w'') := fun w' hb => by
    have h := c23 l _ w' (HT.out.below hb); rw [hyes] at h; exact h
  clear hT hS eA hyes hr
  go_enter Tryd.func7, Tryd.ntmps7
  go_wp2_with fail
  refine H26.out.mono ?_
  rintro e w1 ⟨u, rfl, hR, hb1⟩
  obtain ⟨au, cu, hf⟩ := hR.form
  subst hf
  clear hR
  go_wp2_with fail
  refine (c12 w1 (HS.out.below hb1)).mono ?_
  rintro e w2 ⟨rfl, hb2⟩
  have hw2 : Hid (Below w.heap.size w w2) := hb1.trans (hb2.mono hb1.size)
  go_wp2_with fail
  refine (H23.out _ hw2.out).mono ?_
  rintro e w3 ⟨rfl, hb3⟩
  have hw3 : Hid (Below w.heap.size w w3) := hw2.out.trans (hb3.mono hw2.out.size)
  obtain ⟨p0, p1, p2, p3, p4⟩ := term_cells (range_below HR.out hb hw3.out) 0 h1
  simp only [Nat.zero_mul, Nat.add_zero] at p0 p1 p2 p3 p4
  go_wp2_with fail
  go_ret
  exact ⟨rfl, hw3.out⟩
set_option maxRecDepth 100000 in
set_option maxHeartbeats 4000000 in
theorem c7_in (l : List C) (b o cap : Nat) (w : World) (hT : TermAt w (.slice (some ⟨b, o, none⟩) l.length cap) l) (hS : Signs w) (hr : w.rangeAt b o (flat l)) (hb : b < w.heap.size) (h1 : 0 < l.length) (hyes : rightB l = true) (hk : l[0].k = 3) :
    Calls Tryd.prog 7 #[.slice (some ⟨b, o, none⟩) l.length cap] w fun e w' => e = .returned (.bool true) ∧ Below w.heap.size w w' := by
  have HT : Hid (TermAt w (.slice (some ⟨b, o, none⟩) l.length cap) l) := hT
  have HS : Hid (Signs w) := hS
  have HR : Hid (w.rangeAt b o (flat l)) := hr
  have h1' : (0 : Int) < (l.length : Int) := by omega
  have hh : headK l = 3 := by rw [headK_get h1]; exact hk
  have hbk := back hyes h1 hh
  have hal : Hid ((argsL l).length = l[0].n.toNat ∧ 1 ≤ l[0].n) := by
    show (argsL l).length = l[0].n.toNat ∧ 1 ≤ l[0].n
    have hn := head_n hyes h1 hk
    rw [(argsL_spec l hyes h1 hh).2.1]
    unfold argsOf; rw [if_pos hk]; omega
  have htx : l[0].t.size ≤ maxLen := hT.1.2 _ (List.getElem_mem h1)
  have H26 : Hid (Calls Tryd.prog 26 #[.slice (some ⟨b, o, none⟩) l.length cap] w fun e w' => ∃ u, e = .returned u ∧ RowAt w' u (argsL l) ∧ Below w.heap.size w w') := c26 l _ w hT hS
  have H10 : Hid (∀ (w' : World) (u : Value), Below w.heap.size w w' → RowAt w' u (argsL l) → Calls Tryd.prog 10 #[.string l[0].t, u] w' fun e w'' => ∃ x, e = .returned (.tuple #[x, .int .i64 0]) ∧ TermAt w'' x l ∧ Below w'.heap.size w' w'') := fun w' u hb' hu => by
    have h := c10 l[0].t (argsL l) u w' hu (HS.out.below hb') htx
    rw [hbk.1, hbk.2] at h; exact h
  clear hT hS hyes hr hbk hk hh
  go_enter Tryd.func7, Tryd.ntmps7
  go_wp2_with fail
  refine H26.out.mono ?_
  rintro e w1 ⟨u, rfl, hR, hb1⟩
  have HRw : Hid (RowAt w1 u (argsL l)) := hR
  obtain ⟨au, cu, hf⟩ := hR.form
  subst hf
  clear hR
  have hne : (((argsL l).length : Int) == 0) = false := by
    have h := hal.out; rw [beq_eq_false_iff_ne]; omega
  obtain ⟨p0, p1, p2, p3, p4⟩ := term_cells (range_below HR.out hb hb1) 0 h1
  simp only [Nat.zero_mul, Nat.add_zero] at p0 p1 p2 p3 p4
  go_wp2_with fail
  refine (H10.out _ _ hb1 HRw.out).mono ?_
  rintro e w2 ⟨x, rfl, hX, hb2⟩
  have hw2 : Hid (Below w.heap.size w w2) := hb1.trans (hb2.mono hb1.size)
  have HX : Hid (TermAt w2 x l) := hX
  have HRw2 : Hid (RowAt w2 (.slice au (argsL l).length cu) (argsL l)) := HRw.out.below hb2
  clear hX
  go_wp2_with fail
  refine (c12 w2 (HS.out.below hw2.out)).mono ?_
  rintro e w3 ⟨rfl, hb3⟩
  have hw3 : Hid (Below w.heap.size w w3) := hw2.out.trans (hb3.mono hw2.out.size)
  go_wp2_with fail
  refine (c13 l l x _ w3 (HX.out.below hb3) (HT.out.below hw3.out)).mono ?_
  rw [eqT_refl]
  rintro e w4 ⟨rfl, hb4⟩
  have hw4 : Hid (Below w.heap.size w w4) := hw3.out.trans (hb4.mono hw3.out.size)
  go_wp2_with fail
  refine (c26 l x w4 ((HX.out.below hb3).below hb4) (HS.out.below hw4.out)).mono ?_
  rintro e w5 ⟨y, rfl, hY, hb5⟩
  have HY : Hid (RowAt w5 y (argsL l)) := hY
  have hw5 : Hid (Below w.heap.size w w5) := hw4.out.trans (hb5.mono hw4.out.size)
  clear hY
  go_wp2_with fail
  refine (c20 (argsL l) (argsL l) y _ w5 HY.out (((HRw2.out.below hb3).below hb4).below hb5)).mono ?_
  rw [sameR_refl]
  rintro e w6 ⟨rfl, hb6⟩
  go_wp2_with fail
  go_ret
  exact ⟨rfl, hw5.out.trans (hb6.mono hw5.out.size)⟩
theorem c7 (l : List C) (v : Value) (w : World) (hT : TermAt w v l) (hS : Signs w) :
    Calls Tryd.prog 7 #[v] w fun e w' => e = .returned (.bool true) ∧ Below w.heap.size w w' := by
  cases hr : rightB l
  · exact c7_no l v w hT hS hr
  · have h1 : 0 < l.length := (right_len hr).1
    have hT' := hT
    obtain ⟨_, h⟩ := hT
    rcases h with ⟨e, _⟩ | ⟨b, o, cap, rfl, h2, h5, h3, h4⟩
    · rw [e] at h1; simp at h1
    by_cases hk : l[0].k = 3
    · exact c7_in l b o cap w hT' hS h3 h4 h1 hr hk
    · exact c7_kind l b o cap w hT' hS h3 h4 h1 hr (by simp [hk])
end Go.Proofs.YtpepogmkbcbmpaaDoor
