/- Contracts of sign, first. -/
import Derived.Test.YtiemngihndbobaaDoorLxL3
namespace Go.Proofs.YtiemngihndbobaaDoor.Lx
open Go.RowKit
theorem ix0 (w : World) : (Instr.index 93 (.agg signVals.toArray) (.int .i64 0)).run Tryd.prog w = .ok (.string (signS 0)) w := by kernel_rfl
theorem ix1 (w : World) : (Instr.index 93 (.agg signVals.toArray) (.int .i64 1)).run Tryd.prog w = .ok (.string (signS 1)) w := by kernel_rfl
theorem ix2 (w : World) : (Instr.index 93 (.agg signVals.toArray) (.int .i64 2)).run Tryd.prog w = .ok (.string (signS 2)) w := by kernel_rfl
theorem ix3 (w : World) : (Instr.index 93 (.agg signVals.toArray) (.int .i64 3)).run Tryd.prog w = .ok (.string (signS 3)) w := by kernel_rfl
theorem ix4 (w : World) : (Instr.index 93 (.agg signVals.toArray) (.int .i64 4)).run Tryd.prog w = .ok (.string (signS 4)) w := by kernel_rfl
theorem ix5 (w : World) : (Instr.index 93 (.agg signVals.toArray) (.int .i64 5)).run Tryd.prog w = .ok (.string (signS 5)) w := by kernel_rfl
theorem ix6 (w : World) : (Instr.index 93 (.agg signVals.toArray) (.int .i64 6)).run Tryd.prog w = .ok (.string (signS 6)) w := by kernel_rfl
theorem ix7 (w : World) : (Instr.index 93 (.agg signVals.toArray) (.int .i64 7)).run Tryd.prog w = .ok (.string (signS 7)) w := by kernel_rfl
theorem ix8 (w : World) : (Instr.index 93 (.agg signVals.toArray) (.int .i64 8)).run Tryd.prog w = .ok (.string (signS 8)) w := by kernel_rfl
theorem ix9 (w : World) : (Instr.index 93 (.agg signVals.toArray) (.int .i64 9)).run Tryd.prog w = .ok (.string (signS 9)) w := by kernel_rfl
theorem ix10 (w : World) : (Instr.index 93 (.agg signVals.toArray) (.int .i64 10)).run Tryd.prog w = .ok (.string (signS 10)) w := by kernel_rfl
theorem ix11 (w : World) : (Instr.index 93 (.agg signVals.toArray) (.int .i64 11)).run Tryd.prog w = .ok (.string (signS 11)) w := by kernel_rfl
theorem ix12 (w : World) : (Instr.index 93 (.agg signVals.toArray) (.int .i64 12)).run Tryd.prog w = .ok (.string (signS 12)) w := by kernel_rfl
theorem ix13 (w : World) : (Instr.index 93 (.agg signVals.toArray) (.int .i64 13)).run Tryd.prog w = .ok (.string (signS 13)) w := by kernel_rfl
theorem ix14 (w : World) : (Instr.index 93 (.agg signVals.toArray) (.int .i64 14)).run Tryd.prog w = .ok (.string (signS 14)) w := by kernel_rfl
theorem ix15 (w : World) : (Instr.index 93 (.agg signVals.toArray) (.int .i64 15)).run Tryd.prog w = .ok (.string (signS 15)) w := by kernel_rfl
theorem ix16 (w : World) : (Instr.index 93 (.agg signVals.toArray) (.int .i64 16)).run Tryd.prog w = .ok (.string (signS 16)) w := by kernel_rfl
theorem ix17 (w : World) : (Instr.index 93 (.agg signVals.toArray) (.int .i64 17)).run Tryd.prog w = .ok (.string (signS 17)) w := by kernel_rfl
theorem below18 (k : Nat) (hk : k < 18) : k = 0 ∨ k = 1 ∨ k = 2 ∨ k = 3 ∨ k = 4 ∨ k = 5 ∨ k = 6 ∨ k = 7 ∨ k = 8 ∨ k = 9 ∨ k = 10 ∨ k = 11 ∨ k = 12 ∨ k = 13 ∨ k = 14 ∨ k = 15 ∨ k = 16 ∨ k = 17 := by omega
theorem index_signs (k : Nat) (hk : k < 18) (w : World) : (Instr.index 93 (.agg signVals.toArray) (.int .i64 k)).run Tryd.prog w = .ok (.string (signS k)) w := by
  rcases below18 k hk with rfl | rfl | rfl | rfl | rfl | rfl | rfl | rfl | rfl | rfl | rfl | rfl | rfl | rfl | rfl | rfl | rfl | rfl
  · exact ix0 w
  · exact ix1 w
  · exact ix2 w
  · exact ix3 w
  · exact ix4 w
  · exact ix5 w
  · exact ix6 w
  · exact ix7 w
  · exact ix8 w
  · exact ix9 w
  · exact ix10 w
  · exact ix11 w
  · exact ix12 w
  · exact ix13 w
  · exact ix14 w
  · exact ix15 w
  · exact ix16 w
  · exact ix17 w
theorem signS_data (k : Nat) : (signS k).data.toList = signs.getD k [] := by simp [signS]
theorem signS_size (k : Nat) : (signS k).size ≤ maxLen := by
  have h : (signS k).size = (signs.getD k []).length := by rw [← len_list, signS_data]
  rw [h]
  by_cases hk : k < 18
  · rcases below18 k hk with rfl | rfl | rfl | rfl | rfl | rfl | rfl | rfl | rfl | rfl | rfl | rfl | rfl | rfl | rfl | rfl | rfl | rfl <;> simp [signs, maxLen]
  · have : signs.getD k [] = [] := by
      rw [List.getD_eq_getElem?_getD, List.getElem?_eq_none (by simp [signs]; omega)]; rfl
    rw [this]; simp
def signAt (s : ByteArray) (k : Nat) : Bool := prefB s.data.toList (signs.getD k [])
/-- The first of the signs with which a text begins. -/
def signK (s : ByteArray) : Option Nat := (List.range 18).find? (signAt s)
def signT (s : ByteArray) : T × Int := match signK s with
  | some k => (⟨5, signS k, 0, 0, 0⟩, 0)
  | none => (zeroT, 20)
theorem signK_some (s : ByteArray) (k : Nat) (hk : k < 18) (h : ∀ j, j < k → signAt s j = false) (h1 : signAt s k = true) : signK s = some k := by
  unfold signK
  rw [List.find?_range_eq_some]
  refine ⟨h1, by simpa using hk, fun j hj => ?_⟩
  simp [h j hj]
theorem signK_none (s : ByteArray) (h : ∀ j, j < 18 → signAt s j = false) : signK s = none := by
  unfold signK
  rw [List.find?_eq_none]
  intro j hj
  simp [h j (by simpa using hj)]
set_option maxHeartbeats 1000000 in
theorem c43 (s : ByteArray) (w : World) (h : Signs w) (hs : s.size ≤ maxLen) :
    Calls Tryd.prog 51 #[.string s] w fun e w' => e = .returned (pairV (signT s)) ∧ Below w.heap.size w w' := by
  have hix := index_signs
  have hB : ∀ o : Obj, Hid (Below w.heap.size w (w.alloc o)) := fun o => below_alloc w o
  have hS2 : ∀ o : Obj, Hid (Signs (w.alloc o)) := fun o => h.below (below_alloc w o)
  go_enter Tryd.func51, Tryd.ntmps51
  go_wp2_with (refine wpList_load_mid rfl 93 (.global 2) rfl 2 0 rfl signVals _ (hS2 _).out.2 Tryd.underlying93 rfl (by kernel_rfl) ?_)
  go_loop [7] (fun i => ∃ k : Nat, k ≤ 18 ∧ i = .int .i64 k ∧ Hid (∀ j, j < k → signAt s j = false)) (fun i => 18 - (intOf i).toNat)
  case atStart => exact ⟨0, Nat.zero_le _, rfl, fun j hj => by omega⟩
  case round =>
    obtain ⟨k, hk, rfl, hall⟩ := hrel
    by_cases hlt : k < 18
    · have hk' := hix k hlt
      have hlt' : (k : Int) < 18 := by omega
      have H56 := fun w => c56 s (signS k) w hs (signS_size k)
      rw [signS_data] at H56
      have H56 : ∀ w, Calls Tryd.prog 55 #[.string s, .string (signS k)] w fun e w' => e = .returned (.bool (signAt s k)) ∧ w' = w := H56
      clear hix
      cases hq : signAt s k
      · have hN : Hid (∀ j, j < k + 1 → signAt s j = false) := fun j hj => if e : j = k then e ▸ hq else hall.out j (by omega)
        rw [hq] at H56
        clear hq
        go_wp2_with (go_at_call 55; refine (H56 _).mono ?_; rintro e w' ⟨rfl, rfl⟩)
        go_round
        case rel => exact ⟨k + 1, by omega, by go_num, hN⟩
        case measure => simp [intOf]; omega
      · have hT : Hid (signT s = (⟨5, signS k, 0, 0, 0⟩, 0)) := by
          show signT s = _
          unfold signT; rw [signK_some s k hlt hall.out hq]
        rw [hq] at H56
        clear hq
        go_wp2_with (go_at_call 55; refine (H56 _).mono ?_; rintro e w' ⟨rfl, rfl⟩)
        exact bodyPost_ret (v := pairV (⟨5, signS k, 0, 0, 0⟩, 0)) (by simp [results, Tryd.results51, go_sem, pairV, T.val]) rfl ⟨by rw [hT.out], (hB _).out⟩
    · obtain rfl : k = 18 := by omega
      have hT : Hid (signT s = (zeroT, 20)) := by
        show signT s = _
        unfold signT; rw [signK_none s hall.out]
      go_wp2_with fail
      exact bodyPost_ret (v := pairV (zeroT, 20)) (by simp [results, Tryd.results51, go_sem, pairV, zeroT, T.val]) rfl ⟨by rw [hT.out], (hB _).out⟩
theorem below_set5 {n b : Nat} {w W : World} (h : Below n w W) (hb : n ≤ b) (v0 v1 v2 v3 v4 : Value) : Below n w (((((W.setCell ⟨b, 0, none⟩ v0).setCell ⟨b, 1, none⟩ v1).setCell ⟨b, 2, none⟩ v2).setCell ⟨b, 3, none⟩ v3).setCell ⟨b, 4, none⟩ v4) :=
  ((((h.setCell (p := ⟨b, 0, none⟩) hb _).setCell (p := ⟨b, 1, none⟩) hb _).setCell (p := ⟨b, 2, none⟩) hb _).setCell (p := ⟨b, 3, none⟩) hb _).setCell (p := ⟨b, 4, none⟩) hb _
def firstT (s : ByteArray) : T × Int :=
  if s.data.toList = [] then (zeroT, 0)
  else if ((byteAt s.data.toList 0 == 95) || capitalB (s.data.toList.headD 0)) then wordT s 2
  else if smallB (s.data.toList.headD 0) then wordT s 1
  else if digitB (s.data.toList.headD 0) then numT s
  else if byteAt s.data.toList 0 == 63 then globT s
  else signT s
set_option maxRecDepth 100000 in
set_option maxHeartbeats 1000000 in
theorem c21 (s : ByteArray) (w : World) (h : Signs w) (hs : s.size ≤ maxLen) :
    Calls Tryd.prog 33 #[.string s] w fun e w' => e = .returned (pairV (firstT s)) ∧ Below w.heap.size w w' := by
  have hB : ∀ o : Obj, Hid (Below w.heap.size w (w.alloc o)) := fun o => below_alloc w o
  by_cases h0 : s.size = 0
  · have e : s = ⟨#[]⟩ := byte_ext (List.eq_nil_of_length_eq_zero (by rw [len_list, h0]))
    subst e
    have hT : Hid (firstT ⟨#[]⟩ = (zeroT, 0)) := rfl
    go_enter Tryd.func33, Tryd.ntmps33
    go_wp2_with fail
    exact bodyPost_ret (v := pairV (zeroT, 0)) (by simp [results, Tryd.results33, go_sem, pairV, zeroT, T.val]) rfl ⟨by rw [hT.out], (hB _).out⟩
  · have hpos : 0 < s.size := by omega
    have hpos' : (0 : Int) < (s.size : Int) := by omega
    have hne : s.toList.isEmpty = false := by
      rw [ByteArray.toList_eq, List.isEmpty_eq_false_iff]
      intro h2
      have h3 : s.data.toList.length = 0 := by rw [h2]; rfl
      rw [len_list] at h3; omega
    have HF : Hid (firstT s = if (((s[0].toNat : Int) == 95) || capitalB s[0]) then wordT s 2 else if smallB s[0] then wordT s 1 else if digitB s[0] then numT s else if (s[0].toNat : Int) == 63 then globT s else signT s) := by
      show firstT s = _
      unfold firstT
      rw [byteAt_get s 0 hpos, headD_of s hpos, if_neg]
      intro h2
      have h3 : s.data.toList.length = 0 := by rw [h2]; rfl
      rw [len_list] at h3; omega
    have H37 := c37 s[0]
    have H38 := c38 s[0]
    have H40 := c40 s[0]
    have H39 := fun (o : Obj) k => c39 s k (w.alloc o) hs
    have H41 := fun (o : Obj) => c41 s (w.alloc o) hs
    have H42 := fun (o : Obj) => c42 s (w.alloc o) hs hpos
    have H43 := fun (o : Obj) => c43 s (w.alloc o) (h.below (below_alloc w o)) hs
    clear h hs h0
    generalize hcap : capitalB s[0] = bc at *
    generalize hsma : smallB s[0] = bs at *
    generalize hdig : digitB s[0] = bd at *
    cases h95 : ((s[0].toNat : Int) == 95)
    · cases bc
      · cases bs
        · cases bd
          · cases h63 : ((s[0].toNat : Int) == 63)
            · clear hcap hsma hdig
              have hT : Hid (firstT s = signT s) := by
                show firstT s = _
                rw [HF.out]; simp [h95, h63]
              clear HF
              obtain ⟨⟨⟨tk, tt, tn, td, ta⟩, te⟩, hx⟩ : ∃ x, signT s = x := ⟨_, rfl⟩
              rw [hx] at hT
              have HC := fun (o : Obj) => H43 o
              rw [hx] at HC
              clear hx
              simp only [pairV, T.val] at HC
              go_enter Tryd.func33, Tryd.ntmps33
              go_wp2_with (first | (go_at_call 23; refine (H37 _).mono ?_; rintro e w' ⟨rfl, rfl⟩) | (go_at_call 13; refine (H38 _).mono ?_; rintro e w' ⟨rfl, rfl⟩) | (go_at_call 24; refine (H40 _).mono ?_; rintro e w' ⟨rfl, rfl⟩))
              refine (HC _).mono ?_
              rintro e w1 ⟨rfl, hb⟩
              obtain ⟨hc, hf⟩ := bcell hb
              have hz : w.heap.size < w1.heap.size := by have := hb.size; simp at this; omega
              go_wp2_with fail
              exact bodyPost_ret (v := pairV (⟨tk, tt, tn, td, ta⟩, te)) (by simp [results, Tryd.results33, go_sem, pairV, T.val, hc]) rfl ⟨by rw [hT.out], below_set5 ((hB _).out.trans (hb.mono (by simp))) (Nat.le_refl _) _ _ _ _ _⟩
            · clear hcap hsma hdig
              have hT : Hid (firstT s = globT s) := by
                show firstT s = _
                rw [HF.out]; simp [h95, h63]
              clear HF
              obtain ⟨⟨⟨tk, tt, tn, td, ta⟩, te⟩, hx⟩ : ∃ x, globT s = x := ⟨_, rfl⟩
              rw [hx] at hT
              have HC := fun (o : Obj) => H42 o
              rw [hx] at HC
              clear hx
              simp only [pairV, T.val] at HC
              go_enter Tryd.func33, Tryd.ntmps33
              go_wp2_with (first | (go_at_call 23; refine (H37 _).mono ?_; rintro e w' ⟨rfl, rfl⟩) | (go_at_call 13; refine (H38 _).mono ?_; rintro e w' ⟨rfl, rfl⟩) | (go_at_call 24; refine (H40 _).mono ?_; rintro e w' ⟨rfl, rfl⟩))
              refine (HC _).mono ?_
              rintro e w1 ⟨rfl, hb⟩
              obtain ⟨hc, hf⟩ := bcell hb
              have hz : w.heap.size < w1.heap.size := by have := hb.size; simp at this; omega
              go_wp2_with fail
              exact bodyPost_ret (v := pairV (⟨tk, tt, tn, td, ta⟩, te)) (by simp [results, Tryd.results33, go_sem, pairV, T.val, hc]) rfl ⟨by rw [hT.out], below_set5 ((hB _).out.trans (hb.mono (by simp))) (Nat.le_refl _) _ _ _ _ _⟩
          · clear hcap hsma hdig
            have hT : Hid (firstT s = numT s) := by
              show firstT s = _
              rw [HF.out]; simp [h95]
            clear HF
            obtain ⟨⟨⟨tk, tt, tn, td, ta⟩, te⟩, hx⟩ : ∃ x, numT s = x := ⟨_, rfl⟩
            rw [hx] at hT
            have HC := fun (o : Obj) => H41 o
            rw [hx] at HC
            clear hx
            simp only [pairV, T.val] at HC
            go_enter Tryd.func33, Tryd.ntmps33
            go_wp2_with (first | (go_at_call 23; refine (H37 _).mono ?_; rintro e w' ⟨rfl, rfl⟩) | (go_at_call 13; refine (H38 _).mono ?_; rintro e w' ⟨rfl, rfl⟩) | (go_at_call 24; refine (H40 _).mono ?_; rintro e w' ⟨rfl, rfl⟩))
            refine (HC _).mono ?_
            rintro e w1 ⟨rfl, hb⟩
            obtain ⟨hc, hf⟩ := bcell hb
            have hz : w.heap.size < w1.heap.size := by have := hb.size; simp at this; omega
            go_wp2_with fail
            exact bodyPost_ret (v := pairV (⟨tk, tt, tn, td, ta⟩, te)) (by simp [results, Tryd.results33, go_sem, pairV, T.val, hc]) rfl ⟨by rw [hT.out], below_set5 ((hB _).out.trans (hb.mono (by simp))) (Nat.le_refl _) _ _ _ _ _⟩
        · clear hcap hsma hdig
          have hT : Hid (firstT s = wordT s 1) := by
            show firstT s = _
            rw [HF.out]; simp [h95]
          clear HF
          obtain ⟨⟨⟨tk, tt, tn, td, ta⟩, te⟩, hx⟩ : ∃ x, wordT s 1 = x := ⟨_, rfl⟩
          rw [hx] at hT
          have HC := fun (o : Obj) => H39 o 1
          rw [hx] at HC
          clear hx
          simp only [pairV, T.val] at HC
          go_enter Tryd.func33, Tryd.ntmps33
          go_wp2_with (first | (go_at_call 23; refine (H37 _).mono ?_; rintro e w' ⟨rfl, rfl⟩) | (go_at_call 13; refine (H38 _).mono ?_; rintro e w' ⟨rfl, rfl⟩) | (go_at_call 24; refine (H40 _).mono ?_; rintro e w' ⟨rfl, rfl⟩))
          refine (HC _).mono ?_
          rintro e w1 ⟨rfl, hb⟩
          obtain ⟨hc, hf⟩ := bcell hb
          have hz : w.heap.size < w1.heap.size := by have := hb.size; simp at this; omega
          go_wp2_with fail
          exact bodyPost_ret (v := pairV (⟨tk, tt, tn, td, ta⟩, te)) (by simp [results, Tryd.results33, go_sem, pairV, T.val, hc]) rfl ⟨by rw [hT.out], below_set5 ((hB _).out.trans (hb.mono (by simp))) (Nat.le_refl _) _ _ _ _ _⟩
      · clear hcap hsma hdig
        have hT : Hid (firstT s = wordT s 2) := by
          show firstT s = _
          rw [HF.out]; simp [h95]
        clear HF
        obtain ⟨⟨⟨tk, tt, tn, td, ta⟩, te⟩, hx⟩ : ∃ x, wordT s 2 = x := ⟨_, rfl⟩
        rw [hx] at hT
        have HC := fun (o : Obj) => H39 o 2
        rw [hx] at HC
        clear hx
        simp only [pairV, T.val] at HC
        go_enter Tryd.func33, Tryd.ntmps33
        go_wp2_with (first | (go_at_call 23; refine (H37 _).mono ?_; rintro e w' ⟨rfl, rfl⟩) | (go_at_call 13; refine (H38 _).mono ?_; rintro e w' ⟨rfl, rfl⟩) | (go_at_call 24; refine (H40 _).mono ?_; rintro e w' ⟨rfl, rfl⟩))
        refine (HC _).mono ?_
        rintro e w1 ⟨rfl, hb⟩
        obtain ⟨hc, hf⟩ := bcell hb
        have hz : w.heap.size < w1.heap.size := by have := hb.size; simp at this; omega
        go_wp2_with fail
        exact bodyPost_ret (v := pairV (⟨tk, tt, tn, td, ta⟩, te)) (by simp [results, Tryd.results33, go_sem, pairV, T.val, hc]) rfl ⟨by rw [hT.out], below_set5 ((hB _).out.trans (hb.mono (by simp))) (Nat.le_refl _) _ _ _ _ _⟩
    · clear hcap hsma hdig
      have hT : Hid (firstT s = wordT s 2) := by
        show firstT s = _
        rw [HF.out]; simp [h95]
      clear HF
      obtain ⟨⟨⟨tk, tt, tn, td, ta⟩, te⟩, hx⟩ : ∃ x, wordT s 2 = x := ⟨_, rfl⟩
      rw [hx] at hT
      have HC := fun (o : Obj) => H39 o 2
      rw [hx] at HC
      clear hx
      simp only [pairV, T.val] at HC
      go_enter Tryd.func33, Tryd.ntmps33
      go_wp2_with (first | (go_at_call 23; refine (H37 _).mono ?_; rintro e w' ⟨rfl, rfl⟩) | (go_at_call 13; refine (H38 _).mono ?_; rintro e w' ⟨rfl, rfl⟩) | (go_at_call 24; refine (H40 _).mono ?_; rintro e w' ⟨rfl, rfl⟩))
      refine (HC _).mono ?_
      rintro e w1 ⟨rfl, hb⟩
      obtain ⟨hc, hf⟩ := bcell hb
      have hz : w.heap.size < w1.heap.size := by have := hb.size; simp at this; omega
      go_wp2_with fail
      exact bodyPost_ret (v := pairV (⟨tk, tt, tn, td, ta⟩, te)) (by simp [results, Tryd.results33, go_sem, pairV, T.val, hc]) rfl ⟨by rw [hT.out], below_set5 ((hB _).out.trans (hb.mono (by simp))) (Nat.le_refl _) _ _ _ _ _⟩
end Go.Proofs.YtiemngihndbobaaDoor.Lx
