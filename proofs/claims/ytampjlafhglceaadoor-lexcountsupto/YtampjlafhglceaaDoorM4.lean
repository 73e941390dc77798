/- The reference: signs, Next. -/
import Derived.Test.YtampjlafhglceaaDoorM3b
namespace Go.Proofs.YtampjlafhglceaaDoor
open Go.RowKit
attribute [local go_sem ↓] Go.wp_at_zero Go.wp_at_succ
set_option maxHeartbeats 1000000 in
theorem c28 (w : World) :
    Calls Tryd.prog 28 #[] w fun e w' => e = .returned (.slice (some ⟨w.heap.size, 0, none⟩) 18 18) ∧ w' = w.alloc (.cells signVals.toArray 9) := by
  go_enter Tryd.func28, Tryd.ntmps28
  go_wp2_with fail
  go_ret
  exact ⟨rfl, rfl⟩
theorem inner_alt (c : UInt8) : innerB c = (smallB c || capUB c || digitB c) := by
  unfold innerB capUB
  cases smallB c <;> cases capitalB c <;> cases digitB c <;> cases ((c.toNat : Int) == 95) <;> rfl
theorem first_at (s : ByteArray) (p : Nat) (h : p < s.size) : firstT (s.extract p s.size) = if capUB s[p] then wordT (s.extract p s.size) 2 else if smallB s[p] then wordT (s.extract p s.size) 1 else if digitB s[p] then numT (s.extract p s.size) else if ((s[p].toNat : Int) == 63) then globT (s.extract p s.size) else signT (s.extract p s.size) := by
  have h1 : byteAt (s.extract p s.size).data.toList 0 = (s[p].toNat : Int) := rest_byte s p 0 (by omega)
  have h2 : (s.extract p s.size).data.toList.headD 0 = s[p] := by rw [rest_list, drop_consB s p h]; rfl
  have h3 : ¬ (s.extract p s.size).data.toList = [] := by rw [rest_list, drop_consB s p h]; simp
  unfold firstT capUB
  rw [if_neg h3]
  simp only [h1, h2]
  cases ((s[p].toNat : Int) == 95) <;> cases capitalB s[p] <;> rfl
theorem tell_end (s : ByteArray) (p : Nat) (h : p = s.size) : tellN p (firstT (s.extract p s.size)) = (⟨0, ⟨#[]⟩, 0, 0, (p : Int)⟩, (p : Int), 0) := by
  have e : (s.extract p s.size).data.toList = [] := by rw [rest_list, List.drop_of_length_le (by rw [len_list]; omega)]
  unfold firstT
  rw [if_pos e]
  rfl
theorem tell_word (s : ByteArray) (p : Nat) (kd : Int) (hp : p ≤ s.size) : tellN p (wordT (s.extract p s.size) kd) = if 16 < runP innerB (s.data.toList.drop p) then (zeroT, (p : Int), 5) else (⟨kd, s.extract p (p + runP innerB (s.data.toList.drop p)), 0, 0, (p : Int)⟩, ((p + runP innerB (s.data.toList.drop p) : Nat) : Int), 0) := by
  unfold wordT
  rw [rest_list]
  have hr := runP_le innerB (s.data.toList.drop p)
  rw [List.length_drop, len_list] at hr
  split
  · rfl
  · unfold tellN
    simp only [if_true]
    rw [rest_text, ByteArray.size_extract]
    congr 2
    omega
theorem tell_num (s : ByteArray) (p : Nat) (hp : p ≤ s.size) : tellN p (numT (s.extract p s.size)) = if valE (digL s p) = 0 then (⟨3, s.extract p (p + runD s p), valN (digL s p), 0, (p : Int)⟩, ((p + runD s p : Nat) : Int), 0) else (zeroT, (p : Int), 21) := by
  have hr := runD_le s p hp
  unfold numT
  rw [rest_list, rest_text]
  show tellN p (⟨3, s.extract p (p + runD s p), valN (digL s p), 0, 0⟩, valE (digL s p)) = _
  unfold tellN
  rcases valE_two (digL s p) with h | h
  · rw [h]; simp only [if_true]
    rw [ByteArray.size_extract]
    congr 2
    omega
  · rw [h]; simp
theorem sign_at (s : ByteArray) (p k : Nat) (hp : p ≤ s.size) : signAt (s.extract p s.size) k = (decide ((p : Int) + ((signS k).size : Int) ≤ (s.size : Int)) && ((s.extract p (p + (signS k).size)).toList == (signS k).toList)) := by
  unfold signAt prefB
  rw [rest_list, beq_list, drop_take_ext, ← signS_data]
  by_cases h : (p : Int) + ((signS k).size : Int) ≤ (s.size : Int)
  · rw [decide_eq_true h, Bool.true_and, decide_eq_decide, List.prefix_iff_eq_take, len_list]
    exact ⟨fun h => h.symm, fun h => h.symm⟩
  · rw [decide_eq_false h, Bool.false_and, decide_eq_false_iff_not]
    intro h2
    have := h2.length_le
    rw [len_list, List.length_drop, len_list] at this
    omega
theorem tell_sign (s : ByteArray) (p k : Nat) (h : signK (s.extract p s.size) = some k) : tellN p (signT (s.extract p s.size)) = (⟨5, signS k, 0, 0, (p : Int)⟩, ((p + (signS k).size : Nat) : Int), 0) := by
  unfold signT; rw [h]; rfl
theorem tell_nosign (s : ByteArray) (p : Nat) (h : signK (s.extract p s.size) = none) : tellN p (signT (s.extract p s.size)) = (zeroT, (p : Int), 20) := by
  unfold signT; rw [h]; rfl
theorem signS_le (k : Nat) : (signS k).size ≤ 3 := by
  have h : (signS k).size = (signs.getD k []).length := by rw [← len_list, signS_data]
  rw [h]
  by_cases hk : k < 18
  · rcases below18 k hk with rfl | rfl | rfl | rfl | rfl | rfl | rfl | rfl | rfl | rfl | rfl | rfl | rfl | rfl | rfl | rfl | rfl | rfl <;> simp [signs]
  · have : signs.getD k [] = [] := by
      rw [List.getD_eq_getElem?_getD, List.getElem?_eq_none (by simp [signs]; omega)]; rfl
    rw [this]; simp
theorem signVals_get (k : Nat) (hk : k < 18) : signVals[k]? = some (.string (signS k)) := by
  unfold signVals
  rw [List.getElem?_map, List.getElem?_range hk]; rfl
set_option maxRecDepth 100000 in
set_option maxHeartbeats 1000000 in
theorem c10_out (s : ByteArray) (at_ : Int) (w : World) (_hs : s.size ≤ 140737488355328) (h : at_ < 0 ∨ (s.size : Int) < at_) :
    Calls Tryd.prog 10 #[.string s, .int .i64 at_] w fun e w' => e = .returned (trip29 (zeroT, 0, 2)) ∧ Below w.heap.size w w' := by
  have hB : ∀ o : Obj, Hid (Below w.heap.size w (w.alloc o)) := fun o => below_alloc w o
  by_cases h0 : at_ < 0
  · go_enter Tryd.func10, Tryd.ntmps10
    go_wp2_with fail
    exact bodyPost_ret (v := trip29 (zeroT, 0, 2)) (by simp [results, Tryd.results10, go_sem, trip29, zeroT, T.val29]) rfl ⟨rfl, (hB _).out⟩
  · have h1 : (s.size : Int) < at_ := by omega
    go_enter Tryd.func10, Tryd.ntmps10
    go_wp2_with fail
    exact bodyPost_ret (v := trip29 (zeroT, 0, 2)) (by simp [results, Tryd.results10, go_sem, trip29, zeroT, T.val29]) rfl ⟨rfl, (hB _).out⟩
set_option maxRecDepth 100000 in
set_option maxHeartbeats 2000000 in
theorem c10_in (s : ByteArray) (k : Nat) (w : World) (hs : s.size ≤ 140737488355328) (hk : k ≤ s.size) :
    Calls Tryd.prog 10 #[.string s, .int .i64 (k : Int)] w fun e w' => e = .returned (trip29 (nextN s k)) ∧ Below w.heap.size w w' := by
  have H22 := fun w => c22 s k w (by unfold maxLen; omega) hk
  have hp := startN_le s k hk
  have HNX : Hid (nextN s k = tellN (startN s k) (firstT (s.extract (startN s k) s.size))) := nextN_tell s k
  obtain ⟨p, hpe⟩ : ∃ p, startN s k = p := ⟨_, rfl⟩
  rw [hpe] at H22 hp HNX
  clear hpe
  have hB : ∀ o : Obj, Hid (Below w.heap.size w (w.alloc o)) := fun o => below_alloc w o
  have h0' : ¬ ((k : Int) < 0) := by omega
  have h1' : ¬ ((s.size : Int) < (k : Int)) := by omega
  go_enter Tryd.func10, Tryd.ntmps10
  go_wp2_with fail
  refine (H22 _).mono ?_
  rintro e w' ⟨rfl, rfl⟩
  by_cases hpe : p = s.size
  · have HF : Hid (nextN s k = (⟨0, ⟨#[]⟩, 0, 0, (p : Int)⟩, (p : Int), 0)) := HNX.out.trans (tell_end s p hpe)
    have g1 : ((p : Int) == (s.size : Int)) = true := by simp [hpe]
    clear hpe
    go_wp2_with fail
    exact bodyPost_ret (v := trip29 (⟨0, ⟨#[]⟩, 0, 0, (p : Int)⟩, (p : Int), 0)) (by simp [results, Tryd.results10, go_sem, trip29, T.val29]) rfl ⟨by rw [HF.out], (hB _).out⟩
  · have hlt : p < s.size := by omega
    have hlt' : (p : Int) < (s.size : Int) := by omega
    have g1 : ((p : Int) == (s.size : Int)) = false := by simp; omega
    have HFA : Hid (firstT (s.extract p s.size) = _) := first_at s p hlt
    have H23 := c23 s[p]
    have H24 := c24 s[p]
    have H25 := c25 s[p]
    clear hpe
    cases hcu : capUB s[p]
    · cases hsm : smallB s[p]
      · cases hdg : digitB s[p]
        · cases h63 : ((s[p].toNat : Int) == 63)
          · have HNS : Hid (nextN s k = tellN p (signT (s.extract p s.size))) := by
              show nextN s k = _
              rw [HNX.out, HFA.out, hcu, hsm, hdg, h63]; rfl
            rw [hcu] at H24
            rw [hsm] at H23
            rw [hdg] at H25
            clear HNX HFA hcu hsm hdg
            have H28 := fun (o : Obj) => c28 (w.alloc o)
            have HSY : Hid (∀ i, i < 18 → (∀ j, j < i → signAt (s.extract p s.size) j = false) → signAt (s.extract p s.size) i = true → nextN s k = (⟨5, signS i, 0, 0, (p : Int)⟩, ((p + (signS i).size : Nat) : Int), 0)) := fun i hi h1 h2 => HNS.out.trans (tell_sign s p i (signK_some _ i hi h1 h2))
            have HSN : Hid ((∀ j, j < 18 → signAt (s.extract p s.size) j = false) → nextN s k = (zeroT, (p : Int), 20)) := fun h => HNS.out.trans (tell_nosign s p (signK_none _ h))
            clear HNS
            go_wp2_with fail
            refine (H23 _).mono ?_
            rintro e w' ⟨rfl, rfl⟩
            go_wp2_with fail
            refine (H24 _).mono ?_
            rintro e w' ⟨rfl, rfl⟩
            go_wp2_with fail
            refine (H25 _).mono ?_
            rintro e w' ⟨rfl, rfl⟩
            go_wp2_with fail
            refine (H28 _).mono ?_
            rintro e w' ⟨rfl, rfl⟩
            have hW1 : Below w.heap.size w ((w.alloc (.cells #[.int .i64 0, .string ⟨#[]⟩, .int .i64 0, .int .i64 0, .int .i64 0] 29)).alloc (.cells signVals.toArray 9)) := ((Below.refl _ w).alloc (Nat.le_refl _) _).alloc (by simp) _
            have hrg : ((w.alloc (.cells #[.int .i64 0, .string ⟨#[]⟩, .int .i64 0, .int .i64 0, .int .i64 0] 29)).alloc (.cells signVals.toArray 9)).rangeAt (w.heap.size + 1) 0 signVals := by
              have h := range_newB (w.alloc (.cells #[.int .i64 0, .string ⟨#[]⟩, .int .i64 0, .int .i64 0, .int .i64 0] 29)) signVals 9
              rw [World.size_alloc] at h; exact h
            have htok := tok_new w (.cells signVals.toArray 9)
            have hsz1 : ((w.alloc (.cells #[.int .i64 0, .string ⟨#[]⟩, .int .i64 0, .int .i64 0, .int .i64 0] 29)).alloc (.cells signVals.toArray 9)).heap.size = w.heap.size + 2 := by simp
            rw [World.size_alloc]
            obtain ⟨W1, hWW⟩ : ∃ W1, ((w.alloc (.cells #[.int .i64 0, .string ⟨#[]⟩, .int .i64 0, .int .i64 0, .int .i64 0] 29)).alloc (.cells signVals.toArray 9)) = W1 := ⟨_, rfl⟩
            rw [hWW] at hW1 hrg htok hsz1 ⊢
            clear hWW
            go_wp2_with fail
            go_loopw [14] (fun i wr => ∃ q : Nat, q ≤ 18 ∧ i = .int .i64 q ∧ Hid (∀ j, j < q → signAt (s.extract p s.size) j = false) ∧ Below W1.heap.size W1 wr) (fun i _ => 18 - (intOf i).toNat)
            case atStart => exact ⟨0, Nat.zero_le _, rfl, fun j hj => by omega, Below.refl _ _⟩
            case round =>
              obtain ⟨q, hq, rfl, hall, hbr⟩ := hrel
              have hwr : Hid (Below w.heap.size w wr) := hW1.trans (hbr.mono (by omega))
              have htk : Tok wr w.heap.size := htok.below hbr
              by_cases hltq : q < 18
              · have hltq' : (q : Int) < 18 := by omega
                have hq0 : (0 : Int) ≤ (q : Int) := by omega
                have p0 : wr.cell? ⟨w.heap.size + 1, q, none⟩ = some (.string (signS q)) := by
                  have h1 := (hbr.cell (p := ⟨w.heap.size + 1, 0 + q, none⟩) (by show w.heap.size + 1 < W1.heap.size; omega)).trans (hrg q _ (signVals_get q hltq))
                  rw [Nat.zero_add] at h1; exact h1
                have hs3 := signS_le q
                have hsa := sign_at s p q hp
                have HY : Hid (signAt (s.extract p s.size) q = true → nextN s k = (⟨5, signS q, 0, 0, (p : Int)⟩, ((p + (signS q).size : Nat) : Int), 0)) := fun h => HSY.out q hltq hall.out h
                have HN : Hid (signAt (s.extract p s.size) q = false → ∀ j, j < q + 1 → signAt (s.extract p s.size) j = false) := fun h j hj => if e : j = q then e ▸ h else hall.out j (by omega)
                generalize signS q = sg at *
                by_cases hle : (p : Int) + (sg.size : Int) ≤ (s.size : Int)
                · cases hqq : ((s.extract p (p + sg.size)).toList == sg.toList)
                  · have HN2 : Hid (∀ j, j < q + 1 → signAt (s.extract p s.size) j = false) := HN.out (by rw [hsa, hqq]; simp)
                    clear hsa HY HN
                    go_wp2_with fail
                    go_quiet (fail)
                    go_wp2_with fail
                    go_roundw
                    case rel => exact ⟨q + 1, by omega, by go_num, HN2, below_drewN hbr _⟩
                    case measure => simp [intOf]; omega
                  · have HF : Hid (nextN s k = (⟨5, sg, 0, 0, (p : Int)⟩, (p : Int) + (sg.size : Int), 0)) := by
                      show nextN s k = _
                      rw [HY.out (by rw [hsa, hqq, decide_eq_true hle]; rfl)]; simp
                    clear hsa HY HN
                    obtain ⟨t0, t1, t2, t3, t4, tf⟩ := htk
                    go_wp2_with fail
                    go_quiet (fail)
                    go_wp2_with fail
                    go_region
                    go_wp2_with fail
                    exact bodyPost_ret (v := trip29 (⟨5, sg, 0, 0, (p : Int)⟩, (p : Int) + (sg.size : Int), 0)) (by simp [results, Tryd.results10, go_sem, trip29, T.val29, t0, t1, t2, t3, t4]) rfl ⟨by rw [HF.out], below_set5 (below_drewN hwr.out _) (Nat.le_refl _) _ _ _ _ _⟩
                · have hled : decide ((p : Int) + (sg.size : Int) ≤ (s.size : Int)) = false := by simpa using hle
                  have HN2 : Hid (∀ j, j < q + 1 → signAt (s.extract p s.size) j = false) := HN.out (by rw [hsa, hled]; rfl)
                  clear hsa HY HN
                  go_wp2_with fail
                  go_quiet (fail)
                  go_wp2_with fail
                  go_roundw
                  case rel => exact ⟨q + 1, by omega, by go_num, HN2, below_drewN hbr _⟩
                  case measure => simp [intOf]; omega
              · obtain rfl : q = 18 := by omega
                have HF : Hid (nextN s k = (zeroT, (p : Int), 20)) := HSN.out hall.out
                obtain ⟨t0, t1, t2, t3, t4, tf⟩ := htk
                go_wp2_with fail
                exact bodyPost_ret (v := trip29 (zeroT, (p : Int), 20)) (by simp [results, Tryd.results10, go_sem, trip29, zeroT, T.val29, t0, t1, t2, t3, t4]) rfl ⟨by rw [HF.out], below_set5 hwr.out (Nat.le_refl _) _ _ _ _ _⟩
          · have HF : Hid (nextN s k = tellN p (globT (s.extract p s.size))) := by
              show nextN s k = _
              rw [HNX.out, HFA.out, hcu, hsm, hdg, h63]; rfl
            rw [hcu] at H24
            rw [hsm] at H23
            rw [hdg] at H25
            clear HNX HFA hcu hsm hdg
            have H27 := fun (o : Obj) => c27 s p (w.alloc o) hs hlt
            obtain ⟨⟨⟨tk, tt, tn, td, ta⟩, tq, te⟩, hx⟩ : ∃ x, tellN p (globT (s.extract p s.size)) = x := ⟨_, rfl⟩
            rw [hx] at H27 HF
            clear hx
            simp only [trip29, T.val29] at H27
            go_wp2_with fail
            refine (H23 _).mono ?_
            rintro e w' ⟨rfl, rfl⟩
            go_wp2_with fail
            refine (H24 _).mono ?_
            rintro e w' ⟨rfl, rfl⟩
            go_wp2_with fail
            refine (H25 _).mono ?_
            rintro e w' ⟨rfl, rfl⟩
            go_wp2_with fail
            refine (H27 _).mono ?_
            rintro e w1 ⟨rfl, hb⟩
            obtain ⟨hc, hf⟩ := bcell hb
            have hz : w.heap.size < w1.heap.size := by have := hb.size; simp at this; omega
            go_wp2_with fail
            exact bodyPost_ret (v := trip29 (⟨tk, tt, tn, td, ta⟩, tq, te)) (by simp [results, Tryd.results10, go_sem, trip29, T.val29, hc]) rfl ⟨by rw [HF.out], below_set5 ((hB _).out.trans (hb.mono (by simp))) (Nat.le_refl _) _ _ _ _ _⟩
        · have HW : Hid (nextN s k = if valE (digL s p) = 0 then (⟨3, s.extract p (p + runD s p), valN (digL s p), 0, (p : Int)⟩, ((p + runD s p : Nat) : Int), 0) else (zeroT, (p : Int), 21)) := by
            show nextN s k = _
            rw [HNX.out, HFA.out, hcu, hsm, hdg]; exact tell_num s p hp
          rw [hcu] at H24
          rw [hsm] at H23
          rw [hdg] at H25
          clear HNX HFA hcu hsm hdg
          have hrd := runD_le s p hp
          have H26 := fun w => c26 s p w hs hp
          generalize runD s p = r at *
          by_cases hv : valE (digL s p) = 0
          · have dv : decide (valE (digL s p) = 0) = true := by simpa using hv
            rw [dv] at H26
            go_wp2_with fail
            refine (H23 _).mono ?_
            rintro e w' ⟨rfl, rfl⟩
            go_wp2_with fail
            refine (H24 _).mono ?_
            rintro e w' ⟨rfl, rfl⟩
            go_wp2_with fail
            refine (H25 _).mono ?_
            rintro e w' ⟨rfl, rfl⟩
            go_wp2_with fail
            refine (H26 _).mono ?_
            rintro e w1 ⟨n, rfl, hn, hb⟩
            have hn := hn hv
            have HF : Hid (nextN s k = (⟨3, s.extract p (p + r), n, 0, (p : Int)⟩, (p : Int) + (r : Int), 0)) := by
              show nextN s k = _
              rw [HW.out, if_pos hv, hn]; simp
            clear HW hv dv hn
            obtain ⟨hc, hf⟩ := bcell hb
            have hz : w.heap.size < w1.heap.size := by have := hb.size; simp at this; omega
            have g2 : (p : Int) ≤ (p : Int) + (r : Int) := by omega
            have g3 : (p : Int) + (r : Int) ≤ (s.size : Int) := by omega
            go_wp2_with fail
            exact bodyPost_ret (v := trip29 (⟨3, s.extract p (p + r), n, 0, (p : Int)⟩, (p : Int) + (r : Int), 0)) (by simp [results, Tryd.results10, go_sem, trip29, T.val29, hc]) rfl ⟨by rw [HF.out], below_set5 ((hB _).out.trans (hb.mono (by simp))) (Nat.le_refl _) _ _ _ _ _⟩
          · have dv : decide (valE (digL s p) = 0) = false := by simpa using hv
            rw [dv] at H26
            have HF : Hid (nextN s k = (zeroT, (p : Int), 21)) := by
              show nextN s k = _
              rw [HW.out, if_neg hv]
            clear HW
            go_wp2_with fail
            refine (H23 _).mono ?_
            rintro e w' ⟨rfl, rfl⟩
            go_wp2_with fail
            refine (H24 _).mono ?_
            rintro e w' ⟨rfl, rfl⟩
            go_wp2_with fail
            refine (H25 _).mono ?_
            rintro e w' ⟨rfl, rfl⟩
            go_wp2_with fail
            refine (H26 _).mono ?_
            rintro e w1 ⟨n, rfl, _, hb⟩
            clear hv dv
            obtain ⟨hc, hf⟩ := bcell hb
            have hz : w.heap.size < w1.heap.size := by have := hb.size; simp at this; omega
            go_wp2_with fail
            exact bodyPost_ret (v := trip29 (zeroT, (p : Int), 21)) (by simp [results, Tryd.results10, go_sem, trip29, zeroT, T.val29, hc]) rfl ⟨by rw [HF.out], below_set5 ((hB _).out.trans (hb.mono (by simp))) (Nat.le_refl _) _ _ _ _ _⟩
      · rw [hcu] at H24
        rw [hsm] at H23
        have HW : Hid (nextN s k = if 16 < runP innerB (s.data.toList.drop p) then (zeroT, (p : Int), 5) else (⟨1, s.extract p (p + runP innerB (s.data.toList.drop p)), 0, 0, (p : Int)⟩, ((p + runP innerB (s.data.toList.drop p) : Nat) : Int), 0)) := by
          show nextN s k = _
          rw [HNX.out, HFA.out, hcu, hsm]; exact tell_word s p 1 hp
        clear HNX HFA hcu hsm
        go_wp2_with fail
        refine (H23 _).mono ?_
        rintro e w' ⟨rfl, rfl⟩
        go_wp2_with fail
        go_loop [8] (fun i => ∃ j : Nat, p ≤ j ∧ j ≤ s.size ∧ i = .int .i64 j ∧ Hid (((s.data.toList.drop p).take (j - p)).all innerB = true)) (fun i => s.size - (intOf i).toNat)
        case atStart => exact ⟨p, Nat.le_refl _, hp, rfl, by show _ = true; simp⟩
        case round =>
          obtain ⟨j, hpj, hj, rfl, HA⟩ := hrel
          have hexit : (j = s.size ∨ ∃ h : j < s.size, innerB s[j] = false) → p + runP innerB (s.data.toList.drop p) = j := fun h => run_at innerB s p j hpj hj HA.out h
          by_cases hltj : j < s.size
          · have hltj' : (j : Int) < (s.size : Int) := by omega
            have G23 := c23 s[j]
            have G24 := c24 s[j]
            have G25 := c25 s[j]
            have HIA : Hid (innerB s[j] = (smallB s[j] || capUB s[j] || digitB s[j])) := inner_alt s[j]
            have HST : Hid (innerB s[j] = true → ((s.data.toList.drop p).take (j + 1 - p)).all innerB = true) := all_step innerB s p j hpj hltj HA.out
            have HEX : Hid (innerB s[j] = false → p + runP innerB (s.data.toList.drop p) = j) := fun h => hexit (.inr ⟨hltj, h⟩)
            clear hexit
            generalize innerB s[j] = bi at HIA HST HEX
            generalize smallB s[j] = b1 at G23 HIA
            generalize capUB s[j] = b2 at G24 HIA
            generalize digitB s[j] = b3 at G25 HIA
            cases b1
            · cases b2
              · cases b3
                · have hr := HEX.out HIA.out
                  clear HEX HST HIA
                  have hr2 : runP innerB (s.data.toList.drop p) = j - p := by omega
                  by_cases h16 : 16 < j - p
                  · have h16' : (16 : Int) < (j : Int) - (p : Int) := by omega
                    have HF : Hid (nextN s k = (zeroT, (p : Int), 5)) := by
                      show nextN s k = _
                      rw [HW.out, hr2, if_pos h16]
                    clear hr hr2 h16 HW
                    go_wp2_with fail
                    refine (G23 _).mono ?_
                    rintro e w' ⟨rfl, rfl⟩
                    go_wp2_with fail
                    refine (G24 _).mono ?_
                    rintro e w' ⟨rfl, rfl⟩
                    go_wp2_with fail
                    refine (G25 _).mono ?_
                    rintro e w' ⟨rfl, rfl⟩
                    go_wp2_with fail
                    exact bodyPost_ret (v := trip29 (zeroT, (p : Int), 5)) (by simp [results, Tryd.results10, go_sem, trip29, zeroT, T.val29]) rfl ⟨by rw [HF.out], (hB _).out⟩
                  · have h16' : ¬ ((16 : Int) < (j : Int) - (p : Int)) := by omega
                    have HF : Hid (nextN s k = (⟨1, s.extract p j, 0, 0, (p : Int)⟩, (j : Int), 0)) := by
                      show nextN s k = _
                      rw [HW.out, hr2, if_neg h16, show p + (j - p) = j by omega]
                    have hpj' : (p : Int) ≤ (j : Int) := by omega
                    have hj' : (j : Int) ≤ (s.size : Int) := by omega
                    clear hr hr2 h16 HW
                    go_wp2_with fail
                    refine (G23 _).mono ?_
                    rintro e w' ⟨rfl, rfl⟩
                    go_wp2_with fail
                    refine (G24 _).mono ?_
                    rintro e w' ⟨rfl, rfl⟩
                    go_wp2_with fail
                    refine (G25 _).mono ?_
                    rintro e w' ⟨rfl, rfl⟩
                    go_wp2_with fail
                    refine (H24 _).mono ?_
                    rintro e w' ⟨rfl, rfl⟩
                    go_wp2_with fail
                    exact bodyPost_ret (v := trip29 (⟨1, s.extract p j, 0, 0, (p : Int)⟩, (j : Int), 0)) (by simp [results, Tryd.results10, go_sem, trip29, T.val29]) rfl ⟨by rw [HF.out], (hB _).out⟩
                · have hN : Hid (((s.data.toList.drop p).take (j + 1 - p)).all innerB = true) := HST.out HIA.out
                  clear HEX HW
                  go_wp2_with fail
                  refine (G23 _).mono ?_
                  rintro e w' ⟨rfl, rfl⟩
                  go_wp2_with fail
                  refine (G24 _).mono ?_
                  rintro e w' ⟨rfl, rfl⟩
                  go_wp2_with fail
                  refine (G25 _).mono ?_
                  rintro e w' ⟨rfl, rfl⟩
                  go_wp2_with fail
                  go_round
                  case rel => exact ⟨j + 1, by omega, by omega, by go_num, hN⟩
                  case measure => simp [intOf]; omega
              · have hN : Hid (((s.data.toList.drop p).take (j + 1 - p)).all innerB = true) := HST.out HIA.out
                clear HEX HW
                go_wp2_with fail
                refine (G23 _).mono ?_
                rintro e w' ⟨rfl, rfl⟩
                go_wp2_with fail
                refine (G24 _).mono ?_
                rintro e w' ⟨rfl, rfl⟩
                go_wp2_with fail
                go_round
                case rel => exact ⟨j + 1, by omega, by omega, by go_num, hN⟩
                case measure => simp [intOf]; omega
            · have hN : Hid (((s.data.toList.drop p).take (j + 1 - p)).all innerB = true) := HST.out HIA.out
              clear HEX HW
              go_wp2_with fail
              refine (G23 _).mono ?_
              rintro e w' ⟨rfl, rfl⟩
              go_wp2_with fail
              go_round
              case rel => exact ⟨j + 1, by omega, by omega, by go_num, hN⟩
              case measure => simp [intOf]; omega
          · have hltj' : ¬ ((j : Int) < (s.size : Int)) := by omega
            have hr := hexit (.inl (by omega))
            clear hexit
            have hr2 : runP innerB (s.data.toList.drop p) = j - p := by omega
            by_cases h16 : 16 < j - p
            · have h16' : (16 : Int) < (j : Int) - (p : Int) := by omega
              have HF : Hid (nextN s k = (zeroT, (p : Int), 5)) := by
                show nextN s k = _
                rw [HW.out, hr2, if_pos h16]
              clear hr hr2 h16 HW
              go_wp2_with fail

              exact bodyPost_ret (v := trip29 (zeroT, (p : Int), 5)) (by simp [results, Tryd.results10, go_sem, trip29, zeroT, T.val29]) rfl ⟨by rw [HF.out], (hB _).out⟩
            · have h16' : ¬ ((16 : Int) < (j : Int) - (p : Int)) := by omega
              have HF : Hid (nextN s k = (⟨1, s.extract p j, 0, 0, (p : Int)⟩, (j : Int), 0)) := by
                show nextN s k = _
                rw [HW.out, hr2, if_neg h16, show p + (j - p) = j by omega]
              have hpj' : (p : Int) ≤ (j : Int) := by omega
              have hj' : (j : Int) ≤ (s.size : Int) := by omega
              clear hr hr2 h16 HW
              go_wp2_with fail

              refine (H24 _).mono ?_
              rintro e w' ⟨rfl, rfl⟩
              go_wp2_with fail
              exact bodyPost_ret (v := trip29 (⟨1, s.extract p j, 0, 0, (p : Int)⟩, (j : Int), 0)) (by simp [results, Tryd.results10, go_sem, trip29, T.val29]) rfl ⟨by rw [HF.out], (hB _).out⟩
    · have hsm : smallB s[p] = false := by
        unfold capUB capitalB at hcu
        unfold smallB
        simp only [Bool.or_eq_true, Bool.and_eq_true, decide_eq_true_eq, beq_iff_eq] at hcu
        rw [Bool.and_eq_false_iff, decide_eq_false_iff_not, decide_eq_false_iff_not]
        omega
      rw [hcu] at H24
      rw [hsm] at H23
      have HW : Hid (nextN s k = if 16 < runP innerB (s.data.toList.drop p) then (zeroT, (p : Int), 5) else (⟨2, s.extract p (p + runP innerB (s.data.toList.drop p)), 0, 0, (p : Int)⟩, ((p + runP innerB (s.data.toList.drop p) : Nat) : Int), 0)) := by
        show nextN s k = _
        rw [HNX.out, HFA.out, hcu]; exact tell_word s p 2 hp
      clear HNX HFA hcu hsm
      go_wp2_with fail
      refine (H23 _).mono ?_
      rintro e w' ⟨rfl, rfl⟩
      go_wp2_with fail
      refine (H24 _).mono ?_
      rintro e w' ⟨rfl, rfl⟩
      go_wp2_with fail
      go_loop [8] (fun i => ∃ j : Nat, p ≤ j ∧ j ≤ s.size ∧ i = .int .i64 j ∧ Hid (((s.data.toList.drop p).take (j - p)).all innerB = true)) (fun i => s.size - (intOf i).toNat)
      case atStart => exact ⟨p, Nat.le_refl _, hp, rfl, by show _ = true; simp⟩
      case round =>
        obtain ⟨j, hpj, hj, rfl, HA⟩ := hrel
        have hexit : (j = s.size ∨ ∃ h : j < s.size, innerB s[j] = false) → p + runP innerB (s.data.toList.drop p) = j := fun h => run_at innerB s p j hpj hj HA.out h
        by_cases hltj : j < s.size
        · have hltj' : (j : Int) < (s.size : Int) := by omega
          have G23 := c23 s[j]
          have G24 := c24 s[j]
          have G25 := c25 s[j]
          have HIA : Hid (innerB s[j] = (smallB s[j] || capUB s[j] || digitB s[j])) := inner_alt s[j]
          have HST : Hid (innerB s[j] = true → ((s.data.toList.drop p).take (j + 1 - p)).all innerB = true) := all_step innerB s p j hpj hltj HA.out
          have HEX : Hid (innerB s[j] = false → p + runP innerB (s.data.toList.drop p) = j) := fun h => hexit (.inr ⟨hltj, h⟩)
          clear hexit
          generalize innerB s[j] = bi at HIA HST HEX
          generalize smallB s[j] = b1 at G23 HIA
          generalize capUB s[j] = b2 at G24 HIA
          generalize digitB s[j] = b3 at G25 HIA
          cases b1
          · cases b2
            · cases b3
              · have hr := HEX.out HIA.out
                clear HEX HST HIA
                have hr2 : runP innerB (s.data.toList.drop p) = j - p := by omega
                by_cases h16 : 16 < j - p
                · have h16' : (16 : Int) < (j : Int) - (p : Int) := by omega
                  have HF : Hid (nextN s k = (zeroT, (p : Int), 5)) := by
                    show nextN s k = _
                    rw [HW.out, hr2, if_pos h16]
                  clear hr hr2 h16 HW
                  go_wp2_with fail
                  refine (G23 _).mono ?_
                  rintro e w' ⟨rfl, rfl⟩
                  go_wp2_with fail
                  refine (G24 _).mono ?_
                  rintro e w' ⟨rfl, rfl⟩
                  go_wp2_with fail
                  refine (G25 _).mono ?_
                  rintro e w' ⟨rfl, rfl⟩
                  go_wp2_with fail
                  exact bodyPost_ret (v := trip29 (zeroT, (p : Int), 5)) (by simp [results, Tryd.results10, go_sem, trip29, zeroT, T.val29]) rfl ⟨by rw [HF.out], (hB _).out⟩
                · have h16' : ¬ ((16 : Int) < (j : Int) - (p : Int)) := by omega
                  have HF : Hid (nextN s k = (⟨2, s.extract p j, 0, 0, (p : Int)⟩, (j : Int), 0)) := by
                    show nextN s k = _
                    rw [HW.out, hr2, if_neg h16, show p + (j - p) = j by omega]
                  have hpj' : (p : Int) ≤ (j : Int) := by omega
                  have hj' : (j : Int) ≤ (s.size : Int) := by omega
                  clear hr hr2 h16 HW
                  go_wp2_with fail
                  refine (G23 _).mono ?_
                  rintro e w' ⟨rfl, rfl⟩
                  go_wp2_with fail
                  refine (G24 _).mono ?_
                  rintro e w' ⟨rfl, rfl⟩
                  go_wp2_with fail
                  refine (G25 _).mono ?_
                  rintro e w' ⟨rfl, rfl⟩
                  go_wp2_with fail
                  refine (H24 _).mono ?_
                  rintro e w' ⟨rfl, rfl⟩
                  go_wp2_with fail
                  exact bodyPost_ret (v := trip29 (⟨2, s.extract p j, 0, 0, (p : Int)⟩, (j : Int), 0)) (by simp [results, Tryd.results10, go_sem, trip29, T.val29]) rfl ⟨by rw [HF.out], (hB _).out⟩
              · have hN : Hid (((s.data.toList.drop p).take (j + 1 - p)).all innerB = true) := HST.out HIA.out
                clear HEX HW
                go_wp2_with fail
                refine (G23 _).mono ?_
                rintro e w' ⟨rfl, rfl⟩
                go_wp2_with fail
                refine (G24 _).mono ?_
                rintro e w' ⟨rfl, rfl⟩
                go_wp2_with fail
                refine (G25 _).mono ?_
                rintro e w' ⟨rfl, rfl⟩
                go_wp2_with fail
                go_round
                case rel => exact ⟨j + 1, by omega, by omega, by go_num, hN⟩
                case measure => simp [intOf]; omega
            · have hN : Hid (((s.data.toList.drop p).take (j + 1 - p)).all innerB = true) := HST.out HIA.out
              clear HEX HW
              go_wp2_with fail
              refine (G23 _).mono ?_
              rintro e w' ⟨rfl, rfl⟩
              go_wp2_with fail
              refine (G24 _).mono ?_
              rintro e w' ⟨rfl, rfl⟩
              go_wp2_with fail
              go_round
              case rel => exact ⟨j + 1, by omega, by omega, by go_num, hN⟩
              case measure => simp [intOf]; omega
          · have hN : Hid (((s.data.toList.drop p).take (j + 1 - p)).all innerB = true) := HST.out HIA.out
            clear HEX HW
            go_wp2_with fail
            refine (G23 _).mono ?_
            rintro e w' ⟨rfl, rfl⟩
            go_wp2_with fail
            go_round
            case rel => exact ⟨j + 1, by omega, by omega, by go_num, hN⟩
            case measure => simp [intOf]; omega
        · have hltj' : ¬ ((j : Int) < (s.size : Int)) := by omega
          have hr := hexit (.inl (by omega))
          clear hexit
          have hr2 : runP innerB (s.data.toList.drop p) = j - p := by omega
          by_cases h16 : 16 < j - p
          · have h16' : (16 : Int) < (j : Int) - (p : Int) := by omega
            have HF : Hid (nextN s k = (zeroT, (p : Int), 5)) := by
              show nextN s k = _
              rw [HW.out, hr2, if_pos h16]
            clear hr hr2 h16 HW
            go_wp2_with fail

            exact bodyPost_ret (v := trip29 (zeroT, (p : Int), 5)) (by simp [results, Tryd.results10, go_sem, trip29, zeroT, T.val29]) rfl ⟨by rw [HF.out], (hB _).out⟩
          · have h16' : ¬ ((16 : Int) < (j : Int) - (p : Int)) := by omega
            have HF : Hid (nextN s k = (⟨2, s.extract p j, 0, 0, (p : Int)⟩, (j : Int), 0)) := by
              show nextN s k = _
              rw [HW.out, hr2, if_neg h16, show p + (j - p) = j by omega]
            have hpj' : (p : Int) ≤ (j : Int) := by omega
            have hj' : (j : Int) ≤ (s.size : Int) := by omega
            clear hr hr2 h16 HW
            go_wp2_with fail

            refine (H24 _).mono ?_
            rintro e w' ⟨rfl, rfl⟩
            go_wp2_with fail
            exact bodyPost_ret (v := trip29 (⟨2, s.extract p j, 0, 0, (p : Int)⟩, (j : Int), 0)) (by simp [results, Tryd.results10, go_sem, trip29, T.val29]) rfl ⟨by rw [HF.out], (hB _).out⟩
theorem c10 (s : ByteArray) (at_ : Int) (w : World) (hs : s.size ≤ 140737488355328) :
    Calls Tryd.prog 10 #[.string s, .int .i64 at_] w fun e w' => e = .returned (trip29 (nextT s at_)) ∧ Below w.heap.size w w' := by
  by_cases h : at_ < 0 ∨ (s.size : Int) < at_
  · have e : nextT s at_ = (zeroT, 0, 2) := by unfold nextT; rw [if_pos h]
    rw [e]; exact c10_out s at_ w hs h
  · have e : nextT s at_ = nextN s at_.toNat := by unfold nextT; rw [if_neg h]
    rw [e]
    obtain ⟨k, rfl⟩ := Int.eq_ofNat_of_zero_le (a := at_) (by omega)
    exact c10_in s k w hs (by omega)
end Go.Proofs.YtampjlafhglceaaDoor
