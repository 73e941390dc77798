/- The reference: global. -/
import Derived.Test.YtampjlafhglceaaDoorM2
namespace Go.Proofs.YtampjlafhglceaaDoor
open Go.RowKit
def T.val29 (x : T) : Value := .agg #[.int .i64 x.k, .string x.t, .int .i64 x.n, .int .i64 x.node, .int .i64 x.at_]
def trip29 (x : T × Int × Int) : Value := .tuple #[x.1.val29, .int .i64 x.2.1, .int .i64 x.2.2]
/-- What Next tells of the token at a place. -/
def tellN (k : Nat) (f : T × Int) : T × Int × Int := if f.2 = 0 then ({ f.1 with at_ := (k : Int) }, ((k + f.1.t.size : Nat) : Int), 0) else (zeroT, (k : Int), f.2)
theorem nextN_tell (s : ByteArray) (k : Nat) : nextN s k = tellN (startN s k) (firstT (s.extract (startN s k) s.size)) := rfl
theorem rest_list (s : ByteArray) (k : Nat) : (s.extract k s.size).data.toList = s.data.toList.drop k := by rw [ext_list, take_all]
theorem rest_gA (s : ByteArray) (k : Nat) : gA (s.extract k s.size).data.toList = runD s (k + 1) := by
  unfold gA runD; rw [rest_list, List.drop_drop]
theorem rest_gB (s : ByteArray) (k : Nat) : gB (s.extract k s.size).data.toList = runD s (k + 1 + runD s (k + 1) + 1) := by
  unfold gB; rw [rest_gA, rest_list, List.drop_drop]
  show runP digitB _ = runP digitB _
  rw [show k + (1 + runD s (k + 1) + 1) = k + 1 + runD s (k + 1) + 1 by omega]
theorem rest_size (s : ByteArray) (k : Nat) (h : k ≤ s.size) : (s.extract k s.size).size = s.size - k := by rw [ByteArray.size_extract]; omega
theorem rest_byte (s : ByteArray) (k j : Nat) (h : k + j < s.size) : byteAt (s.extract k s.size).data.toList j = (s[k + j].toNat : Int) := by
  unfold byteAt
  rw [rest_list, List.getElem?_drop, List.getElem?_eq_getElem (by rw [len_list]; exact h)]; rfl
theorem rest_text (s : ByteArray) (k n : Nat) : (s.extract k s.size).extract 0 n = s.extract k (k + n) := by
  apply byte_ext
  rw [ext_list, rest_list, drop_take_ext]; simp
theorem rest_dig (s : ByteArray) (k : Nat) : ((s.extract k s.size).data.toList.drop 1).take (runD s (k + 1)) = digL s (k + 1) := by
  rw [rest_list, List.drop_drop]; rfl
theorem rest_dig2 (s : ByteArray) (k a : Nat) : ((s.extract k s.size).data.toList.drop (1 + a + 1)).take (runD s (k + 1 + a + 1)) = digL s (k + 1 + a + 1) := by
  rw [rest_list, List.drop_drop, show k + (1 + a + 1) = k + 1 + a + 1 by omega]; rfl
theorem valE_two (l : List UInt8) : valE l = 0 ∨ valE l = 21 := by
  unfold valE; split
  · exact .inr rfl
  · split
    · exact .inr rfl
    · exact .inl rfl
/-- The global at a place, reckoned from the whole text. -/
theorem glob_bad (s : ByteArray) (k : Nat) (h : gOK (s.extract k s.size).data.toList = false) : tellN k (globT (s.extract k s.size)) = (zeroT, (k : Int), 20) := by
  rw [glob_no _ h]; rfl
theorem glob_bad2 (s : ByteArray) (k : Nat) (h : gOK (s.extract k s.size).data.toList = true) (hb : runD s (k + 1 + runD s (k + 1) + 1) = 0) : tellN k (globT (s.extract k s.size)) = (zeroT, (k : Int), 20) := by
  rw [glob_none _ h (by rw [rest_gB]; exact hb)]; rfl
theorem glob_num (s : ByteArray) (k : Nat) (h : gOK (s.extract k s.size).data.toList = true) (hb : runD s (k + 1 + runD s (k + 1) + 1) ≠ 0) (he : ¬ (valE (digL s (k + 1)) = 0 ∧ valE (digL s (k + 1 + runD s (k + 1) + 1)) = 0)) : tellN k (globT (s.extract k s.size)) = (zeroT, (k : Int), 21) := by
  unfold globT
  rw [h, if_pos rfl, rest_gB, rest_gA, if_neg hb, rest_dig, rest_dig2]
  by_cases h1 : valE (digL s (k + 1)) = 0
  · have h2 : valE (digL s (k + 1 + runD s (k + 1) + 1)) = 21 := by
      rcases valE_two (digL s (k + 1 + runD s (k + 1) + 1)) with h2 | h2
      · exact absurd ⟨h1, h2⟩ he
      · exact h2
    rw [if_pos h1, h2]; rfl
  · have h2 : valE (digL s (k + 1)) = 21 := by
      rcases valE_two (digL s (k + 1)) with h2 | h2
      · exact absurd h2 h1
      · exact h2
    rw [if_neg h1, h2]; rfl
theorem glob_good (s : ByteArray) (k : Nat) (hk : k + (1 + runD s (k + 1) + 1 + runD s (k + 1 + runD s (k + 1) + 1)) ≤ s.size) (h : gOK (s.extract k s.size).data.toList = true) (hb : runD s (k + 1 + runD s (k + 1) + 1) ≠ 0) (h1 : valE (digL s (k + 1)) = 0) (h2 : valE (digL s (k + 1 + runD s (k + 1) + 1)) = 0) :
    tellN k (globT (s.extract k s.size)) = (⟨4, s.extract k (k + (1 + runD s (k + 1) + 1 + runD s (k + 1 + runD s (k + 1) + 1))), valN (digL s (k + 1 + runD s (k + 1) + 1)), valN (digL s (k + 1)), (k : Int)⟩, ((k + (1 + runD s (k + 1) + 1 + runD s (k + 1 + runD s (k + 1) + 1)) : Nat) : Int), 0) := by
  unfold globT
  rw [h, if_pos rfl, rest_gB, rest_gA, if_neg hb, rest_dig, rest_dig2, if_pos h1, h2, rest_text]
  unfold tellN
  simp only [if_true]
  rw [ByteArray.size_extract]
  congr 2
  omega
set_option maxRecDepth 100000 in
set_option maxHeartbeats 1000000 in
theorem c27 (s : ByteArray) (k : Nat) (w : World) (hs : s.size ≤ 140737488355328) (hk : k < s.size) :
    Calls Tryd.prog 27 #[.string s, .int .i64 (k : Int)] w fun e w' => e = .returned (trip29 (tellN k (globT (s.extract k s.size)))) ∧ Below w.heap.size w w' := by
  have H26 := fun w => c26 s (k + 1) w hs (by omega)
  have hr1 := runD_le s (k + 1) (by omega)
  have HG : Hid (gOK (s.extract k s.size).data.toList = (!(1 + (runD s (k + 1) : Int) == 1) && !(1 + (runD s (k + 1) : Int) == ((s.size - k : Nat) : Int)) && !(byteAt (s.extract k s.size).data.toList (1 + runD s (k + 1)) != 95))) := by
    show gOK _ = _
    unfold gOK; rw [rest_gA, len_list, rest_size s k (by omega)]
  have HB0 : Hid (gOK (s.extract k s.size).data.toList = false → _) := glob_bad s k
  have HB1 : Hid (gOK (s.extract k s.size).data.toList = true → runD s (k + 1 + runD s (k + 1) + 1) = 0 → _) := glob_bad2 s k
  have HB2 : Hid (gOK (s.extract k s.size).data.toList = true → runD s (k + 1 + runD s (k + 1) + 1) ≠ 0 → ¬ (valE (digL s (k + 1)) = 0 ∧ valE (digL s (k + 1 + runD s (k + 1) + 1)) = 0) → _) := glob_num s k
  have HB3 : Hid _ := glob_good s k
  have hB : ∀ o : Obj, Hid (Below w.heap.size w (w.alloc o)) := fun o => below_alloc w o
  obtain ⟨a, ha⟩ : ∃ a, runD s (k + 1) = a := ⟨_, rfl⟩
  rw [ha] at H26 hr1 HG HB1 HB2 HB3
  have H26 : ∀ w : World, Calls Tryd.prog 26 #[.string s, .int .i64 ((k : Int) + 1)] w fun e w' => ∃ n, e = .returned (.tuple #[.int .i64 ((k : Int) + 1 + (a : Int)), .int .i64 n, .bool (decide (valE (digL s (k + 1)) = 0))]) ∧ (valE (digL s (k + 1)) = 0 → n = valN (digL s (k + 1))) ∧ Below w.heap.size w w' := H26
  clear ha
  go_enter Tryd.func27, Tryd.ntmps27
  go_wp2_with fail
  refine (H26 _).mono ?_
  rintro e w1 ⟨n, rfl, hn, hb1⟩
  have HN : Hid (valE (digL s (k + 1)) = 0 → n = valN (digL s (k + 1))) := hn
  have hw1 : Hid (Below w.heap.size w w1) := (hB _).out.trans (hb1.mono (by simp))
  obtain ⟨hc, hf⟩ := bcell hb1
  have hz : w.heap.size < w1.heap.size := by have := hb1.size; simp at this; omega
  clear hn hb1
  by_cases h1 : a = 0
  · have HF : Hid (tellN k (globT (s.extract k s.size)) = (zeroT, (k : Int), 20)) := HB0.out (by rw [HG.out, h1]; rfl)
    have g1 : (((k : Int) + 1 + (a : Int)) == ((k : Int) + 1)) = true := by simp; omega
    clear h1
    go_wp2_with fail
    exact bodyPost_ret (v := trip29 (zeroT, (k : Int), 20)) (by simp [results, Tryd.results27, go_sem, trip29, zeroT, T.val29, hc]) rfl ⟨by rw [HF.out], below_set5 hw1.out (Nat.le_refl _) _ _ _ _ _⟩
  · have g1 : (((k : Int) + 1 + (a : Int)) == ((k : Int) + 1)) = false := by simp; omega
    by_cases h2 : k + 1 + a = s.size
    · have HF : Hid (tellN k (globT (s.extract k s.size)) = (zeroT, (k : Int), 20)) := HB0.out (by rw [HG.out, show (1 + (a : Int) == ((s.size - k : Nat) : Int)) = true by simp; omega]; simp)
      have g2 : (((k : Int) + 1 + (a : Int)) == (s.size : Int)) = true := by simp; omega
      clear h1 h2
      go_wp2_with fail
      exact bodyPost_ret (v := trip29 (zeroT, (k : Int), 20)) (by simp [results, Tryd.results27, go_sem, trip29, zeroT, T.val29, hc]) rfl ⟨by rw [HF.out], below_set5 hw1.out (Nat.le_refl _) _ _ _ _ _⟩
    · have hlt : k + 1 + a < s.size := by omega
      have g2 : (((k : Int) + 1 + (a : Int)) == (s.size : Int)) = false := by simp; omega
      have g3 : ((k : Int) + 1 + (a : Int)) < (s.size : Int) := by omega
      have hby : Hid (byteAt (s.extract k s.size).data.toList (1 + a) = (s[k + 1 + a].toNat : Int)) := by
        show byteAt _ _ = _
        rw [rest_byte s k (1 + a) (by omega)]
        have : k + (1 + a) = k + 1 + a := by omega
        simp only [this]
      have g1' : (1 + (a : Int) == 1) = false := by simp; omega
      have g2' : (1 + (a : Int) == ((s.size - k : Nat) : Int)) = false := by simp; omega
      cases h3 : ((s[k + 1 + a].toNat : Int) != 95)
      · have HOK : Hid (gOK (s.extract k s.size).data.toList = true) := by
          show gOK _ = true
          rw [HG.out, hby.out, h3, g1', g2']; rfl
        clear h1 h2 g1' g2' HG hby HB0
        have H26b := fun w => c26 s (k + 1 + a + 1) w hs (by omega)
        have hr2 := runD_le s (k + 1 + a + 1) (by omega)
        obtain ⟨b, hb⟩ : ∃ b, runD s (k + 1 + a + 1) = b := ⟨_, rfl⟩
        rw [hb] at H26b hr2 HB1 HB2 HB3
        clear hb
        have H26b : ∀ w : World, Calls Tryd.prog 26 #[.string s, .int .i64 ((k : Int) + 1 + (a : Int) + 1)] w fun e w' => ∃ n, e = .returned (.tuple #[.int .i64 ((k : Int) + 1 + (a : Int) + 1 + (b : Int)), .int .i64 n, .bool (decide (valE (digL s (k + 1 + a + 1)) = 0))]) ∧ (valE (digL s (k + 1 + a + 1)) = 0 → n = valN (digL s (k + 1 + a + 1))) ∧ Below w.heap.size w w' := H26b
        go_wp2_with fail
        refine (H26b _).mono ?_
        rintro e w2 ⟨m, rfl, hm, hb2⟩
        have HM : Hid (valE (digL s (k + 1 + a + 1)) = 0 → m = valN (digL s (k + 1 + a + 1))) := hm
        have hw2 : Hid (Below w.heap.size w w2) := hw1.out.trans (hb2.mono hw1.out.size)
        have hc2 : ∀ o, w2.cell? ⟨w.heap.size, o, none⟩ = (w.alloc (.cells #[.int .i64 0, .string ⟨#[]⟩, .int .i64 0, .int .i64 0, .int .i64 0] 29)).cell? ⟨w.heap.size, o, none⟩ := fun o => (hb2.cell (p := ⟨w.heap.size, o, none⟩) hz).trans (hc _ _ (by simp))
        have hf2 : ∀ o, w2.frozen? ⟨w.heap.size, o, none⟩ = (w.alloc (.cells #[.int .i64 0, .string ⟨#[]⟩, .int .i64 0, .int .i64 0, .int .i64 0] 29)).frozen? ⟨w.heap.size, o, none⟩ := fun o => (hb2.frozen (p := ⟨w.heap.size, o, none⟩) hz).trans (hf _ _ (by simp))
        have hz2 : w.heap.size < w2.heap.size := Nat.lt_of_lt_of_le hz hb2.size
        clear hm hb2 hc hf
        by_cases h4 : b = 0
        · have HF : Hid (tellN k (globT (s.extract k s.size)) = (zeroT, (k : Int), 20)) := HB1.out HOK.out h4
          have g4 : (((k : Int) + 1 + (a : Int) + 1 + (b : Int)) == ((k : Int) + 1 + (a : Int) + 1)) = true := by simp; omega
          clear h4 h3
          go_wp2_with fail
          exact bodyPost_ret (v := trip29 (zeroT, (k : Int), 20)) (by simp [results, Tryd.results27, go_sem, trip29, zeroT, T.val29, hc2]) rfl ⟨by rw [HF.out], below_set5 hw2.out (Nat.le_refl _) _ _ _ _ _⟩
        · have g4 : (((k : Int) + 1 + (a : Int) + 1 + (b : Int)) == ((k : Int) + 1 + (a : Int) + 1)) = false := by simp; omega
          have g5 : ((k : Int) + 1 + (a : Int) + 1 + (b : Int)) ≤ (s.size : Int) := by omega
          have g6 : (k : Int) ≤ (k : Int) + 1 + (a : Int) + 1 + (b : Int) := by omega
          by_cases h5 : valE (digL s (k + 1)) = 0
          · by_cases h6 : valE (digL s (k + 1 + a + 1)) = 0
            · have HF : Hid (tellN k (globT (s.extract k s.size)) = (⟨4, s.extract k (k + 1 + a + 1 + b), m, n, (k : Int)⟩, (k : Int) + 1 + (a : Int) + 1 + (b : Int), 0)) := by
                show tellN k _ = _
                rw [HB3.out (by omega) HOK.out h4 h5 h6, HM.out h6, HN.out h5, show k + (1 + a + 1 + b) = k + 1 + a + 1 + b by omega]
                simp
              have d5 : decide (valE (digL s (k + 1)) = 0) = true := by simpa using h5
              have d6 : decide (valE (digL s (k + 1 + a + 1)) = 0) = true := by simpa using h6
              clear h4 h3 h5 h6
              go_wp2_with fail
              exact bodyPost_ret (v := trip29 (⟨4, s.extract k (k + 1 + a + 1 + b), m, n, (k : Int)⟩, (k : Int) + 1 + (a : Int) + 1 + (b : Int), 0)) (by simp [results, Tryd.results27, go_sem, trip29, T.val29, hc2]) rfl ⟨by rw [HF.out], below_set5 hw2.out (Nat.le_refl _) _ _ _ _ _⟩
            · have HF : Hid (tellN k (globT (s.extract k s.size)) = (zeroT, (k : Int), 21)) := HB2.out HOK.out h4 (fun h => h6 h.2)
              have d5 : decide (valE (digL s (k + 1)) = 0) = true := by simpa using h5
              have d6 : decide (valE (digL s (k + 1 + a + 1)) = 0) = false := by simpa using h6
              clear h4 h3 h5 h6
              go_wp2_with fail
              exact bodyPost_ret (v := trip29 (zeroT, (k : Int), 21)) (by simp [results, Tryd.results27, go_sem, trip29, zeroT, T.val29, hc2]) rfl ⟨by rw [HF.out], below_set5 hw2.out (Nat.le_refl _) _ _ _ _ _⟩
          · have HF : Hid (tellN k (globT (s.extract k s.size)) = (zeroT, (k : Int), 21)) := HB2.out HOK.out h4 (fun h => h5 h.1)
            have d5 : decide (valE (digL s (k + 1)) = 0) = false := by simpa using h5
            clear h4 h3 h5
            go_wp2_with fail
            exact bodyPost_ret (v := trip29 (zeroT, (k : Int), 21)) (by simp [results, Tryd.results27, go_sem, trip29, zeroT, T.val29, hc2]) rfl ⟨by rw [HF.out], below_set5 hw2.out (Nat.le_refl _) _ _ _ _ _⟩
      · have HF : Hid (tellN k (globT (s.extract k s.size)) = (zeroT, (k : Int), 20)) := HB0.out (by rw [HG.out, hby.out, h3]; simp)
        clear h1 h2
        go_wp2_with fail
        exact bodyPost_ret (v := trip29 (zeroT, (k : Int), 20)) (by simp [results, Tryd.results27, go_sem, trip29, zeroT, T.val29, hc]) rfl ⟨by rw [HF.out], below_set5 hw1.out (Nat.le_refl _) _ _ _ _ _⟩
end Go.Proofs.YtampjlafhglceaaDoor
