/- The reference: digits. -/
import Derived.Test.YtampjlafhglceaaDoorM1
import Derived.Deep.DrawnRows
namespace Go.Proofs.YtampjlafhglceaaDoor
open Go.RowKit
attribute [local go_sem ↓] Go.wp_at_zero Go.wp_at_succ
/-- The digits from a place on. -/
def digL (s : ByteArray) (k : Nat) : List UInt8 := (s.data.toList.drop k).take (runP digitB (s.data.toList.drop k))
def runD (s : ByteArray) (k : Nat) : Nat := runP digitB (s.data.toList.drop k)
theorem digL_len (s : ByteArray) (k : Nat) : (digL s k).length = runD s k := by
  unfold digL runD
  rw [List.length_take]
  have := runP_le digitB (s.data.toList.drop k)
  omega
theorem runD_le (s : ByteArray) (k : Nat) (h : k ≤ s.size) : k + runD s k ≤ s.size := by
  unfold runD
  have := runP_le digitB (s.data.toList.drop k)
  rw [List.length_drop, len_list] at this
  omega
theorem valE_zero (l : List UInt8) : valE l = 0 ↔ zeroLead l = false ∧ numL l ≤ 1099511627776 := by
  unfold valE
  cases zeroLead l
  · by_cases h : 1099511627776 < numL l
    · simp [h]
    · simp [h]
      first | done | omega
  · simp
theorem zero_lead (s : ByteArray) (k : Nat) (h : 1 < runD s k) (hk : k < s.size) : zeroLead (digL s k) = ((s[k].toNat : Int) == 48) := by
  unfold zeroLead
  rw [digL_len, decide_eq_true (by omega), Bool.true_and]
  unfold digL
  have hr : runP digitB (s.data.toList.drop k) = runD s k := rfl
  rw [hr, drop_consB s k hk]
  obtain ⟨m, hm⟩ : ∃ m, runD s k = m + 1 := ⟨runD s k - 1, by omega⟩
  rw [hm, List.take_succ_cons]; rfl
theorem no_lead (s : ByteArray) (k : Nat) (h : ¬ 1 < runD s k) : zeroLead (digL s k) = false := by
  unfold zeroLead
  rw [digL_len, decide_eq_false (by omega)]; rfl
/-- What has been reckoned of digits. -/
def Reck (m x : Int) : Prop := (m ≤ 1099511627776 ∧ m = x) ∨ (1099511627776 < m ∧ m ≤ 10995116277769 ∧ 1099511627776 < x)
set_option maxRecDepth 100000 in
set_option maxHeartbeats 1000000 in
theorem c26 (s : ByteArray) (k : Nat) (w : World) (hs : s.size ≤ 140737488355328) (hk : k ≤ s.size) :
    Calls Tryd.prog 26 #[.string s, .int .i64 (k : Int)] w fun e w' => ∃ n, e = .returned (.tuple #[.int .i64 ((k : Int) + (runD s k : Int)), .int .i64 n, .bool (decide (valE (digL s k) = 0))]) ∧ (valE (digL s k) = 0 → n = valN (digL s k)) ∧ Below w.heap.size w w' := by
  go_enter Tryd.func26, Tryd.ntmps26
  go_wp2
  go_loop [1, 8] (fun i n => ∃ (j : Nat) (m : Int), k ≤ j ∧ j ≤ s.size ∧ i = .int .i64 j ∧ n = .int .i64 m ∧ 0 ≤ m ∧ Hid (((s.data.toList.drop k).take (j - k)).all digitB = true) ∧ Hid (Reck m (numL ((s.data.toList.drop k).take (j - k))))) (fun i _ => s.size - (intOf i).toNat)
  case atStart => exact ⟨k, 0, Nat.le_refl _, hk, rfl, rfl, Int.le_refl _, by show _ = true; simp, by show Reck _ _; unfold Reck; simp [numL]⟩
  case round =>
    obtain ⟨j, m, hkj, hj, rfl, rfl, hm0, HA, HM⟩ := hrel
    have hexit : (j = s.size ∨ ∃ h : j < s.size, digitB s[j] = false) → Hid (k + runD s k = j ∧ (s.data.toList.drop k).take (j - k) = digL s k) := fun h => by
      have h1 := run_at digitB s k j hkj hj HA.out h
      refine ⟨h1, ?_⟩
      unfold digL
      rw [show runP digitB (s.data.toList.drop k) = j - k by omega]
    by_cases hltj : j < s.size
    · have hltj' : (j : Int) < (s.size : Int) := by omega
      have H25 := c25 s[j]
      cases hq : digitB s[j]
      · have HX := hexit (.inr ⟨hltj, hq⟩)
        rw [hq] at H25
        clear hq hexit
        have hkj2 : runD s k = j - k := by have := HX.out.1; omega
        have HV : Hid (valE (digL s k) = 0 → m = valN (digL s k)) := fun h => by
          have h1 := (valE_zero _).1 h
          have h2 := HM.out
          rw [HX.out.2] at h2
          unfold valN; rw [if_pos h]
          unfold Reck at h2
          omega
        have HR : Hid (((k : Int) + (runD s k : Int)) = (j : Int)) := by show _ = _; rw [hkj2]; omega
        by_cases hm : m ≤ 1099511627776
        · by_cases h1 : (j : Int) ≤ (k : Int) + 1
          · have HE : Hid (decide (valE (digL s k) = 0) = true) := by
              show _ = true
              rw [decide_eq_true_eq, valE_zero]
              refine ⟨no_lead s k (by omega), ?_⟩
              have h2 := HM.out
              rw [HX.out.2] at h2
              unfold Reck at h2; omega
            go_wp2_with (go_at_call 25; refine (H25 _).mono ?_; rintro e w' ⟨rfl, rfl⟩)
            go_quiet (fail)
            go_wp2_with fail
            refine bodyPost_ret (v := .tuple #[.int .i64 (j : Int), .int .i64 m, .bool true]) (by simp [results, Tryd.results26, go_sem]) rfl ⟨m, by rw [HE.out, HR.out], HV.out, below_drewN (Below.refl _ _) _⟩
          · have hkl : k < s.size := by omega
            have hkl' : (k : Int) < (s.size : Int) := by omega
            have hzl := zero_lead s k (by omega) hkl
            have h1' : decide ((j : Int) ≤ (k : Int) + 1) = false := by simpa using h1
            cases hz : ((s[k].toNat : Int) == 48)
            · have HE : Hid (decide (valE (digL s k) = 0) = true) := by
                show _ = true
                rw [decide_eq_true_eq, valE_zero, hzl, hz]
                refine ⟨rfl, ?_⟩
                have h2 := HM.out
                rw [HX.out.2] at h2
                unfold Reck at h2; omega
              have hz' : ((s[k].toNat : Int) != 48) = true := by simp at hz ⊢; exact hz
              clear hzl hz
              go_wp2_with (go_at_call 25; refine (H25 _).mono ?_; rintro e w' ⟨rfl, rfl⟩)
              go_quiet (fail)
              go_wp2_with fail
              refine bodyPost_ret (v := .tuple #[.int .i64 (j : Int), .int .i64 m, .bool true]) (by simp [results, Tryd.results26, go_sem]) rfl ⟨m, by rw [HE.out, HR.out], HV.out, below_drewN (Below.refl _ _) _⟩
            · have HE : Hid (decide (valE (digL s k) = 0) = false) := by
                show _ = false
                rw [decide_eq_false_iff_not, valE_zero, hzl, hz]
                simp
              have hz' : ((s[k].toNat : Int) != 48) = false := by simp at hz ⊢; exact hz
              clear hzl hz
              go_wp2_with (go_at_call 25; refine (H25 _).mono ?_; rintro e w' ⟨rfl, rfl⟩)
              go_quiet (fail)
              go_wp2_with fail
              refine bodyPost_ret (v := .tuple #[.int .i64 (j : Int), .int .i64 m, .bool false]) (by simp [results, Tryd.results26, go_sem]) rfl ⟨m, by rw [HE.out, HR.out], HV.out, below_drewN (Below.refl _ _) _⟩
        · have HE : Hid (decide (valE (digL s k) = 0) = false) := by
            show _ = false
            rw [decide_eq_false_iff_not, valE_zero]
            have h2 := HM.out
            rw [HX.out.2] at h2
            unfold Reck at h2; omega
          have hm' : decide (m ≤ 1099511627776) = false := by simpa using hm
          go_wp2_with (go_at_call 25; refine (H25 _).mono ?_; rintro e w' ⟨rfl, rfl⟩)
          go_quiet (fail)
          go_wp2_with fail
          refine bodyPost_ret (v := .tuple #[.int .i64 (j : Int), .int .i64 m, .bool false]) (by simp [results, Tryd.results26, go_sem]) rfl ⟨m, by rw [HE.out, HR.out], HV.out, below_drewN (Below.refl _ _) _⟩
      · have hN : Hid (((s.data.toList.drop k).take (j + 1 - k)).all digitB = true) := all_step digitB s k j hkj hltj HA.out hq
        have hsn : numL ((s.data.toList.drop k).take (j + 1 - k)) = 10 * numL ((s.data.toList.drop k).take (j - k)) + ((s[j].toNat : Int) - 48) := by
          have e : j + 1 - k = (j - k) + 1 := by omega
          rw [e, List.take_succ_eq_append_getElem (by rw [List.length_drop, len_list]; omega), numL_snoc]
          have e2 : (s.data.toList.drop k)[j - k]'(by rw [List.length_drop, len_list]; omega) = s[j] := by
            rw [List.getElem_drop]
            have : k + (j - k) = j := by omega
            simp only [this]; rfl
          rw [e2]
        have hd := hq
        unfold digitB at hd
        simp only [Bool.and_eq_true, decide_eq_true_eq] at hd
        obtain ⟨hd1, hd2⟩ := hd
        have hx0 : 0 ≤ numL ((s.data.toList.drop k).take (j - k)) := numL_nonneg _ HA.out
        rw [hq] at H25
        clear hq hexit
        by_cases hm : m ≤ 1099511627776
        · have HM2 : Hid (Reck (m * 10 + ((s[j].toNat : Int) - 48)) (numL ((s.data.toList.drop k).take (j + 1 - k)))) := by
            show Reck _ _
            rw [hsn]
            have h := HM.out
            unfold Reck at *
            generalize numL ((s.data.toList.drop k).take (j - k)) = x at *
            omega
          clear hsn HM hx0
          go_wp2_with (go_at_call 25; refine (H25 _).mono ?_; rintro e w' ⟨rfl, rfl⟩)
          go_round
          case rel => exact ⟨j + 1, m * 10 + ((s[j].toNat : Int) - 48), by omega, by omega, by go_num, rfl, by omega, hN, HM2⟩
          case measure => simp [intOf]; omega
        · have HM2 : Hid (Reck m (numL ((s.data.toList.drop k).take (j + 1 - k)))) := by
            show Reck _ _
            rw [hsn]
            have h := HM.out
            unfold Reck at *
            generalize numL ((s.data.toList.drop k).take (j - k)) = x at *
            omega
          clear hsn HM hx0
          go_wp2_with (go_at_call 25; refine (H25 _).mono ?_; rintro e w' ⟨rfl, rfl⟩)
          go_round
          case rel => exact ⟨j + 1, m, by omega, by omega, by go_num, rfl, by omega, hN, HM2⟩
          case measure => simp [intOf]; omega
    · have HX := hexit (.inl (by omega))
      have hltj' : ¬ ((j : Int) < (s.size : Int)) := by omega
      clear hexit
      have hkj2 : runD s k = j - k := by have := HX.out.1; omega
      have HV : Hid (valE (digL s k) = 0 → m = valN (digL s k)) := fun h => by
        have h1 := (valE_zero _).1 h
        have h2 := HM.out
        rw [HX.out.2] at h2
        unfold valN; rw [if_pos h]
        unfold Reck at h2
        omega
      have HR : Hid (((k : Int) + (runD s k : Int)) = (j : Int)) := by show _ = _; rw [hkj2]; omega
      by_cases hm : m ≤ 1099511627776
      · by_cases h1 : (j : Int) ≤ (k : Int) + 1
        · have HE : Hid (decide (valE (digL s k) = 0) = true) := by
            show _ = true
            rw [decide_eq_true_eq, valE_zero]
            refine ⟨no_lead s k (by omega), ?_⟩
            have h2 := HM.out
            rw [HX.out.2] at h2
            unfold Reck at h2; omega
          go_wp2_with fail
          go_quiet (fail)
          go_wp2_with fail
          refine bodyPost_ret (v := .tuple #[.int .i64 (j : Int), .int .i64 m, .bool true]) (by simp [results, Tryd.results26, go_sem]) rfl ⟨m, by rw [HE.out, HR.out], HV.out, below_drewN (Below.refl _ _) _⟩
        · have hkl : k < s.size := by omega
          have hkl' : (k : Int) < (s.size : Int) := by omega
          have hzl := zero_lead s k (by omega) hkl
          have h1' : decide ((j : Int) ≤ (k : Int) + 1) = false := by simpa using h1
          cases hz : ((s[k].toNat : Int) == 48)
          · have HE : Hid (decide (valE (digL s k) = 0) = true) := by
              show _ = true
              rw [decide_eq_true_eq, valE_zero, hzl, hz]
              refine ⟨rfl, ?_⟩
              have h2 := HM.out
              rw [HX.out.2] at h2
              unfold Reck at h2; omega
            have hz' : ((s[k].toNat : Int) != 48) = true := by simp at hz ⊢; exact hz
            clear hzl hz
            go_wp2_with fail
            go_quiet (fail)
            go_wp2_with fail
            refine bodyPost_ret (v := .tuple #[.int .i64 (j : Int), .int .i64 m, .bool true]) (by simp [results, Tryd.results26, go_sem]) rfl ⟨m, by rw [HE.out, HR.out], HV.out, below_drewN (Below.refl _ _) _⟩
          · have HE : Hid (decide (valE (digL s k) = 0) = false) := by
              show _ = false
              rw [decide_eq_false_iff_not, valE_zero, hzl, hz]
              simp
            have hz' : ((s[k].toNat : Int) != 48) = false := by simp at hz ⊢; exact hz
            clear hzl hz
            go_wp2_with fail
            go_quiet (fail)
            go_wp2_with fail
            refine bodyPost_ret (v := .tuple #[.int .i64 (j : Int), .int .i64 m, .bool false]) (by simp [results, Tryd.results26, go_sem]) rfl ⟨m, by rw [HE.out, HR.out], HV.out, below_drewN (Below.refl _ _) _⟩
      · have HE : Hid (decide (valE (digL s k) = 0) = false) := by
          show _ = false
          rw [decide_eq_false_iff_not, valE_zero]
          have h2 := HM.out
          rw [HX.out.2] at h2
          unfold Reck at h2; omega
        have hm' : decide (m ≤ 1099511627776) = false := by simpa using hm
        go_wp2_with fail
        go_quiet (fail)
        go_wp2_with fail
        refine bodyPost_ret (v := .tuple #[.int .i64 (j : Int), .int .i64 m, .bool false]) (by simp [results, Tryd.results26, go_sem]) rfl ⟨m, by rw [HE.out, HR.out], HV.out, below_drewN (Below.refl _ _) _⟩
end Go.Proofs.YtampjlafhglceaaDoor
