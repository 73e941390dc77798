/- The reference: small, capital, digit, begin, digits. -/
import Derived.Test.YtampjlafhglceaaDoorL5
namespace Go.Proofs.YtampjlafhglceaaDoor
open Go.RowKit
set_option maxHeartbeats 400000 in
theorem c23 (c : UInt8) (w : World) :
    Calls Tryd.prog 23 #[.int .u8 (c.toNat : Int)] w fun e w' => e = .returned (.bool (smallB c)) ∧ w' = w := by
  by_cases h : 97 ≤ (c.toNat : Int)
  · have hb : smallB c = decide ((c.toNat : Int) ≤ 122) := by simp [smallB, h]
    rw [hb]; clear hb
    go_enter Tryd.func23, Tryd.ntmps23
    go_wp2
    go_ret
    exact ⟨rfl, rfl⟩
  · have hb : smallB c = false := by unfold smallB; rw [decide_eq_false h]; rfl
    rw [hb]; clear hb
    go_enter Tryd.func23, Tryd.ntmps23
    go_wp2
    go_ret
    exact ⟨rfl, rfl⟩
set_option maxHeartbeats 400000 in
theorem c25 (c : UInt8) (w : World) :
    Calls Tryd.prog 25 #[.int .u8 (c.toNat : Int)] w fun e w' => e = .returned (.bool (digitB c)) ∧ w' = w := by
  by_cases h : 48 ≤ (c.toNat : Int)
  · have hb : digitB c = decide ((c.toNat : Int) ≤ 57) := by simp [digitB, h]
    rw [hb]; clear hb
    go_enter Tryd.func25, Tryd.ntmps25
    go_wp2
    go_ret
    exact ⟨rfl, rfl⟩
  · have hb : digitB c = false := by unfold digitB; rw [decide_eq_false h]; rfl
    rw [hb]; clear hb
    go_enter Tryd.func25, Tryd.ntmps25
    go_wp2
    go_ret
    exact ⟨rfl, rfl⟩
def capUB (c : UInt8) : Bool := capitalB c || ((c.toNat : Int) == 95)
set_option maxHeartbeats 400000 in
theorem c24 (c : UInt8) (w : World) :
    Calls Tryd.prog 24 #[.int .u8 (c.toNat : Int)] w fun e w' => e = .returned (.bool (capUB c)) ∧ w' = w := by
  by_cases h : 65 ≤ (c.toNat : Int)
  · by_cases h2 : (c.toNat : Int) ≤ 90
    · have hb : capUB c = true := by unfold capUB capitalB; rw [decide_eq_true h, decide_eq_true h2]; rfl
      rw [hb]; clear hb
      go_enter Tryd.func24, Tryd.ntmps24
      go_wp2
      go_ret
      exact ⟨rfl, rfl⟩
    · have hb : capUB c = ((c.toNat : Int) == 95) := by unfold capUB capitalB; rw [decide_eq_false h2]; simp
      rw [hb]; clear hb
      go_enter Tryd.func24, Tryd.ntmps24
      go_wp2
      go_ret
      exact ⟨rfl, rfl⟩
  · have hb : capUB c = ((c.toNat : Int) == 95) := by unfold capUB capitalB; rw [decide_eq_false h]; simp
    rw [hb]; clear hb
    go_enter Tryd.func24, Tryd.ntmps24
    go_wp2
    go_ret
    exact ⟨rfl, rfl⟩
theorem blank_iff (c : UInt8) : blankB c = (((c.toNat : Int) == 32) || ((c.toNat : Int) == 9) || ((c.toNat : Int) == 10) || ((c.toNat : Int) == 13)) := by
  have e : ∀ n : Nat, n < 256 → ((c.toNat : Int) == (n : Int)) = (c == n.toUInt8) := by
    intro n hn
    rw [Bool.eq_iff_iff]
    simp only [beq_iff_eq]
    constructor
    · intro h
      apply UInt8.toNat_inj.1
      simp; omega
    · intro h
      subst h
      simp; omega
  have e1 := e 32 (by omega)
  have e2 := e 9 (by omega)
  have e3 := e 10 (by omega)
  have e4 := e 13 (by omega)
  unfold blankB
  rw [show ((c.toNat : Int) == 32) = (c == 32) from e1, show ((c.toNat : Int) == 9) = (c == 9) from e2, show ((c.toNat : Int) == 10) = (c == 10) from e3, show ((c.toNat : Int) == 13) = (c == 13) from e4]
  simp only [List.contains_cons, List.contains_nil, Bool.or_false]
  cases (c == 32) <;> cases (c == 9) <;> cases (c == 10) <;> cases (c == 13) <;> rfl
theorem start_blank (s : ByteArray) (k : Nat) (h : k < s.size) (hb : blankB s[k] = true) : startN s k = startN s (k + 1) := by
  unfold startN; rw [drop_consB s k h, gap_blank _ _ hb]; omega
theorem start_stop (s : ByteArray) (k : Nat) (h : k < s.size) (hb : blankB s[k] = false) (h2 : ((s[k].toNat : Int) == 37) = false) : startN s k = k := by
  unfold startN; rw [drop_consB s k h, gap_stop _ _ hb h2]; rfl
theorem start_end (s : ByteArray) (k : Nat) (h : k = s.size) : startN s k = k := by
  unfold startN; rw [List.drop_of_length_le (by rw [len_list]; omega)]; rfl
theorem start_rem (s : ByteArray) (k j : Nat) (h : k < s.size) (hb : blankB s[k] = false) (h2 : ((s[k].toNat : Int) == 37) = true) (hj : k + runP lineB (s.data.toList.drop k) = j) : startN s k = startN s j := by
  unfold startN
  rw [drop_consB s k h, rem_line _ _ h2] at hj
  rw [drop_consB s k h, gap_rem _ _ hb h2, List.drop_drop]
  rw [show k + 1 + runP lineB (s.data.toList.drop (k + 1)) = j by omega]
  omega
theorem run_at (p : UInt8 → Bool) (s : ByteArray) (k j : Nat) (hkj : k ≤ j) (_hj : j ≤ s.size) (hall : ((s.data.toList.drop k).take (j - k)).all p = true) (hstop : j = s.size ∨ ∃ h : j < s.size, p s[j] = false) : k + runP p (s.data.toList.drop k) = j := by
  rcases hstop with h | ⟨h, hp⟩
  · have e : (s.data.toList.drop k).take (j - k) = s.data.toList.drop k := List.take_of_length_le (by rw [List.length_drop, len_list]; omega)
    rw [e] at hall
    rw [runP_all p _ hall, List.length_drop, len_list]; omega
  · have := runP_stop p (s.data.toList.drop k) (j - k) (by rw [List.length_drop, len_list]; omega) hall (by
      have e : (s.data.toList.drop k)[j - k]'(by rw [List.length_drop, len_list]; omega) = s[j] := by
        rw [List.getElem_drop]
        have : k + (j - k) = j := by omega
        simp only [this]; rfl
      rw [e]; exact hp)
    omega
theorem all_step (p : UInt8 → Bool) (s : ByteArray) (k j : Nat) (hkj : k ≤ j) (hj : j < s.size) (hall : ((s.data.toList.drop k).take (j - k)).all p = true) (hp : p s[j] = true) : ((s.data.toList.drop k).take (j + 1 - k)).all p = true := by
  have e : j + 1 - k = (j - k) + 1 := by omega
  rw [e, List.take_succ_eq_append_getElem (by rw [List.length_drop, len_list]; omega), List.all_append, hall]
  have e2 : (s.data.toList.drop k)[j - k]'(by rw [List.length_drop, len_list]; omega) = s[j] := by
    rw [List.getElem_drop]
    have : k + (j - k) = j := by omega
    simp only [this]; rfl
  rw [e2]; simp [hp]
set_option maxHeartbeats 1000000 in
theorem c22 (s : ByteArray) (k0 : Nat) (w : World) (hs : s.size ≤ maxLen) (hk0 : k0 ≤ s.size) :
    Calls Tryd.prog 22 #[.string s, .int .i64 (k0 : Int)] w fun e w' => e = .returned (.int .i64 (startN s k0)) ∧ w' = w := by
  unfold maxLen at hs
  go_enter Tryd.func22, Tryd.ntmps22
  go_wp2
  go_loop [1] (fun i => ∃ k : Nat, k ≤ s.size ∧ i = .int .i64 k ∧ Hid (startN s k0 = startN s k)) (fun i => s.size - (intOf i).toNat)
  case atStart => exact ⟨k0, hk0, rfl, rfl⟩
  case round =>
    obtain ⟨k, hk, rfl, HG⟩ := hrel
    by_cases hlt : k < s.size
    · have hlt' : (k : Int) < (s.size : Int) := by omega
      have hbi := blank_iff s[k]
      cases hbl : blankB s[k]
      · rw [hbl] at hbi
        have hb1 : ((s[k].toNat : Int) == 32) = false := by revert hbi; cases ((s[k].toNat : Int) == 32) <;> simp
        have hb2 : ((s[k].toNat : Int) == 9) = false := by revert hbi; cases ((s[k].toNat : Int) == 9) <;> simp
        have hb3 : ((s[k].toNat : Int) == 10) = false := by revert hbi; cases ((s[k].toNat : Int) == 10) <;> simp
        have hb4 : ((s[k].toNat : Int) == 13) = false := by revert hbi; cases ((s[k].toNat : Int) == 13) <;> simp
        cases h37 : ((s[k].toNat : Int) == 37)
        · have hE : Hid (startN s k0 = k) := by
            show startN s k0 = k
            rw [HG.out, start_stop s k hlt hbl h37]
          clear hbi hbl HG
          go_wp2
          go_ret
          exact ⟨by rw [hE.out]; rfl, rfl⟩
        · have HR : Hid (∀ j, k + runP lineB (s.data.toList.drop k) = j → startN s k0 = startN s j) := fun j hj => HG.out.trans (start_rem s k j hlt hbl h37 hj)
          have hl10 : lineB s[k] = true := by unfold lineB; simp at h37 ⊢; omega
          clear hbi hbl HG
          go_wp2
          go_loop [1] (fun i => ∃ j : Nat, k ≤ j ∧ j ≤ s.size ∧ i = .int .i64 j ∧ Hid (((s.data.toList.drop k).take (j - k)).all lineB = true)) (fun i => s.size - (intOf i).toNat)
          case atStart => exact ⟨k, Nat.le_refl _, hk, rfl, by show _ = true; simp⟩
          case round =>
            obtain ⟨j, hkj, hj, rfl, HA⟩ := hrel
            by_cases hltj : j < s.size
            · have hltj' : (j : Int) < (s.size : Int) := by omega
              cases hq : lineB s[j]
              · have hE : Hid (startN s k0 = startN s j) := HR.out j (run_at lineB s k j hkj hj HA.out (.inr ⟨hltj, hq⟩))
                have hgt : k < j := by
                  rcases Nat.lt_or_ge k j with h | h
                  · exact h
                  · have : j = k := by omega
                    subst this; rw [hl10] at hq; cases hq
                have hq' : ((s[j].toNat : Int) != 10) = false := hq
                clear hq hl10
                go_wp2
                go_round
                case rel => exact ⟨j, hj, by go_num, hE⟩
                case measure => simp [intOf]; omega
              · have hN : Hid (((s.data.toList.drop k).take (j + 1 - k)).all lineB = true) := all_step lineB s k j hkj hltj HA.out hq
                have hq' : ((s[j].toNat : Int) != 10) = true := hq
                clear hq hl10
                go_wp2
                go_round
                case rel => exact ⟨j + 1, by omega, by omega, by go_num, hN⟩
                case measure => simp [intOf]; omega
            · have hE : Hid (startN s k0 = startN s j) := HR.out j (run_at lineB s k j hkj hj HA.out (.inl (by omega)))
              have hltj' : ¬ ((j : Int) < (s.size : Int)) := by omega
              clear hl10
              go_wp2
              go_round
              case rel => exact ⟨j, hj, by go_num, hE⟩
              case measure => simp [intOf]; omega
      · rw [hbl] at hbi
        have hE : Hid (startN s k0 = startN s (k + 1)) := HG.out.trans (start_blank s k hlt hbl)
        clear hbl HG
        cases hb1 : ((s[k].toNat : Int) == 32)
        · cases hb2 : ((s[k].toNat : Int) == 9)
          · cases hb3 : ((s[k].toNat : Int) == 10)
            · have hb4 : ((s[k].toNat : Int) == 13) = true := by rw [hb1, hb2, hb3] at hbi; simpa using hbi.symm
              clear hbi
              go_wp2
              go_round
              case rel => exact ⟨k + 1, by omega, by go_num, hE⟩
              case measure => simp [intOf]; omega
            · clear hbi
              go_wp2
              go_round
              case rel => exact ⟨k + 1, by omega, by go_num, hE⟩
              case measure => simp [intOf]; omega
          · clear hbi
            go_wp2
            go_round
            case rel => exact ⟨k + 1, by omega, by go_num, hE⟩
            case measure => simp [intOf]; omega
        · clear hbi
          go_wp2
          go_round
          case rel => exact ⟨k + 1, by omega, by go_num, hE⟩
          case measure => simp [intOf]; omega
    · have hE : Hid (startN s k0 = k) := by
        show startN s k0 = k
        rw [HG.out, start_end s k (by omega)]
      have hlt' : ¬ ((k : Int) < (s.size : Int)) := by omega
      go_wp2
      go_ret
      exact ⟨by rw [hE.out]; rfl, rfl⟩
end Go.Proofs.YtampjlafhglceaaDoor
