/- The contracts of Line, both. -/
import Derived.Test.YtampjlafhglceaaDoorL1
import Derived.Test.YtampjlafhglceaaDoorSh2
namespace Go.Proofs.YtampjlafhglceaaDoor
open Go.RowKit
/-- A place, held within a text. -/
def clampN (s : ByteArray) (a : Int) : Nat := (min (max a 0) (s.size : Int)).toNat
def lineOf (s : ByteArray) (a : Int) : Int := 1 + ((s.data.toList.take (clampN s a)).count 10 : Nat)
def colOf (s : ByteArray) (a : Int) : Int := (clampN s a : Int) - Lib.lastIdx s 10 (clampN s a)
theorem lastIdx_ext (s : ByteArray) (m : Nat) (hm : m ≤ s.size) (c : Int) : ∀ k, k ≤ m → Lib.lastIdx (s.extract 0 m) c k = Lib.lastIdx s c k
  | 0, _ => rfl
  | k + 1, h => by
    have ih := lastIdx_ext s m hm c k (by omega)
    have e : (s.extract 0 m).data[k]! = s.data[k]! := by
      have h1 : (s.extract 0 m).data.toList[k]? = s.data.toList[k]? := by
        rw [ext_list, List.drop_zero, List.getElem?_take_of_lt (by omega)]
      rw [Array.getElem?_toList, Array.getElem?_toList] at h1
      rw [getElem!_def, getElem!_def, h1]
    unfold Lib.lastIdx
    rw [e, ih]
theorem lastIdx_le (s : ByteArray) (c : Int) (k : Nat) : -1 ≤ Lib.lastIdx s c k ∧ Lib.lastIdx s c k < k := by
  rcases Lib.lastIdx_spec s c k with ⟨h, _⟩ | ⟨i, h1, h2, _⟩ <;> omega
theorem clamp_le (s : ByteArray) (a : Int) : clampN s a ≤ s.size := by unfold clampN; omega
set_option maxRecDepth 100000 in
set_option maxHeartbeats 1000000 in
theorem c15 (s : ByteArray) (a : Int) (w : World) (hs : s.size ≤ 100000000) :
    Calls Tryd.prog 15 #[.string s, .int .i64 a] w fun e w' => e = .returned (.tuple #[.int .i64 (lineOf s a), .int .i64 (colOf s a)]) ∧ w' = w := by
  have hm := clamp_le s a
  have hC : Lib.countByte (s.extract 0 (clampN s a)).data.toList 10 = (s.data.toList.take (clampN s a)).count 10 := by
    rw [ext_list, List.drop_zero]; rfl
  have hsz : (s.extract 0 (clampN s a)).size = clampN s a := by rw [ByteArray.size_extract]; omega
  have hI : Lib.lastIndexByte (s.extract 0 (clampN s a)) 10 = Lib.lastIdx s 10 (clampN s a) := by
    unfold Lib.lastIndexByte; rw [hsz, lastIdx_ext s _ hm 10 _ (Nat.le_refl _)]
  have hl := lastIdx_le s 10 (clampN s a)
  have hc : (s.data.toList.take (clampN s a)).count 10 ≤ clampN s a := by
    have := List.count_le_length (a := (10 : UInt8)) (l := s.data.toList.take (clampN s a))
    rw [List.length_take] at this; omega
  have HL : Hid (lineOf s a = 1 + ((s.data.toList.take (clampN s a)).count 10 : Nat) ∧ colOf s a = (clampN s a : Int) - Lib.lastIdx s 10 (clampN s a)) := ⟨rfl, rfl⟩
  have H30 := fun w => Tryd.strings_Count_one (s.extract 0 (clampN s a)) 10 w
  have H31 := fun w => Tryd.strings_LastIndexByte (s.extract 0 (clampN s a)) 10 (by omega) w
  rw [hC] at H30
  rw [hI] at H31
  clear hC hI
  have hcl : (min (max a 0) (s.size : Int)).toNat = clampN s a := rfl
  generalize clampN s a = m at *
  generalize (s.data.toList.take m).count 10 = c at *
  generalize Lib.lastIdx s 10 m = l at *
  go_enter Tryd.func15, Tryd.ntmps15
  go_wp2_with fail
  refine (H30 _).mono ?_
  rintro e w' ⟨rfl, rfl⟩
  go_wp2_with fail
  refine (H31 _).mono ?_
  rintro e w' ⟨rfl, rfl⟩
  go_wp2_with fail
  refine bodyPost_ret (v := .tuple #[.int .i64 (1 + c), .int .i64 (m - l)]) (by simp [results, Tryd.results15, go_sem]) rfl ⟨by rw [HL.out.1, HL.out.2], rfl⟩
set_option maxRecDepth 100000 in
set_option maxHeartbeats 1000000 in
theorem c16 (s : ByteArray) (a : Int) (w : World) (hs : s.size ≤ 100000000) :
    Calls Tryd.prog 16 #[.string s, .int .i64 a] w fun e w' => e = .returned (.tuple #[.int .i64 (lineOf s a), .int .i64 (colOf s a)]) ∧ w' = w := by
  have HL : Hid (lineOf s a = 1 + ((s.data.toList.take (clampN s a)).count 10 : Nat) ∧ colOf s a = (clampN s a : Int) - Lib.lastIdx s 10 (clampN s a)) := ⟨rfl, rfl⟩
  have hm := clamp_le s a
  have hcl : (min (max a 0) (s.size : Int)).toNat = clampN s a := rfl
  go_enter Tryd.func16, Tryd.ntmps16
  go_wp2_with fail
  go_loop [6, 7, 8] (fun lv cv kv => ∃ k : Nat, k ≤ clampN s a ∧ kv = .int .i64 k ∧ ∃ l c : Int, lv = .int .i64 l ∧ cv = .int .i64 c ∧ 1 ≤ l ∧ l ≤ k + 1 ∧ 1 ≤ c ∧ c ≤ k + 1 ∧ Hid (l = 1 + ((s.data.toList.take k).count 10 : Nat) ∧ c = (k : Int) - Lib.lastIdx s 10 k)) (fun _ _ kv => s.size - (intOf kv).toNat)
  case atStart => exact ⟨0, Nat.zero_le _, rfl, 1, 1, rfl, rfl, by omega, by omega, by omega, by omega, by simp, rfl⟩
  case round =>
    obtain ⟨k, hk, rfl, l, c, rfl, rfl, hl1, hl2, hc1, hc2, HI⟩ := hrel
    by_cases hlt : k < clampN s a
    · have h1 : (k : Int) < a := by omega
      have h2 : (k : Int) < (s.size : Int) := by omega
      have hk0 : (0 : Int) ≤ (k : Int) := by omega
      have hlt2 : k < s.size := by omega
      have hget : s.data.toList[k]'(by rw [len_list]; exact hlt2) = s[k] := rfl
      have hbang : s.data[k]! = s[k] := by
        rw [getElem!_pos s.data k (by simpa using hlt2)]; rfl
      have hcnt : (s.data.toList.take (k + 1)).count 10 = (s.data.toList.take k).count 10 + (if s[k] = 10 then 1 else 0) := by
        rw [List.take_succ_eq_append_getElem (by rw [len_list]; exact hlt2), List.count_append, hget]
        simp [List.count_cons]
      have hidx : Lib.lastIdx s 10 (k + 1) = if (s[k].toNat : Int) = 10 then (k : Int) else Lib.lastIdx s 10 k := by
        show (if ((s.data[k]!).toNat : Int) = 10 then (k : Int) else Lib.lastIdx s 10 k) = _
        rw [hbang]
      have hten : s[k] = 10 ↔ (s[k].toNat : Int) = 10 := by
        have h10 : (10 : UInt8).toNat = 10 := rfl
        constructor
        · intro h; rw [h]; rfl
        · intro h; exact UInt8.toNat_inj.1 (by omega)
      cases h10 : ((s[k].toNat : Int) == 10)
      · have h10' : ¬ ((s[k].toNat : Int) = 10) := by simpa using h10
        rw [if_neg h10'] at hidx
        rw [if_neg (fun h => h10' (hten.1 h))] at hcnt
        have HI2 : Hid (l = 1 + ((s.data.toList.take (k + 1)).count 10 : Nat) ∧ c + 1 = ((k + 1 : Nat) : Int) - Lib.lastIdx s 10 (k + 1)) := by
          show _ ∧ _
          rw [hcnt, hidx]
          have := HI.out
          omega
        clear hcnt hidx hten hget hbang
        go_wp2_with fail
        go_round
        case rel => exact ⟨k + 1, by omega, by go_num, l, c + 1, rfl, by go_num, by omega, by omega, by omega, by omega, HI2⟩
        case measure => simp [intOf]; omega
      · have h10' : (s[k].toNat : Int) = 10 := by simpa using h10
        rw [if_pos h10'] at hidx
        rw [if_pos (hten.2 h10')] at hcnt
        have HI2 : Hid (l + 1 = 1 + ((s.data.toList.take (k + 1)).count 10 : Nat) ∧ (1 : Int) = ((k + 1 : Nat) : Int) - Lib.lastIdx s 10 (k + 1)) := by
          show _ ∧ _
          rw [hcnt, hidx]
          have := HI.out
          omega
        clear hcnt hidx hten hget hbang
        go_wp2_with fail
        go_round
        case rel => exact ⟨k + 1, by omega, by go_num, l + 1, 1, by go_num, rfl, by omega, by omega, by omega, by omega, HI2⟩
        case measure => simp [intOf]; omega
    · have hke : k = clampN s a := by omega
      have hI := HI.out
      rw [hke] at hI
      have hT : Hid (lineOf s a = l ∧ colOf s a = c) := ⟨by rw [HL.out.1, hI.1], by rw [HL.out.2, hI.2]⟩
      clear hI HI
      by_cases h1 : (k : Int) < a
      · have h2 : ¬ ((k : Int) < (s.size : Int)) := by omega
        go_wp2_with fail
        exact bodyPost_ret (v := .tuple #[.int .i64 l, .int .i64 c]) (by simp [results, Tryd.results16, go_sem]) rfl ⟨by rw [hT.out.1, hT.out.2], rfl⟩
      · go_wp2_with fail
        exact bodyPost_ret (v := .tuple #[.int .i64 l, .int .i64 c]) (by simp [results, Tryd.results16, go_sem]) rfl ⟨by rw [hT.out.1, hT.out.2], rfl⟩
end Go.Proofs.YtampjlafhglceaaDoor
