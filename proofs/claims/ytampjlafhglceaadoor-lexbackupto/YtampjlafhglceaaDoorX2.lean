/- A token is the same, whatever stands behind it, if a blank or nothing stands there. -/
import Derived.Test.YtampjlafhglceaaDoorX1
namespace Go.Proofs.YtampjlafhglceaaDoor
open Go.RowKit
/-- Nothing, or a blank ahead. -/
def blankAhead (z : List UInt8) : Prop := ∀ c r, z = c :: r → c = 32
theorem blankAhead.no {z : List UInt8} (h : blankAhead z) (p : UInt8 → Bool) (hp : p 32 = false) : ∀ c r, z = c :: r → p c = false := fun c r e => by rw [h c r e]; exact hp
theorem take_cut {l z : List UInt8} {n r : Nat} (h : r ≤ n) (h2 : r ≤ l.length) : (l.take n ++ z).take r = l.take r := by
  rw [List.take_append_of_le_length (by rw [List.length_take]; omega), List.take_take, Nat.min_eq_left h]
theorem ext_cut {x y : ByteArray} {n r : Nat} {z : List UInt8} (hy : y.data.toList = x.data.toList.take n ++ z) (h : r ≤ n) (h2 : r ≤ x.data.toList.length) : y.extract 0 r = x.extract 0 r := by
  apply byte_ext
  rw [ext_list, ext_list, List.drop_zero, List.drop_zero, hy, take_cut h h2]
theorem word_cut {x y : ByteArray} {n : Nat} {z : List UInt8} (k : Int) (hy : y.data.toList = x.data.toList.take n ++ z) (hz : blankAhead z) (h : runP innerB x.data.toList ≤ n) : wordT y k = wordT x k := by
  have hr : runP innerB y.data.toList = runP innerB x.data.toList := by rw [hy, run_stop innerB _ n z h (hz.no innerB (by decide))]
  unfold wordT
  rw [hr, ext_cut hy h (runP_le _ _)]
theorem num_cut {x y : ByteArray} {n : Nat} {z : List UInt8} (hy : y.data.toList = x.data.toList.take n ++ z) (hz : blankAhead z) (h : runP digitB x.data.toList ≤ n) : numT y = numT x := by
  have hr : runP digitB y.data.toList = runP digitB x.data.toList := by rw [hy, run_stop digitB _ n z h (hz.no digitB (by decide))]
  unfold numT
  rw [hr, ext_cut hy h (runP_le _ _), hy, take_cut h (runP_le _ _)]
theorem drop_cut {l z : List UInt8} {n k : Nat} (h : k ≤ n) (h2 : k ≤ l.length) : (l.take n ++ z).drop k = (l.drop k).take (n - k) ++ z := by
  rw [List.drop_append_of_le_length (by rw [List.length_take]; omega), List.drop_take]
theorem byteAt_cut {l z : List UInt8} {n k : Nat} (h : k < n) (h2 : k < l.length) : byteAt (l.take n ++ z) k = byteAt l k := by
  unfold byteAt
  rw [List.getElem?_append_left (by rw [List.length_take]; omega), List.getElem?_take_of_lt h]
theorem glob_cut {x y : ByteArray} {n : Nat} {z : List UInt8} (hy : y.data.toList = x.data.toList.take n ++ z) (hz : blankAhead z) (he : (globT x).2 = 0) (h : (globT x).1.t.size ≤ n) : globT y = globT x := by
  have hd := hz.no digitB (by decide)
  cases hg : gOK x.data.toList with
  | false => rw [glob_no x hg] at he; exact absurd he (by decide)
  | true =>
    by_cases hb : gB x.data.toList = 0
    · rw [glob_none x hg hb] at he; exact absurd he (by decide)
    · have hg2 := hg
      unfold gOK at hg2
      simp at hg2
      obtain ⟨⟨g1, g2⟩, g3⟩ := hg2
      have hAle := runP_le digitB (x.data.toList.drop 1)
      have hA : gA x.data.toList = runP digitB (x.data.toList.drop 1) := rfl
      rw [← hA, List.length_drop] at hAle
      have hB : gB x.data.toList = runP digitB (x.data.toList.drop (1 + gA x.data.toList + 1)) := rfl
      have hBle := runP_le digitB (x.data.toList.drop (1 + gA x.data.toList + 1))
      rw [← hB, List.length_drop] at hBle
      have hsz : 1 + gA x.data.toList + 1 + gB x.data.toList ≤ n := by
        unfold globT at he h
        rw [if_pos hg, if_neg hb] at he h
        split at he
        · rename_i h7
          rw [if_pos h7] at h
          have h : (x.extract 0 (1 + gA x.data.toList + 1 + gB x.data.toList)).size ≤ n := h
          rw [ByteArray.size_extract, ← len_list x] at h
          omega
        · rename_i h7; exact absurd he h7
      have eA : gA y.data.toList = gA x.data.toList := by
        unfold gA
        rw [hy, drop_cut (by omega) (by omega), run_stop digitB _ _ z (by rw [← hA]; omega) hd]
      have eB : gB y.data.toList = gB x.data.toList := by
        unfold gB
        rw [eA, hy, drop_cut (by omega) (by omega), run_stop digitB _ _ z (by rw [← hB]; omega) hd]
      have hyl : y.data.toList.length = min n x.data.toList.length + z.length := by rw [hy, List.length_append, List.length_take]
      have eOK : gOK y.data.toList = true := by
        unfold gOK
        rw [eA]
        have e3 : byteAt y.data.toList (1 + gA x.data.toList) = byteAt x.data.toList (1 + gA x.data.toList) := by rw [hy, byteAt_cut (by omega) (by omega)]
        rw [e3, g3, hyl]
        simp
        have hll := len_list x
        refine ⟨by omega, by omega⟩
      have t1 : (y.data.toList.drop 1).take (gA x.data.toList) = (x.data.toList.drop 1).take (gA x.data.toList) := by
        rw [hy, drop_cut (by omega) (by omega), take_cut (by omega) (by rw [List.length_drop]; omega)]
      have t2 : (y.data.toList.drop (1 + gA x.data.toList + 1)).take (gB x.data.toList) = (x.data.toList.drop (1 + gA x.data.toList + 1)).take (gB x.data.toList) := by
        rw [hy, drop_cut (by omega) (by omega), take_cut (by omega) (by rw [List.length_drop]; omega)]
      unfold globT
      rw [eOK, hg, eA, eB, t1, t2, ext_cut hy hsz (by omega)]
theorem sign_bytes (j : Nat) : ∀ c ∈ signs.getD j [], c ≠ 32 := by
  by_cases hj : j < 18
  · rcases below18 j hj with rfl | rfl | rfl | rfl | rfl | rfl | rfl | rfl | rfl | rfl | rfl | rfl | rfl | rfl | rfl | rfl | rfl | rfl <;> decide
  · rw [List.getD_eq_getElem?_getD, List.getElem?_eq_none (by simp [signs]; omega)]
    simp
theorem pref_cut {l z t : List UInt8} {n : Nat} (hz : blankAhead z) (ht : ∀ c ∈ t, c ≠ 32) (h : t <+: l.take n ++ z) : t <+: l := by
  have hlen : t.length ≤ (l.take n).length := by
    refine Nat.le_of_not_lt fun hlt => ?_
    obtain ⟨u, hu⟩ := h
    cases z with
    | nil => have := congrArg List.length hu; simp at this; simp at hlt; omega
    | cons c r =>
      have hc := hz c r rfl
      have e1 : (t ++ u)[(l.take n).length]? = some c := by rw [hu, List.getElem?_append_right (Nat.le_refl _), Nat.sub_self]; rfl
      rw [List.getElem?_append_left hlt] at e1
      exact ht c (List.mem_of_getElem? e1) hc
  exact (List.prefix_of_prefix_length_le h (List.prefix_append _ _) hlen).trans (List.take_prefix _ _)
theorem sgn_cut {x y : ByteArray} {n : Nat} {z : List UInt8} (hy : y.data.toList = x.data.toList.take n ++ z) (hz : blankAhead z) (he : (signT x).2 = 0) (h : (signT x).1.t.size ≤ n) : signT y = signT x := by
  cases hk : signK x with
  | none => unfold signT at he; rw [hk] at he; exact absurd he (by decide)
  | some k =>
    have hT : signT x = (⟨5, signS k, 0, 0, 0⟩, 0) := by unfold signT; rw [hk]
    rw [hT] at h
    have hk2 := hk
    unfold signK at hk2
    rw [List.find?_range_eq_some] at hk2
    obtain ⟨a1, a2, a3⟩ := hk2
    have a2 : k < 18 := by simpa using a2
    have hy2 : signK y = some k := by
      refine signK_some y k a2 (fun j hj => ?_) ?_
      · cases hq : signAt y j with
        | false => rfl
        | true =>
          unfold signAt prefB at hq
          rw [hy] at hq
          have := pref_cut hz (sign_bytes j) (of_decide_eq_true hq)
          have h3 := a3 j hj
          unfold signAt prefB at h3
          simp at h3
          exact absurd this h3
      · unfold signAt prefB at a1 ⊢
        rw [hy]
        have a1 := of_decide_eq_true a1
        have h5 : (signS k).size ≤ n := h
        rw [← len_list, signS_data] at h5
        refine decide_eq_true ?_
        exact (List.prefix_take_iff.2 ⟨a1, h5⟩).trans (List.prefix_append _ _)
    rw [hT]; unfold signT; rw [hy2]
theorem first_cut {x y : ByteArray} {n : Nat} {z : List UInt8} (hy : y.data.toList = x.data.toList.take n ++ z) (hz : blankAhead z) (he : (firstT x).2 = 0) (hk : (firstT x).1.k ≠ 0) (h : (firstT x).1.t.size ≤ n) : firstT y = firstT x := by
  have hp := first_pos x he hk
  have hl := first_len x
  have hx : 0 < x.size := by omega
  have hxl : 0 < x.data.toList.length := by rw [len_list]; exact hx
  have hyl : y.data.toList.length = min n x.data.toList.length + z.length := by rw [hy, List.length_append, List.length_take]
  have hys : 0 < y.size := by rw [← len_list]; omega
  have e0 : y[0] = x[0] := by
    have h1 : y.data.toList[0]? = x.data.toList[0]? := by
      rw [hy, List.getElem?_append_left (by rw [List.length_take]; omega), List.getElem?_take_of_lt (by omega)]
    rw [List.getElem?_eq_getElem (by rw [len_list]; exact hys), List.getElem?_eq_getElem hxl] at h1
    exact Option.some.inj h1
  rw [first_eq x hx] at he h ⊢
  rw [first_eq y hys, e0]
  clear hk hp hl
  by_cases h1 : (((x[0].toNat : Int) == 95) || capitalB x[0]) = true
  · rw [if_pos h1] at he h ⊢
    rw [if_pos h1]
    refine word_cut 2 hy hz ?_
    unfold wordT at he h
    split at he
    · exact absurd he (by simp)
    · rename_i h9
      rw [if_neg h9] at h
      have h : (x.extract 0 _).size ≤ n := h
      have := runP_le innerB x.data.toList
      rw [len_list] at this
      rw [ByteArray.size_extract] at h; omega
  · rw [if_neg h1] at he h ⊢
    rw [if_neg h1]
    by_cases h2 : smallB x[0] = true
    · rw [if_pos h2] at he h ⊢
      rw [if_pos h2]
      refine word_cut 1 hy hz ?_
      unfold wordT at he h
      split at he
      · exact absurd he (by simp)
      · rename_i h9
        rw [if_neg h9] at h
        have h : (x.extract 0 _).size ≤ n := h
        have := runP_le innerB x.data.toList
        rw [len_list] at this
        rw [ByteArray.size_extract] at h; omega
    · rw [if_neg h2] at he h ⊢
      rw [if_neg h2]
      by_cases h3 : digitB x[0] = true
      · rw [if_pos h3] at he h ⊢
        rw [if_pos h3]
        refine num_cut hy hz ?_
        have h : (x.extract 0 _).size ≤ n := h
        have := runP_le digitB x.data.toList
        rw [len_list] at this
        rw [ByteArray.size_extract] at h; omega
      · rw [if_neg h3] at he h ⊢
        rw [if_neg h3]
        by_cases h4 : ((x[0].toNat : Int) == 63) = true
        · rw [if_pos h4] at he h ⊢
          rw [if_pos h4]
          exact glob_cut hy hz he h
        · rw [if_neg h4] at he h ⊢
          rw [if_neg h4]
          exact sgn_cut hy hz he h
end Go.Proofs.YtampjlafhglceaaDoor
