/- Contracts of number, global, sign. -/
import Derived.Test.YtiemngihndbobaaDoorLxL2
import Derived.Deep.MidRow
namespace Go.Proofs.YtiemngihndbobaaDoor.Lx
open Go.RowKit
theorem runP_take (p : UInt8 → Bool) (l : List UInt8) : (l.take (runP p l)).all p = true := by
  unfold runP
  induction l with
  | nil => rfl
  | cons a r ih =>
    cases h : p a
    · simp [h]
    · simp only [List.takeWhile_cons, h, if_true, List.length_cons, List.take_succ_cons, List.all_cons, Bool.true_and]; exact ih
def numT (s : ByteArray) : T × Int := (⟨3, s.extract 0 (runP digitB s.data.toList), valN (s.data.toList.take (runP digitB s.data.toList)), 0, 0⟩, valE (s.data.toList.take (runP digitB s.data.toList)))
set_option maxHeartbeats 1000000 in
theorem c41 (s : ByteArray) (w : World) (hs : s.size ≤ maxLen) :
    Calls Tryd.prog 49 #[.string s] w fun e w' => e = .returned (pairV (numT s)) ∧ Below w.heap.size w w' := by
  have H35 := fun w => c35_40 s w hs
  have hle := runP_le digitB s.data.toList
  rw [len_list] at hle
  have hd := runP_take digitB s.data.toList
  have H55 := fun w => c55 (s.extract 0 (runP digitB s.data.toList)) w (by rw [ByteArray.size_extract]; unfold maxLen at *; omega) (by rw [ext_list, List.drop_zero]; exact hd)
  rw [ext_list, List.drop_zero] at H55
  unfold maxLen at hs
  unfold numT
  clear hd
  generalize valN (s.data.toList.take (runP digitB s.data.toList)) = vn at *
  generalize valE (s.data.toList.take (runP digitB s.data.toList)) = ve at *
  generalize runP digitB s.data.toList = n at *
  have hB : ∀ o : Obj, Hid (Below w.heap.size w (w.alloc o)) := fun o => below_alloc w o
  have h'' : (n : Int) ≤ (s.size : Int) := by omega
  go_enter Tryd.func49, Tryd.ntmps49
  go_wp2_with (first | (go_at_call 14; refine (H35 _).mono ?_; rintro e w' ⟨rfl, rfl⟩) | (go_at_call 54; refine (H55 _).mono ?_; rintro e w' ⟨rfl, rfl⟩))
  exact bodyPost_ret (v := pairV (⟨3, s.extract 0 n, vn, 0, 0⟩, ve)) (by simp [results, Tryd.results49, go_sem, pairV, T.val]) rfl ⟨rfl, (hB _).out⟩
def byteAt (l : List UInt8) (k : Nat) : Int := ((l[k]?.getD 0).toNat : Int)
/-- The first and the second number's length; are both there? -/
def gA (l : List UInt8) : Nat := runP digitB (l.drop 1)
def gB (l : List UInt8) : Nat := runP digitB (l.drop (1 + gA l + 1))
def gOK (l : List UInt8) : Bool := !(1 + (gA l : Int) == 1) && !(1 + (gA l : Int) == (l.length : Int)) && !(byteAt l (1 + gA l) != 95)
def globT (s : ByteArray) : T × Int :=
  if gOK s.data.toList then
    if gB s.data.toList = 0 then (zeroT, 20)
    else if valE ((s.data.toList.drop 1).take (gA s.data.toList)) = 0 then
      (⟨4, s.extract 0 (1 + gA s.data.toList + 1 + gB s.data.toList), valN ((s.data.toList.drop (1 + gA s.data.toList + 1)).take (gB s.data.toList)), valN ((s.data.toList.drop 1).take (gA s.data.toList)), 0⟩, valE ((s.data.toList.drop (1 + gA s.data.toList + 1)).take (gB s.data.toList)))
    else (zeroT, valE ((s.data.toList.drop 1).take (gA s.data.toList)))
  else (zeroT, 20)
theorem byteAt_get (s : ByteArray) (k : Nat) (h : k < s.size) : byteAt s.data.toList k = (s[k].toNat : Int) := by
  unfold byteAt
  rw [List.getElem?_eq_getElem (by rw [len_list]; exact h)]; rfl
theorem drop_take_ext (s : ByteArray) (a b : Nat) : (s.extract a (a + b)).data.toList = (s.data.toList.drop a).take b := by
  rw [ext_list, List.drop_take]; simp
theorem glob_no (s : ByteArray) (h : gOK s.data.toList = false) : globT s = (zeroT, 20) := by unfold globT; rw [h]; rfl
theorem glob_none (s : ByteArray) (h : gOK s.data.toList = true) (hb : gB s.data.toList = 0) : globT s = (zeroT, 20) := by unfold globT; rw [h, if_pos rfl, if_pos hb]
set_option maxRecDepth 100000 in
set_option maxHeartbeats 1000000 in
theorem c42 (s : ByteArray) (w : World) (hs : s.size ≤ maxLen) (h0 : 0 < s.size) :
    Calls Tryd.prog 50 #[.string s] w fun e w' => e = .returned (pairV (globT s)) ∧ Below w.heap.size w w' := by
  have H35 := fun w => c35_40 (s.extract 1 s.size) w (by rw [ByteArray.size_extract]; unfold maxLen at *; omega)
  have e1 : runP digitB (s.extract 1 s.size).data.toList = gA s.data.toList := by rw [ext_list, take_all]; rfl
  rw [e1] at H35
  clear e1
  have hA := runP_le digitB (s.data.toList.drop 1)
  rw [List.length_drop, len_list] at hA
  have hA : gA s.data.toList ≤ s.size - 1 := hA
  have HdA : Hid (((s.data.toList.drop 1).take (gA s.data.toList)).all digitB = true) := runP_take digitB _
  have hB : ∀ o : Obj, Hid (Below w.heap.size w (w.alloc o)) := fun o => below_alloc w o
  have h1' : (1 : Int) ≤ (s.size : Int) := by omega
  have HG : Hid (gOK s.data.toList = (!(1 + (gA s.data.toList : Int) == 1) && !(1 + (gA s.data.toList : Int) == (s.size : Int)) && !(byteAt s.data.toList (1 + gA s.data.toList) != 95))) := by
    show gOK s.data.toList = _
    unfold gOK; rw [len_list]
  have HgB : Hid (gB s.data.toList = runP digitB (s.data.toList.drop (1 + gA s.data.toList + 1))) := rfl
  have hs' := hs
  unfold maxLen at hs
  obtain ⟨a, ha⟩ : ∃ a, gA s.data.toList = a := ⟨_, rfl⟩
  rw [ha] at H35 hA HdA HG HgB
  have HA : Hid (gA s.data.toList = a) := ha
  clear ha
  go_enter Tryd.func50, Tryd.ntmps50
  go_wp2_with fail
  refine (H35 _).mono ?_
  rintro e w' ⟨rfl, rfl⟩
  by_cases h1 : a = 0
  · have HF : Hid (globT s = (zeroT, 20)) := glob_no s (by rw [HG.out, h1]; rfl)
    subst h1
    go_wp2_with fail
    exact bodyPost_ret (v := pairV (zeroT, 20)) (by simp [results, Tryd.results50, go_sem, pairV, zeroT, T.val]) rfl ⟨by rw [HF.out], (hB _).out⟩
  · by_cases h2 : a + 1 = s.size
    · have HF : Hid (globT s = (zeroT, 20)) := glob_no s (by rw [HG.out, show (1 + (a : Int) == (s.size : Int)) = true by simp; omega]; simp)
      have g1 : ((1 + (a : Int)) == 1) = false := by simp; omega
      have g2 : ((1 + (a : Int)) == (s.size : Int)) = true := by simp; omega
      clear h1 h2
      go_wp2_with fail
      exact bodyPost_ret (v := pairV (zeroT, 20)) (by simp [results, Tryd.results50, go_sem, pairV, zeroT, T.val]) rfl ⟨by rw [HF.out], (hB _).out⟩
    · have hlt : 1 + a < s.size := by omega
      have g1 : ((1 + (a : Int)) == 1) = false := by simp; omega
      have g2 : ((1 + (a : Int)) == (s.size : Int)) = false := by simp; omega
      have g3 : (1 + (a : Int)) < (s.size : Int) := by omega
      have hby : Hid (byteAt s.data.toList (1 + a) = (s[1 + a].toNat : Int)) := byteAt_get s (1 + a) hlt
      clear h1 h2
      cases h3 : ((s[1 + a].toNat : Int) != 95)
      rotate_left
      · have HF : Hid (globT s = (zeroT, 20)) := glob_no s (by rw [HG.out, hby.out, h3]; simp)
        go_wp2_with fail
        exact bodyPost_ret (v := pairV (zeroT, 20)) (by simp [results, Tryd.results50, go_sem, pairV, zeroT, T.val]) rfl ⟨by rw [HF.out], (hB _).out⟩
      · have HOK : Hid (gOK s.data.toList = true) := by
          show gOK s.data.toList = true
          rw [HG.out, hby.out, h3, g1, g2]; rfl
        have H35b := fun w => c35_40 (s.extract (1 + a + 1) s.size) w (by rw [ByteArray.size_extract]; unfold maxLen at *; omega)
        have e1 : runP digitB (s.extract (1 + a + 1) s.size).data.toList = gB s.data.toList := by rw [ext_list, take_all, HgB.out]
        rw [e1] at H35b
        clear e1
        have hb := runP_le digitB (s.data.toList.drop (1 + a + 1))
        rw [List.length_drop, len_list, ← HgB.out] at hb
        have HdB : Hid (((s.data.toList.drop (1 + a + 1)).take (gB s.data.toList)).all digitB = true) := by
          show _ = true
          rw [HgB.out]; exact runP_take digitB _
        obtain ⟨b, hb0⟩ : ∃ b, gB s.data.toList = b := ⟨_, rfl⟩
        rw [hb0] at H35b hb HdB
        have HBB : Hid (gB s.data.toList = b) := hb0
        clear hb0 HgB
        go_wp2_with fail
        refine (H35b _).mono ?_
        rintro e w' ⟨rfl, rfl⟩
        by_cases h4 : b = 0
        · have HF : Hid (globT s = (zeroT, 20)) := glob_none s HOK.out (HBB.out.trans h4)
          subst h4
          go_wp2_with fail
          exact bodyPost_ret (v := pairV (zeroT, 20)) (by simp [results, Tryd.results50, go_sem, pairV, zeroT, T.val]) rfl ⟨by rw [HF.out], (hB _).out⟩
        · have g4 : ((1 + (a : Int) + 1 + (b : Int)) == (1 + (a : Int) + 1)) = false := by simp; omega
          have g5 : (1 + (a : Int) + 1 + (b : Int)) ≤ (s.size : Int) := by omega
          have H55 := fun w => c55 (s.extract 1 (1 + a)) w (by rw [ByteArray.size_extract]; unfold maxLen at *; omega) (by rw [drop_take_ext]; exact HdA.out)
          rw [drop_take_ext] at H55
          have H55b := fun w => c55 (s.extract (1 + a + 1) (1 + a + 1 + b)) w (by rw [ByteArray.size_extract]; unfold maxLen at *; omega) (by rw [drop_take_ext]; exact HdB.out)
          rw [drop_take_ext] at H55b
          have HF : Hid (globT s = if valE ((s.data.toList.drop 1).take a) = 0 then (⟨4, s.extract 0 (1 + a + 1 + b), valN ((s.data.toList.drop (1 + a + 1)).take b), valN ((s.data.toList.drop 1).take a), 0⟩, valE ((s.data.toList.drop (1 + a + 1)).take b)) else (zeroT, valE ((s.data.toList.drop 1).take a))) := by
            show globT s = _
            unfold globT
            rw [HOK.out, if_pos rfl, HBB.out, HA.out, if_neg h4]
          clear HOK HG HdA HdB h3 hby h4
          generalize valE ((s.data.toList.drop 1).take a) = ve at *
          generalize valN ((s.data.toList.drop 1).take a) = vn at *
          generalize valE ((s.data.toList.drop (1 + a + 1)).take b) = ve2 at *
          generalize valN ((s.data.toList.drop (1 + a + 1)).take b) = vn2 at *
          go_wp2_with fail
          refine (H55 _).mono ?_
          rintro e w' ⟨rfl, rfl⟩
          by_cases h5 : ve = 0
          · have HF2 : Hid (globT s = (⟨4, s.extract 0 (1 + a + 1 + b), vn2, vn, 0⟩, ve2)) := by
              show globT s = _
              rw [HF.out, if_pos h5]
            subst h5
            go_wp2_with fail
            refine (H55b _).mono ?_
            rintro e w' ⟨rfl, rfl⟩
            go_wp2_with fail
            exact bodyPost_ret (v := pairV (⟨4, s.extract 0 (1 + a + 1 + b), vn2, vn, 0⟩, ve2)) (by simp [results, Tryd.results50, go_sem, pairV, T.val]) rfl ⟨by rw [HF2.out], (hB _).out⟩
          · have HF : Hid (globT s = (zeroT, ve)) := by
              show globT s = _
              rw [HF.out, if_neg h5]
            have g6 : (ve != 0) = true := by simp [h5]
            go_wp2_with fail
            exact bodyPost_ret (v := pairV (zeroT, ve)) (by simp [results, Tryd.results50, go_sem, pairV, zeroT, T.val]) rfl ⟨by rw [HF.out], (hB _).out⟩
/-- The signs, those that begin with others ahead of them. -/
def signs : List (List UInt8) := [[61, 58, 61], [61, 92, 61], [58, 45], [58, 61], [61, 60], [62, 61], [40], [41], [44], [46], [124], [64], [61], [43], [45], [42], [60], [62]]
def signS (i : Nat) : ByteArray := ⟨(signs.getD i []).toArray⟩
def signVals : List Value := (List.range 18).map fun i => .string (signS i)
def Signs (w : World) : Prop := 2 < w.heap.size ∧ w.rangeAt 2 0 signVals
theorem Signs.below {w w' : World} (h : Signs w) (hb : Below w.heap.size w w') : Signs w' :=
  ⟨Nat.lt_of_lt_of_le h.1 hb.size, fun j v hv => (hb.cell (p := ⟨2, 0 + j, none⟩) h.1).trans (h.2 j v hv)⟩
end Go.Proofs.YtiemngihndbobaaDoor.Lx
