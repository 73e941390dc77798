/- Contract of Next. -/
import Derived.Test.YtiemngihndbobaaDoorLxL4
import Derived.RegionTactic
namespace Go.Proofs.YtiemngihndbobaaDoor.Lx
open Go.RowKit
theorem ext_size0 (s : ByteArray) (n : Nat) : (s.extract 0 n).size ≤ s.size := by rw [ByteArray.size_extract]; omega
theorem word_len (s : ByteArray) (k : Int) : (wordT s k).1.t.size ≤ s.size := by
  unfold wordT; split
  · exact Nat.zero_le _
  · exact ext_size0 s _
theorem sign_len (s : ByteArray) : (signT s).1.t.size ≤ s.size := by
  unfold signT
  split
  · rename_i k hk
    unfold signK at hk
    have h := List.find?_some hk
    unfold signAt prefB at h
    have h2 := (of_decide_eq_true h).length_le
    rw [len_list] at h2
    show (signS k).size ≤ s.size
    rw [← len_list, signS_data]; exact h2
  · exact Nat.zero_le _
theorem glob_len (s : ByteArray) : (globT s).1.t.size ≤ s.size := by
  unfold globT
  split
  · split
    · exact Nat.zero_le _
    · split
      · exact ext_size0 s _
      · exact Nat.zero_le _
  · exact Nat.zero_le _
theorem first_len (s : ByteArray) : (firstT s).1.t.size ≤ s.size := by
  unfold firstT
  split
  · exact Nat.zero_le _
  · split
    · exact word_len s 2
    · split
      · exact word_len s 1
      · split
        · exact ext_size0 s _
        · split
          · exact glob_len s
          · exact sign_len s
theorem gapN_le : ∀ (f : Nat) (l : List UInt8), gapN f l ≤ l.length
  | 0, _ => Nat.zero_le _
  | _ + 1, [] => Nat.zero_le _
  | f + 1, c :: r => by
    simp only [gapN]
    split
    · have := gapN_le f r; simp; omega
    · split
      · have h1 := gapN_le f (r.drop (runP lineB r))
        have h2 := runP_le lineB r
        rw [List.length_drop] at h1
        simp; omega
      · exact Nat.zero_le _
theorem gapL_le (l : List UInt8) : gapL l ≤ l.length := gapN_le _ _
/-- The place of the next token. -/
def startN (s : ByteArray) (k : Nat) : Nat := k + gapL (s.data.toList.drop k)
def nextN (s : ByteArray) (k : Nat) : T × Int × Int :=
  if (firstT (s.extract (startN s k) s.size)).2 = 0 then
    ({ (firstT (s.extract (startN s k) s.size)).1 with at_ := (startN s k : Int) }, ((startN s k + (firstT (s.extract (startN s k) s.size)).1.t.size : Nat) : Int), 0)
  else (zeroT, (startN s k : Int), (firstT (s.extract (startN s k) s.size)).2)
def nextT (s : ByteArray) (at_ : Int) : T × Int × Int := if at_ < 0 ∨ (s.size : Int) < at_ then (zeroT, 0, 2) else nextN s at_.toNat
def tripV (x : T × Int × Int) : Value := .tuple #[x.1.val, .int .i64 x.2.1, .int .i64 x.2.2]
theorem startN_le (s : ByteArray) (k : Nat) (h : k ≤ s.size) : startN s k ≤ s.size := by
  unfold startN
  have := gapL_le (s.data.toList.drop k)
  rw [List.length_drop, len_list] at this
  omega
set_option maxRecDepth 100000 in
set_option maxHeartbeats 1000000 in
theorem c9_out (s : ByteArray) (at_ : Int) (w : World) (_hs : s.size ≤ maxLen) (h : at_ < 0 ∨ (s.size : Int) < at_) :
    Calls Tryd.prog 26 #[.string s, .int .i64 at_] w fun e w' => e = .returned (tripV (zeroT, 0, 2)) ∧ Below w.heap.size w w' := by
  unfold maxLen at _hs
  have hB : ∀ o : Obj, Hid (Below w.heap.size w (w.alloc o)) := fun o => below_alloc w o
  by_cases h0 : at_ < 0
  · go_enter Tryd.func26, Tryd.ntmps26
    go_wp2_with fail
    exact bodyPost_ret (v := tripV (zeroT, 0, 2)) (by simp [results, Tryd.results26, go_sem, tripV, zeroT, T.val]) rfl ⟨rfl, (hB _).out⟩
  · have h1 : (s.size : Int) < at_ := by omega
    go_enter Tryd.func26, Tryd.ntmps26
    go_wp2_with fail
    exact bodyPost_ret (v := tripV (zeroT, 0, 2)) (by simp [results, Tryd.results26, go_sem, tripV, zeroT, T.val]) rfl ⟨rfl, (hB _).out⟩
set_option maxRecDepth 100000 in
set_option maxHeartbeats 1000000 in
theorem c9_in (s : ByteArray) (k : Nat) (w : World) (hS : Signs w) (hs : s.size ≤ maxLen) (hk : k ≤ s.size) :
    Calls Tryd.prog 26 #[.string s, .int .i64 (k : Int)] w fun e w' => e = .returned (tripV (nextN s k)) ∧ Below w.heap.size w w' := by
  have H20 := fun w => c20 (s.extract k s.size) w (by rw [ByteArray.size_extract]; unfold maxLen at *; omega)
  rw [ext_list, take_all] at H20
  have hst := startN_le s k hk
  have H21 := fun w hS => c21 (s.extract (startN s k) s.size) w hS (by rw [ByteArray.size_extract]; unfold maxLen at *; omega)
  have hfl := first_len (s.extract (startN s k) s.size)
  rw [ByteArray.size_extract] at hfl
  have HN : Hid (nextN s k = if (firstT (s.extract (startN s k) s.size)).2 = 0 then
    ({ (firstT (s.extract (startN s k) s.size)).1 with at_ := (startN s k : Int) }, ((startN s k + (firstT (s.extract (startN s k) s.size)).1.t.size : Nat) : Int), 0)
  else (zeroT, (startN s k : Int), (firstT (s.extract (startN s k) s.size)).2)) := rfl
  have hg : startN s k = k + gapL (s.data.toList.drop k) := rfl
  have HS : Hid (Signs w) := hS
  unfold maxLen at hs
  obtain ⟨⟨⟨tk, tt, tn, td, ta⟩, te⟩, hx⟩ : ∃ x, firstT (s.extract (startN s k) s.size) = x := ⟨_, rfl⟩
  rw [hx] at H21 hfl HN
  clear hx hS
  rw [hg] at H21 hfl HN hst
  clear hg
  generalize gapL (s.data.toList.drop k) = g at *
  simp only [pairV, T.val] at H21
  have h0' : ¬ ((k : Int) < 0) := by omega
  have h1' : ¬ ((s.size : Int) < (k : Int)) := by omega
  have h2' : (k : Int) ≤ (s.size : Int) := by omega
  have h3' : (k : Int) + (g : Int) ≤ (s.size : Int) := by omega
  have hfl' : (k : Int) + (g : Int) + (tt.size : Int) ≤ (s.size : Int) := by simp at hfl; omega
  have hB : ∀ o : Obj, Hid (Below w.heap.size w (w.alloc o)) := fun o => below_alloc w o
  have hS2 : ∀ o : Obj, Hid (Signs (w.alloc o)) := fun o => HS.out.below (below_alloc w o)
  go_enter Tryd.func26, Tryd.ntmps26
  go_wp2_with (go_at_call 32; refine (H20 _).mono ?_; rintro e w' ⟨rfl, rfl⟩)
  refine (H21 _ (hS2 _).out).mono ?_
  rintro e w1 ⟨rfl, hb⟩
  obtain ⟨hc, hf⟩ := bcell hb
  have hz : w.heap.size < w1.heap.size := by have := hb.size; simp at this; omega
  have hw1 : Hid (Below w.heap.size w w1) := (hB _).out.trans (hb.mono (by simp))
  by_cases he : te = 0
  · subst he
    have HF : Hid (nextN s k = (⟨tk, tt, tn, td, (k : Int) + (g : Int)⟩, (k : Int) + (g : Int) + (tt.size : Int), 0)) := by
      show nextN s k = _
      rw [HN.out]; simp
    go_wp2_with fail
    go_region
    go_wp2_with fail
    exact bodyPost_ret (v := tripV (⟨tk, tt, tn, td, (k : Int) + (g : Int)⟩, (k : Int) + (g : Int) + (tt.size : Int), 0)) (by simp [results, Tryd.results26, go_sem, tripV, T.val, hc, hz]) rfl ⟨by rw [HF.out], ((below_set5 hw1.out (Nat.le_refl _) _ _ _ _ _).alloc (by simp; omega) _).drew⟩
  · have he' : (te != 0) = true := by simp [he]
    have HF : Hid (nextN s k = (zeroT, (k : Int) + (g : Int), te)) := by
      show nextN s k = _
      rw [HN.out, if_neg he]; simp
    go_wp2_with fail
    exact bodyPost_ret (v := tripV (zeroT, (k : Int) + (g : Int), te)) (by simp [results, Tryd.results26, go_sem, tripV, zeroT, T.val, hc, hz]) rfl ⟨by rw [HF.out], (below_set5 hw1.out (Nat.le_refl _) _ _ _ _ _).alloc (by simp; omega) _⟩
theorem c9 (s : ByteArray) (at_ : Int) (w : World) (hS : Signs w) (hs : s.size ≤ maxLen) :
    Calls Tryd.prog 26 #[.string s, .int .i64 at_] w fun e w' => e = .returned (tripV (nextT s at_)) ∧ Below w.heap.size w w' := by
  by_cases h : at_ < 0 ∨ (s.size : Int) < at_
  · have e : nextT s at_ = (zeroT, 0, 2) := by unfold nextT; rw [if_pos h]
    rw [e]; exact c9_out s at_ w hs h
  · have e : nextT s at_ = nextN s at_.toNat := by unfold nextT; rw [if_neg h]
    rw [e]
    obtain ⟨k, rfl⟩ := Int.eq_ofNat_of_zero_le (a := at_) (by omega)
    exact c9_in s k w hS hs (by omega)
end Go.Proofs.YtiemngihndbobaaDoor.Lx
