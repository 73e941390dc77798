/- Contracts of value, word, number, global. -/
import Derived.Test.YtiemngihndbobaaDoorLxL1
namespace Go.Proofs.YtiemngihndbobaaDoor.Lx
open Go.RowKit
theorem below_alloc (w : World) (o : Obj) : Below w.heap.size w (w.alloc o) := (Below.refl _ _).alloc (Nat.le_refl _) o
theorem bcell {W w1 : World} (hb : Below W.heap.size W w1) : (∀ b o, b < W.heap.size → w1.cell? ⟨b, o, none⟩ = W.cell? ⟨b, o, none⟩) ∧ (∀ b o, b < W.heap.size → w1.frozen? ⟨b, o, none⟩ = W.frozen? ⟨b, o, none⟩) :=
  ⟨fun b o h => hb.cell (p := ⟨b, o, none⟩) h, fun b o h => hb.frozen (p := ⟨b, o, none⟩) h⟩
/-- A token. -/
structure T where
  k : Int
  t : ByteArray
  n : Int
  node : Int
  at_ : Int
def T.val (x : T) : Value := .agg #[.int .u8 x.k, .string x.t, .int .i64 x.n, .int .i64 x.node, .int .i64 x.at_]
def zeroT : T := ⟨0, ⟨#[]⟩, 0, 0, 0⟩
def numL (l : List UInt8) : Int := l.foldl (fun n c => 10 * n + ((c.toNat : Int) - 48)) 0
theorem numL_snoc (l : List UInt8) (c : UInt8) : numL (l ++ [c]) = 10 * numL l + ((c.toNat : Int) - 48) := by simp [numL]
theorem fold_ge (l : List UInt8) (h : l.all digitB = true) : ∀ n : Int, 0 ≤ n → n ≤ l.foldl (fun n c => 10 * n + ((c.toNat : Int) - 48)) n := by
  induction l with
  | nil => intro n _; exact Int.le_refl _
  | cons a r ih =>
    intro n hn
    simp only [List.all_cons, Bool.and_eq_true] at h
    have hd := h.1
    unfold digitB at hd
    simp only [Bool.and_eq_true, decide_eq_true_eq] at hd
    have := ih h.2 (10 * n + ((a.toNat : Int) - 48)) (by omega)
    simp only [List.foldl_cons]
    omega
theorem numL_nonneg (l : List UInt8) (h : l.all digitB = true) : 0 ≤ numL l := fold_ge l h 0 (Int.le_refl _)
theorem numL_take (l : List UInt8) (k : Nat) (h : l.all digitB = true) : numL (l.take k) ≤ numL l := by
  have e : numL l = (l.drop k).foldl (fun n c => 10 * n + ((c.toNat : Int) - 48)) (numL (l.take k)) := by
    unfold numL; rw [← List.foldl_append, List.take_append_drop]
  rw [e]
  have h1 : (l.take k).all digitB = true := by
    rw [List.all_eq_true] at h ⊢; exact fun x hx => h x (List.mem_of_mem_take hx)
  have h2 : (l.drop k).all digitB = true := by
    rw [List.all_eq_true] at h ⊢; exact fun x hx => h x (List.mem_of_mem_drop hx)
  exact fold_ge _ h2 _ (numL_nonneg _ h1)
def zeroLead (l : List UInt8) : Bool := decide (1 < (l.length : Int)) && ((((l.headD 0).toNat : Int)) == 48)
def valE (l : List UInt8) : Int := if zeroLead l then 21 else if 1099511627776 < numL l then 21 else 0
def valN (l : List UInt8) : Int := if valE l = 0 then numL l else 0
theorem headD_of (s : ByteArray) (h : 0 < s.size) : s.data.toList.headD 0 = s[0] := by
  have e := drop_consB s 0 h
  rw [List.drop_zero] at e
  rw [e]; rfl
set_option maxHeartbeats 1000000 in
theorem c55 (s : ByteArray) (w : World) (hs : s.size ≤ maxLen) (hd : s.data.toList.all digitB = true) :
    Calls Tryd.prog 54 #[.string s] w fun e w' => e = .returned (.tuple #[.int .i64 (valN s.data.toList), .int .i64 (valE s.data.toList)]) ∧ w' = w := by
  unfold maxLen at hs
  have HD : Hid (s.data.toList.all digitB = true) := hd
  clear hd
  cases hz : zeroLead s.data.toList
  · have hzz : ¬ (1 < (s.size : Int)) ∨ (1 < (s.size : Int) ∧ ∃ h : 0 < s.size, ((s[0].toNat : Int) == 48) = false) := by
      unfold zeroLead at hz
      rw [len_list] at hz
      by_cases h1 : 1 < (s.size : Int)
      · right
        rw [headD_of s (by omega), decide_eq_true h1, Bool.true_and] at hz
        exact ⟨h1, by omega, hz⟩
      · exact .inl h1
    have HZ : Hid (valE s.data.toList = if 1099511627776 < numL s.data.toList then 21 else 0) := by
      show valE _ = _
      unfold valE; rw [hz]; rfl
    clear hz
    rcases hzz with hzz | ⟨hzz, hz0, hz1⟩
    all_goals
      go_enter Tryd.func54, Tryd.ntmps54
      go_wp2
      go_loop [4, 16] (fun n i => ∃ k : Nat, k ≤ s.size ∧ i = .int .i64 k ∧ n = .int .i64 (numL (s.data.toList.take k)) ∧ numL (s.data.toList.take k) ≤ 1099511627776) (fun _ i => s.size - (intOf i).toNat)
      case atStart => exact ⟨0, Nat.zero_le _, rfl, rfl, by simp [numL]⟩
      case round =>
        obtain ⟨k, hk, rfl, rfl, hle⟩ := hrel
        by_cases hlt : k < s.size
        · have hlt' : (k : Int) < (s.size : Int) := by omega
          have hdk : digitB s[k] = true := by
            have h1 := List.all_eq_true.1 HD.out
            exact h1 _ (by
              have : s.data.toList[k]'(by rw [len_list]; exact hlt) ∈ s.data.toList := List.getElem_mem _
              exact this)
          unfold digitB at hdk
          simp only [Bool.and_eq_true, decide_eq_true_eq] at hdk
          obtain ⟨hd1, hd2⟩ := hdk
          have h0 : 0 ≤ numL (s.data.toList.take k) := numL_nonneg _ (by
            have h1 := List.all_eq_true.1 HD.out
            rw [List.all_eq_true]; exact fun x hx => h1 x (List.mem_of_mem_take hx))
          have hsn : numL (s.data.toList.take (k + 1)) = 10 * numL (s.data.toList.take k) + ((s[k].toNat : Int) - 48) := by
            rw [List.take_succ_eq_append_getElem (by rw [len_list]; exact hlt), numL_snoc]; rfl
          have hmono := numL_take s.data.toList (k + 1) HD.out
          rw [hsn] at hmono
          have HSN : Hid (numL (s.data.toList.take (k + 1)) = 10 * numL (s.data.toList.take k) + ((s[k].toNat : Int) - 48)) := hsn
          clear hsn
          generalize numL (s.data.toList.take k) = m at *
          by_cases hbig : 1099511627776 < 10 * m + ((s[k].toNat : Int) - 48)
          · have hF : Hid (valE s.data.toList = 21 ∧ valN s.data.toList = 0) := by
              have e : valE s.data.toList = 21 := by rw [HZ.out, if_pos (by omega)]
              exact ⟨e, by unfold valN; rw [e]; rfl⟩
            clear hmono
            go_wp2
            go_ret2
            exact ⟨by rw [hF.out.1, hF.out.2]; rfl, rfl⟩
          · clear hmono
            go_wp2
            go_round
            case rel => exact ⟨k + 1, by omega, by go_num, by rw [HSN.out], by rw [HSN.out]; omega⟩
            case measure => simp [intOf]; omega
        · have hF : Hid (valE s.data.toList = 0 ∧ valN s.data.toList = numL (s.data.toList.take k)) := by
            rw [List.take_of_length_le (by rw [len_list]; omega)] at hle ⊢
            have e : valE s.data.toList = 0 := by rw [HZ.out, if_neg (by omega)]
            exact ⟨e, by unfold valN; rw [e]; rfl⟩
          have hlt' : ¬ ((k : Int) < (s.size : Int)) := by omega
          go_wp2
          go_ret2
          exact ⟨by rw [hF.out.1, hF.out.2]; rfl, rfl⟩
  · have hz' := hz
    unfold zeroLead at hz'
    rw [len_list] at hz'
    simp only [Bool.and_eq_true, decide_eq_true_eq] at hz'
    obtain ⟨h1, h2⟩ := hz'
    rw [headD_of s (by omega)] at h2
    have e : valE s.data.toList = 21 := by unfold valE; rw [hz]; rfl
    have e2 : valN s.data.toList = 0 := by unfold valN; rw [e]; rfl
    rw [e, e2]
    clear e e2 hz
    go_enter Tryd.func54, Tryd.ntmps54
    go_wp2
    go_ret2
    exact ⟨rfl, rfl⟩
def wordT (s : ByteArray) (k : Int) : T × Int := if 16 < runP innerB s.data.toList then (zeroT, 5) else (⟨k, s.extract 0 (runP innerB s.data.toList), 0, 0, 0⟩, 0)
def pairV (x : T × Int) : Value := .tuple #[x.1.val, .int .i64 x.2]
set_option maxHeartbeats 1000000 in
theorem c39 (s : ByteArray) (k : Int) (w : World) (hs : s.size ≤ maxLen) :
    Calls Tryd.prog 48 #[.string s, .int .u8 k] w fun e w' => e = .returned (pairV (wordT s k)) ∧ Below w.heap.size w w' := by
  have H35 := fun w => c35_54 s w hs
  have hle := runP_le innerB s.data.toList
  rw [len_list] at hle
  unfold maxLen at hs
  unfold wordT
  generalize runP innerB s.data.toList = n at *
  have hB : ∀ o : Obj, Hid (Below w.heap.size w (w.alloc o)) := fun o => below_alloc w o
  by_cases h : 16 < n
  · rw [if_pos h]
    have h' : 16 < (n : Int) := by omega
    go_enter Tryd.func48, Tryd.ntmps48
    go_wp2_with (go_at_call 14; refine (H35 _).mono ?_; rintro e w' ⟨rfl, rfl⟩)
    exact bodyPost_ret (v := pairV (zeroT, 5)) (by simp [results, Tryd.results48, go_sem, pairV, zeroT, T.val]) rfl ⟨rfl, (hB _).out⟩
  · rw [if_neg h]
    have h' : ¬ (16 < (n : Int)) := by omega
    have h'' : (n : Int) ≤ (s.size : Int) := by omega
    go_enter Tryd.func48, Tryd.ntmps48
    go_wp2_with (go_at_call 14; refine (H35 _).mono ?_; rintro e w' ⟨rfl, rfl⟩)
    exact bodyPost_ret (v := pairV (⟨k, s.extract 0 n, 0, 0, 0⟩, 0)) (by simp [results, Tryd.results48, go_sem, pairV, T.val]) rfl ⟨rfl, (hB _).out⟩
end Go.Proofs.YtiemngihndbobaaDoor.Lx
