/- Contracts of the reference IsSign and cell: a cell is whole in itself. -/
import Derived.Test.YtojobiefambkoaaDoorWD
import Derived.Deep.RegionHeld3
import Derived.Deep.DrawnRows
namespace Go.Proofs.YtojobiefambkoaaDoor
open Go.RowKit
def eqName (a0 a1 b0 b1 : Int) : Bool := (a0 == b0) && (a1 == b1)
set_option maxHeartbeats 1000000 in
theorem eql23 (a0 a1 b0 b1 : Int) (w : World) :
    (binOp .eql 34 (.agg #[.int .i64 a0, .int .i64 a1]) (.agg #[.int .i64 b0, .int .i64 b1])).run Tryd.prog w = .ok (.bool (eqName a0 a1 b0 b1)) w := by
  unfold eqName
  cases h1 : (a0 == b0) <;> cases h2 : (a1 == b1) <;> go_simp
theorem empty_toList (t : ByteArray) : (t.toList == (⟨#[]⟩ : ByteArray).toList) = t.toList.isEmpty := by
  rw [ByteArray.toList_eq, ByteArray.toList_eq]
  cases t.data.toList <;> rfl
theorem cellB1 (t : ByteArray) (n vn vk : Int) : cellB 1 t n vn vk = (t.toList.isEmpty && eqName vn vk 0 0 && decide (-2147483648 ≤ n) && decide (n ≤ 2147483648)) := by
  unfold cellB eqCells between eqName
  rw [empty_toList]
  simp [Bool.and_assoc]
theorem cellB2 (t : ByteArray) (n vn vk : Int) : cellB 2 t n vn vk = (isNameB t.data.toList && eqName vn vk 0 0 && (n == 0)) := by
  unfold cellB eqCells eqName
  simp
  cases isNameB t.data.toList <;> cases (n == 0) <;> cases (vn == 0) <;> cases (vk == 0) <;> rfl
theorem cellB3 (t : ByteArray) (n vn vk : Int) : cellB 3 t n vn vk = (eqName vn vk 0 0 && ((isNameB t.data.toList && decide (1 ≤ n) && decide (n ≤ 8)) || (isSignB t.data.toList && (n == 2)))) := by
  unfold cellB eqCells eqName structFits between
  simp [Bool.and_assoc]
theorem cellB4 (t : ByteArray) (n vn vk : Int) : cellB 4 t n vn vk = (t.toList.isEmpty && (n == 0) && decide (-1 ≤ vn) && decide (vn ≤ 3) && decide (0 ≤ vk)) := by
  unfold cellB eqCells between
  rw [empty_toList]
  simp [Bool.and_assoc]
theorem signs_elem (k : Nat) (hk : k < 12) : signVals[k]? = some (.string (signS k)) := by
  match k, hk with
  | 0, _ | 1, _ | 2, _ | 3, _ | 4, _ | 5, _ | 6, _ | 7, _ | 8, _ | 9, _ | 10, _ | 11, _ => rfl
set_option maxHeartbeats 2000000 in
theorem c64 (s : ByteArray) (w : World) :
    Calls Tryd.prog 105 #[.string s] w fun e w' => e = .returned (.bool (isSignB s.data.toList)) ∧ Below w.heap.size w w' := by
  have hcell : ∀ k : Nat, k < 12 → (w.alloc (.cells signVals.toArray 148)).cell? ⟨w.heap.size, k, none⟩ = some (.string (signS k)) := fun k hk => cell_new w signVals.toArray 148 k _ (by simpa using signs_elem k hk)
  have hB : ∀ o : Obj, Hid (Below w.heap.size w (w.alloc o)) := fun o => below_alloc w o
  have hsv : (.cells #[.string ⟨#[61]⟩, .string ⟨#[58, 61]⟩, .string ⟨#[64]⟩, .string ⟨#[43]⟩, .string ⟨#[45]⟩, .string ⟨#[42]⟩, .string ⟨#[60]⟩, .string ⟨#[61, 60]⟩, .string ⟨#[62]⟩, .string ⟨#[62, 61]⟩, .string ⟨#[61, 58, 61]⟩, .string ⟨#[61, 92, 61]⟩] 148 : Obj) = .cells signVals.toArray 148 := rfl
  go_enter Tryd.func105, Tryd.ntmps105
  go_wp2_with fail
  have HB : Hid (Below w.heap.size w (w.alloc (.cells signVals.toArray 148))) := (hB _)
  generalize w.alloc (.cells signVals.toArray 148) = W0 at *
  clear hsv
  go_loop [4] (fun i => ∃ k : Nat, k ≤ 12 ∧ i = .int .i64 k ∧ Hid (∀ j, j < k → signS j ≠ s)) (fun i => 12 - (intOf i).toNat)
  case atStart => exact ⟨0, Nat.zero_le _, rfl, fun j hj => by omega⟩
  case round =>
    obtain ⟨k, hk, rfl, hall⟩ := hrel
    by_cases hlt : k < 12
    · have hk' := hcell k hlt
      have hlt' : (k : Int) < 12 := by omega
      clear hcell
      by_cases he : signS k = s
      · have hT : Hid (isSignB s.data.toList = true) := isSign_true s k hlt he
        have hee : (s.toList == (signS k).toList) = true := by rw [he]; simp
        clear he
        go_wp2_with fail
        go_ret
        exact ⟨by rw [hT.out]; rfl, HB.out⟩
      · have hN : Hid (∀ j, j < k + 1 → signS j ≠ s) := fun j hj => if e : j = k then e ▸ he else hall.out j (by omega)
        have hne : (s.toList == (signS k).toList) = false := by
          rw [beq_eq_false_iff_ne]; intro h2; apply he
          rw [ByteArray.toList_eq, ByteArray.toList_eq] at h2
          have h4 : (signS k).data = s.data := Array.toList_inj.1 h2.symm
          cases s; cases hq : signS k; simp_all
        go_wp2_with fail
        go_round
        case rel => exact ⟨k + 1, by omega, by go_num, hN⟩
        case measure => simp [intOf]; omega
    · have hF : Hid (isSignB s.data.toList = false) := isSign_false s (fun j hj => hall.out j (by omega))
      have hlt' : ¬ (k : Int) < 12 := by omega
      go_wp2_with fail
      go_ret
      exact ⟨by rw [hF.out]; rfl, HB.out⟩
set_option maxHeartbeats 4000000 in
theorem c47_1 (t : ByteArray) (n vn vk : Int) (w : World) :
    Calls Tryd.prog 85 #[.agg #[.int .u8 1, .string t, .int .i64 n, .int .i64 vn, .int .i64 vk]] w fun e w' => e = .returned (.bool (cellB 1 t n vn vk)) ∧ Below w.heap.size w w' := by
  rw [cellB1]
  have hE := eql23 vn vk 0 0
  have hB : ∀ o : Obj, Hid (Below w.heap.size w (w.alloc o)) := fun o => below_alloc w o
  generalize eqName vn vk 0 0 = g at *
  cases h1 : t.toList.isEmpty <;> cases g <;> (by_cases h2 : -2147483648 ≤ n) <;> (by_cases h3 : n ≤ 2147483648)
  all_goals first
    | (exfalso; omega)
    | (go_enter Tryd.func85, Tryd.ntmps85
       go_wp2_with fail
       go_ret
       exact ⟨by simp_all, (hB _).out⟩)
set_option maxHeartbeats 4000000 in
theorem c47_4 (t : ByteArray) (n vn vk : Int) (w : World) :
    Calls Tryd.prog 85 #[.agg #[.int .u8 4, .string t, .int .i64 n, .int .i64 vn, .int .i64 vk]] w fun e w' => e = .returned (.bool (cellB 4 t n vn vk)) ∧ Below w.heap.size w w' := by
  rw [cellB4]
  have hE := eql23 vn vk 0 0
  have hB : ∀ o : Obj, Hid (Below w.heap.size w (w.alloc o)) := fun o => below_alloc w o
  generalize eqName vn vk 0 0 = g at *
  cases h1 : t.toList.isEmpty
  · go_enter Tryd.func85, Tryd.ntmps85
    go_wp2_with fail
    go_ret
    exact ⟨by simp, (hB _).out⟩
  cases h2 : (n == 0)
  · go_enter Tryd.func85, Tryd.ntmps85
    go_wp2_with fail
    go_ret
    exact ⟨by simp, (hB _).out⟩
  by_cases h3 : -1 ≤ vn
  · by_cases h4 : vn ≤ 3
    · go_enter Tryd.func85, Tryd.ntmps85
      go_wp2_with fail
      go_ret
      exact ⟨by simp [h3, h4], (hB _).out⟩
    · go_enter Tryd.func85, Tryd.ntmps85
      go_wp2_with fail
      go_ret
      exact ⟨by rw [decide_eq_false (by omega : ¬ vn ≤ 3)]; simp, (hB _).out⟩
  · go_enter Tryd.func85, Tryd.ntmps85
    go_wp2_with fail
    go_ret
    exact ⟨by rw [decide_eq_false (by omega : ¬ -1 ≤ vn)]; simp, (hB _).out⟩
set_option maxHeartbeats 4000000 in
theorem c47_2 (t : ByteArray) (n vn vk : Int) (w : World) (ht : t.size ≤ maxLen) :
    Calls Tryd.prog 85 #[.agg #[.int .u8 2, .string t, .int .i64 n, .int .i64 vn, .int .i64 vk]] w fun e w' => e = .returned (.bool (cellB 2 t n vn vk)) ∧ Below w.heap.size w w' := by
  rw [cellB2]
  have hE := eql23 vn vk 0 0
  have hB : ∀ o : Obj, Hid (Below w.heap.size w (w.alloc o)) := fun o => below_alloc w o
  have H40 := fun w => c40 t w ht
  generalize eqName vn vk 0 0 = g at *
  generalize isNameB t.data.toList = b at *
  have H40 : Hid (∀ w : World, _) := H40
  cases g <;> cases b <;> cases h2 : (n == 0)
  all_goals
    go_enter Tryd.func85, Tryd.ntmps85
    go_wp2_with (first | (go_at_call 104; refine (H40.out _).mono ?_; rintro e w' ⟨rfl, rfl⟩))
    go_ret
    exact ⟨by simp, (hB _).out⟩
set_option maxHeartbeats 4000000 in
theorem c47_3 (t : ByteArray) (n vn vk : Int) (w : World) (ht : t.size ≤ maxLen) :
    Calls Tryd.prog 85 #[.agg #[.int .u8 3, .string t, .int .i64 n, .int .i64 vn, .int .i64 vk]] w fun e w' => e = .returned (.bool (cellB 3 t n vn vk)) ∧ Below w.heap.size w w' := by
  rw [cellB3]
  have hE := eql23 vn vk 0 0
  have hB : ∀ o : Obj, Hid (Below w.heap.size w (w.alloc o)) := fun o => below_alloc w o
  have H40 := fun w => c40 t w ht
  have H64 := c64 t
  generalize eqName vn vk 0 0 = g at *
  generalize isNameB t.data.toList = b at *
  generalize isSignB t.data.toList = sg at *
  have H40 : Hid (∀ w : World, _) := H40
  have H64 : Hid (∀ w : World, _) := H64
  cases g
  · go_enter Tryd.func85, Tryd.ntmps85
    go_wp2_with fail
    go_ret
    exact ⟨rfl, (hB _).out⟩
  by_cases hin : b = true ∧ 1 ≤ n ∧ n ≤ 8
  · obtain ⟨rfl, h1, h8⟩ := hin
    go_enter Tryd.func85, Tryd.ntmps85
    go_wp2_with (first | (go_at_call 104; refine (H40.out _).mono ?_; rintro e w' ⟨rfl, rfl⟩))
    go_ret
    exact ⟨by simp [h1, h8], (hB _).out⟩
  have hl : (b && decide (1 ≤ n) && decide (n ≤ 8)) = false := by
    cases b
    · rfl
    · simp at hin; simp; omega
  rw [hl]
  clear hl
  cases sg <;> cases h2 : (n == 2) <;> cases b <;> (by_cases h1 : 1 ≤ n) <;> (by_cases h8 : n ≤ 8)
  all_goals first
    | (exfalso; simp at h2; omega)
    | (exfalso; omega)
    | (exfalso; exact hin ⟨rfl, h1, h8⟩)
    | (clear hin
       go_enter Tryd.func85, Tryd.ntmps85
       go_wp2_with (first | (go_at_call 104; refine (H40.out _).mono ?_; rintro e w' ⟨rfl, rfl⟩))
       refine (H64.out _).mono ?_
       rintro e w' ⟨rfl, hb1⟩
       obtain ⟨hcc, hff⟩ := bcell hb1
       go_wp2_with fail
       go_ret
       exact ⟨by first | (simp; done) | (simp; omega), (hB _).out.trans (hb1.mono (by simp))⟩)
set_option maxHeartbeats 4000000 in
theorem c47_0 (k : Int) (t : ByteArray) (n vn vk : Int) (w : World) (h1 : (k == 1) = false) (h2 : (k == 2) = false) (h3 : (k == 3) = false) (h4 : (k == 4) = false) :
    Calls Tryd.prog 85 #[.agg #[.int .u8 k, .string t, .int .i64 n, .int .i64 vn, .int .i64 vk]] w fun e w' => e = .returned (.bool false) ∧ Below w.heap.size w w' := by
  have hE := eql23 vn vk 0 0
  have hB : ∀ o : Obj, Hid (Below w.heap.size w (w.alloc o)) := fun o => below_alloc w o
  generalize eqName vn vk 0 0 = g at *
  go_enter Tryd.func85, Tryd.ntmps85
  go_wp2_with fail
  go_ret
  exact ⟨rfl, (hB _).out⟩
theorem c47 (k : Int) (t : ByteArray) (n vn vk : Int) (w : World) (ht : t.size ≤ maxLen) :
    Calls Tryd.prog 85 #[.agg #[.int .u8 k, .string t, .int .i64 n, .int .i64 vn, .int .i64 vk]] w fun e w' => e = .returned (.bool (cellB k t n vn vk)) ∧ Below w.heap.size w w' := by
  by_cases h1 : k = 1
  · subst h1; exact c47_1 t n vn vk w
  by_cases h2 : k = 2
  · subst h2; exact c47_2 t n vn vk w ht
  by_cases h3 : k = 3
  · subst h3; exact c47_3 t n vn vk w ht
  by_cases h4 : k = 4
  · subst h4; exact c47_4 t n vn vk w
  have e : cellB k t n vn vk = false := by simp [cellB, h1, h2, h3, h4]
  rw [e]
  exact c47_0 k t n vn vk w (by simp [h1]) (by simp [h2]) (by simp [h3]) (by simp [h4])
end Go.Proofs.YtojobiefambkoaaDoor
