/- Contract of the reference End. Contracts of the reference IsSign and cell: a cell is whole in itself. -/
import Derived.Test.YtljggjllijacjaaGreatDoorWDg
import Derived.Deep.RegionHeld3
import Derived.Deep.DrawnRows
namespace Go.Proofs.YtljggjllijacjaaGreatDoor
open Go.RowKit
/-- The reference's way to the place behind the terms that are open. -/
def refF (len : Int) : List C → Int → Int → Int
 | [], i, q => if 0 < q then 0 else i
 | c :: r, i, q => if 0 < q then (if len < argsOf c.k c.n then 0 else refF len r (i + 1) (q - 1 + argsOf c.k c.n)) else i
theorem refF_short (len : Int) : ∀ (l : List C) (i q : Int), (l.length : Int) < q → refF len l i q = 0
 | [], i, q, h => by simp at h; simp [refF, h]
 | c :: r, i, q, h => by
  have ha := argsOf_nonneg c.k c.n
  simp at h
  have hq : 0 < q := by omega
  simp only [refF, hq, if_true]
  split
  ·rfl
  ·exact refF_short len r _ _ (by omega)
theorem refF_eq (len : Int) : ∀ (l : List C) (i q : Int), 0 < q → (l.length : Int) ≤ len → refF len l i q = endF len l i q
 | [], i, q, h, _ => by simp [refF, endF, h]
 | c :: r, i, q, h, hl => by
  have ha := argsOf_nonneg c.k c.n
  simp at hl
  simp only [refF, endF, h, if_true]
  by_cases h1 : len - q < argsOf c.k c.n
  ·rw [if_pos h1]
   split
   ·rfl
   ·exact refF_short len r _ _ (by omega)
  ·rw [if_neg h1, if_neg (by omega)]
   by_cases h2 : q + (argsOf c.k c.n - 1) = 0
   ·rw [if_pos h2, show q - 1 + argsOf c.k c.n = 0 by omega]
    cases r <;> simp [refF]
   ·rw [if_neg h2, show q - 1 + argsOf c.k c.n = q + (argsOf c.k c.n - 1) by omega]
    exact refF_eq len r _ _ (by omega) (by omega)
set_option maxHeartbeats 2000000 in
theorem c25_in (l : List C) (b o cap at_ : Nat) (w : World) (hr : w.rangeAt b o (flat l)) (_hb : b < w.heap.size) (hc : l.length ≤ 1048576) (h1 : at_ < l.length) :
  Calls Tryz.prog 82 #[.slice (some ⟨b, o, none⟩) l.length cap, .int .i64 (at_ : Int)] w fun e w' => e = .returned (.int .i64 (endS l at_)) ∧ w' = w := by
 have hsp : endS l at_ = refF l.length (l.drop at_) at_ 1 := by
  rw [refF_eq _ _ _ _ (by omega) (by simp)]
  unfold endS; rw [if_neg (by omega)]; simp
 rw [hsp]; clear hsp
 have h0' : ¬ ((at_ : Int) < 0) := by omega
 have h1' : ¬ ((l.length : Int) ≤ (at_ : Int)) := by omega
 have HR : Hid (w.rangeAt b o (flat l)) := hr
 clear hr
 go_enter Tryz.func82, Tryz.ntmps82
 go_wp2_with fail
 go_loop [1, 5] (fun i nd => ∃ k : Nat, ∃ q : Int, k ≤ l.length ∧ i = .int .i64 k ∧ nd = .int .i64 q ∧ 0 ≤ q ∧ q ≤ 1 + 1048576 * (k : Int) ∧ Hid (refF l.length (l.drop at_) at_ 1 = refF l.length (l.drop k) k q)) (fun i _ => l.length - (intOf i).toNat)
 case atStart => exact ⟨at_, 1, by omega, rfl, rfl, by omega, by omega, rfl⟩
 case round =>
  obtain ⟨k, q, hk, rfl, rfl, hq, hq2, HE⟩ := hrel
  by_cases hpos : 0 < q
  ·by_cases hlt : k < l.length
   ·have hlt' : ¬ ((l.length : Int) ≤ (k : Int)) := by omega
    obtain ⟨p0, p1, p2, p3, p4⟩ := term_cells HR.out k hlt
    have ha := argsOf_nonneg l[k].k l[k].n
    rw [drop_cons l k hlt] at HE
    have HE1 : Hid (refF l.length (l.drop at_) at_ 1 = if 0 < q then (if (l.length : Int) < argsOf l[k].k l[k].n then 0 else refF l.length (l.drop (k + 1)) ((k : Int) + 1) (q - 1 + argsOf l[k].k l[k].n)) else (k : Int)) := HE
    have HE2 : Hid (refF l.length (l.drop at_) at_ 1 = if (l.length : Int) < argsOf l[k].k l[k].n then 0 else refF l.length (l.drop (k + 1)) ((k : Int) + 1) (q - 1 + argsOf l[k].k l[k].n)) := by
     have h := HE1.out; rw [if_pos hpos] at h; exact h
    clear HE HE1
    by_cases h3 : l[k].k = 3
    ·have h3b : (l[k].k == 3) = true := by simp [h3]
     by_cases hn : 0 < l[k].n
     ·have ea : argsOf l[k].k l[k].n = l[k].n := by unfold argsOf; rw [if_pos h3]; omega
      rw [ea] at HE2
      clear ea ha h3
      generalize l[k].n = nn at *
      generalize l[k].k = kk at *
      by_cases hbig : (l.length : Int) < nn
      ·have hF : Hid (refF l.length (l.drop at_) at_ 1 = 0) := by have h := HE2.out; rw [if_pos hbig] at h; exact h
       go_wp2_with fail
       go_ret
       exact ⟨by rw [hF.out]; rfl, rfl⟩
      ·have hF : Hid (refF l.length (l.drop at_) at_ 1 = refF l.length (l.drop (k + 1)) ((k : Int) + 1) (q - 1 + nn)) := by have h := HE2.out; rw [if_neg hbig] at h; exact h
       go_wp2_with fail
       go_round
       case rel => exact ⟨k + 1, q - 1 + nn, by omega, by go_num, rfl, by omega, by omega, hF⟩
       case measure => simp [intOf]; omega
     ·have ea : argsOf l[k].k l[k].n = 0 := by unfold argsOf; rw [if_pos h3]; omega
      rw [ea] at HE2
      have hF : Hid (refF l.length (l.drop at_) at_ 1 = refF l.length (l.drop (k + 1)) ((k : Int) + 1) (q - 1 + 0)) := by have h := HE2.out; rw [if_neg (by omega)] at h; exact h
      clear ea ha h3 HE2
      generalize l[k].n = nn at *
      generalize l[k].k = kk at *
      go_wp2_with fail
      go_round
      case rel => exact ⟨k + 1, q - 1, by omega, by go_num, rfl, by omega, by omega, by have h := hF.out; rw [show q - 1 + 0 = q - 1 by omega] at h; exact h⟩
      case measure => simp [intOf]; omega
    ·have h3b : (l[k].k == 3) = false := by simp [h3]
     have ea : argsOf l[k].k l[k].n = 0 := by unfold argsOf; rw [if_neg h3]
     rw [ea] at HE2
     have hF : Hid (refF l.length (l.drop at_) at_ 1 = refF l.length (l.drop (k + 1)) ((k : Int) + 1) (q - 1 + 0)) := by have h := HE2.out; rw [if_neg (by omega)] at h; exact h
     clear ea ha h3 HE2
     generalize l[k].n = nn at *
     generalize l[k].k = kk at *
     go_wp2_with fail
     go_round
     case rel => exact ⟨k + 1, q - 1, by omega, by go_num, rfl, by omega, by omega, by have h := hF.out; rw [show q - 1 + 0 = q - 1 by omega] at h; exact h⟩
     case measure => simp [intOf]; omega
   ·have hlt' : (l.length : Int) ≤ (k : Int) := by omega
    have hF : Hid (refF l.length (l.drop at_) at_ 1 = 0) := by
     have h := HE.out; rw [List.drop_of_length_le (l := l) (i := k) (by omega)] at h
     show refF l.length (l.drop at_) at_ 1 = 0
     rw [h]; simp [refF, hpos]
    go_wp2_with fail
    go_ret
    exact ⟨by rw [hF.out]; rfl, rfl⟩
  ·have hF : Hid (refF l.length (l.drop at_) at_ 1 = (k : Int)) := by
    have h := HE.out
    show refF l.length (l.drop at_) at_ 1 = (k : Int)
    rw [h]; cases l.drop k <;> simp [refF, hpos]
   go_wp2_with fail
   go_ret
   exact ⟨by rw [hF.out]; rfl, rfl⟩
set_option maxHeartbeats 1000000 in
theorem c25_out (len cap : Nat) (ad : Option Addr) (p : Int) (w : World) (h : p < 0 ∨ (len : Int) ≤ p) :
  Calls Tryz.prog 82 #[.slice ad len cap, .int .i64 p] w fun e w' => e = .returned (.int .i64 0) ∧ w' = w := by
 by_cases h0 : p < 0
 ·go_enter Tryz.func82, Tryz.ntmps82
  go_wp2_with fail
  go_ret
  exact ⟨rfl, rfl⟩
 ·have h1 : (len : Int) ≤ p := by omega
  go_enter Tryz.func82, Tryz.ntmps82
  go_wp2_with fail
  go_ret
  exact ⟨rfl, rfl⟩
theorem c25 (l : List C) (v : Value) (p : Int) (w : World) (h : TermAt w v l) (hc : l.length ≤ 1048576) :
  Calls Tryz.prog 82 #[v, .int .i64 p] w fun e w' => e = .returned (.int .i64 (endS l p)) ∧ w' = w := by
 obtain ⟨_, h⟩ := h
 by_cases hp : p < 0 ∨ (l.length : Int) ≤ p
 ·have e : endS l p = 0 := by unfold endS; rw [if_pos hp]
  rw [e]
  rcases h with ⟨rfl, ad, rfl⟩ | ⟨b, o, cap, rfl, h2, h5, h3, h4⟩
  ·exact c25_out 0 0 ad p w hp
  ·exact c25_out _ _ _ p w hp
 ·rcases h with ⟨rfl, ad, rfl⟩ | ⟨b, o, cap, rfl, h2, h5, h3, h4⟩
  ·exfalso; simp at hp; omega
  ·obtain ⟨at_, rfl⟩ := Int.eq_ofNat_of_zero_le (a := p) (by omega)
   exact c25_in l b o cap at_ w h3 h4 hc (by omega)
end Go.Proofs.YtljggjllijacjaaGreatDoor

namespace Go.Proofs.YtljggjllijacjaaGreatDoor
open Go.RowKit
def eqName (a0 a1 b0 b1 : Int) : Bool := (a0 == b0) && (a1 == b1)
set_option maxHeartbeats 1000000 in
theorem eql23 (a0 a1 b0 b1 : Int) (w : World) :
    (binOp .eql 32 (.agg #[.int .i64 a0, .int .i64 a1]) (.agg #[.int .i64 b0, .int .i64 b1])).run Tryz.prog w = .ok (.bool (eqName a0 a1 b0 b1)) w := by
  unfold eqName
  cases h1 : (a0 == b0) <;> cases h2 : (a1 == b1) <;> go_simp
theorem empty_toList (t : ByteArray) : (t.toList == (⟨#[]⟩ : ByteArray).toList) = t.toList.isEmpty := by
  rw [ByteArray.toList_eq, ByteArray.toList_eq]
  cases t.data.toList <;> rfl
theorem cellB1 (t : ByteArray) (n vn vk : Int) : cellB 1 t n vn vk = (t.toList.isEmpty && eqName vn vk 0 0 && decide (-2147483648 ≤ n) && decide (n ≤ 2147483648)) := by
  unfold cellB eqCells between eqName
  rw [empty_toList]
  simp [Bool.and_assoc]
theorem cellB2 (t : ByteArray) (n vn vk : Int) : cellB 2 t n vn vk = (isNameB t.data.toList && eqName vn vk 0 0 && (n == 0)) := by
  unfold cellB eqCells eqName
  simp
  cases isNameB t.data.toList <;> cases (n == 0) <;> cases (vn == 0) <;> cases (vk == 0) <;> rfl
theorem cellB3 (t : ByteArray) (n vn vk : Int) : cellB 3 t n vn vk = (eqName vn vk 0 0 && ((isNameB t.data.toList && decide (1 ≤ n) && decide (n ≤ 8)) || (isSignB t.data.toList && (n == 2)))) := by
  unfold cellB eqCells eqName structFits between
  simp [Bool.and_assoc]
theorem cellB4 (t : ByteArray) (n vn vk : Int) : cellB 4 t n vn vk = (t.toList.isEmpty && (n == 0) && decide (-1 ≤ vn) && decide (vn ≤ 3) && decide (0 ≤ vk)) := by
  unfold cellB eqCells between
  rw [empty_toList]
  simp [Bool.and_assoc]
theorem signs_elem (k : Nat) (hk : k < 12) : signVals[k]? = some (.string (signS k)) := by
  match k, hk with
  | 0, _ | 1, _ | 2, _ | 3, _ | 4, _ | 5, _ | 6, _ | 7, _ | 8, _ | 9, _ | 10, _ | 11, _ => rfl
set_option maxHeartbeats 2000000 in
theorem c64 (s : ByteArray) (w : World) :
    Calls Tryz.prog 103 #[.string s] w fun e w' => e = .returned (.bool (isSignB s.data.toList)) ∧ Below w.heap.size w w' := by
  have hcell : ∀ k : Nat, k < 12 → (w.alloc (.cells signVals.toArray 148)).cell? ⟨w.heap.size, k, none⟩ = some (.string (signS k)) := fun k hk => cell_new w signVals.toArray 148 k _ (by simpa using signs_elem k hk)
  have hB : ∀ o : Obj, Hid (Below w.heap.size w (w.alloc o)) := fun o => below_alloc w o
  have hsv : (.cells #[.string ⟨#[61]⟩, .string ⟨#[58, 61]⟩, .string ⟨#[64]⟩, .string ⟨#[43]⟩, .string ⟨#[45]⟩, .string ⟨#[42]⟩, .string ⟨#[60]⟩, .string ⟨#[61, 60]⟩, .string ⟨#[62]⟩, .string ⟨#[62, 61]⟩, .string ⟨#[61, 58, 61]⟩, .string ⟨#[61, 92, 61]⟩] 148 : Obj) = .cells signVals.toArray 148 := rfl
  go_enter Tryz.func103, Tryz.ntmps103
  go_wp2_with fail
  have HB : Hid (Below w.heap.size w (w.alloc (.cells signVals.toArray 148))) := (hB _)
  generalize w.alloc (.cells signVals.toArray 148) = W0 at *
  clear hsv
  go_loop [4] (fun i => ∃ k : Nat, k ≤ 12 ∧ i = .int .i64 k ∧ Hid (∀ j, j < k → signS j ≠ s)) (fun i => 12 - (intOf i).toNat)
  case atStart => exact ⟨0, Nat.zero_le _, rfl, fun j hj => by omega⟩
  case round =>
    obtain ⟨k, hk, rfl, hall⟩ := hrel
    by_cases hlt : k < 12
    · have hk' := hcell k hlt
      have hlt' : (k : Int) < 12 := by omega
      clear hcell
      by_cases he : signS k = s
      · have hT : Hid (isSignB s.data.toList = true) := isSign_true s k hlt he
        have hee : (s.toList == (signS k).toList) = true := by rw [he]; simp
        clear he
        go_wp2_with fail
        go_ret
        exact ⟨by rw [hT.out]; rfl, HB.out⟩
      · have hN : Hid (∀ j, j < k + 1 → signS j ≠ s) := fun j hj => if e : j = k then e ▸ he else hall.out j (by omega)
        have hne : (s.toList == (signS k).toList) = false := by
          rw [beq_eq_false_iff_ne]; intro h2; apply he
          rw [ByteArray.toList_eq, ByteArray.toList_eq] at h2
          have h4 : (signS k).data = s.data := Array.toList_inj.1 h2.symm
          cases s; cases hq : signS k; simp_all
        go_wp2_with fail
        go_round
        case rel => exact ⟨k + 1, by omega, by go_num, hN⟩
        case measure => simp [intOf]; omega
    · have hF : Hid (isSignB s.data.toList = false) := isSign_false s (fun j hj => hall.out j (by omega))
      have hlt' : ¬ (k : Int) < 12 := by omega
      go_wp2_with fail
      go_ret
      exact ⟨by rw [hF.out]; rfl, HB.out⟩
set_option maxHeartbeats 4000000 in
theorem c47_1 (t : ByteArray) (n vn vk : Int) (w : World) :
    Calls Tryz.prog 80 #[.agg #[.int .u8 1, .string t, .int .i64 n, .int .i64 vn, .int .i64 vk]] w fun e w' => e = .returned (.bool (cellB 1 t n vn vk)) ∧ Below w.heap.size w w' := by
  rw [cellB1]
  have hE := eql23 vn vk 0 0
  have hB : ∀ o : Obj, Hid (Below w.heap.size w (w.alloc o)) := fun o => below_alloc w o
  generalize eqName vn vk 0 0 = g at *
  cases h1 : t.toList.isEmpty <;> cases g <;> (by_cases h2 : -2147483648 ≤ n) <;> (by_cases h3 : n ≤ 2147483648)
  all_goals first
    | (exfalso; omega)
    | (go_enter Tryz.func80, Tryz.ntmps80
       go_wp2_with fail
       go_ret
       exact ⟨by simp_all, (hB _).out⟩)
set_option maxHeartbeats 4000000 in
theorem c47_4 (t : ByteArray) (n vn vk : Int) (w : World) :
    Calls Tryz.prog 80 #[.agg #[.int .u8 4, .string t, .int .i64 n, .int .i64 vn, .int .i64 vk]] w fun e w' => e = .returned (.bool (cellB 4 t n vn vk)) ∧ Below w.heap.size w w' := by
  rw [cellB4]
  have hE := eql23 vn vk 0 0
  have hB : ∀ o : Obj, Hid (Below w.heap.size w (w.alloc o)) := fun o => below_alloc w o
  generalize eqName vn vk 0 0 = g at *
  cases h1 : t.toList.isEmpty
  · go_enter Tryz.func80, Tryz.ntmps80
    go_wp2_with fail
    go_ret
    exact ⟨by simp, (hB _).out⟩
  cases h2 : (n == 0)
  · go_enter Tryz.func80, Tryz.ntmps80
    go_wp2_with fail
    go_ret
    exact ⟨by simp, (hB _).out⟩
  by_cases h3 : -1 ≤ vn
  · by_cases h4 : vn ≤ 3
    · go_enter Tryz.func80, Tryz.ntmps80
      go_wp2_with fail
      go_ret
      exact ⟨by simp [h3, h4], (hB _).out⟩
    · go_enter Tryz.func80, Tryz.ntmps80
      go_wp2_with fail
      go_ret
      exact ⟨by rw [decide_eq_false (by omega : ¬ vn ≤ 3)]; simp, (hB _).out⟩
  · go_enter Tryz.func80, Tryz.ntmps80
    go_wp2_with fail
    go_ret
    exact ⟨by rw [decide_eq_false (by omega : ¬ -1 ≤ vn)]; simp, (hB _).out⟩
set_option maxHeartbeats 4000000 in
theorem c47_2 (t : ByteArray) (n vn vk : Int) (w : World) (ht : t.size ≤ maxLen) :
    Calls Tryz.prog 80 #[.agg #[.int .u8 2, .string t, .int .i64 n, .int .i64 vn, .int .i64 vk]] w fun e w' => e = .returned (.bool (cellB 2 t n vn vk)) ∧ Below w.heap.size w w' := by
  rw [cellB2]
  have hE := eql23 vn vk 0 0
  have hB : ∀ o : Obj, Hid (Below w.heap.size w (w.alloc o)) := fun o => below_alloc w o
  have H40 := fun w => c40 t w ht
  generalize eqName vn vk 0 0 = g at *
  generalize isNameB t.data.toList = b at *
  have H40 : Hid (∀ w : World, _) := H40
  cases g <;> cases b <;> cases h2 : (n == 0)
  all_goals
    go_enter Tryz.func80, Tryz.ntmps80
    go_wp2_with (first | (go_at_call 102; refine (H40.out _).mono ?_; rintro e w' ⟨rfl, rfl⟩))
    go_ret
    exact ⟨by simp, (hB _).out⟩
set_option maxHeartbeats 4000000 in
theorem c47_3 (t : ByteArray) (n vn vk : Int) (w : World) (ht : t.size ≤ maxLen) :
    Calls Tryz.prog 80 #[.agg #[.int .u8 3, .string t, .int .i64 n, .int .i64 vn, .int .i64 vk]] w fun e w' => e = .returned (.bool (cellB 3 t n vn vk)) ∧ Below w.heap.size w w' := by
  rw [cellB3]
  have hE := eql23 vn vk 0 0
  have hB : ∀ o : Obj, Hid (Below w.heap.size w (w.alloc o)) := fun o => below_alloc w o
  have H40 := fun w => c40 t w ht
  have H64 := c64 t
  generalize eqName vn vk 0 0 = g at *
  generalize isNameB t.data.toList = b at *
  generalize isSignB t.data.toList = sg at *
  have H40 : Hid (∀ w : World, _) := H40
  have H64 : Hid (∀ w : World, _) := H64
  cases g
  · go_enter Tryz.func80, Tryz.ntmps80
    go_wp2_with fail
    go_ret
    exact ⟨rfl, (hB _).out⟩
  by_cases hin : b = true ∧ 1 ≤ n ∧ n ≤ 8
  · obtain ⟨rfl, h1, h8⟩ := hin
    go_enter Tryz.func80, Tryz.ntmps80
    go_wp2_with (first | (go_at_call 102; refine (H40.out _).mono ?_; rintro e w' ⟨rfl, rfl⟩))
    go_ret
    exact ⟨by simp [h1, h8], (hB _).out⟩
  have hl : (b && decide (1 ≤ n) && decide (n ≤ 8)) = false := by
    cases b
    · rfl
    · simp at hin; simp; omega
  rw [hl]
  clear hl
  cases sg <;> cases h2 : (n == 2) <;> cases b <;> (by_cases h1 : 1 ≤ n) <;> (by_cases h8 : n ≤ 8)
  all_goals first
    | (exfalso; simp at h2; omega)
    | (exfalso; omega)
    | (exfalso; exact hin ⟨rfl, h1, h8⟩)
    | (clear hin
       go_enter Tryz.func80, Tryz.ntmps80
       go_wp2_with (first | (go_at_call 102; refine (H40.out _).mono ?_; rintro e w' ⟨rfl, rfl⟩))
       refine (H64.out _).mono ?_
       rintro e w' ⟨rfl, hb1⟩
       obtain ⟨hcc, hff⟩ := bcell hb1
       go_wp2_with fail
       go_ret
       exact ⟨by first | (simp; done) | (simp; omega), (hB _).out.trans (hb1.mono (by simp))⟩)
set_option maxHeartbeats 4000000 in
theorem c47_0 (k : Int) (t : ByteArray) (n vn vk : Int) (w : World) (h1 : (k == 1) = false) (h2 : (k == 2) = false) (h3 : (k == 3) = false) (h4 : (k == 4) = false) :
    Calls Tryz.prog 80 #[.agg #[.int .u8 k, .string t, .int .i64 n, .int .i64 vn, .int .i64 vk]] w fun e w' => e = .returned (.bool false) ∧ Below w.heap.size w w' := by
  have hE := eql23 vn vk 0 0
  have hB : ∀ o : Obj, Hid (Below w.heap.size w (w.alloc o)) := fun o => below_alloc w o
  generalize eqName vn vk 0 0 = g at *
  go_enter Tryz.func80, Tryz.ntmps80
  go_wp2_with fail
  go_ret
  exact ⟨rfl, (hB _).out⟩
theorem c47 (k : Int) (t : ByteArray) (n vn vk : Int) (w : World) (ht : t.size ≤ maxLen) :
    Calls Tryz.prog 80 #[.agg #[.int .u8 k, .string t, .int .i64 n, .int .i64 vn, .int .i64 vk]] w fun e w' => e = .returned (.bool (cellB k t n vn vk)) ∧ Below w.heap.size w w' := by
  by_cases h1 : k = 1
  · subst h1; exact c47_1 t n vn vk w
  by_cases h2 : k = 2
  · subst h2; exact c47_2 t n vn vk w ht
  by_cases h3 : k = 3
  · subst h3; exact c47_3 t n vn vk w ht
  by_cases h4 : k = 4
  · subst h4; exact c47_4 t n vn vk w
  have e : cellB k t n vn vk = false := by simp [cellB, h1, h2, h3, h4]
  rw [e]
  exact c47_0 k t n vn vk w (by simp [h1]) (by simp [h2]) (by simp [h3]) (by simp [h4])
end Go.Proofs.YtljggjllijacjaaGreatDoor
