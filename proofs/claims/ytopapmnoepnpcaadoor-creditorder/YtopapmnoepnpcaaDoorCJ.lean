/- Contract of sorting; the plain side of sums. -/
import Derived.Test.YtopapmnoepnpcaaDoorCI
import Derived.Test.YtopapmnoepnpcaaDoorSh1
import Derived.Sort.OwnSortedInts
namespace Go.Proofs.YtopapmnoepnpcaaDoor
open Go.RowKit
attribute [local go_sem ↓] Go.wp_at_zero Go.wp_at_succ
abbrev srt (zs : List Int) : List Int := zs.mergeSort fun x y => decide (x ≤ y)
theorem srt_len (zs : List Int) : (srt zs).length = zs.length := List.length_mergeSort zs
theorem d19 (B : Nat) (a : Option Addr) (n c : Nat) (zs : List Int) (w : World) (h : Row w B 3 a n c (i64s zs)) (hn : n ≤ 1000000000) : Calls Tryd.prog 19 #[.slice a n c] w fun e w' => e = .returned (.tuple #[]) ∧ Row w' B 3 a n c (i64s (srt zs)) ∧ w.grownBy w' (blk a) := by
  have hl : zs.length = n := by have := h.len; simpa [i64s] using this
  rcases Nat.eq_zero_or_pos n with h0 | h0
  · subst h0
    have hz : zs = [] := List.length_eq_zero_iff.1 hl
    subst hz
    refine (Tryd.slices_Sort_int_none a c w).mono ?_
    rintro e w' ⟨rfl, rfl⟩
    exact ⟨rfl, by simpa [srt] using h, rfl, rfl, rfl, Nat.le_refl _, fun _ _ _ => rfl⟩
  · rcases h.mem with ⟨_, e⟩ | ⟨g, cur, rfl, h1, h2, h3, h4⟩
    · have := h.cap; omega
    · have hH := holds_of_blockI (ss := zs) h2 (by rw [hl]; exact h4)
      have hs := Tryd.slices_Sort_int g 0 c zs w hH (Array.getElem?_eq_some_iff.1 h2).1 (by omega)
      rw [hl] at hs
      refine hs.mono ?_
      rintro e w' ⟨rfl, m, os, rfl⟩
      refine ⟨rfl, ⟨by simp [i64s, srt, hl], h.cap, h.max, .inr ⟨g, _, rfl, h1, heap_sortedI _ h2, ?_, ?_⟩⟩, grownBy_sortedI _⟩
      · simpa [Sort.putCells] using h3
      · have e1 := srt_len zs
        have := take_putCellsI cur (srt zs) (by rw [e1, hl]; have := h.cap; omega)
        rw [e1, hl] at this
        exact this
theorem up_of (l : List Int) : ∀ p, List.Pairwise (fun x y => decide (x ≤ y) = true) l → (∀ x ∈ l, p ≤ x ∧ x ≤ 1048576) → upP p l := by
  induction l with
  | nil => intro p _ _; exact trivial
  | cons b l ih =>
    intro p hp hm
    obtain ⟨h1, h2⟩ := List.pairwise_cons.1 hp
    obtain ⟨m1, m2⟩ := hm b List.mem_cons_self
    refine ⟨m1, m2, ih b h2 fun x hx => ⟨by simpa using h1 x hx, (hm x (List.mem_cons_of_mem _ hx)).2⟩⟩
theorem up_srt (l : List Int) (h : ∀ x ∈ l, 0 ≤ x ∧ x ≤ 1048576) : upP 0 (srt l) := by
  refine up_of _ 0 ?_ fun x hx => h x (List.mem_mergeSort.1 hx)
  exact List.pairwise_mergeSort (fun a b c h1 h2 => by simp at h1 h2 ⊢; omega) (fun a b => by simp; omega) l
abbrev Amt := Int × List Int
def wsum : List Amt → Int
  | [] => 0
  | x :: l => x.1 + wsum l
def bitsA : List Amt → List Int
  | [] => []
  | x :: l => x.2 ++ bitsA l
def valS (N : Nat) : List Amt → Int
  | [] => 0
  | x :: l => val N x.1 x.2 + valS N l
theorem valS_eq (N : Nat) : ∀ l : List Amt, valS N l = wsum l * pw N 0 + vl N (bitsA l)
  | [] => by simp [valS, wsum, bitsA, vl]
  | x :: l => by
    simp only [valS, wsum, bitsA, val]
    rw [valS_eq N l, vl_append, Int.add_mul]
    omega
theorem wsum_snoc : ∀ (l : List Amt) (x : Amt), wsum (l ++ [x]) = wsum l + x.1
  | [], x => by simp [wsum]
  | y :: l, x => by simp only [List.cons_append, wsum]; rw [wsum_snoc l x]; omega
theorem bitsA_snoc : ∀ (l : List Amt) (x : Amt), bitsA (l ++ [x]) = bitsA l ++ x.2
  | [], x => by simp [bitsA]
  | y :: l, x => by simp only [List.cons_append, bitsA]; rw [bitsA_snoc l x, List.append_assoc]
theorem rise_len : ∀ (B : List Int) (p : Int), p ≤ 1048576 → riseB p B = true → (B.length : Int) + p ≤ 1048576
  | [], p, h, _ => by simpa using h
  | b :: l, p, _, h => by
    obtain ⟨⟨h1, h2⟩, h3⟩ := rise_cons.1 h
    have := rise_len l b h2 h3
    simp only [List.length_cons]
    omega
theorem rise_mem : ∀ (B : List Int) (p : Int), 0 ≤ p → riseB p B = true → ∀ x ∈ B, 0 ≤ x ∧ x ≤ 1048576
  | [], _, _, _, x, hx => by cases hx
  | b :: l, p, h0, h, x, hx => by
    obtain ⟨⟨h1, h2⟩, h3⟩ := rise_cons.1 h
    rcases List.mem_cons.1 hx with rfl | hx
    · omega
    · exact rise_mem l b (by omega) h3 x hx
def allR (l : List Amt) : Prop := ∀ x ∈ l, rightB x.1 x.2 = true
theorem bits_mem : ∀ (l : List Amt), allR l → ∀ x ∈ bitsA l, 0 ≤ x ∧ x ≤ 1048576
  | [], _, x, hx => by cases hx
  | y :: l, h, x, hx => by
    rcases List.mem_append.1 hx with hx | hx
    · exact rise_mem y.2 0 (by omega) (right_iff.1 (h y List.mem_cons_self)).2 x hx
    · exact bits_mem l (fun z hz => h z (List.mem_cons_of_mem _ hz)) x hx
/-- What a sum is. -/
def SumIs (l : List Amt) (code W : Int) (B : List Int) : Prop :=
  (code = 0 ∧ rightB W B = true ∧ ∀ N : Nat, 1048576 ≤ N → val N W B = valS N l) ∨ (code = 3 ∧ W = 0 ∧ B = [] ∧ ∀ N : Nat, 1048576 ≤ N → 2147483648 * pw N 0 ≤ valS N l)
theorem sum_is (l : List Amt) (u : Int) (R : List Int) (hw : 0 ≤ wsum l) (hu : 0 ≤ u) (hr : riseB 0 R.reverse = true) (hv : ∀ N : Nat, 1048576 ≤ N → vl N R + u * pw N 0 = vl N (srt (bitsA l))) :
    (rightB (wsum l + u) R.reverse = true → SumIs l 0 (wsum l + u) R.reverse) ∧ (rightB (wsum l + u) R.reverse = false → SumIs l 3 0 []) := by
  have key : ∀ N : Nat, 1048576 ≤ N → val N (wsum l + u) R.reverse = valS N l := fun N hN => by
    rw [valS_eq]
    unfold val
    have e1 := hv N hN
    have e2 := vl_perm N (List.mergeSort_perm (bitsA l) (fun x y => decide (x ≤ y)))
    rw [vl_reverse, Int.add_mul]
    have e3 : vl N (srt (bitsA l)) = vl N (bitsA l) := e2
    omega
  refine ⟨fun h => .inl ⟨rfl, h, key⟩, fun h => .inr ⟨rfl, rfl, rfl, fun N hN => ?_⟩⟩
  have hb : ¬ wsum l + u ≤ 2147483647 := fun hle => by
    have : rightB (wsum l + u) R.reverse = true := right_iff.2 ⟨⟨by omega, hle⟩, hr⟩
    rw [this] at h; cases h
  rw [← key N hN]
  unfold val
  obtain ⟨i1, _⟩ := vl_lt N hN R.reverse 0 (by omega) (by omega) hr
  have := pw_pos N 0
  have h4 : 2147483648 * pw N 0 ≤ (wsum l + u) * pw N 0 := Int.mul_le_mul_of_nonneg_right (by omega) (by omega)
  omega
end Go.Proofs.YtopapmnoepnpcaaDoor
