/- Contracts of result and operators. Contract of Reckon. -/
import Derived.Test.YtaehhophaaipdaaGreatDoorAR3g
import Derived.Laws.EntriesVeiled
namespace Go.Proofs.YtaehhophaaipdaaGreatDoor
open Go.RowKit
def finB (n : Int) (ok : Bool) : Bool := ok && !greatB n
def finN (n : Int) (ok : Bool) : Int := if (ok && !greatB n) = true then n else 0
set_option maxRecDepth 100000 in
set_option maxHeartbeats 1000000 in
theorem h37_72 (t : ByteArray) (ar : Int) (bx : Nat) (a : Option Addr) (k cap : Nat) (n : Int) (ok : Bool) (w : World) (hc : ∀ W, Below w.heap.size w W → Calls Tryz.prog 139 #[.slice a k cap, .pointer (some ⟨bx, 0, none⟩)] W fun e w' => e = .returned (.tuple #[.int .i64 n, .bool ok]) ∧ Below W.heap.size W w') :
  Calls Tryz.prog 74 #[.agg #[.string t, .int .i64 ar, .func (Fn.func 139) #[] #[.pointer (some ⟨bx, 0, none⟩)]], .slice a k cap] w fun e w' => e = .returned (.tuple #[.int .i64 (finN n ok), .bool (finB n ok)]) ∧ Below w.heap.size w w' := by
 have HB0 : Hid (Below w.heap.size w (w.alloc (.cells #[.string t, .int .i64 ar, .func (Fn.func 139) #[] #[.pointer (some ⟨bx, 0, none⟩)]] 113))) := (Below.refl _ w).alloc (Nat.le_refl _) _
 have HC := hc _ HB0.out
 have H35 : Hid (∀ W, Calls Tryz.prog 73 #[.int .i64 n] W fun e w' => e = .returned (.bool (greatB n)) ∧ w' = W) := fun W => h35 n W
 have c2 : (w.alloc (.cells #[.string t, .int .i64 ar, .func (Fn.func 139) #[] #[.pointer (some ⟨bx, 0, none⟩)]] 113)).cell? ⟨w.heap.size, 2, none⟩ = some (.func (Fn.func 139) #[] #[.pointer (some ⟨bx, 0, none⟩)]) := by
  rw [cell_of_row _ _ 2 _ 113 (0, 0) (heap_alloc_new w _)]; rfl
 clear hc
 have HFn : finN n ok = if (ok && !greatB n) = true then n else 0 := rfl
 have HFb : finB n ok = (ok && !greatB n) := rfl
 cases ok
 ·have e1 : finN n false = 0 := by rw [HFn]; rfl
  have e2 : finB n false = false := by rw [HFb]; rfl
  rw [e1, e2]
  clear HFn HFb e1 e2
  go_enter Tryz.func74, Tryz.ntmps74
  go_wp2_with fail
  refine HC.mono ?_
  rintro e w1 ⟨rfl, hb1⟩
  have HB1 : Hid (Below w.heap.size w w1) := HB0.out.trans (hb1.mono HB0.out.size)
  go_wp2_with fail
  exact bodyPost_ret (v := .tuple #[.int .i64 0, .bool false]) (by simp [results, Tryz.results74, go_sem]) rfl ⟨rfl, HB1.out⟩
 ·cases hg : greatB n
  ·have e1 : finN n true = n := by rw [HFn, hg]; rfl
   have e2 : finB n true = true := by rw [HFb, hg]; rfl
   rw [e1, e2]
   simp only [hg] at H35
   clear HFn HFb e1 e2 hg
   go_enter Tryz.func74, Tryz.ntmps74
   go_wp2_with fail
   refine HC.mono ?_
   rintro e w1 ⟨rfl, hb1⟩
   have HB1 : Hid (Below w.heap.size w w1) := HB0.out.trans (hb1.mono HB0.out.size)
   go_wp2_with fail
   refine (H35.out _).mono ?_
   rintro e w2 ⟨rfl, hw⟩
   obtain rfl := hw
   go_wp2_with fail
   exact bodyPost_ret (v := .tuple #[.int .i64 n, .bool true]) (by simp [results, Tryz.results74, go_sem]) rfl ⟨rfl, HB1.out⟩
  ·have e1 : finN n true = 0 := by rw [HFn, hg]; rfl
   have e2 : finB n true = false := by rw [HFb, hg]; rfl
   rw [e1, e2]
   simp only [hg] at H35
   clear HFn HFb e1 e2 hg
   go_enter Tryz.func74, Tryz.ntmps74
   go_wp2_with fail
   refine HC.mono ?_
   rintro e w1 ⟨rfl, hb1⟩
   have HB1 : Hid (Below w.heap.size w w1) := HB0.out.trans (hb1.mono HB0.out.size)
   go_wp2_with fail
   refine (H35.out _).mono ?_
   rintro e w2 ⟨rfl, hw⟩
   obtain rfl := hw
   go_wp2_with fail
   exact bodyPost_ret (v := .tuple #[.int .i64 0, .bool false]) (by simp [results, Tryz.results74, go_sem]) rfl ⟨rfl, HB1.out⟩
set_option maxRecDepth 100000 in
set_option maxHeartbeats 1000000 in
theorem h37_73 (t : ByteArray) (ar : Int) (bx : Nat) (a : Option Addr) (k cap : Nat) (n : Int) (ok : Bool) (w : World) (hc : ∀ W, Below w.heap.size w W → Calls Tryz.prog 140 #[.slice a k cap, .pointer (some ⟨bx, 0, none⟩)] W fun e w' => e = .returned (.tuple #[.int .i64 n, .bool ok]) ∧ Below W.heap.size W w') :
  Calls Tryz.prog 74 #[.agg #[.string t, .int .i64 ar, .func (Fn.func 140) #[] #[.pointer (some ⟨bx, 0, none⟩)]], .slice a k cap] w fun e w' => e = .returned (.tuple #[.int .i64 (finN n ok), .bool (finB n ok)]) ∧ Below w.heap.size w w' := by
 have HB0 : Hid (Below w.heap.size w (w.alloc (.cells #[.string t, .int .i64 ar, .func (Fn.func 140) #[] #[.pointer (some ⟨bx, 0, none⟩)]] 113))) := (Below.refl _ w).alloc (Nat.le_refl _) _
 have HC := hc _ HB0.out
 have H35 : Hid (∀ W, Calls Tryz.prog 73 #[.int .i64 n] W fun e w' => e = .returned (.bool (greatB n)) ∧ w' = W) := fun W => h35 n W
 have c2 : (w.alloc (.cells #[.string t, .int .i64 ar, .func (Fn.func 140) #[] #[.pointer (some ⟨bx, 0, none⟩)]] 113)).cell? ⟨w.heap.size, 2, none⟩ = some (.func (Fn.func 140) #[] #[.pointer (some ⟨bx, 0, none⟩)]) := by
  rw [cell_of_row _ _ 2 _ 113 (0, 0) (heap_alloc_new w _)]; rfl
 clear hc
 have HFn : finN n ok = if (ok && !greatB n) = true then n else 0 := rfl
 have HFb : finB n ok = (ok && !greatB n) := rfl
 cases ok
 ·have e1 : finN n false = 0 := by rw [HFn]; rfl
  have e2 : finB n false = false := by rw [HFb]; rfl
  rw [e1, e2]
  clear HFn HFb e1 e2
  go_enter Tryz.func74, Tryz.ntmps74
  go_wp2_with fail
  refine HC.mono ?_
  rintro e w1 ⟨rfl, hb1⟩
  have HB1 : Hid (Below w.heap.size w w1) := HB0.out.trans (hb1.mono HB0.out.size)
  go_wp2_with fail
  exact bodyPost_ret (v := .tuple #[.int .i64 0, .bool false]) (by simp [results, Tryz.results74, go_sem]) rfl ⟨rfl, HB1.out⟩
 ·cases hg : greatB n
  ·have e1 : finN n true = n := by rw [HFn, hg]; rfl
   have e2 : finB n true = true := by rw [HFb, hg]; rfl
   rw [e1, e2]
   simp only [hg] at H35
   clear HFn HFb e1 e2 hg
   go_enter Tryz.func74, Tryz.ntmps74
   go_wp2_with fail
   refine HC.mono ?_
   rintro e w1 ⟨rfl, hb1⟩
   have HB1 : Hid (Below w.heap.size w w1) := HB0.out.trans (hb1.mono HB0.out.size)
   go_wp2_with fail
   refine (H35.out _).mono ?_
   rintro e w2 ⟨rfl, hw⟩
   obtain rfl := hw
   go_wp2_with fail
   exact bodyPost_ret (v := .tuple #[.int .i64 n, .bool true]) (by simp [results, Tryz.results74, go_sem]) rfl ⟨rfl, HB1.out⟩
  ·have e1 : finN n true = 0 := by rw [HFn, hg]; rfl
   have e2 : finB n true = false := by rw [HFb, hg]; rfl
   rw [e1, e2]
   simp only [hg] at H35
   clear HFn HFb e1 e2 hg
   go_enter Tryz.func74, Tryz.ntmps74
   go_wp2_with fail
   refine HC.mono ?_
   rintro e w1 ⟨rfl, hb1⟩
   have HB1 : Hid (Below w.heap.size w w1) := HB0.out.trans (hb1.mono HB0.out.size)
   go_wp2_with fail
   refine (H35.out _).mono ?_
   rintro e w2 ⟨rfl, hw⟩
   obtain rfl := hw
   go_wp2_with fail
   exact bodyPost_ret (v := .tuple #[.int .i64 0, .bool false]) (by simp [results, Tryz.results74, go_sem]) rfl ⟨rfl, HB1.out⟩
set_option maxRecDepth 100000 in
set_option maxHeartbeats 1000000 in
theorem h37_60 (t : ByteArray) (ar : Int) (a : Option Addr) (k cap : Nat) (n : Int) (ok : Bool) (w : World) (hc : ∀ W, Below w.heap.size w W → Calls Tryz.prog 101 #[.slice a k cap] W fun e w' => e = .returned (.tuple #[.int .i64 n, .bool ok]) ∧ Below W.heap.size W w') :
  Calls Tryz.prog 74 #[.agg #[.string t, .int .i64 ar, .func (Fn.func 101) #[] #[]], .slice a k cap] w fun e w' => e = .returned (.tuple #[.int .i64 (finN n ok), .bool (finB n ok)]) ∧ Below w.heap.size w w' := by
 have HB0 : Hid (Below w.heap.size w (w.alloc (.cells #[.string t, .int .i64 ar, .func (Fn.func 101) #[] #[]] 113))) := (Below.refl _ w).alloc (Nat.le_refl _) _
 have HC := hc _ HB0.out
 have H35 : Hid (∀ W, Calls Tryz.prog 73 #[.int .i64 n] W fun e w' => e = .returned (.bool (greatB n)) ∧ w' = W) := fun W => h35 n W
 have c2 : (w.alloc (.cells #[.string t, .int .i64 ar, .func (Fn.func 101) #[] #[]] 113)).cell? ⟨w.heap.size, 2, none⟩ = some (.func (Fn.func 101) #[] #[]) := by
  rw [cell_of_row _ _ 2 _ 113 (0, 0) (heap_alloc_new w _)]; rfl
 clear hc
 have HFn : finN n ok = if (ok && !greatB n) = true then n else 0 := rfl
 have HFb : finB n ok = (ok && !greatB n) := rfl
 cases ok
 ·have e1 : finN n false = 0 := by rw [HFn]; rfl
  have e2 : finB n false = false := by rw [HFb]; rfl
  rw [e1, e2]
  clear HFn HFb e1 e2
  go_enter Tryz.func74, Tryz.ntmps74
  go_wp2_with fail
  refine HC.mono ?_
  rintro e w1 ⟨rfl, hb1⟩
  have HB1 : Hid (Below w.heap.size w w1) := HB0.out.trans (hb1.mono HB0.out.size)
  go_wp2_with fail
  exact bodyPost_ret (v := .tuple #[.int .i64 0, .bool false]) (by simp [results, Tryz.results74, go_sem]) rfl ⟨rfl, HB1.out⟩
 ·cases hg : greatB n
  ·have e1 : finN n true = n := by rw [HFn, hg]; rfl
   have e2 : finB n true = true := by rw [HFb, hg]; rfl
   rw [e1, e2]
   simp only [hg] at H35
   clear HFn HFb e1 e2 hg
   go_enter Tryz.func74, Tryz.ntmps74
   go_wp2_with fail
   refine HC.mono ?_
   rintro e w1 ⟨rfl, hb1⟩
   have HB1 : Hid (Below w.heap.size w w1) := HB0.out.trans (hb1.mono HB0.out.size)
   go_wp2_with fail
   refine (H35.out _).mono ?_
   rintro e w2 ⟨rfl, hw⟩
   obtain rfl := hw
   go_wp2_with fail
   exact bodyPost_ret (v := .tuple #[.int .i64 n, .bool true]) (by simp [results, Tryz.results74, go_sem]) rfl ⟨rfl, HB1.out⟩
  ·have e1 : finN n true = 0 := by rw [HFn, hg]; rfl
   have e2 : finB n true = false := by rw [HFb, hg]; rfl
   rw [e1, e2]
   simp only [hg] at H35
   clear HFn HFb e1 e2 hg
   go_enter Tryz.func74, Tryz.ntmps74
   go_wp2_with fail
   refine HC.mono ?_
   rintro e w1 ⟨rfl, hb1⟩
   have HB1 : Hid (Below w.heap.size w w1) := HB0.out.trans (hb1.mono HB0.out.size)
   go_wp2_with fail
   refine (H35.out _).mono ?_
   rintro e w2 ⟨rfl, hw⟩
   obtain rfl := hw
   go_wp2_with fail
   exact bodyPost_ret (v := .tuple #[.int .i64 0, .bool false]) (by simp [results, Tryz.results74, go_sem]) rfl ⟨rfl, HB1.out⟩
/-- The row of operators, whose captured functions lie from B on. -/
def opsV (B : Nat) : Array Value := #[.string ⟨#[43]⟩, .int .i64 2, .func (Fn.func 139) #[] #[.pointer (some ⟨B + 0, 0, none⟩)], .string ⟨#[45]⟩, .int .i64 2, .func (Fn.func 139) #[] #[.pointer (some ⟨B + 1, 0, none⟩)], .string ⟨#[42]⟩, .int .i64 2, .func (Fn.func 139) #[] #[.pointer (some ⟨B + 2, 0, none⟩)], .string ⟨#[100, 105, 118]⟩, .int .i64 2, .func (Fn.func 140) #[] #[.pointer (some ⟨B + 3, 0, none⟩)], .string ⟨#[109, 111, 100]⟩, .int .i64 2, .func (Fn.func 140) #[] #[.pointer (some ⟨B + 4, 0, none⟩)], .string ⟨#[109, 105, 110]⟩, .int .i64 2, .func (Fn.func 139) #[] #[.pointer (some ⟨B + 5, 0, none⟩)], .string ⟨#[109, 97, 120]⟩, .int .i64 2, .func (Fn.func 139) #[] #[.pointer (some ⟨B + 6, 0, none⟩)], .string ⟨#[97, 98, 115]⟩, .int .i64 1, .func (Fn.func 101) #[] #[]]
def opFn : Nat → Nat
 | 0 => 93
 | 1 => 94
 | 2 => 95
 | 3 => 97
 | 4 => 98
 | 5 => 99
 | _ => 100
structure OpsAt (w : World) (B g : Nat) : Prop where
 row : w.heap[g]? = some (.cells (opsV B) 113 (0, 0))
 box : ∀ k, k < 7 → w.heap[B + k]? = some (.cells #[.func (Fn.func (opFn k)) #[] #[]] 139 (0, 0))
theorem OpsAt.below {w w' : World} {B g : Nat} (h : OpsAt w B g) (hb : Below w.heap.size w w') : OpsAt w' B g :=
 ⟨(hb.block g (Array.getElem?_eq_some_iff.1 h.row).1).trans h.row, fun k hk => (hb.block _ (Array.getElem?_eq_some_iff.1 (h.box k hk)).1).trans (h.box k hk)⟩
theorem opsAt_made (w : World) : OpsAt ((((((((w.alloc (.cells #[.func (Fn.func 93) #[] #[]] 139)).alloc (.cells #[.func (Fn.func 94) #[] #[]] 139)).alloc (.cells #[.func (Fn.func 95) #[] #[]] 139)).alloc (.cells #[.func (Fn.func 97) #[] #[]] 139)).alloc (.cells #[.func (Fn.func 98) #[] #[]] 139)).alloc (.cells #[.func (Fn.func 99) #[] #[]] 139)).alloc (.cells #[.func (Fn.func 100) #[] #[]] 139)).alloc (.cells (opsV w.heap.size) 113)) w.heap.size (w.heap.size + 7) ∧ Below w.heap.size w ((((((((w.alloc (.cells #[.func (Fn.func 93) #[] #[]] 139)).alloc (.cells #[.func (Fn.func 94) #[] #[]] 139)).alloc (.cells #[.func (Fn.func 95) #[] #[]] 139)).alloc (.cells #[.func (Fn.func 97) #[] #[]] 139)).alloc (.cells #[.func (Fn.func 98) #[] #[]] 139)).alloc (.cells #[.func (Fn.func 99) #[] #[]] 139)).alloc (.cells #[.func (Fn.func 100) #[] #[]] 139)).alloc (.cells (opsV w.heap.size) 113)) := by
 obtain ⟨w1, h1⟩ : ∃ W, W = w.alloc (.cells #[.func (Fn.func 93) #[] #[]] 139) := ⟨_, rfl⟩
 rw [← h1]
 have s1 : w1.heap.size = w.heap.size + 1 := by rw [h1]; simp
 have b0 : w1.heap[w.heap.size + 0]? = some (.cells #[.func (Fn.func 93) #[] #[]] 139 (0, 0)) := by rw [h1]; exact heap_alloc_new w _
 have hB1 : Below w.heap.size w w1 := by rw [h1]; exact (Below.refl _ w).alloc (Nat.le_refl _) _
 clear h1
 obtain ⟨w2, h2⟩ : ∃ W, W = w1.alloc (.cells #[.func (Fn.func 94) #[] #[]] 139) := ⟨_, rfl⟩
 rw [← h2]
 have s2 : w2.heap.size = w.heap.size + 2 := by rw [h2]; simp [s1]
 have b1 : w2.heap[w.heap.size + 1]? = some (.cells #[.func (Fn.func 94) #[] #[]] 139 (0, 0)) := by rw [h2]; rw [← s1]; exact heap_alloc_new w1 _
 have hB2 : Below w.heap.size w w2 := by rw [h2]; exact hB1.alloc (by omega) _
 have b0 : w2.heap[w.heap.size + 0]? = some (.cells #[.func (Fn.func 93) #[] #[]] 139 (0, 0)) := by rw [h2, Below.heap_alloc w1 _ _ (by omega)]; exact b0
 clear h2
 obtain ⟨w3, h3⟩ : ∃ W, W = w2.alloc (.cells #[.func (Fn.func 95) #[] #[]] 139) := ⟨_, rfl⟩
 rw [← h3]
 have s3 : w3.heap.size = w.heap.size + 3 := by rw [h3]; simp [s2]
 have b2 : w3.heap[w.heap.size + 2]? = some (.cells #[.func (Fn.func 95) #[] #[]] 139 (0, 0)) := by rw [h3]; rw [← s2]; exact heap_alloc_new w2 _
 have hB3 : Below w.heap.size w w3 := by rw [h3]; exact hB2.alloc (by omega) _
 have b0 : w3.heap[w.heap.size + 0]? = some (.cells #[.func (Fn.func 93) #[] #[]] 139 (0, 0)) := by rw [h3, Below.heap_alloc w2 _ _ (by omega)]; exact b0
 have b1 : w3.heap[w.heap.size + 1]? = some (.cells #[.func (Fn.func 94) #[] #[]] 139 (0, 0)) := by rw [h3, Below.heap_alloc w2 _ _ (by omega)]; exact b1
 clear h3
 obtain ⟨w4, h4⟩ : ∃ W, W = w3.alloc (.cells #[.func (Fn.func 97) #[] #[]] 139) := ⟨_, rfl⟩
 rw [← h4]
 have s4 : w4.heap.size = w.heap.size + 4 := by rw [h4]; simp [s3]
 have b3 : w4.heap[w.heap.size + 3]? = some (.cells #[.func (Fn.func 97) #[] #[]] 139 (0, 0)) := by rw [h4]; rw [← s3]; exact heap_alloc_new w3 _
 have hB4 : Below w.heap.size w w4 := by rw [h4]; exact hB3.alloc (by omega) _
 have b0 : w4.heap[w.heap.size + 0]? = some (.cells #[.func (Fn.func 93) #[] #[]] 139 (0, 0)) := by rw [h4, Below.heap_alloc w3 _ _ (by omega)]; exact b0
 have b1 : w4.heap[w.heap.size + 1]? = some (.cells #[.func (Fn.func 94) #[] #[]] 139 (0, 0)) := by rw [h4, Below.heap_alloc w3 _ _ (by omega)]; exact b1
 have b2 : w4.heap[w.heap.size + 2]? = some (.cells #[.func (Fn.func 95) #[] #[]] 139 (0, 0)) := by rw [h4, Below.heap_alloc w3 _ _ (by omega)]; exact b2
 clear h4
 obtain ⟨w5, h5⟩ : ∃ W, W = w4.alloc (.cells #[.func (Fn.func 98) #[] #[]] 139) := ⟨_, rfl⟩
 rw [← h5]
 have s5 : w5.heap.size = w.heap.size + 5 := by rw [h5]; simp [s4]
 have b4 : w5.heap[w.heap.size + 4]? = some (.cells #[.func (Fn.func 98) #[] #[]] 139 (0, 0)) := by rw [h5]; rw [← s4]; exact heap_alloc_new w4 _
 have hB5 : Below w.heap.size w w5 := by rw [h5]; exact hB4.alloc (by omega) _
 have b0 : w5.heap[w.heap.size + 0]? = some (.cells #[.func (Fn.func 93) #[] #[]] 139 (0, 0)) := by rw [h5, Below.heap_alloc w4 _ _ (by omega)]; exact b0
 have b1 : w5.heap[w.heap.size + 1]? = some (.cells #[.func (Fn.func 94) #[] #[]] 139 (0, 0)) := by rw [h5, Below.heap_alloc w4 _ _ (by omega)]; exact b1
 have b2 : w5.heap[w.heap.size + 2]? = some (.cells #[.func (Fn.func 95) #[] #[]] 139 (0, 0)) := by rw [h5, Below.heap_alloc w4 _ _ (by omega)]; exact b2
 have b3 : w5.heap[w.heap.size + 3]? = some (.cells #[.func (Fn.func 97) #[] #[]] 139 (0, 0)) := by rw [h5, Below.heap_alloc w4 _ _ (by omega)]; exact b3
 clear h5
 obtain ⟨w6, h6⟩ : ∃ W, W = w5.alloc (.cells #[.func (Fn.func 99) #[] #[]] 139) := ⟨_, rfl⟩
 rw [← h6]
 have s6 : w6.heap.size = w.heap.size + 6 := by rw [h6]; simp [s5]
 have b5 : w6.heap[w.heap.size + 5]? = some (.cells #[.func (Fn.func 99) #[] #[]] 139 (0, 0)) := by rw [h6]; rw [← s5]; exact heap_alloc_new w5 _
 have hB6 : Below w.heap.size w w6 := by rw [h6]; exact hB5.alloc (by omega) _
 have b0 : w6.heap[w.heap.size + 0]? = some (.cells #[.func (Fn.func 93) #[] #[]] 139 (0, 0)) := by rw [h6, Below.heap_alloc w5 _ _ (by omega)]; exact b0
 have b1 : w6.heap[w.heap.size + 1]? = some (.cells #[.func (Fn.func 94) #[] #[]] 139 (0, 0)) := by rw [h6, Below.heap_alloc w5 _ _ (by omega)]; exact b1
 have b2 : w6.heap[w.heap.size + 2]? = some (.cells #[.func (Fn.func 95) #[] #[]] 139 (0, 0)) := by rw [h6, Below.heap_alloc w5 _ _ (by omega)]; exact b2
 have b3 : w6.heap[w.heap.size + 3]? = some (.cells #[.func (Fn.func 97) #[] #[]] 139 (0, 0)) := by rw [h6, Below.heap_alloc w5 _ _ (by omega)]; exact b3
 have b4 : w6.heap[w.heap.size + 4]? = some (.cells #[.func (Fn.func 98) #[] #[]] 139 (0, 0)) := by rw [h6, Below.heap_alloc w5 _ _ (by omega)]; exact b4
 clear h6
 obtain ⟨w7, h7⟩ : ∃ W, W = w6.alloc (.cells #[.func (Fn.func 100) #[] #[]] 139) := ⟨_, rfl⟩
 rw [← h7]
 have s7 : w7.heap.size = w.heap.size + 7 := by rw [h7]; simp [s6]
 have b6 : w7.heap[w.heap.size + 6]? = some (.cells #[.func (Fn.func 100) #[] #[]] 139 (0, 0)) := by rw [h7]; rw [← s6]; exact heap_alloc_new w6 _
 have hB7 : Below w.heap.size w w7 := by rw [h7]; exact hB6.alloc (by omega) _
 have b0 : w7.heap[w.heap.size + 0]? = some (.cells #[.func (Fn.func 93) #[] #[]] 139 (0, 0)) := by rw [h7, Below.heap_alloc w6 _ _ (by omega)]; exact b0
 have b1 : w7.heap[w.heap.size + 1]? = some (.cells #[.func (Fn.func 94) #[] #[]] 139 (0, 0)) := by rw [h7, Below.heap_alloc w6 _ _ (by omega)]; exact b1
 have b2 : w7.heap[w.heap.size + 2]? = some (.cells #[.func (Fn.func 95) #[] #[]] 139 (0, 0)) := by rw [h7, Below.heap_alloc w6 _ _ (by omega)]; exact b2
 have b3 : w7.heap[w.heap.size + 3]? = some (.cells #[.func (Fn.func 97) #[] #[]] 139 (0, 0)) := by rw [h7, Below.heap_alloc w6 _ _ (by omega)]; exact b3
 have b4 : w7.heap[w.heap.size + 4]? = some (.cells #[.func (Fn.func 98) #[] #[]] 139 (0, 0)) := by rw [h7, Below.heap_alloc w6 _ _ (by omega)]; exact b4
 have b5 : w7.heap[w.heap.size + 5]? = some (.cells #[.func (Fn.func 99) #[] #[]] 139 (0, 0)) := by rw [h7, Below.heap_alloc w6 _ _ (by omega)]; exact b5
 clear h7
 refine ⟨⟨?_, fun k hk => ?_⟩, hB7.alloc (by omega) _⟩
 ·rw [← s7]; exact heap_alloc_new w7 _
 ·rw [Below.heap_alloc w7 _ _ (by omega)]
  match k, hk with
  | 0, _ => exact b0
  | 1, _ => exact b1
  | 2, _ => exact b2
  | 3, _ => exact b3
  | 4, _ => exact b4
  | 5, _ => exact b5
  | 6, _ => exact b6
set_option maxRecDepth 100000 in
set_option maxHeartbeats 4000000 in
theorem h36 (w : World) : Calls Tryz.prog 65 #[] w fun e w' => e = .returned (.slice (some ⟨w.heap.size + 7, 0, none⟩) 8 8) ∧ OpsAt w' w.heap.size (w.heap.size + 7) ∧ Below w.heap.size w w' := by
 have HM := opsAt_made w
 unfold opsV at HM
 have HM : Hid (_ ∧ _) := HM
 go_enter Tryz.func65, Tryz.ntmps65
 go_wp2_with fail
 refine (h51 93 _).mono ?_
 rintro e w' ⟨rfl, rfl⟩
 go_wp2_with fail
 refine (h51 94 _).mono ?_
 rintro e w' ⟨rfl, rfl⟩
 go_wp2_with fail
 refine (h51 95 _).mono ?_
 rintro e w' ⟨rfl, rfl⟩
 go_wp2_with fail
 refine (h55 97 _).mono ?_
 rintro e w' ⟨rfl, rfl⟩
 go_wp2_with fail
 refine (h55 98 _).mono ?_
 rintro e w' ⟨rfl, rfl⟩
 go_wp2_with fail
 refine (h51 99 _).mono ?_
 rintro e w' ⟨rfl, rfl⟩
 go_wp2_with fail
 refine (h51 100 _).mono ?_
 rintro e w' ⟨rfl, rfl⟩
 go_wp2_with fail
 go_ret
 exact ⟨rfl, HM.out⟩
end Go.Proofs.YtaehhophaaipdaaGreatDoor

namespace Go.Proofs.YtaehhophaaipdaaGreatDoor
open Go.RowKit
def opT : Nat → ByteArray
 | 0 => ⟨#[43]⟩
 | 1 => ⟨#[45]⟩
 | 2 => ⟨#[42]⟩
 | 3 => ⟨#[100, 105, 118]⟩
 | 4 => ⟨#[109, 111, 100]⟩
 | 5 => ⟨#[109, 105, 110]⟩
 | 6 => ⟨#[109, 97, 120]⟩
 | _ => ⟨#[97, 98, 115]⟩
def opA : Nat → Int
 | 7 => 1
 | _ => 2
def cloV (B : Nat) : Nat → Value
 | 0 => .func (Fn.func 139) #[] #[.pointer (some ⟨B + 0, 0, none⟩)]
 | 1 => .func (Fn.func 139) #[] #[.pointer (some ⟨B + 1, 0, none⟩)]
 | 2 => .func (Fn.func 139) #[] #[.pointer (some ⟨B + 2, 0, none⟩)]
 | 3 => .func (Fn.func 140) #[] #[.pointer (some ⟨B + 3, 0, none⟩)]
 | 4 => .func (Fn.func 140) #[] #[.pointer (some ⟨B + 4, 0, none⟩)]
 | 5 => .func (Fn.func 139) #[] #[.pointer (some ⟨B + 5, 0, none⟩)]
 | 6 => .func (Fn.func 139) #[] #[.pointer (some ⟨B + 6, 0, none⟩)]
 | _ => .func (Fn.func 101) #[] #[]
theorem OpsAt.at {w : World} {B g : Nat} (h : OpsAt w B g) (k : Nat) (hk : k < 8) : w.cell? ⟨g, k * 3, none⟩ = some (.string (opT k)) ∧ w.cell? ⟨g, k * 3 + 1, none⟩ = some (.int .i64 (opA k)) ∧ w.cell? ⟨g, k * 3 + 2, none⟩ = some (cloV B k) := by
 match k, hk with
 | 0, _ => exact ⟨by rw [cell_of_row w g _ _ 113 (0, 0) h.row]; rfl, by rw [cell_of_row w g _ _ 113 (0, 0) h.row]; rfl, by rw [cell_of_row w g _ _ 113 (0, 0) h.row]; rfl⟩
 | 1, _ => exact ⟨by rw [cell_of_row w g _ _ 113 (0, 0) h.row]; rfl, by rw [cell_of_row w g _ _ 113 (0, 0) h.row]; rfl, by rw [cell_of_row w g _ _ 113 (0, 0) h.row]; rfl⟩
 | 2, _ => exact ⟨by rw [cell_of_row w g _ _ 113 (0, 0) h.row]; rfl, by rw [cell_of_row w g _ _ 113 (0, 0) h.row]; rfl, by rw [cell_of_row w g _ _ 113 (0, 0) h.row]; rfl⟩
 | 3, _ => exact ⟨by rw [cell_of_row w g _ _ 113 (0, 0) h.row]; rfl, by rw [cell_of_row w g _ _ 113 (0, 0) h.row]; rfl, by rw [cell_of_row w g _ _ 113 (0, 0) h.row]; rfl⟩
 | 4, _ => exact ⟨by rw [cell_of_row w g _ _ 113 (0, 0) h.row]; rfl, by rw [cell_of_row w g _ _ 113 (0, 0) h.row]; rfl, by rw [cell_of_row w g _ _ 113 (0, 0) h.row]; rfl⟩
 | 5, _ => exact ⟨by rw [cell_of_row w g _ _ 113 (0, 0) h.row]; rfl, by rw [cell_of_row w g _ _ 113 (0, 0) h.row]; rfl, by rw [cell_of_row w g _ _ 113 (0, 0) h.row]; rfl⟩
 | 6, _ => exact ⟨by rw [cell_of_row w g _ _ 113 (0, 0) h.row]; rfl, by rw [cell_of_row w g _ _ 113 (0, 0) h.row]; rfl, by rw [cell_of_row w g _ _ 113 (0, 0) h.row]; rfl⟩
 | 7, _ => exact ⟨by rw [cell_of_row w g _ _ 113 (0, 0) h.row]; rfl, by rw [cell_of_row w g _ _ 113 (0, 0) h.row]; rfl, by rw [cell_of_row w g _ _ 113 (0, 0) h.row]; rfl⟩
/-- What an operator makes of numbers, ahead of the last look. -/
def rawR : Nat → List Int → Int × Bool
 | 0, [x, y] => (x + y, true)
 | 1, [x, y] => (x - y, true)
 | 2, [x, y] => (x * y, true)
 | 3, [x, y] => if y = 0 then (0, false) else (divF x y, true)
 | 4, [x, y] => if y = 0 then (0, false) else (modF x y, true)
 | 5, [x, y] => (if y < x then y else x, true)
 | 6, [x, y] => (if x < y then y else x, true)
 | 7, [x] => (absF x, true)
 | _, _ => (0, false)
def resR (k : Nat) (ns : List Int) : Int × Bool := (finN (rawR k ns).1 (rawR k ns).2, finB (rawR k ns).1 (rawR k ns).2)
theorem two_of {ns : List Int} (h : (ns.length : Int) = 2) : ∃ x y, ns = [x, y] := by
 match ns, h with
 | [x, y], _ => exact ⟨x, y, rfl⟩
 | [], h => simp at h
 | [_], h => simp at h
 | _ :: _ :: _ :: _, h => simp at h; omega
theorem one_of {ns : List Int} (h : (ns.length : Int) = 1) : ∃ x, ns = [x] := by
 match ns, h with
 | [x], _ => exact ⟨x, rfl⟩
 | [], h => simp at h
 | _ :: _ :: _, h => simp at h; omega
theorem box_cell {w W : World} {B g k : Nat} (h : OpsAt w B g) (hW : Below w.heap.size w W) (hk : k < 7) : W.cell? ⟨B + k, 0, none⟩ = some (.func (Fn.func (opFn k)) #[] #[]) := by
 rw [cell_of_row W _ 0 _ 139 (0, 0) ((h.below hW).box k hk)]; rfl
theorem pair_cells {w : World} {v : Value} {x y : Int} (h : IntsR w v [x, y]) : ∃ b o cap, v = .slice (some ⟨b, o, none⟩) 2 cap ∧ ∀ W, Below w.heap.size w W → W.cell? ⟨b, o, none⟩ = some (.int .i64 x) ∧ W.cell? ⟨b, o + 1, none⟩ = some (.int .i64 y) := by
 rcases h.2 with ⟨e, _⟩ | ⟨b, o, cap, h1, h2, h3⟩
 ·cases e
 ·refine ⟨b, o, cap, h1, fun W hW => ⟨(hW.cell (p := ⟨b, o, none⟩) h2).trans (h3 0 _ rfl), (hW.cell (p := ⟨b, o + 1, none⟩) h2).trans (h3 1 _ rfl)⟩⟩
set_option maxRecDepth 100000 in
theorem h37 (k : Nat) (hk : k < 8) (ns : List Int) (B g : Nat) (v : Value) (w : World) (hO : OpsAt w B g) (hI : IntsR w v ns) (hl : (ns.length : Int) = opA k) (hok : ∀ x ∈ ns, okI x) :
  Calls Tryz.prog 74 #[.agg #[.string (opT k), .int .i64 (opA k), cloV B k], v] w fun e w' => e = .returned (.tuple #[.int .i64 (resR k ns).1, .bool (resR k ns).2]) ∧ Below w.heap.size w w' := by
 match k, hk with
 | 0, _ =>
  obtain ⟨x, y, rfl⟩ := two_of hl
  obtain ⟨b, o, cap, rfl, hc⟩ := pair_cells hI
  have hx := hok x (by simp)
  have hy := hok y (by simp)
  exact h37_72 _ 2 (B + 0) _ 2 cap (x + y) true w (fun W hW => h72_52 (B + 0) b o cap x y _ W ⟨box_cell hO hW (by omega), (hc W hW).1, (hc W hW).2⟩ (fun W' => h52 x y W' hx hy))
 | 1, _ =>
  obtain ⟨x, y, rfl⟩ := two_of hl
  obtain ⟨b, o, cap, rfl, hc⟩ := pair_cells hI
  have hx := hok x (by simp)
  have hy := hok y (by simp)
  exact h37_72 _ 2 (B + 1) _ 2 cap (x - y) true w (fun W hW => h72_53 (B + 1) b o cap x y _ W ⟨box_cell hO hW (by omega), (hc W hW).1, (hc W hW).2⟩ (fun W' => h53 x y W' hx hy))
 | 2, _ =>
  obtain ⟨x, y, rfl⟩ := two_of hl
  obtain ⟨b, o, cap, rfl, hc⟩ := pair_cells hI
  have hx := hok x (by simp)
  have hy := hok y (by simp)
  exact h37_72 _ 2 (B + 2) _ 2 cap (x * y) true w (fun W hW => h72_54 (B + 2) b o cap x y _ W ⟨box_cell hO hW (by omega), (hc W hW).1, (hc W hW).2⟩ (fun W' => h54 x y W' hx hy))
 | 3, _ =>
  obtain ⟨x, y, rfl⟩ := two_of hl
  obtain ⟨b, o, cap, rfl, hc⟩ := pair_cells hI
  have hx := hok x (by simp)
  have hy := hok y (by simp)
  by_cases h0 : y = 0
  ·have e : rawR 3 [x, y] = (0, false) := by show (if y = 0 then ((0 : Int), false) else _) = _; rw [if_pos h0]
   unfold resR
   rw [e]
   exact h37_73 _ 2 (B + 3) _ 2 cap 0 false w (fun W hW => h73n (B + 3) b o cap W (by rw [← h0]; exact (hc W hW).2))
  ·have e : rawR 3 [x, y] = (divF x y, true) := by show (if y = 0 then ((0 : Int), false) else _) = _; rw [if_neg h0]
   unfold resR
   rw [e]
   exact h37_73 _ 2 (B + 3) _ 2 cap (divF x y) true w (fun W hW => h73_56 (B + 3) b o cap x y _ W ⟨box_cell hO hW (by omega), (hc W hW).1, (hc W hW).2⟩ h0 (fun W' => h56 x y W' hx h0))
 | 4, _ =>
  obtain ⟨x, y, rfl⟩ := two_of hl
  obtain ⟨b, o, cap, rfl, hc⟩ := pair_cells hI
  have hx := hok x (by simp)
  have hy := hok y (by simp)
  by_cases h0 : y = 0
  ·have e : rawR 4 [x, y] = (0, false) := by show (if y = 0 then ((0 : Int), false) else _) = _; rw [if_pos h0]
   unfold resR
   rw [e]
   exact h37_73 _ 2 (B + 4) _ 2 cap 0 false w (fun W hW => h73n (B + 4) b o cap W (by rw [← h0]; exact (hc W hW).2))
  ·have e : rawR 4 [x, y] = (modF x y, true) := by show (if y = 0 then ((0 : Int), false) else _) = _; rw [if_neg h0]
   unfold resR
   rw [e]
   exact h37_73 _ 2 (B + 4) _ 2 cap (modF x y) true w (fun W hW => h73_57 (B + 4) b o cap x y _ W ⟨box_cell hO hW (by omega), (hc W hW).1, (hc W hW).2⟩ h0 (fun W' => h57 x y W' hx hy h0))
 | 5, _ =>
  obtain ⟨x, y, rfl⟩ := two_of hl
  obtain ⟨b, o, cap, rfl, hc⟩ := pair_cells hI
  have hx := hok x (by simp)
  have hy := hok y (by simp)
  exact h37_72 _ 2 (B + 5) _ 2 cap (if y < x then y else x) true w (fun W hW => h72_58 (B + 5) b o cap x y _ W ⟨box_cell hO hW (by omega), (hc W hW).1, (hc W hW).2⟩ (fun W' => h58 x y W' ))
 | 6, _ =>
  obtain ⟨x, y, rfl⟩ := two_of hl
  obtain ⟨b, o, cap, rfl, hc⟩ := pair_cells hI
  have hx := hok x (by simp)
  have hy := hok y (by simp)
  exact h37_72 _ 2 (B + 6) _ 2 cap (if x < y then y else x) true w (fun W hW => h72_59 (B + 6) b o cap x y _ W ⟨box_cell hO hW (by omega), (hc W hW).1, (hc W hW).2⟩ (fun W' => h59 x y W' ))
 | 7, _ =>
  obtain ⟨x, rfl⟩ := one_of hl
  have hx := hok x (by simp)
  rcases hI.2 with ⟨e, _⟩ | ⟨b, o, cap, rfl, h2, h3⟩
  ·cases e
  ·exact h37_60 _ 1 _ 1 cap (absF x) true w (fun W hW => h60 b o cap x W ((hW.cell (p := ⟨b, o, none⟩) h2).trans (h3 0 _ rfl)) hx)
def matchB (op : ByteArray) (n : Int) (k : Nat) : Bool := (opT k).toList == op.toList && opA k == n
def reckS (op : ByteArray) (ns : List Int) : Int × Bool :=
 if ns.any greatB then (0, false) else match (List.range 8).find? (matchB op ns.length) with | some k => resR k ns | none => (0, false)
theorem find_range {f : Nat → Bool} {n k : Nat} (hk : k < n) (h : f k = true) (hb : ∀ j, j < k → f j = false) : (List.range n).find? f = some k := by
 rw [List.find?_eq_some_iff_getElem]
 refine ⟨h, k, by simpa using hk, by simp, fun j hj => ?_⟩
 simp [hb j hj]
theorem find_none {f : Nat → Bool} {n : Nat} (hb : ∀ j, j < n → f j = false) : (List.range n).find? f = none := by
 rw [List.find?_eq_none]
 intro x hx
 simp [hb x (List.mem_range.1 hx)]
theorem cloV_one (B k : Nat) : ∃ f cs, cloV B k = .func (Fn.func f) #[] cs := by
 match k with
 | 0 => exact ⟨_, _, rfl⟩
 | 1 => exact ⟨_, _, rfl⟩
 | 2 => exact ⟨_, _, rfl⟩
 | 3 => exact ⟨_, _, rfl⟩
 | 4 => exact ⟨_, _, rfl⟩
 | 5 => exact ⟨_, _, rfl⟩
 | 6 => exact ⟨_, _, rfl⟩
 | _ + 7 => exact ⟨_, _, rfl⟩
end Go.Proofs.YtaehhophaaipdaaGreatDoor
