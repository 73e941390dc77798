/- Contracts of result and operators. -/
import Derived.Test.YtaehhophaaipdaaGreatDoorAR3p
namespace Go.Proofs.YtaehhophaaipdaaGreatDoor
open Go.RowKit
def finB (n : Int) (ok : Bool) : Bool := ok && !greatB n
def finN (n : Int) (ok : Bool) : Int := if (ok && !greatB n) = true then n else 0
set_option maxRecDepth 100000 in
set_option maxHeartbeats 1000000 in
theorem h37_72 (t : ByteArray) (ar : Int) (bx : Nat) (a : Option Addr) (k cap : Nat) (n : Int) (ok : Bool) (w : World) (hc : ∀ W, Below w.heap.size w W → Calls Tryz.prog 139 #[.slice a k cap, .pointer (some ⟨bx, 0, none⟩)] W fun e w' => e = .returned (.tuple #[.int .i64 n, .bool ok]) ∧ Below W.heap.size W w') :
    Calls Tryz.prog 74 #[.agg #[.string t, .int .i64 ar, .func (Fn.func 139) #[] #[.pointer (some ⟨bx, 0, none⟩)]], .slice a k cap] w fun e w' => e = .returned (.tuple #[.int .i64 (finN n ok), .bool (finB n ok)]) ∧ Below w.heap.size w w' := by
  have HB0 : Hid (Below w.heap.size w (w.alloc (.cells #[.string t, .int .i64 ar, .func (Fn.func 139) #[] #[.pointer (some ⟨bx, 0, none⟩)]] 113))) := (Below.refl _ w).alloc (Nat.le_refl _) _
  have HC := hc _ HB0.out
  have H35 : Hid (∀ W, Calls Tryz.prog 73 #[.int .i64 n] W fun e w' => e = .returned (.bool (greatB n)) ∧ w' = W) := fun W => h35 n W
  have c2 : (w.alloc (.cells #[.string t, .int .i64 ar, .func (Fn.func 139) #[] #[.pointer (some ⟨bx, 0, none⟩)]] 113)).cell? ⟨w.heap.size, 2, none⟩ = some (.func (Fn.func 139) #[] #[.pointer (some ⟨bx, 0, none⟩)]) := by
    rw [cell_of_row _ _ 2 _ 113 (0, 0) (heap_alloc_new w _)]; rfl
  clear hc
  have HFn : finN n ok = if (ok && !greatB n) = true then n else 0 := rfl
  have HFb : finB n ok = (ok && !greatB n) := rfl
  cases ok
  · have e1 : finN n false = 0 := by rw [HFn]; rfl
    have e2 : finB n false = false := by rw [HFb]; rfl
    rw [e1, e2]
    clear HFn HFb e1 e2
    go_enter Tryz.func74, Tryz.ntmps74
    go_wp2_with fail
    refine HC.mono ?_
    rintro e w1 ⟨rfl, hb1⟩
    have HB1 : Hid (Below w.heap.size w w1) := HB0.out.trans (hb1.mono HB0.out.size)
    go_wp2_with fail
    exact bodyPost_ret (v := .tuple #[.int .i64 0, .bool false]) (by simp [results, Tryz.results74, go_sem]) rfl ⟨rfl, HB1.out⟩
  · cases hg : greatB n
    · have e1 : finN n true = n := by rw [HFn, hg]; rfl
      have e2 : finB n true = true := by rw [HFb, hg]; rfl
      rw [e1, e2]
      simp only [hg] at H35
      clear HFn HFb e1 e2 hg
      go_enter Tryz.func74, Tryz.ntmps74
      go_wp2_with fail
      refine HC.mono ?_
      rintro e w1 ⟨rfl, hb1⟩
      have HB1 : Hid (Below w.heap.size w w1) := HB0.out.trans (hb1.mono HB0.out.size)
      go_wp2_with fail
      refine (H35.out _).mono ?_
      rintro e w2 ⟨rfl, hw⟩
      obtain rfl := hw
      go_wp2_with fail
      exact bodyPost_ret (v := .tuple #[.int .i64 n, .bool true]) (by simp [results, Tryz.results74, go_sem]) rfl ⟨rfl, HB1.out⟩
    · have e1 : finN n true = 0 := by rw [HFn, hg]; rfl
      have e2 : finB n true = false := by rw [HFb, hg]; rfl
      rw [e1, e2]
      simp only [hg] at H35
      clear HFn HFb e1 e2 hg
      go_enter Tryz.func74, Tryz.ntmps74
      go_wp2_with fail
      refine HC.mono ?_
      rintro e w1 ⟨rfl, hb1⟩
      have HB1 : Hid (Below w.heap.size w w1) := HB0.out.trans (hb1.mono HB0.out.size)
      go_wp2_with fail
      refine (H35.out _).mono ?_
      rintro e w2 ⟨rfl, hw⟩
      obtain rfl := hw
      go_wp2_with fail
      exact bodyPost_ret (v := .tuple #[.int .i64 0, .bool false]) (by simp [results, Tryz.results74, go_sem]) rfl ⟨rfl, HB1.out⟩
set_option maxRecDepth 100000 in
set_option maxHeartbeats 1000000 in
theorem h37_73 (t : ByteArray) (ar : Int) (bx : Nat) (a : Option Addr) (k cap : Nat) (n : Int) (ok : Bool) (w : World) (hc : ∀ W, Below w.heap.size w W → Calls Tryz.prog 140 #[.slice a k cap, .pointer (some ⟨bx, 0, none⟩)] W fun e w' => e = .returned (.tuple #[.int .i64 n, .bool ok]) ∧ Below W.heap.size W w') :
    Calls Tryz.prog 74 #[.agg #[.string t, .int .i64 ar, .func (Fn.func 140) #[] #[.pointer (some ⟨bx, 0, none⟩)]], .slice a k cap] w fun e w' => e = .returned (.tuple #[.int .i64 (finN n ok), .bool (finB n ok)]) ∧ Below w.heap.size w w' := by
  have HB0 : Hid (Below w.heap.size w (w.alloc (.cells #[.string t, .int .i64 ar, .func (Fn.func 140) #[] #[.pointer (some ⟨bx, 0, none⟩)]] 113))) := (Below.refl _ w).alloc (Nat.le_refl _) _
  have HC := hc _ HB0.out
  have H35 : Hid (∀ W, Calls Tryz.prog 73 #[.int .i64 n] W fun e w' => e = .returned (.bool (greatB n)) ∧ w' = W) := fun W => h35 n W
  have c2 : (w.alloc (.cells #[.string t, .int .i64 ar, .func (Fn.func 140) #[] #[.pointer (some ⟨bx, 0, none⟩)]] 113)).cell? ⟨w.heap.size, 2, none⟩ = some (.func (Fn.func 140) #[] #[.pointer (some ⟨bx, 0, none⟩)]) := by
    rw [cell_of_row _ _ 2 _ 113 (0, 0) (heap_alloc_new w _)]; rfl
  clear hc
  have HFn : finN n ok = if (ok && !greatB n) = true then n else 0 := rfl
  have HFb : finB n ok = (ok && !greatB n) := rfl
  cases ok
  · have e1 : finN n false = 0 := by rw [HFn]; rfl
    have e2 : finB n false = false := by rw [HFb]; rfl
    rw [e1, e2]
    clear HFn HFb e1 e2
    go_enter Tryz.func74, Tryz.ntmps74
    go_wp2_with fail
    refine HC.mono ?_
    rintro e w1 ⟨rfl, hb1⟩
    have HB1 : Hid (Below w.heap.size w w1) := HB0.out.trans (hb1.mono HB0.out.size)
    go_wp2_with fail
    exact bodyPost_ret (v := .tuple #[.int .i64 0, .bool false]) (by simp [results, Tryz.results74, go_sem]) rfl ⟨rfl, HB1.out⟩
  · cases hg : greatB n
    · have e1 : finN n true = n := by rw [HFn, hg]; rfl
      have e2 : finB n true = true := by rw [HFb, hg]; rfl
      rw [e1, e2]
      simp only [hg] at H35
      clear HFn HFb e1 e2 hg
      go_enter Tryz.func74, Tryz.ntmps74
      go_wp2_with fail
      refine HC.mono ?_
      rintro e w1 ⟨rfl, hb1⟩
      have HB1 : Hid (Below w.heap.size w w1) := HB0.out.trans (hb1.mono HB0.out.size)
      go_wp2_with fail
      refine (H35.out _).mono ?_
      rintro e w2 ⟨rfl, hw⟩
      obtain rfl := hw
      go_wp2_with fail
      exact bodyPost_ret (v := .tuple #[.int .i64 n, .bool true]) (by simp [results, Tryz.results74, go_sem]) rfl ⟨rfl, HB1.out⟩
    · have e1 : finN n true = 0 := by rw [HFn, hg]; rfl
      have e2 : finB n true = false := by rw [HFb, hg]; rfl
      rw [e1, e2]
      simp only [hg] at H35
      clear HFn HFb e1 e2 hg
      go_enter Tryz.func74, Tryz.ntmps74
      go_wp2_with fail
      refine HC.mono ?_
      rintro e w1 ⟨rfl, hb1⟩
      have HB1 : Hid (Below w.heap.size w w1) := HB0.out.trans (hb1.mono HB0.out.size)
      go_wp2_with fail
      refine (H35.out _).mono ?_
      rintro e w2 ⟨rfl, hw⟩
      obtain rfl := hw
      go_wp2_with fail
      exact bodyPost_ret (v := .tuple #[.int .i64 0, .bool false]) (by simp [results, Tryz.results74, go_sem]) rfl ⟨rfl, HB1.out⟩
set_option maxRecDepth 100000 in
set_option maxHeartbeats 1000000 in
theorem h37_60 (t : ByteArray) (ar : Int) (a : Option Addr) (k cap : Nat) (n : Int) (ok : Bool) (w : World) (hc : ∀ W, Below w.heap.size w W → Calls Tryz.prog 101 #[.slice a k cap] W fun e w' => e = .returned (.tuple #[.int .i64 n, .bool ok]) ∧ Below W.heap.size W w') :
    Calls Tryz.prog 74 #[.agg #[.string t, .int .i64 ar, .func (Fn.func 101) #[] #[]], .slice a k cap] w fun e w' => e = .returned (.tuple #[.int .i64 (finN n ok), .bool (finB n ok)]) ∧ Below w.heap.size w w' := by
  have HB0 : Hid (Below w.heap.size w (w.alloc (.cells #[.string t, .int .i64 ar, .func (Fn.func 101) #[] #[]] 113))) := (Below.refl _ w).alloc (Nat.le_refl _) _
  have HC := hc _ HB0.out
  have H35 : Hid (∀ W, Calls Tryz.prog 73 #[.int .i64 n] W fun e w' => e = .returned (.bool (greatB n)) ∧ w' = W) := fun W => h35 n W
  have c2 : (w.alloc (.cells #[.string t, .int .i64 ar, .func (Fn.func 101) #[] #[]] 113)).cell? ⟨w.heap.size, 2, none⟩ = some (.func (Fn.func 101) #[] #[]) := by
    rw [cell_of_row _ _ 2 _ 113 (0, 0) (heap_alloc_new w _)]; rfl
  clear hc
  have HFn : finN n ok = if (ok && !greatB n) = true then n else 0 := rfl
  have HFb : finB n ok = (ok && !greatB n) := rfl
  cases ok
  · have e1 : finN n false = 0 := by rw [HFn]; rfl
    have e2 : finB n false = false := by rw [HFb]; rfl
    rw [e1, e2]
    clear HFn HFb e1 e2
    go_enter Tryz.func74, Tryz.ntmps74
    go_wp2_with fail
    refine HC.mono ?_
    rintro e w1 ⟨rfl, hb1⟩
    have HB1 : Hid (Below w.heap.size w w1) := HB0.out.trans (hb1.mono HB0.out.size)
    go_wp2_with fail
    exact bodyPost_ret (v := .tuple #[.int .i64 0, .bool false]) (by simp [results, Tryz.results74, go_sem]) rfl ⟨rfl, HB1.out⟩
  · cases hg : greatB n
    · have e1 : finN n true = n := by rw [HFn, hg]; rfl
      have e2 : finB n true = true := by rw [HFb, hg]; rfl
      rw [e1, e2]
      simp only [hg] at H35
      clear HFn HFb e1 e2 hg
      go_enter Tryz.func74, Tryz.ntmps74
      go_wp2_with fail
      refine HC.mono ?_
      rintro e w1 ⟨rfl, hb1⟩
      have HB1 : Hid (Below w.heap.size w w1) := HB0.out.trans (hb1.mono HB0.out.size)
      go_wp2_with fail
      refine (H35.out _).mono ?_
      rintro e w2 ⟨rfl, hw⟩
      obtain rfl := hw
      go_wp2_with fail
      exact bodyPost_ret (v := .tuple #[.int .i64 n, .bool true]) (by simp [results, Tryz.results74, go_sem]) rfl ⟨rfl, HB1.out⟩
    · have e1 : finN n true = 0 := by rw [HFn, hg]; rfl
      have e2 : finB n true = false := by rw [HFb, hg]; rfl
      rw [e1, e2]
      simp only [hg] at H35
      clear HFn HFb e1 e2 hg
      go_enter Tryz.func74, Tryz.ntmps74
      go_wp2_with fail
      refine HC.mono ?_
      rintro e w1 ⟨rfl, hb1⟩
      have HB1 : Hid (Below w.heap.size w w1) := HB0.out.trans (hb1.mono HB0.out.size)
      go_wp2_with fail
      refine (H35.out _).mono ?_
      rintro e w2 ⟨rfl, hw⟩
      obtain rfl := hw
      go_wp2_with fail
      exact bodyPost_ret (v := .tuple #[.int .i64 0, .bool false]) (by simp [results, Tryz.results74, go_sem]) rfl ⟨rfl, HB1.out⟩
/-- The row of operators, whose captured functions lie from B on. -/
def opsV (B : Nat) : Array Value := #[.string ⟨#[43]⟩, .int .i64 2, .func (Fn.func 139) #[] #[.pointer (some ⟨B + 0, 0, none⟩)], .string ⟨#[45]⟩, .int .i64 2, .func (Fn.func 139) #[] #[.pointer (some ⟨B + 1, 0, none⟩)], .string ⟨#[42]⟩, .int .i64 2, .func (Fn.func 139) #[] #[.pointer (some ⟨B + 2, 0, none⟩)], .string ⟨#[100, 105, 118]⟩, .int .i64 2, .func (Fn.func 140) #[] #[.pointer (some ⟨B + 3, 0, none⟩)], .string ⟨#[109, 111, 100]⟩, .int .i64 2, .func (Fn.func 140) #[] #[.pointer (some ⟨B + 4, 0, none⟩)], .string ⟨#[109, 105, 110]⟩, .int .i64 2, .func (Fn.func 139) #[] #[.pointer (some ⟨B + 5, 0, none⟩)], .string ⟨#[109, 97, 120]⟩, .int .i64 2, .func (Fn.func 139) #[] #[.pointer (some ⟨B + 6, 0, none⟩)], .string ⟨#[97, 98, 115]⟩, .int .i64 1, .func (Fn.func 101) #[] #[]]
def opFn : Nat → Nat
  | 0 => 93
  | 1 => 94
  | 2 => 95
  | 3 => 97
  | 4 => 98
  | 5 => 99
  | _ => 100
structure OpsAt (w : World) (B g : Nat) : Prop where
  row : w.heap[g]? = some (.cells (opsV B) 113 (0, 0))
  box : ∀ k, k < 7 → w.heap[B + k]? = some (.cells #[.func (Fn.func (opFn k)) #[] #[]] 139 (0, 0))
theorem OpsAt.below {w w' : World} {B g : Nat} (h : OpsAt w B g) (hb : Below w.heap.size w w') : OpsAt w' B g :=
  ⟨(hb.block g (Array.getElem?_eq_some_iff.1 h.row).1).trans h.row, fun k hk => (hb.block _ (Array.getElem?_eq_some_iff.1 (h.box k hk)).1).trans (h.box k hk)⟩
theorem opsAt_made (w : World) : OpsAt ((((((((w.alloc (.cells #[.func (Fn.func 93) #[] #[]] 139)).alloc (.cells #[.func (Fn.func 94) #[] #[]] 139)).alloc (.cells #[.func (Fn.func 95) #[] #[]] 139)).alloc (.cells #[.func (Fn.func 97) #[] #[]] 139)).alloc (.cells #[.func (Fn.func 98) #[] #[]] 139)).alloc (.cells #[.func (Fn.func 99) #[] #[]] 139)).alloc (.cells #[.func (Fn.func 100) #[] #[]] 139)).alloc (.cells (opsV w.heap.size) 113)) w.heap.size (w.heap.size + 7) ∧ Below w.heap.size w ((((((((w.alloc (.cells #[.func (Fn.func 93) #[] #[]] 139)).alloc (.cells #[.func (Fn.func 94) #[] #[]] 139)).alloc (.cells #[.func (Fn.func 95) #[] #[]] 139)).alloc (.cells #[.func (Fn.func 97) #[] #[]] 139)).alloc (.cells #[.func (Fn.func 98) #[] #[]] 139)).alloc (.cells #[.func (Fn.func 99) #[] #[]] 139)).alloc (.cells #[.func (Fn.func 100) #[] #[]] 139)).alloc (.cells (opsV w.heap.size) 113)) := by
  obtain ⟨w1, h1⟩ : ∃ W, W = w.alloc (.cells #[.func (Fn.func 93) #[] #[]] 139) := ⟨_, rfl⟩
  rw [← h1]
  have s1 : w1.heap.size = w.heap.size + 1 := by rw [h1]; simp
  have b0 : w1.heap[w.heap.size + 0]? = some (.cells #[.func (Fn.func 93) #[] #[]] 139 (0, 0)) := by rw [h1]; exact heap_alloc_new w _
  have hB1 : Below w.heap.size w w1 := by rw [h1]; exact (Below.refl _ w).alloc (Nat.le_refl _) _
  clear h1
  obtain ⟨w2, h2⟩ : ∃ W, W = w1.alloc (.cells #[.func (Fn.func 94) #[] #[]] 139) := ⟨_, rfl⟩
  rw [← h2]
  have s2 : w2.heap.size = w.heap.size + 2 := by rw [h2]; simp [s1]
  have b1 : w2.heap[w.heap.size + 1]? = some (.cells #[.func (Fn.func 94) #[] #[]] 139 (0, 0)) := by rw [h2]; rw [← s1]; exact heap_alloc_new w1 _
  have hB2 : Below w.heap.size w w2 := by rw [h2]; exact hB1.alloc (by omega) _
  have b0 : w2.heap[w.heap.size + 0]? = some (.cells #[.func (Fn.func 93) #[] #[]] 139 (0, 0)) := by rw [h2, Below.heap_alloc w1 _ _ (by omega)]; exact b0
  clear h2
  obtain ⟨w3, h3⟩ : ∃ W, W = w2.alloc (.cells #[.func (Fn.func 95) #[] #[]] 139) := ⟨_, rfl⟩
  rw [← h3]
  have s3 : w3.heap.size = w.heap.size + 3 := by rw [h3]; simp [s2]
  have b2 : w3.heap[w.heap.size + 2]? = some (.cells #[.func (Fn.func 95) #[] #[]] 139 (0, 0)) := by rw [h3]; rw [← s2]; exact heap_alloc_new w2 _
  have hB3 : Below w.heap.size w w3 := by rw [h3]; exact hB2.alloc (by omega) _
  have b0 : w3.heap[w.heap.size + 0]? = some (.cells #[.func (Fn.func 93) #[] #[]] 139 (0, 0)) := by rw [h3, Below.heap_alloc w2 _ _ (by omega)]; exact b0
  have b1 : w3.heap[w.heap.size + 1]? = some (.cells #[.func (Fn.func 94) #[] #[]] 139 (0, 0)) := by rw [h3, Below.heap_alloc w2 _ _ (by omega)]; exact b1
  clear h3
  obtain ⟨w4, h4⟩ : ∃ W, W = w3.alloc (.cells #[.func (Fn.func 97) #[] #[]] 139) := ⟨_, rfl⟩
  rw [← h4]
  have s4 : w4.heap.size = w.heap.size + 4 := by rw [h4]; simp [s3]
  have b3 : w4.heap[w.heap.size + 3]? = some (.cells #[.func (Fn.func 97) #[] #[]] 139 (0, 0)) := by rw [h4]; rw [← s3]; exact heap_alloc_new w3 _
  have hB4 : Below w.heap.size w w4 := by rw [h4]; exact hB3.alloc (by omega) _
  have b0 : w4.heap[w.heap.size + 0]? = some (.cells #[.func (Fn.func 93) #[] #[]] 139 (0, 0)) := by rw [h4, Below.heap_alloc w3 _ _ (by omega)]; exact b0
  have b1 : w4.heap[w.heap.size + 1]? = some (.cells #[.func (Fn.func 94) #[] #[]] 139 (0, 0)) := by rw [h4, Below.heap_alloc w3 _ _ (by omega)]; exact b1
  have b2 : w4.heap[w.heap.size + 2]? = some (.cells #[.func (Fn.func 95) #[] #[]] 139 (0, 0)) := by rw [h4, Below.heap_alloc w3 _ _ (by omega)]; exact b2
  clear h4
  obtain ⟨w5, h5⟩ : ∃ W, W = w4.alloc (.cells #[.func (Fn.func 98) #[] #[]] 139) := ⟨_, rfl⟩
  rw [← h5]
  have s5 : w5.heap.size = w.heap.size + 5 := by rw [h5]; simp [s4]
  have b4 : w5.heap[w.heap.size + 4]? = some (.cells #[.func (Fn.func 98) #[] #[]] 139 (0, 0)) := by rw [h5]; rw [← s4]; exact heap_alloc_new w4 _
  have hB5 : Below w.heap.size w w5 := by rw [h5]; exact hB4.alloc (by omega) _
  have b0 : w5.heap[w.heap.size + 0]? = some (.cells #[.func (Fn.func 93) #[] #[]] 139 (0, 0)) := by rw [h5, Below.heap_alloc w4 _ _ (by omega)]; exact b0
  have b1 : w5.heap[w.heap.size + 1]? = some (.cells #[.func (Fn.func 94) #[] #[]] 139 (0, 0)) := by rw [h5, Below.heap_alloc w4 _ _ (by omega)]; exact b1
  have b2 : w5.heap[w.heap.size + 2]? = some (.cells #[.func (Fn.func 95) #[] #[]] 139 (0, 0)) := by rw [h5, Below.heap_alloc w4 _ _ (by omega)]; exact b2
  have b3 : w5.heap[w.heap.size + 3]? = some (.cells #[.func (Fn.func 97) #[] #[]] 139 (0, 0)) := by rw [h5, Below.heap_alloc w4 _ _ (by omega)]; exact b3
  clear h5
  obtain ⟨w6, h6⟩ : ∃ W, W = w5.alloc (.cells #[.func (Fn.func 99) #[] #[]] 139) := ⟨_, rfl⟩
  rw [← h6]
  have s6 : w6.heap.size = w.heap.size + 6 := by rw [h6]; simp [s5]
  have b5 : w6.heap[w.heap.size + 5]? = some (.cells #[.func (Fn.func 99) #[] #[]] 139 (0, 0)) := by rw [h6]; rw [← s5]; exact heap_alloc_new w5 _
  have hB6 : Below w.heap.size w w6 := by rw [h6]; exact hB5.alloc (by omega) _
  have b0 : w6.heap[w.heap.size + 0]? = some (.cells #[.func (Fn.func 93) #[] #[]] 139 (0, 0)) := by rw [h6, Below.heap_alloc w5 _ _ (by omega)]; exact b0
  have b1 : w6.heap[w.heap.size + 1]? = some (.cells #[.func (Fn.func 94) #[] #[]] 139 (0, 0)) := by rw [h6, Below.heap_alloc w5 _ _ (by omega)]; exact b1
  have b2 : w6.heap[w.heap.size + 2]? = some (.cells #[.func (Fn.func 95) #[] #[]] 139 (0, 0)) := by rw [h6, Below.heap_alloc w5 _ _ (by omega)]; exact b2
  have b3 : w6.heap[w.heap.size + 3]? = some (.cells #[.func (Fn.func 97) #[] #[]] 139 (0, 0)) := by rw [h6, Below.heap_alloc w5 _ _ (by omega)]; exact b3
  have b4 : w6.heap[w.heap.size + 4]? = some (.cells #[.func (Fn.func 98) #[] #[]] 139 (0, 0)) := by rw [h6, Below.heap_alloc w5 _ _ (by omega)]; exact b4
  clear h6
  obtain ⟨w7, h7⟩ : ∃ W, W = w6.alloc (.cells #[.func (Fn.func 100) #[] #[]] 139) := ⟨_, rfl⟩
  rw [← h7]
  have s7 : w7.heap.size = w.heap.size + 7 := by rw [h7]; simp [s6]
  have b6 : w7.heap[w.heap.size + 6]? = some (.cells #[.func (Fn.func 100) #[] #[]] 139 (0, 0)) := by rw [h7]; rw [← s6]; exact heap_alloc_new w6 _
  have hB7 : Below w.heap.size w w7 := by rw [h7]; exact hB6.alloc (by omega) _
  have b0 : w7.heap[w.heap.size + 0]? = some (.cells #[.func (Fn.func 93) #[] #[]] 139 (0, 0)) := by rw [h7, Below.heap_alloc w6 _ _ (by omega)]; exact b0
  have b1 : w7.heap[w.heap.size + 1]? = some (.cells #[.func (Fn.func 94) #[] #[]] 139 (0, 0)) := by rw [h7, Below.heap_alloc w6 _ _ (by omega)]; exact b1
  have b2 : w7.heap[w.heap.size + 2]? = some (.cells #[.func (Fn.func 95) #[] #[]] 139 (0, 0)) := by rw [h7, Below.heap_alloc w6 _ _ (by omega)]; exact b2
  have b3 : w7.heap[w.heap.size + 3]? = some (.cells #[.func (Fn.func 97) #[] #[]] 139 (0, 0)) := by rw [h7, Below.heap_alloc w6 _ _ (by omega)]; exact b3
  have b4 : w7.heap[w.heap.size + 4]? = some (.cells #[.func (Fn.func 98) #[] #[]] 139 (0, 0)) := by rw [h7, Below.heap_alloc w6 _ _ (by omega)]; exact b4
  have b5 : w7.heap[w.heap.size + 5]? = some (.cells #[.func (Fn.func 99) #[] #[]] 139 (0, 0)) := by rw [h7, Below.heap_alloc w6 _ _ (by omega)]; exact b5
  clear h7
  refine ⟨⟨?_, fun k hk => ?_⟩, hB7.alloc (by omega) _⟩
  · rw [← s7]; exact heap_alloc_new w7 _
  · rw [Below.heap_alloc w7 _ _ (by omega)]
    match k, hk with
    | 0, _ => exact b0
    | 1, _ => exact b1
    | 2, _ => exact b2
    | 3, _ => exact b3
    | 4, _ => exact b4
    | 5, _ => exact b5
    | 6, _ => exact b6
set_option maxRecDepth 100000 in
set_option maxHeartbeats 4000000 in
theorem h36 (w : World) : Calls Tryz.prog 65 #[] w fun e w' => e = .returned (.slice (some ⟨w.heap.size + 7, 0, none⟩) 8 8) ∧ OpsAt w' w.heap.size (w.heap.size + 7) ∧ Below w.heap.size w w' := by
  have HM := opsAt_made w
  unfold opsV at HM
  have HM : Hid (_ ∧ _) := HM
  go_enter Tryz.func65, Tryz.ntmps65
  go_wp2_with fail
  refine (h51 93 _).mono ?_
  rintro e w' ⟨rfl, rfl⟩
  go_wp2_with fail
  refine (h51 94 _).mono ?_
  rintro e w' ⟨rfl, rfl⟩
  go_wp2_with fail
  refine (h51 95 _).mono ?_
  rintro e w' ⟨rfl, rfl⟩
  go_wp2_with fail
  refine (h55 97 _).mono ?_
  rintro e w' ⟨rfl, rfl⟩
  go_wp2_with fail
  refine (h55 98 _).mono ?_
  rintro e w' ⟨rfl, rfl⟩
  go_wp2_with fail
  refine (h51 99 _).mono ?_
  rintro e w' ⟨rfl, rfl⟩
  go_wp2_with fail
  refine (h51 100 _).mono ?_
  rintro e w' ⟨rfl, rfl⟩
  go_wp2_with fail
  go_ret
  exact ⟨rfl, HM.out⟩
end Go.Proofs.YtaehhophaaipdaaGreatDoor
