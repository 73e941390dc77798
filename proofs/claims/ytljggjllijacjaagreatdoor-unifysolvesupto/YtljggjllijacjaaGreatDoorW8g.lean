/- What obeys says of a cell: the ways in which its rule is met, and the cell of no kind. -/
import Derived.Test.YtljggjllijacjaaGreatDoorWBg
import Derived.Deep.RegionHeld3
import Derived.Deep.DrawnRows
namespace Go.Proofs.YtljggjllijacjaaGreatDoor
open Go.RowKit
attribute [local go_sem ↓] Go.wp_at_zero Go.wp_at_succ

abbrev ObS (w : World) (z : Nat) (k : Int) (t : ByteArray) (n vn vk : Int) (f1 f2 : Value) (w' : World) : Prop :=
 w'.cell? ⟨w.heap.size, 0, none⟩ = some (.int .u8 k) ∧ w'.cell? ⟨w.heap.size, 1, none⟩ = some (.string t) ∧ w'.cell? ⟨w.heap.size, 2, none⟩ = some (.int .i64 n) ∧ w'.cell? ⟨w.heap.size, 3, none⟩ = some (.int .i64 vn) ∧ w'.cell? ⟨w.heap.size, 4, none⟩ = some (.int .i64 vk) ∧ w'.cell? ⟨z, 1, none⟩ = some f1 ∧ w'.cell? ⟨z, 2, none⟩ = some f2 ∧ Hid (Below w.heap.size w w' ∧ w.heap.size < w'.heap.size ∧ z < w'.heap.size)
theorem obS_drew {w : World} {z : Nat} {k : Int} {t : ByteArray} {n vn vk : Int} {f1 f2 : Value} {w' : World} (h : ObS w z k t n vn vk f1 f2 w') : ObS w z k t n vn vk f1 f2 w'.drew :=
 ⟨by simpa using h.1, by simpa using h.2.1, by simpa using h.2.2.1, by simpa using h.2.2.2.1, by simpa using h.2.2.2.2.1, by simpa using h.2.2.2.2.2.1, by simpa using h.2.2.2.2.2.2.1, h.2.2.2.2.2.2.2.out.1.drew, h.2.2.2.2.2.2.2.out.2⟩
theorem obS_below {w : World} {z : Nat} {k : Int} {t : ByteArray} {n vn vk : Int} {f1 f2 : Value} {w' w'' : World} (h : ObS w z k t n vn vk f1 f2 w') (hb : Below w'.heap.size w' w'') : ObS w z k t n vn vk f1 f2 w'' := by
 obtain ⟨h1, h2, h3, h4, h5, h6, h7, h8⟩ := h
 have h9 := h8.out
 have := hb.size
 exact ⟨(hb.cell (p := ⟨_, _, none⟩) h9.2.1).trans h1, (hb.cell (p := ⟨_, _, none⟩) h9.2.1).trans h2, (hb.cell (p := ⟨_, _, none⟩) h9.2.1).trans h3, (hb.cell (p := ⟨_, _, none⟩) h9.2.1).trans h4, (hb.cell (p := ⟨_, _, none⟩) h9.2.1).trans h5, (hb.cell (p := ⟨_, _, none⟩) h9.2.2).trans h6, (hb.cell (p := ⟨_, _, none⟩) h9.2.2).trans h7, h9.1.trans (hb.mono (by omega)), by omega, by omega⟩
theorem obS_hb {w : World} {z : Nat} {k : Int} {t : ByteArray} {n vn vk : Int} {f1 f2 : Value} {w' : World} (h : ObS w z k t n vn vk f1 f2 w') : Below w.heap.size w w' := h.2.2.2.2.2.2.2.out.1

theorem cell_new (w : World) (C : Array Value) (t : TypeId) (i : Nat) (v : Value) (h : C[i]? = some v) : (w.alloc (.cells C t)).cell? ⟨w.heap.size, i, none⟩ = some v := by
 rw [cell_of_row _ _ _ _ _ _ (alloc_heap_new w (.cells C t))]; exact h
set_option maxHeartbeats 4000000 in
theorem c62_1_true (t : ByteArray) (n vn vk : Int) (v : Value) (w : World) (hR : Rules w v) (hg : eqCells 1 t n vn vk 1 ⟨#[]⟩ n 0 0 = true) :
  Calls Tryz.prog 111 #[.agg #[.int .u8 1, .string t, .int .i64 n, .int .i64 vn, .int .i64 vk], v] w fun e w' => e = .returned (.bool (between (-2147483648) 2147483648 n)) ∧ Below w.heap.size w w' := by
 obtain ⟨b, r1, r2, r3, rfl, hb, hr, hB1, _h2, _h3⟩ := hR.ex
 have hr : Hid (w.rangeAt b 0 (ruleVals r1 r2 r3)) := hr
 have hE := eql60 1 t n vn vk 1 ⟨#[]⟩ n 0 0
 rw [hg] at hE
 clear hg hR
 go_enter Tryz.func111, Tryz.ntmps111
 go_wp2_with fail
 go_loopw [9] (fun i wr => ∃ k : Nat, k ≤ 0 ∧ i = .int .i64 k ∧ Below (w.heap.size + 1) (w.alloc (.cells #[.int .u8 1, .string t, .int .i64 n, .int .i64 vn, .int .i64 vk] 78)) wr) (fun i _ => 4 - (intOf i).toNat)
 case atStart => exact ⟨0, Nat.zero_le _, rfl, Below.refl _ _⟩
 case round =>
  obtain ⟨k, hk, rfl, hbr⟩ := hrel
  have hz : w.heap.size + 1 ≤ wr.heap.size := by have h1 := hbr.size; simp only [World.size_alloc] at h1; exact h1
  have hz1 : w.heap.size < wr.heap.size := by omega
  have hz2 : b < wr.heap.size := by omega
  have HB : Hid (Below w.heap.size w wr) := (below_alloc w _).trans (hbr.mono (by omega))
  have p0 : wr.cell? ⟨w.heap.size, 0, none⟩ = some (.int .u8 1) := (hbr.cell (p := ⟨w.heap.size, 0, none⟩) (by show w.heap.size < w.heap.size + 1; omega)).trans (cell_new w #[.int .u8 1, .string t, .int .i64 n, .int .i64 vn, .int .i64 vk] 78 0 _ rfl)
  have p1 : wr.cell? ⟨w.heap.size, 1, none⟩ = some (.string t) := (hbr.cell (p := ⟨w.heap.size, 1, none⟩) (by show w.heap.size < w.heap.size + 1; omega)).trans (cell_new w #[.int .u8 1, .string t, .int .i64 n, .int .i64 vn, .int .i64 vk] 78 1 _ rfl)
  have p2 : wr.cell? ⟨w.heap.size, 2, none⟩ = some (.int .i64 n) := (hbr.cell (p := ⟨w.heap.size, 2, none⟩) (by show w.heap.size < w.heap.size + 1; omega)).trans (cell_new w #[.int .u8 1, .string t, .int .i64 n, .int .i64 vn, .int .i64 vk] 78 2 _ rfl)
  have p3 : wr.cell? ⟨w.heap.size, 3, none⟩ = some (.int .i64 vn) := (hbr.cell (p := ⟨w.heap.size, 3, none⟩) (by show w.heap.size < w.heap.size + 1; omega)).trans (cell_new w #[.int .u8 1, .string t, .int .i64 n, .int .i64 vn, .int .i64 vk] 78 3 _ rfl)
  have p4 : wr.cell? ⟨w.heap.size, 4, none⟩ = some (.int .i64 vk) := (hbr.cell (p := ⟨w.heap.size, 4, none⟩) (by show w.heap.size < w.heap.size + 1; omega)).trans (cell_new w #[.int .u8 1, .string t, .int .i64 n, .int .i64 vn, .int .i64 vk] 78 4 _ rfl)
  match k, hk with
  | 0, _ =>
   have q0 : wr.cell? ⟨b, 0, none⟩ = some (.int .u8 1) := (hbr.cell (p := ⟨b, 0, none⟩) (by show b < w.heap.size + 1; omega)).trans (cell_alloc hb (hr.out 0 _ rfl))
   have q1 : wr.cell? ⟨b, 1, none⟩ = some (.func (.func 120) #[] #[]) := (hbr.cell (p := ⟨b, 1, none⟩) (by show b < w.heap.size + 1; omega)).trans (cell_alloc hb (hr.out 1 _ rfl))
   have q2 : wr.cell? ⟨b, 2, none⟩ = some (.func (.func 121) #[] #[.pointer (some ⟨r1, 0, none⟩)]) := (hbr.cell (p := ⟨b, 2, none⟩) (by show b < w.heap.size + 1; omega)).trans (cell_alloc hb (hr.out 2 _ rfl))
   have hW : Hid (Below w.heap.size w (wr.alloc (.cells #[.int .u8 1, .func (.func 120) #[] #[], .func (.func 121) #[] #[.pointer (some ⟨r1, 0, none⟩)]] 157))) := HB.out.alloc (by omega) _
   clear hr
   go_wp2_with fail
   have hS0 : ObS w wr.heap.size 1 t n vn vk (.func (.func 120) #[] #[]) (.func (.func 121) #[] #[.pointer (some ⟨r1, 0, none⟩)]) (wr.alloc (.cells #[.int .u8 1, .func (.func 120) #[] #[], .func (.func 121) #[] #[.pointer (some ⟨r1, 0, none⟩)]] 157)) :=
    ⟨cell_alloc hz1 p0, cell_alloc hz1 p1, cell_alloc hz1 p2, cell_alloc hz1 p3, cell_alloc hz1 p4, cell_new _ _ _ _ _ rfl, cell_new _ _ _ _ _ rfl, hW.out, by simp; omega, by simp⟩
   go_region_held3 (fun w' => ObS w wr.heap.size 1 t n vn vk (.func (.func 120) #[] #[]) (.func (.func 121) #[] #[.pointer (some ⟨r1, 0, none⟩)]) w')
    (first | exact obS_drew hS0 | (refine obS_drew ?_; assumption) | assumption | exact obS_below (by assumption) (by assumption))
    (first | (go_at_call 120; refine (c69 1 t n vn vk _).mono ?_; rintro e w' ⟨rfl, hb1⟩) | (go_at_call 121; refine (c70 1 t n vn vk (-2147483648) 2147483648 r1 _ ?_).mono ?_; (exact hB1.below (obS_hb (by assumption))); rintro e w' ⟨rfl, hb2⟩))
   go_wp2
   go_ret
   exact ⟨rfl, obS_hb (by assumption)⟩
set_option maxHeartbeats 4000000 in
theorem c62_2_true (t : ByteArray) (n vn vk : Int) (v : Value) (w : World) (hR : Rules w v) (ht : t.size ≤ maxLen) (hg : eqCells 2 t n vn vk 2 t 0 0 0 = true) :
  Calls Tryz.prog 111 #[.agg #[.int .u8 2, .string t, .int .i64 n, .int .i64 vn, .int .i64 vk], v] w fun e w' => e = .returned (.bool (isNameB t.data.toList)) ∧ Below w.heap.size w w' := by
 obtain ⟨b, r1, r2, r3, rfl, hb, hr, _h1, _h2, _h3⟩ := hR.ex
 have hr : Hid (w.rangeAt b 0 (ruleVals r1 r2 r3)) := hr
 have hE := eql60 2 t n vn vk 2 t 0 0 0
 rw [hg] at hE
 clear hg hR
 go_enter Tryz.func111, Tryz.ntmps111
 go_wp2_with fail
 go_loopw [9] (fun i wr => ∃ k : Nat, k ≤ 1 ∧ i = .int .i64 k ∧ Below (w.heap.size + 1) (w.alloc (.cells #[.int .u8 2, .string t, .int .i64 n, .int .i64 vn, .int .i64 vk] 78)) wr) (fun i _ => 4 - (intOf i).toNat)
 case atStart => exact ⟨0, Nat.zero_le _, rfl, Below.refl _ _⟩
 case round =>
  obtain ⟨k, hk, rfl, hbr⟩ := hrel
  have hz : w.heap.size + 1 ≤ wr.heap.size := by have h1 := hbr.size; simp only [World.size_alloc] at h1; exact h1
  have hz1 : w.heap.size < wr.heap.size := by omega
  have hz2 : b < wr.heap.size := by omega
  have HB : Hid (Below w.heap.size w wr) := (below_alloc w _).trans (hbr.mono (by omega))
  have p0 : wr.cell? ⟨w.heap.size, 0, none⟩ = some (.int .u8 2) := (hbr.cell (p := ⟨w.heap.size, 0, none⟩) (by show w.heap.size < w.heap.size + 1; omega)).trans (cell_new w #[.int .u8 2, .string t, .int .i64 n, .int .i64 vn, .int .i64 vk] 78 0 _ rfl)
  have p1 : wr.cell? ⟨w.heap.size, 1, none⟩ = some (.string t) := (hbr.cell (p := ⟨w.heap.size, 1, none⟩) (by show w.heap.size < w.heap.size + 1; omega)).trans (cell_new w #[.int .u8 2, .string t, .int .i64 n, .int .i64 vn, .int .i64 vk] 78 1 _ rfl)
  have p2 : wr.cell? ⟨w.heap.size, 2, none⟩ = some (.int .i64 n) := (hbr.cell (p := ⟨w.heap.size, 2, none⟩) (by show w.heap.size < w.heap.size + 1; omega)).trans (cell_new w #[.int .u8 2, .string t, .int .i64 n, .int .i64 vn, .int .i64 vk] 78 2 _ rfl)
  have p3 : wr.cell? ⟨w.heap.size, 3, none⟩ = some (.int .i64 vn) := (hbr.cell (p := ⟨w.heap.size, 3, none⟩) (by show w.heap.size < w.heap.size + 1; omega)).trans (cell_new w #[.int .u8 2, .string t, .int .i64 n, .int .i64 vn, .int .i64 vk] 78 3 _ rfl)
  have p4 : wr.cell? ⟨w.heap.size, 4, none⟩ = some (.int .i64 vk) := (hbr.cell (p := ⟨w.heap.size, 4, none⟩) (by show w.heap.size < w.heap.size + 1; omega)).trans (cell_new w #[.int .u8 2, .string t, .int .i64 n, .int .i64 vn, .int .i64 vk] 78 4 _ rfl)
  match k, hk with
  | 0, _ =>
   have q0 : wr.cell? ⟨b, 0, none⟩ = some (.int .u8 1) := (hbr.cell (p := ⟨b, 0, none⟩) (by show b < w.heap.size + 1; omega)).trans (cell_alloc hb (hr.out 0 _ rfl))
   have q1 : wr.cell? ⟨b, 1, none⟩ = some (.func (.func 120) #[] #[]) := (hbr.cell (p := ⟨b, 1, none⟩) (by show b < w.heap.size + 1; omega)).trans (cell_alloc hb (hr.out 1 _ rfl))
   have q2 : wr.cell? ⟨b, 2, none⟩ = some (.func (.func 121) #[] #[.pointer (some ⟨r1, 0, none⟩)]) := (hbr.cell (p := ⟨b, 2, none⟩) (by show b < w.heap.size + 1; omega)).trans (cell_alloc hb (hr.out 2 _ rfl))
   clear hr hE
   go_wp2_with fail
   go_roundw
   case rel => exact ⟨1, by omega, rfl, hbr.alloc (by omega) _⟩
   case measure => simp [intOf]
  | 1, _ =>
   have q0 : wr.cell? ⟨b, 3, none⟩ = some (.int .u8 2) := (hbr.cell (p := ⟨b, 3, none⟩) (by show b < w.heap.size + 1; omega)).trans (cell_alloc hb (hr.out 3 _ rfl))
   have q1 : wr.cell? ⟨b, 4, none⟩ = some (.func (.func 122) #[] #[]) := (hbr.cell (p := ⟨b, 4, none⟩) (by show b < w.heap.size + 1; omega)).trans (cell_alloc hb (hr.out 4 _ rfl))
   have q2 : wr.cell? ⟨b, 5, none⟩ = some (.func (.func 123) #[] #[]) := (hbr.cell (p := ⟨b, 5, none⟩) (by show b < w.heap.size + 1; omega)).trans (cell_alloc hb (hr.out 5 _ rfl))
   have hW : Hid (Below w.heap.size w (wr.alloc (.cells #[.int .u8 2, .func (.func 122) #[] #[], .func (.func 123) #[] #[]] 157))) := HB.out.alloc (by omega) _
   clear hr
   go_wp2_with fail
   have hS0 : ObS w wr.heap.size 2 t n vn vk (.func (.func 122) #[] #[]) (.func (.func 123) #[] #[]) (wr.alloc (.cells #[.int .u8 2, .func (.func 122) #[] #[], .func (.func 123) #[] #[]] 157)) :=
    ⟨cell_alloc hz1 p0, cell_alloc hz1 p1, cell_alloc hz1 p2, cell_alloc hz1 p3, cell_alloc hz1 p4, cell_new _ _ _ _ _ rfl, cell_new _ _ _ _ _ rfl, hW.out, by simp; omega, by simp⟩
   go_region_held3 (fun w' => ObS w wr.heap.size 2 t n vn vk (.func (.func 122) #[] #[]) (.func (.func 123) #[] #[]) w')
    (first | exact obS_drew hS0 | (refine obS_drew ?_; assumption) | assumption | exact obS_below (by assumption) (by assumption))
    (first | (go_at_call 122; refine (c71 2 t n vn vk _).mono ?_; rintro e w' ⟨rfl, hb1⟩) | (go_at_call 123; refine (c72 2 t n vn vk _ ht).mono ?_; rintro e w' ⟨rfl, hb2⟩))
   go_wp2
   go_ret
   exact ⟨rfl, obS_hb (by assumption)⟩
set_option maxHeartbeats 4000000 in
theorem c62_3_true (t : ByteArray) (n vn vk : Int) (v : Value) (w : World) (hR : Rules w v) (ht : t.size ≤ maxLen) (hSg : Signs w) (hg : eqCells 3 t n vn vk 3 t n 0 0 = true) :
  Calls Tryz.prog 111 #[.agg #[.int .u8 3, .string t, .int .i64 n, .int .i64 vn, .int .i64 vk], v] w fun e w' => e = .returned (.bool (structFits 1 8 t.data.toList n)) ∧ Below w.heap.size w w' := by
 obtain ⟨b, r1, r2, r3, rfl, hb, hr, _h1, hB2, _h3⟩ := hR.ex
 have hr : Hid (w.rangeAt b 0 (ruleVals r1 r2 r3)) := hr
 have hE := eql60 3 t n vn vk 3 t n 0 0
 rw [hg] at hE
 clear hg hR
 go_enter Tryz.func111, Tryz.ntmps111
 go_wp2_with fail
 go_loopw [9] (fun i wr => ∃ k : Nat, k ≤ 2 ∧ i = .int .i64 k ∧ Below (w.heap.size + 1) (w.alloc (.cells #[.int .u8 3, .string t, .int .i64 n, .int .i64 vn, .int .i64 vk] 78)) wr) (fun i _ => 4 - (intOf i).toNat)
 case atStart => exact ⟨0, Nat.zero_le _, rfl, Below.refl _ _⟩
 case round =>
  obtain ⟨k, hk, rfl, hbr⟩ := hrel
  have hz : w.heap.size + 1 ≤ wr.heap.size := by have h1 := hbr.size; simp only [World.size_alloc] at h1; exact h1
  have hz1 : w.heap.size < wr.heap.size := by omega
  have hz2 : b < wr.heap.size := by omega
  have HB : Hid (Below w.heap.size w wr) := (below_alloc w _).trans (hbr.mono (by omega))
  have p0 : wr.cell? ⟨w.heap.size, 0, none⟩ = some (.int .u8 3) := (hbr.cell (p := ⟨w.heap.size, 0, none⟩) (by show w.heap.size < w.heap.size + 1; omega)).trans (cell_new w #[.int .u8 3, .string t, .int .i64 n, .int .i64 vn, .int .i64 vk] 78 0 _ rfl)
  have p1 : wr.cell? ⟨w.heap.size, 1, none⟩ = some (.string t) := (hbr.cell (p := ⟨w.heap.size, 1, none⟩) (by show w.heap.size < w.heap.size + 1; omega)).trans (cell_new w #[.int .u8 3, .string t, .int .i64 n, .int .i64 vn, .int .i64 vk] 78 1 _ rfl)
  have p2 : wr.cell? ⟨w.heap.size, 2, none⟩ = some (.int .i64 n) := (hbr.cell (p := ⟨w.heap.size, 2, none⟩) (by show w.heap.size < w.heap.size + 1; omega)).trans (cell_new w #[.int .u8 3, .string t, .int .i64 n, .int .i64 vn, .int .i64 vk] 78 2 _ rfl)
  have p3 : wr.cell? ⟨w.heap.size, 3, none⟩ = some (.int .i64 vn) := (hbr.cell (p := ⟨w.heap.size, 3, none⟩) (by show w.heap.size < w.heap.size + 1; omega)).trans (cell_new w #[.int .u8 3, .string t, .int .i64 n, .int .i64 vn, .int .i64 vk] 78 3 _ rfl)
  have p4 : wr.cell? ⟨w.heap.size, 4, none⟩ = some (.int .i64 vk) := (hbr.cell (p := ⟨w.heap.size, 4, none⟩) (by show w.heap.size < w.heap.size + 1; omega)).trans (cell_new w #[.int .u8 3, .string t, .int .i64 n, .int .i64 vn, .int .i64 vk] 78 4 _ rfl)
  match k, hk with
  | 0, _ =>
   have q0 : wr.cell? ⟨b, 0, none⟩ = some (.int .u8 1) := (hbr.cell (p := ⟨b, 0, none⟩) (by show b < w.heap.size + 1; omega)).trans (cell_alloc hb (hr.out 0 _ rfl))
   have q1 : wr.cell? ⟨b, 1, none⟩ = some (.func (.func 120) #[] #[]) := (hbr.cell (p := ⟨b, 1, none⟩) (by show b < w.heap.size + 1; omega)).trans (cell_alloc hb (hr.out 1 _ rfl))
   have q2 : wr.cell? ⟨b, 2, none⟩ = some (.func (.func 121) #[] #[.pointer (some ⟨r1, 0, none⟩)]) := (hbr.cell (p := ⟨b, 2, none⟩) (by show b < w.heap.size + 1; omega)).trans (cell_alloc hb (hr.out 2 _ rfl))
   clear hr hE
   go_wp2_with fail
   go_roundw
   case rel => exact ⟨1, by omega, rfl, hbr.alloc (by omega) _⟩
   case measure => simp [intOf]
  | 1, _ =>
   have q0 : wr.cell? ⟨b, 3, none⟩ = some (.int .u8 2) := (hbr.cell (p := ⟨b, 3, none⟩) (by show b < w.heap.size + 1; omega)).trans (cell_alloc hb (hr.out 3 _ rfl))
   have q1 : wr.cell? ⟨b, 4, none⟩ = some (.func (.func 122) #[] #[]) := (hbr.cell (p := ⟨b, 4, none⟩) (by show b < w.heap.size + 1; omega)).trans (cell_alloc hb (hr.out 4 _ rfl))
   have q2 : wr.cell? ⟨b, 5, none⟩ = some (.func (.func 123) #[] #[]) := (hbr.cell (p := ⟨b, 5, none⟩) (by show b < w.heap.size + 1; omega)).trans (cell_alloc hb (hr.out 5 _ rfl))
   clear hr hE
   go_wp2_with fail
   go_roundw
   case rel => exact ⟨2, by omega, rfl, hbr.alloc (by omega) _⟩
   case measure => simp [intOf]
  | 2, _ =>
   have q0 : wr.cell? ⟨b, 6, none⟩ = some (.int .u8 3) := (hbr.cell (p := ⟨b, 6, none⟩) (by show b < w.heap.size + 1; omega)).trans (cell_alloc hb (hr.out 6 _ rfl))
   have q1 : wr.cell? ⟨b, 7, none⟩ = some (.func (.func 125) #[] #[]) := (hbr.cell (p := ⟨b, 7, none⟩) (by show b < w.heap.size + 1; omega)).trans (cell_alloc hb (hr.out 7 _ rfl))
   have q2 : wr.cell? ⟨b, 8, none⟩ = some (.func (.func 126) #[] #[.pointer (some ⟨r2, 0, none⟩)]) := (hbr.cell (p := ⟨b, 8, none⟩) (by show b < w.heap.size + 1; omega)).trans (cell_alloc hb (hr.out 8 _ rfl))
   have hW : Hid (Below w.heap.size w (wr.alloc (.cells #[.int .u8 3, .func (.func 125) #[] #[], .func (.func 126) #[] #[.pointer (some ⟨r2, 0, none⟩)]] 157))) := HB.out.alloc (by omega) _
   clear hr
   go_wp2_with fail
   have hS0 : ObS w wr.heap.size 3 t n vn vk (.func (.func 125) #[] #[]) (.func (.func 126) #[] #[.pointer (some ⟨r2, 0, none⟩)]) (wr.alloc (.cells #[.int .u8 3, .func (.func 125) #[] #[], .func (.func 126) #[] #[.pointer (some ⟨r2, 0, none⟩)]] 157)) :=
    ⟨cell_alloc hz1 p0, cell_alloc hz1 p1, cell_alloc hz1 p2, cell_alloc hz1 p3, cell_alloc hz1 p4, cell_new _ _ _ _ _ rfl, cell_new _ _ _ _ _ rfl, hW.out, by simp; omega, by simp⟩
   go_region_held3 (fun w' => ObS w wr.heap.size 3 t n vn vk (.func (.func 125) #[] #[]) (.func (.func 126) #[] #[.pointer (some ⟨r2, 0, none⟩)]) w')
    (first | exact obS_drew hS0 | (refine obS_drew ?_; assumption) | assumption | exact obS_below (by assumption) (by assumption))
    (first | (go_at_call 125; refine (c73 3 t n vn vk _).mono ?_; rintro e w' ⟨rfl, hb1⟩) | (go_at_call 126; refine (c74 3 t n vn vk 1 8 r2 _ ?_ ?_ ht).mono ?_; (exact hB2.below (obS_hb (by assumption))); (exact hSg.below (obS_hb (by assumption))); rintro e w' ⟨rfl, hb2⟩))
   go_wp2
   go_ret
   exact ⟨rfl, obS_hb (by assumption)⟩
set_option maxHeartbeats 4000000 in
theorem c62_4_true (t : ByteArray) (n vn vk : Int) (v : Value) (w : World) (hR : Rules w v) (hg : eqCells 4 t n vn vk 4 ⟨#[]⟩ 0 vn vk = true) :
  Calls Tryz.prog 111 #[.agg #[.int .u8 4, .string t, .int .i64 n, .int .i64 vn, .int .i64 vk], v] w fun e w' => e = .returned (.bool ((between (-1) 3 vn && decide (0 ≤ vk)))) ∧ Below w.heap.size w w' := by
 obtain ⟨b, r1, r2, r3, rfl, hb, hr, _h1, _h2, hB3⟩ := hR.ex
 have hr : Hid (w.rangeAt b 0 (ruleVals r1 r2 r3)) := hr
 have hE := eql60 4 t n vn vk 4 ⟨#[]⟩ 0 vn vk
 rw [hg] at hE
 clear hg hR
 go_enter Tryz.func111, Tryz.ntmps111
 go_wp2_with fail
 go_loopw [9] (fun i wr => ∃ k : Nat, k ≤ 3 ∧ i = .int .i64 k ∧ Below (w.heap.size + 1) (w.alloc (.cells #[.int .u8 4, .string t, .int .i64 n, .int .i64 vn, .int .i64 vk] 78)) wr) (fun i _ => 4 - (intOf i).toNat)
 case atStart => exact ⟨0, Nat.zero_le _, rfl, Below.refl _ _⟩
 case round =>
  obtain ⟨k, hk, rfl, hbr⟩ := hrel
  have hz : w.heap.size + 1 ≤ wr.heap.size := by have h1 := hbr.size; simp only [World.size_alloc] at h1; exact h1
  have hz1 : w.heap.size < wr.heap.size := by omega
  have hz2 : b < wr.heap.size := by omega
  have HB : Hid (Below w.heap.size w wr) := (below_alloc w _).trans (hbr.mono (by omega))
  have p0 : wr.cell? ⟨w.heap.size, 0, none⟩ = some (.int .u8 4) := (hbr.cell (p := ⟨w.heap.size, 0, none⟩) (by show w.heap.size < w.heap.size + 1; omega)).trans (cell_new w #[.int .u8 4, .string t, .int .i64 n, .int .i64 vn, .int .i64 vk] 78 0 _ rfl)
  have p1 : wr.cell? ⟨w.heap.size, 1, none⟩ = some (.string t) := (hbr.cell (p := ⟨w.heap.size, 1, none⟩) (by show w.heap.size < w.heap.size + 1; omega)).trans (cell_new w #[.int .u8 4, .string t, .int .i64 n, .int .i64 vn, .int .i64 vk] 78 1 _ rfl)
  have p2 : wr.cell? ⟨w.heap.size, 2, none⟩ = some (.int .i64 n) := (hbr.cell (p := ⟨w.heap.size, 2, none⟩) (by show w.heap.size < w.heap.size + 1; omega)).trans (cell_new w #[.int .u8 4, .string t, .int .i64 n, .int .i64 vn, .int .i64 vk] 78 2 _ rfl)
  have p3 : wr.cell? ⟨w.heap.size, 3, none⟩ = some (.int .i64 vn) := (hbr.cell (p := ⟨w.heap.size, 3, none⟩) (by show w.heap.size < w.heap.size + 1; omega)).trans (cell_new w #[.int .u8 4, .string t, .int .i64 n, .int .i64 vn, .int .i64 vk] 78 3 _ rfl)
  have p4 : wr.cell? ⟨w.heap.size, 4, none⟩ = some (.int .i64 vk) := (hbr.cell (p := ⟨w.heap.size, 4, none⟩) (by show w.heap.size < w.heap.size + 1; omega)).trans (cell_new w #[.int .u8 4, .string t, .int .i64 n, .int .i64 vn, .int .i64 vk] 78 4 _ rfl)
  match k, hk with
  | 0, _ =>
   have q0 : wr.cell? ⟨b, 0, none⟩ = some (.int .u8 1) := (hbr.cell (p := ⟨b, 0, none⟩) (by show b < w.heap.size + 1; omega)).trans (cell_alloc hb (hr.out 0 _ rfl))
   have q1 : wr.cell? ⟨b, 1, none⟩ = some (.func (.func 120) #[] #[]) := (hbr.cell (p := ⟨b, 1, none⟩) (by show b < w.heap.size + 1; omega)).trans (cell_alloc hb (hr.out 1 _ rfl))
   have q2 : wr.cell? ⟨b, 2, none⟩ = some (.func (.func 121) #[] #[.pointer (some ⟨r1, 0, none⟩)]) := (hbr.cell (p := ⟨b, 2, none⟩) (by show b < w.heap.size + 1; omega)).trans (cell_alloc hb (hr.out 2 _ rfl))
   clear hr hE
   go_wp2_with fail
   go_roundw
   case rel => exact ⟨1, by omega, rfl, hbr.alloc (by omega) _⟩
   case measure => simp [intOf]
  | 1, _ =>
   have q0 : wr.cell? ⟨b, 3, none⟩ = some (.int .u8 2) := (hbr.cell (p := ⟨b, 3, none⟩) (by show b < w.heap.size + 1; omega)).trans (cell_alloc hb (hr.out 3 _ rfl))
   have q1 : wr.cell? ⟨b, 4, none⟩ = some (.func (.func 122) #[] #[]) := (hbr.cell (p := ⟨b, 4, none⟩) (by show b < w.heap.size + 1; omega)).trans (cell_alloc hb (hr.out 4 _ rfl))
   have q2 : wr.cell? ⟨b, 5, none⟩ = some (.func (.func 123) #[] #[]) := (hbr.cell (p := ⟨b, 5, none⟩) (by show b < w.heap.size + 1; omega)).trans (cell_alloc hb (hr.out 5 _ rfl))
   clear hr hE
   go_wp2_with fail
   go_roundw
   case rel => exact ⟨2, by omega, rfl, hbr.alloc (by omega) _⟩
   case measure => simp [intOf]
  | 2, _ =>
   have q0 : wr.cell? ⟨b, 6, none⟩ = some (.int .u8 3) := (hbr.cell (p := ⟨b, 6, none⟩) (by show b < w.heap.size + 1; omega)).trans (cell_alloc hb (hr.out 6 _ rfl))
   have q1 : wr.cell? ⟨b, 7, none⟩ = some (.func (.func 125) #[] #[]) := (hbr.cell (p := ⟨b, 7, none⟩) (by show b < w.heap.size + 1; omega)).trans (cell_alloc hb (hr.out 7 _ rfl))
   have q2 : wr.cell? ⟨b, 8, none⟩ = some (.func (.func 126) #[] #[.pointer (some ⟨r2, 0, none⟩)]) := (hbr.cell (p := ⟨b, 8, none⟩) (by show b < w.heap.size + 1; omega)).trans (cell_alloc hb (hr.out 8 _ rfl))
   clear hr hE
   go_wp2_with fail
   go_roundw
   case rel => exact ⟨3, by omega, rfl, hbr.alloc (by omega) _⟩
   case measure => simp [intOf]
  | 3, _ =>
   have q0 : wr.cell? ⟨b, 9, none⟩ = some (.int .u8 4) := (hbr.cell (p := ⟨b, 9, none⟩) (by show b < w.heap.size + 1; omega)).trans (cell_alloc hb (hr.out 9 _ rfl))
   have q1 : wr.cell? ⟨b, 10, none⟩ = some (.func (.func 128) #[] #[]) := (hbr.cell (p := ⟨b, 10, none⟩) (by show b < w.heap.size + 1; omega)).trans (cell_alloc hb (hr.out 10 _ rfl))
   have q2 : wr.cell? ⟨b, 11, none⟩ = some (.func (.func 129) #[] #[.pointer (some ⟨r3, 0, none⟩)]) := (hbr.cell (p := ⟨b, 11, none⟩) (by show b < w.heap.size + 1; omega)).trans (cell_alloc hb (hr.out 11 _ rfl))
   have hW : Hid (Below w.heap.size w (wr.alloc (.cells #[.int .u8 4, .func (.func 128) #[] #[], .func (.func 129) #[] #[.pointer (some ⟨r3, 0, none⟩)]] 157))) := HB.out.alloc (by omega) _
   clear hr
   go_wp2_with fail
   have hS0 : ObS w wr.heap.size 4 t n vn vk (.func (.func 128) #[] #[]) (.func (.func 129) #[] #[.pointer (some ⟨r3, 0, none⟩)]) (wr.alloc (.cells #[.int .u8 4, .func (.func 128) #[] #[], .func (.func 129) #[] #[.pointer (some ⟨r3, 0, none⟩)]] 157)) :=
    ⟨cell_alloc hz1 p0, cell_alloc hz1 p1, cell_alloc hz1 p2, cell_alloc hz1 p3, cell_alloc hz1 p4, cell_new _ _ _ _ _ rfl, cell_new _ _ _ _ _ rfl, hW.out, by simp; omega, by simp⟩
   go_region_held3 (fun w' => ObS w wr.heap.size 4 t n vn vk (.func (.func 128) #[] #[]) (.func (.func 129) #[] #[.pointer (some ⟨r3, 0, none⟩)]) w')
    (first | exact obS_drew hS0 | (refine obS_drew ?_; assumption) | assumption | exact obS_below (by assumption) (by assumption))
    (first | (go_at_call 128; refine (c76 4 t n vn vk _).mono ?_; rintro e w' ⟨rfl, hb1⟩) | (go_at_call 129; refine (c77 4 t n vn vk (-1) 3 r3 _ ?_).mono ?_; (exact hB3.below (obS_hb (by assumption))); rintro e w' ⟨rfl, hb2⟩))
   go_wp2
   go_ret
   exact ⟨rfl, obS_hb (by assumption)⟩
set_option maxHeartbeats 4000000 in
theorem c62_other (k0 : Int) (t : ByteArray) (n vn vk : Int) (v : Value) (w : World) (hR : Rules w v) (h1 : ((1 : Int) == k0) = false) (h2 : ((2 : Int) == k0) = false) (h3 : ((3 : Int) == k0) = false) (h4 : ((4 : Int) == k0) = false) :
  Calls Tryz.prog 111 #[.agg #[.int .u8 k0, .string t, .int .i64 n, .int .i64 vn, .int .i64 vk], v] w fun e w' => e = .returned (.bool false) ∧ Below w.heap.size w w' := by
 obtain ⟨b, r1, r2, r3, rfl, hb, hr, _h1, _h2, _h3⟩ := hR.ex
 have hr : Hid (w.rangeAt b 0 (ruleVals r1 r2 r3)) := hr
 clear hR
 go_enter Tryz.func111, Tryz.ntmps111
 go_wp2_with fail
 go_loopw [9] (fun i wr => ∃ k : Nat, k ≤ 4 ∧ i = .int .i64 k ∧ Below (w.heap.size + 1) (w.alloc (.cells #[.int .u8 k0, .string t, .int .i64 n, .int .i64 vn, .int .i64 vk] 78)) wr) (fun i _ => 4 - (intOf i).toNat)
 case atStart => exact ⟨0, Nat.zero_le _, rfl, Below.refl _ _⟩
 case round =>
  obtain ⟨k, hk, rfl, hbr⟩ := hrel
  have hz : w.heap.size + 1 ≤ wr.heap.size := by have h1 := hbr.size; simp only [World.size_alloc] at h1; exact h1
  have hz1 : w.heap.size < wr.heap.size := by omega
  have hz2 : b < wr.heap.size := by omega
  have HB : Hid (Below w.heap.size w wr) := (below_alloc w _).trans (hbr.mono (by omega))
  have p0 : wr.cell? ⟨w.heap.size, 0, none⟩ = some (.int .u8 k0) := (hbr.cell (p := ⟨w.heap.size, 0, none⟩) (by show w.heap.size < w.heap.size + 1; omega)).trans (cell_new w #[.int .u8 k0, .string t, .int .i64 n, .int .i64 vn, .int .i64 vk] 78 0 _ rfl)
  have p1 : wr.cell? ⟨w.heap.size, 1, none⟩ = some (.string t) := (hbr.cell (p := ⟨w.heap.size, 1, none⟩) (by show w.heap.size < w.heap.size + 1; omega)).trans (cell_new w #[.int .u8 k0, .string t, .int .i64 n, .int .i64 vn, .int .i64 vk] 78 1 _ rfl)
  have p2 : wr.cell? ⟨w.heap.size, 2, none⟩ = some (.int .i64 n) := (hbr.cell (p := ⟨w.heap.size, 2, none⟩) (by show w.heap.size < w.heap.size + 1; omega)).trans (cell_new w #[.int .u8 k0, .string t, .int .i64 n, .int .i64 vn, .int .i64 vk] 78 2 _ rfl)
  have p3 : wr.cell? ⟨w.heap.size, 3, none⟩ = some (.int .i64 vn) := (hbr.cell (p := ⟨w.heap.size, 3, none⟩) (by show w.heap.size < w.heap.size + 1; omega)).trans (cell_new w #[.int .u8 k0, .string t, .int .i64 n, .int .i64 vn, .int .i64 vk] 78 3 _ rfl)
  have p4 : wr.cell? ⟨w.heap.size, 4, none⟩ = some (.int .i64 vk) := (hbr.cell (p := ⟨w.heap.size, 4, none⟩) (by show w.heap.size < w.heap.size + 1; omega)).trans (cell_new w #[.int .u8 k0, .string t, .int .i64 n, .int .i64 vn, .int .i64 vk] 78 4 _ rfl)
  match k, hk with
  | 0, _ =>
   have q0 : wr.cell? ⟨b, 0, none⟩ = some (.int .u8 1) := (hbr.cell (p := ⟨b, 0, none⟩) (by show b < w.heap.size + 1; omega)).trans (cell_alloc hb (hr.out 0 _ rfl))
   have q1 : wr.cell? ⟨b, 1, none⟩ = some (.func (.func 120) #[] #[]) := (hbr.cell (p := ⟨b, 1, none⟩) (by show b < w.heap.size + 1; omega)).trans (cell_alloc hb (hr.out 1 _ rfl))
   have q2 : wr.cell? ⟨b, 2, none⟩ = some (.func (.func 121) #[] #[.pointer (some ⟨r1, 0, none⟩)]) := (hbr.cell (p := ⟨b, 2, none⟩) (by show b < w.heap.size + 1; omega)).trans (cell_alloc hb (hr.out 2 _ rfl))
   clear hr
   go_wp2_with fail
   go_roundw
   case rel => exact ⟨1, by omega, rfl, hbr.alloc (by omega) _⟩
   case measure => simp [intOf]
  | 1, _ =>
   have q0 : wr.cell? ⟨b, 3, none⟩ = some (.int .u8 2) := (hbr.cell (p := ⟨b, 3, none⟩) (by show b < w.heap.size + 1; omega)).trans (cell_alloc hb (hr.out 3 _ rfl))
   have q1 : wr.cell? ⟨b, 4, none⟩ = some (.func (.func 122) #[] #[]) := (hbr.cell (p := ⟨b, 4, none⟩) (by show b < w.heap.size + 1; omega)).trans (cell_alloc hb (hr.out 4 _ rfl))
   have q2 : wr.cell? ⟨b, 5, none⟩ = some (.func (.func 123) #[] #[]) := (hbr.cell (p := ⟨b, 5, none⟩) (by show b < w.heap.size + 1; omega)).trans (cell_alloc hb (hr.out 5 _ rfl))
   clear hr
   go_wp2_with fail
   go_roundw
   case rel => exact ⟨2, by omega, rfl, hbr.alloc (by omega) _⟩
   case measure => simp [intOf]
  | 2, _ =>
   have q0 : wr.cell? ⟨b, 6, none⟩ = some (.int .u8 3) := (hbr.cell (p := ⟨b, 6, none⟩) (by show b < w.heap.size + 1; omega)).trans (cell_alloc hb (hr.out 6 _ rfl))
   have q1 : wr.cell? ⟨b, 7, none⟩ = some (.func (.func 125) #[] #[]) := (hbr.cell (p := ⟨b, 7, none⟩) (by show b < w.heap.size + 1; omega)).trans (cell_alloc hb (hr.out 7 _ rfl))
   have q2 : wr.cell? ⟨b, 8, none⟩ = some (.func (.func 126) #[] #[.pointer (some ⟨r2, 0, none⟩)]) := (hbr.cell (p := ⟨b, 8, none⟩) (by show b < w.heap.size + 1; omega)).trans (cell_alloc hb (hr.out 8 _ rfl))
   clear hr
   go_wp2_with fail
   go_roundw
   case rel => exact ⟨3, by omega, rfl, hbr.alloc (by omega) _⟩
   case measure => simp [intOf]
  | 3, _ =>
   have q0 : wr.cell? ⟨b, 9, none⟩ = some (.int .u8 4) := (hbr.cell (p := ⟨b, 9, none⟩) (by show b < w.heap.size + 1; omega)).trans (cell_alloc hb (hr.out 9 _ rfl))
   have q1 : wr.cell? ⟨b, 10, none⟩ = some (.func (.func 128) #[] #[]) := (hbr.cell (p := ⟨b, 10, none⟩) (by show b < w.heap.size + 1; omega)).trans (cell_alloc hb (hr.out 10 _ rfl))
   have q2 : wr.cell? ⟨b, 11, none⟩ = some (.func (.func 129) #[] #[.pointer (some ⟨r3, 0, none⟩)]) := (hbr.cell (p := ⟨b, 11, none⟩) (by show b < w.heap.size + 1; omega)).trans (cell_alloc hb (hr.out 11 _ rfl))
   clear hr
   go_wp2_with fail
   go_roundw
   case rel => exact ⟨4, by omega, rfl, hbr.alloc (by omega) _⟩
   case measure => simp [intOf]
  | 4, _ =>
   go_wp2_with fail
   go_ret
   exact ⟨rfl, HB.out⟩
end Go.Proofs.YtljggjllijacjaaGreatDoor
