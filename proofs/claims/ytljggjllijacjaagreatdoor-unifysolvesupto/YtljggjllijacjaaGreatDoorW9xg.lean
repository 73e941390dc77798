/- What obeys says of a cell: the way in which the cell has what its kind has not. What obeys says of a cell: the way in which the cell has what its kind has not. What obeys says of a cell: the way in which the cell has what its kind has not. What obeys says of a cell: the way in which the cell has what its kind has not. -/
import Derived.Test.YtljggjllijacjaaGreatDoorW8g
namespace Go.Proofs.YtljggjllijacjaaGreatDoor
open Go.RowKit
attribute [local go_sem ↓] Go.wp_at_zero Go.wp_at_succ
set_option maxHeartbeats 4000000 in
theorem c62_1_false (t : ByteArray) (n vn vk : Int) (v : Value) (w : World) (hR : Rules w v) (hg : eqCells 1 t n vn vk 1 ⟨#[]⟩ n 0 0 = false) :
  Calls Tryz.prog 111 #[.agg #[.int .u8 1, .string t, .int .i64 n, .int .i64 vn, .int .i64 vk], v] w fun e w' => e = .returned (.bool (false)) ∧ Below w.heap.size w w' := by
 obtain ⟨b, r1, r2, r3, rfl, hb, hr, _h1, _h2, _h3⟩ := hR.ex
 have hr : Hid (w.rangeAt b 0 (ruleVals r1 r2 r3)) := hr
 have hE := eql60 1 t n vn vk 1 ⟨#[]⟩ n 0 0
 rw [hg] at hE
 clear hg hR
 go_enter Tryz.func111, Tryz.ntmps111
 go_wp2_with fail
 go_loopw [9] (fun i wr => ∃ k : Nat, k ≤ 0 ∧ i = .int .i64 k ∧ Below (w.heap.size + 1) (w.alloc (.cells #[.int .u8 1, .string t, .int .i64 n, .int .i64 vn, .int .i64 vk] 78)) wr) (fun i _ => 4 - (intOf i).toNat)
 case atStart => exact ⟨0, Nat.zero_le _, rfl, Below.refl _ _⟩
 case round =>
  obtain ⟨k, hk, rfl, hbr⟩ := hrel
  have hz : w.heap.size + 1 ≤ wr.heap.size := by have h1 := hbr.size; simp only [World.size_alloc] at h1; exact h1
  have hz1 : w.heap.size < wr.heap.size := by omega
  have hz2 : b < wr.heap.size := by omega
  have HB : Hid (Below w.heap.size w wr) := (below_alloc w _).trans (hbr.mono (by omega))
  have p0 : wr.cell? ⟨w.heap.size, 0, none⟩ = some (.int .u8 1) := (hbr.cell (p := ⟨w.heap.size, 0, none⟩) (by show w.heap.size < w.heap.size + 1; omega)).trans (cell_new w #[.int .u8 1, .string t, .int .i64 n, .int .i64 vn, .int .i64 vk] 78 0 _ rfl)
  have p1 : wr.cell? ⟨w.heap.size, 1, none⟩ = some (.string t) := (hbr.cell (p := ⟨w.heap.size, 1, none⟩) (by show w.heap.size < w.heap.size + 1; omega)).trans (cell_new w #[.int .u8 1, .string t, .int .i64 n, .int .i64 vn, .int .i64 vk] 78 1 _ rfl)
  have p2 : wr.cell? ⟨w.heap.size, 2, none⟩ = some (.int .i64 n) := (hbr.cell (p := ⟨w.heap.size, 2, none⟩) (by show w.heap.size < w.heap.size + 1; omega)).trans (cell_new w #[.int .u8 1, .string t, .int .i64 n, .int .i64 vn, .int .i64 vk] 78 2 _ rfl)
  have p3 : wr.cell? ⟨w.heap.size, 3, none⟩ = some (.int .i64 vn) := (hbr.cell (p := ⟨w.heap.size, 3, none⟩) (by show w.heap.size < w.heap.size + 1; omega)).trans (cell_new w #[.int .u8 1, .string t, .int .i64 n, .int .i64 vn, .int .i64 vk] 78 3 _ rfl)
  have p4 : wr.cell? ⟨w.heap.size, 4, none⟩ = some (.int .i64 vk) := (hbr.cell (p := ⟨w.heap.size, 4, none⟩) (by show w.heap.size < w.heap.size + 1; omega)).trans (cell_new w #[.int .u8 1, .string t, .int .i64 n, .int .i64 vn, .int .i64 vk] 78 4 _ rfl)
  match k, hk with
  | 0, _ =>
   have q0 : wr.cell? ⟨b, 0, none⟩ = some (.int .u8 1) := (hbr.cell (p := ⟨b, 0, none⟩) (by show b < w.heap.size + 1; omega)).trans (cell_alloc hb (hr.out 0 _ rfl))
   have q1 : wr.cell? ⟨b, 1, none⟩ = some (.func (.func 120) #[] #[]) := (hbr.cell (p := ⟨b, 1, none⟩) (by show b < w.heap.size + 1; omega)).trans (cell_alloc hb (hr.out 1 _ rfl))
   have q2 : wr.cell? ⟨b, 2, none⟩ = some (.func (.func 121) #[] #[.pointer (some ⟨r1, 0, none⟩)]) := (hbr.cell (p := ⟨b, 2, none⟩) (by show b < w.heap.size + 1; omega)).trans (cell_alloc hb (hr.out 2 _ rfl))
   have hW : Hid (Below w.heap.size w (wr.alloc (.cells #[.int .u8 1, .func (.func 120) #[] #[], .func (.func 121) #[] #[.pointer (some ⟨r1, 0, none⟩)]] 157))) := HB.out.alloc (by omega) _
   clear hr
   go_wp2_with fail
   first
   | go_region_with (first | (go_at_call 120; refine (c69 1 t n vn vk _).mono ?_; rintro e w' ⟨rfl, hb1⟩; obtain ⟨hc, hf⟩ := bcell hb1))
   | fail
   all_goals go_wp2
   all_goals go_ret
   all_goals exact ⟨rfl, Below.trans (Below.drew hW.out) (Below.mono hb1 (by simp; omega))⟩
end Go.Proofs.YtljggjllijacjaaGreatDoor

namespace Go.Proofs.YtljggjllijacjaaGreatDoor
open Go.RowKit
attribute [local go_sem ↓] Go.wp_at_zero Go.wp_at_succ
set_option maxHeartbeats 4000000 in
theorem c62_2_false (t : ByteArray) (n vn vk : Int) (v : Value) (w : World) (hR : Rules w v) (hg : eqCells 2 t n vn vk 2 t 0 0 0 = false) :
  Calls Tryz.prog 111 #[.agg #[.int .u8 2, .string t, .int .i64 n, .int .i64 vn, .int .i64 vk], v] w fun e w' => e = .returned (.bool (false)) ∧ Below w.heap.size w w' := by
 obtain ⟨b, r1, r2, r3, rfl, hb, hr, _h1, _h2, _h3⟩ := hR.ex
 have hr : Hid (w.rangeAt b 0 (ruleVals r1 r2 r3)) := hr
 have hE := eql60 2 t n vn vk 2 t 0 0 0
 rw [hg] at hE
 clear hg hR
 go_enter Tryz.func111, Tryz.ntmps111
 go_wp2_with fail
 go_loopw [9] (fun i wr => ∃ k : Nat, k ≤ 1 ∧ i = .int .i64 k ∧ Below (w.heap.size + 1) (w.alloc (.cells #[.int .u8 2, .string t, .int .i64 n, .int .i64 vn, .int .i64 vk] 78)) wr) (fun i _ => 4 - (intOf i).toNat)
 case atStart => exact ⟨0, Nat.zero_le _, rfl, Below.refl _ _⟩
 case round =>
  obtain ⟨k, hk, rfl, hbr⟩ := hrel
  have hz : w.heap.size + 1 ≤ wr.heap.size := by have h1 := hbr.size; simp only [World.size_alloc] at h1; exact h1
  have hz1 : w.heap.size < wr.heap.size := by omega
  have hz2 : b < wr.heap.size := by omega
  have HB : Hid (Below w.heap.size w wr) := (below_alloc w _).trans (hbr.mono (by omega))
  have p0 : wr.cell? ⟨w.heap.size, 0, none⟩ = some (.int .u8 2) := (hbr.cell (p := ⟨w.heap.size, 0, none⟩) (by show w.heap.size < w.heap.size + 1; omega)).trans (cell_new w #[.int .u8 2, .string t, .int .i64 n, .int .i64 vn, .int .i64 vk] 78 0 _ rfl)
  have p1 : wr.cell? ⟨w.heap.size, 1, none⟩ = some (.string t) := (hbr.cell (p := ⟨w.heap.size, 1, none⟩) (by show w.heap.size < w.heap.size + 1; omega)).trans (cell_new w #[.int .u8 2, .string t, .int .i64 n, .int .i64 vn, .int .i64 vk] 78 1 _ rfl)
  have p2 : wr.cell? ⟨w.heap.size, 2, none⟩ = some (.int .i64 n) := (hbr.cell (p := ⟨w.heap.size, 2, none⟩) (by show w.heap.size < w.heap.size + 1; omega)).trans (cell_new w #[.int .u8 2, .string t, .int .i64 n, .int .i64 vn, .int .i64 vk] 78 2 _ rfl)
  have p3 : wr.cell? ⟨w.heap.size, 3, none⟩ = some (.int .i64 vn) := (hbr.cell (p := ⟨w.heap.size, 3, none⟩) (by show w.heap.size < w.heap.size + 1; omega)).trans (cell_new w #[.int .u8 2, .string t, .int .i64 n, .int .i64 vn, .int .i64 vk] 78 3 _ rfl)
  have p4 : wr.cell? ⟨w.heap.size, 4, none⟩ = some (.int .i64 vk) := (hbr.cell (p := ⟨w.heap.size, 4, none⟩) (by show w.heap.size < w.heap.size + 1; omega)).trans (cell_new w #[.int .u8 2, .string t, .int .i64 n, .int .i64 vn, .int .i64 vk] 78 4 _ rfl)
  match k, hk with
  | 0, _ =>
   have q0 : wr.cell? ⟨b, 0, none⟩ = some (.int .u8 1) := (hbr.cell (p := ⟨b, 0, none⟩) (by show b < w.heap.size + 1; omega)).trans (cell_alloc hb (hr.out 0 _ rfl))
   have q1 : wr.cell? ⟨b, 1, none⟩ = some (.func (.func 120) #[] #[]) := (hbr.cell (p := ⟨b, 1, none⟩) (by show b < w.heap.size + 1; omega)).trans (cell_alloc hb (hr.out 1 _ rfl))
   have q2 : wr.cell? ⟨b, 2, none⟩ = some (.func (.func 121) #[] #[.pointer (some ⟨r1, 0, none⟩)]) := (hbr.cell (p := ⟨b, 2, none⟩) (by show b < w.heap.size + 1; omega)).trans (cell_alloc hb (hr.out 2 _ rfl))
   clear hr hE
   go_wp2_with fail
   go_roundw
   case rel => exact ⟨1, by omega, rfl, hbr.alloc (by omega) _⟩
   case measure => simp [intOf]
  | 1, _ =>
   have q0 : wr.cell? ⟨b, 3, none⟩ = some (.int .u8 2) := (hbr.cell (p := ⟨b, 3, none⟩) (by show b < w.heap.size + 1; omega)).trans (cell_alloc hb (hr.out 3 _ rfl))
   have q1 : wr.cell? ⟨b, 4, none⟩ = some (.func (.func 122) #[] #[]) := (hbr.cell (p := ⟨b, 4, none⟩) (by show b < w.heap.size + 1; omega)).trans (cell_alloc hb (hr.out 4 _ rfl))
   have q2 : wr.cell? ⟨b, 5, none⟩ = some (.func (.func 123) #[] #[]) := (hbr.cell (p := ⟨b, 5, none⟩) (by show b < w.heap.size + 1; omega)).trans (cell_alloc hb (hr.out 5 _ rfl))
   have hW : Hid (Below w.heap.size w (wr.alloc (.cells #[.int .u8 2, .func (.func 122) #[] #[], .func (.func 123) #[] #[]] 157))) := HB.out.alloc (by omega) _
   clear hr
   go_wp2_with fail
   first
   | go_region_with (first | (go_at_call 122; refine (c71 2 t n vn vk _).mono ?_; rintro e w' ⟨rfl, hb1⟩; obtain ⟨hc, hf⟩ := bcell hb1))
   | fail
   all_goals go_wp2
   all_goals go_ret
   all_goals exact ⟨rfl, Below.trans (Below.drew hW.out) (Below.mono hb1 (by simp; omega))⟩
end Go.Proofs.YtljggjllijacjaaGreatDoor

namespace Go.Proofs.YtljggjllijacjaaGreatDoor
open Go.RowKit
attribute [local go_sem ↓] Go.wp_at_zero Go.wp_at_succ
set_option maxHeartbeats 4000000 in
theorem c62_3_false (t : ByteArray) (n vn vk : Int) (v : Value) (w : World) (hR : Rules w v) (hg : eqCells 3 t n vn vk 3 t n 0 0 = false) :
  Calls Tryz.prog 111 #[.agg #[.int .u8 3, .string t, .int .i64 n, .int .i64 vn, .int .i64 vk], v] w fun e w' => e = .returned (.bool (false)) ∧ Below w.heap.size w w' := by
 obtain ⟨b, r1, r2, r3, rfl, hb, hr, _h1, _h2, _h3⟩ := hR.ex
 have hr : Hid (w.rangeAt b 0 (ruleVals r1 r2 r3)) := hr
 have hE := eql60 3 t n vn vk 3 t n 0 0
 rw [hg] at hE
 clear hg hR
 go_enter Tryz.func111, Tryz.ntmps111
 go_wp2_with fail
 go_loopw [9] (fun i wr => ∃ k : Nat, k ≤ 2 ∧ i = .int .i64 k ∧ Below (w.heap.size + 1) (w.alloc (.cells #[.int .u8 3, .string t, .int .i64 n, .int .i64 vn, .int .i64 vk] 78)) wr) (fun i _ => 4 - (intOf i).toNat)
 case atStart => exact ⟨0, Nat.zero_le _, rfl, Below.refl _ _⟩
 case round =>
  obtain ⟨k, hk, rfl, hbr⟩ := hrel
  have hz : w.heap.size + 1 ≤ wr.heap.size := by have h1 := hbr.size; simp only [World.size_alloc] at h1; exact h1
  have hz1 : w.heap.size < wr.heap.size := by omega
  have hz2 : b < wr.heap.size := by omega
  have HB : Hid (Below w.heap.size w wr) := (below_alloc w _).trans (hbr.mono (by omega))
  have p0 : wr.cell? ⟨w.heap.size, 0, none⟩ = some (.int .u8 3) := (hbr.cell (p := ⟨w.heap.size, 0, none⟩) (by show w.heap.size < w.heap.size + 1; omega)).trans (cell_new w #[.int .u8 3, .string t, .int .i64 n, .int .i64 vn, .int .i64 vk] 78 0 _ rfl)
  have p1 : wr.cell? ⟨w.heap.size, 1, none⟩ = some (.string t) := (hbr.cell (p := ⟨w.heap.size, 1, none⟩) (by show w.heap.size < w.heap.size + 1; omega)).trans (cell_new w #[.int .u8 3, .string t, .int .i64 n, .int .i64 vn, .int .i64 vk] 78 1 _ rfl)
  have p2 : wr.cell? ⟨w.heap.size, 2, none⟩ = some (.int .i64 n) := (hbr.cell (p := ⟨w.heap.size, 2, none⟩) (by show w.heap.size < w.heap.size + 1; omega)).trans (cell_new w #[.int .u8 3, .string t, .int .i64 n, .int .i64 vn, .int .i64 vk] 78 2 _ rfl)
  have p3 : wr.cell? ⟨w.heap.size, 3, none⟩ = some (.int .i64 vn) := (hbr.cell (p := ⟨w.heap.size, 3, none⟩) (by show w.heap.size < w.heap.size + 1; omega)).trans (cell_new w #[.int .u8 3, .string t, .int .i64 n, .int .i64 vn, .int .i64 vk] 78 3 _ rfl)
  have p4 : wr.cell? ⟨w.heap.size, 4, none⟩ = some (.int .i64 vk) := (hbr.cell (p := ⟨w.heap.size, 4, none⟩) (by show w.heap.size < w.heap.size + 1; omega)).trans (cell_new w #[.int .u8 3, .string t, .int .i64 n, .int .i64 vn, .int .i64 vk] 78 4 _ rfl)
  match k, hk with
  | 0, _ =>
   have q0 : wr.cell? ⟨b, 0, none⟩ = some (.int .u8 1) := (hbr.cell (p := ⟨b, 0, none⟩) (by show b < w.heap.size + 1; omega)).trans (cell_alloc hb (hr.out 0 _ rfl))
   have q1 : wr.cell? ⟨b, 1, none⟩ = some (.func (.func 120) #[] #[]) := (hbr.cell (p := ⟨b, 1, none⟩) (by show b < w.heap.size + 1; omega)).trans (cell_alloc hb (hr.out 1 _ rfl))
   have q2 : wr.cell? ⟨b, 2, none⟩ = some (.func (.func 121) #[] #[.pointer (some ⟨r1, 0, none⟩)]) := (hbr.cell (p := ⟨b, 2, none⟩) (by show b < w.heap.size + 1; omega)).trans (cell_alloc hb (hr.out 2 _ rfl))
   clear hr hE
   go_wp2_with fail
   go_roundw
   case rel => exact ⟨1, by omega, rfl, hbr.alloc (by omega) _⟩
   case measure => simp [intOf]
  | 1, _ =>
   have q0 : wr.cell? ⟨b, 3, none⟩ = some (.int .u8 2) := (hbr.cell (p := ⟨b, 3, none⟩) (by show b < w.heap.size + 1; omega)).trans (cell_alloc hb (hr.out 3 _ rfl))
   have q1 : wr.cell? ⟨b, 4, none⟩ = some (.func (.func 122) #[] #[]) := (hbr.cell (p := ⟨b, 4, none⟩) (by show b < w.heap.size + 1; omega)).trans (cell_alloc hb (hr.out 4 _ rfl))
   have q2 : wr.cell? ⟨b, 5, none⟩ = some (.func (.func 123) #[] #[]) := (hbr.cell (p := ⟨b, 5, none⟩) (by show b < w.heap.size + 1; omega)).trans (cell_alloc hb (hr.out 5 _ rfl))
   clear hr hE
   go_wp2_with fail
   go_roundw
   case rel => exact ⟨2, by omega, rfl, hbr.alloc (by omega) _⟩
   case measure => simp [intOf]
  | 2, _ =>
   have q0 : wr.cell? ⟨b, 6, none⟩ = some (.int .u8 3) := (hbr.cell (p := ⟨b, 6, none⟩) (by show b < w.heap.size + 1; omega)).trans (cell_alloc hb (hr.out 6 _ rfl))
   have q1 : wr.cell? ⟨b, 7, none⟩ = some (.func (.func 125) #[] #[]) := (hbr.cell (p := ⟨b, 7, none⟩) (by show b < w.heap.size + 1; omega)).trans (cell_alloc hb (hr.out 7 _ rfl))
   have q2 : wr.cell? ⟨b, 8, none⟩ = some (.func (.func 126) #[] #[.pointer (some ⟨r2, 0, none⟩)]) := (hbr.cell (p := ⟨b, 8, none⟩) (by show b < w.heap.size + 1; omega)).trans (cell_alloc hb (hr.out 8 _ rfl))
   have hW : Hid (Below w.heap.size w (wr.alloc (.cells #[.int .u8 3, .func (.func 125) #[] #[], .func (.func 126) #[] #[.pointer (some ⟨r2, 0, none⟩)]] 157))) := HB.out.alloc (by omega) _
   clear hr
   go_wp2_with fail
   first
   | go_region_with (first | (go_at_call 125; refine (c73 3 t n vn vk _).mono ?_; rintro e w' ⟨rfl, hb1⟩; obtain ⟨hc, hf⟩ := bcell hb1))
   | fail
   all_goals go_wp2
   all_goals go_ret
   all_goals exact ⟨rfl, Below.trans (Below.drew hW.out) (Below.mono hb1 (by simp; omega))⟩
end Go.Proofs.YtljggjllijacjaaGreatDoor

namespace Go.Proofs.YtljggjllijacjaaGreatDoor
open Go.RowKit
attribute [local go_sem ↓] Go.wp_at_zero Go.wp_at_succ
set_option maxHeartbeats 4000000 in
theorem c62_4_false (t : ByteArray) (n vn vk : Int) (v : Value) (w : World) (hR : Rules w v) (hg : eqCells 4 t n vn vk 4 ⟨#[]⟩ 0 vn vk = false) :
  Calls Tryz.prog 111 #[.agg #[.int .u8 4, .string t, .int .i64 n, .int .i64 vn, .int .i64 vk], v] w fun e w' => e = .returned (.bool (false)) ∧ Below w.heap.size w w' := by
 obtain ⟨b, r1, r2, r3, rfl, hb, hr, _h1, _h2, _h3⟩ := hR.ex
 have hr : Hid (w.rangeAt b 0 (ruleVals r1 r2 r3)) := hr
 have hE := eql60 4 t n vn vk 4 ⟨#[]⟩ 0 vn vk
 rw [hg] at hE
 clear hg hR
 go_enter Tryz.func111, Tryz.ntmps111
 go_wp2_with fail
 go_loopw [9] (fun i wr => ∃ k : Nat, k ≤ 3 ∧ i = .int .i64 k ∧ Below (w.heap.size + 1) (w.alloc (.cells #[.int .u8 4, .string t, .int .i64 n, .int .i64 vn, .int .i64 vk] 78)) wr) (fun i _ => 4 - (intOf i).toNat)
 case atStart => exact ⟨0, Nat.zero_le _, rfl, Below.refl _ _⟩
 case round =>
  obtain ⟨k, hk, rfl, hbr⟩ := hrel
  have hz : w.heap.size + 1 ≤ wr.heap.size := by have h1 := hbr.size; simp only [World.size_alloc] at h1; exact h1
  have hz1 : w.heap.size < wr.heap.size := by omega
  have hz2 : b < wr.heap.size := by omega
  have HB : Hid (Below w.heap.size w wr) := (below_alloc w _).trans (hbr.mono (by omega))
  have p0 : wr.cell? ⟨w.heap.size, 0, none⟩ = some (.int .u8 4) := (hbr.cell (p := ⟨w.heap.size, 0, none⟩) (by show w.heap.size < w.heap.size + 1; omega)).trans (cell_new w #[.int .u8 4, .string t, .int .i64 n, .int .i64 vn, .int .i64 vk] 78 0 _ rfl)
  have p1 : wr.cell? ⟨w.heap.size, 1, none⟩ = some (.string t) := (hbr.cell (p := ⟨w.heap.size, 1, none⟩) (by show w.heap.size < w.heap.size + 1; omega)).trans (cell_new w #[.int .u8 4, .string t, .int .i64 n, .int .i64 vn, .int .i64 vk] 78 1 _ rfl)
  have p2 : wr.cell? ⟨w.heap.size, 2, none⟩ = some (.int .i64 n) := (hbr.cell (p := ⟨w.heap.size, 2, none⟩) (by show w.heap.size < w.heap.size + 1; omega)).trans (cell_new w #[.int .u8 4, .string t, .int .i64 n, .int .i64 vn, .int .i64 vk] 78 2 _ rfl)
  have p3 : wr.cell? ⟨w.heap.size, 3, none⟩ = some (.int .i64 vn) := (hbr.cell (p := ⟨w.heap.size, 3, none⟩) (by show w.heap.size < w.heap.size + 1; omega)).trans (cell_new w #[.int .u8 4, .string t, .int .i64 n, .int .i64 vn, .int .i64 vk] 78 3 _ rfl)
  have p4 : wr.cell? ⟨w.heap.size, 4, none⟩ = some (.int .i64 vk) := (hbr.cell (p := ⟨w.heap.size, 4, none⟩) (by show w.heap.size < w.heap.size + 1; omega)).trans (cell_new w #[.int .u8 4, .string t, .int .i64 n, .int .i64 vn, .int .i64 vk] 78 4 _ rfl)
  match k, hk with
  | 0, _ =>
   have q0 : wr.cell? ⟨b, 0, none⟩ = some (.int .u8 1) := (hbr.cell (p := ⟨b, 0, none⟩) (by show b < w.heap.size + 1; omega)).trans (cell_alloc hb (hr.out 0 _ rfl))
   have q1 : wr.cell? ⟨b, 1, none⟩ = some (.func (.func 120) #[] #[]) := (hbr.cell (p := ⟨b, 1, none⟩) (by show b < w.heap.size + 1; omega)).trans (cell_alloc hb (hr.out 1 _ rfl))
   have q2 : wr.cell? ⟨b, 2, none⟩ = some (.func (.func 121) #[] #[.pointer (some ⟨r1, 0, none⟩)]) := (hbr.cell (p := ⟨b, 2, none⟩) (by show b < w.heap.size + 1; omega)).trans (cell_alloc hb (hr.out 2 _ rfl))
   clear hr hE
   go_wp2_with fail
   go_roundw
   case rel => exact ⟨1, by omega, rfl, hbr.alloc (by omega) _⟩
   case measure => simp [intOf]
  | 1, _ =>
   have q0 : wr.cell? ⟨b, 3, none⟩ = some (.int .u8 2) := (hbr.cell (p := ⟨b, 3, none⟩) (by show b < w.heap.size + 1; omega)).trans (cell_alloc hb (hr.out 3 _ rfl))
   have q1 : wr.cell? ⟨b, 4, none⟩ = some (.func (.func 122) #[] #[]) := (hbr.cell (p := ⟨b, 4, none⟩) (by show b < w.heap.size + 1; omega)).trans (cell_alloc hb (hr.out 4 _ rfl))
   have q2 : wr.cell? ⟨b, 5, none⟩ = some (.func (.func 123) #[] #[]) := (hbr.cell (p := ⟨b, 5, none⟩) (by show b < w.heap.size + 1; omega)).trans (cell_alloc hb (hr.out 5 _ rfl))
   clear hr hE
   go_wp2_with fail
   go_roundw
   case rel => exact ⟨2, by omega, rfl, hbr.alloc (by omega) _⟩
   case measure => simp [intOf]
  | 2, _ =>
   have q0 : wr.cell? ⟨b, 6, none⟩ = some (.int .u8 3) := (hbr.cell (p := ⟨b, 6, none⟩) (by show b < w.heap.size + 1; omega)).trans (cell_alloc hb (hr.out 6 _ rfl))
   have q1 : wr.cell? ⟨b, 7, none⟩ = some (.func (.func 125) #[] #[]) := (hbr.cell (p := ⟨b, 7, none⟩) (by show b < w.heap.size + 1; omega)).trans (cell_alloc hb (hr.out 7 _ rfl))
   have q2 : wr.cell? ⟨b, 8, none⟩ = some (.func (.func 126) #[] #[.pointer (some ⟨r2, 0, none⟩)]) := (hbr.cell (p := ⟨b, 8, none⟩) (by show b < w.heap.size + 1; omega)).trans (cell_alloc hb (hr.out 8 _ rfl))
   clear hr hE
   go_wp2_with fail
   go_roundw
   case rel => exact ⟨3, by omega, rfl, hbr.alloc (by omega) _⟩
   case measure => simp [intOf]
  | 3, _ =>
   have q0 : wr.cell? ⟨b, 9, none⟩ = some (.int .u8 4) := (hbr.cell (p := ⟨b, 9, none⟩) (by show b < w.heap.size + 1; omega)).trans (cell_alloc hb (hr.out 9 _ rfl))
   have q1 : wr.cell? ⟨b, 10, none⟩ = some (.func (.func 128) #[] #[]) := (hbr.cell (p := ⟨b, 10, none⟩) (by show b < w.heap.size + 1; omega)).trans (cell_alloc hb (hr.out 10 _ rfl))
   have q2 : wr.cell? ⟨b, 11, none⟩ = some (.func (.func 129) #[] #[.pointer (some ⟨r3, 0, none⟩)]) := (hbr.cell (p := ⟨b, 11, none⟩) (by show b < w.heap.size + 1; omega)).trans (cell_alloc hb (hr.out 11 _ rfl))
   have hW : Hid (Below w.heap.size w (wr.alloc (.cells #[.int .u8 4, .func (.func 128) #[] #[], .func (.func 129) #[] #[.pointer (some ⟨r3, 0, none⟩)]] 157))) := HB.out.alloc (by omega) _
   clear hr
   go_wp2_with fail
   first
   | go_region_with (first | (go_at_call 128; refine (c76 4 t n vn vk _).mono ?_; rintro e w' ⟨rfl, hb1⟩; obtain ⟨hc, hf⟩ := bcell hb1))
   | fail
   all_goals go_wp2
   all_goals go_ret
   all_goals exact ⟨rfl, Below.trans (Below.drew hW.out) (Below.mono hb1 (by simp; omega))⟩
end Go.Proofs.YtljggjllijacjaaGreatDoor
