/- Contracts of the closures that look at a cell, and of isSign. Contracts of the closure on structures and of the table of rules. When two cells are equal: all five fields are. -/
import Derived.Test.YtljggjllijacjaaGreatDoorWAg
import Derived.Deep.MidRow
import Derived.Laws.EntriesVeiled
namespace Go.Proofs.YtljggjllijacjaaGreatDoor
open Go.RowKit
theorem cell_alloc {w : World} {o : Obj} {p : Addr} {v : Value} (hp : p.block < w.heap.size) (h : w.cell? p = some v) : (w.alloc o).cell? p = some v := by
  rw [World.cell?_alloc_lt _ _ _ hp]; exact h
set_option maxHeartbeats 400000 in
theorem c70 (k : Int) (t : ByteArray) (n vn vk : Int) (lo hi : Int) (r : Nat) (w : World) (h : HoldsBetween w r lo hi) :
    Calls Tryz.prog 121 #[.agg #[.int .u8 k, .string t, .int .i64 n, .int .i64 vn, .int .i64 vk], .pointer (some ⟨r, 0, none⟩)] w fun e w' => e = .returned (.bool (between lo hi n)) ∧ Below w.heap.size w w' := by
  obtain ⟨a, b, h1, h2, h3, h4, h5, h6⟩ := h
  go_enter Tryz.func121, Tryz.ntmps121
  go_wp2_with fail
  refine (c78 lo hi n _ a b (cell_alloc h5 h2) (cell_alloc h6 h3)).mono ?_
  rintro e w' ⟨rfl, rfl⟩
  go_wp2
  go_ret
  exact ⟨rfl, by repeat (first | exact Below.refl _ _ | refine Below.drew ?_ | refine Below.alloc ?_ (by simp) _)⟩
set_option maxHeartbeats 400000 in
theorem c77 (k : Int) (t : ByteArray) (n vn vk : Int) (lo hi : Int) (r : Nat) (w : World) (h : HoldsBetween w r lo hi) :
    Calls Tryz.prog 129 #[.agg #[.int .u8 k, .string t, .int .i64 n, .int .i64 vn, .int .i64 vk], .pointer (some ⟨r, 0, none⟩)] w fun e w' => e = .returned (.bool (between lo hi vn && decide (0 ≤ vk))) ∧ Below w.heap.size w w' := by
  obtain ⟨a, b, h1, h2, h3, h4, h5, h6⟩ := h
  have H78 : ∀ w1 : World, w1.cell? ⟨a, 0, none⟩ = some (.int .i64 lo) → w1.cell? ⟨b, 0, none⟩ = some (.int .i64 hi) → Calls Tryz.prog 140 #[.int .i64 vn, .pointer (some ⟨a, 0, none⟩), .pointer (some ⟨b, 0, none⟩)] w1 fun e w' => e = .returned (.bool (between lo hi vn)) ∧ w' = w1 := fun w1 x y => c78 lo hi vn w1 a b x y
  generalize between lo hi vn = bb at *
  have H78 : Hid (∀ w1 : World, w1.cell? ⟨a, 0, none⟩ = some (.int .i64 lo) → w1.cell? ⟨b, 0, none⟩ = some (.int .i64 hi) → Calls Tryz.prog 140 #[.int .i64 vn, .pointer (some ⟨a, 0, none⟩), .pointer (some ⟨b, 0, none⟩)] w1 fun e w' => e = .returned (.bool bb) ∧ w' = w1) := H78
  cases bb
  all_goals
    go_enter Tryz.func129, Tryz.ntmps129
    go_wp2_with fail
    refine (H78.out _ (cell_alloc h5 h2) (cell_alloc h6 h3)).mono ?_
    rintro e w' ⟨rfl, rfl⟩
    go_wp2
    go_ret
    exact ⟨rfl, by repeat (first | exact Below.refl _ _ | refine Below.drew ?_ | refine Below.alloc ?_ (by simp) _)⟩
set_option maxHeartbeats 400000 in
theorem c72 (k : Int) (t : ByteArray) (n vn vk : Int) (w : World) (ht : t.size ≤ maxLen) :
    Calls Tryz.prog 123 #[.agg #[.int .u8 k, .string t, .int .i64 n, .int .i64 vn, .int .i64 vk]] w fun e w' => e = .returned (.bool (isNameB t.data.toList)) ∧ Below w.heap.size w w' := by
  go_enter Tryz.func123, Tryz.ntmps123
  go_wp2_with fail
  refine (c39 t _ ht).mono ?_
  rintro e w' ⟨rfl, rfl⟩
  go_wp2
  go_ret
  exact ⟨rfl, by repeat (first | exact Below.refl _ _ | refine Below.drew ?_ | refine Below.alloc ?_ (by simp) _)⟩

/-- The twelve signs. -/
def signs : List (List UInt8) := [[61], [58, 61], [64], [43], [45], [42], [60], [61, 60], [62], [62, 61], [61, 58, 61], [61, 92, 61]]
def isSignB (l : List UInt8) : Bool := signs.contains l
def signS (i : Nat) : ByteArray := ⟨(signs.getD i []).toArray⟩
def signVals : List Value := [.string (signS 0), .string (signS 1), .string (signS 2), .string (signS 3), .string (signS 4), .string (signS 5), .string (signS 6), .string (signS 7), .string (signS 8), .string (signS 9), .string (signS 10), .string (signS 11)]
/-- The package's row of signs holds them. -/
def Signs (w : World) : Prop := 0 < w.heap.size ∧ w.rangeAt 0 0 signVals
theorem Signs.below {w w' : World} (h : Signs w) (hb : Below w.heap.size w w') : Signs w' :=
  ⟨Nat.lt_of_lt_of_le h.1 hb.size, fun j v hv => (hb.cell (p := ⟨0, 0 + j, none⟩) h.1).trans (h.2 j v hv)⟩
theorem ix0 (w : World) : (Instr.index 148 (.agg signVals.toArray) (.int .i64 0)).run Tryz.prog w = .ok (.string (signS 0)) w := by kernel_rfl
theorem ix1 (w : World) : (Instr.index 148 (.agg signVals.toArray) (.int .i64 1)).run Tryz.prog w = .ok (.string (signS 1)) w := by kernel_rfl
theorem ix2 (w : World) : (Instr.index 148 (.agg signVals.toArray) (.int .i64 2)).run Tryz.prog w = .ok (.string (signS 2)) w := by kernel_rfl
theorem ix3 (w : World) : (Instr.index 148 (.agg signVals.toArray) (.int .i64 3)).run Tryz.prog w = .ok (.string (signS 3)) w := by kernel_rfl
theorem ix4 (w : World) : (Instr.index 148 (.agg signVals.toArray) (.int .i64 4)).run Tryz.prog w = .ok (.string (signS 4)) w := by kernel_rfl
theorem ix5 (w : World) : (Instr.index 148 (.agg signVals.toArray) (.int .i64 5)).run Tryz.prog w = .ok (.string (signS 5)) w := by kernel_rfl
theorem ix6 (w : World) : (Instr.index 148 (.agg signVals.toArray) (.int .i64 6)).run Tryz.prog w = .ok (.string (signS 6)) w := by kernel_rfl
theorem ix7 (w : World) : (Instr.index 148 (.agg signVals.toArray) (.int .i64 7)).run Tryz.prog w = .ok (.string (signS 7)) w := by kernel_rfl
theorem ix8 (w : World) : (Instr.index 148 (.agg signVals.toArray) (.int .i64 8)).run Tryz.prog w = .ok (.string (signS 8)) w := by kernel_rfl
theorem ix9 (w : World) : (Instr.index 148 (.agg signVals.toArray) (.int .i64 9)).run Tryz.prog w = .ok (.string (signS 9)) w := by kernel_rfl
theorem ix10 (w : World) : (Instr.index 148 (.agg signVals.toArray) (.int .i64 10)).run Tryz.prog w = .ok (.string (signS 10)) w := by kernel_rfl
theorem ix11 (w : World) : (Instr.index 148 (.agg signVals.toArray) (.int .i64 11)).run Tryz.prog w = .ok (.string (signS 11)) w := by kernel_rfl
theorem index_signs (k : Nat) (hk : k < 12) (w : World) : (Instr.index 148 (.agg signVals.toArray) (.int .i64 k)).run Tryz.prog w = .ok (.string (signS k)) w := by
  match k, hk with
  | 0, _ => exact ix0 w
  | 1, _ => exact ix1 w
  | 2, _ => exact ix2 w
  | 3, _ => exact ix3 w
  | 4, _ => exact ix4 w
  | 5, _ => exact ix5 w
  | 6, _ => exact ix6 w
  | 7, _ => exact ix7 w
  | 8, _ => exact ix8 w
  | 9, _ => exact ix9 w
  | 10, _ => exact ix10 w
  | 11, _ => exact ix11 w
theorem signS_data (k : Nat) : (signS k).data.toList = signs.getD k [] := by simp [signS]
theorem isSign_true (s : ByteArray) (k : Nat) (hk : k < 12) (h : signS k = s) : isSignB s.data.toList = true := by
  unfold isSignB
  rw [← h, signS_data]
  match k, hk with
  | 0, _ | 1, _ | 2, _ | 3, _ | 4, _ | 5, _ | 6, _ | 7, _ | 8, _ | 9, _ | 10, _ | 11, _ => rfl
theorem isSign_false (s : ByteArray) (h : ∀ j, j < 12 → signS j ≠ s) : isSignB s.data.toList = false := by
  unfold isSignB
  rw [Bool.eq_false_iff]
  intro h2
  rw [List.contains_iff_mem] at h2
  obtain ⟨j, hj, e⟩ := List.getElem_of_mem h2
  refine h j hj ?_
  have h3 : (signS j).data.toList = s.data.toList := by
    rw [signS_data, List.getD_eq_getElem?_getD, List.getElem?_eq_getElem hj]; exact e
  have h4 : (signS j).data = s.data := Array.toList_inj.1 h3
  cases s; cases hq : signS j; simp_all
set_option maxHeartbeats 400000 in
theorem c75 (s : ByteArray) (w : World) (h : Signs w) (hs : s.size ≤ maxLen) :
    Calls Tryz.prog 127 #[.string s] w fun e w' => e = .returned (.bool (isSignB s.data.toList)) ∧ w' = w := by
  have hix := index_signs
  go_enter Tryz.func127, Tryz.ntmps127
  go_wp2_with (refine wpList_load_mid rfl 148 (.global 0) rfl 0 0 rfl signVals _ h.2 Tryz.underlying148 rfl (by kernel_rfl) ?_)
  go_loop [6] (fun i => ∃ k : Nat, k ≤ 12 ∧ i = .int .i64 k ∧ Hid (∀ j, j < k → signS j ≠ s)) (fun i => 12 - (intOf i).toNat)
  case atStart => exact ⟨0, Nat.zero_le _, rfl, fun j hj => by omega⟩
  case round =>
    obtain ⟨k, hk, rfl, hall⟩ := hrel
    by_cases hlt : k < 12
    · have hk' := hix k hlt
      clear hix
      by_cases he : signS k = s
      · have hT : Hid (isSignB s.data.toList = true) := isSign_true s k hlt he
        go_wp2
        go_ret
        exact ⟨by rw [hT.out]; rfl, rfl⟩
      · have hN : Hid (∀ j, j < k + 1 → signS j ≠ s) := fun j hj => if e : j = k then e ▸ he else hall.out j (by omega)
        have hne : ((signS k).toList == s.toList) = false := by
          rw [beq_eq_false_iff_ne]; intro h2; apply he
          rw [ByteArray.toList_eq, ByteArray.toList_eq] at h2
          have h4 : (signS k).data = s.data := Array.toList_inj.1 h2
          cases s; cases hq : signS k; simp_all
        go_wp2
        go_round
        case rel => exact ⟨k + 1, by omega, by go_num, hN⟩
        case measure => simp [intOf]; omega
    · have hF : Hid (isSignB s.data.toList = false) := isSign_false s (fun j hj => hall.out j (by omega))
      go_wp2
      go_ret
      exact ⟨by rw [hF.out]; rfl, rfl⟩
end Go.Proofs.YtljggjllijacjaaGreatDoor

namespace Go.Proofs.YtljggjllijacjaaGreatDoor
open Go.RowKit
def structFits (lo hi : Int) (t : List UInt8) (n : Int) : Bool := (isNameB t && between lo hi n) || (isSignB t && (n == 2))
set_option maxHeartbeats 1000000 in
theorem c74 (k : Int) (t : ByteArray) (n vn vk : Int) (lo hi : Int) (r : Nat) (w : World) (h : HoldsBetween w r lo hi) (hS : Signs w) (ht : t.size ≤ maxLen) :
    Calls Tryz.prog 126 #[.agg #[.int .u8 k, .string t, .int .i64 n, .int .i64 vn, .int .i64 vk], .pointer (some ⟨r, 0, none⟩)] w fun e w' => e = .returned (.bool (structFits lo hi t.data.toList n)) ∧ Below w.heap.size w w' := by
  obtain ⟨a, b, h1, h2, h3, h4, h5, h6⟩ := h
  have H39 := fun o : Obj => c39 t (w.alloc o) ht
  have H78 := fun o : Obj => c78 lo hi n (w.alloc o) a b (cell_alloc h5 h2) (cell_alloc h6 h3)
  have H75 := fun o : Obj => c75 t (w.alloc o) (hS.below ((Below.refl _ _).alloc (Nat.le_refl _) o)) ht
  have hsp : structFits lo hi t.data.toList n = ((isNameB t.data.toList && between lo hi n) || (isSignB t.data.toList && (n == 2))) := rfl
  rw [hsp]; clear hsp
  generalize isNameB t.data.toList = b1 at *
  generalize between lo hi n = b2 at *
  generalize isSignB t.data.toList = b3 at *
  have H39 : Hid (∀ o, _) := H39
  have H78 : Hid (∀ o, _) := H78
  have H75 : Hid (∀ o, _) := H75
  clear hS h5 h6 h2 h3
  cases b1 <;> cases b2 <;> cases b3
  all_goals
    go_enter Tryz.func126, Tryz.ntmps126
    go_wp2_with (first | (go_at_call 124; refine (H39.out _).mono ?_; rintro e w' ⟨rfl, rfl⟩) | (go_at_call 140; refine (H78.out _).mono ?_; rintro e w' ⟨rfl, rfl⟩) | (go_at_call 127; refine (H75.out _).mono ?_; rintro e w' ⟨rfl, rfl⟩))
    go_ret
    exact ⟨rfl, by repeat (first | exact Below.refl _ _ | refine Below.drew ?_ | refine Below.alloc ?_ (by simp) _)⟩

/-- The table of rules, as it lies in memory. -/
def ruleVals (r1 r2 r3 : Nat) : List Value :=
  [.int .u8 1, .func (.func 120) #[] #[], .func (.func 121) #[] #[.pointer (some ⟨r1, 0, none⟩)],
   .int .u8 2, .func (.func 122) #[] #[], .func (.func 123) #[] #[],
   .int .u8 3, .func (.func 125) #[] #[], .func (.func 126) #[] #[.pointer (some ⟨r2, 0, none⟩)],
   .int .u8 4, .func (.func 128) #[] #[], .func (.func 129) #[] #[.pointer (some ⟨r3, 0, none⟩)]]
structure Rules (w : World) (v : Value) : Prop where
  ex : ∃ b r1 r2 r3 : Nat, v = .slice (some ⟨b, 0, none⟩) 4 4 ∧ b < w.heap.size ∧ w.rangeAt b 0 (ruleVals r1 r2 r3) ∧
    HoldsBetween w r1 (-2147483648) 2147483648 ∧ HoldsBetween w r2 1 8 ∧ HoldsBetween w r3 (-1) 3
theorem Rules.below {w w' : World} {v : Value} (h : Rules w v) (hb : Below w.heap.size w w') : Rules w' v := by
  obtain ⟨b, r1, r2, r3, h1, h2, h3, h4, h5, h6⟩ := h.ex
  have := hb.size
  exact ⟨b, r1, r2, r3, h1, by omega, fun j v hv => (hb.cell (p := ⟨b, 0 + j, none⟩) h2).trans (h3 j v hv), h4.below hb, h5.below hb, h6.below hb⟩
theorem alloc_heap_new (w : World) (o : Obj) : (w.alloc o).heap[w.heap.size]? = some o := by
  show (w.heap.push o)[w.heap.size]? = _
  simp
theorem below_alloc (w : World) (o : Obj) : Below w.heap.size w (w.alloc o) := (Below.refl _ _).alloc (Nat.le_refl _) o
theorem holdsBetween_new (w : World) (lo hi : Int) : HoldsBetween (((w.alloc (.cells #[.int .i64 lo] 3)).alloc (.cells #[.int .i64 hi] 3)).alloc (.cells #[.func (.func 140) #[] #[.pointer (some ⟨w.heap.size, 0, none⟩), .pointer (some ⟨w.heap.size + 1, 0, none⟩)]] 147)) (w.heap.size + 1 + 1) lo hi := by
  refine ⟨w.heap.size, w.heap.size + 1, ?_, ?_, ?_, by simp, by simp; omega, by simp⟩
  · have h := alloc_heap_new ((w.alloc (.cells #[.int .i64 lo] 3)).alloc (.cells #[.int .i64 hi] 3)) (.cells #[.func (.func 140) #[] #[.pointer (some ⟨w.heap.size, 0, none⟩), .pointer (some ⟨w.heap.size + 1, 0, none⟩)]] 147)
    rw [World.size_alloc, World.size_alloc] at h
    rw [cell_of_row _ _ _ _ _ _ h]; rfl
  · refine cell_alloc (by simp; omega) (cell_alloc (by simp) ?_)
    have h := alloc_heap_new w (.cells #[.int .i64 lo] 3)
    rw [cell_of_row _ _ _ _ _ _ h]; rfl
  · refine cell_alloc (by simp) ?_
    have h := alloc_heap_new (w.alloc (.cells #[.int .i64 lo] 3)) (.cells #[.int .i64 hi] 3)
    rw [World.size_alloc] at h
    rw [cell_of_row _ _ _ _ _ _ h]; rfl
theorem rules_new (w : World) (r1 r2 r3 : Nat) (h1 : HoldsBetween w r1 (-2147483648) 2147483648) (h2 : HoldsBetween w r2 1 8) (h3 : HoldsBetween w r3 (-1) 3) :
    Rules (w.alloc (.cells (ruleVals r1 r2 r3).toArray 157)) (.slice (some ⟨w.heap.size, 0, none⟩) 4 4) := by
  refine ⟨w.heap.size, r1, r2, r3, rfl, by simp, ?_, h1.below (below_alloc _ _), h2.below (below_alloc _ _), h3.below (below_alloc _ _)⟩
  intro j v hv
  have h := alloc_heap_new w (.cells (ruleVals r1 r2 r3).toArray 157)
  rw [cell_of_row _ _ _ _ _ _ h]
  simpa using hv
set_option maxHeartbeats 1000000 in
theorem c61 (w : World) :
    Calls Tryz.prog 110 #[] w fun e w' => ∃ v, e = .returned v ∧ Rules w' v ∧ Below w.heap.size w w' := by
  have hmf : ∀ (fn : Fn) (first cap : Array Value) (w : World), (Instr.makeFunc fn first cap).run Tryz.prog w = .ok (.func fn first cap) w := fun _ _ _ _ => rfl
  go_enter Tryz.func110, Tryz.ntmps110
  go_wp2_with fail
  refine (c68 (-2147483648) 2147483648 _).mono ?_
  rintro e w' ⟨rfl, rfl⟩
  go_wp2_with fail
  refine (c68 1 8 _).mono ?_
  rintro e w' ⟨rfl, rfl⟩
  go_wp2_with fail
  refine (c68 (-1) 3 _).mono ?_
  rintro e w' ⟨rfl, rfl⟩
  go_wp2_with fail
  go_ret
  have e1 := holdsBetween_new w (-2147483648) 2147483648
  generalize hW1 : (((w.alloc (.cells #[.int .i64 (-2147483648)] 3)).alloc (.cells #[.int .i64 2147483648] 3)).alloc (.cells #[.func (.func 140) #[] #[.pointer (some ⟨w.heap.size, 0, none⟩), .pointer (some ⟨w.heap.size + 1, 0, none⟩)]] 147)) = W1 at *
  have hz1 : W1.heap.size = w.heap.size + 1 + 1 + 1 := by rw [← hW1]; simp
  have hb1 : Below w.heap.size w W1 := by rw [← hW1]; repeat (first | exact Below.refl _ _ | refine Below.alloc ?_ (by simp <;> omega) _)
  have e2 := holdsBetween_new W1 1 8
  have hb2 : Below W1.heap.size W1 (((W1.alloc (.cells #[.int .i64 1] 3)).alloc (.cells #[.int .i64 8] 3)).alloc (.cells #[.func (.func 140) #[] #[.pointer (some ⟨W1.heap.size, 0, none⟩), .pointer (some ⟨W1.heap.size + 1, 0, none⟩)]] 147)) := by repeat (first | exact Below.refl _ _ | refine Below.alloc ?_ (by simp <;> omega) _)
  rw [hz1] at e2 hb2
  generalize hW2 : (((W1.alloc (.cells #[.int .i64 1] 3)).alloc (.cells #[.int .i64 8] 3)).alloc (.cells #[.func (.func 140) #[] #[.pointer (some ⟨w.heap.size + 1 + 1 + 1, 0, none⟩), .pointer (some ⟨w.heap.size + 1 + 1 + 1 + 1, 0, none⟩)]] 147)) = W2 at *
  have hz2 : W2.heap.size = w.heap.size + 1 + 1 + 1 + 1 + 1 + 1 := by rw [← hW2]; simp [hz1]
  have e3 := holdsBetween_new W2 (-1) 3
  have hb3 : Below W2.heap.size W2 (((W2.alloc (.cells #[.int .i64 (-1)] 3)).alloc (.cells #[.int .i64 3] 3)).alloc (.cells #[.func (.func 140) #[] #[.pointer (some ⟨W2.heap.size, 0, none⟩), .pointer (some ⟨W2.heap.size + 1, 0, none⟩)]] 147)) := by repeat (first | exact Below.refl _ _ | refine Below.alloc ?_ (by simp <;> omega) _)
  rw [hz2] at e3 hb3
  generalize hW3 : (((W2.alloc (.cells #[.int .i64 (-1)] 3)).alloc (.cells #[.int .i64 3] 3)).alloc (.cells #[.func (.func 140) #[] #[.pointer (some ⟨w.heap.size + 1 + 1 + 1 + 1 + 1 + 1, 0, none⟩), .pointer (some ⟨w.heap.size + 1 + 1 + 1 + 1 + 1 + 1 + 1, 0, none⟩)]] 147)) = W3 at *
  have hz3 : W3.heap.size = w.heap.size + 1 + 1 + 1 + 1 + 1 + 1 + 1 + 1 + 1 := by rw [← hW3]; simp [hz2]
  have f1 := (e1.below (by rw [hz1]; exact hb2)).below (by rw [hz2]; exact hb3)
  have f2 := e2.below (by rw [hz2]; exact hb3)
  have R := rules_new W3 _ _ _ f1 f2 e3
  rw [hz3] at R
  refine ⟨_, rfl, R, ?_⟩
  exact ((hb1.trans (hb2.mono (by omega))).trans (hb3.mono (by omega))).trans ((below_alloc W3 _).mono (by omega))
end Go.Proofs.YtljggjllijacjaaGreatDoor

namespace Go.Proofs.YtljggjllijacjaaGreatDoor
open Go.RowKit
def eqCells (k : Int) (t : ByteArray) (n vn vk : Int) (k' : Int) (t' : ByteArray) (n' vn' vk' : Int) : Bool :=
  (k == k') && (t.toList == t'.toList) && (n == n') && (vn == vn') && (vk == vk')
set_option maxHeartbeats 1000000 in
theorem eql60 (k : Int) (t : ByteArray) (n vn vk : Int) (k' : Int) (t' : ByteArray) (n' vn' vk' : Int) (w : World) :
    (binOp .eql 78 (.agg #[.int .u8 k, .string t, .int .i64 n, .int .i64 vn, .int .i64 vk]) (.agg #[.int .u8 k', .string t', .int .i64 n', .int .i64 vn', .int .i64 vk'])).run Tryz.prog w = .ok (.bool (eqCells k t n vn vk k' t' n' vn' vk')) w := by
  unfold eqCells
  cases h1 : (k == k') <;> cases h2 : (t.toList == t'.toList) <;> cases h3 : (n == n') <;> cases h4 : (vn == vn') <;> cases h5 : (vk == vk') <;> go_simp
theorem bcell {W w1 : World} (hb : Below W.heap.size W w1) : (∀ b o, b < W.heap.size → w1.cell? ⟨b, o, none⟩ = W.cell? ⟨b, o, none⟩) ∧ (∀ b o, b < W.heap.size → w1.frozen? ⟨b, o, none⟩ = W.frozen? ⟨b, o, none⟩) :=
  ⟨fun b o h => hb.cell (p := ⟨b, o, none⟩) h, fun b o h => hb.frozen (p := ⟨b, o, none⟩) h⟩
end Go.Proofs.YtljggjllijacjaaGreatDoor
