/- Contracts of the closure on structures and of the table of rules. -/
import Derived.Test.YtaehhophaaipdaaGreatDoorW5p
import Derived.Laws.EntriesVeiled
namespace Go.Proofs.YtaehhophaaipdaaGreatDoor
open Go.RowKit
def structFits (lo hi : Int) (t : List UInt8) (n : Int) : Bool := (isNameB t && between lo hi n) || (isSignB t && (n == 2))
set_option maxHeartbeats 1000000 in
theorem c74 (k : Int) (t : ByteArray) (n vn vk : Int) (lo hi : Int) (r : Nat) (w : World) (h : HoldsBetween w r lo hi) (hS : Signs w) (ht : t.size ≤ maxLen) :
    Calls Tryz.prog 135 #[.agg #[.int .u8 k, .string t, .int .i64 n, .int .i64 vn, .int .i64 vk], .pointer (some ⟨r, 0, none⟩)] w fun e w' => e = .returned (.bool (structFits lo hi t.data.toList n)) ∧ Below w.heap.size w w' := by
  obtain ⟨a, b, h1, h2, h3, h4, h5, h6⟩ := h
  have H39 := fun o : Obj => c39 t (w.alloc o) ht
  have H78 := fun o : Obj => c78 lo hi n (w.alloc o) a b (cell_alloc h5 h2) (cell_alloc h6 h3)
  have H75 := fun o : Obj => c75 t (w.alloc o) (hS.below ((Below.refl _ _).alloc (Nat.le_refl _) o)) ht
  have hsp : structFits lo hi t.data.toList n = ((isNameB t.data.toList && between lo hi n) || (isSignB t.data.toList && (n == 2))) := rfl
  rw [hsp]; clear hsp
  generalize isNameB t.data.toList = b1 at *
  generalize between lo hi n = b2 at *
  generalize isSignB t.data.toList = b3 at *
  have H39 : Hid (∀ o, _) := H39
  have H78 : Hid (∀ o, _) := H78
  have H75 : Hid (∀ o, _) := H75
  clear hS h5 h6 h2 h3
  cases b1 <;> cases b2 <;> cases b3
  all_goals
    go_enter Tryz.func135, Tryz.ntmps135
    go_wp2_with (first | (go_at_call 133; refine (H39.out _).mono ?_; rintro e w' ⟨rfl, rfl⟩) | (go_at_call 147; refine (H78.out _).mono ?_; rintro e w' ⟨rfl, rfl⟩) | (go_at_call 136; refine (H75.out _).mono ?_; rintro e w' ⟨rfl, rfl⟩))
    go_ret
    exact ⟨rfl, by repeat (first | exact Below.refl _ _ | refine Below.drew ?_ | refine Below.alloc ?_ (by simp) _)⟩

/-- The table of rules, as it lies in memory. -/
def ruleVals (r1 r2 r3 : Nat) : List Value :=
  [.int .u8 1, .func (.func 129) #[] #[], .func (.func 130) #[] #[.pointer (some ⟨r1, 0, none⟩)],
   .int .u8 2, .func (.func 131) #[] #[], .func (.func 132) #[] #[],
   .int .u8 3, .func (.func 134) #[] #[], .func (.func 135) #[] #[.pointer (some ⟨r2, 0, none⟩)],
   .int .u8 4, .func (.func 137) #[] #[], .func (.func 138) #[] #[.pointer (some ⟨r3, 0, none⟩)]]
structure Rules (w : World) (v : Value) : Prop where
  ex : ∃ b r1 r2 r3 : Nat, v = .slice (some ⟨b, 0, none⟩) 4 4 ∧ b < w.heap.size ∧ w.rangeAt b 0 (ruleVals r1 r2 r3) ∧
    HoldsBetween w r1 (-2147483648) 2147483648 ∧ HoldsBetween w r2 1 8 ∧ HoldsBetween w r3 (-1) 3
theorem Rules.below {w w' : World} {v : Value} (h : Rules w v) (hb : Below w.heap.size w w') : Rules w' v := by
  obtain ⟨b, r1, r2, r3, h1, h2, h3, h4, h5, h6⟩ := h.ex
  have := hb.size
  exact ⟨b, r1, r2, r3, h1, by omega, fun j v hv => (hb.cell (p := ⟨b, 0 + j, none⟩) h2).trans (h3 j v hv), h4.below hb, h5.below hb, h6.below hb⟩
theorem alloc_heap_new (w : World) (o : Obj) : (w.alloc o).heap[w.heap.size]? = some o := by
  show (w.heap.push o)[w.heap.size]? = _
  simp
theorem below_alloc (w : World) (o : Obj) : Below w.heap.size w (w.alloc o) := (Below.refl _ _).alloc (Nat.le_refl _) o
theorem holdsBetween_new (w : World) (lo hi : Int) : HoldsBetween (((w.alloc (.cells #[.int .i64 lo] 3)).alloc (.cells #[.int .i64 hi] 3)).alloc (.cells #[.func (.func 147) #[] #[.pointer (some ⟨w.heap.size, 0, none⟩), .pointer (some ⟨w.heap.size + 1, 0, none⟩)]] 119)) (w.heap.size + 1 + 1) lo hi := by
  refine ⟨w.heap.size, w.heap.size + 1, ?_, ?_, ?_, by simp, by simp; omega, by simp⟩
  · have h := alloc_heap_new ((w.alloc (.cells #[.int .i64 lo] 3)).alloc (.cells #[.int .i64 hi] 3)) (.cells #[.func (.func 147) #[] #[.pointer (some ⟨w.heap.size, 0, none⟩), .pointer (some ⟨w.heap.size + 1, 0, none⟩)]] 119)
    rw [World.size_alloc, World.size_alloc] at h
    rw [cell_of_row _ _ _ _ _ _ h]; rfl
  · refine cell_alloc (by simp; omega) (cell_alloc (by simp) ?_)
    have h := alloc_heap_new w (.cells #[.int .i64 lo] 3)
    rw [cell_of_row _ _ _ _ _ _ h]; rfl
  · refine cell_alloc (by simp) ?_
    have h := alloc_heap_new (w.alloc (.cells #[.int .i64 lo] 3)) (.cells #[.int .i64 hi] 3)
    rw [World.size_alloc] at h
    rw [cell_of_row _ _ _ _ _ _ h]; rfl
theorem rules_new (w : World) (r1 r2 r3 : Nat) (h1 : HoldsBetween w r1 (-2147483648) 2147483648) (h2 : HoldsBetween w r2 1 8) (h3 : HoldsBetween w r3 (-1) 3) :
    Rules (w.alloc (.cells (ruleVals r1 r2 r3).toArray 155)) (.slice (some ⟨w.heap.size, 0, none⟩) 4 4) := by
  refine ⟨w.heap.size, r1, r2, r3, rfl, by simp, ?_, h1.below (below_alloc _ _), h2.below (below_alloc _ _), h3.below (below_alloc _ _)⟩
  intro j v hv
  have h := alloc_heap_new w (.cells (ruleVals r1 r2 r3).toArray 155)
  rw [cell_of_row _ _ _ _ _ _ h]
  simpa using hv
set_option maxHeartbeats 1000000 in
theorem c61 (w : World) :
    Calls Tryz.prog 89 #[] w fun e w' => ∃ v, e = .returned v ∧ Rules w' v ∧ Below w.heap.size w w' := by
  have hmf : ∀ (fn : Fn) (first cap : Array Value) (w : World), (Instr.makeFunc fn first cap).run Tryz.prog w = .ok (.func fn first cap) w := fun _ _ _ _ => rfl
  go_enter Tryz.func89, Tryz.ntmps89
  go_wp2_with fail
  refine (c68 (-2147483648) 2147483648 _).mono ?_
  rintro e w' ⟨rfl, rfl⟩
  go_wp2_with fail
  refine (c68 1 8 _).mono ?_
  rintro e w' ⟨rfl, rfl⟩
  go_wp2_with fail
  refine (c68 (-1) 3 _).mono ?_
  rintro e w' ⟨rfl, rfl⟩
  go_wp2_with fail
  go_ret
  have e1 := holdsBetween_new w (-2147483648) 2147483648
  generalize hW1 : (((w.alloc (.cells #[.int .i64 (-2147483648)] 3)).alloc (.cells #[.int .i64 2147483648] 3)).alloc (.cells #[.func (.func 147) #[] #[.pointer (some ⟨w.heap.size, 0, none⟩), .pointer (some ⟨w.heap.size + 1, 0, none⟩)]] 119)) = W1 at *
  have hz1 : W1.heap.size = w.heap.size + 1 + 1 + 1 := by rw [← hW1]; simp
  have hb1 : Below w.heap.size w W1 := by rw [← hW1]; repeat (first | exact Below.refl _ _ | refine Below.alloc ?_ (by simp <;> omega) _)
  have e2 := holdsBetween_new W1 1 8
  have hb2 : Below W1.heap.size W1 (((W1.alloc (.cells #[.int .i64 1] 3)).alloc (.cells #[.int .i64 8] 3)).alloc (.cells #[.func (.func 147) #[] #[.pointer (some ⟨W1.heap.size, 0, none⟩), .pointer (some ⟨W1.heap.size + 1, 0, none⟩)]] 119)) := by repeat (first | exact Below.refl _ _ | refine Below.alloc ?_ (by simp <;> omega) _)
  rw [hz1] at e2 hb2
  generalize hW2 : (((W1.alloc (.cells #[.int .i64 1] 3)).alloc (.cells #[.int .i64 8] 3)).alloc (.cells #[.func (.func 147) #[] #[.pointer (some ⟨w.heap.size + 1 + 1 + 1, 0, none⟩), .pointer (some ⟨w.heap.size + 1 + 1 + 1 + 1, 0, none⟩)]] 119)) = W2 at *
  have hz2 : W2.heap.size = w.heap.size + 1 + 1 + 1 + 1 + 1 + 1 := by rw [← hW2]; simp [hz1]
  have e3 := holdsBetween_new W2 (-1) 3
  have hb3 : Below W2.heap.size W2 (((W2.alloc (.cells #[.int .i64 (-1)] 3)).alloc (.cells #[.int .i64 3] 3)).alloc (.cells #[.func (.func 147) #[] #[.pointer (some ⟨W2.heap.size, 0, none⟩), .pointer (some ⟨W2.heap.size + 1, 0, none⟩)]] 119)) := by repeat (first | exact Below.refl _ _ | refine Below.alloc ?_ (by simp <;> omega) _)
  rw [hz2] at e3 hb3
  generalize hW3 : (((W2.alloc (.cells #[.int .i64 (-1)] 3)).alloc (.cells #[.int .i64 3] 3)).alloc (.cells #[.func (.func 147) #[] #[.pointer (some ⟨w.heap.size + 1 + 1 + 1 + 1 + 1 + 1, 0, none⟩), .pointer (some ⟨w.heap.size + 1 + 1 + 1 + 1 + 1 + 1 + 1, 0, none⟩)]] 119)) = W3 at *
  have hz3 : W3.heap.size = w.heap.size + 1 + 1 + 1 + 1 + 1 + 1 + 1 + 1 + 1 := by rw [← hW3]; simp [hz2]
  have f1 := (e1.below (by rw [hz1]; exact hb2)).below (by rw [hz2]; exact hb3)
  have f2 := e2.below (by rw [hz2]; exact hb3)
  have R := rules_new W3 _ _ _ f1 f2 e3
  rw [hz3] at R
  refine ⟨_, rfl, R, ?_⟩
  exact ((hb1.trans (hb2.mono (by omega))).trans (hb3.mono (by omega))).trans ((below_alloc W3 _).mono (by omega))
end Go.Proofs.YtaehhophaaipdaaGreatDoor
