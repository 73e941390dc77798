/- Contracts of arith's small functions. -/
import Derived.Test.YtaehhophaaipdabDoorW1
import Derived.Below
import Derived.Deep.MidRow
namespace Go.Proofs.YtaehhophaaipdabDoor
open Go.RowKit
/-- Does a number stand in no term? -/
def greatB (x : Int) : Bool := decide (x < -2147483648) || decide (2147483648 < x)
set_option maxRecDepth 100000 in
theorem h35 (x : Int) (w : World) : Calls Tryd.prog 66 #[.int .i64 x] w fun e w' => e = .returned (.bool (greatB x)) ∧ w' = w := by
  by_cases h1 : x < -2147483648
  · have he : greatB x = true := by simp [greatB, h1]
    rw [he]
    go_enter Tryd.func66, Tryd.ntmps66
    go_wp2_with fail
    go_ret
    exact ⟨rfl, rfl⟩
  · by_cases h2 : 2147483648 < x
    · have he : greatB x = true := by simp [greatB, h2]
      rw [he]
      go_enter Tryd.func66, Tryd.ntmps66
      go_wp2_with fail
      go_ret
      exact ⟨rfl, rfl⟩
    · have he : greatB x = false := by simp [greatB, h1, h2]
      rw [he]
      go_enter Tryd.func66, Tryd.ntmps66
      go_wp2_with fail
      go_ret
      exact ⟨rfl, rfl⟩
/-- A row of numbers that can be read. -/
def IntsR (w : World) (v : Value) (ns : List Int) : Prop := ns.length ≤ maxLen ∧ ((ns = [] ∧ ∃ ad, v = .slice ad 0 0) ∨ ∃ b o cap, v = .slice (some ⟨b, o, none⟩) ns.length cap ∧ b < w.heap.size ∧ w.rangeAt b o (ns.map (Value.int .i64)))
theorem IntsR.below {w w' : World} {v : Value} {ns : List Int} (h : IntsR w v ns) (hb : Below w.heap.size w w') : IntsR w' v ns := by
  obtain ⟨h0, h⟩ := h
  refine ⟨h0, ?_⟩
  rcases h with h | ⟨b, o, cap, h1, h2, h3⟩
  · exact .inl h
  · exact .inr ⟨b, o, cap, h1, Nat.lt_of_lt_of_le h2 hb.size, fun j u hu => (hb.cell (p := ⟨b, o + j, none⟩) h2).trans (h3 j u hu)⟩
theorem IntsR.form {w : World} {v : Value} {ns : List Int} (h : IntsR w v ns) : ∃ ad cap, v = .slice ad ns.length cap := by
  rcases h.2 with ⟨rfl, ad, rfl⟩ | ⟨b, o, cap, h1, _⟩
  · exact ⟨ad, 0, rfl⟩
  · exact ⟨_, _, h1⟩
theorem IntsR.at {w : World} {v : Value} {ns : List Int} (h : IntsR w v ns) (i : Nat) (hi : i < ns.length) : ∃ b o cap, v = .slice (some ⟨b, o, none⟩) ns.length cap ∧ w.cell? ⟨b, o + i, none⟩ = some (.int .i64 ns[i]) ∧ b < w.heap.size := by
  rcases h.2 with ⟨rfl, _⟩ | ⟨b, o, cap, h1, h2, h3⟩
  · simp at hi
  · exact ⟨b, o, cap, h1, h3 i _ (by simp [List.getElem?_eq_getElem hi]), h2⟩
theorem any_false_take (f : Int → Bool) (ns : List Int) (h : ∀ j (hj : j < ns.length), f ns[j] = false) : ns.any f = false := by
  rw [List.any_eq_false]
  intro y hy
  obtain ⟨j, hj, rfl⟩ := List.getElem_of_mem hy
  simp [h j hj]
set_option maxRecDepth 100000 in
theorem h51 (f : Nat) (w : World) : Calls Tryd.prog 37 #[.func (Fn.func f) #[] #[]] w fun e w' => e = .returned (.func (Fn.func 63) #[] #[.pointer (some ⟨w.heap.size, 0, none⟩)]) ∧ w' = w.alloc (.cells #[.func (Fn.func f) #[] #[]] 32) := by
  go_enter Tryd.func37, Tryd.ntmps37
  go_wp2_with fail
  go_ret
  exact ⟨rfl, rfl⟩
set_option maxRecDepth 100000 in
theorem h55 (f : Nat) (w : World) : Calls Tryd.prog 41 #[.func (Fn.func f) #[] #[]] w fun e w' => e = .returned (.func (Fn.func 64) #[] #[.pointer (some ⟨w.heap.size, 0, none⟩)]) ∧ w' = w.alloc (.cells #[.func (Fn.func f) #[] #[]] 32) := by
  go_enter Tryd.func41, Tryd.ntmps41
  go_wp2_with fail
  go_ret
  exact ⟨rfl, rfl⟩
end Go.Proofs.YtaehhophaaipdabDoor
