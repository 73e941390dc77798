/- Contract of Send of no datagrams; of takeOut's parts: slices.Delete. -/
import Derived.Test.YthpbfaddojcohaaNF
namespace Go.Proofs.Ythpbfaddojcohaa
open Go.RowKit
attribute [local go_sem ↓] Go.wp_at_zero Go.wp_at_succ
set_option maxRecDepth 100000 in
set_option maxHeartbeats 1000000 in
theorem n16_none (nb B : Nat) (v : Value) (N : Nt) (cs0 : List Dc) (a : Option Addr) (c : Nat) (w : World) (h : NtC w nb B v N cs0) (hs0 : 0 ≤ N.s) (hs1 : N.s ≤ 1000000000000) :
    Calls Try.prog 16 #[.pointer (some ⟨nb, 0, none⟩), .slice a 0 c] w fun e w' => e = .returned (.int .i64 0) ∧ SendPost nb B v N cs0 [] [] w w' := by
  obtain ⟨_, q1, _, _, _, _⟩ := h.at_.cells
  have qf := h.at_.frozen 1
  have HH : Hid (NtC w nb B v N cs0) := h
  clear h
  have HF : Hid (∀ q, q = N.s → SendPost nb B v N cs0 [] [] w (w.setCell ⟨nb, 1, none⟩ (.int .i64 q))) := fun q hq => by
    refine .inl ⟨rfl, v, N.l, ⟨⟨?_, ?_⟩, ?_⟩, ?_⟩
    · rw [heap_setCell_same w nb 1 _ 77 _ HH.out.at_.blk, hq]; simp
    · exact owns_setO HH.out.at_.own _ (row_not_net HH.out.at_.own HH.out.at_.blk)
    · rw [List.append_nil]; exact HH.out.own.keep HH.out.at_ (keepN_set v w nb 1 _)
    · exact ⟨keepN_set v w nb 1 _, fun _ e => .inl e⟩
  go_enter Try.func16, Try.ntmps16
  go_wp2_with fail
  go_loopw [14] (fun i wr => i = .int .i64 0 ∧ wr = w) (fun _ _ => 0)
  case atStart => exact ⟨rfl, rfl⟩
  case round =>
    obtain ⟨rfl, rfl⟩ := hrel
    go_wp2_with fail
    go_loopw [27] (fun i w' => i = .int .i64 0 ∧ w' = wr) (fun _ _ => 0)
    case atStart => exact ⟨rfl, rfl⟩
    case round =>
      obtain ⟨rfl, hw⟩ := hrel
      obtain rfl := hw
      go_wp2_with fail
      go_ret
      exact ⟨rfl, HF.out _ (by first | rfl | omega)⟩
theorem n16 (nb B : Nat) (v : Value) (N : Nt) (cs0 : List Dc) (S : Nat → Prop) (a : Option Addr) (n c : Nat) (ds : List Dg) (cs : List Dc) (w : World) (h : NtC w nb B v N cs0) (hB : B ≤ w.heap.size) (hA : ArgRow w S a n ds cs)
    (hS : ∀ k, S k → k < w.heap.size ∧ k ≠ nb ∧ v.ownBlock ≠ some k) (hl : (N.l.length + n) * 56 ≤ 140737488355328) (hs0 : 0 ≤ N.s) (hs1 : N.s ≤ 1000000000000) :
    Calls Try.prog 16 #[.pointer (some ⟨nb, 0, none⟩), .slice a n c] w fun e w' => e = .returned (.int .i64 (allE N.n ds)) ∧ SendPost nb B v N cs0 ds cs w w' := by
  rcases hA.row with rfl | ⟨b, o, rfl, _, _⟩
  · obtain rfl := List.eq_nil_of_length_eq_zero hA.len
    obtain rfl := List.eq_nil_of_length_eq_zero hA.lenc
    exact n16_none nb B v N cs0 a c w h hs0 hs1
  · exact n16_some nb B v N cs0 S b o n c ds cs w h hB hA hS hl hs0 hs1
end Go.Proofs.Ythpbfaddojcohaa
