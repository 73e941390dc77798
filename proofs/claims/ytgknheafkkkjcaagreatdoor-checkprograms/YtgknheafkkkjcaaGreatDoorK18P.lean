/- Contracts of HandTerm, KeptCells, KeptTerm. -/
import Derived.Test.YtgknheafkkkjcaaGreatDoorK17P
namespace Go.Proofs.YtgknheafkkkjcaaGreatDoor
open Go.RowKit
attribute [local go_sem ↓] Go.wp_at_zero Go.wp_at_succ
theorem hand_term {l : List C} {w : World} {g : Nat} (hr : w.rangeAt g 0 (flat (handL l))) (hg : g < w.heap.size) (htx : ∀ c ∈ l, c.t.size ≤ maxLen) (hB : 48 * l.length ≤ 140737488355328) :
    TermAt w (.slice (some ⟨g, 0, none⟩) l.length (l.length + 9)) l := by
  refine ⟨⟨by unfold maxLen; omega, htx⟩, .inr ⟨g, 0, l.length + 9, rfl, by omega, by unfold maxLen; omega, fun j v hv => hr j v ?_, hg⟩⟩
  unfold handL
  rw [flat_append, List.getElem?_append_left (List.getElem?_eq_some_iff.1 hv).1]
  exact hv
set_option maxRecDepth 100000 in
set_option maxHeartbeats 2000000 in
theorem k36 (l : List C) (v : Value) (g : Nat) (w : World) (h : TermAt w v l) (hr : w.rangeAt g 0 (flat (handL l))) (hg : g < w.heap.size) (hB : 48 * l.length ≤ 140737488355328) :
    Calls Tryz.prog 36 #[.slice (some ⟨g, 0, none⟩) l.length (l.length + 9), v] w fun e w' => e = .returned (.bool true) ∧ Below w.heap.size w w' := by
  have H52 := k52 l l _ v w (hand_term hr hg h.1.2 hB) h
  rw [eqT_refl] at H52
  have HR : Hid (w.rangeAt g 0 (flat (handL l))) := hr
  obtain ⟨adv, cpv, hv⟩ := h.form
  subst hv
  clear h hr
  generalize hq : l.length + 9 = q at *
  have hq' : (l.length : Int) + 9 = (q : Int) := by omega
  have hqm : (q : Int) ≤ 9223372036854775807 := by omega
  go_enter Tryz.func36, Tryz.ntmps36
  go_wp2_with fail
  refine H52.mono ?_
  rintro e w1 ⟨rfl, hb1⟩
  have hgw : g < w1.heap.size := Nat.lt_of_lt_of_le hg hb1.size
  have HR1 : Hid (w1.rangeAt g 0 (flat (handL l))) := range_below HR.out hg hb1
  go_wp2_with fail
  go_loopw [6] (fun i wr => ∃ k : Nat, l.length ≤ k ∧ k ≤ q ∧ i = .int .i64 k ∧ Below w.heap.size w wr) (fun i _ => q - (intOf i).toNat)
  case atStart => exact ⟨l.length, by omega, by omega, rfl, hb1⟩
  case round =>
    obtain ⟨k, hkl, hk, rfl, hbr⟩ := hrel
    by_cases hlt : k < q
    · have hlt' : (k : Int) < (q : Int) := by omega
      have hk0 : (0 : Int) ≤ (k : Int) := by omega
      have hkh : k < (handL l).length := by rw [handL_len]; omega
      obtain ⟨p0, p1, p2, p3, p4⟩ := term_cells (range_below HR.out hg hbr) k hkh
      have hmk : (handL l)[k] = ⟨0, ⟨#[]⟩, -700 - (k : Int) + (l.length : Int), 0, 0⟩ := by
        rw [handL_hi l k hkl hkh]
        unfold markC; congr 1; omega
      rw [hmk] at p0 p1 p2 p3 p4
      simp only [Nat.zero_add] at p0 p1 p2 p3 p4
      have hN := neq60 0 ⟨#[]⟩ (-700 - (k : Int) + (l.length : Int)) 0 0 0 ⟨#[]⟩ (-700 - (k : Int) + (l.length : Int)) 0 0
      have e1 : eqCells 0 ⟨#[]⟩ (-700 - (k : Int) + (l.length : Int)) 0 0 0 ⟨#[]⟩ (-700 - (k : Int) + (l.length : Int)) 0 0 = true := by simp [eqCells]
      rw [e1] at hN
      clear e1 hmk
      go_wp2_with fail
      go_roundw
      case rel => exact ⟨k + 1, by omega, by omega, by go_num, hbr⟩
      case measure => simp [intOf]; omega
    · have hlt' : ¬ ((k : Int) < (q : Int)) := by omega
      go_wp2_with fail
      go_ret
      exact ⟨rfl, hbr⟩
end Go.Proofs.YtgknheafkkkjcaaGreatDoor
