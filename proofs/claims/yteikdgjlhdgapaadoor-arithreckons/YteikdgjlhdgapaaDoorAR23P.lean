/- Contract of the statement on reckoning: for every text and every numbers it returns true. -/
import Derived.Test.YteikdgjlhdgapaaDoorAR22P
import Derived.Test.YteikdgjlhdgapaaDoorAR20P
import Derived.Test.YteikdgjlhdgapaaDoorAR17P
namespace Go.Proofs.YteikdgjlhdgapaaDoor
open Go.RowKit
attribute [local go_sem ↓] Go.wp_at_zero Go.wp_at_succ
theorem op_eq {a b : ByteArray} (h : (a.toList == b.toList) = true) : a = b := by
  have e : a.toList = b.toList := by simpa using h
  rw [ByteArray.toList_eq, ByteArray.toList_eq] at e
  exact ByteArray.ext (Array.toList_inj.1 e)
theorem h18 (op : ByteArray) (ns : List Int) (v : Value) (w : World) (hI : IntsR w v ns) : Calls Tryd.prog 18 #[.string op, v] w fun e w' => e = .returned (.tuple #[.int .i64 (reckS op ns).1, .bool (reckS op ns).2]) ∧ w' = w := by
  cases hok : ns.any greatB
  · by_cases h : ∃ i, i < 8 ∧ ((opT i).toList == op.toList) = true
    · obtain ⟨i, hi, h⟩ := h
      obtain rfl := op_eq h
      match i, hi with
      | 0, _ => exact h18_0 ns v w hI hok
      | 1, _ => exact h18_1 ns v w hI hok
      | 2, _ => exact h18_2 ns v w hI hok
      | 3, _ => exact h18_3 ns v w hI hok
      | 4, _ => exact h18_4 ns v w hI hok
      | 5, _ => exact h18_5 ns v w hI hok
      | 6, _ => exact h18_6 ns v w hI hok
      | 7, _ => exact h18_7 ns v w hI hok
    · refine h18_o op ns v w hI hok (fun i hi => ?_)
      cases hq : ((opT i).toList == op.toList)
      · rfl
      · exact absurd ⟨i, hi, hq⟩ h
  · exact h18_bad op ns v w hI hok
set_option maxRecDepth 100000 in
set_option maxHeartbeats 4000000 in
theorem h4 (op : ByteArray) (ns : List Int) (v : Value) (w : World) (hS : Signs w) (hI : IntsR w v ns) (hB : 8 * ns.length ≤ 140737488355328) : Calls Tryd.prog 4 #[.string op, v] w fun e w' => e = .returned (.bool true) ∧ Below w.heap.size w w' := by
  have HS : Hid (Signs w) := hS
  have HI : Hid (IntsR w v ns) := hI
  have H16 := h16 ns v w hI hB
  obtain ⟨ad, cap, hv⟩ := hI.form
  subst hv
  clear hS hI
  go_enter Tryd.func4, Tryd.ntmps4
  go_wp2_with fail
  refine H16.mono ?_
  rintro e w1 ⟨g, rfl, hr1, hg1, hb1⟩
  have HR1 : Hid (w1.rangeAt g 0 ((handI ns).map (Value.int .i64))) := hr1
  have H17 := h17 op ns _ w1 (ints_hand hr1 hg1 HI.out.1)
  clear hr1 H16
  obtain ⟨rr, hrr⟩ : ∃ rr, reckS op ns = rr := ⟨_, rfl⟩
  have H18 : Hid (∀ W, Below w.heap.size w W → Calls Tryd.prog 18 #[.string op, .slice ad ns.length cap] W fun e w' => e = .returned (.tuple #[.int .i64 rr.1, .bool rr.2]) ∧ w' = W) := fun W hW => by
    have := h18 op ns _ W (HI.out.below hW)
    rwa [hrr] at this
  rw [hrr] at H17
  clear hrr
  obtain ⟨rn, rb⟩ := rr
  go_wp2_with fail
  refine H17.mono ?_
  rintro e w2 ⟨rfl, hb2⟩
  clear H17
  have hb02 : Below w.heap.size w w2 := hb1.trans (hb2.mono hb1.size)
  go_wp2_with fail
  refine (H18.out w2 hb02).mono ?_
  rintro e w2' ⟨rfl, hw⟩
  obtain rfl := hw
  go_wp2_with fail
  refine (h19 w2' (HS.out.below hb02)).mono ?_
  rintro e w3 ⟨rfl, hb3⟩
  have HB3 : Hid (Below w.heap.size w w3) := hb02.trans (hb3.mono hb02.size)
  have hb13 : Below w1.heap.size w1 w3 := hb2.trans (hb3.mono hb2.size)
  have H20 := h20 ns g (.slice ad ns.length cap) w3 (range_below HR1.out hg1 hb13) (Nat.lt_of_lt_of_le hg1 hb13.size) (HI.out.below HB3.out) hB
  have e1 : (rn == rn) = true := by simp
  have e2 : (rb == rb) = true := by simp
  clear hb2 hb3 hb13
  go_wp2_with fail
  refine H20.mono ?_
  rintro e w4 ⟨rfl, hb4⟩
  have HB4 : Hid (Below w.heap.size w w4) := HB3.out.trans (hb4.mono HB3.out.size)
  go_wp2_with fail
  go_ret
  exact ⟨rfl, HB4.out⟩
end Go.Proofs.YteikdgjlhdgapaaDoor
