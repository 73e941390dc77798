/- The contract of CheckPrograms. -/
import Derived.Test.YtgknheafkkkjcaaGreatDoorZ17P
import Derived.Test.YtgknheafkkkjcaaGreatDoorQ29
namespace Go.Proofs.YtgknheafkkkjcaaGreatDoor
open Go.RowKit
attribute [local go_sem ↓] Go.wp_at_zero Go.wp_at_succ
set_option maxRecDepth 100000 in
set_option maxHeartbeats 4000000 in
theorem k3p (cs : List Cl) (F : Fits cs) (v : Value) (w : World) (hP : ProgAt w v cs) (hS : Signs w) (htx : ∀ c ∈ cs, (∀ x ∈ c.hd, x.t.size ≤ maxLen) ∧ (∀ l ∈ c.gs, ∀ x ∈ l, x.t.size ≤ maxLen) ∧ ∀ l ∈ c.bs, ∀ x ∈ l, x.t.size ≤ maxLen)
    (hB : ∀ c ∈ cs, 48 * c.hd.length ≤ 140737488355328 ∧ (∀ l ∈ c.gs, 48 * l.length ≤ 140737488355328) ∧ ∀ l ∈ c.bs, 48 * l.length ≤ 140737488355328) :
    Calls Tryz.prog 3 #[v] w fun e w' => e = .returned (.bool true) ∧ Below w.heap.size w w' := by
  have HP : Hid (ProgAt w v cs) := hP
  have HS : Hid (Signs w) := hS
  have HF : Hid (Fits cs) := F
  have HB : Hid (∀ c ∈ cs, 48 * c.hd.length ≤ 140737488355328 ∧ (∀ l ∈ c.gs, 48 * l.length ≤ 140737488355328) ∧ ∀ l ∈ c.bs, 48 * l.length ≤ 140737488355328) := hB
  have HPr : Hid (∀ (W : World) (B : Nat) (u : Value), HandX W B u cs → ProgAt W u cs) := fun W B u h => hand_prog h F.len htx (fun c hc => ⟨by have := F.gl c hc; unfold maxLen; omega, by have := F.bl c hc; unfold maxLen; omega⟩) hB
  have H6 := k6h cs v w hP F hB
  obtain ⟨ad, cap, hv⟩ := hP.form
  subst hv
  clear hP hS F hB htx
  go_enter Tryz.func3, Tryz.ntmps3
  go_wp2_with fail
  refine H6.mono ?_
  rintro e w1 ⟨u, rfl, hX, hb1⟩
  have HB1 : Hid (Below w.heap.size w w1) := hb1
  have HX : Hid (HandX w1 w.heap.size u cs) := hX
  obtain ⟨au, cu, hu⟩ := (HPr.out _ _ _ hX).form
  subst hu
  have H7 := k37g cs HF.out _ w1 (HPr.out _ _ _ hX) (HS.out.below hb1)
  clear hX hb1 H6
  go_wp2_with fail
  refine H7.mono ?_
  rintro e w2 ⟨n1, e1, rfl, hI1, hb2⟩
  have HB2 : Hid (Below w.heap.size w w2) := HB1.out.trans (hb2.mono HB1.out.size)
  have HX2 : Hid (HandX w2 w.heap.size (.slice au cs.length cu) cs) := HX.out.below hb2
  have HI1 : Hid (IsWhere cs n1 e1) := hI1
  have H8 := z8 cs _ w2 (HP.out.below HB2.out)
  clear hI1 hb2 HX HB1 H7
  go_wp2_with fail
  refine H8.mono ?_
  rintro e w3 ⟨n2, e2, rfl, hI2, hb3⟩
  obtain ⟨rfl, rfl⟩ := where_uniq HI1.out hI2
  have HB3 : Hid (Below w.heap.size w w3) := HB2.out.trans (hb3.mono HB2.out.size)
  have HX3 : Hid (HandX w3 w.heap.size (.slice au cs.length cu) cs) := HX2.out.below hb3
  have H9 := k7 w3 (HS.out.below HB3.out)
  clear hI2 hb3 HX2 HB2 H8
  go_wp2_with fail
  refine H9.mono ?_
  rintro e w4 ⟨rfl, hb4⟩
  have HB4 : Hid (Below w.heap.size w w4) := HB3.out.trans (hb4.mono HB3.out.size)
  have HX4 : Hid (HandX w4 w.heap.size (.slice au cs.length cu) cs) := HX3.out.below hb4
  have H10 := k15g cs HF.out _ w4 (HPr.out _ _ _ HX4.out) (HS.out.below HB4.out)
  clear hb4 HX3 HB3 H9
  go_wp2_with fail
  refine H10.mono ?_
  rintro e w5 ⟨n3, e3, rfl, hI3, hb5⟩
  obtain rfl := (where_uniq HI1.out hI3).2
  have HB5 : Hid (Below w.heap.size w w5) := HB4.out.trans (hb5.mono HB4.out.size)
  have HX5 : Hid (HandX w5 w.heap.size (.slice au cs.length cu) cs) := HX4.out.below hb5
  have H11 := z11 cs _ w5 (HP.out.below HB5.out)
  clear hI3 hb5 HX4 HB4 H10
  go_wp2_with fail
  refine H11.mono ?_
  rintro e w6 ⟨n4, e4, rfl, hI4, hb6⟩
  obtain rfl := (where_uniq HI1.out hI4).2
  have HB6 : Hid (Below w.heap.size w w6) := HB5.out.trans (hb6.mono HB5.out.size)
  have HX6 : Hid (HandX w6 w.heap.size (.slice au cs.length cu) cs) := HX5.out.below hb6
  have H12 := k12h cs _ _ w.heap.size w6 HX6.out (HP.out.below HB6.out) HF.out HB.out
  have q1 : (e1 == e1) = true := by simp
  have q2 : (n1 == n1) = true := by simp
  clear hI4 hb6 HX5 HB5 H11 HI1
  go_wp2_with fail
  refine H12.mono ?_
  rintro e w7 ⟨rfl, hb7⟩
  go_wp2_with fail
  go_ret
  exact ⟨rfl, HB6.out.trans (hb7.mono HB6.out.size)⟩
end Go.Proofs.YtgknheafkkkjcaaGreatDoor
