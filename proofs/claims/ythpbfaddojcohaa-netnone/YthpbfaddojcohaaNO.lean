/- Contract of NetNone. -/
import Derived.Test.YthpbfaddojcohaaNN
namespace Go.Proofs.Ythpbfaddojcohaa
open Go.RowKit
set_option maxRecDepth 100000 in
set_option maxHeartbeats 2000000 in
theorem n7 (a : Option Addr) (n c : Nat) (k : Int) (w : World) : Calls Try.prog 7 #[.slice a n c, .int .i64 k] w fun e w' => e = .returned (.bool true) ∧ Below w.heap.size w w' := by
  go_enter Try.func7, Try.ntmps7
  go_wp2_with fail
  refine (n17_nil k w).mono ?_
  rintro e w1 ⟨rfl, hb1⟩
  go_wp2_with fail
  refine (n28_nil _).mono ?_
  rintro e w2 ⟨rfl, hw⟩
  obtain rfl := hw.symm
  have hbA : Below w.heap.size w (w1.alloc (.cells #[.int .i64 0, .int .i64 0, .bool false, .int .i64 0, .slice none 0 0] 46)) := hb1.alloc hb1.size _
  go_wp2_with fail
  refine (n10 _).mono ?_
  rintro e w3 ⟨rfl, hb3⟩
  have HB3 : Hid (Below w.heap.size w w3) := hbA.trans (hb3.mono hbA.size)
  clear hb3 hbA hb1
  go_wp2_with fail
  refine (n16_nil _ _).mono ?_
  rintro e w4 ⟨rfl, hw⟩
  obtain rfl := hw
  go_wp2_with fail
  refine (n19_nil k _).mono ?_
  rintro e w5 ⟨rfl, hw⟩
  obtain rfl := hw
  go_wp2_with fail
  refine (n20_nil k _).mono ?_
  rintro e w6 ⟨rfl, hw⟩
  obtain rfl := hw
  go_wp2_with fail
  refine (n15_nil _).mono ?_
  rintro e w7 ⟨rfl, hw⟩
  obtain rfl := hw
  go_wp2_with fail
  refine (n26_nil k _).mono ?_
  rintro e w8 ⟨rfl, hb8⟩
  have HB8 : Hid (Below w.heap.size w w8) := HB3.out.trans (hb8.mono HB3.out.size)
  clear hb8
  go_wp2_with fail
  refine (n21_nil _).mono ?_
  rintro e w9 ⟨rfl, hw⟩
  obtain rfl := hw
  go_wp2_with fail
  refine (n11_nil _).mono ?_
  rintro e w10 ⟨rfl, hw⟩
  obtain rfl := hw
  go_wp2_with fail
  go_ret
  exact ⟨rfl, HB8.out⟩
end Go.Proofs.Ythpbfaddojcohaa
