/- Contracts of the order of names as a sort asks for it, of SortFunc at names, SortedFunc, maps.Keys, order.Keys. -/
import Derived.Test.YtdonclnjgopmbaaSK
import Derived.Test.YtdonclnjgopmbaaKSh
import Derived.Test.YtdonclnjgopmbaaKR2
import Derived.Test.YtdonclnjgopmbaaHP2
namespace Go.Proofs.Ytdonclnjgopmbaa.R
open Go.RowKit Go.Sort
attribute [local go_sem ↓] Go.wp_at_zero Go.wp_at_succ
set_option maxRecDepth 100000 in
theorem y47 {H : Type} {R : Value → Option (DataW H × List MemPlace)} (Bm b nn : Nat) (D : DataW H) (w : World) (hBm : Bm < w.heap.size) (hm : w.cell? ⟨Bm, 0, none⟩ = some (.map (some b))) (hown : w.ownsMap Try.prog 28 R b nn D) (hnn : nn ≤ 1000000000) :
    Calls Try.prog 40 #[.func (.func 49) #[] #[.pointer (some ⟨Bm, 0, none⟩)], .func (.func 42) #[] #[]] w fun e w' => ∃ u, e = .returned u ∧ Hid (KeysTo D nn w u w') := by
  have H69 : Calls Try.prog 44 #[.func (.func 49) #[] #[.pointer (some ⟨Bm, 0, none⟩)]] w fun e w' => ∃ u, e = .returned u ∧ Hid (ColTo D nn w u w') := y69 Bm b nn D w hBm hm hown hnn
  have H70 : Hid (∀ wr u, ColTo D nn w u wr → Calls Try.prog 45 #[u, .func (.func 42) #[] #[]] wr fun e w' => e = .returned (.tuple #[]) ∧ Hid (KeysTo D nn w u w')) := fun wr u h => y70r nn w wr u h hnn
  clear hBm hm hown hnn
  go_enter Try.func40, Try.ntmps40
  go_wp2_with fail
  refine H69.mono ?_
  rintro e w1 ⟨u, rfl, H1⟩
  go_wp2_with fail
  refine (H70.out w1 u H1.out).mono ?_
  rintro e w2 ⟨rfl, H2⟩
  go_wp2_with fail
  go_ret
  exact ⟨u, rfl, H2⟩
set_option maxRecDepth 100000 in
theorem y48 (b : Option Nat) (w : World) : Calls Try.prog 43 #[.map b] w fun e w' => e = .returned (.func (.func 49) #[] #[.pointer (some ⟨w.heap.size, 0, none⟩)]) ∧ w' = w.alloc (.cells #[.map b] 44) := by
  go_enter Try.func43, Try.ntmps43
  go_wp2_with fail
  go_ret
  exact ⟨rfl, rfl⟩
set_option maxRecDepth 100000 in
theorem y31 {H : Type} {R : Value → Option (DataW H × List MemPlace)} (b nn : Nat) (D : DataW H) (w : World) (hown : w.ownsMap Try.prog 28 R b nn D) (hnn : nn ≤ 1000000000) :
    Calls Try.prog 37 #[.map (some b)] w fun e w' => ∃ u, e = .returned u ∧ KeysTo D nn w u w' := by
  have hb : Below w.heap.size w (w.alloc (.cells #[.map (some b)] 44)) := (Below.refl _ w).alloc (Nat.le_refl _) _
  have hown' : (w.alloc (.cells #[.map (some b)] 44)).ownsMap Try.prog 28 R b nn D := by
    have hbl := hown.lt
    obtain ⟨es, clock, hc, Ft, hs, hD⟩ := hown
    exact ⟨es, clock, (hb.block b hbl).trans hc, Ft, hs, hD⟩
  have H47 : Calls Try.prog 40 #[.func (.func 49) #[] #[.pointer (some ⟨w.heap.size, 0, none⟩)], .func (.func 42) #[] #[]] (w.alloc (.cells #[.map (some b)] 44)) fun e w' => ∃ u, e = .returned u ∧ Hid (KeysTo D nn w u w') := by
    refine (y47 w.heap.size b nn D _ (by simp) (by rw [cell_of_row _ w.heap.size 0 _ 44 (0, 0) (heap_alloc_new w _)]; rfl) hown' hnn).mono ?_
    rintro e w' ⟨u, rfl, ⟨xs, h1, h2, h3, h4⟩⟩
    refine ⟨u, rfl, xs, h1, h2, ?_, hb.trans (h4.mono hb.size)⟩
    refine ⟨h3.1, ?_⟩
    rcases h3.2 with e | ⟨g, cap, cur, e, k1, k2⟩
    · exact .inl e
    · exact .inr ⟨g, cap, cur, e, Nat.le_trans hb.size k1, k2⟩
  have H48 := y48 (some b) w
  clear hown hown' hnn hb
  go_enter Try.func37, Try.ntmps37
  go_wp2_with fail
  refine H48.mono ?_
  rintro e w1 ⟨rfl, hw⟩
  obtain rfl := hw.symm
  go_wp2_with fail
  refine H47.mono ?_
  rintro e w2 ⟨u, rfl, H2⟩
  go_wp2_with fail
  go_ret
  exact ⟨u, rfl, H2.out⟩
end Go.Proofs.Ytdonclnjgopmbaa.R
