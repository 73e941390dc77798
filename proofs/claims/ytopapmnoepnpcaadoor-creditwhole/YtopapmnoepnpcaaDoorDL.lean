/- CreditWhole. -/
import Derived.Test.YtopapmnoepnpcaaDoorDI
import Derived.Test.YtopapmnoepnpcaaDoorDK
namespace Go.Proofs.YtopapmnoepnpcaaDoor
open Go.RowKit
theorem d3 (v : Value) (W : Int) (B : List Int) (w : World) (h : Am w v W B) (hT : Tb w) : Calls Tryd.prog 3 #[v] w fun e w' => e = .returned (.bool true) ∧ Below w.heap.size w w' := by
  by_cases hz : zeroB W B.length = true
  · have hr : rightB W B = true := by
      simp only [zeroB, Bool.and_eq_true, decide_eq_true_eq] at hz
      obtain ⟨rfl, h0⟩ := hz
      rw [List.length_eq_zero_iff.1 h0]
      decide
    exact d3_none v W B w h hT hz fun V hV => d6_none v W B V (h.below hV) hr hz
  have hz' : zeroB W B.length = false := by simpa using hz
  by_cases hr : rightB W B = false
  · exact d3_form v W B w h hT hz' hr fun V hV => d6_form v W B V (h.below hV) hr
  have hr' : rightB W B = true := by simpa using hr
  obtain ⟨a, n, c, e0, hS⟩ := h.val
  have hp : ∀ V, Below w.heap.size w V → Calls Tryd.prog 16 #[v] V fun e w' => TwoE e V w' (prts W B) := fun V hV => by rw [e0]; exact d16 W a n c B V (hS.below hV) hr' hz'
  by_cases h2 : rightB (prts W B).2.1 (prts W B).2.2 = false
  · exact d3_full v W B w h hT hz' hr' fun V hV => d6_full v W B (prts W B) V (h.below hV) hr' hz' h2 fun V' hV' => hp V' (hV.trans (hV'.mono hV.size))
  have h2' : rightB (prts W B).2.1 (prts W B).2.2 = true := by simpa using h2
  obtain ⟨N, hN⟩ : ∃ N : Nat, 1048576 ≤ N := ⟨1048576, Nat.le_refl _⟩
  obtain ⟨g1, g2, g3, _⟩ := prts_val N hN W B hr' hz' h2'
  exact d3_good v W _ _ B _ _ w h hT hr' g1 h2' g2 g3 (fun N hN => (prts_val N hN W B hr' hz' h2').2.2.2) fun V hV => d6 v W B (prts W B) V (h.below hV) hr' hz' h2' fun V' hV' => hp V' (hV.trans (hV'.mono hV.size))
end Go.Proofs.YtopapmnoepnpcaaDoor
