/- Contract of KeptInts. -/
import Derived.Test.YteikdgjlhdgapaaDoorAR16P
namespace Go.Proofs.YteikdgjlhdgapaaDoor
open Go.RowKit
attribute [local go_sem ↓] Go.wp_at_zero Go.wp_at_succ
theorem ints_hand {w : World} {l : List Int} {g : Nat} (hr : w.rangeAt g 0 ((handI l).map (Value.int .i64))) (hg : g < w.heap.size) (hm : l.length ≤ maxLen) : IntsR w (.slice (some ⟨g, 0, none⟩) l.length (l.length + 9)) l := by
  refine ⟨hm, .inr ⟨g, 0, _, rfl, hg, fun j u hu => hr j u ?_⟩⟩
  unfold handI
  rw [List.map_append, List.getElem?_append_left (List.getElem?_eq_some_iff.1 hu).1]
  exact hu
set_option maxRecDepth 100000 in
set_option maxHeartbeats 2000000 in
theorem h20 (l : List Int) (g : Nat) (v : Value) (w : World) (hr : w.rangeAt g 0 ((handI l).map (Value.int .i64))) (hg : g < w.heap.size) (h : IntsR w v l) (hB : 8 * l.length ≤ 140737488355328) : Calls Tryd.prog 20 #[.slice (some ⟨g, 0, none⟩) l.length (l.length + 9), v] w fun e w' => e = .returned (.bool true) ∧ Below w.heap.size w w' := by
  have H40 := h40 l _ v w (ints_hand hr hg h.1) h
  have HR : Hid (∀ W, Below w.heap.size w W → ∀ k, l.length ≤ k → k < l.length + 9 → W.cell? ⟨g, k, none⟩ = some (.int .i64 (-700 - (k : Int) + (l.length : Int)))) := fun W hW k h1 h2 => by
    refine (hW.cell (p := ⟨g, k, none⟩) hg).trans ?_
    have hk : k < (handI l).length := by rw [handI_len]; exact h2
    have := hr k (.int .i64 (handI l)[k]) (by rw [List.getElem?_map, List.getElem?_eq_getElem hk]; rfl)
    rw [handI_hi l k h1 hk] at this
    have e : markI (k - l.length) = -700 - (k : Int) + (l.length : Int) := by unfold markI; omega
    rw [e] at this
    simpa using this
  have hm := h.1
  unfold maxLen at hm
  obtain ⟨adv, cpv, hv⟩ := h.form
  subst hv
  clear h hr
  generalize hq : l.length + 9 = q at *
  have hq' : (l.length : Int) ≤ (q : Int) := by omega
  have hqm : q ≤ 9223372036854775807 := by omega
  go_enter Tryd.func20, Tryd.ntmps20
  go_wp2_with fail
  refine H40.mono ?_
  rintro e w1 ⟨rfl, hb1⟩
  clear H40
  go_wp2_with fail
  go_loopw [6] (fun i wr => ∃ k : Nat, l.length ≤ k ∧ k ≤ q ∧ i = .int .i64 k ∧ Below w.heap.size w wr) (fun i _ => q - (intOf i).toNat)
  case atStart => exact ⟨l.length, by omega, by omega, rfl, hb1⟩
  case round =>
    obtain ⟨k, hkl, hk, rfl, hbr⟩ := hrel
    by_cases hlt : k < q
    · have hlt' : (k : Int) < (q : Int) := by omega
      have hk0 : (0 : Int) ≤ (k : Int) := by omega
      have c0 := HR.out wr hbr k hkl hlt
      go_wp2_with fail
      go_roundw
      case rel => exact ⟨k + 1, by omega, by omega, by go_num, hbr⟩
      case measure => simp [intOf]; omega
    · have hlt' : ¬ ((k : Int) < (q : Int)) := by omega
      go_wp2_with fail
      go_ret
      exact ⟨rfl, hbr⟩
end Go.Proofs.YteikdgjlhdgapaaDoor
