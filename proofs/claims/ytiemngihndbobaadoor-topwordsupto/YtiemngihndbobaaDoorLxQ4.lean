/- Contracts of live, same and LexNext. -/
import Derived.Test.YtiemngihndbobaaDoorLxQ3
namespace Go.Proofs.YtiemngihndbobaaDoor.Lx
open Go.RowKit
def liveS : ByteArray := ⟨#[112, 40, 88, 49, 41, 58, 45, 88, 49, 61, 60, 63, 49, 95, 50, 48, 46]⟩
def liveL : List T := [⟨1, ⟨#[112]⟩, 0, 0, 0⟩, ⟨5, ⟨#[40]⟩, 0, 0, 1⟩, ⟨2, ⟨#[88, 49]⟩, 0, 0, 2⟩, ⟨5, ⟨#[41]⟩, 0, 0, 4⟩, ⟨5, ⟨#[58, 45]⟩, 0, 0, 5⟩, ⟨2, ⟨#[88, 49]⟩, 0, 0, 7⟩, ⟨5, ⟨#[61, 60]⟩, 0, 0, 9⟩, ⟨4, ⟨#[63, 49, 95, 50, 48]⟩, 20, 1, 11⟩, ⟨5, ⟨#[46]⟩, 0, 0, 16⟩, ⟨0, ⟨#[]⟩, 0, 0, 17⟩]
theorem live_all : allL liveS = liveL := by kernel_rfl
theorem live_err : allE liveS = (0, 0) := by kernel_rfl
theorem owns_range {w : World} {base : Nat} {e : TypeId} {sz n : Nat} {v : Value} {xs : List Value} (h : w.ownsRow base e sz v n xs) (hn : 0 < n) : ∃ g cap, v = .slice (some ⟨g, 0, none⟩) n cap ∧ w.rangeAt g 0 xs := by
  rcases h.2 with ⟨_, h2⟩ | ⟨g, cap, cur, h1, _, h3, _, _, _, h7⟩
  · omega
  · refine ⟨g, cap, h1, ?_⟩
    intro j u hu
    rw [cell_of_row _ _ _ _ _ _ h3]
    rw [← h7] at hu
    rw [List.getElem?_take] at hu
    split at hu
    · simpa using hu
    · cases hu
set_option maxRecDepth 100000 in
set_option maxHeartbeats 1000000 in
theorem c11 (w : World) (hS : Signs w) :
    Calls Tryd.prog 5 #[] w fun e w' => e = .returned (.bool true) ∧ Below w.heap.size w w' := by
  have H13 := c13 liveS w hS (by show 17 ≤ _; omega)
  rw [live_all, live_err] at H13
  clear hS
  go_enter Tryd.func5, Tryd.ntmps5
  go_wp2_with fail
  refine H13.mono ?_
  rintro e w1 ⟨v, rfl, hO, hb⟩
  obtain ⟨g, cap, hv, hr⟩ := owns_range hO (by decide)
  have hv : v = .slice (some ⟨g, 0, none⟩) 10 cap := hv
  subst hv
  have p1 : w1.cell? ⟨g, 6, none⟩ = some (.string ⟨#[40]⟩) := by have := hr 6 _ rfl; simpa using this
  have p4 : w1.cell? ⟨g, 21, none⟩ = some (.string ⟨#[58, 45]⟩) := by have := hr 21 _ rfl; simpa using this
  have p6 : w1.cell? ⟨g, 31, none⟩ = some (.string ⟨#[61, 60]⟩) := by have := hr 31 _ rfl; simpa using this
  have p7 : w1.cell? ⟨g, 35, none⟩ = some (.int .u8 4) := by have := hr 35 _ rfl; simpa using this
  have p7n : w1.cell? ⟨g, 37, none⟩ = some (.int .i64 20) := by have := hr 37 _ rfl; simpa using this
  have p7d : w1.cell? ⟨g, 38, none⟩ = some (.int .i64 1) := by have := hr 38 _ rfl; simpa using this
  have p9 : w1.cell? ⟨g, 45, none⟩ = some (.int .u8 0) := by have := hr 45 _ rfl; simpa using this
  clear hO hr
  go_wp2_with fail
  go_ret
  exact ⟨rfl, hb⟩
theorem first_kind (s : ByteArray) : 0 ≤ (firstT s).1.k ∧ (firstT s).1.k ≤ 5 := by
  have hw : ∀ k : Int, 0 ≤ k → k ≤ 5 → 0 ≤ (wordT s k).1.k ∧ (wordT s k).1.k ≤ 5 := by
    intro k h1 h2
    unfold wordT
    split
    · exact ⟨by decide, by decide⟩
    · exact ⟨h1, h2⟩
  unfold firstT
  split
  · exact ⟨by decide, by decide⟩
  · split
    · exact hw 2 (by decide) (by decide)
    · split
      · exact hw 1 (by decide) (by decide)
      · split
        · exact ⟨show (0 : Int) ≤ 3 by decide, show (3 : Int) ≤ 5 by decide⟩
        · split
          · unfold globT
            split
            · split
              · exact ⟨by decide, by decide⟩
              · split
                · exact ⟨show (0 : Int) ≤ 4 by decide, show (4 : Int) ≤ 5 by decide⟩
                · exact ⟨show (0 : Int) ≤ 0 by decide, show (0 : Int) ≤ 5 by decide⟩
            · exact ⟨by decide, by decide⟩
          · unfold signT
            split
            · exact ⟨show (0 : Int) ≤ 5 by decide, show (5 : Int) ≤ 5 by decide⟩
            · exact ⟨by decide, by decide⟩
theorem next_kind (s : ByteArray) (at_ : Int) : 0 ≤ (nextT s at_).1.k ∧ (nextT s at_).1.k ≤ 255 := by
  unfold nextT
  split
  · exact ⟨by decide, by decide⟩
  · unfold nextN
    have h := first_kind (s.extract (startN s at_.toNat) s.size)
    split
    · exact ⟨h.1, Int.le_trans h.2 (by decide)⟩
    · exact ⟨show (0 : Int) ≤ 0 by decide, show (0 : Int) ≤ 255 by decide⟩
theorem cells5 {W : World} {b : Nat} {t : TypeId} {v0 v1 v2 v3 v4 : Value} (h : W.heap[b]? = some (.cells #[v0, v1, v2, v3, v4] t)) : W.cell? ⟨b, 0, none⟩ = some v0 ∧ W.cell? ⟨b, 1, none⟩ = some v1 ∧ W.cell? ⟨b, 2, none⟩ = some v2 ∧ W.cell? ⟨b, 3, none⟩ = some v3 ∧ W.cell? ⟨b, 4, none⟩ = some v4 := by
  refine ⟨?_, ?_, ?_, ?_, ?_⟩ <;> simp [World.cell?, h]
end Go.Proofs.YtiemngihndbobaaDoor.Lx
