/- The reference's place, Value, Chain and Deref of a nil map. The program's Step and the document's tell the same. SameTerms of like rows; a step as the document's. SameBindings of like rows: the document's, and the one that looks at memory. Terms of a row put into a book; a step's answer, with what is empty in it. A step as the document's; two steps that are the same. -/
import Derived.Test.YtljggjllijacjaaGreatDoorUGh
import Derived.Test.YtljggjllijacjaaGreatDoorUIh
import Derived.Test.YtljggjllijacjaaGreatDoorIHh
import Derived.Test.YtljggjllijacjaaGreatDoorRAh
import Derived.Test.YtljggjllijacjaaGreatDoorAAh
import Derived.Test.YtljggjllijacjaaGreatDoorUAxh
namespace Go.Proofs.YtljggjllijacjaaGreatDoor
open Go.RowKit
attribute [local go_sem ↓] Go.wp_at_zero Go.wp_at_succ
end Go.Proofs.YtljggjllijacjaaGreatDoor

namespace Go.Proofs.YtljggjllijacjaaGreatDoor
open Go.RowKit
end Go.Proofs.YtljggjllijacjaaGreatDoor

namespace Go.Proofs.YtljggjllijacjaaGreatDoor
open Go.RowKit
attribute [local go_sem ↓] Go.wp_at_zero Go.wp_at_succ
end Go.Proofs.YtljggjllijacjaaGreatDoor

namespace Go.Proofs.YtljggjllijacjaaGreatDoor
open Go.RowKit
attribute [local go_sem ↓] Go.wp_at_zero Go.wp_at_succ
end Go.Proofs.YtljggjllijacjaaGreatDoor

namespace Go.Proofs.YtljggjllijacjaaGreatDoor
open Go.RowKit
attribute [local go_sem ↓] Go.wp_at_zero Go.wp_at_succ
/-- A step's answer, with what is empty in it. -/
def StV (k : Int) (V : Nm) (T : List C) (P : List (List C)) (e : Ending) (w w' : World) : Prop := ∃ ta tn tc pa pn pc, e = .returned (.agg #[.int .u8 k, .int .i64 V.1, .int .i64 V.2, .slice ta tn tc, .slice pa pn pc]) ∧ OwnT w' w.heap.size (.slice ta tn tc) T ∧ OwnRow w' w.heap.size (.slice pa pn pc) P ∧ Below w.heap.size w w' ∧ (P = [] ∨ ta = none)
theorem stV_of {a b : List C} {e : Ending} {w w' : World} (h : StPost a b e w w') : StV (stK a b) (uV a b) (uT a b) (uP a b) e w w' := by
  obtain ⟨hb, h⟩ := h
  unfold uV uT uP
  rcases h with ⟨h1, h2⟩ | ⟨h1, h2⟩ | ⟨h1, ad, n, c, h2, h3⟩ | ⟨h1, ad, n, c, h2, h3⟩
  · rw [h1, if_neg (by decide), if_neg (by decide), if_neg (by decide)]
    exact ⟨none, 0, 0, none, 0, 0, h2, World.ownsRow_nil _ _ _ _, ownRow_nil _ _, hb, .inl rfl⟩
  · rw [h1, if_neg (by decide), if_neg (by decide), if_neg (by decide)]
    exact ⟨none, 0, 0, none, 0, 0, h2, World.ownsRow_nil _ _ _ _, ownRow_nil _ _, hb, .inl rfl⟩
  · rw [h1, if_pos rfl, if_pos rfl, if_neg (by decide)]
    exact ⟨ad, n, c, none, 0, 0, h2, h3, ownRow_nil _ _, hb, .inl rfl⟩
  · rw [h1, if_neg (by decide), if_neg (by decide), if_pos rfl]
    exact ⟨none, 0, 0, ad, n, c, h2, World.ownsRow_nil _ _ _ _, h3, hb, .inr rfl⟩
/-- Terms short enough, with short texts. -/
def Sht (l : List C) : Prop := l.length ≤ 256 ∧ ∀ c ∈ l, c.t.size ≤ maxLen
theorem sht_right {l : List C} (h : rightB l = true) : Sht l := ⟨(right_len h).2, (right_text h).2⟩
theorem sht_nil : Sht [] := ⟨by simp, by simp⟩
theorem stK_range (a b : List C) : 1 ≤ stK a b ∧ stK a b ≤ 4 := by
  unfold stK
  repeat' split
  all_goals decide
end Go.Proofs.YtljggjllijacjaaGreatDoor

namespace Go.Proofs.YtljggjllijacjaaGreatDoor
open Go.RowKit
attribute [local go_sem ↓] Go.wp_at_zero Go.wp_at_succ
end Go.Proofs.YtljggjllijacjaaGreatDoor
