/- The statement on both sides of an equation: it returns true. -/
import Derived.Test.YtljggjllijacjaaGreatDoorU9g
import Derived.Test.YtljggjllijacjaaGreatDoorUBcg
import Derived.Test.YtljggjllijacjaaGreatDoorQPg
namespace Go.Proofs.YtljggjllijacjaaGreatDoor
open Go.RowKit
attribute [local go_sem ↓] Go.wp_at_zero Go.wp_at_succ
def sd1 (l : List C) : List C := if eqB l then (argsL l).headD [] else []
def sd2 (l : List C) : List C := if eqB l then (argsL l).tail.headD [] else []
theorem sd_no {l : List C} (h : eqB l = false) : sd1 l = [] ∧ sd2 l = [] := by unfold sd1 sd2; rw [h]; exact ⟨rfl, rfl⟩
theorem sd_yes {l x y : List C} (h : eqB l = true) (ha : argsL l = [x, y]) : sd1 l = x ∧ sd2 l = y := by unfold sd1 sd2; rw [h, ha]; exact ⟨rfl, rfl⟩
theorem ap_nil2 : Ap [.slice none 0 0, .slice none 0 0] := by
 intro j j' v v' g _ hv _ hg
 match j with
 | 0 => simp at hv; subst hv; cases hg
 | 1 => simp at hv; subst hv; cases hg
 | _ + 2 => simp at hv
theorem sd_len (l : List C) : (sd1 l).length ≤ 256 ∧ (sd2 l).length ≤ 256 := by
 cases h : eqB l
 ·rw [(sd_no h).1, (sd_no h).2]; simp
 ·obtain ⟨x, y, ha⟩ := eq_two h
  rw [(sd_yes h ha).1, (sd_yes h ha).2]
  exact ⟨(argsL_mem l x (by rw [ha]; simp)).1, (argsL_mem l y (by rw [ha]; simp)).1⟩
theorem sd_txt (l : List C) (ht : ∀ c ∈ l, c.t.size ≤ maxLen) : (∀ c ∈ sd1 l, c.t.size ≤ maxLen) ∧ ∀ c ∈ sd2 l, c.t.size ≤ maxLen := by
 cases h : eqB l
 ·rw [(sd_no h).1, (sd_no h).2]; simp
 ·obtain ⟨x, y, ha⟩ := eq_two h
  rw [(sd_yes h ha).1, (sd_yes h ha).2]
  exact ⟨fun c hc => ht c ((argsL_mem l x (by rw [ha]; simp)).2 c hc), fun c hc => ht c ((argsL_mem l y (by rw [ha]; simp)).2 c hc)⟩
theorem u6s (l : List C) (v : Value) (w : World) (hT : TermAt w v l) (hS : Signs w) : Calls Tryz.prog 30 #[v] w fun e w' => ∃ a b, e = .returned (.tuple #[a, b, .bool (eqB l)]) ∧ OwnT w' w.heap.size a (sd1 l) ∧ OwnT w' w.heap.size b (sd2 l) ∧ Ap [a, b] ∧ Below w.heap.size w w' :=
 (u6 l v w hT hS).mono fun e w' h => by
  rcases h with ⟨h1, h2, h3⟩ | ⟨h1, a, b, x, y, h2, h3, h4, h5, h6, h7⟩
  ·rw [(sd_no h1).1, (sd_no h1).2, h1]
   exact ⟨_, _, h2, World.ownsRow_nil _ _ _ _, World.ownsRow_nil _ _ _ _, ap_nil2, h3⟩
  ·rw [(sd_yes h1 h2).1, (sd_yes h1 h2).2, h1]
   exact ⟨a, b, h3, h4, h5, h6, h7⟩
theorem u7s (l : List C) (v : Value) (w : World) (hT : TermAt w v l) : Calls Tryz.prog 63 #[v] w fun e w' => ∃ a b, e = .returned (.tuple #[a, b, .bool (eqB l)]) ∧ TermAt w' a (sd1 l) ∧ TermAt w' b (sd2 l) ∧ Below w.heap.size w w' :=
 (u7 l v w hT).mono fun e w' h => by
  rcases h with ⟨h1, h2, h3⟩ | ⟨h1, a, b, x, y, h2, h3, h4, h5, h7⟩
  ·rw [(sd_no h1).1, (sd_no h1).2, h1]
   exact ⟨_, _, h2, termAt_nil _, termAt_nil _, h3⟩
  ·rw [(sd_yes h1 h2).1, (sd_yes h1 h2).2, h1]
   exact ⟨a, b, h3, h4, h5, h7⟩
end Go.Proofs.YtljggjllijacjaaGreatDoor
