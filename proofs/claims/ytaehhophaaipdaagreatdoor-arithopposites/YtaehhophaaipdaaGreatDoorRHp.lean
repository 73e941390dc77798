/- The statement on the numbers of sums. -/
import Derived.Test.YtaehhophaaipdaaGreatDoorQNp
import Derived.Test.YtaehhophaaipdaaGreatDoorMAp
import Derived.Test.YtaehhophaaipdaaGreatDoorQOp
import Derived.Test.YtaehhophaaipdaaGreatDoorR3p
import Derived.Test.YtaehhophaaipdaaGreatDoorQJp
namespace Go.Proofs.YtaehhophaaipdaaGreatDoor
open Go.RowKit
attribute [local go_sem ↓] Go.wp_at_zero Go.wp_at_succ
/-- Both sides tell the same of a term. -/
theorem both_vals (m : Hp) (hR : RgH m) (hD : DescH m) (cells : List C) : ∃ (d : Nat) (v : V3), (rightB cells = true → Rs m d cells v) ∧
    ∀ (a : Option Addr) (val : Value) (w : World), TermAt w val cells → Signs w → HpV w (.pointer a) m → (∀ c ∈ cells, wfN (c.vn, c.vk)) → Calls Tryz.prog 9 #[.pointer a, val] w (RvPost (valR v (rightB cells)) w) := by
  have hok : HpOk m := fun x l h => ⟨(hR x l h).1, by
    have := ((right_iff _).1 (hR x l h).2).2.1
    omega⟩
  cases hr : rightB cells
  · refine ⟨0, (0, 2, []), fun h => (by cases h), fun a val w hT hS _ _ => ?_⟩
    refine (h39_wrong a cells val w hT hS hr).mono ?_
    rintro e w' ⟨rfl, h⟩
    exact post_nil h
  · obtain ⟨r1, r2, r3, r4⟩ := (right_iff _).1 hr
    obtain ⟨p, rest, v, e, h2, h3, h4, h5, h6⟩ := bothS hR hD cells.length cells 0 (Nat.le_refl _) r2 r4 r3
    have e0 := compQ_zero h3
    subst e0
    rw [List.append_nil] at e
    subst e
    obtain ⟨n, rest', names', hs, _, h7⟩ := h6 []
    refine ⟨cells.length, v, fun _ => h4, fun a val w hT hS hp hW => ?_⟩
    refine (h39 m hok a cells val w cells.length n v.2.1 rest' names' hT hS hr hp hs hW (by omega)).mono ?_
    rintro e w' ⟨nv, rfl, ⟨base, hN⟩, hb⟩
    have e1 : valN n v.2.1 = v.1 ∧ valM v.2.1 names' = v.2.2 := by
      by_cases e2 : v.2.1 = 2
      · rcases h5 with h5 | h5 | h5
        · omega
        · rw [h5]
          exact ⟨rfl, rfl⟩
        · omega
      · obtain ⟨_, e3, e4⟩ := h7 e2
        unfold valN valM
        rw [if_neg e2, if_neg e2, e3, e4]
        refine ⟨rfl, ?_⟩
        rcases h5 with h5 | h5 | h5
        · rw [h5.2.1]
          rfl
        · rw [h5] at e2
          exact absurd rfl e2
        · exact h5.2.2.2
    rw [e1.2] at hN
    have hl : v.2.2.length ≤ maxLen := by
      have := rs_len h4
      unfold maxLen
      omega
    have hN2 := namesAt_of_owns (base := base) hN hl
    obtain ⟨q, c, rfl⟩ := hN2.form
    rw [e1.1]
    exact ⟨q, c, rfl, hN2, hb⟩
theorem eqNs_refl (l : List Nm) : eqNs l l = true := by
  unfold eqNs
  simp
end Go.Proofs.YtaehhophaaipdaaGreatDoor
