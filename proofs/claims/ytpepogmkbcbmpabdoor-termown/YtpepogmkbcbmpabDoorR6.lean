/- Contracts of lent and rows: a term, a row of terms in memory of their own. -/
import Derived.Test.YtpepogmkbcbmpabDoorR5
namespace Go.Proofs.YtpepogmkbcbmpabDoor
open Go.RowKit
def OwnT (w : World) (base : Nat) (u : Value) (l : List C) : Prop := w.ownsRow base 34 5 u l.length (flat l)
set_option maxHeartbeats 1000000 in
theorem c21_nil (ad : Option Addr) (w : World) :
    Calls Tryd.prog 4 #[.slice ad 0 0] w fun e w' => e = .returned (.slice none 0 0) ∧ w' = w := by
  cases ad
  all_goals
    go_enter Tryd.func4, Tryd.ntmps4
    go_wp2_with fail
    go_ret
    exact ⟨rfl, rfl⟩
set_option maxHeartbeats 1000000 in
theorem c21_in (l : List C) (b o cap : Nat) (w : World) (hr : w.rangeAt b o (flat l)) (hby47 : l.length * 48 ≤ 140737488355328) :
    Calls Tryd.prog 4 #[.slice (some ⟨b, o, none⟩) l.length cap] w fun e w' => ∃ u, e = .returned u ∧ OwnT w' w.heap.size u l ∧ Below w.heap.size w w' := by
  obtain ⟨i0, hi, hz, hs, hby⟩ := info60
  have hnews : Hid (∀ j u, (flat l)[j]? = some u → w.cell? ((⟨b, o, none⟩ : Addr).add j) = some u) := fun j u hu => by rw [Addr.add_mid]; exact hr j u hu
  have hlen : Hid ((flat l).length = l.length * 5) := by
    show (flat l).length = l.length * 5
    rw [flat_length]; omega
  clear hr
  go_enter Tryd.func4, Tryd.ntmps4
  go_wp2_with (at_builtin; refine wpList_append_own _ rfl _ _ 23 rfl w.heap.size 34 i0 zero60 5 48 Tryd.underlying23 hi hz hs hby rfl (by decide) _ _ _ rfl (World.ownsRow_nil w w.heap.size 34 5) ⟨b, o, none⟩ l.length cap (flat l) rfl hlen.out hnews.out (flat_one _) (by unfold maxLen; omega) (by omega) (Nat.le_refl _) ?_)
  intro v' w' hown' hgrow hnil
  have hown' : Hid (OwnT w' w.heap.size v' l) := hown'
  have hb : Hid (Below w.heap.size w w') := (Below.refl _ _).grown hgrow (Nat.le_refl _) (fun g hg => by simp [Value.ownBlock] at hg)
  clear hgrow hnil
  go_wp2_with fail
  go_ret
  exact ⟨_, rfl, hown'.out, hb.out⟩
theorem c21 (l : List C) (v : Value) (w : World) (h : TermAt w v l) (hby47 : l.length * 48 ≤ 140737488355328) :
    Calls Tryd.prog 4 #[v] w fun e w' => ∃ u, e = .returned u ∧ OwnT w' w.heap.size u l ∧ Below w.heap.size w w' := by
  obtain ⟨_, h⟩ := h
  rcases h with ⟨rfl, ad, rfl⟩ | ⟨b, o, cap, rfl, h2, h5, h3, h4⟩
  · exact (c21_nil ad w).mono fun e w' ⟨h1, h2⟩ => ⟨_, h1, by rw [h2]; exact World.ownsRow_nil w _ 34 5, by rw [h2]; exact Below.refl _ _⟩
  · exact c21_in l b o cap w h3 hby47
theorem ownT_term {w : World} {base : Nat} {u : Value} {l : List C} (h : OwnT w base u l) (hl : l.length ≤ maxLen) (ht : ∀ c ∈ l, c.t.size ≤ maxLen) : TermAt w u l := termAt_of_owns h hl ht
theorem ownT_below {w w' : World} {base : Nat} {u : Value} {l : List C} (h : OwnT w base u l) (hb : Below w.heap.size w w') : OwnT w' base u l := by
  refine ⟨h.1, ?_⟩
  rcases h.2 with hn | ⟨g, cap, cur, h1, h2, h3, h4⟩
  · exact Or.inl hn
  · exact Or.inr ⟨g, cap, cur, h1, h2, (hb.block g (Array.getElem?_eq_some_iff.1 h3).1).trans h3, h4⟩
/-- A term of its own lies in another block than a row of terms. -/
theorem ownT_far {w : World} {base base' : Nat} {u v : Value} {l : List C} {n : Nat} {xs : List Value} (h : OwnT w base u l) (h' : w.ownsRow base' 23 1 v n xs) : u.ownBlock = none ∨ u.ownBlock ≠ v.ownBlock := by
  rcases h.2 with ⟨rfl, _⟩ | ⟨g, cap, cur, rfl, _, h3, _⟩
  · exact Or.inl rfl
  · right
    rcases h'.2 with ⟨rfl, _⟩ | ⟨g', cap', cur', rfl, _, h3', _⟩
    · simp [Value.ownBlock]
    · intro e
      simp [Value.ownBlock] at e
      subst e
      rw [h3] at h3'
      simp at h3'
end Go.Proofs.YtpepogmkbcbmpabDoor
