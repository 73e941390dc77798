/- The statement on one step: it returns true. What the document's Solve keeps in memory: its map, its row, what it bound. Contracts of steps, of solved (the law's) and of SameSolved. What comes of equations is short; what the calls of the statement on equations find. -/
import Derived.Test.YtljggjllijacjaaGreatDoorUXh
import Derived.Test.YtljggjllijacjaaGreatDoorMAh
import Derived.Test.YtljggjllijacjaaGreatDoorUAxh
import Derived.Test.YtljggjllijacjaaGreatDoorYGh
import Derived.Maps.AppendAt
import Derived.Test.YtljggjllijacjaaGreatDoorRAh
import Derived.Test.YtljggjllijacjaaGreatDoorAAh
namespace Go.Proofs.YtljggjllijacjaaGreatDoor
open Go.RowKit
attribute [local go_sem ↓] Go.wp_at_zero Go.wp_at_succ
theorem bd_below {w W : World} {a : Option Addr} {n : Nat} {bs : List Bn} (h : BdRow w a n bs) (hb : Below w.heap.size w W) : BdRow W a n bs := by
  refine ⟨⟨h.row.len, ?_⟩, fun b hb' => ⟨(h.el b hb').1.below hb, (h.el b hb').2⟩⟩
  rcases h.row.mem with e | ⟨b, o, e, h1, h2⟩
  · exact .inl e
  · exact .inr ⟨b, o, e, Nat.lt_of_lt_of_le h1 hb.size, range_below h2 h1 hb⟩
end Go.Proofs.YtljggjllijacjaaGreatDoor

namespace Go.Proofs.YtljggjllijacjaaGreatDoor
open Go.RowKit
attribute [local go_sem ↓] Go.wp_at_zero Go.wp_at_succ
theorem desc_bind {m : Hp} {x : Nm} {l : List C} (h : DescH m) : DescH (bindH m x l) := by
  unfold bindH
  split
  · next e =>
    refine desc_ins h (bind_zero e) fun hv => ?_
    cases hl : lessN (varL l) x
    · unfold bindE at e
      split at e
      · cases e
      · split at e
        · cases e
        · rw [if_pos ⟨hv, hl⟩] at e
          cases e
    · rfl
  · exact h
section
variable {w w' : World} {B rt n : Nat} {m : Hp} {row : List (List C)} {bd : List (Nm × List C)} {lv bv : Value} {us : List Value} {bb : List Bn} {G : Nat → Prop} {bs : List Bn}
end
end Go.Proofs.YtljggjllijacjaaGreatDoor

namespace Go.Proofs.YtljggjllijacjaaGreatDoor
open Go.RowKit
attribute [local go_sem ↓] Go.wp_at_zero Go.wp_at_succ
/-- A block of four cells, and what stands in it. -/
def Fo (w : World) (g t : Nat) (a b c d : Value) : Prop := w.heap[g]? = some (.cells #[a, b, c, d] t (0, 0))
theorem Fo.cells {w : World} {g t : Nat} {a b c d : Value} (h : Fo w g t a b c d) : (w.cell? ⟨g, 0, none⟩ = some a ∧ w.cell? ⟨g, 1, none⟩ = some b ∧ w.cell? ⟨g, 2, none⟩ = some c ∧ w.cell? ⟨g, 3, none⟩ = some d) ∧ g < w.heap.size := by
  have h' : w.heap[g]? = some (.cells #[a, b, c, d] t (0, 0)) := h
  refine ⟨⟨?_, ?_, ?_, ?_⟩, (Array.getElem?_eq_some_iff.1 h').1⟩ <;> (rw [cell_of_row w g _ _ t (0, 0) h']; rfl)
theorem Fo.new (w : World) (t : Nat) (a b c d : Value) : Fo (w.alloc (.cells #[a, b, c, d] t)) w.heap.size t a b c d := heap_alloc_new w _
theorem owns_bs {w : World} {B : Nat} {a : Option Addr} {n c : Nat} {bb : List Bn} (h : w.ownsRow B 73 3 (.slice a n c) bb.length (bb.flatMap encB)) : Bs w a n bb ∧ bb.length = n := by
  obtain ⟨a2, c2, e2, ha, hm⟩ := own_sl h
  simp only [Value.slice.injEq] at e2
  obtain ⟨rfl, rfl, rfl⟩ := e2
  exact ⟨⟨rfl, hm⟩, rfl⟩
/-- A value that is a slice. -/
def bnOf : Nm × List C → Value → Bn
  | b, .slice a n c => ⟨b.1, a, n, c, b.2⟩
  | b, _ => ⟨b.1, none, 0, 0, b.2⟩
theorem bn_zip : ∀ (bd : List (Nm × List C)) (ts : List Value), ts.length = bd.length → (∀ t ∈ ts, ∃ a n c, t = .slice a n c) → encBd bd ts = ((bd.zip ts).map fun p => bnOf p.1 p.2).flatMap encB ∧ ((bd.zip ts).map fun p => bnOf p.1 p.2).map Bn.v = ts ∧ hpOf ((bd.zip ts).map fun p => bnOf p.1 p.2) = bd
  | [], [], _, _ => ⟨rfl, rfl, rfl⟩
  | [], _ :: _, h, _ => by simp at h
  | _ :: _, [], h, _ => by simp at h
  | b :: bd, t :: ts, h, hs => by
    obtain ⟨h1, h2, h3⟩ := bn_zip bd ts (by simpa using h) fun u hu => hs u (List.mem_cons_of_mem _ hu)
    obtain ⟨a, n, c, rfl⟩ := hs t (by simp)
    refine ⟨?_, ?_, ?_⟩
    · unfold encBd at h1 ⊢
      simp only [List.zip_cons_cons, List.flatMap_cons, List.map_cons, h1]
      rfl
    · simp only [List.zip_cons_cons, List.map_cons, h2]
      rfl
    · unfold hpOf at h3 ⊢
      simp only [List.zip_cons_cons, List.map_cons, h3]
      rfl
/-- What was bound and what is left, in memory of one's own: the bindings told as such. -/
structure SvB (B : Nat) (w : World) (bv lv : Value) (bb : List Bn) (us : List Value) (left : List (List C)) : Prop where
  row : w.ownsRow B 73 3 bv bb.length (bb.flatMap encB)
  lrow : w.ownsRow B 24 1 lv left.length us
  el : ∀ (j : Nat) (b : Bn), bb[j]? = some b → OwnT w B b.v b.l
  lel : ∀ (j : Nat) (u : Value) (l : List C), us[j]? = some u → left[j]? = some l → OwnT w B u l
  ap : Ap (bb.map Bn.v)
  lap : Ap us
  apx : ∀ b ∈ bb, ∀ u ∈ us, ∀ g, b.v.ownBlock = some g → u.ownBlock ≠ some g
theorem svR_bn {B : Nat} {w : World} {bv lv : Value} {bd : List (Nm × List C)} {left : List (List C)} (h : SvR B w bv lv bd left) : ∃ bb us, hpOf bb = bd ∧ SvB B w bv lv bb us left := by
  obtain ⟨ts, us, h1, h2, h3, h4, h5, h6, h7, h8⟩ := h
  obtain ⟨k1, k2, k3⟩ := bn_zip bd ts h3 fun t ht => by
    obtain ⟨j, hj, rfl⟩ := List.getElem_of_mem ht
    obtain ⟨x, y, e⟩ := ownT_form (h4 j _ _ (List.getElem?_eq_getElem hj) (List.getElem?_eq_getElem (by omega)))
    exact ⟨_, _, _, e⟩
  obtain ⟨bb, hbb⟩ : ∃ bb, ((bd.zip ts).map fun p => bnOf p.1 p.2) = bb := ⟨_, rfl⟩
  rw [hbb] at k1 k2 k3
  have hlen : bb.length = bd.length := by have := congrArg List.length k3; simpa [hpOf] using this
  refine ⟨bb, us, k3, ⟨by rw [hlen, ← k1]; exact h1, h2, fun j b hb => ?_, h5, by rw [k2]; exact h6, h7, fun b hb u hu => h8 b.v (by rw [← k2]; exact List.mem_map_of_mem hb) u hu⟩⟩
  refine h4 j b.v (b.x, b.l) (by rw [← k2, List.getElem?_map, hb]; rfl) (by rw [← k3]; unfold hpOf; rw [List.getElem?_map, hb]; rfl)
end Go.Proofs.YtljggjllijacjaaGreatDoor

namespace Go.Proofs.YtljggjllijacjaaGreatDoor
open Go.RowKit
attribute [local go_sem ↓] Go.wp_at_zero Go.wp_at_succ
/-- What comes of equations: short terms, not too many. -/
structure SolOk (s : Sol) (n0 : Nat) : Prop where
  bd : ∀ b ∈ s.bd, Sht b.2
  left : ∀ t ∈ s.left, Sht t
  bl : s.bd.length ≤ n0
  ll : s.left.length ≤ n0
theorem solF_ok : ∀ (g : Nat) (s : Sta) (n0 : Nat), StaOk s n0 → SolOk (solF g s) (n0 + 8 * (s.d + g)) := by
  intro g
  induction g with
  | zero =>
    intro s n0 h
    cases hr : s.row with
    | nil =>
      rw [solF_none hr]
      exact ⟨fun b hb => (h.bd b hb).1, fun t ht => by (cases ht), by have := h.bl; show s.bd.length ≤ _; omega, Nat.zero_le _⟩
    | cons t r =>
      rw [solF_zero hr]
      exact ⟨fun b hb => (h.bd b hb).1, fun x hx => (h.row x (by rw [hr]; exact hx)).1, by have := h.bl; show s.bd.length ≤ _; omega, by have := h.len; rw [hr] at this; show (t :: r).length ≤ _; omega⟩
  | succ g ih =>
    intro s n0 h
    cases hr : s.row with
    | nil =>
      rw [solF_none hr]
      exact ⟨fun b hb => (h.bd b hb).1, fun t ht => by (cases ht), by have := h.bl; show s.bd.length ≤ _; omega, Nat.zero_le _⟩
    | cons t r =>
      by_cases hk : (nxK s t).k = 4
      · rw [solF_clash hr hk]
        exact ⟨fun b hb => (by cases hb), fun t ht => by (cases ht), Nat.zero_le _, Nat.zero_le _⟩
      · rw [solF_next hr hk]
        have h1 := ih (nxS s t r) n0 (h.next hr)
        have h2 : (nxS s t r).d = s.d + 1 := rfl
        rw [h2] at h1
        have h3 : s.d + 1 + g = s.d + (g + 1) := by omega
        rw [h3] at h1
        exact h1
theorem slvF_ok {m : Hp} {ls : List (List C)} {n0 : Nat} (N : Int) (hW : HpW m) (hwf : ∀ l ∈ ls, WfT l) (hl : ls.length ≤ n0) (hN : N ≤ 3000) : SolOk (slvF m ls N) (n0 + 24000) := by
  unfold slvF
  cases hany : ls.any noneB
  · have hst : StaOk (Sta0 m ls) n0 := by
      refine ⟨hW, fun t ht => ⟨?_, hwf t ht⟩, fun b hb => (by cases hb), (by show ls.length ≤ n0 + 8 * 0; omega), Nat.le_refl _⟩
      have h1 : noneB t = false := by
        cases h2 : noneB t
        · rfl
        · have h3 : ls.any noneB = true := List.any_eq_true.2 ⟨t, ht, h2⟩
          rw [h3] at hany
          cases hany
      unfold noneB at h1
      simp only [Bool.or_eq_false_iff, Bool.not_eq_false'] at h1
      exact sht_right (global_right h1.1)
    have h := solF_ok N.toNat (Sta0 m ls) n0 hst
    have h0 : (Sta0 m ls).d = 0 := rfl
    rw [h0] at h
    have h2 : N.toNat ≤ 3000 := by omega
    exact ⟨h.bd, h.left, Nat.le_trans h.bl (by omega), Nat.le_trans h.ll (by omega)⟩
  · exact ⟨fun b hb => (by cases hb), fun t ht => by (cases ht), Nat.zero_le _, Nat.zero_le _⟩
section
variable {W W' : World} {hb M rt n0 : Nat} {m : Hp} {ls : List (List C)} {hs : Nat} {u v : Value}
end
/-- A solution of the program can be read. -/
theorem SvB.bs {B : Nat} {w : World} {ba : Option Addr} {bn bc : Nat} {lv : Value} {bb : List Bn} {us : List Value} {left : List (List C)} {n0 : Nat} {s : Sol} (h : SvB B w (.slice ba bn bc) lv bb us left) (hs : SolOk s n0) (hb : hpOf bb = s.bd) (hl : left = s.left) (hn : n0 ≤ maxLen) : Bs w ba bn bb ∧ (∀ b ∈ bb, TermAt w b.v b.l) ∧ RowAt w lv left ∧ bn ≤ n0 := by
  subst hl
  have hm : ∀ {l : List C}, Sht l → l.length ≤ maxLen := fun h => by have := h.1; unfold maxLen; omega
  obtain ⟨h1, h2⟩ := owns_bs h.row
  refine ⟨h1, fun b hb' => ?_, ownRow_row ⟨us, h.lrow, h.lel, h.lap⟩ (Nat.le_trans hs.ll hn) fun x hx => ⟨hm (hs.left x hx), (hs.left x hx).2⟩, ?_⟩
  · obtain ⟨j, hj, rfl⟩ := List.getElem_of_mem hb'
    have h3 := hs.bd (bb[j].x, bb[j].l) (by rw [← hb]; exact List.mem_map.2 ⟨bb[j], hb', rfl⟩)
    exact ownT_term (h.el j _ (List.getElem?_eq_getElem hj)) (hm h3) h3.2
  · have := hs.bl
    rw [← hb] at this
    simp only [hpOf, List.length_map] at this
    omega
theorem SvB.below {B : Nat} {w w' : World} {bv lv : Value} {bb : List Bn} {us : List Value} {left : List (List C)} (h : SvB B w bv lv bb us left) (hb : Below w.heap.size w w') : SvB B w' bv lv bb us left :=
  ⟨owns_below h.row hb, owns_below h.lrow hb, fun j b hj => ownT_below (h.el j b hj) hb, fun j u l h1 h2 => ownT_below (h.lel j u l h1 h2) hb, h.ap, h.lap, h.apx⟩
end Go.Proofs.YtljggjllijacjaaGreatDoor
