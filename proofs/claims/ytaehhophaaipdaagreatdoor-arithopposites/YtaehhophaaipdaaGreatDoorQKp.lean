/- Contracts of SameNames, of the document's rows of names and operators. Contract of the reference Args. Contract of the document's sum: a leaf, and what is no operator. -/
import Derived.Test.YtaehhophaaipdaaGreatDoorQDp
import Derived.Test.YtaehhophaaipdaaGreatDoorAR5p
import Derived.Test.YtaehhophaaipdaaGreatDoorQHp
import Derived.Test.YtaehhophaaipdaaGreatDoorQJp
import Derived.Test.YtaehhophaaipdaaGreatDoorQBp
import Derived.Test.YtaehhophaaipdaaGreatDoorQIp
namespace Go.Proofs.YtaehhophaaipdaaGreatDoor
open Go.RowKit
attribute [local go_sem ↓] Go.wp_at_zero Go.wp_at_succ
set_option maxHeartbeats 1000000 in
theorem c33_len (n m c1 c2 : Nat) (a1 a2 : Option Addr) (w : World) (h : ((n : Int) != (m : Int)) = true) :
    Calls Tryz.prog 12 #[.slice a1 n c1, .slice a2 m c2] w fun e w' => e = .returned (.bool false) ∧ Below w.heap.size w w' := by
  go_enter Tryz.func12, Tryz.ntmps12
  go_wp2_with fail
  go_ret
  exact ⟨rfl, Below.refl _ _⟩
set_option maxHeartbeats 1000000 in
theorem c33_nil (c1 c2 : Nat) (a1 a2 : Option Addr) (w : World) :
    Calls Tryz.prog 12 #[.slice a1 0 c1, .slice a2 0 c2] w fun e w' => e = .returned (.bool true) ∧ Below w.heap.size w w' := by
  go_enter Tryz.func12, Tryz.ntmps12
  go_wp2_with fail
  refine wp_loop_rounds 1 ?_
  rw [rounds_succ]
  go_wp2_with fail
  go_ret
  exact ⟨rfl, Below.refl _ _⟩
set_option maxHeartbeats 2000000 in
theorem c33_in (l m : List Nm) (b1 o1 c1 b2 o2 c2 : Nat) (w : World) (hr1 : w.rangeAt b1 o1 (flatN l)) (hr2 : w.rangeAt b2 o2 (flatN m)) (hl : l.length = m.length) (hc : l.length ≤ maxLen) (hb1 : b1 < w.heap.size) (hb2 : b2 < w.heap.size) :
    Calls Tryz.prog 12 #[.slice (some ⟨b1, o1, none⟩) l.length c1, .slice (some ⟨b2, o2, none⟩) l.length c2] w fun e w' => e = .returned (.bool (eqNs l m)) ∧ Below w.heap.size w w' := by
  unfold maxLen at hc
  have HR1 : Hid (w.rangeAt b1 o1 (flatN l)) := hr1
  have HR2 : Hid (w.rangeAt b2 o2 (flatN m)) := hr2
  have HL : Hid (l.length = m.length) := hl
  have hne : (((l.length : Nat) : Int) != (l.length : Int)) = false := by simp
  clear hr1 hr2 hl
  go_enter Tryz.func12, Tryz.ntmps12
  go_wp2_with fail
  go_loopw [5] (fun i wr => ∃ k : Nat, k ≤ l.length ∧ i = .int .i64 k ∧ Hid (eqNUpto l m k) ∧ Below w.heap.size w wr) (fun i _ => l.length - (intOf i).toNat)
  case atStart => exact ⟨0, by omega, rfl, fun j hj => by omega, Below.refl _ _⟩
  case round =>
    obtain ⟨k, hk, rfl, HU, hbr⟩ := hrel
    by_cases hlt : k < l.length
    · have hlt' : (k : Int) < (l.length : Int) := by omega
      have hk0 : (0 : Int) ≤ (k : Int) := by omega
      have hlm : k < m.length := by rw [← HL.out]; exact hlt
      obtain ⟨p0, p1⟩ := name_cells (range_below HR1.out hb1 hbr) k hlt
      obtain ⟨q0, q1⟩ := name_cells (range_below HR2.out hb2 hbr) k hlm
      have hN := neq23 l[k].1 l[k].2 m[k].1 m[k].2
      have e1 : (l[k].1 == m[k].1 && l[k].2 == m[k].2) = eqN l[k] m[k] := rfl
      rw [e1] at hN
      clear e1
      cases hq : eqN l[k] m[k]
      · have hF : Hid (eqNs l m = false) := eqNs_false k hlt hlm hq
        rw [hq] at hN
        clear hq
        go_wp2_with fail
        go_quiet (fail)
        go_wp2_with fail
        go_ret
        exact ⟨by rw [hF.out]; rfl, below_drewN hbr _⟩
      · have hU : Hid (eqNUpto l m (k + 1)) := fun j hj h1 h2 => if e : j = k then by subst e; exact hq else HU.out j (by omega) h1 h2
        rw [hq] at hN
        clear hq
        go_wp2_with fail
        go_quiet (fail)
        go_wp2_with fail
        go_roundw
        case rel => exact ⟨k + 1, by omega, by go_num, hU, below_drewN hbr _⟩
        case measure => simp [intOf]; omega
    · have hF : Hid (eqNs l m = true) := eqNs_true HL.out (by rw [show l.length = k by omega]; exact HU.out)
      have hlt' : ¬ ((k : Int) < (l.length : Int)) := by omega
      go_wp2_with fail
      go_ret
      exact ⟨by rw [hF.out]; rfl, hbr⟩
theorem c33 (l m : List Nm) (v u : Value) (w : World) (hv : NamesAt w v l) (hu : NamesAt w u m) :
    Calls Tryz.prog 12 #[v, u] w fun e w' => e = .returned (.bool (eqNs l m)) ∧ Below w.heap.size w w' := by
  by_cases hl : l.length = m.length
  · by_cases h0 : l.length = 0
    · obtain ⟨a1, c1, rfl⟩ := hv.form
      obtain ⟨a2, c2, rfl⟩ := hu.form
      have e1 : l = [] := List.eq_nil_of_length_eq_zero h0
      have e2 : m = [] := List.eq_nil_of_length_eq_zero (by omega)
      subst e1 e2
      exact c33_nil c1 c2 a1 a2 w
    · obtain ⟨hc, hv⟩ := hv
      obtain ⟨_, hu⟩ := hu
      rcases hv with ⟨e, _⟩ | ⟨b1, o1, c1, rfl, hr1, hb1⟩
      · rw [e] at h0; simp at h0
      rcases hu with ⟨e, _⟩ | ⟨b2, o2, c2, rfl, hr2, hb2⟩
      · rw [hl, e] at h0; simp at h0
      rw [← hl]
      exact c33_in l m b1 o1 c1 b2 o2 c2 w hr1 hr2 hl hc hb1 hb2
  · obtain ⟨a1, c1, rfl⟩ := hv.form
    obtain ⟨a2, c2, rfl⟩ := hu.form
    have e : eqNs l m = false := by
      unfold eqNs; rw [decide_eq_false_iff_not]; intro e; rw [e] at hl; exact hl rfl
    rw [e]
    exact c33_len _ _ c1 c2 a1 a2 w (by simp; omega)
theorem both_len : ∀ (b a : List Nm), (bothN a b).length ≤ a.length + b.length
  | [], a => Nat.le_refl _
  | x :: b, a => by
    have h := both_len b (addN a x)
    have h2 : (addN a x).length ≤ a.length + 1 := by unfold addN; split <;> simp
    show (bothN (addN a x) b).length ≤ _
    rw [List.length_cons]
    omega
end Go.Proofs.YtaehhophaaipdaaGreatDoor

namespace Go.Proofs.YtaehhophaaipdaaGreatDoor
open Go.RowKit
end Go.Proofs.YtaehhophaaipdaaGreatDoor

namespace Go.Proofs.YtaehhophaaipdaaGreatDoor
open Go.RowKit
attribute [local go_sem ↓] Go.wp_at_zero Go.wp_at_succ
theorem waits_flat : ∀ (ps : List (List C)) (rs : List V3) (a : List Nm), rs.length = ps.length → (∀ (j : Nat) (p : List C) (v : V3), ps[j]? = some p → rs[j]? = some v → v.2.2.length ≤ p.length) → (waitsF a rs).length ≤ a.length + ps.flatten.length
  | [], [], a, _, _ => Nat.le_refl _
  | [], _ :: _, _, h, _ => by simp at h
  | _ :: _, [], _, h, _ => by simp at h
  | p :: ps, v :: rs, a, h, hj => by
    have h1 := waits_flat ps rs (bothN a v.2.2) (by simpa using h) (fun j p v hp hv => hj (j + 1) p v (by simpa using hp) (by simpa using hv))
    have h2 := both_len v.2.2 a
    have h3 := hj 0 p v rfl rfl
    show (waitsF (bothN a v.2.2) rs).length ≤ _
    rw [List.flatten_cons, List.length_append]
    omega
theorem args_flat (c : C) (r : List C) : (argsL (c :: r)).flatten.length ≤ (c :: r).length := by
  by_cases h : rightB (c :: r) = true ∧ 0 < (c :: r).length ∧ headK (c :: r) = 3
  · rw [(argsL_spec _ h.1 h.2.1 h.2.2).1]
    simp
  · rw [argsL_none _ h]
    simp
theorem rs_len {m : Hp} {d : Nat} {p : List C} {v : V3} (h : Rs m d p v) : v.2.2.length ≤ p.length := by
  induction h with
  | leaf hk hf =>
    unfold leafR
    split
    · simp
    · split <;> simp
  | none hk hn => simp
  | @op d c r i rs hk hi hm hl hw hok hs ih =>
    have h1 := waits_flat (argsL (c :: r)) rs [] hl ih
    have h2 := args_flat c r
    unfold finR
    split
    · simp
    · split
      · split <;> simp
      · simp only [List.length_nil, Nat.zero_add] at h1
        exact Nat.le_trans h1 h2
/-- What a call of the document's sum tells. -/
def RvPost (v : V3) (w : World) (e : Ending) (w' : World) : Prop := ∃ q c, e = .returned (.tuple #[.int .i64 v.1, .int .u8 v.2.1, .slice q v.2.2.length c]) ∧ NamesAt w' (.slice q v.2.2.length c) v.2.2 ∧ Below w.heap.size w w'
theorem namesAt_nil (w : World) : NamesAt w (.slice none 0 0) [] := ⟨by simp, .inl ⟨rfl, none, rfl⟩⟩
theorem post_nil {n o : Int} {w w' : World} (h : Below w.heap.size w w') : RvPost (n, o, []) w (.returned (.tuple #[.int .i64 n, .int .u8 o, .slice none 0 0])) w' := ⟨none, 0, rfl, namesAt_nil _, h⟩
theorem head_cells {w : World} {v : Value} {c : C} {r : List C} (h : TermAt w v (c :: r)) : ∃ b o cap, v = .slice (some ⟨b, o, none⟩) (r.length + 1) cap ∧ r.length + 1 ≤ cap ∧ Hid (∀ W, Below w.heap.size w W → W.cell? ⟨b, o, none⟩ = some (.int .u8 c.k) ∧ W.cell? ⟨b, o + 1, none⟩ = some (.string c.t) ∧ W.cell? ⟨b, o + 2, none⟩ = some (.int .i64 c.n) ∧ W.cell? ⟨b, o + 3, none⟩ = some (.int .i64 c.vn) ∧ W.cell? ⟨b, o + 4, none⟩ = some (.int .i64 c.vk)) := by
  rcases h.2 with ⟨e, _⟩ | ⟨b, o, cap, rfl, h2, _, h3, h4⟩
  · cases e
  · refine ⟨b, o, cap, rfl, h2, fun W hW => ?_⟩
    have := term_cells (range_below h3 h4 hW) 0 (by simp)
    simpa using this
end Go.Proofs.YtaehhophaaipdaaGreatDoor
