/- Contracts of lookBy and number. -/
import Derived.Test.YtaehhophaaipdabDoorAR6
namespace Go.Proofs.YtaehhophaaipdabDoor
open Go.RowKit
attribute [local go_sem ↓] Go.wp_at_zero Go.wp_at_succ
/-- What number tells of a cell that was followed. -/
def numS (d : C) (names : List Nm) : Int × Int × List Nm := if d.k = 1 then (d.n, 1, names) else if d.k = 4 then (0, 3, addN names (d.vn, d.vk)) else (0, 2, names)
/-- Values are terms that fit. -/
def HpOk (m : Hp) : Prop := ∀ x l, lookH m x = some l → l ≠ [] ∧ l.length * 48 ≤ 140737488355328
theorem fol_ok {m : Hp} (hm : HpOk m) {P : List C → Prop} (hP : ∀ x l, lookH m x = some l → P l) {a b : List C} (h : Fol m a b) : (a ≠ [] ∧ P a) → b ≠ [] ∧ P b := by
  induction h with
  | here => exact id
  | step e _ ih =>
    intro _
    refine ih ?_
    unfold nextH at e
    split at e
    · exact ⟨(hm _ _ e).1, hP _ _ e⟩
    · cases e
/-- How a look stands. -/
def Lk (w : World) (base lb : Nat) (p : Value) (B g : Nat) (names : List Nm) (K : Nat) : Prop := ∃ M n nv, LkAt w base lb p B g M n nv names ∧ n ≤ K ∧ names.length ≤ K
theorem Lk.below {w w' : World} {base lb : Nat} {p : Value} {B g : Nat} {names : List Nm} {K : Nat} (h : Lk w base lb p B g names K) (hb : Below w.heap.size w w') : Lk w' base lb p B g names K := by
  obtain ⟨M, n, nv, h1, h2⟩ := h
  exact ⟨M, n, nv, h1.below hb, h2⟩
set_option maxRecDepth 100000 in
set_option maxHeartbeats 4000000 in
theorem h74 (m : Hp) (hm : HpOk m) (base lb : Nat) (p : Value) (B g : Nat) (c : C) (v : Value) (names : List Nm) (K : Nat) (w : World) (hL : Lk w base lb p B g names K) (hp : HpV w p m) (hT : TermAt w v [c]) (hW : wfN (c.vn, c.vk)) (hK : K < 999999999) (hbs : base ≤ w.heap.size) :
    Calls Tryd.prog 28 #[.pointer (some ⟨lb, 0, none⟩), v] w fun e w' => ∃ d r, e = .returned (.tuple #[.int .i64 (numS d names).1, .int .u8 (numS d names).2.1]) ∧ IsFol m [c] (d :: r) ∧ Lk w' base lb p B g (numS d names).2.2 (K + 1) ∧ Below base w w' ∧ KeepT w w' := by
  have H15 := h15 m p [c] v w hp hT (by simpa using hW) (by simp) (fun x l h => (hm x l h).2)
  have HFo : Hid (∀ l', Fol m [c] l' → l' ≠ [] ∧ ∀ c ∈ l', wfN (c.vn, c.vk)) := fun l' hf => fol_ok hm (P := fun l => ∀ c ∈ l, wfN (c.vn, c.vk)) (fun x l h => hp.wf h) hf ⟨by simp, by simpa using hW⟩
  have HL : Hid (Lk w base lb p B g names K) := hL
  obtain ⟨M0, n0, nv0, hL0, _⟩ := hL
  have c0 := hL0.cells.1
  obtain ⟨a0, k0, hf0⟩ := hT.form
  subst hf0
  obtain ⟨q, hq⟩ : ∃ q, p = .pointer q := by
    rcases hp with ⟨h, _⟩ | ⟨_, _, _, _, h, _⟩ <;> exact ⟨_, h⟩
  subst hq
  clear hL0 hp hT hW hm
  go_enter Tryd.func28, Tryd.ntmps28
  go_wp2_with fail
  refine H15.mono ?_
  rintro e w1 ⟨u, l', rfl, hT1, hF, _, hb1⟩
  obtain ⟨hne, hwf⟩ := HFo.out l' hF.1
  match l', hne with
  | d :: r, _ =>
    have HF : Hid (IsFol m [c] (d :: r)) := hF
    have HWd : Hid (wfN (d.vn, d.vk)) := hwf d (by simp)
    have HL1 : Hid (Lk w1 base lb (.pointer q) B g names K) := HL.out.below hb1
    have hB1 : Below base w w1 := hb1.mono hbs
    obtain ⟨_, hT1'⟩ := hT1
    rcases hT1' with ⟨e, _⟩ | ⟨b, o, cap, rfl, h2, h5, h3, h4⟩
    · cases e
    obtain ⟨p0, p1, p2, p3, p4⟩ := term_cells h3 0 (by simp)
    simp only [Nat.zero_mul, Nat.add_zero, List.getElem_cons_zero] at p0 p1 p2 p3 p4
    have HL2 : Hid (Lk (w1.alloc (.cells #[.int .u8 d.k, .string d.t, .int .i64 d.n, .int .i64 d.vn, .int .i64 d.vk] 52)) base lb (.pointer q) B g names K) := HL1.out.below ((Below.refl _ _).alloc (Nat.le_refl _) _)
    have HB2 : Hid (Below base w (w1.alloc (.cells #[.int .u8 d.k, .string d.t, .int .i64 d.n, .int .i64 d.vn, .int .i64 d.vk] 52))) := hB1.alloc (Nat.le_trans hbs hb1.size) _
    have HK2 : Hid (KeepT w (w1.alloc (.cells #[.int .u8 d.k, .string d.t, .int .i64 d.n, .int .i64 d.vn, .int .i64 d.vk] 52))) := (KeepT.of_below hb1).trans (KeepT.of_below ((Below.refl _ _).alloc (Nat.le_refl _) _))
    have hx := heap_alloc_new w1 (.cells #[.int .u8 d.k, .string d.t, .int .i64 d.n, .int .i64 d.vn, .int .i64 d.vk] 52)
    have d0 : (w1.alloc (.cells #[.int .u8 d.k, .string d.t, .int .i64 d.n, .int .i64 d.vn, .int .i64 d.vk] 52)).cell? ⟨w1.heap.size, 0, none⟩ = some (.int .u8 d.k) := by rw [cell_of_row _ _ 0 _ 52 (0, 0) hx]; rfl
    have d2 : (w1.alloc (.cells #[.int .u8 d.k, .string d.t, .int .i64 d.n, .int .i64 d.vn, .int .i64 d.vk] 52)).cell? ⟨w1.heap.size, 2, none⟩ = some (.int .i64 d.n) := by rw [cell_of_row _ _ 2 _ 52 (0, 0) hx]; rfl
    have d3 : (w1.alloc (.cells #[.int .u8 d.k, .string d.t, .int .i64 d.n, .int .i64 d.vn, .int .i64 d.vk] 52)).cell? ⟨w1.heap.size, 3, none⟩ = some (.int .i64 d.vn) := by rw [cell_of_row _ _ 3 _ 52 (0, 0) hx]; rfl
    have d4 : (w1.alloc (.cells #[.int .u8 d.k, .string d.t, .int .i64 d.n, .int .i64 d.vn, .int .i64 d.vk] 52)).cell? ⟨w1.heap.size, 4, none⟩ = some (.int .i64 d.vk) := by rw [cell_of_row _ _ 4 _ 52 (0, 0) hx]; rfl
    have h0l : 0 < (d :: r).length := by simp
    have h0i : (0 : Int) < ((d :: r).length : Int) := by simp
    have HNs : Hid (numS d names = if d.k = 1 then (d.n, 1, names) else if d.k = 4 then (0, 3, addN names (d.vn, d.vk)) else (0, 2, names)) := rfl
    have H92 : Hid (Calls Tryd.prog 48 #[.pointer (some ⟨lb, 0, none⟩), .agg #[.int .i64 d.vn, .int .i64 d.vk]] (w1.alloc (.cells #[.int .u8 d.k, .string d.t, .int .i64 d.n, .int .i64 d.vn, .int .i64 d.vk] 52)) fun e w' => e = .returned (.int .u8 3) ∧ Lk w' base lb (.pointer q) B g (addN names (d.vn, d.vk)) (K + 1) ∧ Below base (w1.alloc (.cells #[.int .u8 d.k, .string d.t, .int .i64 d.n, .int .i64 d.vn, .int .i64 d.vk] 52)) w' ∧ KeepT (w1.alloc (.cells #[.int .u8 d.k, .string d.t, .int .i64 d.n, .int .i64 d.vn, .int .i64 d.vk] 52)) w') := by
      obtain ⟨M, n, nv, hl, hk1, hk2⟩ := HL2.out
      refine (h92 base lb _ B g M n nv names (d.vn, d.vk) _ hl HWd.out (by omega) (by omega) (Nat.le_trans hbs (Nat.le_trans hb1.size (by simp)))).mono ?_
      rintro e w' ⟨he, ⟨n', nv', h1, h2⟩, hb, hkt⟩
      exact ⟨he, ⟨M, n', nv', h1, by omega, by have := addN_len names (d.vn, d.vk); omega⟩, hb, hkt⟩
    generalize (d :: r).length = ll at *
    clear hF hx h3 hne hwf H15 c0
    by_cases hk1 : d.k = 1
    · have HE : Hid (numS d names = (d.n, 1, names)) := by show numS d names = _; rw [HNs.out, if_pos hk1]
      have hq1 : (d.k == 1) = true := by simp [hk1]
      clear hk1
      go_wp2_with fail
      refine bodyPost_ret (v := .tuple #[.int .i64 d.n, .int .u8 1]) (by simp [results, Tryd.results28, go_sem]) rfl ⟨d, r, by rw [HE.out], HF.out, ?_, HB2.out, HK2.out⟩
      rw [HE.out]
      obtain ⟨M, n, nv, h1, h2, h3⟩ := HL2.out
      exact ⟨M, n, nv, h1, Nat.le_succ_of_le h2, Nat.le_succ_of_le h3⟩
    · have hq1 : (d.k == 1) = false := by simp [hk1]
      by_cases hk4 : d.k = 4
      · have HE : Hid (numS d names = (0, 3, addN names (d.vn, d.vk))) := by show numS d names = _; rw [HNs.out, if_neg hk1, if_pos hk4]
        have hq4 : (d.k == 4) = true := by simp [hk4]
        clear hk4 hk1
        go_wp2_with fail
        refine H92.out.mono ?_
        rintro e w3 ⟨rfl, hL3, hb3, hk3⟩
        have HL3 : Hid (Lk w3 base lb (.pointer q) B g (addN names (d.vn, d.vk)) (K + 1)) := hL3
        have HB3 : Hid (Below base w w3) := HB2.out.trans hb3
        have HK3 : Hid (KeepT w w3) := HK2.out.trans hk3
        clear hL3 hb3 hk3
        go_wp2_with fail
        refine bodyPost_ret (v := .tuple #[.int .i64 0, .int .u8 3]) (by simp [results, Tryd.results28, go_sem]) rfl ⟨d, r, by rw [HE.out], HF.out, ?_, HB3.out, HK3.out⟩
        rw [HE.out]
        exact HL3.out
      · have HE : Hid (numS d names = (0, 2, names)) := by show numS d names = _; rw [HNs.out, if_neg hk1, if_neg hk4]
        have hq4 : (d.k == 4) = false := by simp [hk4]
        go_wp2_with fail
        refine bodyPost_ret (v := .tuple #[.int .i64 0, .int .u8 2]) (by simp [results, Tryd.results28, go_sem]) rfl ⟨d, r, by rw [HE.out], HF.out, ?_, HB2.out, HK2.out⟩
        rw [HE.out]
        obtain ⟨M, n, nv, h1, h2, h3⟩ := HL2.out
        exact ⟨M, n, nv, h1, Nat.le_succ_of_le h2, Nat.le_succ_of_le h3⟩
end Go.Proofs.YtaehhophaaipdabDoor
