/- Contract of the document's alike. -/
import Derived.Test.YtaehhophaaipdaaGreatDoorXGg
namespace Go.Proofs.YtaehhophaaipdaaGreatDoor
open Go.RowKit
attribute [local go_sem ↓] Go.wp_at_zero Go.wp_at_succ
theorem ok_kinds {c : C} (h : c.ok = true) : c.k = 1 ∨ c.k = 2 ∨ c.k = 3 ∨ c.k = 4 := by
 have h' : cellB c.k c.t c.n c.vn c.vk = true := h
 unfold cellB at h'
 by_cases k1 : c.k = 1
 ·exact .inl k1
 ·by_cases k2 : c.k = 2
  ·exact .inr (.inl k2)
  ·by_cases k3 : c.k = 3
   ·exact .inr (.inr (.inl k3))
   ·by_cases k4 : c.k = 4
    ·exact .inr (.inr (.inr k4))
    ·rw [if_neg k1, if_neg k2, if_neg k3, if_neg k4] at h'
     cases h'
/-- Variables are told by their names. -/
theorem var_same {a b : C} (ha : a.ok = true) (hb : b.ok = true) (ka : a.k = 4) (kb : b.k = 4) (h1 : a.vn = b.vn) (h2 : a.vk = b.vk) : eqC a b = true := by
 have f : ∀ c : C, c.ok = true → c.k = 4 → c.t.toList = [] ∧ c.n = 0 := fun c h k => by
  have h' : cellB c.k c.t c.n c.vn c.vk = true := h
  unfold cellB eqCells at h'
  rw [k, if_neg (by decide), if_neg (by decide), if_neg (by decide), if_pos rfl] at h'
  simp only [Bool.and_eq_true, beq_iff_eq] at h'
  exact ⟨h'.1.1.1.1.2.trans (by rw [ByteArray.toList_eq]), h'.1.1.1.2⟩
 obtain ⟨t1, n1⟩ := f a ha ka
 obtain ⟨t2, n2⟩ := f b hb kb
 unfold eqC eqCells
 rw [t1, t2, n1, n2, ka, kb, h1, h2]
 simp
theorem eqC_var {a b : C} (h : eqC a b = true) : a.vn = b.vn ∧ a.vk = b.vk ∧ a.k = b.k := by
 have := eqC_eq h
 subst this
 exact ⟨rfl, rfl, rfl⟩
theorem lik_of {k : Nat} {a b : C} (h : ¬ (a.k = 4 ∧ eqC a b = true)) : likR k a b = if bothN (varN a) (varN b) = [] then (outO (likB k a b), []) else (3, bothN (varN a) (varN b)) := by
 unfold likR
 rw [if_neg h]
theorem lik_wait {k : Nat} {a b : C} (h : ¬ (a.k = 4 ∧ eqC a b = true)) (h4 : a.k = 4 ∨ b.k = 4) : likR k a b = (3, bothN (varN a) (varN b)) := by
 rw [lik_of h, if_neg]
 rcases h4 with h4 | h4
 ·exact both_ne _ _ (by unfold varN; rw [if_pos h4]; simp)
 ·exact both_ne2 _ _ (by unfold varN; rw [if_pos h4]; simp)
theorem lik_none {k : Nat} {a b : C} (h1 : ¬ a.k = 4) (h2 : ¬ b.k = 4) : likR k a b = (outO (likB k a b), []) := by
 rw [lik_of (fun h => h1 h.1)]
 have e1 : varN a = [] := by unfold varN; rw [if_neg h1]
 have e2 : varN b = [] := by unfold varN; rw [if_neg h2]
 rw [e1, e2, if_pos (show bothN [] [] = [] from rfl)]
/-- The first name that is waited for. -/
theorem w40 {w w2 WQ : World} (a : C) (h1 : Below w2.heap.size w2 WQ) (h2 : Below w.heap.size w WQ) : Calls Tryz.prog 40 #[.slice none 0 0, .slice (some ⟨WQ.heap.size, 0, none⟩) 1 1] (WQ.alloc (.cells #[.int .i64 a.vn, .int .i64 a.vk] 60)) fun e w' => ∃ q c, e = .returned (.slice q 1 c) ∧ Hid (NamesAt w' (.slice q 1 c) [(a.vn, a.vk)] ∧ Below w2.heap.size w2 w' ∧ Below w.heap.size w w') := by
 refine (z40 [] [(a.vn, a.vk)] _ _ _ (namesAt_nil _) (names_new WQ (a.vn, a.vk)) (by simp)).mono ?_
 rintro e w' ⟨q, c, rfl, H⟩
 have hb1 := (below_alloc WQ (.cells #[.int .i64 a.vn, .int .i64 a.vk] 60)).trans (H.out.2.mono (below_alloc _ _).size)
 exact ⟨q, c, rfl, namesAt_of_owns H.out.1 (by show 1 ≤ maxLen; unfold maxLen; omega), h1.trans (hb1.mono h1.size), h2.trans (hb1.mono h2.size)⟩
/-- The second one. -/
theorem w41 {w W : World} (na : List Nm) (hna : na.length ≤ 1) (sl : Value) (hs : NamesAt W sl na) (b : C) (hW : Below w.heap.size w W) : Calls Tryz.prog 40 #[sl, .slice (some ⟨W.heap.size, 0, none⟩) 1 1] (W.alloc (.cells #[.int .i64 b.vn, .int .i64 b.vk] 60)) fun e w' => ∃ q c L, e = .returned (.slice q L c) ∧ 0 < L ∧ Hid (RgPost (3, bothN na [(b.vn, b.vk)]) w (.returned (.tuple #[.int .u8 3, .slice q L c])) w') := by
 refine (z40 na [(b.vn, b.vk)] _ _ _ (hs.below (below_alloc _ _)) (names_new W (b.vn, b.vk)) (by simp; omega)).mono ?_
 rintro e w' ⟨q, c, rfl, H⟩
 have hb1 := (below_alloc W (.cells #[.int .i64 b.vn, .int .i64 b.vk] 60)).trans (H.out.2.mono (below_alloc _ _).size)
 have hl := both_len [(b.vn, b.vk)] na
 simp only [List.length_cons, List.length_nil] at hl
 exact ⟨q, c, _, rfl, List.length_pos_iff.2 (both_ne2 _ _ (by simp)), ⟨q, c, rfl, namesAt_of_owns H.out.1 (by show (bothN na [(b.vn, b.vk)]).length ≤ maxLen; unfold maxLen; omega), hW.trans (hb1.mono hW.size)⟩⟩
/-- Two terms whose ends are known. -/
structure Ak (m : Hp) (w0 : World) (p : Option Addr) (x y : List C) (a b : C) (r s : List C) (vx vy : Value) (w : World) : Prop where
 de : DerG w0 p m
 fa : IsFol m x (a :: r)
 fb : IsFol m y (b :: s)
 hb : Below w0.heap.size w0 w
 hx : TermAt w vx x
 hy : TermAt w vy y
 wx : ∀ c ∈ x, wfN (c.vn, c.vk)
 wy : ∀ c ∈ y, wfN (c.vn, c.vk)
 nx : x ≠ []
 ny : y ≠ []
/-- The first cells of both. -/
def Cs (w2 : World) (b1 o1 b2 o2 : Nat) (a b : C) : Prop := ∀ W, Below w2.heap.size w2 W → (W.cell? ⟨b1, o1, none⟩ = some (.int .u8 a.k) ∧ W.cell? ⟨b1, o1 + 1, none⟩ = some (.string a.t) ∧ W.cell? ⟨b1, o1 + 2, none⟩ = some (.int .i64 a.n) ∧ W.cell? ⟨b1, o1 + 3, none⟩ = some (.int .i64 a.vn) ∧ W.cell? ⟨b1, o1 + 4, none⟩ = some (.int .i64 a.vk)) ∧ (W.cell? ⟨b2, o2, none⟩ = some (.int .u8 b.k) ∧ W.cell? ⟨b2, o2 + 1, none⟩ = some (.string b.t) ∧ W.cell? ⟨b2, o2 + 2, none⟩ = some (.int .i64 b.n) ∧ W.cell? ⟨b2, o2 + 3, none⟩ = some (.int .i64 b.vn) ∧ W.cell? ⟨b2, o2 + 4, none⟩ = some (.int .i64 b.vk))
section
variable {m : Hp} {w0 : World} {p : Option Addr} {x y : List C} {a b : C} {r s : List C} {vx vy : Value} {w : World}
set_option maxRecDepth 100000 in
set_option maxHeartbeats 8000000 in
theorem x45_a12 (h : Ak m w0 p x y a b r s vx vy w) (ka : a.k = 4) (kb : b.k = 4) (h1 : a.vn = b.vn) (h2 : a.vk = b.vk) (he : eqC a b = true) : Calls Tryz.prog 45 #[.pointer p, .bool false, vx, vy] w (RgPost (likR 12 a b) w) := by
 have H1 := der_head h.de h.fa h.hb h.hx h.wx h.nx
 have H2 : Hid (∀ W, Below w.heap.size w W → _) := fun W g => der_head h.de h.fb (h.hb.trans (g.mono h.hb.size)) (h.hy.below g) h.wy h.ny
 obtain ⟨xa, xc, hvx⟩ := h.hx.form
 obtain ⟨ya, yc, hvy⟩ := h.hy.form
 subst hvx hvy
 clear h
 go_enter Tryz.func45, Tryz.ntmps45
 go_wp2_with fail
 refine H1.mono ?_
 rintro e w1 ⟨b1, o1, c1, rfl, hc1, HA⟩
 have H3 := H2.out w1 HA.out.2
 clear H1 H2
 go_wp2_with fail
 refine H3.mono ?_
 rintro e w2 ⟨b2, o2, c2, rfl, hc2, HB⟩
 have HW : Hid (Below w.heap.size w w2) := HA.out.2.trans (HB.out.2.mono HA.out.2.size)
 have HC : Hid (Cs w2 b1 o1 b2 o2 a b) := fun W h => ⟨HA.out.1 W (HB.out.2.trans (h.mono HB.out.2.size)), HB.out.1 W h⟩
 clear H3 HA HB
 obtain ⟨⟨p0, p1, p2, p3, p4⟩, r0, r1, r2, r3, r4⟩ := HC.out w2 (Below.refl _ _)
 have HE : Hid (likR 12 a b = (2, [])) := by show likR 12 a b = _; unfold likR; rw [if_pos ⟨ka, he⟩]; rfl
 rw [ka] at p0
 rw [kb] at r0
 rw [h1] at p3
 rw [h2] at p4
 clear ka kb h1 h2 he HC
 generalize b.vn = x1 at *
 generalize b.vk = x2 at *
 go_wp2_with fail
 go_quiet (fail)
 go_wp2_with fail
 refine bodyPost_ret (v := .tuple #[.int .u8 2, .slice none 0 0]) (by simp [results, Tryz.results45, go_sem]) rfl ?_
 rw [HE.out]
 exact rg_nil (below_drewN HW.out nq)
set_option maxRecDepth 100000 in
set_option maxHeartbeats 8000000 in
theorem x45_a11 (h : Ak m w0 p x y a b r s vx vy w) (ka : a.k = 4) (kb : b.k = 4) (h1 : a.vn = b.vn) (h2 : a.vk = b.vk) (he : eqC a b = true) : Calls Tryz.prog 45 #[.pointer p, .bool true, vx, vy] w (RgPost (likR 11 a b) w) := by
 have H1 := der_head h.de h.fa h.hb h.hx h.wx h.nx
 have H2 : Hid (∀ W, Below w.heap.size w W → _) := fun W g => der_head h.de h.fb (h.hb.trans (g.mono h.hb.size)) (h.hy.below g) h.wy h.ny
 obtain ⟨xa, xc, hvx⟩ := h.hx.form
 obtain ⟨ya, yc, hvy⟩ := h.hy.form
 subst hvx hvy
 clear h
 go_enter Tryz.func45, Tryz.ntmps45
 go_wp2_with fail
 refine H1.mono ?_
 rintro e w1 ⟨b1, o1, c1, rfl, hc1, HA⟩
 have H3 := H2.out w1 HA.out.2
 clear H1 H2
 go_wp2_with fail
 refine H3.mono ?_
 rintro e w2 ⟨b2, o2, c2, rfl, hc2, HB⟩
 have HW : Hid (Below w.heap.size w w2) := HA.out.2.trans (HB.out.2.mono HA.out.2.size)
 have HC : Hid (Cs w2 b1 o1 b2 o2 a b) := fun W h => ⟨HA.out.1 W (HB.out.2.trans (h.mono HB.out.2.size)), HB.out.1 W h⟩
 clear H3 HA HB
 obtain ⟨⟨p0, p1, p2, p3, p4⟩, r0, r1, r2, r3, r4⟩ := HC.out w2 (Below.refl _ _)
 have HE : Hid (likR 11 a b = (3, bothN [(a.vn, a.vk)] [(b.vn, b.vk)])) := by
  show likR 11 a b = _
  unfold likR
  rw [if_pos ⟨ka, he⟩, if_pos rfl, ← h1, ← h2]
  unfold bothN addN
  simp [hasN, eqN]
 rw [ka] at p0
 rw [kb] at r0
 rw [h1] at p3
 rw [h2] at p4
 clear he h1 h2
 go_wp2_with fail
 go_quiet (fail)
 obtain ⟨WQ, hWQ⟩ : ∃ WQ, w2.drewN nq = WQ := ⟨_, rfl⟩
 have HWQ : Hid (Below w2.heap.size w2 WQ ∧ Below w.heap.size w WQ) := by rw [← hWQ]; exact ⟨below_drewN (Below.refl _ _) nq, below_drewN HW.out nq⟩
 rw [hWQ]
 clear hWQ p0 p1 p2 p3 p4 r0 r1 r2 r3 r4
 obtain ⟨⟨p0, _, _, p3, p4⟩, r0, _, _, r3, r4⟩ := HC.out WQ HWQ.out.1
 rw [ka] at p0
 have H40 := w40 a HWQ.out.1 HWQ.out.2
 go_wp2_with fail
 refine H40.mono ?_
 rintro e w3 ⟨q3, c3, rfl, H3⟩
 clear H40 p0 p3 p4 r0 r3 r4
 obtain ⟨_, r0, _, _, r3, r4⟩ := HC.out w3 H3.out.2.1
 rw [kb] at r0
 have H41 := w41 [(a.vn, a.vk)] (by simp) _ H3.out.1 b H3.out.2.2
 go_wp2_with fail
 refine H41.mono ?_
 rintro e w4 ⟨q4, c4, L, rfl, hL, H4⟩
 clear H41 r0 r3 r4
 go_wp2_with fail
 refine bodyPost_ret (v := .tuple #[.int .u8 3, .slice q4 L c4]) (by simp [results, Tryz.results45, go_sem]) rfl ?_
 rw [HE.out]
 exact H4.out
set_option maxRecDepth 100000 in
set_option maxHeartbeats 8000000 in
theorem x45_b11 (h : Ak m w0 p x y a b r s vx vy w) (ka : a.k = 4) (kb : b.k = 4) (h1 : ¬ a.vn = b.vn) : Calls Tryz.prog 45 #[.pointer p, .bool true, vx, vy] w (RgPost (likR 11 a b) w) := by
 have H1 := der_head h.de h.fa h.hb h.hx h.wx h.nx
 have H2 : Hid (∀ W, Below w.heap.size w W → _) := fun W g => der_head h.de h.fb (h.hb.trans (g.mono h.hb.size)) (h.hy.below g) h.wy h.ny
 obtain ⟨xa, xc, hvx⟩ := h.hx.form
 obtain ⟨ya, yc, hvy⟩ := h.hy.form
 subst hvx hvy
 clear h
 go_enter Tryz.func45, Tryz.ntmps45
 go_wp2_with fail
 refine H1.mono ?_
 rintro e w1 ⟨b1, o1, c1, rfl, hc1, HA⟩
 have H3 := H2.out w1 HA.out.2
 clear H1 H2
 go_wp2_with fail
 refine H3.mono ?_
 rintro e w2 ⟨b2, o2, c2, rfl, hc2, HB⟩
 have HW : Hid (Below w.heap.size w w2) := HA.out.2.trans (HB.out.2.mono HA.out.2.size)
 have HC : Hid (Cs w2 b1 o1 b2 o2 a b) := fun W h => ⟨HA.out.1 W (HB.out.2.trans (h.mono HB.out.2.size)), HB.out.1 W h⟩
 clear H3 HA HB
 obtain ⟨⟨p0, p1, p2, p3, p4⟩, r0, r1, r2, r3, r4⟩ := HC.out w2 (Below.refl _ _)
 have HE : Hid (likR 11 a b = (3, bothN [(a.vn, a.vk)] [(b.vn, b.vk)])) := by
  show likR 11 a b = _
  rw [lik_wait (fun h => h1 (eqC_var h.2).1) (.inl ka)]
  unfold varN
  rw [if_pos ka, if_pos kb]
 rw [ka] at p0
 rw [kb] at r0
 go_wp2_with fail
 go_quiet (fail)
 obtain ⟨WQ, hWQ⟩ : ∃ WQ, w2.drewN nq = WQ := ⟨_, rfl⟩
 have HWQ : Hid (Below w2.heap.size w2 WQ ∧ Below w.heap.size w WQ) := by rw [← hWQ]; exact ⟨below_drewN (Below.refl _ _) nq, below_drewN HW.out nq⟩
 rw [hWQ]
 clear hWQ p0 p1 p2 p3 p4 r0 r1 r2 r3 r4
 obtain ⟨⟨p0, _, _, p3, p4⟩, r0, _, _, r3, r4⟩ := HC.out WQ HWQ.out.1
 rw [ka] at p0
 have H40 := w40 a HWQ.out.1 HWQ.out.2
 go_wp2_with fail
 refine H40.mono ?_
 rintro e w3 ⟨q3, c3, rfl, H3⟩
 clear H40 p0 p3 p4 r0 r3 r4
 obtain ⟨_, r0, _, _, r3, r4⟩ := HC.out w3 H3.out.2.1
 rw [kb] at r0
 have H41 := w41 [(a.vn, a.vk)] (by simp) _ H3.out.1 b H3.out.2.2
 go_wp2_with fail
 refine H41.mono ?_
 rintro e w4 ⟨q4, c4, L, rfl, hL, H4⟩
 clear H41 r0 r3 r4
 go_wp2_with fail
 refine bodyPost_ret (v := .tuple #[.int .u8 3, .slice q4 L c4]) (by simp [results, Tryz.results45, go_sem]) rfl ?_
 rw [HE.out]
 exact H4.out
set_option maxRecDepth 100000 in
set_option maxHeartbeats 8000000 in
theorem x45_c11 (h : Ak m w0 p x y a b r s vx vy w) (ka : a.k = 4) (kb : b.k = 4) (h1 : a.vn = b.vn) (h2 : ¬ a.vk = b.vk) : Calls Tryz.prog 45 #[.pointer p, .bool true, vx, vy] w (RgPost (likR 11 a b) w) := by
 have H1 := der_head h.de h.fa h.hb h.hx h.wx h.nx
 have H2 : Hid (∀ W, Below w.heap.size w W → _) := fun W g => der_head h.de h.fb (h.hb.trans (g.mono h.hb.size)) (h.hy.below g) h.wy h.ny
 obtain ⟨xa, xc, hvx⟩ := h.hx.form
 obtain ⟨ya, yc, hvy⟩ := h.hy.form
 subst hvx hvy
 clear h
 go_enter Tryz.func45, Tryz.ntmps45
 go_wp2_with fail
 refine H1.mono ?_
 rintro e w1 ⟨b1, o1, c1, rfl, hc1, HA⟩
 have H3 := H2.out w1 HA.out.2
 clear H1 H2
 go_wp2_with fail
 refine H3.mono ?_
 rintro e w2 ⟨b2, o2, c2, rfl, hc2, HB⟩
 have HW : Hid (Below w.heap.size w w2) := HA.out.2.trans (HB.out.2.mono HA.out.2.size)
 have HC : Hid (Cs w2 b1 o1 b2 o2 a b) := fun W h => ⟨HA.out.1 W (HB.out.2.trans (h.mono HB.out.2.size)), HB.out.1 W h⟩
 clear H3 HA HB
 obtain ⟨⟨p0, p1, p2, p3, p4⟩, r0, r1, r2, r3, r4⟩ := HC.out w2 (Below.refl _ _)
 have HE : Hid (likR 11 a b = (3, bothN [(a.vn, a.vk)] [(b.vn, b.vk)])) := by
  show likR 11 a b = _
  rw [lik_wait (fun h => h2 (eqC_var h.2).2.1) (.inl ka)]
  unfold varN
  rw [if_pos ka, if_pos kb]
 rw [ka] at p0
 rw [kb] at r0
 rw [h1] at p3
 clear h1
 go_wp2_with fail
 go_quiet (fail)
 obtain ⟨WQ, hWQ⟩ : ∃ WQ, w2.drewN nq = WQ := ⟨_, rfl⟩
 have HWQ : Hid (Below w2.heap.size w2 WQ ∧ Below w.heap.size w WQ) := by rw [← hWQ]; exact ⟨below_drewN (Below.refl _ _) nq, below_drewN HW.out nq⟩
 rw [hWQ]
 clear hWQ p0 p1 p2 p3 p4 r0 r1 r2 r3 r4
 obtain ⟨⟨p0, _, _, p3, p4⟩, r0, _, _, r3, r4⟩ := HC.out WQ HWQ.out.1
 rw [ka] at p0
 have H40 := w40 a HWQ.out.1 HWQ.out.2
 go_wp2_with fail
 refine H40.mono ?_
 rintro e w3 ⟨q3, c3, rfl, H3⟩
 clear H40 p0 p3 p4 r0 r3 r4
 obtain ⟨_, r0, _, _, r3, r4⟩ := HC.out w3 H3.out.2.1
 rw [kb] at r0
 have H41 := w41 [(a.vn, a.vk)] (by simp) _ H3.out.1 b H3.out.2.2
 go_wp2_with fail
 refine H41.mono ?_
 rintro e w4 ⟨q4, c4, L, rfl, hL, H4⟩
 clear H41 r0 r3 r4
 go_wp2_with fail
 refine bodyPost_ret (v := .tuple #[.int .u8 3, .slice q4 L c4]) (by simp [results, Tryz.results45, go_sem]) rfl ?_
 rw [HE.out]
 exact H4.out
set_option maxRecDepth 100000 in
set_option maxHeartbeats 8000000 in
theorem x45_d11 (h : Ak m w0 p x y a b r s vx vy w) (ka : a.k = 4) (kb : ¬ b.k = 4) : Calls Tryz.prog 45 #[.pointer p, .bool true, vx, vy] w (RgPost (likR 11 a b) w) := by
 have H1 := der_head h.de h.fa h.hb h.hx h.wx h.nx
 have H2 : Hid (∀ W, Below w.heap.size w W → _) := fun W g => der_head h.de h.fb (h.hb.trans (g.mono h.hb.size)) (h.hy.below g) h.wy h.ny
 obtain ⟨xa, xc, hvx⟩ := h.hx.form
 obtain ⟨ya, yc, hvy⟩ := h.hy.form
 subst hvx hvy
 clear h
 go_enter Tryz.func45, Tryz.ntmps45
 go_wp2_with fail
 refine H1.mono ?_
 rintro e w1 ⟨b1, o1, c1, rfl, hc1, HA⟩
 have H3 := H2.out w1 HA.out.2
 clear H1 H2
 go_wp2_with fail
 refine H3.mono ?_
 rintro e w2 ⟨b2, o2, c2, rfl, hc2, HB⟩
 have HW : Hid (Below w.heap.size w w2) := HA.out.2.trans (HB.out.2.mono HA.out.2.size)
 have HC : Hid (Cs w2 b1 o1 b2 o2 a b) := fun W h => ⟨HA.out.1 W (HB.out.2.trans (h.mono HB.out.2.size)), HB.out.1 W h⟩
 clear H3 HA HB
 obtain ⟨⟨p0, p1, p2, p3, p4⟩, r0, r1, r2, r3, r4⟩ := HC.out w2 (Below.refl _ _)
 have HE : Hid (likR 11 a b = (3, [(a.vn, a.vk)])) := by
  show likR 11 a b = _
  rw [lik_wait (fun h => kb (by rw [← (eqC_var h.2).2.2]; exact ka)) (.inl ka)]
  unfold varN
  rw [if_pos ka, if_neg kb]
  rfl
 rw [ka] at p0
 have kb0 : (b.k == 4) = false := by simpa using kb
 go_wp2_with fail
 go_quiet (fail)
 obtain ⟨WQ, hWQ⟩ : ∃ WQ, w2.drewN nq = WQ := ⟨_, rfl⟩
 have HWQ : Hid (Below w2.heap.size w2 WQ ∧ Below w.heap.size w WQ) := by rw [← hWQ]; exact ⟨below_drewN (Below.refl _ _) nq, below_drewN HW.out nq⟩
 rw [hWQ]
 clear hWQ p0 p1 p2 p3 p4 r0 r1 r2 r3 r4
 obtain ⟨⟨p0, _, _, p3, p4⟩, r0, _, _, r3, r4⟩ := HC.out WQ HWQ.out.1
 rw [ka] at p0
 have H40 := w40 a HWQ.out.1 HWQ.out.2
 go_wp2_with fail
 refine H40.mono ?_
 rintro e w3 ⟨q3, c3, rfl, H3⟩
 clear H40 p0 p3 p4 r0 r3 r4
 obtain ⟨_, r0, _, _, r3, r4⟩ := HC.out w3 H3.out.2.1
 have kb' : (b.k == 4) = false := by simpa using kb
 have HF : Hid (RgPost (3, [(a.vn, a.vk)]) w (.returned (.tuple #[.int .u8 3, .slice q3 1 c3])) w3) := ⟨q3, c3, rfl, H3.out.1, H3.out.2.2⟩
 clear H3
 go_wp2_with fail
 refine bodyPost_ret (v := .tuple #[.int .u8 3, .slice q3 1 c3]) (by simp [results, Tryz.results45, go_sem]) rfl ?_
 rw [HE.out]
 exact HF.out
set_option maxRecDepth 100000 in
set_option maxHeartbeats 8000000 in
theorem x45_e11 (h : Ak m w0 p x y a b r s vx vy w) (ka : ¬ a.k = 4) (kb : b.k = 4) : Calls Tryz.prog 45 #[.pointer p, .bool true, vx, vy] w (RgPost (likR 11 a b) w) := by
 have H1 := der_head h.de h.fa h.hb h.hx h.wx h.nx
 have H2 : Hid (∀ W, Below w.heap.size w W → _) := fun W g => der_head h.de h.fb (h.hb.trans (g.mono h.hb.size)) (h.hy.below g) h.wy h.ny
 obtain ⟨xa, xc, hvx⟩ := h.hx.form
 obtain ⟨ya, yc, hvy⟩ := h.hy.form
 subst hvx hvy
 clear h
 go_enter Tryz.func45, Tryz.ntmps45
 go_wp2_with fail
 refine H1.mono ?_
 rintro e w1 ⟨b1, o1, c1, rfl, hc1, HA⟩
 have H3 := H2.out w1 HA.out.2
 clear H1 H2
 go_wp2_with fail
 refine H3.mono ?_
 rintro e w2 ⟨b2, o2, c2, rfl, hc2, HB⟩
 have HW : Hid (Below w.heap.size w w2) := HA.out.2.trans (HB.out.2.mono HA.out.2.size)
 have HC : Hid (Cs w2 b1 o1 b2 o2 a b) := fun W h => ⟨HA.out.1 W (HB.out.2.trans (h.mono HB.out.2.size)), HB.out.1 W h⟩
 clear H3 HA HB
 obtain ⟨⟨p0, p1, p2, p3, p4⟩, r0, r1, r2, r3, r4⟩ := HC.out w2 (Below.refl _ _)
 have HE : Hid (likR 11 a b = (3, bothN [] [(b.vn, b.vk)])) := by
  show likR 11 a b = _
  rw [lik_wait (fun h => ka h.1) (.inr kb)]
  unfold varN
  rw [if_neg ka, if_pos kb]
 rw [kb] at r0
 have ka0 : (a.k == 4) = false := by simpa using ka
 go_wp2_with fail
 go_quiet (fail)
 obtain ⟨WQ, hWQ⟩ : ∃ WQ, w2.drewN nq = WQ := ⟨_, rfl⟩
 have HWQ : Hid (Below w2.heap.size w2 WQ ∧ Below w.heap.size w WQ) := by rw [← hWQ]; exact ⟨below_drewN (Below.refl _ _) nq, below_drewN HW.out nq⟩
 rw [hWQ]
 clear hWQ p0 p1 p2 p3 p4 r0 r1 r2 r3 r4
 obtain ⟨⟨p0, _, _, p3, p4⟩, r0, _, _, r3, r4⟩ := HC.out WQ HWQ.out.1
 have ka' : (a.k == 4) = false := by simpa using ka
 rw [kb] at r0
 have H41 := w41 [] (by simp) _ (namesAt_nil WQ) b HWQ.out.2
 go_wp2_with fail
 refine H41.mono ?_
 rintro e w4 ⟨q4, c4, L, rfl, hL, H4⟩
 clear H41 r0 r3 r4
 go_wp2_with fail
 refine bodyPost_ret (v := .tuple #[.int .u8 3, .slice q4 L c4]) (by simp [results, Tryz.results45, go_sem]) rfl ?_
 rw [HE.out]
 exact H4.out
set_option maxRecDepth 100000 in
set_option maxHeartbeats 8000000 in
theorem x45_b12 (h : Ak m w0 p x y a b r s vx vy w) (ka : a.k = 4) (kb : b.k = 4) (h1 : ¬ a.vn = b.vn) : Calls Tryz.prog 45 #[.pointer p, .bool false, vx, vy] w (RgPost (likR 12 a b) w) := by
 have H1 := der_head h.de h.fa h.hb h.hx h.wx h.nx
 have H2 : Hid (∀ W, Below w.heap.size w W → _) := fun W g => der_head h.de h.fb (h.hb.trans (g.mono h.hb.size)) (h.hy.below g) h.wy h.ny
 obtain ⟨xa, xc, hvx⟩ := h.hx.form
 obtain ⟨ya, yc, hvy⟩ := h.hy.form
 subst hvx hvy
 clear h
 go_enter Tryz.func45, Tryz.ntmps45
 go_wp2_with fail
 refine H1.mono ?_
 rintro e w1 ⟨b1, o1, c1, rfl, hc1, HA⟩
 have H3 := H2.out w1 HA.out.2
 clear H1 H2
 go_wp2_with fail
 refine H3.mono ?_
 rintro e w2 ⟨b2, o2, c2, rfl, hc2, HB⟩
 have HW : Hid (Below w.heap.size w w2) := HA.out.2.trans (HB.out.2.mono HA.out.2.size)
 have HC : Hid (Cs w2 b1 o1 b2 o2 a b) := fun W h => ⟨HA.out.1 W (HB.out.2.trans (h.mono HB.out.2.size)), HB.out.1 W h⟩
 clear H3 HA HB
 obtain ⟨⟨p0, p1, p2, p3, p4⟩, r0, r1, r2, r3, r4⟩ := HC.out w2 (Below.refl _ _)
 have HE : Hid (likR 12 a b = (3, bothN [(a.vn, a.vk)] [(b.vn, b.vk)])) := by
  show likR 12 a b = _
  rw [lik_wait (fun h => h1 (eqC_var h.2).1) (.inl ka)]
  unfold varN
  rw [if_pos ka, if_pos kb]
 rw [ka] at p0
 rw [kb] at r0
 go_wp2_with fail
 go_quiet (fail)
 obtain ⟨WQ, hWQ⟩ : ∃ WQ, w2.drewN nq = WQ := ⟨_, rfl⟩
 have HWQ : Hid (Below w2.heap.size w2 WQ ∧ Below w.heap.size w WQ) := by rw [← hWQ]; exact ⟨below_drewN (Below.refl _ _) nq, below_drewN HW.out nq⟩
 rw [hWQ]
 clear hWQ p0 p1 p2 p3 p4 r0 r1 r2 r3 r4
 obtain ⟨⟨p0, _, _, p3, p4⟩, r0, _, _, r3, r4⟩ := HC.out WQ HWQ.out.1
 rw [ka] at p0
 have H40 := w40 a HWQ.out.1 HWQ.out.2
 go_wp2_with fail
 refine H40.mono ?_
 rintro e w3 ⟨q3, c3, rfl, H3⟩
 clear H40 p0 p3 p4 r0 r3 r4
 obtain ⟨_, r0, _, _, r3, r4⟩ := HC.out w3 H3.out.2.1
 rw [kb] at r0
 have H41 := w41 [(a.vn, a.vk)] (by simp) _ H3.out.1 b H3.out.2.2
 go_wp2_with fail
 refine H41.mono ?_
 rintro e w4 ⟨q4, c4, L, rfl, hL, H4⟩
 clear H41 r0 r3 r4
 go_wp2_with fail
 refine bodyPost_ret (v := .tuple #[.int .u8 3, .slice q4 L c4]) (by simp [results, Tryz.results45, go_sem]) rfl ?_
 rw [HE.out]
 exact H4.out
set_option maxRecDepth 100000 in
set_option maxHeartbeats 8000000 in
theorem x45_c12 (h : Ak m w0 p x y a b r s vx vy w) (ka : a.k = 4) (kb : b.k = 4) (h1 : a.vn = b.vn) (h2 : ¬ a.vk = b.vk) : Calls Tryz.prog 45 #[.pointer p, .bool false, vx, vy] w (RgPost (likR 12 a b) w) := by
 have H1 := der_head h.de h.fa h.hb h.hx h.wx h.nx
 have H2 : Hid (∀ W, Below w.heap.size w W → _) := fun W g => der_head h.de h.fb (h.hb.trans (g.mono h.hb.size)) (h.hy.below g) h.wy h.ny
 obtain ⟨xa, xc, hvx⟩ := h.hx.form
 obtain ⟨ya, yc, hvy⟩ := h.hy.form
 subst hvx hvy
 clear h
 go_enter Tryz.func45, Tryz.ntmps45
 go_wp2_with fail
 refine H1.mono ?_
 rintro e w1 ⟨b1, o1, c1, rfl, hc1, HA⟩
 have H3 := H2.out w1 HA.out.2
 clear H1 H2
 go_wp2_with fail
 refine H3.mono ?_
 rintro e w2 ⟨b2, o2, c2, rfl, hc2, HB⟩
 have HW : Hid (Below w.heap.size w w2) := HA.out.2.trans (HB.out.2.mono HA.out.2.size)
 have HC : Hid (Cs w2 b1 o1 b2 o2 a b) := fun W h => ⟨HA.out.1 W (HB.out.2.trans (h.mono HB.out.2.size)), HB.out.1 W h⟩
 clear H3 HA HB
 obtain ⟨⟨p0, p1, p2, p3, p4⟩, r0, r1, r2, r3, r4⟩ := HC.out w2 (Below.refl _ _)
 have HE : Hid (likR 12 a b = (3, bothN [(a.vn, a.vk)] [(b.vn, b.vk)])) := by
  show likR 12 a b = _
  rw [lik_wait (fun h => h2 (eqC_var h.2).2.1) (.inl ka)]
  unfold varN
  rw [if_pos ka, if_pos kb]
 rw [ka] at p0
 rw [kb] at r0
 rw [h1] at p3
 clear h1
 go_wp2_with fail
 go_quiet (fail)
 obtain ⟨WQ, hWQ⟩ : ∃ WQ, w2.drewN nq = WQ := ⟨_, rfl⟩
 have HWQ : Hid (Below w2.heap.size w2 WQ ∧ Below w.heap.size w WQ) := by rw [← hWQ]; exact ⟨below_drewN (Below.refl _ _) nq, below_drewN HW.out nq⟩
 rw [hWQ]
 clear hWQ p0 p1 p2 p3 p4 r0 r1 r2 r3 r4
 obtain ⟨⟨p0, _, _, p3, p4⟩, r0, _, _, r3, r4⟩ := HC.out WQ HWQ.out.1
 rw [ka] at p0
 have H40 := w40 a HWQ.out.1 HWQ.out.2
 go_wp2_with fail
 refine H40.mono ?_
 rintro e w3 ⟨q3, c3, rfl, H3⟩
 clear H40 p0 p3 p4 r0 r3 r4
 obtain ⟨_, r0, _, _, r3, r4⟩ := HC.out w3 H3.out.2.1
 rw [kb] at r0
 have H41 := w41 [(a.vn, a.vk)] (by simp) _ H3.out.1 b H3.out.2.2
 go_wp2_with fail
 refine H41.mono ?_
 rintro e w4 ⟨q4, c4, L, rfl, hL, H4⟩
 clear H41 r0 r3 r4
 go_wp2_with fail
 refine bodyPost_ret (v := .tuple #[.int .u8 3, .slice q4 L c4]) (by simp [results, Tryz.results45, go_sem]) rfl ?_
 rw [HE.out]
 exact H4.out
set_option maxRecDepth 100000 in
set_option maxHeartbeats 8000000 in
theorem x45_d12 (h : Ak m w0 p x y a b r s vx vy w) (ka : a.k = 4) (kb : ¬ b.k = 4) : Calls Tryz.prog 45 #[.pointer p, .bool false, vx, vy] w (RgPost (likR 12 a b) w) := by
 have H1 := der_head h.de h.fa h.hb h.hx h.wx h.nx
 have H2 : Hid (∀ W, Below w.heap.size w W → _) := fun W g => der_head h.de h.fb (h.hb.trans (g.mono h.hb.size)) (h.hy.below g) h.wy h.ny
 obtain ⟨xa, xc, hvx⟩ := h.hx.form
 obtain ⟨ya, yc, hvy⟩ := h.hy.form
 subst hvx hvy
 clear h
 go_enter Tryz.func45, Tryz.ntmps45
 go_wp2_with fail
 refine H1.mono ?_
 rintro e w1 ⟨b1, o1, c1, rfl, hc1, HA⟩
 have H3 := H2.out w1 HA.out.2
 clear H1 H2
 go_wp2_with fail
 refine H3.mono ?_
 rintro e w2 ⟨b2, o2, c2, rfl, hc2, HB⟩
 have HW : Hid (Below w.heap.size w w2) := HA.out.2.trans (HB.out.2.mono HA.out.2.size)
 have HC : Hid (Cs w2 b1 o1 b2 o2 a b) := fun W h => ⟨HA.out.1 W (HB.out.2.trans (h.mono HB.out.2.size)), HB.out.1 W h⟩
 clear H3 HA HB
 obtain ⟨⟨p0, p1, p2, p3, p4⟩, r0, r1, r2, r3, r4⟩ := HC.out w2 (Below.refl _ _)
 have HE : Hid (likR 12 a b = (3, [(a.vn, a.vk)])) := by
  show likR 12 a b = _
  rw [lik_wait (fun h => kb (by rw [← (eqC_var h.2).2.2]; exact ka)) (.inl ka)]
  unfold varN
  rw [if_pos ka, if_neg kb]
  rfl
 rw [ka] at p0
 have kb0 : (b.k == 4) = false := by simpa using kb
 go_wp2_with fail
 go_quiet (fail)
 obtain ⟨WQ, hWQ⟩ : ∃ WQ, w2.drewN nq = WQ := ⟨_, rfl⟩
 have HWQ : Hid (Below w2.heap.size w2 WQ ∧ Below w.heap.size w WQ) := by rw [← hWQ]; exact ⟨below_drewN (Below.refl _ _) nq, below_drewN HW.out nq⟩
 rw [hWQ]
 clear hWQ p0 p1 p2 p3 p4 r0 r1 r2 r3 r4
 obtain ⟨⟨p0, _, _, p3, p4⟩, r0, _, _, r3, r4⟩ := HC.out WQ HWQ.out.1
 rw [ka] at p0
 have H40 := w40 a HWQ.out.1 HWQ.out.2
 go_wp2_with fail
 refine H40.mono ?_
 rintro e w3 ⟨q3, c3, rfl, H3⟩
 clear H40 p0 p3 p4 r0 r3 r4
 obtain ⟨_, r0, _, _, r3, r4⟩ := HC.out w3 H3.out.2.1
 have kb' : (b.k == 4) = false := by simpa using kb
 have HF : Hid (RgPost (3, [(a.vn, a.vk)]) w (.returned (.tuple #[.int .u8 3, .slice q3 1 c3])) w3) := ⟨q3, c3, rfl, H3.out.1, H3.out.2.2⟩
 clear H3
 go_wp2_with fail
 refine bodyPost_ret (v := .tuple #[.int .u8 3, .slice q3 1 c3]) (by simp [results, Tryz.results45, go_sem]) rfl ?_
 rw [HE.out]
 exact HF.out
set_option maxRecDepth 100000 in
set_option maxHeartbeats 8000000 in
theorem x45_e12 (h : Ak m w0 p x y a b r s vx vy w) (ka : ¬ a.k = 4) (kb : b.k = 4) : Calls Tryz.prog 45 #[.pointer p, .bool false, vx, vy] w (RgPost (likR 12 a b) w) := by
 have H1 := der_head h.de h.fa h.hb h.hx h.wx h.nx
 have H2 : Hid (∀ W, Below w.heap.size w W → _) := fun W g => der_head h.de h.fb (h.hb.trans (g.mono h.hb.size)) (h.hy.below g) h.wy h.ny
 obtain ⟨xa, xc, hvx⟩ := h.hx.form
 obtain ⟨ya, yc, hvy⟩ := h.hy.form
 subst hvx hvy
 clear h
 go_enter Tryz.func45, Tryz.ntmps45
 go_wp2_with fail
 refine H1.mono ?_
 rintro e w1 ⟨b1, o1, c1, rfl, hc1, HA⟩
 have H3 := H2.out w1 HA.out.2
 clear H1 H2
 go_wp2_with fail
 refine H3.mono ?_
 rintro e w2 ⟨b2, o2, c2, rfl, hc2, HB⟩
 have HW : Hid (Below w.heap.size w w2) := HA.out.2.trans (HB.out.2.mono HA.out.2.size)
 have HC : Hid (Cs w2 b1 o1 b2 o2 a b) := fun W h => ⟨HA.out.1 W (HB.out.2.trans (h.mono HB.out.2.size)), HB.out.1 W h⟩
 clear H3 HA HB
 obtain ⟨⟨p0, p1, p2, p3, p4⟩, r0, r1, r2, r3, r4⟩ := HC.out w2 (Below.refl _ _)
 have HE : Hid (likR 12 a b = (3, bothN [] [(b.vn, b.vk)])) := by
  show likR 12 a b = _
  rw [lik_wait (fun h => ka h.1) (.inr kb)]
  unfold varN
  rw [if_neg ka, if_pos kb]
 rw [kb] at r0
 have ka0 : (a.k == 4) = false := by simpa using ka
 go_wp2_with fail
 go_quiet (fail)
 obtain ⟨WQ, hWQ⟩ : ∃ WQ, w2.drewN nq = WQ := ⟨_, rfl⟩
 have HWQ : Hid (Below w2.heap.size w2 WQ ∧ Below w.heap.size w WQ) := by rw [← hWQ]; exact ⟨below_drewN (Below.refl _ _) nq, below_drewN HW.out nq⟩
 rw [hWQ]
 clear hWQ p0 p1 p2 p3 p4 r0 r1 r2 r3 r4
 obtain ⟨⟨p0, _, _, p3, p4⟩, r0, _, _, r3, r4⟩ := HC.out WQ HWQ.out.1
 have ka' : (a.k == 4) = false := by simpa using ka
 rw [kb] at r0
 have H41 := w41 [] (by simp) _ (namesAt_nil WQ) b HWQ.out.2
 go_wp2_with fail
 refine H41.mono ?_
 rintro e w4 ⟨q4, c4, L, rfl, hL, H4⟩
 clear H41 r0 r3 r4
 go_wp2_with fail
 refine bodyPost_ret (v := .tuple #[.int .u8 3, .slice q4 L c4]) (by simp [results, Tryz.results45, go_sem]) rfl ?_
 rw [HE.out]
 exact H4.out
set_option maxRecDepth 100000 in
set_option maxHeartbeats 8000000 in
theorem x45_f11 (h : Ak m w0 p x y a b r s vx vy w) (ka : a.k = 3) (kb : b.k = 3) : Calls Tryz.prog 45 #[.pointer p, .bool true, vx, vy] w (RgPost (likR 11 a b) w) := by
 have H1 := der_head h.de h.fa h.hb h.hx h.wx h.nx
 have H2 : Hid (∀ W, Below w.heap.size w W → _) := fun W g => der_head h.de h.fb (h.hb.trans (g.mono h.hb.size)) (h.hy.below g) h.wy h.ny
 obtain ⟨xa, xc, hvx⟩ := h.hx.form
 obtain ⟨ya, yc, hvy⟩ := h.hy.form
 subst hvx hvy
 clear h
 go_enter Tryz.func45, Tryz.ntmps45
 go_wp2_with fail
 refine H1.mono ?_
 rintro e w1 ⟨b1, o1, c1, rfl, hc1, HA⟩
 have H3 := H2.out w1 HA.out.2
 clear H1 H2
 go_wp2_with fail
 refine H3.mono ?_
 rintro e w2 ⟨b2, o2, c2, rfl, hc2, HB⟩
 have HW : Hid (Below w.heap.size w w2) := HA.out.2.trans (HB.out.2.mono HA.out.2.size)
 have HC : Hid (Cs w2 b1 o1 b2 o2 a b) := fun W h => ⟨HA.out.1 W (HB.out.2.trans (h.mono HB.out.2.size)), HB.out.1 W h⟩
 clear H3 HA HB
 obtain ⟨⟨p0, p1, p2, p3, p4⟩, r0, r1, r2, r3, r4⟩ := HC.out w2 (Below.refl _ _)
 have HE : Hid (likR 11 a b = (2, [])) := by
  show likR 11 a b = _
  rw [lik_none (by omega) (by omega)]
  unfold likB eqlB unlB simB
  rw [ka, kb]
  simp [outO]
 rw [ka] at p0
 rw [kb] at r0
 go_wp2_with fail
 go_quiet (fail)
 obtain ⟨WQ, hWQ⟩ : ∃ WQ, w2.drewN nq = WQ := ⟨_, rfl⟩
 have HWQ : Hid (Below w2.heap.size w2 WQ ∧ Below w.heap.size w WQ) := by rw [← hWQ]; exact ⟨below_drewN (Below.refl _ _) nq, below_drewN HW.out nq⟩
 rw [hWQ]
 clear hWQ p0 p1 p2 p3 p4 r0 r1 r2 r3 r4
 obtain ⟨⟨p0, p1, p2, p3, p4⟩, r0, r1, r2, r3, r4⟩ := HC.out WQ HWQ.out.1
 go_wp2_with fail
 refine bodyPost_ret (v := .tuple #[.int .u8 2, .slice none 0 0]) (by simp [results, Tryz.results45, go_sem]) rfl ?_
 rw [HE.out]
 exact rg_nil HWQ.out.2
set_option maxRecDepth 100000 in
set_option maxHeartbeats 8000000 in
theorem x45_g11 (h : Ak m w0 p x y a b r s vx vy w) (ka : a.k = 3) (kb : ¬ b.k = 4) (kb3 : ¬ b.k = 3) : Calls Tryz.prog 45 #[.pointer p, .bool true, vx, vy] w (RgPost (likR 11 a b) w) := by
 have H1 := der_head h.de h.fa h.hb h.hx h.wx h.nx
 have H2 : Hid (∀ W, Below w.heap.size w W → _) := fun W g => der_head h.de h.fb (h.hb.trans (g.mono h.hb.size)) (h.hy.below g) h.wy h.ny
 obtain ⟨xa, xc, hvx⟩ := h.hx.form
 obtain ⟨ya, yc, hvy⟩ := h.hy.form
 subst hvx hvy
 clear h
 go_enter Tryz.func45, Tryz.ntmps45
 go_wp2_with fail
 refine H1.mono ?_
 rintro e w1 ⟨b1, o1, c1, rfl, hc1, HA⟩
 have H3 := H2.out w1 HA.out.2
 clear H1 H2
 go_wp2_with fail
 refine H3.mono ?_
 rintro e w2 ⟨b2, o2, c2, rfl, hc2, HB⟩
 have HW : Hid (Below w.heap.size w w2) := HA.out.2.trans (HB.out.2.mono HA.out.2.size)
 have HC : Hid (Cs w2 b1 o1 b2 o2 a b) := fun W h => ⟨HA.out.1 W (HB.out.2.trans (h.mono HB.out.2.size)), HB.out.1 W h⟩
 clear H3 HA HB
 obtain ⟨⟨p0, p1, p2, p3, p4⟩, r0, r1, r2, r3, r4⟩ := HC.out w2 (Below.refl _ _)
 have HE : Hid (likR 11 a b = (2, [])) := by
  show likR 11 a b = _
  rw [lik_none (by omega) kb]
  unfold likB eqlB unlB simB
  have e : eqC a b = false := by
   cases h : eqC a b
   ·rfl
   ·have := (eqC_var h).2.2
    omega
  rw [ka, e]
  simp [outO]
 rw [ka] at p0
 have kb1 : (b.k == 4) = false := by simpa using kb
 have kb2 : (b.k == 3) = false := by simpa using kb3
 go_wp2_with fail
 go_quiet (fail)
 obtain ⟨WQ, hWQ⟩ : ∃ WQ, w2.drewN nq = WQ := ⟨_, rfl⟩
 have HWQ : Hid (Below w2.heap.size w2 WQ ∧ Below w.heap.size w WQ) := by rw [← hWQ]; exact ⟨below_drewN (Below.refl _ _) nq, below_drewN HW.out nq⟩
 rw [hWQ]
 clear hWQ p0 p1 p2 p3 p4 r0 r1 r2 r3 r4
 obtain ⟨⟨p0, p1, p2, p3, p4⟩, r0, r1, r2, r3, r4⟩ := HC.out WQ HWQ.out.1
 go_wp2_with fail
 go_quiet (fail)
 have HF : Hid (Below w.heap.size w (WQ.drewN nq)) := below_drewN HWQ.out.2 nq
 have H79 := x79 false (WQ.drewN nq)
 go_wp2_with fail
 refine H79.mono ?_
 rintro e w4 ⟨rfl, hw4⟩
 obtain rfl := hw4
 clear H79
 go_wp2_with fail
 refine bodyPost_ret (v := .tuple #[.int .u8 (outO false), .slice none 0 0]) (by simp [results, Tryz.results45, go_sem]) rfl ?_
 rw [HE.out]
 exact rg_nil HF.out
set_option maxRecDepth 100000 in
set_option maxHeartbeats 8000000 in
theorem x45_h11_true (h : Ak m w0 p x y a b r s vx vy w) (oa : a.ok = true) (ka : ¬ a.k = 4) (ka3 : ¬ a.k = 3) (kb : ¬ b.k = 4) (hq : eqC a b = true) : Calls Tryz.prog 45 #[.pointer p, .bool true, vx, vy] w (RgPost (likR 11 a b) w) := by
 have H1 := der_head h.de h.fa h.hb h.hx h.wx h.nx
 have H2 : Hid (∀ W, Below w.heap.size w W → _) := fun W g => der_head h.de h.fb (h.hb.trans (g.mono h.hb.size)) (h.hy.below g) h.wy h.ny
 obtain ⟨xa, xc, hvx⟩ := h.hx.form
 obtain ⟨ya, yc, hvy⟩ := h.hy.form
 subst hvx hvy
 clear h
 go_enter Tryz.func45, Tryz.ntmps45
 go_wp2_with fail
 refine H1.mono ?_
 rintro e w1 ⟨b1, o1, c1, rfl, hc1, HA⟩
 have H3 := H2.out w1 HA.out.2
 clear H1 H2
 go_wp2_with fail
 refine H3.mono ?_
 rintro e w2 ⟨b2, o2, c2, rfl, hc2, HB⟩
 have HW : Hid (Below w.heap.size w w2) := HA.out.2.trans (HB.out.2.mono HA.out.2.size)
 have HC : Hid (Cs w2 b1 o1 b2 o2 a b) := fun W h => ⟨HA.out.1 W (HB.out.2.trans (h.mono HB.out.2.size)), HB.out.1 W h⟩
 clear H3 HA HB
 obtain ⟨⟨p0, p1, p2, p3, p4⟩, r0, r1, r2, r3, r4⟩ := HC.out w2 (Below.refl _ _)
 have HE : Hid (likR 11 a b = (1, [])) := by
  show likR 11 a b = _
  rw [lik_none ka kb]
  unfold likB eqlB unlB simB
  have hk : a.k = 1 ∨ a.k = 2 := by
   rcases ok_kinds oa with h | h | h | h
   ·exact .inl h
   ·exact .inr h
   ·exact absurd h ka3
   ·exact absurd h ka
  rw [hq]
  rcases hk with h | h <;> simp [outO, h]
 have hN := eql60 a.k a.t a.n a.vn a.vk b.k b.t b.n b.vn b.vk
 rw [show eqCells a.k a.t a.n a.vn a.vk b.k b.t b.n b.vn b.vk = eqC a b from rfl, hq] at hN
 have ka1 : (a.k == 4) = false := by simpa using ka
 have ka2 : (a.k == 3) = false := by simpa using ka3
 have ka4 : (a.k != 3) = true := by simpa using ka3
 have kb1 : (b.k == 4) = false := by simpa using kb
 clear oa hq
 go_wp2_with fail
 go_quiet (fail)
 obtain ⟨WQ, hWQ⟩ : ∃ WQ, w2.drewN nq = WQ := ⟨_, rfl⟩
 have HWQ : Hid (Below w2.heap.size w2 WQ ∧ Below w.heap.size w WQ) := by rw [← hWQ]; exact ⟨below_drewN (Below.refl _ _) nq, below_drewN HW.out nq⟩
 rw [hWQ]
 clear hWQ p0 p1 p2 p3 p4 r0 r1 r2 r3 r4
 obtain ⟨⟨p0, p1, p2, p3, p4⟩, r0, r1, r2, r3, r4⟩ := HC.out WQ HWQ.out.1
 go_wp2_with fail
 go_quiet (fail)
 have HF : Hid (Below w.heap.size w (WQ.drewN nq)) := below_drewN HWQ.out.2 nq
 have H79 := x79 true (WQ.drewN nq)
 go_wp2_with fail
 refine H79.mono ?_
 rintro e w4 ⟨rfl, hw4⟩
 obtain rfl := hw4
 clear H79
 go_wp2_with fail
 refine bodyPost_ret (v := .tuple #[.int .u8 (outO true), .slice none 0 0]) (by simp [results, Tryz.results45, go_sem]) rfl ?_
 rw [HE.out]
 exact rg_nil HF.out
set_option maxRecDepth 100000 in
set_option maxHeartbeats 8000000 in
theorem x45_h11_false (h : Ak m w0 p x y a b r s vx vy w) (oa : a.ok = true) (ka : ¬ a.k = 4) (ka3 : ¬ a.k = 3) (kb : ¬ b.k = 4) (hq : eqC a b = false) : Calls Tryz.prog 45 #[.pointer p, .bool true, vx, vy] w (RgPost (likR 11 a b) w) := by
 have H1 := der_head h.de h.fa h.hb h.hx h.wx h.nx
 have H2 : Hid (∀ W, Below w.heap.size w W → _) := fun W g => der_head h.de h.fb (h.hb.trans (g.mono h.hb.size)) (h.hy.below g) h.wy h.ny
 obtain ⟨xa, xc, hvx⟩ := h.hx.form
 obtain ⟨ya, yc, hvy⟩ := h.hy.form
 subst hvx hvy
 clear h
 go_enter Tryz.func45, Tryz.ntmps45
 go_wp2_with fail
 refine H1.mono ?_
 rintro e w1 ⟨b1, o1, c1, rfl, hc1, HA⟩
 have H3 := H2.out w1 HA.out.2
 clear H1 H2
 go_wp2_with fail
 refine H3.mono ?_
 rintro e w2 ⟨b2, o2, c2, rfl, hc2, HB⟩
 have HW : Hid (Below w.heap.size w w2) := HA.out.2.trans (HB.out.2.mono HA.out.2.size)
 have HC : Hid (Cs w2 b1 o1 b2 o2 a b) := fun W h => ⟨HA.out.1 W (HB.out.2.trans (h.mono HB.out.2.size)), HB.out.1 W h⟩
 clear H3 HA HB
 obtain ⟨⟨p0, p1, p2, p3, p4⟩, r0, r1, r2, r3, r4⟩ := HC.out w2 (Below.refl _ _)
 have HE : Hid (likR 11 a b = (2, [])) := by
  show likR 11 a b = _
  rw [lik_none ka kb]
  unfold likB eqlB unlB simB
  have hk : a.k = 1 ∨ a.k = 2 := by
   rcases ok_kinds oa with h | h | h | h
   ·exact .inl h
   ·exact .inr h
   ·exact absurd h ka3
   ·exact absurd h ka
  rw [hq]
  rcases hk with h | h <;> simp [outO, h]
 have hN := eql60 a.k a.t a.n a.vn a.vk b.k b.t b.n b.vn b.vk
 rw [show eqCells a.k a.t a.n a.vn a.vk b.k b.t b.n b.vn b.vk = eqC a b from rfl, hq] at hN
 have ka1 : (a.k == 4) = false := by simpa using ka
 have ka2 : (a.k == 3) = false := by simpa using ka3
 have ka4 : (a.k != 3) = true := by simpa using ka3
 have kb1 : (b.k == 4) = false := by simpa using kb
 clear oa hq
 go_wp2_with fail
 go_quiet (fail)
 obtain ⟨WQ, hWQ⟩ : ∃ WQ, w2.drewN nq = WQ := ⟨_, rfl⟩
 have HWQ : Hid (Below w2.heap.size w2 WQ ∧ Below w.heap.size w WQ) := by rw [← hWQ]; exact ⟨below_drewN (Below.refl _ _) nq, below_drewN HW.out nq⟩
 rw [hWQ]
 clear hWQ p0 p1 p2 p3 p4 r0 r1 r2 r3 r4
 obtain ⟨⟨p0, p1, p2, p3, p4⟩, r0, r1, r2, r3, r4⟩ := HC.out WQ HWQ.out.1
 go_wp2_with fail
 go_quiet (fail)
 have HF : Hid (Below w.heap.size w (WQ.drewN nq)) := below_drewN HWQ.out.2 nq
 have H79 := x79 false (WQ.drewN nq)
 go_wp2_with fail
 refine H79.mono ?_
 rintro e w4 ⟨rfl, hw4⟩
 obtain rfl := hw4
 clear H79
 go_wp2_with fail
 refine bodyPost_ret (v := .tuple #[.int .u8 (outO false), .slice none 0 0]) (by simp [results, Tryz.results45, go_sem]) rfl ?_
 rw [HE.out]
 exact rg_nil HF.out
set_option maxRecDepth 100000 in
set_option maxHeartbeats 8000000 in
theorem x45_f12 (h : Ak m w0 p x y a b r s vx vy w) (ka : a.k = 3) (kb : b.k = 3) : Calls Tryz.prog 45 #[.pointer p, .bool false, vx, vy] w (RgPost (likR 12 a b) w) := by
 have H1 := der_head h.de h.fa h.hb h.hx h.wx h.nx
 have H2 : Hid (∀ W, Below w.heap.size w W → _) := fun W g => der_head h.de h.fb (h.hb.trans (g.mono h.hb.size)) (h.hy.below g) h.wy h.ny
 obtain ⟨xa, xc, hvx⟩ := h.hx.form
 obtain ⟨ya, yc, hvy⟩ := h.hy.form
 subst hvx hvy
 clear h
 go_enter Tryz.func45, Tryz.ntmps45
 go_wp2_with fail
 refine H1.mono ?_
 rintro e w1 ⟨b1, o1, c1, rfl, hc1, HA⟩
 have H3 := H2.out w1 HA.out.2
 clear H1 H2
 go_wp2_with fail
 refine H3.mono ?_
 rintro e w2 ⟨b2, o2, c2, rfl, hc2, HB⟩
 have HW : Hid (Below w.heap.size w w2) := HA.out.2.trans (HB.out.2.mono HA.out.2.size)
 have HC : Hid (Cs w2 b1 o1 b2 o2 a b) := fun W h => ⟨HA.out.1 W (HB.out.2.trans (h.mono HB.out.2.size)), HB.out.1 W h⟩
 clear H3 HA HB
 obtain ⟨⟨p0, p1, p2, p3, p4⟩, r0, r1, r2, r3, r4⟩ := HC.out w2 (Below.refl _ _)
 have HE : Hid (likR 12 a b = (2, [])) := by
  show likR 12 a b = _
  rw [lik_none (by omega) (by omega)]
  unfold likB eqlB unlB simB
  rw [ka, kb]
  simp [outO]
 rw [ka] at p0
 rw [kb] at r0
 go_wp2_with fail
 go_quiet (fail)
 obtain ⟨WQ, hWQ⟩ : ∃ WQ, w2.drewN nq = WQ := ⟨_, rfl⟩
 have HWQ : Hid (Below w2.heap.size w2 WQ ∧ Below w.heap.size w WQ) := by rw [← hWQ]; exact ⟨below_drewN (Below.refl _ _) nq, below_drewN HW.out nq⟩
 rw [hWQ]
 clear hWQ p0 p1 p2 p3 p4 r0 r1 r2 r3 r4
 obtain ⟨⟨p0, p1, p2, p3, p4⟩, r0, r1, r2, r3, r4⟩ := HC.out WQ HWQ.out.1
 go_wp2_with fail
 refine bodyPost_ret (v := .tuple #[.int .u8 2, .slice none 0 0]) (by simp [results, Tryz.results45, go_sem]) rfl ?_
 rw [HE.out]
 exact rg_nil HWQ.out.2
set_option maxRecDepth 100000 in
set_option maxHeartbeats 8000000 in
theorem x45_g12 (h : Ak m w0 p x y a b r s vx vy w) (ka : a.k = 3) (kb : ¬ b.k = 4) (kb3 : ¬ b.k = 3) (ob : b.ok = true) : Calls Tryz.prog 45 #[.pointer p, .bool false, vx, vy] w (RgPost (likR 12 a b) w) := by
 have H1 := der_head h.de h.fa h.hb h.hx h.wx h.nx
 have H2 : Hid (∀ W, Below w.heap.size w W → _) := fun W g => der_head h.de h.fb (h.hb.trans (g.mono h.hb.size)) (h.hy.below g) h.wy h.ny
 obtain ⟨xa, xc, hvx⟩ := h.hx.form
 obtain ⟨ya, yc, hvy⟩ := h.hy.form
 subst hvx hvy
 clear h
 go_enter Tryz.func45, Tryz.ntmps45
 go_wp2_with fail
 refine H1.mono ?_
 rintro e w1 ⟨b1, o1, c1, rfl, hc1, HA⟩
 have H3 := H2.out w1 HA.out.2
 clear H1 H2
 go_wp2_with fail
 refine H3.mono ?_
 rintro e w2 ⟨b2, o2, c2, rfl, hc2, HB⟩
 have HW : Hid (Below w.heap.size w w2) := HA.out.2.trans (HB.out.2.mono HA.out.2.size)
 have HC : Hid (Cs w2 b1 o1 b2 o2 a b) := fun W h => ⟨HA.out.1 W (HB.out.2.trans (h.mono HB.out.2.size)), HB.out.1 W h⟩
 clear H3 HA HB
 obtain ⟨⟨p0, p1, p2, p3, p4⟩, r0, r1, r2, r3, r4⟩ := HC.out w2 (Below.refl _ _)
 have HE : Hid (likR 12 a b = (1, [])) := by
  show likR 12 a b = _
  rw [lik_none (by omega) kb]
  unfold likB eqlB unlB simB
  have e : eqC a b = false := by
   cases h : eqC a b
   ·rfl
   ·have := (eqC_var h).2.2
    omega
  have hb : b.k = 1 ∨ b.k = 2 := by
   rcases ok_kinds ob with h | h | h | h
   ·exact .inl h
   ·exact .inr h
   ·exact absurd h kb3
   ·exact absurd h kb
  rw [ka, e]
  rcases hb with h | h <;> simp [outO, h]
 rw [ka] at p0
 have kb1 : (b.k == 4) = false := by simpa using kb
 have kb2 : (b.k == 3) = false := by simpa using kb3
 clear ob
 go_wp2_with fail
 go_quiet (fail)
 obtain ⟨WQ, hWQ⟩ : ∃ WQ, w2.drewN nq = WQ := ⟨_, rfl⟩
 have HWQ : Hid (Below w2.heap.size w2 WQ ∧ Below w.heap.size w WQ) := by rw [← hWQ]; exact ⟨below_drewN (Below.refl _ _) nq, below_drewN HW.out nq⟩
 rw [hWQ]
 clear hWQ p0 p1 p2 p3 p4 r0 r1 r2 r3 r4
 obtain ⟨⟨p0, p1, p2, p3, p4⟩, r0, r1, r2, r3, r4⟩ := HC.out WQ HWQ.out.1
 go_wp2_with fail
 go_quiet (fail)
 have HF : Hid (Below w.heap.size w (WQ.drewN nq)) := below_drewN HWQ.out.2 nq
 have H79 := x79 true (WQ.drewN nq)
 go_wp2_with fail
 refine H79.mono ?_
 rintro e w4 ⟨rfl, hw4⟩
 obtain rfl := hw4
 clear H79
 go_wp2_with fail
 refine bodyPost_ret (v := .tuple #[.int .u8 (outO true), .slice none 0 0]) (by simp [results, Tryz.results45, go_sem]) rfl ?_
 rw [HE.out]
 exact rg_nil HF.out
set_option maxRecDepth 100000 in
set_option maxHeartbeats 8000000 in
theorem x45_h12_true (h : Ak m w0 p x y a b r s vx vy w) (oa : a.ok = true) (ka : ¬ a.k = 4) (ka3 : ¬ a.k = 3) (kb : ¬ b.k = 4) (hq : eqC a b = true) : Calls Tryz.prog 45 #[.pointer p, .bool false, vx, vy] w (RgPost (likR 12 a b) w) := by
 have H1 := der_head h.de h.fa h.hb h.hx h.wx h.nx
 have H2 : Hid (∀ W, Below w.heap.size w W → _) := fun W g => der_head h.de h.fb (h.hb.trans (g.mono h.hb.size)) (h.hy.below g) h.wy h.ny
 obtain ⟨xa, xc, hvx⟩ := h.hx.form
 obtain ⟨ya, yc, hvy⟩ := h.hy.form
 subst hvx hvy
 clear h
 go_enter Tryz.func45, Tryz.ntmps45
 go_wp2_with fail
 refine H1.mono ?_
 rintro e w1 ⟨b1, o1, c1, rfl, hc1, HA⟩
 have H3 := H2.out w1 HA.out.2
 clear H1 H2
 go_wp2_with fail
 refine H3.mono ?_
 rintro e w2 ⟨b2, o2, c2, rfl, hc2, HB⟩
 have HW : Hid (Below w.heap.size w w2) := HA.out.2.trans (HB.out.2.mono HA.out.2.size)
 have HC : Hid (Cs w2 b1 o1 b2 o2 a b) := fun W h => ⟨HA.out.1 W (HB.out.2.trans (h.mono HB.out.2.size)), HB.out.1 W h⟩
 clear H3 HA HB
 obtain ⟨⟨p0, p1, p2, p3, p4⟩, r0, r1, r2, r3, r4⟩ := HC.out w2 (Below.refl _ _)
 have HE : Hid (likR 12 a b = (2, [])) := by
  show likR 12 a b = _
  rw [lik_none ka kb]
  unfold likB eqlB unlB simB
  have hk : a.k = 1 ∨ a.k = 2 := by
   rcases ok_kinds oa with h | h | h | h
   ·exact .inl h
   ·exact .inr h
   ·exact absurd h ka3
   ·exact absurd h ka
  rw [hq]
  rcases hk with h | h <;> simp [outO, h]
 have hN := eql60 a.k a.t a.n a.vn a.vk b.k b.t b.n b.vn b.vk
 rw [show eqCells a.k a.t a.n a.vn a.vk b.k b.t b.n b.vn b.vk = eqC a b from rfl, hq] at hN
 have ka1 : (a.k == 4) = false := by simpa using ka
 have ka2 : (a.k == 3) = false := by simpa using ka3
 have ka4 : (a.k != 3) = true := by simpa using ka3
 have kb1 : (b.k == 4) = false := by simpa using kb
 clear oa hq
 go_wp2_with fail
 go_quiet (fail)
 obtain ⟨WQ, hWQ⟩ : ∃ WQ, w2.drewN nq = WQ := ⟨_, rfl⟩
 have HWQ : Hid (Below w2.heap.size w2 WQ ∧ Below w.heap.size w WQ) := by rw [← hWQ]; exact ⟨below_drewN (Below.refl _ _) nq, below_drewN HW.out nq⟩
 rw [hWQ]
 clear hWQ p0 p1 p2 p3 p4 r0 r1 r2 r3 r4
 obtain ⟨⟨p0, p1, p2, p3, p4⟩, r0, r1, r2, r3, r4⟩ := HC.out WQ HWQ.out.1
 go_wp2_with fail
 go_quiet (fail)
 have HF : Hid (Below w.heap.size w (WQ.drewN nq)) := below_drewN HWQ.out.2 nq
 have H79 := x79 false (WQ.drewN nq)
 go_wp2_with fail
 refine H79.mono ?_
 rintro e w4 ⟨rfl, hw4⟩
 obtain rfl := hw4
 clear H79
 go_wp2_with fail
 refine bodyPost_ret (v := .tuple #[.int .u8 (outO false), .slice none 0 0]) (by simp [results, Tryz.results45, go_sem]) rfl ?_
 rw [HE.out]
 exact rg_nil HF.out
set_option maxRecDepth 100000 in
set_option maxHeartbeats 8000000 in
theorem x45_h12_false (h : Ak m w0 p x y a b r s vx vy w) (oa : a.ok = true) (ka : ¬ a.k = 4) (ka3 : ¬ a.k = 3) (kb : ¬ b.k = 4) (hq : eqC a b = false) : Calls Tryz.prog 45 #[.pointer p, .bool false, vx, vy] w (RgPost (likR 12 a b) w) := by
 have H1 := der_head h.de h.fa h.hb h.hx h.wx h.nx
 have H2 : Hid (∀ W, Below w.heap.size w W → _) := fun W g => der_head h.de h.fb (h.hb.trans (g.mono h.hb.size)) (h.hy.below g) h.wy h.ny
 obtain ⟨xa, xc, hvx⟩ := h.hx.form
 obtain ⟨ya, yc, hvy⟩ := h.hy.form
 subst hvx hvy
 clear h
 go_enter Tryz.func45, Tryz.ntmps45
 go_wp2_with fail
 refine H1.mono ?_
 rintro e w1 ⟨b1, o1, c1, rfl, hc1, HA⟩
 have H3 := H2.out w1 HA.out.2
 clear H1 H2
 go_wp2_with fail
 refine H3.mono ?_
 rintro e w2 ⟨b2, o2, c2, rfl, hc2, HB⟩
 have HW : Hid (Below w.heap.size w w2) := HA.out.2.trans (HB.out.2.mono HA.out.2.size)
 have HC : Hid (Cs w2 b1 o1 b2 o2 a b) := fun W h => ⟨HA.out.1 W (HB.out.2.trans (h.mono HB.out.2.size)), HB.out.1 W h⟩
 clear H3 HA HB
 obtain ⟨⟨p0, p1, p2, p3, p4⟩, r0, r1, r2, r3, r4⟩ := HC.out w2 (Below.refl _ _)
 have HE : Hid (likR 12 a b = (1, [])) := by
  show likR 12 a b = _
  rw [lik_none ka kb]
  unfold likB eqlB unlB simB
  have hk : a.k = 1 ∨ a.k = 2 := by
   rcases ok_kinds oa with h | h | h | h
   ·exact .inl h
   ·exact .inr h
   ·exact absurd h ka3
   ·exact absurd h ka
  rw [hq]
  rcases hk with h | h <;> simp [outO, h]
 have hN := eql60 a.k a.t a.n a.vn a.vk b.k b.t b.n b.vn b.vk
 rw [show eqCells a.k a.t a.n a.vn a.vk b.k b.t b.n b.vn b.vk = eqC a b from rfl, hq] at hN
 have ka1 : (a.k == 4) = false := by simpa using ka
 have ka2 : (a.k == 3) = false := by simpa using ka3
 have ka4 : (a.k != 3) = true := by simpa using ka3
 have kb1 : (b.k == 4) = false := by simpa using kb
 clear oa hq
 go_wp2_with fail
 go_quiet (fail)
 obtain ⟨WQ, hWQ⟩ : ∃ WQ, w2.drewN nq = WQ := ⟨_, rfl⟩
 have HWQ : Hid (Below w2.heap.size w2 WQ ∧ Below w.heap.size w WQ) := by rw [← hWQ]; exact ⟨below_drewN (Below.refl _ _) nq, below_drewN HW.out nq⟩
 rw [hWQ]
 clear hWQ p0 p1 p2 p3 p4 r0 r1 r2 r3 r4
 obtain ⟨⟨p0, p1, p2, p3, p4⟩, r0, r1, r2, r3, r4⟩ := HC.out WQ HWQ.out.1
 go_wp2_with fail
 go_quiet (fail)
 have HF : Hid (Below w.heap.size w (WQ.drewN nq)) := below_drewN HWQ.out.2 nq
 have H79 := x79 true (WQ.drewN nq)
 go_wp2_with fail
 refine H79.mono ?_
 rintro e w4 ⟨rfl, hw4⟩
 obtain rfl := hw4
 clear H79
 go_wp2_with fail
 refine bodyPost_ret (v := .tuple #[.int .u8 (outO true), .slice none 0 0]) (by simp [results, Tryz.results45, go_sem]) rfl ?_
 rw [HE.out]
 exact rg_nil HF.out
end
/-- The document's alike. -/
theorem x45 (k : Nat) (bq : Bool) (hk : (k = 11 ∧ bq = true) ∨ (k = 12 ∧ bq = false)) (m : Hp) (w0 : World) (p : Option Addr) (hD : DerG w0 p m) (x y : List C) (a b : C) (r s : List C) (ha : IsFol m x (a :: r)) (hb' : IsFol m y (b :: s)) (oa : a.ok = true) (ob : b.ok = true) (vx vy : Value) (w : World) (hb : Below w0.heap.size w0 w) (hx : TermAt w vx x) (hy : TermAt w vy y) (wx : ∀ c ∈ x, wfN (c.vn, c.vk)) (wy : ∀ c ∈ y, wfN (c.vn, c.vk)) (nx : x ≠ []) (ny : y ≠ []) :
  Calls Tryz.prog 45 #[.pointer p, .bool bq, vx, vy] w (RgPost (likR k a b) w) := by
 have h : Ak m w0 p x y a b r s vx vy w := ⟨hD, ha, hb', hb, hx, hy, wx, wy, nx, ny⟩
 rcases hk with ⟨rfl, rfl⟩ | ⟨rfl, rfl⟩
 ·by_cases ka : a.k = 4
  ·by_cases kb : b.k = 4
   ·by_cases h1 : a.vn = b.vn
    ·by_cases h2 : a.vk = b.vk
     ·exact x45_a11 h ka kb h1 h2 (var_same oa ob ka kb h1 h2)
     ·exact x45_c11 h ka kb h1 h2
    ·exact x45_b11 h ka kb h1
   ·exact x45_d11 h ka kb
  ·by_cases kb : b.k = 4
   ·exact x45_e11 h ka kb
   ·by_cases a3 : a.k = 3
    ·by_cases b3 : b.k = 3
     ·exact x45_f11 h a3 b3
     ·exact x45_g11 h a3 kb b3
    ·cases hq : eqC a b
     ·exact x45_h11_false h oa ka a3 kb hq
     ·exact x45_h11_true h oa ka a3 kb hq
 ·by_cases ka : a.k = 4
  ·by_cases kb : b.k = 4
   ·by_cases h1 : a.vn = b.vn
    ·by_cases h2 : a.vk = b.vk
     ·exact x45_a12 h ka kb h1 h2 (var_same oa ob ka kb h1 h2)
     ·exact x45_c12 h ka kb h1 h2
    ·exact x45_b12 h ka kb h1
   ·exact x45_d12 h ka kb
  ·by_cases kb : b.k = 4
   ·exact x45_e12 h ka kb
   ·by_cases a3 : a.k = 3
    ·by_cases b3 : b.k = 3
     ·exact x45_f12 h a3 b3
     ·exact x45_g12 h a3 kb b3 ob
    ·cases hq : eqC a b
     ·exact x45_h12_false h oa ka a3 kb hq
     ·exact x45_h12_true h oa ka a3 kb hq
end Go.Proofs.YtaehhophaaipdaaGreatDoor
