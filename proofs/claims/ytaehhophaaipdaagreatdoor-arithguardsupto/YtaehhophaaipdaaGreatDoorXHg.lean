/- Contract of the document's compared. -/
import Derived.Test.YtaehhophaaipdaaGreatDoorXGg
namespace Go.Proofs.YtaehhophaaipdaaGreatDoor
open Go.RowKit
attribute [local go_sem ↓] Go.wp_at_zero Go.wp_at_succ
theorem cmp_fail {k : Nat} {u v : V3} (h : u.2.1 = 2 ∨ v.2.1 = 2) : cmpR k [u, v] = (2, []) := by
 have : failsR [u, v] = true := by
  unfold failsR
  rcases h with h | h <;> simp [h]
 unfold cmpR
 rw [this]
 rfl
theorem cmp_go {k : Nat} {u v : V3} (h1 : u.2.1 ≠ 2) (h2 : v.2.1 ≠ 2) (hb : bothN [] u.2.2 = u.2.2) : cmpR k [u, v] = if bothN u.2.2 v.2.2 = [] then (outO (cmpB k u.1 v.1), []) else (3, bothN u.2.2 v.2.2) := by
 have e1 : failsR [u, v] = false := by
  unfold failsR
  simp [h1, h2]
 have e2 : waitsF [] [u, v] = bothN u.2.2 v.2.2 := by
  show bothN (bothN [] u.2.2) v.2.2 = _
  rw [hb]
 unfold cmpR
 rw [e1, e2]
 rfl
theorem okv_both {v : V3} (h : OkV v) : bothN [] v.2.2 = v.2.2 := by
 rcases h with ⟨_, h, _⟩ | rfl | ⟨_, _, _, h⟩
 ·rw [h]; rfl
 ·rfl
 ·exact h
set_option maxRecDepth 100000 in
set_option maxHeartbeats 4000000 in
theorem x44_1 (m : Hp) (w0 : World) (p : Option Addr) (hD : DerG w0 p m) (tx : ByteArray) (ht : tx.toList = [60]) (d : Nat) (x y : List C) (u v : V3) (hu : Rs m d x u) (hv : Rs m d y v) (ou : OkV u) (ov : OkV v) (vx vy : Value) (w : World) (hb : Below w0.heap.size w0 w) (hx : TermAt w vx x) (hy : TermAt w vy y) (rx : rightB x = true) (ry : rightB y = true) (wx : ∀ c ∈ x, wfN (c.vn, c.vk)) (wy : ∀ c ∈ y, wfN (c.vn, c.vk)) :
  Calls Tryz.prog 44 #[.pointer p, .string tx, vx, vy] w (RgPost (cmpR 1 [u, v]) w) := by
 have H1 := z36 m w0 p hD.one d x u hu vx w hb hx rx wx
 have H2 : Hid (∀ W, Below w.heap.size w W → Calls Tryz.prog 36 #[.pointer p, vy] W (RvPost v W)) := fun W h => z36 m w0 p hD.one d y v hv vy W (hb.trans (h.mono hb.size)) (hy.below h) ry wy
 have hlu : u.2.2.length ≤ 256 := by
  have h1 := rs_len hu
  have h2 := ((right_iff _).1 rx).2.1
  omega
 have hlv : v.2.2.length ≤ 256 := by
  have h1 := rs_len hv
  have h2 := ((right_iff _).1 ry).2.1
  omega
 have HO : Hid (OkV u ∧ OkV v) := ⟨ou, ov⟩
 obtain ⟨xa, xc, hvx⟩ := hx.form
 obtain ⟨ya, yc, hvy⟩ := hy.form
 subst hvx hvy
 clear hD hu hv hb hx hy rx ry wx wy ou ov
 go_enter Tryz.func44, Tryz.ntmps44
 go_wp2_with fail
 refine H1.mono ?_
 rintro e w1 ⟨q1, c1, rfl, hN1, b1⟩
 have HB1 : Hid (NamesAt w1 (.slice q1 u.2.2.length c1) u.2.2 ∧ Below w.heap.size w w1) := ⟨hN1, b1⟩
 have H3 := H2.out w1 b1
 clear hN1 b1 H1 H2
 go_wp2_with fail
 refine H3.mono ?_
 rintro e w2 ⟨q2, c2, rfl, hN2, b2⟩
 have HB2 : Hid (NamesAt w2 (.slice q1 u.2.2.length c1) u.2.2 ∧ NamesAt w2 (.slice q2 v.2.2.length c2) v.2.2 ∧ Below w.heap.size w w2) := ⟨HB1.out.1.below b2, hN2, HB1.out.2.trans (b2.mono HB1.out.2.size)⟩
 clear hN2 b2 H3 HB1
 by_cases f1 : u.2.1 = 2
 ·have HE : Hid (cmpR 1 [u, v] = (2, [])) := cmp_fail (.inl f1)
  rw [f1]
  clear f1
  go_wp2_with fail
  refine bodyPost_ret (v := .tuple #[.int .u8 2, .slice none 0 0]) (by simp [results, Tryz.results44, go_sem]) rfl ?_
  rw [HE.out]
  exact rg_nil HB2.out.2.2
 ·by_cases f2 : v.2.1 = 2
  ·have HE : Hid (cmpR 1 [u, v] = (2, [])) := cmp_fail (.inr f2)
   have f1' : (u.2.1 == 2) = false := by simpa using f1
   rw [f2]
   clear f1 f2
   generalize u.2.1 = uo at *
   go_wp2_with fail
   refine bodyPost_ret (v := .tuple #[.int .u8 2, .slice none 0 0]) (by simp [results, Tryz.results44, go_sem]) rfl ?_
   rw [HE.out]
   exact rg_nil HB2.out.2.2
  ·have HE : Hid (cmpR 1 [u, v] = if bothN u.2.2 v.2.2 = [] then (outO (cmpB 1 u.1 v.1), []) else (3, bothN u.2.2 v.2.2)) := cmp_go f1 f2 (okv_both HO.out.1)
   have f1' : (u.2.1 == 2) = false := by simpa using f1
   have f2' : (v.2.1 == 2) = false := by simpa using f2
   have H40 := z40 u.2.2 v.2.2 _ _ w2 HB2.out.1 HB2.out.2.1 (by omega)
   clear f1 f2 HO
   generalize u.2.1 = uo at *
   generalize v.2.1 = vo at *
   generalize u.1 = a at *
   generalize v.1 = b at *
   go_wp2_with fail
   refine H40.mono ?_
   rintro e w3 ⟨q3, c3, rfl, H3⟩
   have hlb := both_len v.2.2 u.2.2
   have HB3 : Hid (NamesAt w3 (.slice q3 (bothN u.2.2 v.2.2).length c3) (bothN u.2.2 v.2.2) ∧ Below w.heap.size w w3) := ⟨namesAt_of_owns H3.out.1 (by unfold maxLen; omega), HB2.out.2.2.trans (H3.out.2.mono HB2.out.2.2.size)⟩
   clear H3 H40 HB2 hlb hlu hlv
   generalize bothN u.2.2 v.2.2 = B at *
   by_cases hB : B = []
   ·subst hB
    have HE2 : Hid (cmpR 1 [u, v] = (outO (cmpB 1 a b), [])) := by show cmpR 1 [u, v] = _; rw [HE.out, if_pos rfl]
    clear HE
    go_wp2_with fail
    refine (x79 _ _).mono ?_
    rintro e w4 ⟨rfl, hw4⟩
    obtain rfl := hw4
    go_wp2_with fail
    refine bodyPost_ret (v := .tuple #[.int .u8 (outO (cmpB 1 a b)), .slice none 0 0]) (by simp [results, Tryz.results44, go_sem, cmpB]) rfl ?_
    rw [HE2.out]
    exact rg_nil HB3.out.2
   ·have HE2 : Hid (cmpR 1 [u, v] = (3, B)) := by show cmpR 1 [u, v] = _; rw [HE.out, if_neg hB]
    have hB' : 0 < B.length := List.length_pos_iff.2 hB
    have HL : Hid (RgPost (3, B) w (.returned (.tuple #[.int .u8 3, .slice q3 B.length c3])) w3) := ⟨q3, c3, rfl, HB3.out.1, HB3.out.2⟩
    clear HE hB HB3
    generalize B.length = L at *
    go_wp2_with fail
    refine bodyPost_ret (v := .tuple #[.int .u8 3, .slice q3 L c3]) (by simp [results, Tryz.results44, go_sem]) rfl ?_
    rw [HE2.out]
    exact HL.out
set_option maxRecDepth 100000 in
set_option maxHeartbeats 4000000 in
theorem x44_2 (m : Hp) (w0 : World) (p : Option Addr) (hD : DerG w0 p m) (tx : ByteArray) (ht : tx.toList = [61, 60]) (d : Nat) (x y : List C) (u v : V3) (hu : Rs m d x u) (hv : Rs m d y v) (ou : OkV u) (ov : OkV v) (vx vy : Value) (w : World) (hb : Below w0.heap.size w0 w) (hx : TermAt w vx x) (hy : TermAt w vy y) (rx : rightB x = true) (ry : rightB y = true) (wx : ∀ c ∈ x, wfN (c.vn, c.vk)) (wy : ∀ c ∈ y, wfN (c.vn, c.vk)) :
  Calls Tryz.prog 44 #[.pointer p, .string tx, vx, vy] w (RgPost (cmpR 2 [u, v]) w) := by
 have H1 := z36 m w0 p hD.one d x u hu vx w hb hx rx wx
 have H2 : Hid (∀ W, Below w.heap.size w W → Calls Tryz.prog 36 #[.pointer p, vy] W (RvPost v W)) := fun W h => z36 m w0 p hD.one d y v hv vy W (hb.trans (h.mono hb.size)) (hy.below h) ry wy
 have hlu : u.2.2.length ≤ 256 := by
  have h1 := rs_len hu
  have h2 := ((right_iff _).1 rx).2.1
  omega
 have hlv : v.2.2.length ≤ 256 := by
  have h1 := rs_len hv
  have h2 := ((right_iff _).1 ry).2.1
  omega
 have HO : Hid (OkV u ∧ OkV v) := ⟨ou, ov⟩
 obtain ⟨xa, xc, hvx⟩ := hx.form
 obtain ⟨ya, yc, hvy⟩ := hy.form
 subst hvx hvy
 clear hD hu hv hb hx hy rx ry wx wy ou ov
 go_enter Tryz.func44, Tryz.ntmps44
 go_wp2_with fail
 refine H1.mono ?_
 rintro e w1 ⟨q1, c1, rfl, hN1, b1⟩
 have HB1 : Hid (NamesAt w1 (.slice q1 u.2.2.length c1) u.2.2 ∧ Below w.heap.size w w1) := ⟨hN1, b1⟩
 have H3 := H2.out w1 b1
 clear hN1 b1 H1 H2
 go_wp2_with fail
 refine H3.mono ?_
 rintro e w2 ⟨q2, c2, rfl, hN2, b2⟩
 have HB2 : Hid (NamesAt w2 (.slice q1 u.2.2.length c1) u.2.2 ∧ NamesAt w2 (.slice q2 v.2.2.length c2) v.2.2 ∧ Below w.heap.size w w2) := ⟨HB1.out.1.below b2, hN2, HB1.out.2.trans (b2.mono HB1.out.2.size)⟩
 clear hN2 b2 H3 HB1
 by_cases f1 : u.2.1 = 2
 ·have HE : Hid (cmpR 2 [u, v] = (2, [])) := cmp_fail (.inl f1)
  rw [f1]
  clear f1
  go_wp2_with fail
  refine bodyPost_ret (v := .tuple #[.int .u8 2, .slice none 0 0]) (by simp [results, Tryz.results44, go_sem]) rfl ?_
  rw [HE.out]
  exact rg_nil HB2.out.2.2
 ·by_cases f2 : v.2.1 = 2
  ·have HE : Hid (cmpR 2 [u, v] = (2, [])) := cmp_fail (.inr f2)
   have f1' : (u.2.1 == 2) = false := by simpa using f1
   rw [f2]
   clear f1 f2
   generalize u.2.1 = uo at *
   go_wp2_with fail
   refine bodyPost_ret (v := .tuple #[.int .u8 2, .slice none 0 0]) (by simp [results, Tryz.results44, go_sem]) rfl ?_
   rw [HE.out]
   exact rg_nil HB2.out.2.2
  ·have HE : Hid (cmpR 2 [u, v] = if bothN u.2.2 v.2.2 = [] then (outO (cmpB 2 u.1 v.1), []) else (3, bothN u.2.2 v.2.2)) := cmp_go f1 f2 (okv_both HO.out.1)
   have f1' : (u.2.1 == 2) = false := by simpa using f1
   have f2' : (v.2.1 == 2) = false := by simpa using f2
   have H40 := z40 u.2.2 v.2.2 _ _ w2 HB2.out.1 HB2.out.2.1 (by omega)
   clear f1 f2 HO
   generalize u.2.1 = uo at *
   generalize v.2.1 = vo at *
   generalize u.1 = a at *
   generalize v.1 = b at *
   go_wp2_with fail
   refine H40.mono ?_
   rintro e w3 ⟨q3, c3, rfl, H3⟩
   have hlb := both_len v.2.2 u.2.2
   have HB3 : Hid (NamesAt w3 (.slice q3 (bothN u.2.2 v.2.2).length c3) (bothN u.2.2 v.2.2) ∧ Below w.heap.size w w3) := ⟨namesAt_of_owns H3.out.1 (by unfold maxLen; omega), HB2.out.2.2.trans (H3.out.2.mono HB2.out.2.2.size)⟩
   clear H3 H40 HB2 hlb hlu hlv
   generalize bothN u.2.2 v.2.2 = B at *
   by_cases hB : B = []
   ·subst hB
    have HE2 : Hid (cmpR 2 [u, v] = (outO (cmpB 2 a b), [])) := by show cmpR 2 [u, v] = _; rw [HE.out, if_pos rfl]
    clear HE
    go_wp2_with fail
    refine (x79 _ _).mono ?_
    rintro e w4 ⟨rfl, hw4⟩
    obtain rfl := hw4
    go_wp2_with fail
    refine bodyPost_ret (v := .tuple #[.int .u8 (outO (cmpB 2 a b)), .slice none 0 0]) (by simp [results, Tryz.results44, go_sem, cmpB]) rfl ?_
    rw [HE2.out]
    exact rg_nil HB3.out.2
   ·have HE2 : Hid (cmpR 2 [u, v] = (3, B)) := by show cmpR 2 [u, v] = _; rw [HE.out, if_neg hB]
    have hB' : 0 < B.length := List.length_pos_iff.2 hB
    have HL : Hid (RgPost (3, B) w (.returned (.tuple #[.int .u8 3, .slice q3 B.length c3])) w3) := ⟨q3, c3, rfl, HB3.out.1, HB3.out.2⟩
    clear HE hB HB3
    generalize B.length = L at *
    go_wp2_with fail
    refine bodyPost_ret (v := .tuple #[.int .u8 3, .slice q3 L c3]) (by simp [results, Tryz.results44, go_sem]) rfl ?_
    rw [HE2.out]
    exact HL.out
set_option maxRecDepth 100000 in
set_option maxHeartbeats 4000000 in
theorem x44_3 (m : Hp) (w0 : World) (p : Option Addr) (hD : DerG w0 p m) (tx : ByteArray) (ht : tx.toList = [62]) (d : Nat) (x y : List C) (u v : V3) (hu : Rs m d x u) (hv : Rs m d y v) (ou : OkV u) (ov : OkV v) (vx vy : Value) (w : World) (hb : Below w0.heap.size w0 w) (hx : TermAt w vx x) (hy : TermAt w vy y) (rx : rightB x = true) (ry : rightB y = true) (wx : ∀ c ∈ x, wfN (c.vn, c.vk)) (wy : ∀ c ∈ y, wfN (c.vn, c.vk)) :
  Calls Tryz.prog 44 #[.pointer p, .string tx, vx, vy] w (RgPost (cmpR 3 [u, v]) w) := by
 have H1 := z36 m w0 p hD.one d x u hu vx w hb hx rx wx
 have H2 : Hid (∀ W, Below w.heap.size w W → Calls Tryz.prog 36 #[.pointer p, vy] W (RvPost v W)) := fun W h => z36 m w0 p hD.one d y v hv vy W (hb.trans (h.mono hb.size)) (hy.below h) ry wy
 have hlu : u.2.2.length ≤ 256 := by
  have h1 := rs_len hu
  have h2 := ((right_iff _).1 rx).2.1
  omega
 have hlv : v.2.2.length ≤ 256 := by
  have h1 := rs_len hv
  have h2 := ((right_iff _).1 ry).2.1
  omega
 have HO : Hid (OkV u ∧ OkV v) := ⟨ou, ov⟩
 obtain ⟨xa, xc, hvx⟩ := hx.form
 obtain ⟨ya, yc, hvy⟩ := hy.form
 subst hvx hvy
 clear hD hu hv hb hx hy rx ry wx wy ou ov
 go_enter Tryz.func44, Tryz.ntmps44
 go_wp2_with fail
 refine H1.mono ?_
 rintro e w1 ⟨q1, c1, rfl, hN1, b1⟩
 have HB1 : Hid (NamesAt w1 (.slice q1 u.2.2.length c1) u.2.2 ∧ Below w.heap.size w w1) := ⟨hN1, b1⟩
 have H3 := H2.out w1 b1
 clear hN1 b1 H1 H2
 go_wp2_with fail
 refine H3.mono ?_
 rintro e w2 ⟨q2, c2, rfl, hN2, b2⟩
 have HB2 : Hid (NamesAt w2 (.slice q1 u.2.2.length c1) u.2.2 ∧ NamesAt w2 (.slice q2 v.2.2.length c2) v.2.2 ∧ Below w.heap.size w w2) := ⟨HB1.out.1.below b2, hN2, HB1.out.2.trans (b2.mono HB1.out.2.size)⟩
 clear hN2 b2 H3 HB1
 by_cases f1 : u.2.1 = 2
 ·have HE : Hid (cmpR 3 [u, v] = (2, [])) := cmp_fail (.inl f1)
  rw [f1]
  clear f1
  go_wp2_with fail
  refine bodyPost_ret (v := .tuple #[.int .u8 2, .slice none 0 0]) (by simp [results, Tryz.results44, go_sem]) rfl ?_
  rw [HE.out]
  exact rg_nil HB2.out.2.2
 ·by_cases f2 : v.2.1 = 2
  ·have HE : Hid (cmpR 3 [u, v] = (2, [])) := cmp_fail (.inr f2)
   have f1' : (u.2.1 == 2) = false := by simpa using f1
   rw [f2]
   clear f1 f2
   generalize u.2.1 = uo at *
   go_wp2_with fail
   refine bodyPost_ret (v := .tuple #[.int .u8 2, .slice none 0 0]) (by simp [results, Tryz.results44, go_sem]) rfl ?_
   rw [HE.out]
   exact rg_nil HB2.out.2.2
  ·have HE : Hid (cmpR 3 [u, v] = if bothN u.2.2 v.2.2 = [] then (outO (cmpB 3 u.1 v.1), []) else (3, bothN u.2.2 v.2.2)) := cmp_go f1 f2 (okv_both HO.out.1)
   have f1' : (u.2.1 == 2) = false := by simpa using f1
   have f2' : (v.2.1 == 2) = false := by simpa using f2
   have H40 := z40 u.2.2 v.2.2 _ _ w2 HB2.out.1 HB2.out.2.1 (by omega)
   clear f1 f2 HO
   generalize u.2.1 = uo at *
   generalize v.2.1 = vo at *
   generalize u.1 = a at *
   generalize v.1 = b at *
   go_wp2_with fail
   refine H40.mono ?_
   rintro e w3 ⟨q3, c3, rfl, H3⟩
   have hlb := both_len v.2.2 u.2.2
   have HB3 : Hid (NamesAt w3 (.slice q3 (bothN u.2.2 v.2.2).length c3) (bothN u.2.2 v.2.2) ∧ Below w.heap.size w w3) := ⟨namesAt_of_owns H3.out.1 (by unfold maxLen; omega), HB2.out.2.2.trans (H3.out.2.mono HB2.out.2.2.size)⟩
   clear H3 H40 HB2 hlb hlu hlv
   generalize bothN u.2.2 v.2.2 = B at *
   by_cases hB : B = []
   ·subst hB
    have HE2 : Hid (cmpR 3 [u, v] = (outO (cmpB 3 a b), [])) := by show cmpR 3 [u, v] = _; rw [HE.out, if_pos rfl]
    clear HE
    go_wp2_with fail
    refine (x79 _ _).mono ?_
    rintro e w4 ⟨rfl, hw4⟩
    obtain rfl := hw4
    go_wp2_with fail
    refine bodyPost_ret (v := .tuple #[.int .u8 (outO (cmpB 3 a b)), .slice none 0 0]) (by simp [results, Tryz.results44, go_sem, cmpB]) rfl ?_
    rw [HE2.out]
    exact rg_nil HB3.out.2
   ·have HE2 : Hid (cmpR 3 [u, v] = (3, B)) := by show cmpR 3 [u, v] = _; rw [HE.out, if_neg hB]
    have hB' : 0 < B.length := List.length_pos_iff.2 hB
    have HL : Hid (RgPost (3, B) w (.returned (.tuple #[.int .u8 3, .slice q3 B.length c3])) w3) := ⟨q3, c3, rfl, HB3.out.1, HB3.out.2⟩
    clear HE hB HB3
    generalize B.length = L at *
    go_wp2_with fail
    refine bodyPost_ret (v := .tuple #[.int .u8 3, .slice q3 L c3]) (by simp [results, Tryz.results44, go_sem]) rfl ?_
    rw [HE2.out]
    exact HL.out
set_option maxRecDepth 100000 in
set_option maxHeartbeats 4000000 in
theorem x44_4 (m : Hp) (w0 : World) (p : Option Addr) (hD : DerG w0 p m) (tx : ByteArray) (ht : tx.toList = [62, 61]) (d : Nat) (x y : List C) (u v : V3) (hu : Rs m d x u) (hv : Rs m d y v) (ou : OkV u) (ov : OkV v) (vx vy : Value) (w : World) (hb : Below w0.heap.size w0 w) (hx : TermAt w vx x) (hy : TermAt w vy y) (rx : rightB x = true) (ry : rightB y = true) (wx : ∀ c ∈ x, wfN (c.vn, c.vk)) (wy : ∀ c ∈ y, wfN (c.vn, c.vk)) :
  Calls Tryz.prog 44 #[.pointer p, .string tx, vx, vy] w (RgPost (cmpR 4 [u, v]) w) := by
 have H1 := z36 m w0 p hD.one d x u hu vx w hb hx rx wx
 have H2 : Hid (∀ W, Below w.heap.size w W → Calls Tryz.prog 36 #[.pointer p, vy] W (RvPost v W)) := fun W h => z36 m w0 p hD.one d y v hv vy W (hb.trans (h.mono hb.size)) (hy.below h) ry wy
 have hlu : u.2.2.length ≤ 256 := by
  have h1 := rs_len hu
  have h2 := ((right_iff _).1 rx).2.1
  omega
 have hlv : v.2.2.length ≤ 256 := by
  have h1 := rs_len hv
  have h2 := ((right_iff _).1 ry).2.1
  omega
 have HO : Hid (OkV u ∧ OkV v) := ⟨ou, ov⟩
 obtain ⟨xa, xc, hvx⟩ := hx.form
 obtain ⟨ya, yc, hvy⟩ := hy.form
 subst hvx hvy
 clear hD hu hv hb hx hy rx ry wx wy ou ov
 go_enter Tryz.func44, Tryz.ntmps44
 go_wp2_with fail
 refine H1.mono ?_
 rintro e w1 ⟨q1, c1, rfl, hN1, b1⟩
 have HB1 : Hid (NamesAt w1 (.slice q1 u.2.2.length c1) u.2.2 ∧ Below w.heap.size w w1) := ⟨hN1, b1⟩
 have H3 := H2.out w1 b1
 clear hN1 b1 H1 H2
 go_wp2_with fail
 refine H3.mono ?_
 rintro e w2 ⟨q2, c2, rfl, hN2, b2⟩
 have HB2 : Hid (NamesAt w2 (.slice q1 u.2.2.length c1) u.2.2 ∧ NamesAt w2 (.slice q2 v.2.2.length c2) v.2.2 ∧ Below w.heap.size w w2) := ⟨HB1.out.1.below b2, hN2, HB1.out.2.trans (b2.mono HB1.out.2.size)⟩
 clear hN2 b2 H3 HB1
 by_cases f1 : u.2.1 = 2
 ·have HE : Hid (cmpR 4 [u, v] = (2, [])) := cmp_fail (.inl f1)
  rw [f1]
  clear f1
  go_wp2_with fail
  refine bodyPost_ret (v := .tuple #[.int .u8 2, .slice none 0 0]) (by simp [results, Tryz.results44, go_sem]) rfl ?_
  rw [HE.out]
  exact rg_nil HB2.out.2.2
 ·by_cases f2 : v.2.1 = 2
  ·have HE : Hid (cmpR 4 [u, v] = (2, [])) := cmp_fail (.inr f2)
   have f1' : (u.2.1 == 2) = false := by simpa using f1
   rw [f2]
   clear f1 f2
   generalize u.2.1 = uo at *
   go_wp2_with fail
   refine bodyPost_ret (v := .tuple #[.int .u8 2, .slice none 0 0]) (by simp [results, Tryz.results44, go_sem]) rfl ?_
   rw [HE.out]
   exact rg_nil HB2.out.2.2
  ·have HE : Hid (cmpR 4 [u, v] = if bothN u.2.2 v.2.2 = [] then (outO (cmpB 4 u.1 v.1), []) else (3, bothN u.2.2 v.2.2)) := cmp_go f1 f2 (okv_both HO.out.1)
   have f1' : (u.2.1 == 2) = false := by simpa using f1
   have f2' : (v.2.1 == 2) = false := by simpa using f2
   have H40 := z40 u.2.2 v.2.2 _ _ w2 HB2.out.1 HB2.out.2.1 (by omega)
   clear f1 f2 HO
   generalize u.2.1 = uo at *
   generalize v.2.1 = vo at *
   generalize u.1 = a at *
   generalize v.1 = b at *
   go_wp2_with fail
   refine H40.mono ?_
   rintro e w3 ⟨q3, c3, rfl, H3⟩
   have hlb := both_len v.2.2 u.2.2
   have HB3 : Hid (NamesAt w3 (.slice q3 (bothN u.2.2 v.2.2).length c3) (bothN u.2.2 v.2.2) ∧ Below w.heap.size w w3) := ⟨namesAt_of_owns H3.out.1 (by unfold maxLen; omega), HB2.out.2.2.trans (H3.out.2.mono HB2.out.2.2.size)⟩
   clear H3 H40 HB2 hlb hlu hlv
   generalize bothN u.2.2 v.2.2 = B at *
   by_cases hB : B = []
   ·subst hB
    have HE2 : Hid (cmpR 4 [u, v] = (outO (cmpB 4 a b), [])) := by show cmpR 4 [u, v] = _; rw [HE.out, if_pos rfl]
    clear HE
    go_wp2_with fail
    refine (x79 _ _).mono ?_
    rintro e w4 ⟨rfl, hw4⟩
    obtain rfl := hw4
    go_wp2_with fail
    refine bodyPost_ret (v := .tuple #[.int .u8 (outO (cmpB 4 a b)), .slice none 0 0]) (by simp [results, Tryz.results44, go_sem, cmpB]) rfl ?_
    rw [HE2.out]
    exact rg_nil HB3.out.2
   ·have HE2 : Hid (cmpR 4 [u, v] = (3, B)) := by show cmpR 4 [u, v] = _; rw [HE.out, if_neg hB]
    have hB' : 0 < B.length := List.length_pos_iff.2 hB
    have HL : Hid (RgPost (3, B) w (.returned (.tuple #[.int .u8 3, .slice q3 B.length c3])) w3) := ⟨q3, c3, rfl, HB3.out.1, HB3.out.2⟩
    clear HE hB HB3
    generalize B.length = L at *
    go_wp2_with fail
    refine bodyPost_ret (v := .tuple #[.int .u8 3, .slice q3 L c3]) (by simp [results, Tryz.results44, go_sem]) rfl ?_
    rw [HE2.out]
    exact HL.out
set_option maxRecDepth 100000 in
set_option maxHeartbeats 4000000 in
theorem x44_5 (m : Hp) (w0 : World) (p : Option Addr) (hD : DerG w0 p m) (tx : ByteArray) (ht : tx.toList = [61, 58, 61]) (d : Nat) (x y : List C) (u v : V3) (hu : Rs m d x u) (hv : Rs m d y v) (ou : OkV u) (ov : OkV v) (vx vy : Value) (w : World) (hb : Below w0.heap.size w0 w) (hx : TermAt w vx x) (hy : TermAt w vy y) (rx : rightB x = true) (ry : rightB y = true) (wx : ∀ c ∈ x, wfN (c.vn, c.vk)) (wy : ∀ c ∈ y, wfN (c.vn, c.vk)) :
  Calls Tryz.prog 44 #[.pointer p, .string tx, vx, vy] w (RgPost (cmpR 5 [u, v]) w) := by
 have H1 := z36 m w0 p hD.one d x u hu vx w hb hx rx wx
 have H2 : Hid (∀ W, Below w.heap.size w W → Calls Tryz.prog 36 #[.pointer p, vy] W (RvPost v W)) := fun W h => z36 m w0 p hD.one d y v hv vy W (hb.trans (h.mono hb.size)) (hy.below h) ry wy
 have hlu : u.2.2.length ≤ 256 := by
  have h1 := rs_len hu
  have h2 := ((right_iff _).1 rx).2.1
  omega
 have hlv : v.2.2.length ≤ 256 := by
  have h1 := rs_len hv
  have h2 := ((right_iff _).1 ry).2.1
  omega
 have HO : Hid (OkV u ∧ OkV v) := ⟨ou, ov⟩
 obtain ⟨xa, xc, hvx⟩ := hx.form
 obtain ⟨ya, yc, hvy⟩ := hy.form
 subst hvx hvy
 clear hD hu hv hb hx hy rx ry wx wy ou ov
 go_enter Tryz.func44, Tryz.ntmps44
 go_wp2_with fail
 refine H1.mono ?_
 rintro e w1 ⟨q1, c1, rfl, hN1, b1⟩
 have HB1 : Hid (NamesAt w1 (.slice q1 u.2.2.length c1) u.2.2 ∧ Below w.heap.size w w1) := ⟨hN1, b1⟩
 have H3 := H2.out w1 b1
 clear hN1 b1 H1 H2
 go_wp2_with fail
 refine H3.mono ?_
 rintro e w2 ⟨q2, c2, rfl, hN2, b2⟩
 have HB2 : Hid (NamesAt w2 (.slice q1 u.2.2.length c1) u.2.2 ∧ NamesAt w2 (.slice q2 v.2.2.length c2) v.2.2 ∧ Below w.heap.size w w2) := ⟨HB1.out.1.below b2, hN2, HB1.out.2.trans (b2.mono HB1.out.2.size)⟩
 clear hN2 b2 H3 HB1
 by_cases f1 : u.2.1 = 2
 ·have HE : Hid (cmpR 5 [u, v] = (2, [])) := cmp_fail (.inl f1)
  rw [f1]
  clear f1
  go_wp2_with fail
  refine bodyPost_ret (v := .tuple #[.int .u8 2, .slice none 0 0]) (by simp [results, Tryz.results44, go_sem]) rfl ?_
  rw [HE.out]
  exact rg_nil HB2.out.2.2
 ·by_cases f2 : v.2.1 = 2
  ·have HE : Hid (cmpR 5 [u, v] = (2, [])) := cmp_fail (.inr f2)
   have f1' : (u.2.1 == 2) = false := by simpa using f1
   rw [f2]
   clear f1 f2
   generalize u.2.1 = uo at *
   go_wp2_with fail
   refine bodyPost_ret (v := .tuple #[.int .u8 2, .slice none 0 0]) (by simp [results, Tryz.results44, go_sem]) rfl ?_
   rw [HE.out]
   exact rg_nil HB2.out.2.2
  ·have HE : Hid (cmpR 5 [u, v] = if bothN u.2.2 v.2.2 = [] then (outO (cmpB 5 u.1 v.1), []) else (3, bothN u.2.2 v.2.2)) := cmp_go f1 f2 (okv_both HO.out.1)
   have f1' : (u.2.1 == 2) = false := by simpa using f1
   have f2' : (v.2.1 == 2) = false := by simpa using f2
   have H40 := z40 u.2.2 v.2.2 _ _ w2 HB2.out.1 HB2.out.2.1 (by omega)
   clear f1 f2 HO
   generalize u.2.1 = uo at *
   generalize v.2.1 = vo at *
   generalize u.1 = a at *
   generalize v.1 = b at *
   go_wp2_with fail
   refine H40.mono ?_
   rintro e w3 ⟨q3, c3, rfl, H3⟩
   have hlb := both_len v.2.2 u.2.2
   have HB3 : Hid (NamesAt w3 (.slice q3 (bothN u.2.2 v.2.2).length c3) (bothN u.2.2 v.2.2) ∧ Below w.heap.size w w3) := ⟨namesAt_of_owns H3.out.1 (by unfold maxLen; omega), HB2.out.2.2.trans (H3.out.2.mono HB2.out.2.2.size)⟩
   clear H3 H40 HB2 hlb hlu hlv
   generalize bothN u.2.2 v.2.2 = B at *
   by_cases hB : B = []
   ·subst hB
    have HE2 : Hid (cmpR 5 [u, v] = (outO (cmpB 5 a b), [])) := by show cmpR 5 [u, v] = _; rw [HE.out, if_pos rfl]
    clear HE
    go_wp2_with fail
    refine (x79 _ _).mono ?_
    rintro e w4 ⟨rfl, hw4⟩
    obtain rfl := hw4
    go_wp2_with fail
    refine bodyPost_ret (v := .tuple #[.int .u8 (outO (cmpB 5 a b)), .slice none 0 0]) (by simp [results, Tryz.results44, go_sem, cmpB]) rfl ?_
    rw [HE2.out]
    exact rg_nil HB3.out.2
   ·have HE2 : Hid (cmpR 5 [u, v] = (3, B)) := by show cmpR 5 [u, v] = _; rw [HE.out, if_neg hB]
    have hB' : 0 < B.length := List.length_pos_iff.2 hB
    have HL : Hid (RgPost (3, B) w (.returned (.tuple #[.int .u8 3, .slice q3 B.length c3])) w3) := ⟨q3, c3, rfl, HB3.out.1, HB3.out.2⟩
    clear HE hB HB3
    generalize B.length = L at *
    go_wp2_with fail
    refine bodyPost_ret (v := .tuple #[.int .u8 3, .slice q3 L c3]) (by simp [results, Tryz.results44, go_sem]) rfl ?_
    rw [HE2.out]
    exact HL.out
set_option maxRecDepth 100000 in
set_option maxHeartbeats 4000000 in
theorem x44_6 (m : Hp) (w0 : World) (p : Option Addr) (hD : DerG w0 p m) (tx : ByteArray) (ht : tx.toList = [61, 92, 61]) (d : Nat) (x y : List C) (u v : V3) (hu : Rs m d x u) (hv : Rs m d y v) (ou : OkV u) (ov : OkV v) (vx vy : Value) (w : World) (hb : Below w0.heap.size w0 w) (hx : TermAt w vx x) (hy : TermAt w vy y) (rx : rightB x = true) (ry : rightB y = true) (wx : ∀ c ∈ x, wfN (c.vn, c.vk)) (wy : ∀ c ∈ y, wfN (c.vn, c.vk)) :
  Calls Tryz.prog 44 #[.pointer p, .string tx, vx, vy] w (RgPost (cmpR 6 [u, v]) w) := by
 have H1 := z36 m w0 p hD.one d x u hu vx w hb hx rx wx
 have H2 : Hid (∀ W, Below w.heap.size w W → Calls Tryz.prog 36 #[.pointer p, vy] W (RvPost v W)) := fun W h => z36 m w0 p hD.one d y v hv vy W (hb.trans (h.mono hb.size)) (hy.below h) ry wy
 have hlu : u.2.2.length ≤ 256 := by
  have h1 := rs_len hu
  have h2 := ((right_iff _).1 rx).2.1
  omega
 have hlv : v.2.2.length ≤ 256 := by
  have h1 := rs_len hv
  have h2 := ((right_iff _).1 ry).2.1
  omega
 have HO : Hid (OkV u ∧ OkV v) := ⟨ou, ov⟩
 obtain ⟨xa, xc, hvx⟩ := hx.form
 obtain ⟨ya, yc, hvy⟩ := hy.form
 subst hvx hvy
 clear hD hu hv hb hx hy rx ry wx wy ou ov
 go_enter Tryz.func44, Tryz.ntmps44
 go_wp2_with fail
 refine H1.mono ?_
 rintro e w1 ⟨q1, c1, rfl, hN1, b1⟩
 have HB1 : Hid (NamesAt w1 (.slice q1 u.2.2.length c1) u.2.2 ∧ Below w.heap.size w w1) := ⟨hN1, b1⟩
 have H3 := H2.out w1 b1
 clear hN1 b1 H1 H2
 go_wp2_with fail
 refine H3.mono ?_
 rintro e w2 ⟨q2, c2, rfl, hN2, b2⟩
 have HB2 : Hid (NamesAt w2 (.slice q1 u.2.2.length c1) u.2.2 ∧ NamesAt w2 (.slice q2 v.2.2.length c2) v.2.2 ∧ Below w.heap.size w w2) := ⟨HB1.out.1.below b2, hN2, HB1.out.2.trans (b2.mono HB1.out.2.size)⟩
 clear hN2 b2 H3 HB1
 by_cases f1 : u.2.1 = 2
 ·have HE : Hid (cmpR 6 [u, v] = (2, [])) := cmp_fail (.inl f1)
  rw [f1]
  clear f1
  go_wp2_with fail
  refine bodyPost_ret (v := .tuple #[.int .u8 2, .slice none 0 0]) (by simp [results, Tryz.results44, go_sem]) rfl ?_
  rw [HE.out]
  exact rg_nil HB2.out.2.2
 ·by_cases f2 : v.2.1 = 2
  ·have HE : Hid (cmpR 6 [u, v] = (2, [])) := cmp_fail (.inr f2)
   have f1' : (u.2.1 == 2) = false := by simpa using f1
   rw [f2]
   clear f1 f2
   generalize u.2.1 = uo at *
   go_wp2_with fail
   refine bodyPost_ret (v := .tuple #[.int .u8 2, .slice none 0 0]) (by simp [results, Tryz.results44, go_sem]) rfl ?_
   rw [HE.out]
   exact rg_nil HB2.out.2.2
  ·have HE : Hid (cmpR 6 [u, v] = if bothN u.2.2 v.2.2 = [] then (outO (cmpB 6 u.1 v.1), []) else (3, bothN u.2.2 v.2.2)) := cmp_go f1 f2 (okv_both HO.out.1)
   have f1' : (u.2.1 == 2) = false := by simpa using f1
   have f2' : (v.2.1 == 2) = false := by simpa using f2
   have H40 := z40 u.2.2 v.2.2 _ _ w2 HB2.out.1 HB2.out.2.1 (by omega)
   clear f1 f2 HO
   generalize u.2.1 = uo at *
   generalize v.2.1 = vo at *
   generalize u.1 = a at *
   generalize v.1 = b at *
   go_wp2_with fail
   refine H40.mono ?_
   rintro e w3 ⟨q3, c3, rfl, H3⟩
   have hlb := both_len v.2.2 u.2.2
   have HB3 : Hid (NamesAt w3 (.slice q3 (bothN u.2.2 v.2.2).length c3) (bothN u.2.2 v.2.2) ∧ Below w.heap.size w w3) := ⟨namesAt_of_owns H3.out.1 (by unfold maxLen; omega), HB2.out.2.2.trans (H3.out.2.mono HB2.out.2.2.size)⟩
   clear H3 H40 HB2 hlb hlu hlv
   generalize bothN u.2.2 v.2.2 = B at *
   by_cases hB : B = []
   ·subst hB
    have HE2 : Hid (cmpR 6 [u, v] = (outO (cmpB 6 a b), [])) := by show cmpR 6 [u, v] = _; rw [HE.out, if_pos rfl]
    clear HE
    go_wp2_with fail
    refine (x79 _ _).mono ?_
    rintro e w4 ⟨rfl, hw4⟩
    obtain rfl := hw4
    go_wp2_with fail
    refine bodyPost_ret (v := .tuple #[.int .u8 (outO (cmpB 6 a b)), .slice none 0 0]) (by simp [results, Tryz.results44, go_sem, cmpB]) rfl ?_
    rw [HE2.out]
    exact rg_nil HB3.out.2
   ·have HE2 : Hid (cmpR 6 [u, v] = (3, B)) := by show cmpR 6 [u, v] = _; rw [HE.out, if_neg hB]
    have hB' : 0 < B.length := List.length_pos_iff.2 hB
    have HL : Hid (RgPost (3, B) w (.returned (.tuple #[.int .u8 3, .slice q3 B.length c3])) w3) := ⟨q3, c3, rfl, HB3.out.1, HB3.out.2⟩
    clear HE hB HB3
    generalize B.length = L at *
    go_wp2_with fail
    refine bodyPost_ret (v := .tuple #[.int .u8 3, .slice q3 L c3]) (by simp [results, Tryz.results44, go_sem]) rfl ?_
    rw [HE2.out]
    exact HL.out
end Go.Proofs.YtaehhophaaipdaaGreatDoor
