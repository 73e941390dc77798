/- Contracts of the document's Is, of the word true, and of its Guard. -/
import Derived.Test.YtaehhophaaipdaaGreatDoorXHg
import Derived.Test.YtaehhophaaipdaaGreatDoorXIg
namespace Go.Proofs.YtaehhophaaipdaaGreatDoor
open Go.RowKit
attribute [local go_sem ↓] Go.wp_at_zero Go.wp_at_succ
theorem isT (c : C) (t : List C) : isB (c :: t) (gT 0) (gA 0) = ((c.t.toList == [116, 114, 117, 101]) && (((c.k == 3) && (c.n == 0)) || (c.k == 2))) := by
 rw [isB_head, show (gT 0).toList = [116, 114, 117, 101] by rw [ByteArray.toList_eq]; rfl]
 simp [gA]
set_option maxRecDepth 100000 in
set_option maxHeartbeats 4000000 in
theorem x41 (c : C) (t : List C) (v : Value) (w : World) (hT : TermAt w v (c :: t)) : Calls Tryz.prog 41 #[v, .string ⟨#[116, 114, 117, 101]⟩, .int .i64 0] w fun e w' => e = .returned (.bool (isB (c :: t) (gT 0) (gA 0))) ∧ w' = w := by
 obtain ⟨b, o, cap, hv, hc, HC⟩ := head_cells hT
 subst hv
 obtain ⟨p0, p1, p2, p3, p4⟩ := HC.out w (Below.refl _ _)
 rw [isT]
 clear hT HC p3 p4
 obtain ⟨k, tx, n, vn, vk⟩ := c
 dsimp only at *
 have hn0 : ¬ ((t.length : Int) + 1 = 0) := by omega
 have hn1 : (((t.length : Int) + 1) == 0) = false := by simpa using hn0
 cases h1 : (tx.toList == [116, 114, 117, 101])
 ·have h2 : (tx.toList != [116, 114, 117, 101]) = true := by rw [bne, h1]; rfl
  go_enter Tryz.func41, Tryz.ntmps41
  go_wp2_with fail
  go_ret
  exact ⟨by simp, rfl⟩
 ·have h2 : (tx.toList != [116, 114, 117, 101]) = false := by rw [bne, h1]; rfl
  by_cases k3 : k = 3
  ·subst k3
   by_cases n0 : n = 0
   ·subst n0
    go_enter Tryz.func41, Tryz.ntmps41
    go_wp2_with fail
    go_ret
    exact ⟨by simp, rfl⟩
   ·have n1 : (n == 0) = false := by simpa using n0
    go_enter Tryz.func41, Tryz.ntmps41
    go_wp2_with fail
    go_ret
    exact ⟨by simp [n0], rfl⟩
  ·have k4 : (k == 3) = false := by simpa using k3
   cases k5 : (k == 2)
   ·go_enter Tryz.func41, Tryz.ntmps41
    go_wp2_with fail
    go_ret
    exact ⟨by simp [k4], rfl⟩
   ·go_enter Tryz.func41, Tryz.ntmps41
    go_wp2_with fail
    go_ret
    exact ⟨by simp [k4], rfl⟩
theorem row_one_of {w : World} {v : Value} {x : List C} (h : RowAt w v [x]) : ∃ b o cap u1, v = .slice (some ⟨b, o, none⟩) 1 cap ∧ 1 ≤ cap ∧ Hid (∀ W, Below w.heap.size w W → W.cell? ⟨b, o, none⟩ = some u1 ∧ TermAt W u1 x) := by
 rcases h.2 with ⟨e, _⟩ | ⟨b, o, cap, vs, rfl, h1, h2, h3, h4, h5, h6⟩
 ·cases e
 ·match vs, h4 with
  | [u1], _ => exact ⟨b, o, cap, u1, rfl, h1, fun W hW => ⟨range_below h5 h3 hW 0 u1 rfl, (h6 0 u1 x rfl rfl).below hW⟩⟩
theorem row_two_of {w : World} {v : Value} {x y : List C} (h : RowAt w v [x, y]) : ∃ b o cap u1 u2, v = .slice (some ⟨b, o, none⟩) 2 cap ∧ 2 ≤ cap ∧ Hid (∀ W, Below w.heap.size w W → W.cell? ⟨b, o, none⟩ = some u1 ∧ W.cell? ⟨b, o + 1, none⟩ = some u2 ∧ TermAt W u1 x ∧ TermAt W u2 y) := by
 rcases h.2 with ⟨e, _⟩ | ⟨b, o, cap, vs, rfl, h1, h2, h3, h4, h5, h6⟩
 ·cases e
 ·match vs, h4 with
  | [u1, u2], _ => exact ⟨b, o, cap, u1, u2, rfl, h1, fun W hW => ⟨range_below h5 h3 hW 0 u1 rfl, range_below h5 h3 hW 1 u2 rfl, (h6 0 u1 x rfl rfl).below hW, (h6 1 u2 y rfl rfl).below hW⟩⟩
set_option maxRecDepth 100000 in
set_option maxHeartbeats 8000000 in
theorem x19_1 (m : Hp) (w0 : World) (p : Option Addr) (c : C) (t : List C) (v : Value) (w : World) (hb : Below w0.heap.size w0 w) (hT : TermAt w v (c :: t)) (hr : rightB (c :: t) = true) (h0 : isB (c :: t) (gT 0) (gA 0) = false) (hD : DerG w0 p m) (x y : List C) (d : Nat) (u z : V3) (ha : argsL (c :: t) = [x, y]) (ht : c.t.toList = [60]) (hu : Rs m d x u) (hz : Rs m d y z) (ou : OkV u) (oz : OkV z) (rx : rightB x = true) (ry : rightB y = true) (wx : ∀ c ∈ x, wfN (c.vn, c.vk)) (wy : ∀ c ∈ y, wfN (c.vn, c.vk)) :
  Calls Tryz.prog 19 #[.pointer p, v] w (RgPost (cmpR 1 [u, z]) w) := by
 have H35 := c23 (c :: t) v w hT
 rw [hr] at H35
 obtain ⟨b, o, cap, hv, hc, HC⟩ := head_cells hT
 subst hv
 have HT : Hid (TermAt w (.slice (some ⟨b, o, none⟩) (t.length + 1) cap) (c :: t) ∧ Below w0.heap.size w0 w) := ⟨hT, hb⟩
 clear hT hb hr
 go_enter Tryz.func19, Tryz.ntmps19
 go_wp2_with fail
 refine H35.mono ?_
 rintro e w1 ⟨rfl, b1⟩
 have HB1 : Hid (Below w.heap.size w w1) := b1
 clear b1 H35
 have H41 := x41 c t _ w1 (HT.out.1.below HB1.out)
 rw [h0] at H41
 clear h0
 go_wp2_with fail
 refine H41.mono ?_
 rintro e w1' ⟨rfl, hw1⟩
 obtain rfl := hw1.symm
 clear H41
 have H42 := c27 (c :: t) _ w1 (HT.out.1.below HB1.out)
 rw [ha] at H42
 clear ha
 go_wp2_with fail
 refine H42.mono ?_
 rintro e w2 ⟨ul, rfl, hrow, b2⟩
 have HB2 : Hid (Below w.heap.size w w2) := HB1.out.trans (b2.mono HB1.out.size)
 clear b2 H42 HB1
 obtain ⟨rb, ro, rc, u1, u2, rfl, hrc, HR⟩ := row_two_of hrow
 clear hrow
 obtain ⟨_, p1, _, _, _⟩ := HC.out w2 HB2.out
 obtain ⟨r0, r1, _, _⟩ := HR.out w2 (Below.refl _ _)
 obtain ⟨⟨o3, n3⟩, hU⟩ : ∃ U, cmpR 1 [u, z] = U := ⟨_, rfl⟩
 have HF : Hid (∀ W, Below w2.heap.size w2 W → Calls Tryz.prog 44 #[.pointer p, .string c.t, u1, u2] W (RgPost (o3, n3) W)) := fun W hW => by
  obtain ⟨_, _, t1, t2⟩ := HR.out W hW
  rw [← hU]
  exact x44_1 m w0 p hD c.t ht d x y u z hu hz ou oz u1 u2 W (HT.out.2.trans ((HB2.out.trans (hW.mono HB2.out.size)).mono HT.out.2.size)) t1 t2 rx ry wx wy
 have HU : Hid (cmpR 1 [u, z] = (o3, n3)) := hU
 clear hU hu hz ou oz rx ry wx wy hD HR HC
 generalize c.t = tx at *
 go_wp2_with fail
 go_region_with (go_at_call 44; refine (HF.out _ (Below.drew (Below.refl _ _))).mono ?_; rintro e w3 ⟨q3, c3, rfl, hN3, b3⟩)
 all_goals (
  have HZ : Hid (RgPost (o3, n3) w (.returned (.tuple #[.int .u8 o3, .slice q3 n3.length c3])) w3) := by
   have h1 := (Below.drew (Below.refl w2.heap.size w2)).trans (b3.mono (Nat.le_refl _))
   exact ⟨q3, c3, rfl, hN3, HB2.out.trans (h1.mono HB2.out.size)⟩
  clear hN3 b3
  go_wp2_with fail
  refine bodyPost_ret (v := .tuple #[.int .u8 o3, .slice q3 n3.length c3]) (by simp [results, Tryz.results19, go_sem]) rfl ?_
  rw [HU.out]
  exact HZ.out)
set_option maxRecDepth 100000 in
set_option maxHeartbeats 8000000 in
theorem x19_2 (m : Hp) (w0 : World) (p : Option Addr) (c : C) (t : List C) (v : Value) (w : World) (hb : Below w0.heap.size w0 w) (hT : TermAt w v (c :: t)) (hr : rightB (c :: t) = true) (h0 : isB (c :: t) (gT 0) (gA 0) = false) (hD : DerG w0 p m) (x y : List C) (d : Nat) (u z : V3) (ha : argsL (c :: t) = [x, y]) (ht : c.t.toList = [61, 60]) (hu : Rs m d x u) (hz : Rs m d y z) (ou : OkV u) (oz : OkV z) (rx : rightB x = true) (ry : rightB y = true) (wx : ∀ c ∈ x, wfN (c.vn, c.vk)) (wy : ∀ c ∈ y, wfN (c.vn, c.vk)) :
  Calls Tryz.prog 19 #[.pointer p, v] w (RgPost (cmpR 2 [u, z]) w) := by
 have H35 := c23 (c :: t) v w hT
 rw [hr] at H35
 obtain ⟨b, o, cap, hv, hc, HC⟩ := head_cells hT
 subst hv
 have HT : Hid (TermAt w (.slice (some ⟨b, o, none⟩) (t.length + 1) cap) (c :: t) ∧ Below w0.heap.size w0 w) := ⟨hT, hb⟩
 clear hT hb hr
 go_enter Tryz.func19, Tryz.ntmps19
 go_wp2_with fail
 refine H35.mono ?_
 rintro e w1 ⟨rfl, b1⟩
 have HB1 : Hid (Below w.heap.size w w1) := b1
 clear b1 H35
 have H41 := x41 c t _ w1 (HT.out.1.below HB1.out)
 rw [h0] at H41
 clear h0
 go_wp2_with fail
 refine H41.mono ?_
 rintro e w1' ⟨rfl, hw1⟩
 obtain rfl := hw1.symm
 clear H41
 have H42 := c27 (c :: t) _ w1 (HT.out.1.below HB1.out)
 rw [ha] at H42
 clear ha
 go_wp2_with fail
 refine H42.mono ?_
 rintro e w2 ⟨ul, rfl, hrow, b2⟩
 have HB2 : Hid (Below w.heap.size w w2) := HB1.out.trans (b2.mono HB1.out.size)
 clear b2 H42 HB1
 obtain ⟨rb, ro, rc, u1, u2, rfl, hrc, HR⟩ := row_two_of hrow
 clear hrow
 obtain ⟨_, p1, _, _, _⟩ := HC.out w2 HB2.out
 obtain ⟨r0, r1, _, _⟩ := HR.out w2 (Below.refl _ _)
 obtain ⟨⟨o3, n3⟩, hU⟩ : ∃ U, cmpR 2 [u, z] = U := ⟨_, rfl⟩
 have HF : Hid (∀ W, Below w2.heap.size w2 W → Calls Tryz.prog 44 #[.pointer p, .string c.t, u1, u2] W (RgPost (o3, n3) W)) := fun W hW => by
  obtain ⟨_, _, t1, t2⟩ := HR.out W hW
  rw [← hU]
  exact x44_2 m w0 p hD c.t ht d x y u z hu hz ou oz u1 u2 W (HT.out.2.trans ((HB2.out.trans (hW.mono HB2.out.size)).mono HT.out.2.size)) t1 t2 rx ry wx wy
 have HU : Hid (cmpR 2 [u, z] = (o3, n3)) := hU
 clear hU hu hz ou oz rx ry wx wy hD HR HC
 generalize c.t = tx at *
 go_wp2_with fail
 go_region_with (go_at_call 44; refine (HF.out _ (Below.drew (Below.refl _ _))).mono ?_; rintro e w3 ⟨q3, c3, rfl, hN3, b3⟩)
 all_goals (
  have HZ : Hid (RgPost (o3, n3) w (.returned (.tuple #[.int .u8 o3, .slice q3 n3.length c3])) w3) := by
   have h1 := (Below.drew (Below.refl w2.heap.size w2)).trans (b3.mono (Nat.le_refl _))
   exact ⟨q3, c3, rfl, hN3, HB2.out.trans (h1.mono HB2.out.size)⟩
  clear hN3 b3
  go_wp2_with fail
  refine bodyPost_ret (v := .tuple #[.int .u8 o3, .slice q3 n3.length c3]) (by simp [results, Tryz.results19, go_sem]) rfl ?_
  rw [HU.out]
  exact HZ.out)
set_option maxRecDepth 100000 in
set_option maxHeartbeats 8000000 in
theorem x19_3 (m : Hp) (w0 : World) (p : Option Addr) (c : C) (t : List C) (v : Value) (w : World) (hb : Below w0.heap.size w0 w) (hT : TermAt w v (c :: t)) (hr : rightB (c :: t) = true) (h0 : isB (c :: t) (gT 0) (gA 0) = false) (hD : DerG w0 p m) (x y : List C) (d : Nat) (u z : V3) (ha : argsL (c :: t) = [x, y]) (ht : c.t.toList = [62]) (hu : Rs m d x u) (hz : Rs m d y z) (ou : OkV u) (oz : OkV z) (rx : rightB x = true) (ry : rightB y = true) (wx : ∀ c ∈ x, wfN (c.vn, c.vk)) (wy : ∀ c ∈ y, wfN (c.vn, c.vk)) :
  Calls Tryz.prog 19 #[.pointer p, v] w (RgPost (cmpR 3 [u, z]) w) := by
 have H35 := c23 (c :: t) v w hT
 rw [hr] at H35
 obtain ⟨b, o, cap, hv, hc, HC⟩ := head_cells hT
 subst hv
 have HT : Hid (TermAt w (.slice (some ⟨b, o, none⟩) (t.length + 1) cap) (c :: t) ∧ Below w0.heap.size w0 w) := ⟨hT, hb⟩
 clear hT hb hr
 go_enter Tryz.func19, Tryz.ntmps19
 go_wp2_with fail
 refine H35.mono ?_
 rintro e w1 ⟨rfl, b1⟩
 have HB1 : Hid (Below w.heap.size w w1) := b1
 clear b1 H35
 have H41 := x41 c t _ w1 (HT.out.1.below HB1.out)
 rw [h0] at H41
 clear h0
 go_wp2_with fail
 refine H41.mono ?_
 rintro e w1' ⟨rfl, hw1⟩
 obtain rfl := hw1.symm
 clear H41
 have H42 := c27 (c :: t) _ w1 (HT.out.1.below HB1.out)
 rw [ha] at H42
 clear ha
 go_wp2_with fail
 refine H42.mono ?_
 rintro e w2 ⟨ul, rfl, hrow, b2⟩
 have HB2 : Hid (Below w.heap.size w w2) := HB1.out.trans (b2.mono HB1.out.size)
 clear b2 H42 HB1
 obtain ⟨rb, ro, rc, u1, u2, rfl, hrc, HR⟩ := row_two_of hrow
 clear hrow
 obtain ⟨_, p1, _, _, _⟩ := HC.out w2 HB2.out
 obtain ⟨r0, r1, _, _⟩ := HR.out w2 (Below.refl _ _)
 obtain ⟨⟨o3, n3⟩, hU⟩ : ∃ U, cmpR 3 [u, z] = U := ⟨_, rfl⟩
 have HF : Hid (∀ W, Below w2.heap.size w2 W → Calls Tryz.prog 44 #[.pointer p, .string c.t, u1, u2] W (RgPost (o3, n3) W)) := fun W hW => by
  obtain ⟨_, _, t1, t2⟩ := HR.out W hW
  rw [← hU]
  exact x44_3 m w0 p hD c.t ht d x y u z hu hz ou oz u1 u2 W (HT.out.2.trans ((HB2.out.trans (hW.mono HB2.out.size)).mono HT.out.2.size)) t1 t2 rx ry wx wy
 have HU : Hid (cmpR 3 [u, z] = (o3, n3)) := hU
 clear hU hu hz ou oz rx ry wx wy hD HR HC
 generalize c.t = tx at *
 go_wp2_with fail
 go_region_with (go_at_call 44; refine (HF.out _ (Below.drew (Below.refl _ _))).mono ?_; rintro e w3 ⟨q3, c3, rfl, hN3, b3⟩)
 all_goals (
  have HZ : Hid (RgPost (o3, n3) w (.returned (.tuple #[.int .u8 o3, .slice q3 n3.length c3])) w3) := by
   have h1 := (Below.drew (Below.refl w2.heap.size w2)).trans (b3.mono (Nat.le_refl _))
   exact ⟨q3, c3, rfl, hN3, HB2.out.trans (h1.mono HB2.out.size)⟩
  clear hN3 b3
  go_wp2_with fail
  refine bodyPost_ret (v := .tuple #[.int .u8 o3, .slice q3 n3.length c3]) (by simp [results, Tryz.results19, go_sem]) rfl ?_
  rw [HU.out]
  exact HZ.out)
set_option maxRecDepth 100000 in
set_option maxHeartbeats 8000000 in
theorem x19_4 (m : Hp) (w0 : World) (p : Option Addr) (c : C) (t : List C) (v : Value) (w : World) (hb : Below w0.heap.size w0 w) (hT : TermAt w v (c :: t)) (hr : rightB (c :: t) = true) (h0 : isB (c :: t) (gT 0) (gA 0) = false) (hD : DerG w0 p m) (x y : List C) (d : Nat) (u z : V3) (ha : argsL (c :: t) = [x, y]) (ht : c.t.toList = [62, 61]) (hu : Rs m d x u) (hz : Rs m d y z) (ou : OkV u) (oz : OkV z) (rx : rightB x = true) (ry : rightB y = true) (wx : ∀ c ∈ x, wfN (c.vn, c.vk)) (wy : ∀ c ∈ y, wfN (c.vn, c.vk)) :
  Calls Tryz.prog 19 #[.pointer p, v] w (RgPost (cmpR 4 [u, z]) w) := by
 have H35 := c23 (c :: t) v w hT
 rw [hr] at H35
 obtain ⟨b, o, cap, hv, hc, HC⟩ := head_cells hT
 subst hv
 have HT : Hid (TermAt w (.slice (some ⟨b, o, none⟩) (t.length + 1) cap) (c :: t) ∧ Below w0.heap.size w0 w) := ⟨hT, hb⟩
 clear hT hb hr
 go_enter Tryz.func19, Tryz.ntmps19
 go_wp2_with fail
 refine H35.mono ?_
 rintro e w1 ⟨rfl, b1⟩
 have HB1 : Hid (Below w.heap.size w w1) := b1
 clear b1 H35
 have H41 := x41 c t _ w1 (HT.out.1.below HB1.out)
 rw [h0] at H41
 clear h0
 go_wp2_with fail
 refine H41.mono ?_
 rintro e w1' ⟨rfl, hw1⟩
 obtain rfl := hw1.symm
 clear H41
 have H42 := c27 (c :: t) _ w1 (HT.out.1.below HB1.out)
 rw [ha] at H42
 clear ha
 go_wp2_with fail
 refine H42.mono ?_
 rintro e w2 ⟨ul, rfl, hrow, b2⟩
 have HB2 : Hid (Below w.heap.size w w2) := HB1.out.trans (b2.mono HB1.out.size)
 clear b2 H42 HB1
 obtain ⟨rb, ro, rc, u1, u2, rfl, hrc, HR⟩ := row_two_of hrow
 clear hrow
 obtain ⟨_, p1, _, _, _⟩ := HC.out w2 HB2.out
 obtain ⟨r0, r1, _, _⟩ := HR.out w2 (Below.refl _ _)
 obtain ⟨⟨o3, n3⟩, hU⟩ : ∃ U, cmpR 4 [u, z] = U := ⟨_, rfl⟩
 have HF : Hid (∀ W, Below w2.heap.size w2 W → Calls Tryz.prog 44 #[.pointer p, .string c.t, u1, u2] W (RgPost (o3, n3) W)) := fun W hW => by
  obtain ⟨_, _, t1, t2⟩ := HR.out W hW
  rw [← hU]
  exact x44_4 m w0 p hD c.t ht d x y u z hu hz ou oz u1 u2 W (HT.out.2.trans ((HB2.out.trans (hW.mono HB2.out.size)).mono HT.out.2.size)) t1 t2 rx ry wx wy
 have HU : Hid (cmpR 4 [u, z] = (o3, n3)) := hU
 clear hU hu hz ou oz rx ry wx wy hD HR HC
 generalize c.t = tx at *
 go_wp2_with fail
 go_region_with (go_at_call 44; refine (HF.out _ (Below.drew (Below.refl _ _))).mono ?_; rintro e w3 ⟨q3, c3, rfl, hN3, b3⟩)
 all_goals (
  have HZ : Hid (RgPost (o3, n3) w (.returned (.tuple #[.int .u8 o3, .slice q3 n3.length c3])) w3) := by
   have h1 := (Below.drew (Below.refl w2.heap.size w2)).trans (b3.mono (Nat.le_refl _))
   exact ⟨q3, c3, rfl, hN3, HB2.out.trans (h1.mono HB2.out.size)⟩
  clear hN3 b3
  go_wp2_with fail
  refine bodyPost_ret (v := .tuple #[.int .u8 o3, .slice q3 n3.length c3]) (by simp [results, Tryz.results19, go_sem]) rfl ?_
  rw [HU.out]
  exact HZ.out)
set_option maxRecDepth 100000 in
set_option maxHeartbeats 8000000 in
theorem x19_5 (m : Hp) (w0 : World) (p : Option Addr) (c : C) (t : List C) (v : Value) (w : World) (hb : Below w0.heap.size w0 w) (hT : TermAt w v (c :: t)) (hr : rightB (c :: t) = true) (h0 : isB (c :: t) (gT 0) (gA 0) = false) (hD : DerG w0 p m) (x y : List C) (d : Nat) (u z : V3) (ha : argsL (c :: t) = [x, y]) (ht : c.t.toList = [61, 58, 61]) (hu : Rs m d x u) (hz : Rs m d y z) (ou : OkV u) (oz : OkV z) (rx : rightB x = true) (ry : rightB y = true) (wx : ∀ c ∈ x, wfN (c.vn, c.vk)) (wy : ∀ c ∈ y, wfN (c.vn, c.vk)) :
  Calls Tryz.prog 19 #[.pointer p, v] w (RgPost (cmpR 5 [u, z]) w) := by
 have H35 := c23 (c :: t) v w hT
 rw [hr] at H35
 obtain ⟨b, o, cap, hv, hc, HC⟩ := head_cells hT
 subst hv
 have HT : Hid (TermAt w (.slice (some ⟨b, o, none⟩) (t.length + 1) cap) (c :: t) ∧ Below w0.heap.size w0 w) := ⟨hT, hb⟩
 clear hT hb hr
 go_enter Tryz.func19, Tryz.ntmps19
 go_wp2_with fail
 refine H35.mono ?_
 rintro e w1 ⟨rfl, b1⟩
 have HB1 : Hid (Below w.heap.size w w1) := b1
 clear b1 H35
 have H41 := x41 c t _ w1 (HT.out.1.below HB1.out)
 rw [h0] at H41
 clear h0
 go_wp2_with fail
 refine H41.mono ?_
 rintro e w1' ⟨rfl, hw1⟩
 obtain rfl := hw1.symm
 clear H41
 have H42 := c27 (c :: t) _ w1 (HT.out.1.below HB1.out)
 rw [ha] at H42
 clear ha
 go_wp2_with fail
 refine H42.mono ?_
 rintro e w2 ⟨ul, rfl, hrow, b2⟩
 have HB2 : Hid (Below w.heap.size w w2) := HB1.out.trans (b2.mono HB1.out.size)
 clear b2 H42 HB1
 obtain ⟨rb, ro, rc, u1, u2, rfl, hrc, HR⟩ := row_two_of hrow
 clear hrow
 obtain ⟨_, p1, _, _, _⟩ := HC.out w2 HB2.out
 obtain ⟨r0, r1, _, _⟩ := HR.out w2 (Below.refl _ _)
 obtain ⟨⟨o3, n3⟩, hU⟩ : ∃ U, cmpR 5 [u, z] = U := ⟨_, rfl⟩
 have HF : Hid (∀ W, Below w2.heap.size w2 W → Calls Tryz.prog 44 #[.pointer p, .string c.t, u1, u2] W (RgPost (o3, n3) W)) := fun W hW => by
  obtain ⟨_, _, t1, t2⟩ := HR.out W hW
  rw [← hU]
  exact x44_5 m w0 p hD c.t ht d x y u z hu hz ou oz u1 u2 W (HT.out.2.trans ((HB2.out.trans (hW.mono HB2.out.size)).mono HT.out.2.size)) t1 t2 rx ry wx wy
 have HU : Hid (cmpR 5 [u, z] = (o3, n3)) := hU
 clear hU hu hz ou oz rx ry wx wy hD HR HC
 generalize c.t = tx at *
 go_wp2_with fail
 go_region_with (go_at_call 44; refine (HF.out _ (Below.drew (Below.refl _ _))).mono ?_; rintro e w3 ⟨q3, c3, rfl, hN3, b3⟩)
 all_goals (
  have HZ : Hid (RgPost (o3, n3) w (.returned (.tuple #[.int .u8 o3, .slice q3 n3.length c3])) w3) := by
   have h1 := (Below.drew (Below.refl w2.heap.size w2)).trans (b3.mono (Nat.le_refl _))
   exact ⟨q3, c3, rfl, hN3, HB2.out.trans (h1.mono HB2.out.size)⟩
  clear hN3 b3
  go_wp2_with fail
  refine bodyPost_ret (v := .tuple #[.int .u8 o3, .slice q3 n3.length c3]) (by simp [results, Tryz.results19, go_sem]) rfl ?_
  rw [HU.out]
  exact HZ.out)
set_option maxRecDepth 100000 in
set_option maxHeartbeats 8000000 in
theorem x19_6 (m : Hp) (w0 : World) (p : Option Addr) (c : C) (t : List C) (v : Value) (w : World) (hb : Below w0.heap.size w0 w) (hT : TermAt w v (c :: t)) (hr : rightB (c :: t) = true) (h0 : isB (c :: t) (gT 0) (gA 0) = false) (hD : DerG w0 p m) (x y : List C) (d : Nat) (u z : V3) (ha : argsL (c :: t) = [x, y]) (ht : c.t.toList = [61, 92, 61]) (hu : Rs m d x u) (hz : Rs m d y z) (ou : OkV u) (oz : OkV z) (rx : rightB x = true) (ry : rightB y = true) (wx : ∀ c ∈ x, wfN (c.vn, c.vk)) (wy : ∀ c ∈ y, wfN (c.vn, c.vk)) :
  Calls Tryz.prog 19 #[.pointer p, v] w (RgPost (cmpR 6 [u, z]) w) := by
 have H35 := c23 (c :: t) v w hT
 rw [hr] at H35
 obtain ⟨b, o, cap, hv, hc, HC⟩ := head_cells hT
 subst hv
 have HT : Hid (TermAt w (.slice (some ⟨b, o, none⟩) (t.length + 1) cap) (c :: t) ∧ Below w0.heap.size w0 w) := ⟨hT, hb⟩
 clear hT hb hr
 go_enter Tryz.func19, Tryz.ntmps19
 go_wp2_with fail
 refine H35.mono ?_
 rintro e w1 ⟨rfl, b1⟩
 have HB1 : Hid (Below w.heap.size w w1) := b1
 clear b1 H35
 have H41 := x41 c t _ w1 (HT.out.1.below HB1.out)
 rw [h0] at H41
 clear h0
 go_wp2_with fail
 refine H41.mono ?_
 rintro e w1' ⟨rfl, hw1⟩
 obtain rfl := hw1.symm
 clear H41
 have H42 := c27 (c :: t) _ w1 (HT.out.1.below HB1.out)
 rw [ha] at H42
 clear ha
 go_wp2_with fail
 refine H42.mono ?_
 rintro e w2 ⟨ul, rfl, hrow, b2⟩
 have HB2 : Hid (Below w.heap.size w w2) := HB1.out.trans (b2.mono HB1.out.size)
 clear b2 H42 HB1
 obtain ⟨rb, ro, rc, u1, u2, rfl, hrc, HR⟩ := row_two_of hrow
 clear hrow
 obtain ⟨_, p1, _, _, _⟩ := HC.out w2 HB2.out
 obtain ⟨r0, r1, _, _⟩ := HR.out w2 (Below.refl _ _)
 obtain ⟨⟨o3, n3⟩, hU⟩ : ∃ U, cmpR 6 [u, z] = U := ⟨_, rfl⟩
 have HF : Hid (∀ W, Below w2.heap.size w2 W → Calls Tryz.prog 44 #[.pointer p, .string c.t, u1, u2] W (RgPost (o3, n3) W)) := fun W hW => by
  obtain ⟨_, _, t1, t2⟩ := HR.out W hW
  rw [← hU]
  exact x44_6 m w0 p hD c.t ht d x y u z hu hz ou oz u1 u2 W (HT.out.2.trans ((HB2.out.trans (hW.mono HB2.out.size)).mono HT.out.2.size)) t1 t2 rx ry wx wy
 have HU : Hid (cmpR 6 [u, z] = (o3, n3)) := hU
 clear hU hu hz ou oz rx ry wx wy hD HR HC
 generalize c.t = tx at *
 go_wp2_with fail
 go_region_with (go_at_call 44; refine (HF.out _ (Below.drew (Below.refl _ _))).mono ?_; rintro e w3 ⟨q3, c3, rfl, hN3, b3⟩)
 all_goals (
  have HZ : Hid (RgPost (o3, n3) w (.returned (.tuple #[.int .u8 o3, .slice q3 n3.length c3])) w3) := by
   have h1 := (Below.drew (Below.refl w2.heap.size w2)).trans (b3.mono (Nat.le_refl _))
   exact ⟨q3, c3, rfl, hN3, HB2.out.trans (h1.mono HB2.out.size)⟩
  clear hN3 b3
  go_wp2_with fail
  refine bodyPost_ret (v := .tuple #[.int .u8 o3, .slice q3 n3.length c3]) (by simp [results, Tryz.results19, go_sem]) rfl ?_
  rw [HU.out]
  exact HZ.out)
set_option maxRecDepth 100000 in
set_option maxHeartbeats 8000000 in
theorem x19_7 (m : Hp) (w0 : World) (p : Option Addr) (c : C) (t : List C) (v : Value) (w : World) (hb : Below w0.heap.size w0 w) (hT : TermAt w v (c :: t)) (hr : rightB (c :: t) = true) (h0 : isB (c :: t) (gT 0) (gA 0) = false) (hD : DerG w0 p m) (x : List C) (e0 : C) (r : List C) (ha : argsL (c :: t) = [x]) (ht : c.t.toList = [105, 110, 116, 101, 103, 101, 114]) (hf : IsFol m x (e0 :: r)) (wx : ∀ c ∈ x, wfN (c.vn, c.vk)) (nx : x ≠ []) :
  Calls Tryz.prog 19 #[.pointer p, v] w (RgPost (askR 7 e0) w) := by
 have H35 := c23 (c :: t) v w hT
 rw [hr] at H35
 obtain ⟨b, o, cap, hv, hc, HC⟩ := head_cells hT
 subst hv
 have HT : Hid (TermAt w (.slice (some ⟨b, o, none⟩) (t.length + 1) cap) (c :: t) ∧ Below w0.heap.size w0 w) := ⟨hT, hb⟩
 clear hT hb hr
 go_enter Tryz.func19, Tryz.ntmps19
 go_wp2_with fail
 refine H35.mono ?_
 rintro e w1 ⟨rfl, b1⟩
 have HB1 : Hid (Below w.heap.size w w1) := b1
 clear b1 H35
 have H41 := x41 c t _ w1 (HT.out.1.below HB1.out)
 rw [h0] at H41
 clear h0
 go_wp2_with fail
 refine H41.mono ?_
 rintro e w1' ⟨rfl, hw1⟩
 obtain rfl := hw1.symm
 clear H41
 have H42 := c27 (c :: t) _ w1 (HT.out.1.below HB1.out)
 rw [ha] at H42
 clear ha
 go_wp2_with fail
 refine H42.mono ?_
 rintro e w2 ⟨ul, rfl, hrow, b2⟩
 have HB2 : Hid (Below w.heap.size w w2) := HB1.out.trans (b2.mono HB1.out.size)
 clear b2 H42 HB1
 obtain ⟨rb, ro, rc, u1, rfl, hrc, HR⟩ := row_one_of hrow
 clear hrow
 obtain ⟨_, p1, _, _, _⟩ := HC.out w2 HB2.out
 obtain ⟨r0, _⟩ := HR.out w2 (Below.refl _ _)
 obtain ⟨⟨o3, n3⟩, hU⟩ : ∃ U, askR 7 e0 = U := ⟨_, rfl⟩
 have HF : Hid (∀ W, Below w2.heap.size w2 W → Calls Tryz.prog 43 #[.pointer p, .string c.t, u1] W (RgPost (o3, n3) W)) := fun W hW => by
  obtain ⟨_, t1⟩ := HR.out W hW
  rw [← hU]
  exact x43_7 m w0 p hD c.t ht x e0 r u1 W (HT.out.2.trans ((HB2.out.trans (hW.mono HB2.out.size)).mono HT.out.2.size)) hf t1 wx nx
 have HU : Hid (askR 7 e0 = (o3, n3)) := hU
 clear hU hf wx nx hD HR HC
 generalize c.t = tx at *
 go_wp2_with fail
 go_region_with (go_at_call 43; refine (HF.out _ (Below.drew (Below.refl _ _))).mono ?_; rintro e w3 ⟨q3, c3, rfl, hN3, b3⟩)
 all_goals (
  have HZ : Hid (RgPost (o3, n3) w (.returned (.tuple #[.int .u8 o3, .slice q3 n3.length c3])) w3) := by
   have h1 := (Below.drew (Below.refl w2.heap.size w2)).trans (b3.mono (Nat.le_refl _))
   exact ⟨q3, c3, rfl, hN3, HB2.out.trans (h1.mono HB2.out.size)⟩
  clear hN3 b3
  go_wp2_with fail
  refine bodyPost_ret (v := .tuple #[.int .u8 o3, .slice q3 n3.length c3]) (by simp [results, Tryz.results19, go_sem]) rfl ?_
  rw [HU.out]
  exact HZ.out)
set_option maxRecDepth 100000 in
set_option maxHeartbeats 8000000 in
theorem x19_8 (m : Hp) (w0 : World) (p : Option Addr) (c : C) (t : List C) (v : Value) (w : World) (hb : Below w0.heap.size w0 w) (hT : TermAt w v (c :: t)) (hr : rightB (c :: t) = true) (h0 : isB (c :: t) (gT 0) (gA 0) = false) (hD : DerG w0 p m) (x : List C) (e0 : C) (r : List C) (ha : argsL (c :: t) = [x]) (ht : c.t.toList = [97, 116, 111, 109]) (hf : IsFol m x (e0 :: r)) (wx : ∀ c ∈ x, wfN (c.vn, c.vk)) (nx : x ≠ []) :
  Calls Tryz.prog 19 #[.pointer p, v] w (RgPost (askR 8 e0) w) := by
 have H35 := c23 (c :: t) v w hT
 rw [hr] at H35
 obtain ⟨b, o, cap, hv, hc, HC⟩ := head_cells hT
 subst hv
 have HT : Hid (TermAt w (.slice (some ⟨b, o, none⟩) (t.length + 1) cap) (c :: t) ∧ Below w0.heap.size w0 w) := ⟨hT, hb⟩
 clear hT hb hr
 go_enter Tryz.func19, Tryz.ntmps19
 go_wp2_with fail
 refine H35.mono ?_
 rintro e w1 ⟨rfl, b1⟩
 have HB1 : Hid (Below w.heap.size w w1) := b1
 clear b1 H35
 have H41 := x41 c t _ w1 (HT.out.1.below HB1.out)
 rw [h0] at H41
 clear h0
 go_wp2_with fail
 refine H41.mono ?_
 rintro e w1' ⟨rfl, hw1⟩
 obtain rfl := hw1.symm
 clear H41
 have H42 := c27 (c :: t) _ w1 (HT.out.1.below HB1.out)
 rw [ha] at H42
 clear ha
 go_wp2_with fail
 refine H42.mono ?_
 rintro e w2 ⟨ul, rfl, hrow, b2⟩
 have HB2 : Hid (Below w.heap.size w w2) := HB1.out.trans (b2.mono HB1.out.size)
 clear b2 H42 HB1
 obtain ⟨rb, ro, rc, u1, rfl, hrc, HR⟩ := row_one_of hrow
 clear hrow
 obtain ⟨_, p1, _, _, _⟩ := HC.out w2 HB2.out
 obtain ⟨r0, _⟩ := HR.out w2 (Below.refl _ _)
 obtain ⟨⟨o3, n3⟩, hU⟩ : ∃ U, askR 8 e0 = U := ⟨_, rfl⟩
 have HF : Hid (∀ W, Below w2.heap.size w2 W → Calls Tryz.prog 43 #[.pointer p, .string c.t, u1] W (RgPost (o3, n3) W)) := fun W hW => by
  obtain ⟨_, t1⟩ := HR.out W hW
  rw [← hU]
  exact x43_8 m w0 p hD c.t ht x e0 r u1 W (HT.out.2.trans ((HB2.out.trans (hW.mono HB2.out.size)).mono HT.out.2.size)) hf t1 wx nx
 have HU : Hid (askR 8 e0 = (o3, n3)) := hU
 clear hU hf wx nx hD HR HC
 generalize c.t = tx at *
 go_wp2_with fail
 go_region_with (go_at_call 43; refine (HF.out _ (Below.drew (Below.refl _ _))).mono ?_; rintro e w3 ⟨q3, c3, rfl, hN3, b3⟩)
 all_goals (
  have HZ : Hid (RgPost (o3, n3) w (.returned (.tuple #[.int .u8 o3, .slice q3 n3.length c3])) w3) := by
   have h1 := (Below.drew (Below.refl w2.heap.size w2)).trans (b3.mono (Nat.le_refl _))
   exact ⟨q3, c3, rfl, hN3, HB2.out.trans (h1.mono HB2.out.size)⟩
  clear hN3 b3
  go_wp2_with fail
  refine bodyPost_ret (v := .tuple #[.int .u8 o3, .slice q3 n3.length c3]) (by simp [results, Tryz.results19, go_sem]) rfl ?_
  rw [HU.out]
  exact HZ.out)
set_option maxRecDepth 100000 in
set_option maxHeartbeats 8000000 in
theorem x19_9 (m : Hp) (w0 : World) (p : Option Addr) (c : C) (t : List C) (v : Value) (w : World) (hb : Below w0.heap.size w0 w) (hT : TermAt w v (c :: t)) (hr : rightB (c :: t) = true) (h0 : isB (c :: t) (gT 0) (gA 0) = false) (hD : DerG w0 p m) (x : List C) (e0 : C) (r : List C) (ha : argsL (c :: t) = [x]) (ht : c.t.toList = [99, 111, 109, 112, 111, 117, 110, 100]) (hf : IsFol m x (e0 :: r)) (wx : ∀ c ∈ x, wfN (c.vn, c.vk)) (nx : x ≠ []) :
  Calls Tryz.prog 19 #[.pointer p, v] w (RgPost (askR 9 e0) w) := by
 have H35 := c23 (c :: t) v w hT
 rw [hr] at H35
 obtain ⟨b, o, cap, hv, hc, HC⟩ := head_cells hT
 subst hv
 have HT : Hid (TermAt w (.slice (some ⟨b, o, none⟩) (t.length + 1) cap) (c :: t) ∧ Below w0.heap.size w0 w) := ⟨hT, hb⟩
 clear hT hb hr
 go_enter Tryz.func19, Tryz.ntmps19
 go_wp2_with fail
 refine H35.mono ?_
 rintro e w1 ⟨rfl, b1⟩
 have HB1 : Hid (Below w.heap.size w w1) := b1
 clear b1 H35
 have H41 := x41 c t _ w1 (HT.out.1.below HB1.out)
 rw [h0] at H41
 clear h0
 go_wp2_with fail
 refine H41.mono ?_
 rintro e w1' ⟨rfl, hw1⟩
 obtain rfl := hw1.symm
 clear H41
 have H42 := c27 (c :: t) _ w1 (HT.out.1.below HB1.out)
 rw [ha] at H42
 clear ha
 go_wp2_with fail
 refine H42.mono ?_
 rintro e w2 ⟨ul, rfl, hrow, b2⟩
 have HB2 : Hid (Below w.heap.size w w2) := HB1.out.trans (b2.mono HB1.out.size)
 clear b2 H42 HB1
 obtain ⟨rb, ro, rc, u1, rfl, hrc, HR⟩ := row_one_of hrow
 clear hrow
 obtain ⟨_, p1, _, _, _⟩ := HC.out w2 HB2.out
 obtain ⟨r0, _⟩ := HR.out w2 (Below.refl _ _)
 obtain ⟨⟨o3, n3⟩, hU⟩ : ∃ U, askR 9 e0 = U := ⟨_, rfl⟩
 have HF : Hid (∀ W, Below w2.heap.size w2 W → Calls Tryz.prog 43 #[.pointer p, .string c.t, u1] W (RgPost (o3, n3) W)) := fun W hW => by
  obtain ⟨_, t1⟩ := HR.out W hW
  rw [← hU]
  exact x43_9 m w0 p hD c.t ht x e0 r u1 W (HT.out.2.trans ((HB2.out.trans (hW.mono HB2.out.size)).mono HT.out.2.size)) hf t1 wx nx
 have HU : Hid (askR 9 e0 = (o3, n3)) := hU
 clear hU hf wx nx hD HR HC
 generalize c.t = tx at *
 go_wp2_with fail
 go_region_with (go_at_call 43; refine (HF.out _ (Below.drew (Below.refl _ _))).mono ?_; rintro e w3 ⟨q3, c3, rfl, hN3, b3⟩)
 all_goals (
  have HZ : Hid (RgPost (o3, n3) w (.returned (.tuple #[.int .u8 o3, .slice q3 n3.length c3])) w3) := by
   have h1 := (Below.drew (Below.refl w2.heap.size w2)).trans (b3.mono (Nat.le_refl _))
   exact ⟨q3, c3, rfl, hN3, HB2.out.trans (h1.mono HB2.out.size)⟩
  clear hN3 b3
  go_wp2_with fail
  refine bodyPost_ret (v := .tuple #[.int .u8 o3, .slice q3 n3.length c3]) (by simp [results, Tryz.results19, go_sem]) rfl ?_
  rw [HU.out]
  exact HZ.out)
set_option maxRecDepth 100000 in
set_option maxHeartbeats 8000000 in
theorem x19_10 (m : Hp) (w0 : World) (p : Option Addr) (c : C) (t : List C) (v : Value) (w : World) (hb : Below w0.heap.size w0 w) (hT : TermAt w v (c :: t)) (hr : rightB (c :: t) = true) (h0 : isB (c :: t) (gT 0) (gA 0) = false) (hD : DerG w0 p m) (x : List C) (e0 : C) (r : List C) (ha : argsL (c :: t) = [x]) (ht : c.t.toList = [107, 110, 111, 119, 110]) (hf : IsFol m x (e0 :: r)) (wx : ∀ c ∈ x, wfN (c.vn, c.vk)) (nx : x ≠ []) :
  Calls Tryz.prog 19 #[.pointer p, v] w (RgPost (askR 10 e0) w) := by
 have H35 := c23 (c :: t) v w hT
 rw [hr] at H35
 obtain ⟨b, o, cap, hv, hc, HC⟩ := head_cells hT
 subst hv
 have HT : Hid (TermAt w (.slice (some ⟨b, o, none⟩) (t.length + 1) cap) (c :: t) ∧ Below w0.heap.size w0 w) := ⟨hT, hb⟩
 clear hT hb hr
 go_enter Tryz.func19, Tryz.ntmps19
 go_wp2_with fail
 refine H35.mono ?_
 rintro e w1 ⟨rfl, b1⟩
 have HB1 : Hid (Below w.heap.size w w1) := b1
 clear b1 H35
 have H41 := x41 c t _ w1 (HT.out.1.below HB1.out)
 rw [h0] at H41
 clear h0
 go_wp2_with fail
 refine H41.mono ?_
 rintro e w1' ⟨rfl, hw1⟩
 obtain rfl := hw1.symm
 clear H41
 have H42 := c27 (c :: t) _ w1 (HT.out.1.below HB1.out)
 rw [ha] at H42
 clear ha
 go_wp2_with fail
 refine H42.mono ?_
 rintro e w2 ⟨ul, rfl, hrow, b2⟩
 have HB2 : Hid (Below w.heap.size w w2) := HB1.out.trans (b2.mono HB1.out.size)
 clear b2 H42 HB1
 obtain ⟨rb, ro, rc, u1, rfl, hrc, HR⟩ := row_one_of hrow
 clear hrow
 obtain ⟨_, p1, _, _, _⟩ := HC.out w2 HB2.out
 obtain ⟨r0, _⟩ := HR.out w2 (Below.refl _ _)
 obtain ⟨⟨o3, n3⟩, hU⟩ : ∃ U, askR 10 e0 = U := ⟨_, rfl⟩
 have HF : Hid (∀ W, Below w2.heap.size w2 W → Calls Tryz.prog 43 #[.pointer p, .string c.t, u1] W (RgPost (o3, n3) W)) := fun W hW => by
  obtain ⟨_, t1⟩ := HR.out W hW
  rw [← hU]
  exact x43_10 m w0 p hD c.t ht x e0 r u1 W (HT.out.2.trans ((HB2.out.trans (hW.mono HB2.out.size)).mono HT.out.2.size)) hf t1 wx nx
 have HU : Hid (askR 10 e0 = (o3, n3)) := hU
 clear hU hf wx nx hD HR HC
 generalize c.t = tx at *
 go_wp2_with fail
 go_region_with (go_at_call 43; refine (HF.out _ (Below.drew (Below.refl _ _))).mono ?_; rintro e w3 ⟨q3, c3, rfl, hN3, b3⟩)
 all_goals (
  have HZ : Hid (RgPost (o3, n3) w (.returned (.tuple #[.int .u8 o3, .slice q3 n3.length c3])) w3) := by
   have h1 := (Below.drew (Below.refl w2.heap.size w2)).trans (b3.mono (Nat.le_refl _))
   exact ⟨q3, c3, rfl, hN3, HB2.out.trans (h1.mono HB2.out.size)⟩
  clear hN3 b3
  go_wp2_with fail
  refine bodyPost_ret (v := .tuple #[.int .u8 o3, .slice q3 n3.length c3]) (by simp [results, Tryz.results19, go_sem]) rfl ?_
  rw [HU.out]
  exact HZ.out)
set_option maxRecDepth 100000 in
set_option maxHeartbeats 8000000 in
theorem x19_11 (m : Hp) (w0 : World) (p : Option Addr) (c : C) (t : List C) (v : Value) (w : World) (hb : Below w0.heap.size w0 w) (hT : TermAt w v (c :: t)) (hr : rightB (c :: t) = true) (h0 : isB (c :: t) (gT 0) (gA 0) = false) (hD : DerG w0 p m) (x y : List C) (a b0 : C) (r s : List C) (ha : argsL (c :: t) = [x, y]) (ht : c.t.toList = [101, 113, 117, 97, 108]) (hfa : IsFol m x (a :: r)) (hfb : IsFol m y (b0 :: s)) (oa : a.ok = true) (ob : b0.ok = true) (wx : ∀ c ∈ x, wfN (c.vn, c.vk)) (wy : ∀ c ∈ y, wfN (c.vn, c.vk)) (nx : x ≠ []) (ny : y ≠ []) :
  Calls Tryz.prog 19 #[.pointer p, v] w (RgPost (likR 11 a b0) w) := by
 have H35 := c23 (c :: t) v w hT
 rw [hr] at H35
 obtain ⟨b, o, cap, hv, hc, HC⟩ := head_cells hT
 subst hv
 have HT : Hid (TermAt w (.slice (some ⟨b, o, none⟩) (t.length + 1) cap) (c :: t) ∧ Below w0.heap.size w0 w) := ⟨hT, hb⟩
 clear hT hb hr
 go_enter Tryz.func19, Tryz.ntmps19
 go_wp2_with fail
 refine H35.mono ?_
 rintro e w1 ⟨rfl, b1⟩
 have HB1 : Hid (Below w.heap.size w w1) := b1
 clear b1 H35
 have H41 := x41 c t _ w1 (HT.out.1.below HB1.out)
 rw [h0] at H41
 clear h0
 go_wp2_with fail
 refine H41.mono ?_
 rintro e w1' ⟨rfl, hw1⟩
 obtain rfl := hw1.symm
 clear H41
 have H42 := c27 (c :: t) _ w1 (HT.out.1.below HB1.out)
 rw [ha] at H42
 clear ha
 go_wp2_with fail
 refine H42.mono ?_
 rintro e w2 ⟨ul, rfl, hrow, b2⟩
 have HB2 : Hid (Below w.heap.size w w2) := HB1.out.trans (b2.mono HB1.out.size)
 clear b2 H42 HB1
 obtain ⟨rb, ro, rc, u1, u2, rfl, hrc, HR⟩ := row_two_of hrow
 clear hrow
 obtain ⟨_, p1, _, _, _⟩ := HC.out w2 HB2.out
 obtain ⟨r0, r1, _, _⟩ := HR.out w2 (Below.refl _ _)
 obtain ⟨⟨o3, n3⟩, hU⟩ : ∃ U, likR 11 a b0 = U := ⟨_, rfl⟩
 have HF : Hid (∀ W, Below w2.heap.size w2 W → Calls Tryz.prog 45 #[.pointer p, .bool true, u1, u2] W (RgPost (o3, n3) W)) := fun W hW => by
  obtain ⟨_, _, t1, t2⟩ := HR.out W hW
  rw [← hU]
  exact x45 11 true (by simp) m w0 p hD x y a b0 r s hfa hfb oa ob u1 u2 W (HT.out.2.trans ((HB2.out.trans (hW.mono HB2.out.size)).mono HT.out.2.size)) t1 t2 wx wy nx ny
 have HU : Hid (likR 11 a b0 = (o3, n3)) := hU
 clear hU hfa hfb oa ob wx wy nx ny hD HR HC
 generalize c.t = tx at *
 go_wp2_with fail
 go_region_with (go_at_call 45; refine (HF.out _ (Below.drew (Below.refl _ _))).mono ?_; rintro e w3 ⟨q3, c3, rfl, hN3, b3⟩)
 all_goals (
  have HZ : Hid (RgPost (o3, n3) w (.returned (.tuple #[.int .u8 o3, .slice q3 n3.length c3])) w3) := by
   have h1 := (Below.drew (Below.refl w2.heap.size w2)).trans (b3.mono (Nat.le_refl _))
   exact ⟨q3, c3, rfl, hN3, HB2.out.trans (h1.mono HB2.out.size)⟩
  clear hN3 b3
  go_wp2_with fail
  refine bodyPost_ret (v := .tuple #[.int .u8 o3, .slice q3 n3.length c3]) (by simp [results, Tryz.results19, go_sem]) rfl ?_
  rw [HU.out]
  exact HZ.out)
set_option maxRecDepth 100000 in
set_option maxHeartbeats 8000000 in
theorem x19_12 (m : Hp) (w0 : World) (p : Option Addr) (c : C) (t : List C) (v : Value) (w : World) (hb : Below w0.heap.size w0 w) (hT : TermAt w v (c :: t)) (hr : rightB (c :: t) = true) (h0 : isB (c :: t) (gT 0) (gA 0) = false) (hD : DerG w0 p m) (x y : List C) (a b0 : C) (r s : List C) (ha : argsL (c :: t) = [x, y]) (ht : c.t.toList = [117, 110, 108, 105, 107, 101]) (hfa : IsFol m x (a :: r)) (hfb : IsFol m y (b0 :: s)) (oa : a.ok = true) (ob : b0.ok = true) (wx : ∀ c ∈ x, wfN (c.vn, c.vk)) (wy : ∀ c ∈ y, wfN (c.vn, c.vk)) (nx : x ≠ []) (ny : y ≠ []) :
  Calls Tryz.prog 19 #[.pointer p, v] w (RgPost (likR 12 a b0) w) := by
 have H35 := c23 (c :: t) v w hT
 rw [hr] at H35
 obtain ⟨b, o, cap, hv, hc, HC⟩ := head_cells hT
 subst hv
 have HT : Hid (TermAt w (.slice (some ⟨b, o, none⟩) (t.length + 1) cap) (c :: t) ∧ Below w0.heap.size w0 w) := ⟨hT, hb⟩
 clear hT hb hr
 go_enter Tryz.func19, Tryz.ntmps19
 go_wp2_with fail
 refine H35.mono ?_
 rintro e w1 ⟨rfl, b1⟩
 have HB1 : Hid (Below w.heap.size w w1) := b1
 clear b1 H35
 have H41 := x41 c t _ w1 (HT.out.1.below HB1.out)
 rw [h0] at H41
 clear h0
 go_wp2_with fail
 refine H41.mono ?_
 rintro e w1' ⟨rfl, hw1⟩
 obtain rfl := hw1.symm
 clear H41
 have H42 := c27 (c :: t) _ w1 (HT.out.1.below HB1.out)
 rw [ha] at H42
 clear ha
 go_wp2_with fail
 refine H42.mono ?_
 rintro e w2 ⟨ul, rfl, hrow, b2⟩
 have HB2 : Hid (Below w.heap.size w w2) := HB1.out.trans (b2.mono HB1.out.size)
 clear b2 H42 HB1
 obtain ⟨rb, ro, rc, u1, u2, rfl, hrc, HR⟩ := row_two_of hrow
 clear hrow
 obtain ⟨_, p1, _, _, _⟩ := HC.out w2 HB2.out
 obtain ⟨r0, r1, _, _⟩ := HR.out w2 (Below.refl _ _)
 obtain ⟨⟨o3, n3⟩, hU⟩ : ∃ U, likR 12 a b0 = U := ⟨_, rfl⟩
 have HF : Hid (∀ W, Below w2.heap.size w2 W → Calls Tryz.prog 45 #[.pointer p, .bool false, u1, u2] W (RgPost (o3, n3) W)) := fun W hW => by
  obtain ⟨_, _, t1, t2⟩ := HR.out W hW
  rw [← hU]
  exact x45 12 false (by simp) m w0 p hD x y a b0 r s hfa hfb oa ob u1 u2 W (HT.out.2.trans ((HB2.out.trans (hW.mono HB2.out.size)).mono HT.out.2.size)) t1 t2 wx wy nx ny
 have HU : Hid (likR 12 a b0 = (o3, n3)) := hU
 clear hU hfa hfb oa ob wx wy nx ny hD HR HC
 generalize c.t = tx at *
 go_wp2_with fail
 go_region_with (go_at_call 45; refine (HF.out _ (Below.drew (Below.refl _ _))).mono ?_; rintro e w3 ⟨q3, c3, rfl, hN3, b3⟩)
 all_goals (
  have HZ : Hid (RgPost (o3, n3) w (.returned (.tuple #[.int .u8 o3, .slice q3 n3.length c3])) w3) := by
   have h1 := (Below.drew (Below.refl w2.heap.size w2)).trans (b3.mono (Nat.le_refl _))
   exact ⟨q3, c3, rfl, hN3, HB2.out.trans (h1.mono HB2.out.size)⟩
  clear hN3 b3
  go_wp2_with fail
  refine bodyPost_ret (v := .tuple #[.int .u8 o3, .slice q3 n3.length c3]) (by simp [results, Tryz.results19, go_sem]) rfl ?_
  rw [HU.out]
  exact HZ.out)
set_option maxRecDepth 100000 in
set_option maxHeartbeats 8000000 in
theorem x19_n1 (w0 : World) (p : Option Addr) (c : C) (t : List C) (v : Value) (w : World) (hb : Below w0.heap.size w0 w) (hT : TermAt w v (c :: t)) (hr : rightB (c :: t) = true) (h0 : isB (c :: t) (gT 0) (gA 0) = false) (x : List C) (ha : argsL (c :: t) = [x]) (h7 : (c.t.toList == [105, 110, 116, 101, 103, 101, 114]) = false) (h8 : (c.t.toList == [97, 116, 111, 109]) = false) (h9 : (c.t.toList == [99, 111, 109, 112, 111, 117, 110, 100]) = false) (h10 : (c.t.toList == [107, 110, 111, 119, 110]) = false) :
  Calls Tryz.prog 19 #[.pointer p, v] w (RgPost (2, []) w) := by
 have H35 := c23 (c :: t) v w hT
 rw [hr] at H35
 obtain ⟨b, o, cap, hv, hc, HC⟩ := head_cells hT
 subst hv
 have HT : Hid (TermAt w (.slice (some ⟨b, o, none⟩) (t.length + 1) cap) (c :: t) ∧ Below w0.heap.size w0 w) := ⟨hT, hb⟩
 clear hT hb hr
 go_enter Tryz.func19, Tryz.ntmps19
 go_wp2_with fail
 refine H35.mono ?_
 rintro e w1 ⟨rfl, b1⟩
 have HB1 : Hid (Below w.heap.size w w1) := b1
 clear b1 H35
 have H41 := x41 c t _ w1 (HT.out.1.below HB1.out)
 rw [h0] at H41
 clear h0
 go_wp2_with fail
 refine H41.mono ?_
 rintro e w1' ⟨rfl, hw1⟩
 obtain rfl := hw1.symm
 clear H41
 have H42 := c27 (c :: t) _ w1 (HT.out.1.below HB1.out)
 rw [ha] at H42
 clear ha
 go_wp2_with fail
 refine H42.mono ?_
 rintro e w2 ⟨ul, rfl, hrow, b2⟩
 have HB2 : Hid (Below w.heap.size w w2) := HB1.out.trans (b2.mono HB1.out.size)
 clear b2 H42 HB1
 obtain ⟨rb, ro, rc, u1, rfl, hrc, HR⟩ := row_one_of hrow
 clear hrow
 obtain ⟨_, p1, _, _, _⟩ := HC.out w2 HB2.out
 obtain ⟨r0, _⟩ := HR.out w2 (Below.refl _ _)
 clear HR HC
 generalize c.t = tx at *
 go_wp2_with fail
 refine bodyPost_ret (v := .tuple #[.int .u8 2, .slice none 0 0]) (by simp [results, Tryz.results19, go_sem]) rfl ?_
 exact rg_nil HB2.out
set_option maxRecDepth 100000 in
set_option maxHeartbeats 8000000 in
theorem x19_n2 (w0 : World) (p : Option Addr) (c : C) (t : List C) (v : Value) (w : World) (hb : Below w0.heap.size w0 w) (hT : TermAt w v (c :: t)) (hr : rightB (c :: t) = true) (h0 : isB (c :: t) (gT 0) (gA 0) = false) (x y : List C) (ha : argsL (c :: t) = [x, y]) (h1 : (c.t.toList == [60]) = false) (h2 : (c.t.toList == [61, 60]) = false) (h3 : (c.t.toList == [62]) = false) (h4 : (c.t.toList == [62, 61]) = false) (h5 : (c.t.toList == [61, 58, 61]) = false) (h6 : (c.t.toList == [61, 92, 61]) = false) (h11 : (c.t.toList == [101, 113, 117, 97, 108]) = false) (h12 : (c.t.toList == [117, 110, 108, 105, 107, 101]) = false) :
  Calls Tryz.prog 19 #[.pointer p, v] w (RgPost (2, []) w) := by
 have H35 := c23 (c :: t) v w hT
 rw [hr] at H35
 obtain ⟨b, o, cap, hv, hc, HC⟩ := head_cells hT
 subst hv
 have HT : Hid (TermAt w (.slice (some ⟨b, o, none⟩) (t.length + 1) cap) (c :: t) ∧ Below w0.heap.size w0 w) := ⟨hT, hb⟩
 clear hT hb hr
 go_enter Tryz.func19, Tryz.ntmps19
 go_wp2_with fail
 refine H35.mono ?_
 rintro e w1 ⟨rfl, b1⟩
 have HB1 : Hid (Below w.heap.size w w1) := b1
 clear b1 H35
 have H41 := x41 c t _ w1 (HT.out.1.below HB1.out)
 rw [h0] at H41
 clear h0
 go_wp2_with fail
 refine H41.mono ?_
 rintro e w1' ⟨rfl, hw1⟩
 obtain rfl := hw1.symm
 clear H41
 have H42 := c27 (c :: t) _ w1 (HT.out.1.below HB1.out)
 rw [ha] at H42
 clear ha
 go_wp2_with fail
 refine H42.mono ?_
 rintro e w2 ⟨ul, rfl, hrow, b2⟩
 have HB2 : Hid (Below w.heap.size w w2) := HB1.out.trans (b2.mono HB1.out.size)
 clear b2 H42 HB1
 obtain ⟨rb, ro, rc, u1, u2, rfl, hrc, HR⟩ := row_two_of hrow
 clear hrow
 obtain ⟨_, p1, _, _, _⟩ := HC.out w2 HB2.out
 obtain ⟨r0, r1, _, _⟩ := HR.out w2 (Below.refl _ _)
 clear HR HC
 generalize c.t = tx at *
 go_wp2_with fail
 refine bodyPost_ret (v := .tuple #[.int .u8 2, .slice none 0 0]) (by simp [results, Tryz.results19, go_sem]) rfl ?_
 exact rg_nil HB2.out
set_option maxRecDepth 100000 in
set_option maxHeartbeats 8000000 in
theorem x19_n0 (w0 : World) (p : Option Addr) (c : C) (t : List C) (v : Value) (w : World) (hb : Below w0.heap.size w0 w) (hT : TermAt w v (c :: t)) (hr : rightB (c :: t) = true) (h0 : isB (c :: t) (gT 0) (gA 0) = false) (g1 : ¬ (argsL (c :: t)).length = 1) (g2 : ¬ (argsL (c :: t)).length = 2) :
  Calls Tryz.prog 19 #[.pointer p, v] w (RgPost (2, []) w) := by
 have H35 := c23 (c :: t) v w hT
 rw [hr] at H35
 obtain ⟨b, o, cap, hv, hc, HC⟩ := head_cells hT
 subst hv
 have HT : Hid (TermAt w (.slice (some ⟨b, o, none⟩) (t.length + 1) cap) (c :: t) ∧ Below w0.heap.size w0 w) := ⟨hT, hb⟩
 clear hT hb hr
 go_enter Tryz.func19, Tryz.ntmps19
 go_wp2_with fail
 refine H35.mono ?_
 rintro e w1 ⟨rfl, b1⟩
 have HB1 : Hid (Below w.heap.size w w1) := b1
 clear b1 H35
 have H41 := x41 c t _ w1 (HT.out.1.below HB1.out)
 rw [h0] at H41
 clear h0
 go_wp2_with fail
 refine H41.mono ?_
 rintro e w1' ⟨rfl, hw1⟩
 obtain rfl := hw1.symm
 clear H41
 have H42 := c27 (c :: t) _ w1 (HT.out.1.below HB1.out)
 have HG : Hid (True) := trivial
 go_wp2_with fail
 refine H42.mono ?_
 rintro e w2 ⟨ul, rfl, hrow, b2⟩
 have HB2 : Hid (Below w.heap.size w w2) := HB1.out.trans (b2.mono HB1.out.size)
 clear b2 H42 HB1
 obtain ⟨ra, rc, hul⟩ := hrow.form
 subst hul
 clear hrow
 generalize (argsL (c :: t)).length = n at *
 have g3 : ((n : Int) == 1) = false := by simp; omega
 have g4 : ((n : Int) == 2) = false := by simp; omega
 go_wp2_with fail
 refine bodyPost_ret (v := .tuple #[.int .u8 2, .slice none 0 0]) (by simp [results, Tryz.results19, go_sem]) rfl ?_
 exact rg_nil HB2.out
set_option maxRecDepth 100000 in
theorem x19_wrong (p : Option Addr) (g : List C) (v : Value) (w : World) (hT : TermAt w v g) (hr : rightB g = false) : Calls Tryz.prog 19 #[.pointer p, v] w (RgPost (2, []) w) := by
 have H35 := c23 g v w hT
 rw [hr] at H35
 obtain ⟨va, vc, hv⟩ := hT.form
 subst hv
 clear hT hr
 go_enter Tryz.func19, Tryz.ntmps19
 go_wp2_with fail
 refine H35.mono ?_
 rintro e w1 ⟨rfl, b1⟩
 have HB1 : Hid (Below w.heap.size w w1) := b1
 clear b1 H35
 go_wp2_with fail
 refine bodyPost_ret (v := .tuple #[.int .u8 2, .slice none 0 0]) (by simp [results, Tryz.results19, go_sem]) rfl ?_
 exact rg_nil HB1.out
set_option maxRecDepth 100000 in
theorem x19_yes (p : Option Addr) (c : C) (t : List C) (v : Value) (w : World) (hT : TermAt w v (c :: t)) (hr : rightB (c :: t) = true) (h0 : isB (c :: t) (gT 0) (gA 0) = true) : Calls Tryz.prog 19 #[.pointer p, v] w (RgPost (1, []) w) := by
 have H35 := c23 (c :: t) v w hT
 rw [hr] at H35
 have HT : Hid (TermAt w v (c :: t)) := hT
 obtain ⟨va, vc, hv⟩ := hT.form
 subst hv
 clear hT hr
 go_enter Tryz.func19, Tryz.ntmps19
 go_wp2_with fail
 refine H35.mono ?_
 rintro e w1 ⟨rfl, b1⟩
 have HB1 : Hid (Below w.heap.size w w1) := b1
 have H41 := x41 c t _ w1 (HT.out.below b1)
 rw [h0] at H41
 clear b1 H35 h0
 go_wp2_with fail
 refine H41.mono ?_
 rintro e w1' ⟨rfl, hw1⟩
 obtain rfl := hw1.symm
 clear H41
 go_wp2_with fail
 refine bodyPost_ret (v := .tuple #[.int .u8 1, .slice none 0 0]) (by simp [results, Tryz.results19, go_sem]) rfl ?_
 exact rg_nil HB1.out
theorem args_head {c : C} {t : List C} {n : Nat} (hr : rightB (c :: t) = true) (h : (argsL (c :: t)).length = n) (hn : 1 ≤ n) : c.k = 3 ∧ c.n = n := by
 by_cases hk : c.k = 3
 ·refine ⟨hk, ?_⟩
  have h2 := (argsL_spec (c :: t) hr (by simp) hk).2.1
  rw [h] at h2
  have h3 : n = (argsOf c.k c.n).toNat := h2
  unfold argsOf at h3
  rw [if_pos hk] at h3
  omega
 ·rw [argsL_none (c :: t) (fun e => hk e.2.2)] at h
  simp at h
  omega
theorem no_text {c : C} {t : List C} {k n : Nat} (hk : c.k = 3) (hn : c.n = n) (hg : gA k = n) (h : isB (c :: t) (gT k) (gA k) = false) : (c.t.toList == (gT k).toList) = false := by
 rw [isB_head, hk, hg, hn] at h
 simpa using h
theorem yes_text {c : C} {t : List C} {k : Nat} (h : isB (c :: t) (gT k) (gA k) = true) : c.t.toList = (gT k).toList := by
 rw [isB_head, Bool.and_eq_true, beq_iff_eq] at h
 exact h.1
theorem zero_no {g : List C} {k : Nat} (h1 : 1 ≤ k) (h2 : k < 13) (h : isB g (gT k) (gA k) = true) : isB g (gT 0) (gA 0) = false := by
 cases e : isB g (gT 0) (gA 0)
 ·rfl
 ·have := isB_one (by omega) h2 e h
  omega
theorem gT_list : (gT 1).toList = [60] ∧ (gT 2).toList = [61, 60] ∧ (gT 3).toList = [62] ∧ (gT 4).toList = [62, 61] ∧ (gT 5).toList = [61, 58, 61] ∧ (gT 6).toList = [61, 92, 61] ∧ (gT 7).toList = [105, 110, 116, 101, 103, 101, 114] ∧ (gT 8).toList = [97, 116, 111, 109] ∧ (gT 9).toList = [99, 111, 109, 112, 111, 117, 110, 100] ∧ (gT 10).toList = [107, 110, 111, 119, 110] ∧ (gT 11).toList = [101, 113, 117, 97, 108] ∧ (gT 12).toList = [117, 110, 108, 105, 107, 101] := by
 refine ⟨?_, ?_, ?_, ?_, ?_, ?_, ?_, ?_, ?_, ?_, ?_, ?_⟩ <;> (rw [ByteArray.toList_eq]; rfl)
/-- The document's Guard. -/
theorem x19 (m : Hp) (hR : RgH m) (w0 : World) (p : Option Addr) (hD : DerG w0 p m) (g : List C) (u : G2) (hG : Gv m g u) (v : Value) (w : World) (hb : Below w0.heap.size w0 w) (hT : TermAt w v g) (hW : ∀ c ∈ g, wfN (c.vn, c.vk)) : Calls Tryz.prog 19 #[.pointer p, v] w (RgPost u w) := by
 obtain ⟨q1, q2, q3, q4, q5, q6, q7, q8, q9, q10, q11, q12⟩ := gT_list
 cases hG with
 | wrong hr => exact x19_wrong p g v w hT hr
 | none hr hn =>
  cases g with
  | nil => have := ((right_iff _).1 hr).1; simp at this
  | cons c t =>
   have h0 := hn 0 (by omega)
   match hl : argsL (c :: t) with
   | [] => exact x19_n0 w0 p c t v w hb hT hr h0 (by rw [hl]; simp) (by rw [hl]; simp)
   | [x] =>
    obtain ⟨k3, n1⟩ := args_head hr (congrArg List.length hl) (by simp)
    have f := fun k (h13 : k < 13) (hg : gA k = (1 : Nat)) => no_text (n := 1) k3 n1 hg (hn k h13)
    exact x19_n1 w0 p c t v w hb hT hr h0 x hl (by rw [← q7]; exact f 7 (by omega) rfl) (by rw [← q8]; exact f 8 (by omega) rfl) (by rw [← q9]; exact f 9 (by omega) rfl) (by rw [← q10]; exact f 10 (by omega) rfl)
   | [x, y] =>
    obtain ⟨k3, n1⟩ := args_head hr (congrArg List.length hl) (by simp)
    have f := fun k (h13 : k < 13) (hg : gA k = (2 : Nat)) => no_text (n := 2) k3 n1 hg (hn k h13)
    exact x19_n2 w0 p c t v w hb hT hr h0 x y hl (by rw [← q1]; exact f 1 (by omega) rfl) (by rw [← q2]; exact f 2 (by omega) rfl) (by rw [← q3]; exact f 3 (by omega) rfl) (by rw [← q4]; exact f 4 (by omega) rfl) (by rw [← q5]; exact f 5 (by omega) rfl) (by rw [← q6]; exact f 6 (by omega) rfl) (by rw [← q11]; exact f 11 (by omega) rfl) (by rw [← q12]; exact f 12 (by omega) rfl)
   | x :: y :: z :: l => exact x19_n0 w0 p c t v w hb hT hr h0 (by rw [hl]; simp) (by rw [hl]; simp)
 | yes hr hi =>
  cases g with
  | nil => cases hi
  | cons c t => exact x19_yes p c t v w hT hr hi
 | @cmp c t k d rs hr h1 h2 hi hl hv hx hq =>
  obtain ⟨x, y, a, b, rfl, rx, ry, rfl, sx, sy⟩ := hq
  have h0 := zero_no h1 (by omega) hi
  have hk := (kB_args h1 (by omega) hi).1
  have ha : argsL (c :: (x ++ y)) = [x, y] := by
   have := args_uniq (c := c) (ps := [x, y]) (by simpa using hr) hk (fun s hs => by
    simp only [List.mem_cons, List.not_mem_nil, or_false] at hs
    rcases hs with rfl | rfl
    ·exact ((right_iff _).1 rx).2.2.2
    ·exact ((right_iff _).1 ry).2.2.2)
   simpa using this
  have ht := yes_text hi
  have wx : ∀ e ∈ x, wfN (e.vn, e.vk) := fun e he => hW e (by simp [he])
  have wy : ∀ e ∈ y, wfN (e.vn, e.vk) := fun e he => hW e (by simp [he])
  have o1 := (hv a (by simp)).1
  have o2 := (hv b (by simp)).1
  rcases (show k = 1 ∨ k = 2 ∨ k = 3 ∨ k = 4 ∨ k = 5 ∨ k = 6 by omega) with rfl | rfl | rfl | rfl | rfl | rfl
  ·exact x19_1 m w0 p c _ v w hb hT hr h0 hD x y d a b ha (ht.trans q1) sx sy o1 o2 rx ry wx wy
  ·exact x19_2 m w0 p c _ v w hb hT hr h0 hD x y d a b ha (ht.trans q2) sx sy o1 o2 rx ry wx wy
  ·exact x19_3 m w0 p c _ v w hb hT hr h0 hD x y d a b ha (ht.trans q3) sx sy o1 o2 rx ry wx wy
  ·exact x19_4 m w0 p c _ v w hb hT hr h0 hD x y d a b ha (ht.trans q4) sx sy o1 o2 rx ry wx wy
  ·exact x19_5 m w0 p c _ v w hb hT hr h0 hD x y d a b ha (ht.trans q5) sx sy o1 o2 rx ry wx wy
  ·exact x19_6 m w0 p c _ v w hb hT hr h0 hD x y d a b ha (ht.trans q6) sx sy o1 o2 rx ry wx wy
 | @ask c t k e r hr h1 h2 hi ht0 hf =>
  have h0 := zero_no (by omega) (by omega) hi
  have hk := (kB_args (by omega) (by omega) hi).1
  obtain ⟨c1, c2, c3⟩ := comp_tail hr (by omega) (by omega) hi
  have e1 : (gA k).toNat = 1 := by
   have : ∀ k, k < 11 → 7 ≤ k → (gA k).toNat = 1 := by decide
   exact this k (by omega) (by omega)
  rw [e1] at c1
  have ha : argsL (c :: t) = [t] := by
   have := args_uniq (c := c) (ps := [t]) (by simpa using hr) hk (fun s hs => by
    simp only [List.mem_cons, List.not_mem_nil, or_false] at hs
    rw [hs]
    exact c1)
   simpa using this
  have ht := yes_text hi
  have wx : ∀ e ∈ t, wfN (e.vn, e.vk) := fun e he => hW e (by simp [he])
  rcases (show k = 7 ∨ k = 8 ∨ k = 9 ∨ k = 10 by omega) with rfl | rfl | rfl | rfl
  ·exact x19_7 m w0 p c t v w hb hT hr h0 hD t e r ha (ht.trans q7) hf wx ht0
  ·exact x19_8 m w0 p c t v w hb hT hr h0 hD t e r ha (ht.trans q8) hf wx ht0
  ·exact x19_9 m w0 p c t v w hb hT hr h0 hD t e r ha (ht.trans q9) hf wx ht0
  ·exact x19_10 m w0 p c t v w hb hT hr h0 hD t e r ha (ht.trans q10) hf wx ht0
 | @lik c x y k a b r s hr h1 hi rx ry fa fb =>
  have h0 := zero_no (by omega) (by omega) hi
  have hk := (kB_args (by omega) (by omega) hi).1
  have ha : argsL (c :: (x ++ y)) = [x, y] := by
   have := args_uniq (c := c) (ps := [x, y]) (by simpa using hr) hk (fun s hs => by
    simp only [List.mem_cons, List.not_mem_nil, or_false] at hs
    rcases hs with rfl | rfl
    ·exact ((right_iff _).1 rx).2.2.2
    ·exact ((right_iff _).1 ry).2.2.2)
   simpa using this
  have ht := yes_text hi
  have wx : ∀ e ∈ x, wfN (e.vn, e.vk) := fun e he => hW e (by simp [he])
  have wy : ∀ e ∈ y, wfN (e.vn, e.vk) := fun e he => hW e (by simp [he])
  have fr : ∀ {z : List C} {e : C} {q : List C}, rightB z = true → IsFol m z (e :: q) → e.ok = true := fun {z e q} hp hf => by
   have : rightB (e :: q) = true := by
    rcases fol_right hR hf.1 with h | ⟨_, h⟩
    ·rw [h]; exact hp
    ·exact h
   have := ((right_iff _).1 this).2.2.1
   rw [List.all_cons, Bool.and_eq_true] at this
   exact this.1
  have nx : x ≠ [] := fun e => by have := ((right_iff _).1 rx).1; rw [e] at this; simp at this
  have ny : y ≠ [] := fun e => by have := ((right_iff _).1 ry).1; rw [e] at this; simp at this
  rcases h1 with rfl | rfl
  ·exact x19_11 m w0 p c _ v w hb hT hr h0 hD x y a b r s ha (ht.trans q11) fa fb (fr rx fa) (fr ry fb) wx wy nx ny
  ·exact x19_12 m w0 p c _ v w hb hT hr h0 hD x y a b r s ha (ht.trans q12) fa fb (fr rx fa) (fr ry fb) wx wy nx ny
end Go.Proofs.YtaehhophaaipdaaGreatDoor
