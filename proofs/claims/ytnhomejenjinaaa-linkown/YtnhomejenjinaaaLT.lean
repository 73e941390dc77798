/- Both links tell the same: the statement's helper. -/
import Derived.Test.YtnhomejenjinaaaLR
import Derived.Test.YtnhomejenjinaaaLS
namespace Go.Proofs.Ytnhomejenjinaaa
open Go.RowKit
attribute [local go_sem ↓] Go.wp_at_zero Go.wp_at_succ
set_option maxRecDepth 100000 in
set_option maxHeartbeats 4000000 in
theorem s10 (B B' la rb : Nat) (s : Sl) (l : List Sl) (ov : Value) (ds : List Sl) (ms : List (List Int)) (w : World) (h : LkG w B la ((0 : Nat) : Int) s l) (h' : RkG w B' rb ov ds ms) (hl : l.length = ds.length) (hn : ds.length ≤ 1000000)
    (hms : ∀ (k : Nat) (t : Sl) (xs : List Int), l[k]? = some t → ms[k]? = some xs → By w t.a t.n t.c xs) :
    Calls Try.prog 10 #[.pointer (some ⟨la, 0, none⟩), .pointer (some ⟨rb, 0, none⟩)] w fun e w' => e = .returned (.bool true) ∧ Below w.heap.size w w' := by
  obtain ⟨b, hb⟩ : ∃ b, w.heap.size = b := ⟨_, rfl⟩
  have HS : Hid (w.heap.size = b) := hb
  have HO : Hid (∀ W, Below b w W → LkO W la ((0 : Nat) : Int) s l ∧ RkG W B' rb ov ds ms ∧ b ≤ W.heap.size ∧ ∀ (k : Nat) (t : Sl) (xs : List Int), l[k]? = some t → ms[k]? = some xs → By W t.a t.n t.c xs) := fun W hW => by
    rw [← hb] at hW
    have := hW.size
    exact ⟨h.toO.below hW, h'.below hW, by omega, fun k t xs e1 e2 => (hms k t xs e1 e2).below hW⟩
  have HL : Hid (l.length = ds.length ∧ ds.length ≤ 1000000 ∧ ms.length = ds.length ∧ s.n = l.length) := ⟨hl, hn, h'.len.symm, h.toO.len⟩
  have HI0 : Hid (Below b w w) := Below.refl b w
  have H24 : Hid (∀ W, Below b w W → ∀ i, Calls Try.prog 24 #[.pointer (some ⟨la, 0, none⟩), .int .i64 i] W fun e w' => e = .returned (.int .i64 0) ∧ w' = W) := fun W hW i => l24p la ((0 : Nat) : Int) s i W (HO.out W hW).1.blk
  have H28 : Hid (∀ W, Below b w W → ∀ i, Calls Try.prog 28 #[.pointer (some ⟨rb, 0, none⟩), .int .i64 i] W fun e w' => e = .returned (.int .i64 0) ∧ w' = W) := fun W hW i => r28 rb _ ov i W (HO.out W hW).2.1.blk
  have H27 : Hid (∀ W, Below b w W → ∀ i, ∃ x, (Calls Try.prog 27 #[.pointer (some ⟨la, 0, none⟩), .int .i64 i] W fun e w' => e = .returned (.int .i64 x) ∧ Hid (Below b w w')) ∧ ∀ W', Below b w W' → Calls Try.prog 29 #[.pointer (some ⟨rb, 0, none⟩), .int .i64 i] W' fun e w' => e = .returned (.int .i64 x) ∧ w' = W') := fun W hW i => by
    have h1 := HL.out
    refine ⟨if i = 1 then (ds.length : Int) else 0, ?_, fun W' hW' => r29 rb _ ov i W' (HO.out W' hW').2.1.blk⟩
    refine (l27p la 0 s i W (HO.out W hW).1.blk (by omega)).mono ?_
    rintro e w' ⟨rfl, d, rfl⟩
    refine ⟨?_, below_dN hW d⟩
    rw [h1.2.2.2, h1.1]
    by_cases hi : i = 1
    · rw [if_pos hi, if_pos hi]
      simp
    · rw [if_neg hi, if_neg hi]
  have H26 : Hid (∀ W, Below b w W → Calls Try.prog 26 #[.pointer (some ⟨la, 0, none⟩)] W fun e w' => ∃ a c, e = .returned (.slice a ds.length c) ∧ Hid (Below b w w' ∧ ∃ es : List Sl, es.length = ds.length ∧ w'.ownsRow W.heap.size 36 5 (.slice a ds.length c) ds.length (encAll es 0) ∧ ∀ (k : Nat) (d : Sl) (xs : List Int), es[k]? = some d → ms[k]? = some xs → ∃ B, Row w' B 5 d.a d.n d.c (u8s xs))) := fun W hW => by
    obtain ⟨k1, k2, k3, k4⟩ := HO.out W hW
    have h1 := HL.out
    refine (l26c la 0 s l ms W k1 (by omega) (by omega) k4).mono ?_
    rintro e w' ⟨a, c, rfl, es, j1, j2, j3, j4⟩
    rw [h1.1] at j1 j2 ⊢
    exact ⟨a, c, rfl, hW.trans (j4.mono k3), es, j1, j2, fun k d xs e1 e2 => ⟨_, j3 k d xs e1 e2⟩⟩
  have H31 : Hid (∀ W, Below b w W → Calls Try.prog 31 #[.pointer (some ⟨rb, 0, none⟩)] W fun e w' => ∃ a c, e = .returned (.slice a ds.length c) ∧ Hid (Below W.heap.size W w' ∧ w'.ownsRow W.heap.size 36 5 (.slice a ds.length c) ds.length (encAll ds 0))) := fun W hW => by
    refine (r31 B' rb ov ds ms W (HO.out W hW).2.1 HL.out.2.1).mono ?_
    rintro e w' ⟨a, c, rfl, j1, j2⟩
    exact ⟨a, c, rfl, j2, j1⟩
  have H30 : Hid (∀ W, Below b w W → ∀ (A A' : Nat) a a' c c', W.ownsRow A' 36 5 (.slice a' ds.length c') ds.length (encAll ds 0) → (∃ es : List Sl, es.length = ds.length ∧ W.ownsRow A 36 5 (.slice a ds.length c) ds.length (encAll es 0) ∧ ∀ (k : Nat) (d : Sl) (xs : List Int), es[k]? = some d → ms[k]? = some xs → ∃ B, Row W B 5 d.a d.n d.c (u8s xs)) → Calls Try.prog 30 #[.slice a ds.length c, .slice a' ds.length c'] W fun e w' => e = .returned (.bool true) ∧ Hid (Below b w w')) := fun W hW A A' a a' c c' j1 ⟨es, j2, j3, j4⟩ => by
    have k := HO.out W hW
    refine (r30 a a' ds.length c c' A A' es ds ms W j3 j1 j2 rfl HL.out.2.2.1 HL.out.2.1 j4 fun k d xs e1 e2 => ⟨_, (HO.out W hW).2.1.by' k d xs e1 e2⟩).mono ?_
    rintro e w' ⟨rfl, j5⟩
    exact ⟨rfl, hW.trans (j5.mono k.2.2.1)⟩
  clear h h' hl hms
  rw [hb]
  clear hb
  go_enter Try.func10, Try.ntmps10
  go_wp2_with fail
  go_loopw [5] (fun iv wr => ∃ i : Int, iv = .int .i64 i ∧ -1 ≤ i ∧ i ≤ 5 ∧ Hid (Below b w wr)) (fun iv _ => (5 - intOf iv).toNat)
  case atStart => exact ⟨-1, rfl, by omega, by omega, HI0.out⟩
  case round =>
    obtain ⟨i, rfl, hi0, hi5, HI⟩ := hrel
    by_cases hlt : i ≤ 4
    · obtain ⟨x, H27a, H29a⟩ := H27.out wr HI.out i
      have H29b : Hid (∀ W', Below b w W' → Calls Try.prog 29 #[.pointer (some ⟨rb, 0, none⟩), .int .i64 i] W' fun e w' => e = .returned (.int .i64 x) ∧ w' = W') := H29a
      clear H29a
      go_wp2_with fail
      refine (H24.out wr HI.out i).mono ?_
      rintro e w1 ⟨rfl, hw⟩
      obtain rfl := hw.symm
      go_wp2_with fail
      refine (H28.out wr HI.out i).mono ?_
      rintro e w1 ⟨rfl, hw⟩
      obtain rfl := hw.symm
      go_wp2_with fail
      refine H27a.mono ?_
      rintro e w1 ⟨rfl, H1⟩
      clear H27a
      go_wp2_with fail
      refine (H29b.out w1 H1.out).mono ?_
      rintro e w2 ⟨rfl, hw⟩
      obtain rfl := hw.symm
      go_wp2_with fail
      go_roundw
      case rel => exact ⟨i + 1, by go_num, by omega, by omega, H1.out⟩
      case measure => simp [intOf]; omega
    · go_wp2_with fail
      refine (H26.out wr HI.out).mono ?_
      rintro e w1 ⟨a, c, rfl, H1⟩
      go_wp2_with fail
      refine (H31.out w1 H1.out.1).mono ?_
      rintro e w2 ⟨a', c', rfl, H2⟩
      have H3 : Calls Try.prog 30 #[.slice a ds.length c, .slice a' ds.length c'] w2 fun e w' => e = .returned (.bool true) ∧ Hid (Below b w w') := by
        obtain ⟨k1, es, k2, k3, k4⟩ := H1.out
        obtain ⟨j1, j2⟩ := H2.out
        have h0 := (HO.out w1 k1).2.2.1
        refine H30.out w2 (k1.trans (j1.mono h0)) _ _ a a' c c' j2 ⟨es, k2, owns_below k3 j1, fun k d xs e1 e2 => ?_⟩
        obtain ⟨A, hA⟩ := k4 k d xs e1 e2
        exact ⟨A, hA.below j1⟩
      go_wp2_with fail
      refine H3.mono ?_
      rintro e w3 ⟨rfl, H4⟩
      go_wp2_with fail
      go_ret
      exact ⟨rfl, H4.out⟩
end Go.Proofs.Ytnhomejenjinaaa
