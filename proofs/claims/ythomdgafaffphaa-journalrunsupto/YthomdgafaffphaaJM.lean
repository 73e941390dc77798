/- live: what must be whatever is asked. -/
import Derived.Test.YthomdgafaffphaaJL
namespace Go.Proofs.Ythomdgafaffphaa
open Go.RowKit
attribute [local go_sem ↓] Go.wp_at_zero Go.wp_at_succ
theorem rec97 : recI [97] = [0, 0, 0, 1, 228, 12, 41, 44, 97] := by decide
theorem By.lit {w : World} {b : Nat} {xs : List Int} {cs : Array Value} {t : TypeId} (hb : w.heap[b]? = some (.cells cs t (0, 0))) (hc : cs.toList = u8s xs) (hx : ∀ x ∈ xs, Byte x) : By w (some ⟨b, 0, none⟩) xs.length xs.length xs := by
  refine ⟨rfl, Nat.le_refl _, fun e => by (cases e), hx, .inr ⟨b, 0, rfl, (Array.getElem?_eq_some_iff.1 hb).1, fun j u hu => ?_⟩⟩
  rw [Nat.zero_add, cell_of_row w b j cs t (0, 0) hb]
  rw [← hc] at hu
  simpa using hu
/-- A log after one record and a part of another one. -/
def x1L : List Int := recI [1, 2]
def x2L : List Int := x1L ++ (recI [3]).take 8
theorem byte12 : ∀ x ∈ ([1, 2] : List Int), Byte x := by simp [Byte]
theorem byte3 : ∀ x ∈ ([3] : List Int), Byte x := by simp [Byte]
theorem x1_byte : ∀ x ∈ x1L, Byte x := recI_byte (by simp) byte12
theorem x1_recs : recs 0 x1L = [(10, [1, 2])] := by
  have := recs_rec 0 [1, 2] [] (by simp)
  rw [List.append_nil] at this
  rw [x1L, this, recs_no (by rfl)]
  rfl
theorem x1_len : x1L.length = 10 := by rw [x1L, recI_length]; rfl
theorem x1_last : lastE (recs 0 x1L) = x1L.length := by rw [x1_recs, x1_len]; rfl
theorem x2_recs : recs 0 x2L = [(10, [1, 2])] := by
  rw [x2L, recs_cut x1_byte x1_last (by simp), x1_recs]
theorem x2_len : x2L.length = 18 := by
  rw [x2L, List.length_append, x1_len, List.length_take, recI_length]; rfl
theorem x2_byte : ∀ x ∈ x2L, Byte x := by
  intro x hx
  rcases List.mem_append.1 hx with h | h
  · exact x1_byte x h
  · exact recI_byte (by simp) byte3 x (List.mem_of_mem_take h)
theorem x2_last : lastE (recs 0 x2L) = 10 := by rw [x2_recs]; rfl
theorem x3_recs : recs 0 (x2L.take 10) = [(10, [1, 2])] := by
  have := recs_take x2_byte
  rw [x2_last] at this
  rw [this, x2_recs]
theorem by_new {w : World} {k : Nat} {xs : List Int} {cs : Array Value} (hc : cs.toList = u8s xs) (hk : xs.length = k) (hx : ∀ x ∈ xs, Byte x) : By (w.alloc (.cells cs 5)) (some ⟨w.heap.size, 0, none⟩) k k xs := by
  subst hk
  exact By.lit (heap_alloc_new w _) hc hx
/-- A log that was made behind w1: all else is as it was. -/
def Inv (w1 : World) (w : World) (s : Sl) (xs : List Int) : Prop := LogAt w w1.heap.size w1.heap.size s xs ∧ Below w1.heap.size w1 w
theorem Inv.below {w1 w w' : World} {s : Sl} {xs : List Int} (h : Inv w1 w s xs) (hb : Below w.heap.size w w') : Inv w1 w' s xs :=
  ⟨h.1.below hb, h.2.trans (hb.mono h.2.size)⟩
theorem Inv.keep {w1 w w' : World} {s s' : Sl} {xs xs' : List Int} (h : Inv w1 w s xs) (hl : LogAt w' w1.heap.size w1.heap.size s' xs') (hk : KeepL w1.heap.size s.a w w') : Inv w1 w' s' xs' :=
  ⟨hl, h.2.trans (hk.below (Nat.le_refl _) (fun _ e => (h.1.row.lt e).1) h.2.size)⟩
theorem Inv.wrote {w1 w w' : World} {s : Sl} {xs xs' : List Int} (h : Inv w1 w s xs) (hw : Wrote w1.heap.size w1.heap.size s w xs' w') : ∃ s', Inv w1 w' s' xs' := by
  obtain ⟨s', h1, h2, _⟩ := hw
  exact ⟨s', h.keep h1 h2⟩
set_option maxRecDepth 100000 in
set_option maxHeartbeats 8000000 in
theorem j14 (w : World) : Calls Try.prog 14 #[] w fun e w' => e = .returned (.bool true) ∧ Below w.heap.size w w' := by
  have hb0 : Below w.heap.size w (w.alloc (.cells #[.int .u8 97] 5)) := (Below.refl _ w).alloc (Nat.le_refl _) _
  have H10 : Calls Try.prog 10 #[.slice (some ⟨w.heap.size, 0, none⟩) 1 1] (w.alloc (.cells #[.int .u8 97] 5)) fun e w' => ∃ a' c', e = .returned (.tuple #[.slice a' 9 c', .int .i64 0]) ∧ Hid (By w' a' 9 c' (recI [97]) ∧ Below w.heap.size w w') := by
    have hby : By (w.alloc (.cells #[.int .u8 97] 5)) (some ⟨w.heap.size, 0, none⟩) 1 1 [97] := by_new rfl rfl (by simp [Byte])
    refine (j10 _ 1 1 [97] _ hby (by omega)).mono ?_
    rintro e w' ⟨a', c', rfl, hf⟩
    exact ⟨a', c', rfl, hf.1.by (recI_byte (by simp) (by simp [Byte])), hb0.trans (hf.2.mono hb0.size)⟩
  clear hb0
  go_enter Try.func14, Try.ntmps14
  go_wp2_with fail
  refine H10.mono ?_
  rintro e w1 ⟨a1, c1, rfl, hp1⟩
  go_wp2_with fail
  refine (j34 w1).mono ?_
  rintro e w2 ⟨rfl, hw2⟩
  have hp2 : Hid (Inv w1 w2 ⟨none, 0, 0⟩ []) := by
    rw [hw2]
    exact ⟨log_new w1 _, (Below.refl _ w1).alloc (Nat.le_refl _) _⟩
  clear hw2
  have H33 : Calls Try.prog 33 #[.pointer (some ⟨w1.heap.size, 0, none⟩), .slice (some ⟨w2.heap.size, 0, none⟩) 2 2] (w2.alloc (.cells #[.int .u8 1, .int .u8 2] 5)) fun e w' => e = .returned (.int .i64 0) ∧ ∃ s, Hid (Inv w1 w' s x1L) := by
    have hi := hp2.out.below ((Below.refl _ w2).alloc (Nat.le_refl _) (.cells #[.int .u8 1, .int .u8 2] 5))
    refine (j33 w1.heap.size w1.heap.size 2 2 (some ⟨w2.heap.size, 0, none⟩) ⟨none, 0, 0⟩ [] [1, 2] _ hi.1 hi.2.size (by simp) (by rfl) (by_new rfl rfl byte12) (by omega)).mono ?_
    rintro e w' ⟨rfl, hw⟩
    obtain ⟨s', h5⟩ := hi.wrote hw
    exact ⟨rfl, s', h5⟩
  obtain ⟨lb, hlb⟩ : ∃ lb, w1.heap.size = lb := ⟨_, rfl⟩
  rw [hlb] at H33 ⊢
  go_wp2_with fail
  refine H33.mono ?_
  rintro e w3 ⟨rfl, s3, hp3⟩
  have H36 : Calls Try.prog 36 #[.pointer (some ⟨lb, 0, none⟩), .slice (some ⟨w3.heap.size, 0, none⟩) 1 1, .int .i64 8] (w3.alloc (.cells #[.int .u8 3] 5)) fun e w' => e = .returned (.tuple #[.bool false, .int .i64 0]) ∧ ∃ s, Hid (Inv w1 w' s x2L) := by
    have hi := hp3.out.below ((Below.refl _ w3).alloc (Nat.le_refl _) (.cells #[.int .u8 3] 5))
    have hl := hi.1.len
    rw [x1_len] at hl
    rw [← hlb]
    refine (j36 w1.heap.size w1.heap.size 1 1 (some ⟨w3.heap.size, 0, none⟩) s3 x1L [3] 8 _ hi.1 hi.2.size (by omega) x1_last (by_new rfl rfl byte3) (by omega) (by omega)).mono ?_
    rintro e w' (⟨_, rfl, hw⟩ | ⟨h9, _⟩)
    · obtain ⟨s', h5⟩ := hi.wrote hw
      exact ⟨rfl, s', h5⟩
    · simp at h9
  clear H33 hp2
  go_wp2_with fail
  refine H36.mono ?_
  rintro e w4 ⟨rfl, s4, hp4⟩
  have H15 : Calls Try.prog 15 #[.slice a1 9 c1, .slice (some ⟨w4.heap.size, 0, none⟩) 9 9] (w4.alloc (.cells #[.int .u8 0, .int .u8 0, .int .u8 0, .int .u8 1, .int .u8 228, .int .u8 12, .int .u8 41, .int .u8 44, .int .u8 97] 5)) fun e w' => e = .returned (.bool true) ∧ Hid (Inv w1 w' s4 x2L) := by
    have hi := hp4.out.below ((Below.refl _ w4).alloc (Nat.le_refl _) (.cells #[.int .u8 0, .int .u8 0, .int .u8 0, .int .u8 1, .int .u8 228, .int .u8 12, .int .u8 41, .int .u8 44, .int .u8 97] 5))
    have hby2 : By (w4.alloc (.cells #[.int .u8 0, .int .u8 0, .int .u8 0, .int .u8 1, .int .u8 228, .int .u8 12, .int .u8 41, .int .u8 44, .int .u8 97] 5)) (some ⟨w4.heap.size, 0, none⟩) 9 9 [0, 0, 0, 1, 228, 12, 41, 44, 97] := by_new rfl rfl (by simp [Byte])
    refine (j15 a1 (some ⟨w4.heap.size, 0, none⟩) 9 c1 9 9 (recI [97]) [0, 0, 0, 1, 228, 12, 41, 44, 97] _ (hp1.out.1.below hi.2) hby2 (by omega) (by omega)).mono ?_
    rintro e w' ⟨rfl, d, rfl⟩
    exact ⟨by rw [rec97]; rfl, hi.below (below_dN (Below.refl _ _) _)⟩
  clear H36 hp3
  go_wp2_with fail
  refine H15.mono ?_
  rintro e w5 ⟨rfl, hp5⟩
  have hl5 : Hid (s4.n = 18) := by
    have := hp5.out.1.len
    rw [x2_len] at this
    exact this.symm
  have H32 : Calls Try.prog 32 #[.pointer (some ⟨lb, 0, none⟩)] w5 fun e w' => e = .returned (.bool true) ∧ Hid (Inv w1 w' s4 x2L) := by
    rw [← hlb]
    refine (j32 _ _ s4 x2L w5 hp5.out.1 (by rw [hl5.out]; omega)).mono ?_
    rintro e w' ⟨rfl, d, rfl⟩
    exact ⟨by rw [show tornB x2L = true by simp [tornB, x2_last, x2_len]], hp5.out.below (below_dN (Below.refl _ _) _)⟩
  clear H15 hp4
  go_wp2_with fail
  refine H32.mono ?_
  rintro e w6 ⟨rfl, hp6⟩
  have H33b : Calls Try.prog 33 #[.pointer (some ⟨lb, 0, none⟩), .slice none 0 0] w6 fun e w' => e = .returned (.int .i64 140) ∧ Hid (Inv w1 w' s4 x2L) := by
    rw [← hlb]
    refine (j33_torn _ _ s4 x2L _ w6 hp6.out.1 (by rw [hl5.out]; omega) (by rw [x2_last, x2_len]; omega)).mono ?_
    rintro e w' ⟨rfl, d, rfl⟩
    exact ⟨rfl, hp6.out.below (below_dN (Below.refl _ _) _)⟩
  clear H32 hp5
  go_wp2_with fail
  refine H33b.mono ?_
  rintro e w7 ⟨rfl, hp7⟩
  have H31 : Calls Try.prog 31 #[.pointer (some ⟨lb, 0, none⟩)] w7 fun e w' => e = .returned (.int .i64 8) ∧ ∃ s, Hid (Inv w1 w' s (x2L.take 10) ∧ s.n = 10) := by
    rw [← hlb]
    refine (j31 _ _ s4 x2L w7 hp7.out.1 (by rw [hl5.out]; omega)).mono ?_
    rintro e w' ⟨rfl, h1, h2⟩
    rw [x2_last] at h1
    exact ⟨by rw [x2_last, hl5.out]; rfl, _, hp7.out.keep h1 h2, rfl⟩
  clear H33b hp6
  go_wp2_with fail
  refine H31.mono ?_
  rintro e w8 ⟨rfl, s8, hp8⟩
  have H32b : Calls Try.prog 32 #[.pointer (some ⟨lb, 0, none⟩)] w8 fun e w' => e = .returned (.bool false) ∧ Hid (Inv w1 w' s8 (x2L.take 10) ∧ s8.n = 10) := by
    rw [← hlb]
    refine (j32 _ _ s8 (x2L.take 10) w8 hp8.out.1.1 (by rw [hp8.out.2]; omega)).mono ?_
    rintro e w' ⟨rfl, d, rfl⟩
    refine ⟨?_, hp8.out.1.below (below_dN (Below.refl _ _) _), hp8.out.2⟩
    have : tornB (x2L.take 10) = false := by
      simp only [tornB, x3_recs, List.length_take, x2_len]; rfl
    rw [this]
  clear H31 hp7
  go_wp2_with fail
  refine H32b.mono ?_
  rintro e w9 ⟨rfl, hp9⟩
  have H30 : Calls Try.prog 30 #[.pointer (some ⟨lb, 0, none⟩)] w9 fun e w' => ∃ ra rc, e = .returned (.slice ra 1 rc) ∧ Hid (Below w.heap.size w w') := by
    rw [← hlb]
    have := j30 _ _ s8 (x2L.take 10) w9 hp9.out.1.1 (by rw [hp9.out.2]; omega)
    rw [x3_recs] at this
    refine this.mono ?_
    rintro e w' ⟨ra, rc, rfl, l, _, _, _, hb⟩
    refine ⟨ra, rc, rfl, hp1.out.2.trans ((hp9.out.1.2.trans (hb.mono hp9.out.1.2.size)).mono hp1.out.2.size)⟩
  clear H32b hp8
  go_wp2_with fail
  refine H30.mono ?_
  rintro e w10 ⟨ra, rc, rfl, hfin⟩
  go_wp2_with fail
  go_ret
  exact ⟨rfl, hfin.out⟩
set_option maxRecDepth 100000 in
set_option maxHeartbeats 4000000 in
theorem j8 (a : Option Addr) (n c : Nat) (k : Int) (w : World) : Calls Try.prog 8 #[.slice a n c, .int .i64 k] w fun e w' => e = .returned (.bool true) ∧ Below w.heap.size w w' := by
  go_enter Try.func8, Try.ntmps8
  go_wp2_with (first | (go_at_call 36; refine (j36_nil _ _ _).mono ?_; rintro e w' ⟨rfl, hw⟩; obtain rfl := hw.symm) | (go_at_call 35; refine (j35_nil _).mono ?_; rintro e w' ⟨rfl, hw⟩; obtain rfl := hw.symm))
  refine (j14 w).mono ?_
  rintro e w1 ⟨rfl, hb⟩
  have HB : Hid (Below w.heap.size w w1) := hb
  clear hb
  go_wp2_with fail
  refine (j33_nil _ _).mono ?_
  rintro e w2 ⟨rfl, hw⟩
  obtain rfl := hw.symm
  go_wp2_with fail
  refine (j32_nil _).mono ?_
  rintro e w2 ⟨rfl, hw⟩
  obtain rfl := hw.symm
  go_wp2_with fail
  refine (j31_nil _).mono ?_
  rintro e w2 ⟨rfl, hw⟩
  obtain rfl := hw.symm
  go_wp2_with fail
  refine (j30_nil _).mono ?_
  rintro e w2 ⟨rfl, hw⟩
  obtain rfl := hw.symm
  go_wp2_with fail
  refine (j28_nil _).mono ?_
  rintro e w2 ⟨rfl, hw⟩
  obtain rfl := hw.symm
  go_wp2_with fail
  refine (j26_nil _).mono ?_
  rintro e w2 ⟨rfl, hw⟩
  obtain rfl := hw.symm
  go_wp2_with fail
  go_ret
  exact ⟨rfl, HB.out⟩
end Go.Proofs.Ythomdgafaffphaa
