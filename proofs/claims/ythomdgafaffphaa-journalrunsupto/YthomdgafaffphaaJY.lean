/- Contracts of the reference's log: Open, Fork, Torn, Payloads, record. -/
import Derived.Test.YthomdgafaffphaaJX
namespace Go.Proofs.Ythomdgafaffphaa
open Go.RowKit
attribute [local go_sem ↓] Go.wp_at_zero Go.wp_at_succ
/-- The reference's log in memory: its bytes are its own. -/
structure RfAt (w : World) (rb B : Nat) (s : Sl) (xs : List Int) : Prop where
  blk : w.heap[rb]? = some (.cells #[.slice s.a s.n s.c] 58 (0, 0))
  hb : B ≤ rb
  row : Row w B 5 s.a s.n s.c (u8s xs)
  rng : ∀ x ∈ xs, Byte x
theorem RfAt.below {w w' : World} {rb B : Nat} {s : Sl} {xs : List Int} (h : RfAt w rb B s xs) (hb : Below w.heap.size w w') : RfAt w' rb B s xs :=
  ⟨(hb.block rb (Array.getElem?_eq_some_iff.1 h.blk).1).trans h.blk, h.hb, h.row.below hb, h.rng⟩
theorem RfAt.by {w : World} {rb B : Nat} {s : Sl} {xs : List Int} (h : RfAt w rb B s xs) : By w s.a s.n s.c xs := h.row.by h.rng
theorem RfAt.cell {w : World} {rb B : Nat} {s : Sl} {xs : List Int} (h : RfAt w rb B s xs) : w.cell? ⟨rb, 0, none⟩ = some (.slice s.a s.n s.c) ∧ w.frozen? ⟨rb, 0, none⟩ = false :=
  ⟨by rw [cell_of_row w rb 0 _ 58 (0, 0) h.blk]; rfl, frozen_of_row w rb 0 _ 58 h.blk⟩
/-- A log that was made behind w. -/
def RfNew (w : World) (g : Nat) (xs : List Int) (w' : World) : Prop := (∃ s, RfAt w' g w.heap.size s xs) ∧ Below w.heap.size w w'
set_option maxRecDepth 100000 in
set_option maxHeartbeats 1000000 in
theorem j24 (a : Option Addr) (n c : Nat) (xs : List Int) (w : World) (h : By w a n c xs) (hn : n ≤ 140737488355328) :
    Calls Try.prog 24 #[.slice a n c] w fun e w' => ∃ g, e = .returned (.pointer (some ⟨g, 0, none⟩)) ∧ RfNew w g xs w' := by
  obtain ⟨i0, hi, hz, hs, hb0⟩ := infoU8
  have HR0 : Hid (Row (w.alloc (.cells #[] 5)) w.heap.size 5 (some ⟨w.heap.size, 0, none⟩) 0 0 [] ∧ Below w.heap.size w (w.alloc (.cells #[] 5))) := ⟨⟨rfl, Nat.le_refl _, Nat.zero_le _, .inr ⟨_, _, rfl, Nat.le_refl _, heap_alloc_new w _, Nat.le_refl _, rfl⟩⟩, (Below.refl _ w).alloc (Nat.le_refl _) _⟩
  have HB : Hid (By w a n c xs) := h
  clear h
  go_enter Try.func24, Try.ntmps24
  go_wp2_with (at_builtin; refine wpList_append_row _ rfl _ _ 22 rfl w.heap.size 5 i0 (.int .u8 0) 1 Try.underlying22 hi hz hs hb0 rfl (some ⟨w.heap.size, 0, none⟩) 0 0 [] rfl HR0.out.1 a n c (u8s xs) rfl (HB.out.below HR0.out.2).reads (u8s_one _) HB.out.nil0 (by unfold maxLen; omega) (by omega) HR0.out.2.size ?_)
  intro a' c' w' hr' hg' ho' hx' hy'
  have HF : Hid (Fresh w a' n c' xs w') := ⟨by simpa using hr', HR0.out.2.grown hg' HR0.out.2.size (fun g hg => (HR0.out.1.lt hg).1)⟩
  clear hr' hg' ho' hx' hy'
  try simp only [Nat.zero_add]
  have HN : Hid (RfNew w w'.heap.size xs (w'.alloc (.cells #[.slice a' n c'] 58))) :=
    ⟨⟨⟨a', n, c'⟩, heap_alloc_new w' _, HF.out.2.size, HF.out.1.alloc _, HB.out.rng⟩, HF.out.2.alloc HF.out.2.size _⟩
  go_wp2_with fail
  go_ret
  exact ⟨_, rfl, HN.out⟩
set_option maxRecDepth 100000 in
theorem j27 (rb B : Nat) (s : Sl) (xs : List Int) (w : World) (h : RfAt w rb B s xs) (hn : s.n ≤ 140737488355328) :
    Calls Try.prog 27 #[.pointer (some ⟨rb, 0, none⟩)] w fun e w' => ∃ g, e = .returned (.pointer (some ⟨g, 0, none⟩)) ∧ RfNew w g xs w' := by
  have H24 := j24 s.a s.n s.c xs w h.by hn
  obtain ⟨c0, f0⟩ := h.cell
  clear h
  go_enter Try.func27, Try.ntmps27
  go_wp2_with fail
  refine H24.mono ?_
  rintro e w1 ⟨g, rfl, hN⟩
  have HN : Hid (RfNew w g xs w1) := hN
  clear hN H24
  go_wp2_with fail
  go_ret
  exact ⟨_, rfl, HN.out⟩
theorem tornE_eq (xs : List Int) : tornE xs = if tornB xs = true then 140 else 0 := by simp [tornE, tornB]
set_option maxRecDepth 100000 in
theorem j48 (rb B : Nat) (s : Sl) (xs : List Int) (w : World) (h : RfAt w rb B s xs) (hn : s.n ≤ 1000000000) :
    Calls Try.prog 48 #[.pointer (some ⟨rb, 0, none⟩)] w fun e w' => e = .returned (.bool (tornB xs)) ∧ Below w.heap.size w w' := by
  have H13 : Calls Try.prog 13 #[.slice s.a s.n s.c] w fun e w' => ∃ ra rc, e = .returned (.tuple #[.slice ra (recs 0 xs).length rc, .int .i64 (lastE (recs 0 xs)), .int .i64 (tornE xs)]) ∧ Hid (Below w.heap.size w w') := by
    refine (j13 s.a s.n s.c xs w h.by hn).mono ?_
    rintro e w' ⟨ra, rc, rfl, _, _, _, _, hb⟩
    exact ⟨ra, rc, rfl, hb⟩
  obtain ⟨c0, f0⟩ := h.cell
  clear h
  rw [tornE_eq] at H13
  cases htb : tornB xs <;> simp only [htb, if_true, if_false, Bool.false_eq_true] at H13
  all_goals (
    go_enter Try.func48, Try.ntmps48
    go_wp2_with fail
    refine H13.mono ?_
    rintro e w1 ⟨ra, rc, rfl, HN⟩
    clear H13
    go_wp2_with fail
    go_ret
    exact ⟨rfl, HN.out⟩)
set_option maxRecDepth 100000 in
theorem j49 (rb B : Nat) (s : Sl) (xs : List Int) (w : World) (h : RfAt w rb B s xs) (hn : s.n ≤ 1000000000) :
    Calls Try.prog 49 #[.pointer (some ⟨rb, 0, none⟩)] w fun e w' => ∃ ra rc, e = .returned (.slice ra (recs 0 xs).length rc) ∧ (∃ l, Pl w' ra (recs 0 xs).length rc l ((recs 0 xs).map (·.2))) ∧ Below w.heap.size w w' := by
  have H13 : Calls Try.prog 13 #[.slice s.a s.n s.c] w fun e w' => ∃ ra rc, e = .returned (.tuple #[.slice ra (recs 0 xs).length rc, .int .i64 (lastE (recs 0 xs)), .int .i64 (tornE xs)]) ∧ Hid ((∃ l, Pl w' ra (recs 0 xs).length rc l ((recs 0 xs).map (·.2))) ∧ Below w.heap.size w w') := by
    refine (j13 s.a s.n s.c xs w h.by hn).mono ?_
    rintro e w' ⟨ra, rc, rfl, ht⟩
    obtain ⟨_, _, _, _, hb⟩ := id ht
    exact ⟨ra, rc, rfl, rtold_pl ht (List.length_map _) (h.by.below hb), hb⟩
  obtain ⟨c0, f0⟩ := h.cell
  clear h
  go_enter Try.func49, Try.ntmps49
  go_wp2_with fail
  refine H13.mono ?_
  rintro e w1 ⟨ra, rc, rfl, HN⟩
  clear H13
  go_wp2_with fail
  go_ret
  exact ⟨ra, rc, rfl, HN.out⟩
set_option maxRecDepth 100000 in
theorem j61_torn (rb B : Nat) (s : Sl) (xs : List Int) (a : Option Addr) (n c : Nat) (w : World) (h : RfAt w rb B s xs) (hn : s.n ≤ 1000000000) (ht : tornB xs = true) :
    Calls Try.prog 61 #[.pointer (some ⟨rb, 0, none⟩), .slice a n c] w fun e w' => e = .returned (.tuple #[.slice none 0 0, .int .i64 140]) ∧ Below w.heap.size w w' := by
  have H48 := j48 rb B s xs w h hn
  rw [ht] at H48
  clear h
  go_enter Try.func61, Try.ntmps61
  go_wp2_with fail
  refine H48.mono ?_
  rintro e w1 ⟨rfl, hb⟩
  have HB : Hid (Below w.heap.size w w1) := hb
  clear hb H48
  go_wp2_with fail
  go_ret2
  exact ⟨rfl, HB.out⟩
set_option maxRecDepth 100000 in
theorem j61 (rb B : Nat) (s : Sl) (xs : List Int) (a : Option Addr) (n c : Nat) (p : List Int) (w : World) (h : RfAt w rb B s xs) (hn : s.n ≤ 1000000000) (ht : tornB xs = false) (hp : By w a n c p) (hpn : n ≤ 140737488355328) :
    Calls Try.prog 61 #[.pointer (some ⟨rb, 0, none⟩), .slice a n c] w fun e w' => ∃ a' c', e = .returned (.tuple #[.slice a' (rN n) c', .int .i64 (rE n)]) ∧ Fresh w a' (rN n) c' (rX n p) w' := by
  have H48 := j48 rb B s xs w h hn
  rw [ht] at H48
  have HP : Hid (By w a n c p) := hp
  clear h hp
  go_enter Try.func61, Try.ntmps61
  go_wp2_with fail
  refine H48.mono ?_
  rintro e w1 ⟨rfl, hb⟩
  have H11 : Calls Try.prog 11 #[.slice a n c] w1 fun e w' => ∃ a' c', e = .returned (.tuple #[.slice a' (rN n) c', .int .i64 (rE n)]) ∧ Hid (Fresh w a' (rN n) c' (rX n p) w') := by
    refine (j11u a n c p w1 (HP.out.below hb) hpn).mono ?_
    rintro e w' ⟨a', c', rfl, hf⟩
    exact ⟨a', c', rfl, hf.1.base hb.size, hb.trans (hf.2.mono hb.size)⟩
  clear hb H48
  go_wp2_with fail
  refine H11.mono ?_
  rintro e w2 ⟨a', c', rfl, HF⟩
  clear H11
  go_wp2_with fail
  go_ret2
  exact ⟨a', c', rfl, HF.out⟩
end Go.Proofs.Ythomdgafaffphaa
