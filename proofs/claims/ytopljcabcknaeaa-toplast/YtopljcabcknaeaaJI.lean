/- Contracts of Cut and Append. -/
import Derived.Test.YtopljcabcknaeaaJH
namespace Go.Proofs.Ytopljcabcknaeaa
open Go.RowKit
theorem wrote_from {w w2 w3 : World} {lb B : Nat} {s : Sl} {xs : List Int} (hb : Below w.heap.size w w2) (h : Wrote lb B s w2 xs w3) : Wrote lb B s w xs w3 := by
  obtain ⟨s', h1, h2, h3⟩ := h
  refine ⟨s', h1, ⟨h2.os.trans hb.os, h2.tape.trans hb.tape, h2.output.trans hb.output, Nat.le_trans hb.size h2.size, fun k hk h5 h6 => (h2.block k (Nat.lt_of_lt_of_le hk hb.size) h5 h6).trans (hb.block k hk)⟩, ?_⟩
  rcases h3 with e | ⟨g, e, hl⟩
  · exact .inl e
  · exact .inr ⟨g, e, Nat.le_trans hb.size hl⟩
set_option maxRecDepth 100000 in
theorem j36_nil (v : Value) (n : Int) (w : World) : Calls Try.prog 14 #[.pointer none, v, .int .i64 n] w fun e w' => e = .returned (.tuple #[.bool false, .int .i64 1]) ∧ w' = w := by
  go_enter Try.func14, Try.ntmps14
  go_wp2_with fail
  go_ret2
  exact ⟨rfl, rfl⟩
set_option maxRecDepth 100000 in
set_option maxHeartbeats 1000000 in
theorem j36_torn (lb B : Nat) (s : Sl) (xs : List Int) (v : Value) (n : Int) (w : World) (h : LogAt w lb B s xs) (hn : s.n ≤ 140737488355328) (ht : lastE (recs 0 xs) < xs.length) :
    Calls Try.prog 14 #[.pointer (some ⟨lb, 0, none⟩), v, .int .i64 n] w fun e w' => e = .returned (.tuple #[.bool false, .int .i64 140]) ∧ ∃ d, w' = w.drewN d := by
  have H56 := j56 lb B s xs w h hn
  rw [h.len] at ht
  have hg : (0 : Int) < (s.n : Int) - (lastE (recs 0 xs) : Int) := by omega
  generalize (s.n : Int) - (lastE (recs 0 xs) : Int) = tl at *
  clear h ht
  go_enter Try.func14, Try.ntmps14
  go_wp2_with fail
  refine H56.mono ?_
  rintro e w1 ⟨rfl, d, rfl⟩
  go_wp2_with fail
  go_ret2
  exact ⟨rfl, _, rfl⟩
set_option maxRecDepth 100000 in
set_option maxHeartbeats 1000000 in
theorem j36_long (lb B pn pc : Nat) (pa : Option Addr) (s : Sl) (xs : List Int) (n : Int) (w : World) (h : LogAt w lb B s xs) (hn : s.n ≤ 140737488355328) (hf : lastE (recs 0 xs) = xs.length) (hp : 131072 < pn) (hpn : pn ≤ 140737488355328) :
    Calls Try.prog 14 #[.pointer (some ⟨lb, 0, none⟩), .slice pa pn pc, .int .i64 n] w fun e w' => e = .returned (.tuple #[.bool false, .int .i64 5]) ∧ ∃ d, w' = w.drewN d := by
  have H56 := j56 lb B s xs w h hn
  have e0 : (s.n : Int) - (lastE (recs 0 xs) : Int) = 0 := by rw [hf, h.len]; omega
  rw [e0] at H56
  clear h hf e0
  go_enter Try.func14, Try.ntmps14
  go_wp2_with fail
  refine H56.mono ?_
  rintro e w1 ⟨rfl, d, rfl⟩
  go_wp2_with fail
  refine (j10_long pa pn pc _ hpn hp).mono ?_
  rintro e w2 ⟨rfl, rfl⟩
  go_wp2_with fail
  go_ret2
  exact ⟨rfl, _, rfl⟩
set_option maxRecDepth 100000 in
set_option maxHeartbeats 1000000 in
theorem j36_neg (lb B pn pc : Nat) (pa : Option Addr) (s : Sl) (xs p : List Int) (n : Int) (w : World) (h : LogAt w lb B s xs) (hn : s.n ≤ 140737488355328) (hf : lastE (recs 0 xs) = xs.length) (hpb : By w pa pn pc p) (hp : pn ≤ 131072) (hng : n < 0) :
    Calls Try.prog 14 #[.pointer (some ⟨lb, 0, none⟩), .slice pa pn pc, .int .i64 n] w fun e w' => e = .returned (.tuple #[.bool false, .int .i64 2]) ∧ Below w.heap.size w w' := by
  have H56 := j56 lb B s xs w h hn
  have e0 : (s.n : Int) - (lastE (recs 0 xs) : Int) = 0 := by rw [hf, h.len]; omega
  rw [e0] at H56
  have HPB : Hid (By w pa pn pc p) := hpb
  clear h hf e0 hpb
  go_enter Try.func14, Try.ntmps14
  go_wp2_with fail
  refine H56.mono ?_
  rintro e w1 ⟨rfl, d, rfl⟩
  go_wp2_with fail
  refine (j10 pa pn pc p (w.drewN d) (HPB.out.below (below_dN (Below.refl _ _) _)) hp).mono ?_
  rintro e w2 ⟨ra, rc, rfl, hfr⟩
  have HB : Hid (Below w.heap.size w w2) := (below_dN (Below.refl _ w) d).trans hfr.2
  clear hfr
  go_wp2_with fail
  go_ret2
  exact ⟨rfl, HB.out⟩
theorem fresh_some {w w2 : World} {ra : Option Addr} {n rc : Nat} {p : List Int} (h : Fresh w ra (8 + n) rc (recI p) w2) (hl : p.length = n) (hp : n ≤ 131072) (hb : ∀ x ∈ p, Byte x) : ∃ rb, ra = some ⟨rb, 0, none⟩ ∧ By w2 ra (8 + p.length) rc (recI p) := by
  have hby := h.1.by (recI_byte (by omega) hb)
  rcases h.1.mem with ⟨_, e⟩ | ⟨g, cu, e, _⟩
  · have := h.1.cap; omega
  · exact ⟨g, e, by rw [hl]; exact hby⟩
/-- What Cut answers of a log that is not torn, and a payload that is not too long. -/
def CutPost (lb B : Nat) (s : Sl) (xs p : List Int) (n : Int) (w : World) (e : Ending) (w' : World) : Prop :=
  (n < ((8 + p.length : Nat) : Int) ∧ e = .returned (.tuple #[.bool false, .int .i64 0]) ∧ Wrote lb B s w (xs ++ (recI p).take n.toNat) w') ∨
  (((8 + p.length : Nat) : Int) ≤ n ∧ e = .returned (.tuple #[.bool true, .int .i64 0]) ∧ Wrote lb B s w (xs ++ recI p) w')
set_option maxRecDepth 100000 in
set_option maxHeartbeats 1000000 in
theorem j36 (lb B pn pc : Nat) (pa : Option Addr) (s : Sl) (xs p : List Int) (n : Int) (w : World) (h : LogAt w lb B s xs) (hB : B ≤ w.heap.size) (hn : s.n + (8 + pn) ≤ 140737488355328) (hf : lastE (recs 0 xs) = xs.length) (hpb : By w pa pn pc p) (hp : pn ≤ 131072) (hng : 0 ≤ n) :
    Calls Try.prog 14 #[.pointer (some ⟨lb, 0, none⟩), .slice pa pn pc, .int .i64 n] w (CutPost lb B s xs p n w) := by
  have H56 := j56 lb B s xs w h (by omega)
  have e0 : (s.n : Int) - (lastE (recs 0 xs) : Int) = 0 := by rw [hf, h.len]; omega
  rw [e0] at H56
  have HH : Hid (LogAt w lb B s xs) := h
  have HF : Hid (lastE (recs 0 xs) = xs.length) := hf
  have HPB : Hid (By w pa pn pc p) := hpb
  have HPL : Hid (p.length = pn) := hpb.len
  have hng1 : ¬ n < 0 := by omega
  clear h hf e0 hpb
  go_enter Try.func14, Try.ntmps14
  go_wp2_with fail
  refine H56.mono ?_
  rintro e w1 ⟨rfl, d, rfl⟩
  go_wp2_with fail
  refine (j10 pa pn pc p (w.drewN d) (HPB.out.below (below_dN (Below.refl _ _) _)) hp).mono ?_
  rintro e w2 ⟨ra, rc, rfl, hfr⟩
  have hb2 : Below w.heap.size w w2 := (below_dN (Below.refl _ w) d).trans hfr.2
  obtain ⟨rb, rfl, hrb⟩ := fresh_some hfr HPL.out hp HPB.out.rng
  have H57 : Calls Try.prog 25 #[.pointer (some ⟨lb, 0, none⟩), .slice (some ⟨rb, 0, none⟩) (8 + pn) rc, .int .i64 n] w2 fun e w' => ∃ b, e = .returned (.bool b) ∧ Hid (CutPost lb B s xs p n w (.returned (.tuple #[.bool b, .int .i64 0])) w') := by
    have hPL := HPL.out
    have hB2 : B ≤ w2.heap.size := Nat.le_trans hB hb2.size
    by_cases hc : n < ((8 + p.length : Nat) : Int)
    · have := j57_part lb B rb rc n.toNat s xs p w2 (HH.out.below hb2) hB2 HF.out (by omega) hrb (by omega) (by omega)
      rw [hPL, Int.toNat_of_nonneg hng] at this
      refine this.mono ?_
      rintro e w' ⟨rfl, hw⟩
      exact ⟨false, rfl, .inl ⟨hc, rfl, wrote_from hb2 hw⟩⟩
    · have := j57_all lb B rb rc n s xs p w2 (HH.out.below hb2) hB2 HF.out (by omega) hrb (by omega) (by omega)
      rw [hPL] at this
      refine this.mono ?_
      rintro e w' ⟨rfl, hw⟩
      exact ⟨true, rfl, .inr ⟨by omega, rfl, wrote_from hb2 hw⟩⟩
  clear hfr hrb hb2
  go_wp2_with fail
  refine H57.mono ?_
  rintro e w3 ⟨b, rfl, hP⟩
  go_wp2_with fail
  go_ret2
  exact hP.out
set_option maxRecDepth 100000 in
theorem j33_nil (v : Value) (w : World) : Calls Try.prog 6 #[.pointer none, v] w fun e w' => e = .returned (.int .i64 1) ∧ w' = w := by
  go_enter Try.func6, Try.ntmps6
  go_wp2_with fail
  refine (j36_nil v _ w).mono ?_
  rintro e w1 ⟨rfl, rfl⟩
  go_wp2_with fail
  go_ret
  exact ⟨rfl, rfl⟩
set_option maxRecDepth 100000 in
theorem j33_torn (lb B : Nat) (s : Sl) (xs : List Int) (v : Value) (w : World) (h : LogAt w lb B s xs) (hn : s.n ≤ 140737488355328) (ht : lastE (recs 0 xs) < xs.length) :
    Calls Try.prog 6 #[.pointer (some ⟨lb, 0, none⟩), v] w fun e w' => e = .returned (.int .i64 140) ∧ ∃ d, w' = w.drewN d := by
  have H := fun n => j36_torn lb B s xs v n w h hn ht
  clear h ht
  go_enter Try.func6, Try.ntmps6
  go_wp2_with fail
  refine (H _).mono ?_
  rintro e w1 ⟨rfl, d, rfl⟩
  go_wp2_with fail
  go_ret
  exact ⟨rfl, _, rfl⟩
set_option maxRecDepth 100000 in
theorem j33_long (lb B pn pc : Nat) (pa : Option Addr) (s : Sl) (xs : List Int) (w : World) (h : LogAt w lb B s xs) (hn : s.n ≤ 140737488355328) (hf : lastE (recs 0 xs) = xs.length) (hp : 131072 < pn) (hpn : pn ≤ 140737488355328) :
    Calls Try.prog 6 #[.pointer (some ⟨lb, 0, none⟩), .slice pa pn pc] w fun e w' => e = .returned (.int .i64 5) ∧ ∃ d, w' = w.drewN d := by
  have H := fun n => j36_long lb B pn pc pa s xs n w h hn hf hp hpn
  clear h hf
  go_enter Try.func6, Try.ntmps6
  go_wp2_with fail
  refine (H _).mono ?_
  rintro e w1 ⟨rfl, d, rfl⟩
  go_wp2_with fail
  go_ret
  exact ⟨rfl, _, rfl⟩
set_option maxRecDepth 100000 in
theorem j33 (lb B pn pc : Nat) (pa : Option Addr) (s : Sl) (xs p : List Int) (w : World) (h : LogAt w lb B s xs) (hB : B ≤ w.heap.size) (hn : s.n + (8 + pn) ≤ 140737488355328) (hf : lastE (recs 0 xs) = xs.length) (hpb : By w pa pn pc p) (hp : pn ≤ 131072) :
    Calls Try.prog 6 #[.pointer (some ⟨lb, 0, none⟩), .slice pa pn pc] w fun e w' => e = .returned (.int .i64 0) ∧ Wrote lb B s w (xs ++ recI p) w' := by
  have hl := hpb.len
  have H : Calls Try.prog 14 #[.pointer (some ⟨lb, 0, none⟩), .slice pa pn pc, .int .i64 9223372036854775807] w fun e w' => e = .returned (.tuple #[.bool true, .int .i64 0]) ∧ Hid (Wrote lb B s w (xs ++ recI p) w') := by
    refine (j36 lb B pn pc pa s xs p 9223372036854775807 w h hB hn hf hpb hp (by omega)).mono ?_
    rintro e w' (⟨h1, _⟩ | ⟨_, rfl, h3⟩)
    · omega
    · exact ⟨rfl, h3⟩
  clear h hf hpb
  go_enter Try.func6, Try.ntmps6
  go_wp2_with fail
  refine H.mono ?_
  rintro e w1 ⟨rfl, hw⟩
  go_wp2_with fail
  go_ret
  exact ⟨rfl, hw.out⟩
end Go.Proofs.Ytopljcabcknaeaa
