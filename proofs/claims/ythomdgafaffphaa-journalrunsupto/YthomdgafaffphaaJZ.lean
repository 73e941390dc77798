/- Contracts of the reference's log: Append, Cut, Mend. -/
import Derived.Test.YthomdgafaffphaaJY
namespace Go.Proofs.Ythomdgafaffphaa
open Go.RowKit
attribute [local go_sem ↓] Go.wp_at_zero Go.wp_at_succ
/-- A reference's log after something was written: new bytes; all blocks but its own stay. -/
def RfTo (w : World) (rb B : Nat) (sa : Option Addr) (ys : List Int) (w' : World) : Prop :=
  (∃ s', RfAt w' rb B s' ys ∧ (s'.a = sa ∨ ∀ g, blk s'.a = some g → w.heap.size ≤ g)) ∧ w'.os = w.os ∧ w'.tape = w.tape ∧ w'.output = w.output ∧ w.heap.size ≤ w'.heap.size ∧ ∀ k, k < w.heap.size → k ≠ rb → w'.heap[k]? = w.heap[k]?
theorem RfTo.of {w w' : World} {rb B : Nat} {s : Sl} {xs : List Int} (h : RfAt w rb B s xs) (hb : Below w.heap.size w w') : RfTo w rb B s.a xs w' := ⟨⟨s, h.below hb, .inl rfl⟩, hb.os, hb.tape, hb.output, hb.size, fun k hk _ => hb.block k hk⟩
theorem rf_store {w w4 : World} {rb B : Nat} {s : Sl} {xs ys : List Int} {a' : Option Addr} {n' c' : Nat} (h : RfAt w rb B s xs) (hB : B ≤ w.heap.size) (hb : Below w.heap.size w w4) (hr : Row w4 w.heap.size 5 a' n' c' (u8s ys)) (hy : ∀ x ∈ ys, Byte x) :
    (w4.cell? ⟨rb, 0, none⟩ = some (.slice s.a s.n s.c) ∧ w4.frozen? ⟨rb, 0, none⟩ = false) ∧ RfTo w rb B s.a ys (w4.setCell ⟨rb, 0, none⟩ (.slice a' n' c')) := by
  have h4 := h.below hb
  have e2 : blk a' ≠ some rb := fun e => by
    obtain ⟨cu, h6⟩ := hr.type e
    rw [h4.blk] at h6; cases h6
  have b6 := (Below.refl rb w4).setCell (p := ⟨rb, 0, none⟩) (Nat.le_refl _) (.slice a' n' c')
  refine ⟨h4.cell, ⟨⟨a', n', c'⟩, ⟨?_, h.hb, (hr.other _ e2).base hB, hy⟩, .inr fun g hg => (hr.lt hg).1⟩, b6.os.trans hb.os, b6.tape.trans hb.tape, b6.output.trans hb.output, Nat.le_trans hb.size b6.size, fun k hk hne => by rw [heap_setCell_other _ _ _ _ hne, hb.block k hk]⟩
  rw [heap_setCell_same w4 rb 0 _ 58 _ h4.blk]; rfl
set_option maxRecDepth 100000 in
theorem j51_torn (rb B : Nat) (s : Sl) (xs : List Int) (a : Option Addr) (n c : Nat) (w : World) (h : RfAt w rb B s xs) (hn : s.n ≤ 1000000000) (ht : tornB xs = true) :
    Calls Try.prog 51 #[.pointer (some ⟨rb, 0, none⟩), .slice a n c] w fun e w' => e = .returned (.int .i64 140) ∧ RfTo w rb B s.a xs w' := by
  have H61 := j61_torn rb B s xs a n c w h hn ht
  have HH : Hid (RfAt w rb B s xs) := h
  clear h
  go_enter Try.func51, Try.ntmps51
  go_wp2_with fail
  refine H61.mono ?_
  rintro e w1 ⟨rfl, hb⟩
  have HB : Hid (RfTo w rb B s.a xs w1) := RfTo.of HH.out hb
  clear hb H61
  go_wp2_with fail
  go_ret
  exact ⟨rfl, HB.out⟩
set_option maxRecDepth 100000 in
theorem j51_long (rb B : Nat) (s : Sl) (xs : List Int) (a : Option Addr) (n c : Nat) (p : List Int) (w : World) (h : RfAt w rb B s xs) (hn : s.n ≤ 1000000000) (ht : tornB xs = false) (hp : By w a n c p) (hpn : n ≤ 140737488355328) (hl : 131072 < n) :
    Calls Try.prog 51 #[.pointer (some ⟨rb, 0, none⟩), .slice a n c] w fun e w' => e = .returned (.int .i64 5) ∧ RfTo w rb B s.a xs w' := by
  have H61 := j61 rb B s xs a n c p w h hn ht hp hpn
  simp only [rN, rE, rX, if_pos hl] at H61
  have HH : Hid (RfAt w rb B s xs) := h
  clear h hp
  go_enter Try.func51, Try.ntmps51
  go_wp2_with fail
  refine H61.mono ?_
  rintro e w1 ⟨a', c', rfl, hf⟩
  have HB : Hid (RfTo w rb B s.a xs w1) := RfTo.of HH.out hf.2
  clear hf H61
  go_wp2_with fail
  go_ret
  exact ⟨rfl, HB.out⟩
set_option maxRecDepth 100000 in
set_option maxHeartbeats 2000000 in
theorem j51 (rb B : Nat) (s : Sl) (xs : List Int) (a : Option Addr) (n c : Nat) (p : List Int) (w : World) (h : RfAt w rb B s xs) (hB : B ≤ w.heap.size) (hn : s.n ≤ 1000000000) (ht : tornB xs = false) (hp : By w a n c p) (hl : n ≤ 131072) :
    Calls Try.prog 51 #[.pointer (some ⟨rb, 0, none⟩), .slice a n c] w fun e w' => e = .returned (.int .i64 0) ∧ RfTo w rb B s.a (xs ++ recI p) w' := by
  obtain ⟨i0, hi, hz, hs, hb0⟩ := infoU8
  have H61 := j61 rb B s xs a n c p w h hn ht hp (by omega)
  have hl2 : ¬ 131072 < n := by omega
  simp only [rN, rE, rX, if_neg hl2] at H61
  have HH : Hid (RfAt w rb B s xs) := h
  have HPB : Hid (∀ x ∈ recI p, Byte x) := recI_byte (by rw [hp.len]; exact hl) hp.rng
  clear h hp hl2
  obtain ⟨sa, sn, sc⟩ := s
  simp only at *
  go_enter Try.func51, Try.ntmps51
  go_wp2_with fail
  refine H61.mono ?_
  rintro e w1 ⟨ra, rc, rfl, hf⟩
  have HF : Hid (Fresh w ra (8 + n) rc (recI p) w1) := hf
  clear hf H61
  obtain ⟨W1, hW1⟩ : ∃ W1, w1.alloc (.cells #[] 5) = W1 := ⟨_, rfl⟩
  have H1 : Hid (RfAt W1 rb B ⟨sa, sn, sc⟩ xs ∧ Row W1 w.heap.size 5 ra (8 + n) rc (u8s (recI p)) ∧ Below w.heap.size w W1 ∧ Row W1 w1.heap.size 5 (some ⟨w1.heap.size, 0, none⟩) 0 0 [] ∧ w1.heap.size ≤ W1.heap.size ∧ w.heap.size ≤ w1.heap.size) := by
    have hb2 : Below w1.heap.size w1 W1 := by rw [← hW1]; exact (Below.refl _ _).alloc (Nat.le_refl _) _
    have hb3 := HF.out.2.trans (hb2.mono HF.out.2.size)
    refine ⟨HH.out.below hb3, HF.out.1.below hb2, hb3, ?_, hb2.size, HF.out.2.size⟩
    rw [← hW1]
    exact ⟨rfl, Nat.le_refl _, Nat.zero_le _, .inr ⟨_, _, rfl, Nat.le_refl _, heap_alloc_new w1 _, Nat.le_refl _, rfl⟩⟩
  obtain ⟨c0, f0⟩ := H1.out.1.cell
  simp only at c0
  go_wp2_with (at_builtin; refine wpList_append_row _ rfl _ _ 22 rfl w1.heap.size 5 i0 (.int .u8 0) 1 Try.underlying22 hi hz hs hb0 rfl (some ⟨w1.heap.size, 0, none⟩) 0 0 [] rfl H1.out.2.2.2.1 sa sn sc (u8s xs) rfl H1.out.1.by.reads (u8s_one _) H1.out.1.by.nil0 (by unfold maxLen; omega) (by omega) H1.out.2.2.2.2.1 ?_)
  intro a2 c2 w2 hr2 hg2 ho2
  intros
  have H2 : Hid (RfAt w2 rb B ⟨sa, sn, sc⟩ xs ∧ Row w2 w.heap.size 5 ra (8 + n) rc (u8s (recI p)) ∧ Below w.heap.size w w2 ∧ Row w2 w1.heap.size 5 a2 sn c2 (u8s xs) ∧ w1.heap.size ≤ w2.heap.size ∧ w.heap.size ≤ w1.heap.size) := by
    obtain ⟨q1, q2, q3, q4, q5, q6⟩ := H1.out
    have b2 : Below w1.heap.size W1 w2 := (Below.refl _ W1).grown hg2 q5 (fun g hg => by cases hg; exact Nat.le_refl _)
    have b0 : Below w.heap.size w w2 := q3.trans (b2.mono q6)
    refine ⟨HH.out.below b0, ?_, b0, by simpa using hr2, Nat.le_trans q5 b2.size, q6⟩
    have hw1 := HF.out.1
    exact q2.keeps fun g hg => b2.block g (hw1.lt hg).2
  clear hr2 hg2 ho2 H1 c0 f0 hW1 HF
  try simp only [Nat.zero_add]
  obtain ⟨c0, f0⟩ := H2.out.1.cell
  simp only at c0
  go_wp2_with (at_builtin; refine wpList_append_row _ rfl _ _ 22 rfl w1.heap.size 5 i0 (.int .u8 0) 1 Try.underlying22 hi hz hs hb0 rfl a2 sn c2 (u8s xs) rfl H2.out.2.2.2.1 ra (8 + n) rc (u8s (recI p)) rfl H2.out.2.1.reads (u8s_one _) H2.out.2.1.nil0 (by unfold maxLen; omega) (by omega) H2.out.2.2.2.2.1 ?_)
  intro a3 c3 w3 hr3 hg3 ho3
  intros
  have H3 : Hid (Row w3 w.heap.size 5 a3 (sn + (8 + n)) c3 (u8s (xs ++ recI p)) ∧ Below w.heap.size w w3) := by
    obtain ⟨q1, q2, q3, q4, q5, q6⟩ := H2.out
    have b3 : Below w1.heap.size w2 w3 := (Below.refl _ w2).grown hg3 q5 (fun g hg => (q4.lt hg).1)
    refine ⟨?_, q3.trans (b3.mono q6)⟩
    rw [u8s_append]
    exact hr3.base q6
  obtain ⟨⟨d0, g0⟩, hT⟩ := rf_store HH.out hB H3.out.2 H3.out.1 (fun x hx => by
    rcases List.mem_append.1 hx with hx | hx
    · exact HH.out.rng x hx
    · exact HPB.out x hx)
  have HT : Hid (RfTo w rb B sa (xs ++ recI p) (w3.setCell ⟨rb, 0, none⟩ (.slice a3 (sn + (8 + n)) c3))) := hT
  clear hr3 hg3 ho3 H2 H3 hT c0 f0
  simp only at d0
  go_wp2_with fail
  go_ret
  exact ⟨rfl, HT.out⟩
set_option maxRecDepth 100000 in
set_option maxHeartbeats 2000000 in
theorem j53 (rb B : Nat) (s : Sl) (xs : List Int) (w : World) (h : RfAt w rb B s xs) (hB : B ≤ w.heap.size) (hn : s.n ≤ 1000000000) :
    Calls Try.prog 53 #[.pointer (some ⟨rb, 0, none⟩)] w fun e w' => e = .returned (.int .i64 ((xs.length - lastE (recs 0 xs) : Nat) : Int)) ∧ RfTo w rb B s.a (xs.take (lastE (recs 0 xs))) w' := by
  obtain ⟨i0, hi, hz, hs, hb0⟩ := infoU8
  have hle := last_le xs
  have hln : xs.length = s.n := by have := h.row.len; simpa [u8s] using this
  have H13 : Calls Try.prog 13 #[.slice s.a s.n s.c] w fun e w' => ∃ ra rc, e = .returned (.tuple #[.slice ra (recs 0 xs).length rc, .int .i64 (lastE (recs 0 xs)), .int .i64 (tornE xs)]) ∧ Hid (Below w.heap.size w w') := by
    refine (j13 s.a s.n s.c xs w h.by hn).mono ?_
    rintro e w' ⟨ra, rc, rfl, _, _, _, _, hb⟩
    exact ⟨ra, rc, rfl, hb⟩
  have HH : Hid (RfAt w rb B s xs) := h
  have HL : Hid (xs.length = s.n) := hln
  rw [hln] at hle ⊢
  clear h hln
  obtain ⟨sa, sn, sc⟩ := s
  simp only at *
  generalize (recs 0 xs).length = rn at *
  generalize lastE (recs 0 xs) = le at *
  generalize tornE xs = te at *
  have hcp : sn ≤ sc := HH.out.row.cap
  have hsub : (sn : Int) - (le : Int) = ((sn - le : Nat) : Int) := by omega
  have hrh := run_head sa sn sc le (by omega)
  obtain ⟨c0, f0⟩ := HH.out.cell
  simp only at c0
  go_enter Try.func53, Try.ntmps53
  go_wp2_with fail
  refine H13.mono ?_
  rintro e w1 ⟨ra, rc, rfl, HB1⟩
  clear H13 c0 f0
  obtain ⟨W1, hW1⟩ : ∃ W1, w1.alloc (.cells #[] 5) = W1 := ⟨_, rfl⟩
  have H1 : Hid (RfAt W1 rb B ⟨sa, sn, sc⟩ xs ∧ Below w.heap.size w W1 ∧ Row W1 w1.heap.size 5 (some ⟨w1.heap.size, 0, none⟩) 0 0 [] ∧ w1.heap.size ≤ W1.heap.size ∧ w.heap.size ≤ w1.heap.size) := by
    have hb2 : Below w1.heap.size w1 W1 := by rw [← hW1]; exact (Below.refl _ _).alloc (Nat.le_refl _) _
    have hb3 := HB1.out.trans (hb2.mono HB1.out.size)
    refine ⟨HH.out.below hb3, hb3, ?_, hb2.size, HB1.out.size⟩
    rw [← hW1]
    exact ⟨rfl, Nat.le_refl _, Nat.zero_le _, .inr ⟨_, _, rfl, Nat.le_refl _, heap_alloc_new w1 _, Nat.le_refl _, rfl⟩⟩
  obtain ⟨c0, f0⟩ := (HH.out.below HB1.out).cell
  obtain ⟨c1, f1⟩ := H1.out.1.cell
  simp only at c0 c1
  go_wp2_with (at_builtin; refine wpList_append_row _ rfl _ _ 22 rfl w1.heap.size 5 i0 (.int .u8 0) 1 Try.underlying22 hi hz hs hb0 rfl (some ⟨w1.heap.size, 0, none⟩) 0 0 [] rfl H1.out.2.2.1 sa le sc (u8s (xs.take le)) rfl (H1.out.1.by.upto hle).reads (u8s_one _) (H1.out.1.by.upto hle).nil0 (by unfold maxLen; omega) (by omega) H1.out.2.2.2.1 ?_)
  intro a2 c2 w2 hr2 hg2 ho2
  intros
  have H2 : Hid (Row w2 w.heap.size 5 a2 le c2 (u8s (xs.take le)) ∧ Below w.heap.size w w2) := by
    obtain ⟨q1, q3, q4, q5, q6⟩ := H1.out
    have b2 : Below w1.heap.size W1 w2 := (Below.refl _ W1).grown hg2 q5 (fun g hg => by cases hg; exact Nat.le_refl _)
    have hr3 : Row w2 w1.heap.size 5 a2 le c2 (u8s (xs.take le)) := by simpa using hr2
    exact ⟨hr3.base q6, q3.trans (b2.mono q6)⟩
  obtain ⟨⟨d0, g0⟩, hT⟩ := rf_store HH.out hB H2.out.2 H2.out.1 (fun x hx => HH.out.rng x (List.mem_of_mem_take hx))
  have HT : Hid (RfTo w rb B sa (xs.take le) (w2.setCell ⟨rb, 0, none⟩ (.slice a2 le c2))) := hT
  clear hr2 hg2 ho2 H1 H2 hT c0 f0 c1 f1 hW1 HB1
  simp only at d0
  try simp only [Nat.zero_add]
  go_wp2_with fail
  go_ret
  exact ⟨by simp, HT.out⟩
end Go.Proofs.Ythomdgafaffphaa
