/- Contract of the reference's Cut. -/
import Derived.Test.YthomdgafaffphaaJZ
namespace Go.Proofs.Ythomdgafaffphaa
open Go.RowKit
attribute [local go_sem ↓] Go.wp_at_zero Go.wp_at_succ
set_option maxRecDepth 100000 in
theorem j52_torn (rb B : Nat) (s : Sl) (xs : List Int) (a : Option Addr) (n c : Nat) (k : Int) (w : World) (h : RfAt w rb B s xs) (hn : s.n ≤ 1000000000) (ht : tornB xs = true) :
    Calls Try.prog 52 #[.pointer (some ⟨rb, 0, none⟩), .slice a n c, .int .i64 k] w fun e w' => e = .returned (.tuple #[.bool false, .int .i64 140]) ∧ RfTo w rb B s.a xs w' := by
  have H61 := j61_torn rb B s xs a n c w h hn ht
  have HH : Hid (RfAt w rb B s xs) := h
  clear h
  go_enter Try.func52, Try.ntmps52
  go_wp2_with fail
  refine H61.mono ?_
  rintro e w1 ⟨rfl, hb⟩
  have HB : Hid (RfTo w rb B s.a xs w1) := RfTo.of HH.out hb
  clear hb H61
  go_wp2_with fail
  go_ret2
  exact ⟨rfl, HB.out⟩
set_option maxRecDepth 100000 in
theorem j52_long (rb B : Nat) (s : Sl) (xs : List Int) (a : Option Addr) (n c : Nat) (p : List Int) (k : Int) (w : World) (h : RfAt w rb B s xs) (hn : s.n ≤ 1000000000) (ht : tornB xs = false) (hp : By w a n c p) (hpn : n ≤ 140737488355328) (hl : 131072 < n) :
    Calls Try.prog 52 #[.pointer (some ⟨rb, 0, none⟩), .slice a n c, .int .i64 k] w fun e w' => e = .returned (.tuple #[.bool false, .int .i64 5]) ∧ RfTo w rb B s.a xs w' := by
  have H61 := j61 rb B s xs a n c p w h hn ht hp hpn
  simp only [rN, rE, rX, if_pos hl] at H61
  have HH : Hid (RfAt w rb B s xs) := h
  clear h hp
  go_enter Try.func52, Try.ntmps52
  go_wp2_with fail
  refine H61.mono ?_
  rintro e w1 ⟨a', c', rfl, hf⟩
  have HB : Hid (RfTo w rb B s.a xs w1) := RfTo.of HH.out hf.2
  clear hf H61
  go_wp2_with fail
  go_ret2
  exact ⟨rfl, HB.out⟩
set_option maxRecDepth 100000 in
theorem j52_neg (rb B : Nat) (s : Sl) (xs : List Int) (a : Option Addr) (n c : Nat) (p : List Int) (k : Int) (w : World) (h : RfAt w rb B s xs) (hn : s.n ≤ 1000000000) (ht : tornB xs = false) (hp : By w a n c p) (hl : n ≤ 131072) (hk : k < 0) :
    Calls Try.prog 52 #[.pointer (some ⟨rb, 0, none⟩), .slice a n c, .int .i64 k] w fun e w' => e = .returned (.tuple #[.bool false, .int .i64 2]) ∧ RfTo w rb B s.a xs w' := by
  have H61 := j61 rb B s xs a n c p w h hn ht hp (by omega)
  have hl2 : ¬ 131072 < n := by omega
  simp only [rN, rE, rX, if_neg hl2] at H61
  have HH : Hid (RfAt w rb B s xs) := h
  clear h hp
  go_enter Try.func52, Try.ntmps52
  go_wp2_with fail
  refine H61.mono ?_
  rintro e w1 ⟨a', c', rfl, hf⟩
  have HB : Hid (RfTo w rb B s.a xs w1) := RfTo.of HH.out hf.2
  clear hf H61
  go_wp2_with fail
  go_ret2
  exact ⟨rfl, HB.out⟩
set_option maxRecDepth 100000 in
set_option maxHeartbeats 4000000 in
/-- k: as many bytes as are written; all: k is the whole record. -/
theorem j52_some (rb B : Nat) (s : Sl) (xs : List Int) (a : Option Addr) (n c : Nat) (p : List Int) (kk : Int) (k : Nat) (all : Bool) (w : World) (h : RfAt w rb B s xs) (hB : B ≤ w.heap.size) (hn : s.n ≤ 1000000000) (ht : tornB xs = false) (hp : By w a n c p) (hl : n ≤ 131072)
    (hk : (all = true ∧ ((8 + n : Nat) : Int) ≤ kk ∧ k = 8 + n) ∨ (all = false ∧ kk = (k : Int) ∧ k < 8 + n)) :
    Calls Try.prog 52 #[.pointer (some ⟨rb, 0, none⟩), .slice a n c, .int .i64 kk] w fun e w' => e = .returned (.tuple #[.bool all, .int .i64 0]) ∧ RfTo w rb B s.a (xs ++ (recI p).take k) w' := by
  obtain ⟨i0, hi, hz, hs, hb0⟩ := infoU8
  have H61 := j61 rb B s xs a n c p w h hn ht hp (by omega)
  have hl2 : ¬ 131072 < n := by omega
  simp only [rN, rE, rX, if_neg hl2] at H61
  have HH : Hid (RfAt w rb B s xs) := h
  have HPB : Hid (∀ x ∈ recI p, Byte x) := recI_byte (by rw [hp.len]; exact hl) hp.rng
  have hk8 : k ≤ 8 + n := by omega
  clear h hp hl2
  obtain ⟨sa, sn, sc⟩ := s
  simp only at *
  go_enter Try.func52, Try.ntmps52
  go_wp2_with fail
  refine H61.mono ?_
  rintro e w1 ⟨ra, rc, rfl, hf⟩
  have HF : Hid (Fresh w ra (8 + n) rc (recI p) w1) := hf
  have hcp : 8 + n ≤ rc := hf.1.cap
  clear hf H61
  have hrh := run_head ra (8 + n) rc k (by omega)
  have HK : Hid (k ≤ 8 + n) := hk8
  have H1 : Hid (∀ W1, (w1.alloc (.cells #[] 5)).drew = W1 → RfAt W1 rb B ⟨sa, sn, sc⟩ xs ∧ Row W1 w.heap.size 5 ra (8 + n) rc (u8s (recI p)) ∧ Below w.heap.size w W1 ∧ Row W1 w1.heap.size 5 (some ⟨w1.heap.size, 0, none⟩) 0 0 [] ∧ w1.heap.size ≤ W1.heap.size ∧ w.heap.size ≤ w1.heap.size) := fun W1 hW1 => by
    have hb2 : Below w1.heap.size w1 W1 := by rw [← hW1]; exact ((Below.refl _ _).alloc (Nat.le_refl _) _).drew
    have hb3 := HF.out.2.trans (hb2.mono HF.out.2.size)
    refine ⟨HH.out.below hb3, HF.out.1.below hb2, hb3, ?_, hb2.size, HF.out.2.size⟩
    rw [← hW1]
    exact ⟨rfl, Nat.le_refl _, Nat.zero_le _, .inr ⟨_, _, rfl, Nat.le_refl _, heap_alloc_new w1 _, Nat.le_refl _, rfl⟩⟩
  have c0 := (HH.out.below HF.out.2).cell.1
  have c1 : ∀ o, (w1.alloc o).cell? ⟨rb, 0, none⟩ = some (.slice sa sn sc) := fun o => ((HH.out.below HF.out.2).below ((Below.refl _ _).alloc (Nat.le_refl _) o)).cell.1
  have H2 : Hid (∀ W1 w2 a2 c2, (w1.alloc (.cells #[] 5)).drew = W1 → Row w2 w1.heap.size 5 a2 (0 + sn) c2 ([] ++ u8s xs) → W1.grownBy w2 (blk (some ⟨w1.heap.size, 0, none⟩)) → RfAt w2 rb B ⟨sa, sn, sc⟩ xs ∧ Row w2 w.heap.size 5 ra (8 + n) rc (u8s (recI p)) ∧ Below w.heap.size w w2 ∧ Row w2 w1.heap.size 5 a2 sn c2 (u8s xs) ∧ w1.heap.size ≤ w2.heap.size ∧ w.heap.size ≤ w1.heap.size) := fun W1 w2 a2 c2 hW1 hr2 hg2 => by
    obtain ⟨q1, q2, q3, q4, q5, q6⟩ := H1.out W1 hW1
    have b2 : Below w1.heap.size W1 w2 := (Below.refl _ W1).grown hg2 q5 (fun g hg => by cases hg; exact Nat.le_refl _)
    have b0 : Below w.heap.size w w2 := q3.trans (b2.mono q6)
    refine ⟨HH.out.below b0, ?_, b0, by simpa using hr2, Nat.le_trans q5 b2.size, q6⟩
    have hw1 := HF.out.1
    exact q2.keeps fun g hg => b2.block g (hw1.lt hg).2
  have H3 : Hid (∀ w2 w3 a2 a3 c2 c3, (RfAt w2 rb B ⟨sa, sn, sc⟩ xs ∧ Row w2 w.heap.size 5 ra (8 + n) rc (u8s (recI p)) ∧ Below w.heap.size w w2 ∧ Row w2 w1.heap.size 5 a2 sn c2 (u8s xs) ∧ w1.heap.size ≤ w2.heap.size ∧ w.heap.size ≤ w1.heap.size) → Row w3 w1.heap.size 5 a3 (sn + k) c3 (u8s xs ++ u8s ((recI p).take k)) → w2.grownBy w3 (blk a2) → (w3.cell? ⟨rb, 0, none⟩ = some (.slice sa sn sc) ∧ w3.frozen? ⟨rb, 0, none⟩ = false) ∧ RfTo w rb B sa (xs ++ (recI p).take k) (w3.setCell ⟨rb, 0, none⟩ (.slice a3 (sn + k) c3))) := fun w2 w3 a2 a3 c2 c3 hh hr3 hg3 => by
    obtain ⟨q1, q2, q3, q4, q5, q6⟩ := hh
    have b3 : Below w1.heap.size w2 w3 := (Below.refl _ w2).grown hg3 q5 (fun g hg => (q4.lt hg).1)
    refine rf_store HH.out hB (q3.trans (b3.mono q6)) ?_ (fun x hx => ?_)
    · rw [u8s_append]
      exact hr3.base q6
    · rcases List.mem_append.1 hx with hx | hx
      · exact HH.out.rng x hx
      · exact HPB.out x (List.mem_of_mem_take hx)
  clear HF
  rcases hk with ⟨rfl, hk1, hk2⟩ | ⟨rfl, hk1, hk2⟩
  · have hge : kk ≥ (8 : Int) + (n : Int) := by omega
    have hk0 : ¬ kk < 0 := by omega
    have hge2 : (8 : Int) + (n : Int) ≤ kk := by omega
    subst hk2
    have hrh2 : ∀ W, (Instr.slice 22 (.slice ra (8 + n) rc) none (some (.int .i64 ((8 : Int) + (n : Int)))) none).run Try.prog W = .ok (.slice ra (8 + n) rc) W := fun W => by
      have := hrh W
      rwa [show (((8 + n : Nat) : Int)) = (8 : Int) + (n : Int) by omega] at this
    clear hk1 hk8 hrh
    go_wp2_with fail
    go_region_law (first
      | (refine step_append_row _ (by rfl) _ _ _ (by rfl) w1.heap.size 5 i0 (.int .u8 0) 1 Try.underlying22 hi hz hs hb0 rfl (some ⟨w1.heap.size, 0, none⟩) 0 0 [] (by rfl) (H1.out _ rfl).2.2.2.1 sa sn sc (u8s xs) (by rfl) (H1.out _ rfl).1.by.reads (u8s_one _) (H1.out _ rfl).1.by.nil0 (by unfold maxLen; omega) (by omega) (H1.out _ rfl).2.2.2.2.1 ?_; intro a2 c2 w2 hr2 hg2 _ _ _; have HH2 : Hid (RfAt w2 rb B ⟨sa, sn, sc⟩ xs ∧ Row w2 w.heap.size 5 ra (8 + n) rc (u8s (recI p)) ∧ Below w.heap.size w w2 ∧ Row w2 w1.heap.size 5 a2 sn c2 (u8s xs) ∧ w1.heap.size ≤ w2.heap.size ∧ w.heap.size ≤ w1.heap.size) := H2.out _ w2 a2 c2 rfl hr2 hg2; clear hr2 hg2; try simp only [Nat.zero_add])
      | (refine step_append_row _ (by rfl) _ _ _ (by rfl) w1.heap.size 5 i0 (.int .u8 0) 1 Try.underlying22 hi hz hs hb0 rfl a2 sn c2 (u8s xs) (by rfl) HH2.out.2.2.2.1 ra (8 + n) rc (u8s ((recI p).take (8 + n))) (by rfl) ((HH2.out.2.1.by HPB.out).upto HK.out).reads (u8s_one _) ((HH2.out.2.1.by HPB.out).upto HK.out).nil0 (by have := HK.out; unfold maxLen; omega) (by have := HK.out; omega) HH2.out.2.2.2.2.1 ?_; intro a3 c3 w3 hr3 hg3 _ _ _; obtain ⟨⟨d0, f0⟩, hT⟩ := H3.out w2 w3 a2 a3 c2 c3 HH2.out hr3 hg3; have HT : Hid (RfTo w rb B sa (xs ++ (recI p).take (8 + n)) (w3.setCell ⟨rb, 0, none⟩ (.slice a3 (sn + (8 + n)) c3))) := hT; clear hr3 hg3 hT))
    all_goals (
      go_wp2_with fail
      go_ret2
      exact ⟨by simp, HT.out⟩)
  · subst hk1
    have hge : ¬ (k : Int) ≥ (8 : Int) + (n : Int) := by omega
    have hk0 : ¬ (k : Int) < 0 := by omega
    go_wp2_with fail
    go_region_law (first
      | (refine step_append_row _ (by rfl) _ _ _ (by rfl) w1.heap.size 5 i0 (.int .u8 0) 1 Try.underlying22 hi hz hs hb0 rfl (some ⟨w1.heap.size, 0, none⟩) 0 0 [] (by rfl) (H1.out _ rfl).2.2.2.1 sa sn sc (u8s xs) (by rfl) (H1.out _ rfl).1.by.reads (u8s_one _) (H1.out _ rfl).1.by.nil0 (by unfold maxLen; omega) (by omega) (H1.out _ rfl).2.2.2.2.1 ?_; intro a2 c2 w2 hr2 hg2 _ _ _; have HH2 : Hid (RfAt w2 rb B ⟨sa, sn, sc⟩ xs ∧ Row w2 w.heap.size 5 ra (8 + n) rc (u8s (recI p)) ∧ Below w.heap.size w w2 ∧ Row w2 w1.heap.size 5 a2 sn c2 (u8s xs) ∧ w1.heap.size ≤ w2.heap.size ∧ w.heap.size ≤ w1.heap.size) := H2.out _ w2 a2 c2 rfl hr2 hg2; clear hr2 hg2; try simp only [Nat.zero_add])
      | (refine step_append_row _ (by rfl) _ _ _ (by rfl) w1.heap.size 5 i0 (.int .u8 0) 1 Try.underlying22 hi hz hs hb0 rfl a2 sn c2 (u8s xs) (by rfl) HH2.out.2.2.2.1 ra k rc (u8s ((recI p).take k)) (by rfl) ((HH2.out.2.1.by HPB.out).upto HK.out).reads (u8s_one _) ((HH2.out.2.1.by HPB.out).upto HK.out).nil0 (by have := HK.out; unfold maxLen; omega) (by have := HK.out; omega) HH2.out.2.2.2.2.1 ?_; intro a3 c3 w3 hr3 hg3 _ _ _; obtain ⟨⟨d0, f0⟩, hT⟩ := H3.out w2 w3 a2 a3 c2 c3 HH2.out hr3 hg3; have HT : Hid (RfTo w rb B sa (xs ++ (recI p).take k) (w3.setCell ⟨rb, 0, none⟩ (.slice a3 (sn + k) c3))) := hT; clear hr3 hg3 hT))
    all_goals (
      go_wp2_with fail
      go_ret2
      exact ⟨by simp [hge], HT.out⟩)
end Go.Proofs.Ythomdgafaffphaa
