/- Contract of the reference's Read: payloads that lie in the bytes. -/
import Derived.Test.YthomdgafaffphaaJU
namespace Go.Proofs.Ythomdgafaffphaa
open Go.RowKit
attribute [local go_sem ↓] Go.wp_at_zero Go.wp_at_succ
theorem j41B (a : Option Addr) (n c : Nat) (xs : List Int) (w : World) (h : By w a n c xs) (hn : 4 ≤ n) :
    Calls Try.prog 41 #[.slice a n c] w fun e w' => e = .returned (.int .u32 (wordI (xs.take 4))) ∧ ∃ d, w' = w.drewN d := by
  have hl := h.len
  obtain ⟨b, o, rfl, c0, x0⟩ := h.at (k := 0) (by omega)
  obtain ⟨b1, o1, e1, c1, x1⟩ := h.at (k := 1) (by omega)
  obtain ⟨b2, o2, e2, c2, x2⟩ := h.at (k := 2) (by omega)
  obtain ⟨b3, o3, e3, c3, x3⟩ := h.at (k := 3) (by omega)
  cases e1; cases e2; cases e3
  have e : xs.take 4 = [xs[0], xs[1], xs[2], xs[3]] := by
    apply List.ext_getElem
    · simp; omega
    · intro i h1 h2
      rw [List.getElem_take]
      rcases (show i = 0 ∨ i = 1 ∨ i = 2 ∨ i = 3 by simp at h2; omega) with rfl | rfl | rfl | rfl <;> rfl
  rw [e]
  exact j41 b o n c _ _ _ _ w hn c0 c1 c2 c3 x0 x1 x2 x3
theorem run_mid (a : Option Addr) (n c k l : Nat) (hk : k ≤ l) (hl : l ≤ c) (W : World) : (Instr.slice 22 (.slice a n c) (some (.int .i64 (k : Int))) (some (.int .i64 (l : Int))) none).run Try.prog W = .ok (.slice (fromA a c k) (l - k) (c - k)) W := by
  obtain ⟨i0, hi, _, hs, _⟩ := infoU8
  have h0 : (0 : Int) ≤ (k : Int) := by omega
  have h1 : (k : Int) ≤ (l : Int) := by omega
  have h2 : (0 : Int) ≤ (l : Int) := by omega
  have h3 : (l : Int) ≤ (c : Int) := by omega
  simp [Instr.slice, run_underlying Try.underlying22, Instr.sliceBounds, run_sliceBound, sizeOf, typeInfo, hi, hs, h0, h1, h2, h3, fromA]
/-- A slice of bytes says a payload, wherever the bytes stand. -/
def SlIn (a : Option Addr) (n c : Nat) (xs : List Int) (s : Sl) (p : List Int) : Prop := ∀ W, By W a n c xs → By W s.a s.n s.c p
/-- How far the reference's Read has come. -/
def RrI (w : World) (a : Option Addr) (m c : Nat) (xs : List Int) (at_ : Nat) (ga : Option Addr) (cnt gc : Nat) (wr : World) : Prop :=
  ∃ (ds : List (Nat × List Int)) (l : List Sl), ds.length = cnt ∧ l.length = cnt ∧ ds ++ recs at_ (xs.drop at_) = recs 0 xs ∧ (at_ = lastE ds) ∧ Row wr w.heap.size 22 ga cnt gc (l.map Sl.v) ∧ (∀ (i : Nat) (s : Sl) (x : Nat × List Int), l[i]? = some s → ds[i]? = some x → SlIn a m c xs s x.2) ∧ Below w.heap.size w wr
/-- Payloads that lie in the bytes, in a row of the caller's own. -/
def RTold (w : World) (a : Option Addr) (m c : Nat) (xs : List Int) (ra : Option Addr) (n rc : Nat) (w' : World) : Prop :=
  ∃ l : List Sl, l.length = n ∧ Row w' w.heap.size 22 ra n rc (l.map Sl.v) ∧ (∀ (i : Nat) (s : Sl) (p : List Int), l[i]? = some s → ((recs 0 xs).map (·.2))[i]? = some p → SlIn a m c xs s p) ∧ Below w.heap.size w w'
theorem rr_end {w wr : World} {a ga : Option Addr} {m c at_ cnt gc : Nat} {xs : List Int} (h : RrI w a m c xs at_ ga cnt gc wr) (ho : okI (xs.drop at_) = false) : cnt = (recs 0 xs).length ∧ at_ = lastE (recs 0 xs) ∧ RTold w a m c xs ga cnt gc wr := by
  obtain ⟨ds, l, h1, h2, h3, h4, h5, h6, h7⟩ := h
  rw [recs_no ho, List.append_nil] at h3
  subst h3
  refine ⟨h1.symm, h4, l, h2, h5, fun i s p e1 e2 => ?_, h7⟩
  rw [List.getElem?_map, Option.map_eq_some_iff] at e2
  obtain ⟨x, e3, rfl⟩ := e2
  exact h6 i s x e1 e3
set_option maxRecDepth 100000 in
set_option maxHeartbeats 4000000 in
theorem j13 (a : Option Addr) (m c : Nat) (xs : List Int) (w : World) (h : By w a m c xs) (hm : m ≤ 1000000000) :
    Calls Try.prog 13 #[.slice a m c] w fun e w' => ∃ ra rc, e = .returned (.tuple #[.slice ra (recs 0 xs).length rc, .int .i64 (lastE (recs 0 xs)), .int .i64 (tornE xs)]) ∧ RTold w a m c xs ra (recs 0 xs).length rc w' := by
  obtain ⟨i0, hi, hz, hsz, hby⟩ := infoSl
  have HH : Hid (By w a m c xs) := h
  have HL : Hid (xs.length = m ∧ m ≤ c) := ⟨h.len, h.cap⟩
  have HLE := last_le xs
  have HTE : Hid (tornE xs = if (lastE (recs 0 xs) : Int) < (m : Int) then 140 else 0) := by
    show tornE xs = _
    unfold tornE
    rw [h.len]
    congr 1
    apply propext
    omega
  have hRL := recs_len _ 0 xs (Nat.le_refl _)
  rw [h.len] at hRL HLE
  clear h
  go_enter Try.func13, Try.ntmps13
  go_wp2_with fail
  go_loopw [5, 6] (fun v i wr => ∃ (at_ cnt gc : Nat) (ga : Option Addr), at_ ≤ m ∧ i = .int .i64 at_ ∧ v = .slice ga cnt gc ∧ Hid (RrI w a m c xs at_ ga cnt gc wr)) (fun _ i _ => m - (intOf i).toNat)
  case atStart => exact ⟨0, 0, 0, none, Nat.zero_le _, rfl, rfl, [], [], rfl, rfl, by simp, rfl, row_nil _ _ _, fun i s x e => by simp at e, Below.refl _ _⟩
  case round =>
    obtain ⟨at_, cnt, gc, ga, hk, rfl, rfl, hI⟩ := hrel
    have hbr : Hid (Below w.heap.size w wr) := by obtain ⟨ds, l, _, _, _, _, _, _, h7⟩ := hI.out; exact h7
    have hyl : (xs.drop at_).length = m - at_ := by rw [List.length_drop, HL.out.1]
    obtain ⟨ds, l, HQ⟩ : ∃ (ds : List (Nat × List Int)) (l : List Sl), Hid (ds.length = cnt ∧ l.length = cnt ∧ ds ++ recs at_ (xs.drop at_) = recs 0 xs ∧ (at_ = lastE ds) ∧ Row wr w.heap.size 22 ga cnt gc (l.map Sl.v) ∧ (∀ (i : Nat) (s : Sl) (x : Nat × List Int), l[i]? = some s → ds[i]? = some x → SlIn a m c xs s x.2) ∧ Below w.heap.size w wr) := by
      obtain ⟨ds, l, h⟩ := hI.out
      exact ⟨ds, l, h⟩
    have HFIN : Hid (okI (xs.drop at_) = false → ∀ (d : Nat) (te : Int), te = (if (at_ : Int) < (m : Int) then 140 else 0) → ∃ ra rc, Ending.returned (.tuple #[.slice ga cnt gc, .int .i64 at_, .int .i64 te]) = .returned (.tuple #[.slice ra (recs 0 xs).length rc, .int .i64 (lastE (recs 0 xs)), .int .i64 (tornE xs)]) ∧ RTold w a m c xs ra (recs 0 xs).length rc (wr.drewN d)) := fun ho d te hte => by
      obtain ⟨e1, e2, l, h1, h2, h3, h4⟩ := rr_end hI.out ho
      rw [e1] at h1 h2
      refine ⟨ga, gc, ?_, l, h1, h2.keeps fun _ _ => rfl, h3, below_dN h4 _⟩
      rw [HTE.out, ← e1, ← e2, hte]
    by_cases h8 : at_ + 8 ≤ m
    · have h81 : (at_ : Int) + 8 ≤ (m : Int) := by omega
      have hcm := HL.out.2
      have hbyF := (HH.out.below hbr.out).from (k := at_) hk
      have hsl := run_from a m c at_ hk wr
      have H41 := j41B (fromA a c at_) (m - at_) (c - at_) (xs.drop at_) wr hbyF (by omega)
      rw [show wordI ((xs.drop at_).take 4) = lenI (xs.drop at_) from rfl] at H41
      obtain ⟨hL0, hL1⟩ := len_bd hbyF (by omega)
      obtain ⟨hS0, hS1⟩ := sum_bd hbyF (by omega)
      obtain ⟨L, hL⟩ : ∃ L : Nat, lenI (xs.drop at_) = (L : Int) := ⟨(lenI (xs.drop at_)).toNat, by omega⟩
      rw [hL] at H41 hL1
      have HRM : Hid (roomI (xs.drop at_) = decide (L ≤ 131072 ∧ at_ + 8 + L ≤ m)) := by
        show roomI (xs.drop at_) = _
        unfold roomI
        rw [hyl, hL]
        congr 1
        apply propext
        omega
      have HLL : Hid (lenI (xs.drop at_) = (L : Int)) := hL
      clear hL hL0 hyl hbyF
      by_cases hg1 : 131072 < L
      · have hg2 : (131072 : Int) < (L : Int) := by omega
        have HNO : Hid (okI (xs.drop at_) = false) := room_false (by rw [HRM.out]; simp; omega)
        clear hL1
        have hte : (at_ : Int) < (m : Int) := by omega
        go_wp2_with fail
        refine H41.mono ?_
        rintro e w1 ⟨rfl, d, rfl⟩
        go_wp2_with fail
        refine bodyPost_ret (v := .tuple #[.slice ga cnt gc, .int .i64 at_, .int .i64 140]) (by simp [results, Try.results13, go_sem]) rfl ?_
        exact HFIN.out HNO.out d 140 (by rw [if_pos hte])
      · have hg2 : ¬ (131072 : Int) < (L : Int) := by omega
        clear hL1
        by_cases hg3 : m < at_ + 8 + L
        · have hg4 : (m : Int) < (at_ : Int) + 8 + (L : Int) := by omega
          have HNO : Hid (okI (xs.drop at_) = false) := room_false (by rw [HRM.out]; simp; omega)
          have hte : (at_ : Int) < (m : Int) := by omega
          go_wp2_with fail
          refine H41.mono ?_
          rintro e w1 ⟨rfl, d, rfl⟩
          go_wp2_with fail
          refine bodyPost_ret (v := .tuple #[.slice ga cnt gc, .int .i64 at_, .int .i64 140]) (by simp [results, Try.results13, go_sem]) rfl ?_
          exact HFIN.out HNO.out d 140 (by rw [if_pos hte])
        · have hg4 : ¬ (m : Int) < (at_ : Int) + 8 + (L : Int) := by omega
          have HRT : Hid (roomI (xs.drop at_) = true) := by
            show roomI (xs.drop at_) = true
            rw [HRM.out]; simp; omega
          have hsl2 : ∀ W, (Instr.slice 22 (.slice a m c) (some (.int .i64 ((at_ : Int) + 8))) (some (.int .i64 ((at_ : Int) + 8 + (L : Int)))) none).run Try.prog W = .ok (.slice (fromA a c (at_ + 8)) L (c - (at_ + 8))) W := fun W => by
            have := run_mid a m c (at_ + 8) (at_ + 8 + L) (by omega) (by omega) W
            rw [show ((at_ + 8 : Nat) : Int) = (at_ : Int) + 8 by omega, show ((at_ + 8 + L : Nat) : Int) = (at_ : Int) + 8 + (L : Int) by omega, show at_ + 8 + L - (at_ + 8) = L by omega] at this
            exact this
          have hsl3 : ∀ W, (Instr.slice 22 (.slice a m c) (some (.int .i64 ((at_ : Int) + 4))) none none).run Try.prog W = .ok (.slice (fromA a c (at_ + 4)) (m - (at_ + 4)) (c - (at_ + 4))) W := fun W => by
            have := run_from a m c (at_ + 4) (by omega) W
            rw [show ((at_ + 4 : Nat) : Int) = (at_ : Int) + 4 by omega] at this
            exact this
          have HPY : Hid (payI (xs.drop at_) = (xs.drop (at_ + 8)).take L) := by
            show payI (xs.drop at_) = _
            rw [payI, HLL.out, Int.toNat_natCast, List.drop_drop]
          have HPB : Hid (∀ W, By W a m c xs → By W (fromA a c (at_ + 8)) L (c - (at_ + 8)) (payI (xs.drop at_))) := fun W hW => by
            rw [HPY.out]
            exact (hW.from (k := at_ + 8) h8).upto (by omega)
          have H17 : Hid (∀ W, Below w.heap.size w W → Calls Try.prog 17 #[.slice (fromA a c (at_ + 8)) L (c - (at_ + 8))] W fun e w'' => e = .returned (.int .u32 (sumB (payI (xs.drop at_))).toNat) ∧ w'' = W) := fun W hW => j17 _ _ _ _ W (HPB.out W (HH.out.below hW)) (by omega)
          have H41b : Hid (∀ W, Below w.heap.size w W → Calls Try.prog 41 #[.slice (fromA a c (at_ + 4)) (m - (at_ + 4)) (c - (at_ + 4))] W fun e w'' => e = .returned (.int .u32 (sumI (xs.drop at_))) ∧ ∃ d, w'' = W.drewN d) := fun W hW => by
            have := j41B _ _ _ _ W ((HH.out.below hW).from (k := at_ + 4) (by omega)) (by omega)
            rw [show wordI ((xs.drop (at_ + 4)).take 4) = sumI (xs.drop at_) by rw [sumI, List.drop_drop]] at this
            exact this
          have hs2 := sumB_lt (payI (xs.drop at_))
          have HOK : Hid (okI (xs.drop at_) = decide (((sumB (payI (xs.drop at_))).toNat : Int) = sumI (xs.drop at_))) := by
            show okI (xs.drop at_) = _
            rw [okI, HRT.out, Bool.true_and]
          have HPL : Hid ((payI (xs.drop at_)).length = L) := by
            show (payI (xs.drop at_)).length = L
            rw [(pay_len HRT.out).1, HLL.out]; rfl
          obtain ⟨S1, hS1e⟩ : ∃ S1 : Int, ((sumB (payI (xs.drop at_))).toNat : Int) = S1 := ⟨_, rfl⟩
          obtain ⟨S2, hS2e⟩ : ∃ S2 : Int, sumI (xs.drop at_) = S2 := ⟨_, rfl⟩
          rw [hS1e] at H17 HOK hs2
          rw [hS2e] at H41b HOK hS0 hS1
          clear hS1e hS2e
          go_wp2_with fail
          refine H41.mono ?_
          rintro e w1 ⟨rfl, d, hw1⟩
          have HW1 : Hid (w1 = wr.drewN d) := hw1
          have HBW : Hid (∀ k, Below w.heap.size w (w1.drewN k)) := fun k => by rw [hw1]; exact below_dN (below_dN hbr.out _) _
          have H17' : Hid (∀ k, Calls Try.prog 17 #[.slice (fromA a c (at_ + 8)) L (c - (at_ + 8))] (w1.drewN k) fun e w'' => e = .returned (.int .u32 S1) ∧ ∃ k', w'' = w1.drewN k') := fun k => (H17.out _ (HBW.out k)).mono fun e w' ⟨h1, h2⟩ => ⟨h1, k, h2⟩
          have H41' : Hid (∀ k, Calls Try.prog 41 #[.slice (fromA a c (at_ + 4)) (m - (at_ + 4)) (c - (at_ + 4))] (w1.drewN k) fun e w'' => e = .returned (.int .u32 S2) ∧ ∃ k', w'' = w1.drewN k') := fun k => (H41b.out _ (HBW.out k)).mono fun e w' ⟨h1, d', h2⟩ => ⟨h1, k + d', by rw [h2]; simp [World.drewN, Nat.add_assoc]⟩
          clear hw1 H41 H17 H41b hsl
          by_cases hss : S1 = S2
          · subst hss
            have HTR : Hid (okI (xs.drop at_) = true) := by
              show okI (xs.drop at_) = true
              rw [HOK.out]; simp
            go_wp2_with fail
            go_quiet (first | (go_at_call 17; exact H17'.out _) | (go_at_call 41; exact H41'.out _))
            have HR : Hid (∀ k, Row (w1.drewN k) w.heap.size 22 ga cnt gc (l.map Sl.v)) := fun k => by
              rw [HW1.out]
              exact HQ.out.2.2.2.2.1.keeps fun _ _ => rfl
            have HCN : Hid ((cnt + 1) * 8 ≤ m) := by
              have h3 := HQ.out.2.2.1
              rw [recs_ok HTR.out] at h3
              have h4 := congrArg List.length h3
              rw [List.length_append, List.length_cons, HQ.out.1] at h4
              show (cnt + 1) * 8 ≤ m
              omega
            have hcn : cnt ≤ 1000000000 := by have := HCN.out; omega
            have HNX : Hid (∀ (ga' : Option Addr) (gc' : Nat) (W : World), Row W w.heap.size 22 ga' (cnt + 1) gc' (l.map Sl.v ++ [.slice (fromA a c (at_ + 8)) L (c - (at_ + 8))]) → Below w.heap.size w W → RrI w a m c xs (at_ + (8 + L)) ga' (cnt + 1) gc' W) := fun ga' gc' W hrow hbw => by
              obtain ⟨q1, q2, q3, q4, q5, q6, q7⟩ := HQ.out
              refine ⟨ds ++ [(at_ + (8 + L), payI (xs.drop at_))], l ++ [⟨fromA a c (at_ + 8), L, c - (at_ + 8)⟩], by simp [q1], by simp [q2], ?_, by rw [lastE_snoc], by rw [List.map_append]; exact hrow, fun i s x e1 e2 => ?_, hbw⟩
              · rw [recs_ok HTR.out, HPL.out, List.drop_drop] at q3
                rw [← q3]; simp
              · rcases Nat.lt_or_ge i cnt with hi | hi
                · rw [List.getElem?_append_left (by omega)] at e1 e2
                  exact q6 i s x e1 e2
                · have hi2 : i = cnt := by have := (List.getElem?_eq_some_iff.1 e1).1; simp at this; omega
                  subst hi2
                  have e3 : (⟨fromA a c (at_ + 8), L, c - (at_ + 8)⟩ : Sl) = s := by rw [List.getElem?_append_right (by omega), q2] at e1; simpa using e1
                  have e4 : (at_ + (8 + L), payI (xs.drop at_)) = x := by rw [List.getElem?_append_right (by omega), q1] at e2; simpa using e2
                  subst e3; subst e4
                  exact HPB.out
            have hbq := HBW.out nq
            obtain ⟨w2, hw2⟩ : ∃ w2, w1.drewN nq = w2 := ⟨_, rfl⟩
            have HR2 : Hid (Row w2 w.heap.size 22 ga cnt gc (l.map Sl.v) ∧ Below w.heap.size w w2) := by rw [← hw2]; exact ⟨HR.out nq, hbq⟩
            rw [hw2]
            clear hbq hw2
            go_wp2_with (at_builtin; refine wpList_append_row _ rfl _ _ 27 rfl w.heap.size 22 i0 (.slice none 0 0) 24 Try.underlying27 hi hz hsz hby rfl ga cnt gc (l.map Sl.v) rfl (HR2.out.1.alloc _) (some ⟨w2.heap.size, 0, none⟩) 1 1 [.slice (fromA a c (at_ + 8)) L (c - (at_ + 8))] rfl (reads_block (cs := #[.slice (fromA a c (at_ + 8)) L (c - (at_ + 8))]) (heap_alloc_new w2 _)) (by simp [Value.oneCell']) (fun e => by cases e) (by unfold maxLen; omega) (by omega) (by have := HR2.out.2.size; simp; omega) ?_)
            intro ga' gc' w3 hr3 hg3 hor3
            intros
            have HN : Hid (RrI w a m c xs (at_ + (8 + L)) ga' (cnt + 1) gc' w3) := HNX.out ga' gc' w3 hr3 ((HR2.out.2.alloc HR2.out.2.size _).grown hg3 (by have := HR2.out.2.size; simp; omega) (fun g hg => ((HR2.out.1.alloc (.cells #[.slice (fromA a c (at_ + 8)) L (c - (at_ + 8))] 22)).lt hg).1))
            clear hr3 hg3 hor3
            go_wp2_with fail
            go_roundw
            case rel => exact ⟨at_ + (8 + L), cnt + 1, gc', ga', by omega, by go_num, rfl, HN⟩
            case measure => simp [intOf]; omega
          · have hss2 : (S1 == S2) = false := by simp [hss]
            have HNO : Hid (okI (xs.drop at_) = false) := by
              show okI (xs.drop at_) = false
              rw [HOK.out]; simp [hss]
            go_wp2_with fail
            go_quiet (first | (go_at_call 17; exact H17'.out _) | (go_at_call 41; exact H41'.out _))
            have hte : (at_ : Int) < (m : Int) := by omega
            go_wp2_with fail
            refine bodyPost_ret (v := .tuple #[.slice ga cnt gc, .int .i64 at_, .int .i64 140]) (by simp [results, Try.results13, go_sem]) rfl ?_
            have := HFIN.out HNO.out (d + nq) 140 (by rw [if_pos hte])
            rw [HW1.out, show (wr.drewN d).drewN nq = wr.drewN (d + nq) by simp [World.drewN, Nat.add_assoc]]
            exact this
    · have h81 : ¬ (at_ : Int) + 8 ≤ (m : Int) := by omega
      have HNO : Hid (okI (xs.drop at_) = false) := room_false (by simp only [roomI, decide_eq_false_iff_not]; omega)
      by_cases hte : (at_ : Int) < (m : Int)
      · go_wp2_with fail
        refine bodyPost_ret (v := .tuple #[.slice ga cnt gc, .int .i64 at_, .int .i64 140]) (by simp [results, Try.results13, go_sem]) rfl ?_
        exact HFIN.out HNO.out 0 140 (by rw [if_pos hte])
      · go_wp2_with fail
        refine bodyPost_ret (v := .tuple #[.slice ga cnt gc, .int .i64 at_, .int .i64 0]) (by simp [results, Try.results13, go_sem]) rfl ?_
        exact HFIN.out HNO.out 0 0 (by rw [if_neg (by omega)])
end Go.Proofs.Ythomdgafaffphaa
