/- JournalCut: its contract. -/
import Derived.Test.YtcmblfgpeaeciaaJQ
namespace Go.Proofs.Ytcmblfgpeaeciaa
open Go.RowKit
attribute [local go_sem ↓] Go.wp_at_zero Go.wp_at_succ
theorem infoI : ∃ i, Try.prog.info? 3 = some i ∧ i.zero = some (.int .i64 0) ∧ i.size = 1 ∧ i.bytes = 8 := by
  have h : (Try.prog.info? 3).map (fun i => (i.zero, i.size, i.bytes)) = some (some (.int .i64 0), 1, 8) := by kernel_rfl
  cases hq : Try.prog.info? 3 with
  | none => rw [hq] at h; cases h
  | some i =>
    rw [hq] at h
    simp only [Option.map_some, Option.some.injEq, Prod.mk.injEq] at h
    exact ⟨i, rfl, h.1, h.2.1, h.2.2⟩
/-- The places behind the first k records. -/
def endsV (ps : List (List Int)) (k : Nat) : List Value := (List.range (k + 1)).map fun j => .int .i64 (whole (ps.take j)).length
theorem endsV_len (ps : List (List Int)) (k : Nat) : (endsV ps k).length = k + 1 := by simp [endsV]
theorem endsV_snoc (ps : List (List Int)) (k : Nat) : endsV ps (k + 1) = endsV ps k ++ [.int .i64 (whole (ps.take (k + 1))).length] := by
  simp [endsV, List.range_succ]
theorem endsV_one (ps : List (List Int)) (k : Nat) : ∀ u ∈ endsV ps k, u.oneCell' = true := by
  intro u hu
  simp only [endsV, List.mem_map] at hu
  obtain ⟨j, _, rfl⟩ := hu
  rfl
theorem row_cell {w : World} {B : Nat} {e : TypeId} {a : Option Addr} {n c : Nat} {xs : List Value} (h : Row w B e a n c xs) {k : Nat} {u : Value} (hu : xs[k]? = some u) : ∃ g, a = some ⟨g, 0, none⟩ ∧ w.cell? ⟨g, k, none⟩ = some u := by
  have hk : k < xs.length := (List.getElem?_eq_some_iff.1 hu).1
  rcases h.mem with ⟨_, e⟩ | ⟨g, cu, e, _⟩
  · have := h.cap; have := h.len; omega
  · subst e
    refine ⟨g, rfl, ?_⟩
    rcases h.reads.2 with e | ⟨ad, e1, e2⟩
    · have := h.len; omega
    · cases e1
      have := e2 k u hu
      rw [Addr.add_mid, Nat.zero_add] at this
      exact this
/-- Bytes cut: what they hold. -/
theorem cut_recs {ps : List (List Int)} {k j : Nat} (h : ∀ q ∈ ps, q.length ≤ 131072 ∧ ∀ x ∈ q, Byte x) (_hj : j ≤ ps.length) (h1 : (whole (ps.take j)).length ≤ k) (h2 : ∀ q, ps[j]? = some q → k < (whole (ps.take j)).length + (8 + q.length)) (_h3 : k ≤ (whole ps).length) :
    recs 0 ((whole ps).take k) = ends 0 (ps.take j) := by
  have hsub : ∀ q ∈ ps.take j, q.length ≤ 131072 := fun q hq => (h q (List.mem_of_mem_take hq)).1
  have e0 : whole ps = whole (ps.take j) ++ whole (ps.drop j) := by rw [← whole_append, List.take_append_drop]
  have e1 : (whole ps).take k = whole (ps.take j) ++ (whole (ps.drop j)).take (k - (whole (ps.take j)).length) := by
    rw [e0, List.take_append, List.take_of_length_le h1]
  rw [e1, recs_whole 0 _ _ hsub]
  have e2 : okI ((whole (ps.drop j)).take (k - (whole (ps.take j)).length)) = false := by
    cases hd : ps.drop j with
    | nil => rw [show whole [] = ([] : List Int) from rfl, List.take_nil]; rfl
    | cons q r =>
      have hq : ps[j]? = some q := by
        have := congrArg (fun l => l[0]?) hd
        simpa using this
      have h5 := h2 q hq
      rw [whole_cons, List.take_append_of_le_length (by rw [recI_length]; omega)]
      exact cut_no (by omega)
  rw [recs_no e2, List.append_nil]
theorem run_head27 (a : Option Addr) (n c k : Nat) (hk : k ≤ c) (W : World) : (Instr.slice 27 (.slice a n c) none (some (.int .i64 (k : Int))) none).run Try.prog W = .ok (.slice a k c) W := by
  obtain ⟨i0, hi, _⟩ := infoSl
  have h0 : (0 : Int) ≤ (k : Int) := by omega
  have h1 : (k : Int) ≤ (c : Int) := by omega
  have e : ∀ x : Addr, x.add 0 = x := fun x => by simp [Addr.add]
  cases a <;> simp [Instr.slice, run_underlying Try.underlying27, Instr.sliceBounds, run_sliceBound, sizeOf, typeInfo, hi, h0, h1, e]
theorem Pl.upto {w : World} {a : Option Addr} {n c : Nat} {l : List Sl} {ps : List (List Int)} (h : Pl w a n c l ps) {k : Nat} (hk : k ≤ n) : Pl w a k c (l.take k) (ps.take k) := by
  have hl := h.len
  have hp := h.plen
  refine ⟨by rw [List.length_take]; omega, by have := h.cap; omega, by rw [List.length_take]; omega, ?_, fun i s xs h1 h2 => ?_, fun s hs => h.small s (List.mem_of_mem_take hs)⟩
  · rcases h.mem with e | ⟨b, o, e, hlt, hr⟩
    · exact .inl (by omega)
    · refine .inr ⟨b, o, e, hlt, fun j u hu => hr j u ?_⟩
      rw [List.map_take, List.getElem?_take] at hu
      split at hu
      · exact hu
      · cases hu
  · rw [List.getElem?_take] at h1 h2
    split at h1
    · rename_i hik
      rw [if_pos hik] at h2
      exact h.by_ i s xs h1 h2
    · cases h1
set_option maxRecDepth 100000 in
set_option maxHeartbeats 8000000 in
theorem j5 (a : Option Addr) (m c : Nat) (l : List Sl) (ps : List (List Int)) (nn : Int) (w : World) (h : Pl w a m c l ps) (hm : m ≤ 10000000) (hsum : (ps.map List.length).sum ≤ 10000000) :
    Calls Try.prog 5 #[.slice a m c, .int .i64 nn] w fun e w' => e = .returned (.bool true) ∧ Below w.heap.size w w' := by
  obtain ⟨i0, hi, hz, hs, hb0⟩ := infoU8
  obtain ⟨i3, hi3, hz3, hs3, hb3⟩ := infoI
  have HH : Hid (Pl w a m c l ps) := h
  have hwl := whole_len ps
  have HPL : Hid (ps.length = m) := h.plen
  have hwm : (whole ps).length ≤ 90000000 := by have := h.plen; omega
  have hcap := h.cap
  clear h hwl
  go_enter Try.func5, Try.ntmps5
  go_wp2_with fail
  refine (j14 w).mono ?_
  rintro e w1 ⟨rfl, hb1⟩
  have HB1 : Hid (Below w.heap.size w w1) := hb1
  clear hb1
  obtain ⟨W2, hW2⟩ : ∃ W2, w1.alloc (.cells #[.int .i64 0] 3) = W2 := ⟨_, rfl⟩
  have HW2 : Hid (Row W2 w1.heap.size 3 (some ⟨w1.heap.size, 0, none⟩) 1 1 (endsV ps 0) ∧ Below w1.heap.size w1 W2) := by
    rw [← hW2]
    exact ⟨⟨rfl, Nat.le_refl _, by unfold maxLen; omega, .inr ⟨_, _, rfl, Nat.le_refl _, heap_alloc_new w1 _, Nat.le_refl _, by simp [endsV, whole]⟩⟩, (Below.refl _ w1).alloc (Nat.le_refl _) _⟩
  go_wp2_with fail
  clear hW2
  go_loopw [5, 6, 7] (fun vb ve i wr => ∃ (k q : Nat) (ba ea : Option Addr) (bc ec : Nat), k ≤ m ∧ i = .int .i64 k ∧ vb = .slice ba q bc ∧ ve = .slice ea (k + 1) ec ∧ Hid ((whole (ps.take k)).length = q ∧ Row wr w1.heap.size 5 ba q bc (u8s (whole (ps.take k))) ∧ Row wr w1.heap.size 3 ea (k + 1) ec (endsV ps k) ∧ Below w1.heap.size w1 wr ∧ (∀ q ∈ ps.take k, q.length ≤ 131072 ∧ ∀ x ∈ q, Byte x))) (fun _ _ i _ => m - (intOf i).toNat)
  case atStart => exact ⟨0, 0, none, _, 0, _, Nat.zero_le _, rfl, rfl, rfl, rfl, row_nil _ _ _, HW2.out.1, HW2.out.2, by simp⟩
  case round =>
    obtain ⟨k, q, ba, ea, bc, ec, hk, rfl, rfl, rfl, hI⟩ := hrel
    have hbr : Hid (Below w.heap.size w wr) := HB1.out.trans (hI.out.2.2.2.1.mono HB1.out.size)
    by_cases hlt : k < m
    · have hlt1 : (k : Int) < (m : Int) := by omega
      have hk0 : (0 : Int) ≤ (k : Int) := by omega
      obtain ⟨b1, o1, s1, rfl, hc1, hx1, hm1, _⟩ := (HH.out.below hbr.out).at hlt
      have hkp : k < ps.length := by rw [HPL.out]; exact hlt
      by_cases hlong : 131072 < s1.n
      · have hlong1 : (131072 : Int) < (s1.n : Int) := by omega
        have H10 := j10_long s1.a s1.n s1.c wr hm1 hlong
        clear hx1
        go_wp2_with fail
        refine H10.mono ?_
        rintro e w3 ⟨rfl, rfl⟩
        go_wp2_with fail
        go_ret
        exact ⟨rfl, hbr.out⟩
      · have hpk : ps[k].length = s1.n := hx1.len
        have hws := whole_take_snoc ps k hkp
        have hwsl : (whole (ps.take (k + 1))).length = q + (8 + s1.n) := by rw [hws, List.length_append, recI_length, hI.out.1, hpk]
        have hwq : q + (8 + s1.n) ≤ 90000000 := by have := whole_le ps (k + 1); omega
        have HAL : Hid (∀ q ∈ ps.take (k + 1), q.length ≤ 131072 ∧ ∀ x ∈ q, Byte x) := fun q hq => by
          rw [take_snoc ps k hkp] at hq
          rcases List.mem_append.1 hq with hq | hq
          · exact hI.out.2.2.2.2 q hq
          · simp only [List.mem_cons, List.not_mem_nil, or_false] at hq
            subst hq
            exact ⟨by omega, hx1.rng⟩
        have HWS : Hid (whole (ps.take (k + 1)) = whole (ps.take k) ++ recI ps[k] ∧ (whole (ps.take (k + 1))).length = q + (8 + s1.n)) := ⟨hws, hwsl⟩
        have H10 : Calls Try.prog 10 #[.slice s1.a s1.n s1.c] wr fun e w' => ∃ a' c', e = .returned (.tuple #[.slice a' (8 + s1.n) c', .int .i64 0]) ∧ Hid (Row w' wr.heap.size 5 a' (8 + s1.n) c' (u8s (recI ps[k])) ∧ Row w' w1.heap.size 5 ba q bc (u8s (whole (ps.take k))) ∧ Row w' w1.heap.size 3 ea (k + 1) ec (endsV ps k) ∧ Below w1.heap.size w1 w') := by
          refine (j10 s1.a s1.n s1.c ps[k] wr hx1 (by omega)).mono ?_
          rintro e w' ⟨a', c', rfl, hf⟩
          exact ⟨a', c', rfl, hf.1, hI.out.2.1.below hf.2, hI.out.2.2.1.below hf.2, hI.out.2.2.2.1.trans (hf.2.mono hI.out.2.2.2.1.size)⟩
        clear hx1 hpk hws hwsl hm1
        go_wp2_with fail
        refine H10.mono ?_
        rintro e w3 ⟨ra, rc, rfl, hp3⟩
        clear H10
        go_wp2_with (first
          | (at_builtin; refine wpList_append_row _ rfl _ _ 22 rfl w1.heap.size 5 i0 (.int .u8 0) 1 Try.underlying22 hi hz hs hb0 rfl ba q bc (u8s (whole (ps.take k))) rfl hp3.out.2.1 ra (8 + s1.n) rc (u8s (recI ps[k])) rfl hp3.out.1.reads (u8s_one _) hp3.out.1.nil0 (by unfold maxLen; omega) (by omega) hp3.out.2.2.2.size ?_))
        intro ba' bc' w4 hr4 hg4 hor4
        intros
        have hp4 : Hid (Row w4 w1.heap.size 5 ba' (q + (8 + s1.n)) bc' (u8s (whole (ps.take (k + 1)))) ∧ Row w4 w1.heap.size 3 ea (k + 1) ec (endsV ps k) ∧ Below w1.heap.size w1 w4) := by
          refine ⟨by rw [HWS.out.1, u8s_append]; exact hr4, hp3.out.2.2.1.grown hg4 (fun g e1 e2 => ?_), hp3.out.2.2.2.grown hg4 hp3.out.2.2.2.size (fun g hg => (hp3.out.2.1.lt hg).1)⟩
          obtain ⟨c1, t1⟩ := hp3.out.2.2.1.type e1
          obtain ⟨c2, t2⟩ := hp3.out.2.1.type e2
          rw [t1] at t2; cases t2
        clear hr4 hg4 hor4
        go_wp2_with (first
          | (at_builtin; refine wpList_append_row _ rfl _ _ 61 rfl w1.heap.size 3 i3 (.int .i64 0) 8 Try.underlying61 hi3 hz3 hs3 hb3 rfl ea (k + 1) ec (endsV ps k) rfl (hp4.out.2.1.alloc _) (some ⟨w4.heap.size, 0, none⟩) 1 1 [.int .i64 ((q + (8 + s1.n) : Nat) : Int)] rfl (reads_block (cs := #[.int .i64 ((q + (8 + s1.n) : Nat) : Int)]) (heap_alloc_new w4 _)) (by simp [Value.oneCell']) (fun e => by cases e) (by unfold maxLen; omega) (by omega) (by have := hp4.out.2.2.size; simp; omega) ?_))
        intro ea' ec' w5 hr5 hg5 hor5
        intros
        have hp5 : Hid ((whole (ps.take (k + 1))).length = q + (8 + s1.n) ∧ Row w5 w1.heap.size 5 ba' (q + (8 + s1.n)) bc' (u8s (whole (ps.take (k + 1)))) ∧ Row w5 w1.heap.size 3 ea' (k + 1 + 1) ec' (endsV ps (k + 1)) ∧ Below w1.heap.size w1 w5 ∧ (∀ q ∈ ps.take (k + 1), q.length ≤ 131072 ∧ ∀ x ∈ q, Byte x)) := by
          have hr4' := hp4.out.1.alloc (.cells #[.int .i64 ((q : Int) + (8 + (s1.n : Int)))] 3)
          refine ⟨HWS.out.2, hr4'.grown hg5 (fun g e1 e2 => ?_), ?_, ((hp4.out.2.2.alloc hp4.out.2.2.size _).grown hg5 (by have := hp4.out.2.2.size; simp; omega) (fun g hg => ((hp4.out.2.1.alloc (.cells #[.int .i64 ((q : Int) + (8 + (s1.n : Int)))] 3)).lt hg).1)), HAL.out⟩
          · obtain ⟨c1, t1⟩ := hr4'.type e1
            obtain ⟨c2, t2⟩ := (hp4.out.2.1.alloc (.cells #[.int .i64 ((q : Int) + (8 + (s1.n : Int)))] 3)).type e2
            rw [t1] at t2; cases t2
          · rw [endsV_snoc, HWS.out.2, show ((q + (8 + s1.n) : Nat) : Int) = (q : Int) + (8 + (s1.n : Int)) by omega]
            exact hr5
        clear hr5 hg5 hor5
        go_wp2_with fail
        go_roundw
        case rel => exact ⟨k + 1, q + (8 + s1.n), ba', ea', bc', ec', by omega, by go_num, rfl, rfl, hp5⟩
        case measure => simp [intOf]; omega
    · obtain rfl : k = m := by omega
      have hI2 : Hid ((whole ps).length = q ∧ Row wr w1.heap.size 5 ba q bc (u8s (whole ps)) ∧ Row wr w1.heap.size 3 ea (k + 1) ec (endsV ps k) ∧ (∀ q ∈ ps, q.length ≤ 131072 ∧ ∀ x ∈ q, Byte x)) := by
        have h1 := hI.out
        rw [List.take_of_length_le (by rw [HPL.out]; omega)] at h1
        exact ⟨h1.1, h1.2.1, h1.2.2.1, h1.2.2.2.2⟩
      have hqm : q ≤ 90000000 := by rw [← hI2.out.1]; exact hwm
      clear hI
      obtain ⟨K, hK, hKw⟩ : ∃ K : Nat, K ≤ q ∧ (IntKind.u64.wrap nn).tmod ((q : Int) + 1) = (K : Int) := by
        have hw0 : 0 ≤ IntKind.u64.wrap nn := wrap_u64_nonneg _
        refine ⟨((IntKind.u64.wrap nn).tmod ((q : Int) + 1)).toNat, ?_, ?_⟩
        · have h1 := Int.tmod_lt_of_pos (IntKind.u64.wrap nn) (show (0 : Int) < (q : Int) + 1 by omega)
          have h2 := Int.tmod_nonneg ((q : Int) + 1) hw0
          omega
        · have h2 := Int.tmod_nonneg ((q : Int) + 1) hw0
          omega
      have hK1 : (K : Int) ≤ (q : Int) := by omega
      go_wp2_with fail
      clear hKw
      go_loop [11] (fun v => ∃ j : Nat, j ≤ k ∧ v = .int .i64 j ∧ Hid ((whole (ps.take j)).length ≤ K)) (fun v => k - (intOf v).toNat)
      case atStart => exact ⟨0, Nat.zero_le _, rfl, by simp [Hid, whole]⟩
      case round =>
        obtain ⟨j, hj, rfl, hJ⟩ := hrel
        have hj0 : (0 : Int) ≤ (j : Int) := by omega
        by_cases hlt2 : j < k
        · have hlt3 : (j : Int) + 1 < ((k + 1 : Nat) : Int) := by omega
          obtain ⟨g, hge, hcg⟩ := row_cell hI2.out.2.2.1 (k := j + 1) (u := .int .i64 (whole (ps.take (j + 1))).length) (by
            simp [endsV, List.getElem?_range (show j + 1 < k + 1 by omega)])
          subst hge
          obtain ⟨E, hE⟩ : ∃ E, (whole (ps.take (j + 1))).length = E := ⟨_, rfl⟩
          rw [hE] at hcg
          have hEb : E ≤ 90000000 := by have := whole_le ps (j + 1); omega
          have HE : Hid ((whole (ps.take (j + 1))).length = E) := hE
          clear hE
          by_cases hEK : E ≤ K
          · have hEK1 : (E : Int) ≤ (K : Int) := by omega
            go_wp2_with fail
            go_round
            case rel => exact ⟨j + 1, by omega, by go_num, by show _ ≤ _; rw [HE.out]; exact hEK⟩
            case measure => simp [intOf]; omega
          · have hEK1 : ¬ (E : Int) ≤ (K : Int) := by omega
            have HST : Hid (∀ x, ps[j]? = some x → K < (whole (ps.take j)).length + (8 + x.length)) := fun x hx => by
              have hjp : j < ps.length := by rw [HPL.out]; exact hlt2
              rw [List.getElem?_eq_getElem hjp] at hx
              cases hx
              have h1 := HE.out
              rw [whole_take_snoc ps j hjp, List.length_append, recI_length] at h1
              omega
            have HRK : Hid (recs 0 ((whole ps).take K) = ends 0 (ps.take j)) := cut_recs hI2.out.2.2.2 (by rw [HPL.out]; exact hj) hJ.out HST.out (by rw [hI2.out.1]; exact hK)
            have HALL : Hid (recs 0 (whole ps) = ends 0 ps) := recs_of_whole hI2.out.2.2.2
            have hbc := hI2.out.2.1.cap
            have hsl := run_head ba q bc K (by omega) wr
            obtain ⟨E0, hE0⟩ : ∃ E0, (whole (ps.take j)).length = E0 := ⟨_, rfl⟩
            have HE0 : Hid ((whole (ps.take j)).length = E0) := hE0
            have hE0K : E0 ≤ K := by rw [← hE0]; exact hJ.out
            clear hE0
            have H12 : Calls Try.prog 12 #[.slice ba K bc] wr fun e w' => ∃ ra rc, e = .returned (.tuple #[.slice ra j rc, .int .i64 E0, .int .i64 (if E0 < K then 140 else 0)]) ∧ Hid (TRow w' wr.heap.size ra j rc (ps.take j) ∧ Below wr.heap.size wr w') := by
              have hby := (hI2.out.2.1.by (whole_byte hI2.out.2.2.2)).upto hK
              have hjl : (ps.take j).length = j := by rw [List.length_take, HPL.out]; omega
              have hte : tornE ((whole ps).take K) = if E0 < K then 140 else 0 := by
                unfold tornE
                rw [HRK.out, last_ends0, HE0.out, hby.len]
              have := j12 ba K bc _ wr hby (by omega)
              rw [hte, HRK.out, ends_pay, ends_len, last_ends0, HE0.out, hjl] at this
              refine this.mono ?_
              rintro e w' ⟨ra, rc, rfl, ht⟩
              exact ⟨ra, rc, rfl, ht.row, ht.bel⟩
            obtain ⟨te, hte⟩ : ∃ te : Int, (if E0 < K then (140 : Int) else 0) = te := ⟨_, rfl⟩
            rw [hte] at H12
            have HTE : Hid ((te == 0) = ((E0 : Int) == (K : Int))) := by
              show (te == 0) = ((E0 : Int) == (K : Int))
              rw [← hte]
              by_cases hx : E0 < K
              · rw [if_pos hx]
                have : ((E0 : Int) == (K : Int)) = false := by simp; omega
                rw [this]; rfl
              · rw [if_neg hx]
                have : E0 = K := by omega
                subst this
                simp
            clear hte
            go_wp2_with fail
            clear hcg
            refine H12.mono ?_
            rintro e w3 ⟨ra, rc, rfl, hp3⟩
            clear H12 hsl
            have H12b : Calls Try.prog 12 #[.slice ba q bc] w3 fun e w' => ∃ ra rc le, e = .returned (.tuple #[.slice ra ps.length rc, .int .i64 le, .int .i64 0]) ∧ Hid (TRow w' w3.heap.size ra ps.length rc ps ∧ Below w3.heap.size w3 w') := by
              have hby := (hI2.out.2.1.below hp3.out.2).by (whole_byte hI2.out.2.2.2)
              have hte : tornE (whole ps) = 0 := by
                unfold tornE
                rw [HALL.out, last_ends0, if_neg (Nat.lt_irrefl _)]
              have := j12 ba q bc _ w3 hby (by omega)
              rw [hte, HALL.out, ends_pay, ends_len] at this
              refine this.mono ?_
              rintro e w' ⟨ra, rc, rfl, ht⟩
              exact ⟨ra, rc, _, rfl, ht.row, ht.bel⟩
            go_wp2_with fail
            refine H12b.mono ?_
            rintro e w4 ⟨ma, mc, le, rfl, hp4⟩
            clear H12b
            have hb34 : Hid (Below wr.heap.size wr w4) := hp3.out.2.trans (hp4.out.2.mono hp3.out.2.size)
            have hbw4 : Hid (Below w.heap.size w w4) := hbr.out.trans (hb34.out.mono hbr.out.size)
            have hsl2 := run_head27 a k c j (by omega) w4
            have hps : Hid (∀ x ∈ ps, x.length ≤ 140737488355328 ∧ ∀ y ∈ x, Byte y) := fun x hx => ⟨by have := (hI2.out.2.2.2 x hx).1; omega, (hI2.out.2.2.2 x hx).2⟩
            have H18 : Calls Try.prog 18 #[.slice ra j rc, .slice a j c] w4 fun e w' => e = .returned (.bool true) ∧ Hid (Below w4.heap.size w4 w') := by
              obtain ⟨l1, hl1⟩ := (hp3.out.1.below hp4.out.2).pl (fun x hx => hps.out x (List.mem_of_mem_take hx))
              refine (j18 ra a j rc j c l1 _ (ps.take j) (ps.take j) w4 hl1 ((HH.out.below hbw4.out).upto hj) (by omega) (by omega)).mono ?_
              rintro e w' ⟨rfl, d, rfl⟩
              exact ⟨by simp [sameP], below_dN (Below.refl _ _) _⟩
            go_wp2_with fail
            refine H18.mono ?_
            rintro e w5 ⟨rfl, hp5⟩
            clear H18 hsl2
            obtain ⟨eg, hge2, hcg2⟩ := row_cell (hI2.out.2.2.1.below (hb34.out.trans (hp5.out.mono hb34.out.size))) (k := j) (u := .int .i64 E0) (by
              simp [endsV, List.getElem?_range (show j < k + 1 by omega), HE0.out])
            try simp only [Option.some.injEq, Addr.mk.injEq, and_true] at hge2
            try subst hge2
            have hj1 : (j : Int) < ((k + 1 : Nat) : Int) := by omega
            have H18b : Hid (∀ w6, Below w4.heap.size w4 w6 → Calls Try.prog 18 #[.slice ma ps.length mc, .slice a k c] w6 fun e w' => e = .returned (.bool true) ∧ Hid (Below w.heap.size w w')) := fun w6 hb6 => by
              obtain ⟨l1, hl1⟩ := (hp4.out.1.below hb6).pl hps.out
              have hbw6 := hbw4.out.trans (hb6.mono hbw4.out.size)
              have hpl2 := HPL.out
              refine (j18 ma a ps.length mc k c l1 l ps ps w6 hl1 (HH.out.below hbw6) (by omega) (by omega)).mono ?_
              rintro e w' ⟨rfl, d, rfl⟩
              exact ⟨by simp [sameP], below_dN hbw6 _⟩
            have H18c := H18b.out w5 hp5.out
            have hEE : ((E0 : Int) == (E0 : Int)) = true := by simp
            by_cases hEK9 : E0 = K
            · have ht0 : (te == 0) = true := by rw [HTE.out, hEK9]; simp
              have ht1 : te = 0 := by simpa using ht0
              subst ht1
              subst hEK9
              go_wp2_with fail
              refine H18c.mono ?_
              rintro e w7 ⟨rfl, hp7⟩
              go_wp2_with fail
              go_ret
              exact ⟨rfl, hp7.out⟩
            · have hk9 : ((E0 : Int) == (K : Int)) = false := by simp; omega
              have ht0 : (te == 0) = false := by rw [HTE.out]; exact hk9
              go_wp2_with fail
              refine H18c.mono ?_
              rintro e w7 ⟨rfl, hp7⟩
              go_wp2_with fail
              go_ret
              exact ⟨rfl, hp7.out⟩
        · obtain rfl : j = k := by omega
          have hlt3 : ¬ (j : Int) + 1 < ((j + 1 : Nat) : Int) := by omega
          have HST : Hid (∀ x, ps[j]? = some x → K < (whole (ps.take j)).length + (8 + x.length)) := fun x hx => by
            have := (List.getElem?_eq_some_iff.1 hx).1
            have := HPL.out
            omega
          have HRK : Hid (recs 0 ((whole ps).take K) = ends 0 (ps.take j)) := cut_recs hI2.out.2.2.2 (by rw [HPL.out]; exact hj) hJ.out HST.out (by rw [hI2.out.1]; exact hK)
          have HALL : Hid (recs 0 (whole ps) = ends 0 ps) := recs_of_whole hI2.out.2.2.2
          have hbc := hI2.out.2.1.cap
          have hsl := run_head ba q bc K (by omega) wr
          obtain ⟨E0, hE0⟩ : ∃ E0, (whole (ps.take j)).length = E0 := ⟨_, rfl⟩
          have HE0 : Hid ((whole (ps.take j)).length = E0) := hE0
          have hE0K : E0 ≤ K := by rw [← hE0]; exact hJ.out
          clear hE0
          have H12 : Calls Try.prog 12 #[.slice ba K bc] wr fun e w' => ∃ ra rc, e = .returned (.tuple #[.slice ra j rc, .int .i64 E0, .int .i64 (if E0 < K then 140 else 0)]) ∧ Hid (TRow w' wr.heap.size ra j rc (ps.take j) ∧ Below wr.heap.size wr w') := by
            have hby := (hI2.out.2.1.by (whole_byte hI2.out.2.2.2)).upto hK
            have hjl : (ps.take j).length = j := by rw [List.length_take, HPL.out]; omega
            have hte : tornE ((whole ps).take K) = if E0 < K then 140 else 0 := by
              unfold tornE
              rw [HRK.out, last_ends0, HE0.out, hby.len]
            have := j12 ba K bc _ wr hby (by omega)
            rw [hte, HRK.out, ends_pay, ends_len, last_ends0, HE0.out, hjl] at this
            refine this.mono ?_
            rintro e w' ⟨ra, rc, rfl, ht⟩
            exact ⟨ra, rc, rfl, ht.row, ht.bel⟩
          obtain ⟨te, hte⟩ : ∃ te : Int, (if E0 < K then (140 : Int) else 0) = te := ⟨_, rfl⟩
          rw [hte] at H12
          have HTE : Hid ((te == 0) = ((E0 : Int) == (K : Int))) := by
            show (te == 0) = ((E0 : Int) == (K : Int))
            rw [← hte]
            by_cases hx : E0 < K
            · rw [if_pos hx]
              have : ((E0 : Int) == (K : Int)) = false := by simp; omega
              rw [this]; rfl
            · rw [if_neg hx]
              have : E0 = K := by omega
              subst this
              simp
          clear hte
          go_wp2_with fail
          refine H12.mono ?_
          rintro e w3 ⟨ra, rc, rfl, hp3⟩
          clear H12 hsl
          have H12b : Calls Try.prog 12 #[.slice ba q bc] w3 fun e w' => ∃ ra rc le, e = .returned (.tuple #[.slice ra ps.length rc, .int .i64 le, .int .i64 0]) ∧ Hid (TRow w' w3.heap.size ra ps.length rc ps ∧ Below w3.heap.size w3 w') := by
            have hby := (hI2.out.2.1.below hp3.out.2).by (whole_byte hI2.out.2.2.2)
            have hte : tornE (whole ps) = 0 := by
              unfold tornE
              rw [HALL.out, last_ends0, if_neg (Nat.lt_irrefl _)]
            have := j12 ba q bc _ w3 hby (by omega)
            rw [hte, HALL.out, ends_pay, ends_len] at this
            refine this.mono ?_
            rintro e w' ⟨ra, rc, rfl, ht⟩
            exact ⟨ra, rc, _, rfl, ht.row, ht.bel⟩
          go_wp2_with fail
          refine H12b.mono ?_
          rintro e w4 ⟨ma, mc, le, rfl, hp4⟩
          clear H12b
          have hb34 : Hid (Below wr.heap.size wr w4) := hp3.out.2.trans (hp4.out.2.mono hp3.out.2.size)
          have hbw4 : Hid (Below w.heap.size w w4) := hbr.out.trans (hb34.out.mono hbr.out.size)
          have hsl2 := run_head27 a j c j (by omega) w4
          have hps : Hid (∀ x ∈ ps, x.length ≤ 140737488355328 ∧ ∀ y ∈ x, Byte y) := fun x hx => ⟨by have := (hI2.out.2.2.2 x hx).1; omega, (hI2.out.2.2.2 x hx).2⟩
          have H18 : Calls Try.prog 18 #[.slice ra j rc, .slice a j c] w4 fun e w' => e = .returned (.bool true) ∧ Hid (Below w4.heap.size w4 w') := by
            obtain ⟨l1, hl1⟩ := (hp3.out.1.below hp4.out.2).pl (fun x hx => hps.out x (List.mem_of_mem_take hx))
            refine (j18 ra a j rc j c l1 _ (ps.take j) (ps.take j) w4 hl1 ((HH.out.below hbw4.out).upto hj) (by omega) (by omega)).mono ?_
            rintro e w' ⟨rfl, d, rfl⟩
            exact ⟨by simp [sameP], below_dN (Below.refl _ _) _⟩
          go_wp2_with fail
          refine H18.mono ?_
          rintro e w5 ⟨rfl, hp5⟩
          clear H18 hsl2
          obtain ⟨eg, hge2, hcg2⟩ := row_cell (hI2.out.2.2.1.below (hb34.out.trans (hp5.out.mono hb34.out.size))) (k := j) (u := .int .i64 E0) (by
            simp [endsV, HE0.out])
          try simp only [Option.some.injEq, Addr.mk.injEq, and_true] at hge2
          try subst hge2
          have hj1 : (j : Int) < ((j + 1 : Nat) : Int) := by omega
          have H18b : Hid (∀ w6, Below w4.heap.size w4 w6 → Calls Try.prog 18 #[.slice ma ps.length mc, .slice a j c] w6 fun e w' => e = .returned (.bool true) ∧ Hid (Below w.heap.size w w')) := fun w6 hb6 => by
            obtain ⟨l1, hl1⟩ := (hp4.out.1.below hb6).pl hps.out
            have hbw6 := hbw4.out.trans (hb6.mono hbw4.out.size)
            have hpl2 := HPL.out
            refine (j18 ma a ps.length mc j c l1 l ps ps w6 hl1 (HH.out.below hbw6) (by omega) (by omega)).mono ?_
            rintro e w' ⟨rfl, d, rfl⟩
            exact ⟨by simp [sameP], below_dN hbw6 _⟩
          have H18c := H18b.out w5 hp5.out
          have hEE : ((E0 : Int) == (E0 : Int)) = true := by simp
          by_cases hEK9 : E0 = K
          · have ht0 : (te == 0) = true := by rw [HTE.out, hEK9]; simp
            have ht1 : te = 0 := by simpa using ht0
            subst ht1
            subst hEK9
            go_wp2_with fail
            refine H18c.mono ?_
            rintro e w7 ⟨rfl, hp7⟩
            go_wp2_with fail
            go_ret
            exact ⟨rfl, hp7.out⟩
          · have hk9 : ((E0 : Int) == (K : Int)) = false := by simp; omega
            have ht0 : (te == 0) = false := by rw [HTE.out]; exact hk9
            go_wp2_with fail
            refine H18c.mono ?_
            rintro e w7 ⟨rfl, hp7⟩
            go_wp2_with fail
            go_ret
            exact ⟨rfl, hp7.out⟩
end Go.Proofs.Ytcmblfgpeaeciaa
