/- Contracts of copied, Index, Contains, SameInts. -/
import Derived.Test.YtdonclnjgopmbaaOA
namespace Go.Proofs.Ytdonclnjgopmbaa
open Go.RowKit
attribute [local go_sem ↓] Go.wp_at_zero Go.wp_at_succ
theorem below_dN {B : Nat} {w0 w : World} (h : Below B w0 w) (n : Nat) : Below B w0 (w.drewN n) := ⟨h.os, h.tape, h.output, h.size, fun k hk => h.block k hk⟩
/-- Numbers that can be read. -/
structure In (w : World) (a : Option Addr) (n : Nat) (xs : List Int) : Prop where
  len : xs.length = n
  mem : n = 0 ∨ ∃ b o, a = some ⟨b, o, none⟩ ∧ b < w.heap.size ∧ w.rangeAt b o (i64s xs)
theorem In.below {w w' : World} {a : Option Addr} {n : Nat} {xs : List Int} (h : In w a n xs) (hb : Below w.heap.size w w') : In w' a n xs :=
  ⟨h.len, by
    rcases h.mem with e | ⟨b, o, e, hl, hr⟩
    · exact .inl e
    · exact .inr ⟨b, o, e, Nat.lt_of_lt_of_le hl hb.size, fun j u hu => (hb.cell (p := ⟨b, o + j, none⟩) hl).trans (hr j u hu)⟩⟩
theorem In.keeps {w w' : World} {a : Option Addr} {n : Nat} {xs : List Int} (h : In w a n xs) (hk : ∀ g, blk a = some g → w'.heap[g]? = w.heap[g]?) : In w' a n xs :=
  ⟨h.len, by
    rcases h.mem with e | ⟨b, o, e, hl, hr⟩
    · exact .inl e
    · subst e
      have hg := hk b rfl
      refine .inr ⟨b, o, rfl, ?_, fun j u hu => ?_⟩
      · rw [Array.getElem?_eq_getElem hl] at hg
        exact (Array.getElem?_eq_some_iff.1 hg).1
      · have := hr j u hu
        unfold World.cell? at this ⊢
        simp only [hg]
        exact this⟩
theorem In.at {w : World} {a : Option Addr} {n : Nat} {xs : List Int} (h : In w a n xs) {k : Nat} (hk : k < n) : ∃ b o, ∃ (hx : k < xs.length), a = some ⟨b, o, none⟩ ∧ w.cell? ⟨b, o + k, none⟩ = some (.int .i64 xs[k]) := by
  rcases h.mem with e | ⟨b, o, e, _, hr⟩
  · omega
  · have hx : k < xs.length := by rw [h.len]; exact hk
    exact ⟨b, o, hx, e, hr k _ (by simp [i64s, List.getElem?_eq_getElem hx])⟩
theorem In.reads {w : World} {a : Option Addr} {n : Nat} {xs : List Int} (h : In w a n xs) : Reads w a n (i64s xs) := by
  refine ⟨by simp [h.len], ?_⟩
  rcases h.mem with e | ⟨b, o, e, _, hr⟩
  · exact .inl e
  · exact .inr ⟨_, e, fun j u hu => by rw [Addr.add_mid]; exact hr j u hu⟩
theorem Row.in {w : World} {B : Nat} {a : Option Addr} {n c : Nat} {xs : List Int} (h : Row w B 3 a n c (i64s xs)) : In w a n xs := by
  refine ⟨by simpa using h.len, ?_⟩
  rcases Nat.eq_zero_or_pos n with h0 | h0
  · exact .inl h0
  · rcases h.reads.2 with e | ⟨ad, e, hr⟩
    · omega
    · rcases h.mem with ⟨rfl, _⟩ | ⟨g, cur, rfl, _, hb, _⟩
      · cases e
      · cases e
        exact .inr ⟨g, 0, rfl, (Array.getElem?_eq_some_iff.1 hb).1, fun j u hu => by have := hr j u hu; rwa [Addr.add_mid] at this⟩
set_option maxRecDepth 100000 in
set_option maxHeartbeats 1000000 in
theorem o26 (a : Option Addr) (n c : Nat) (xs : List Int) (w : World) (h : In w a n xs) (hn : n ≤ 1000000) :
    Calls Try.prog 26 #[.slice a n c] w fun e w' => ∃ g, e = .returned (.slice (some ⟨g, 0, none⟩) n n) ∧ Row w' w.heap.size 3 (some ⟨g, 0, none⟩) n n (i64s xs) ∧ Below w.heap.size w w' := by
  obtain ⟨i0, hi, hz, hs, hb⟩ := infoI64
  have HH : Hid (In w a n xs) := h
  have hmk : ∃ w1, (Instr.makeSlice 34 (.int .i64 (n : Int)) (.int .i64 (n : Int))).run Try.prog w = .ok (.slice (some ⟨w.heap.size, 0, none⟩) n n) w1 ∧ w1.heap[w.heap.size]? = some (.cells (List.replicate n (Value.int .i64 0)).toArray 3 (0, 0)) ∧ Below w.heap.size w w1 := by
    have hr := run_make (P := Try.prog) w 34 3 i0 (.int .i64 0) Try.underlying34 hi hz .i64 .i64 (n : Int) (n : Int) (by omega) (Int.le_refl _) (by rw [hb]; omega) (by omega)
    rw [Int.toNat_natCast, hs] at hr
    refine ⟨_, hr, ?_, (Below.refl _ w).alloc (Nat.le_refl _) _⟩
    have hq : madeCells (Value.int .i64 0).cells (n * 1) = (List.replicate n (Value.int .i64 0)).toArray := by
      apply Array.ext
      · simp [size_madeCells]
      · intro i h1 h2
        simp [madeCells, Value.cells, Nat.mod_one]
    rw [heap_alloc_new, hq]
  obtain ⟨w1, hmr, hto, hbl⟩ := hmk
  have HTO : Hid (w1.heap[w.heap.size]? = some (.cells (List.replicate n (Value.int .i64 0)).toArray 3 (0, 0)) ∧ Below w.heap.size w w1) := ⟨hto, hbl⟩
  obtain ⟨g, hg⟩ : ∃ g, w.heap.size = g := ⟨_, rfl⟩
  rw [hg] at hmr HTO ⊢
  have HG : Hid (w.heap.size = g) := hg
  obtain ⟨ys, hys⟩ : ∃ ys, ys = i64s xs := ⟨_, rfl⟩
  have HY : Hid (ys = i64s xs ∧ ys.length = n) := ⟨hys, by rw [hys, i64s_length, h.len]⟩
  rw [← hys]
  clear h hto hbl hg hys
  go_enter Try.func26, Try.ntmps26
  have hcp : ∃ w2, (Builtin.copy_ #[34, 34] 3 #[.slice (some ⟨g, 0, none⟩) n n, .slice a n c]).run Try.prog w1 = .ok (.int .i64 (n : Int)) w2 ∧ Row w2 g 3 (some ⟨g, 0, none⟩) n n ys ∧ Below g w w2 := by
    have hb1 : Below w.heap.size w w1 := by rw [HG.out]; exact HTO.out.2
    have hy := HY.out.2
    rcases (HH.out.below hb1).reads.2 with e | ⟨ad, e, hr⟩
    · subst e
      obtain rfl : ys = [] := List.eq_nil_of_length_eq_zero hy
      refine ⟨w1, run_copy_none w1 34 34 3 3 _ _ 0 0 0 c Try.underlying34 (by kernel_rfl) rfl, ⟨rfl, Nat.le_refl _, Nat.zero_le _, .inr ⟨g, _, rfl, Nat.le_refl _, HTO.out.1, Nat.zero_le _, rfl⟩⟩, HTO.out.2⟩
    · subst e
      rw [← HY.out.1] at hr
      have hrun := run_copy_row (P := Try.prog) w1 34 34 3 3 g 0 n n ad n c _ 3 ys Try.underlying34 (by kernel_rfl) HTO.out.1 (by rw [hy]; exact (Nat.min_self n).symm) hr (by simp [hy]) (by rw [HY.out.1]; exact i64s_one _)
      rw [hy] at hrun
      refine ⟨_, hrun, ?_, below_setRow HTO.out.2 (Nat.le_refl _) _⟩
      have hs := setRow_heap w1 g _ (((List.replicate n (Value.int .i64 0)).toArray.toList.take 0 ++ ys ++ (List.replicate n (Value.int .i64 0)).toArray.toList.drop (0 + n)).toArray) 3 _ HTO.out.1
      refine ⟨hy, Nat.le_refl _, by unfold maxLen; omega, .inr ⟨g, _, rfl, Nat.le_refl _, hs, by simp [hy], ?_⟩⟩
      simp
      exact List.take_of_length_le (by omega)
  obtain ⟨w2, hcr, hF1, hF2⟩ := hcp
  have HF : Hid (Row w2 g 3 (some ⟨g, 0, none⟩) n n ys ∧ Below g w w2) := ⟨hF1, hF2⟩
  clear hF1 hF2
  go_wp2_with fail
  go_ret
  exact ⟨g, rfl, HF.out⟩
/-- Does a number stand among others? -/
def hasI (xs : List Int) (k : Int) : Bool := xs.contains k
set_option maxRecDepth 100000 in
set_option maxHeartbeats 1000000 in
theorem o39 (a : Option Addr) (n c : Nat) (xs : List Int) (k : Int) (w : World) (h : In w a n xs) (hn : n ≤ 1000000) :
    Calls Try.prog 39 #[.slice a n c, .int .i64 k] w fun e w' => (∃ i : Int, e = .returned (.int .i64 i) ∧ decide (i ≥ 0) = hasI xs k) ∧ w' = w := by
  have HH : Hid (In w a n xs) := h
  clear h
  go_enter Try.func39, Try.ntmps39
  go_wp2_with fail
  go_loopw [8, 5] (fun i _ wr => ∃ j : Nat, j ≤ n ∧ i = .int .i64 j ∧ wr = w ∧ Hid (hasI (xs.take j) k = false)) (fun i _ _ => n - (intOf i).toNat)
  case atStart => exact ⟨0, Nat.zero_le _, rfl, rfl, rfl⟩
  case round =>
    obtain ⟨j, hj, rfl, rfl, hF⟩ := hrel
    by_cases hlt : j < n
    · have hlt1 : (j : Int) < (n : Int) := by omega
      have hj0 : (0 : Int) ≤ (j : Int) := by omega
      obtain ⟨b, o, hx, rfl, hc⟩ := HH.out.at hlt
      have HT : Hid (xs.take (j + 1) = xs.take j ++ [xs[j]]) := (List.take_append_getElem hx).symm
      have HM : Hid (xs[j] ∈ xs) := List.getElem_mem hx
      generalize xs[j] = y at *
      by_cases hy : k = y
      · subst hy
        go_wp2_with fail
        go_ret
        refine ⟨⟨j, rfl, ?_⟩, rfl⟩
        have h1 : hasI xs k = true := by simpa [hasI] using HM.out
        rw [h1]; simp
      · have hy2 : (k == y) = false := by simp [hy]
        go_wp2_with fail
        go_roundw
        case rel => exact ⟨j + 1, by omega, by go_num, by first | rfl | trivial, by
          show hasI (xs.take (j + 1)) k = false
          rw [HT.out]
          have := hF.out
          simp only [hasI, List.contains_eq_mem, decide_eq_false_iff_not, List.mem_append, List.mem_singleton] at this ⊢
          intro h
          rcases h with h | h
          · exact this h
          · exact hy h⟩
        case measure => simp [intOf]; omega
    · go_wp2_with fail
      go_ret
      refine ⟨⟨-1, rfl, ?_⟩, rfl⟩
      have h1 := hF.out
      rw [List.take_of_length_le (by rw [HH.out.len]; omega)] at h1
      rw [h1]; rfl
set_option maxRecDepth 100000 in
theorem o27 (a : Option Addr) (n c : Nat) (xs : List Int) (k : Int) (w : World) (h : In w a n xs) (hn : n ≤ 1000000) :
    Calls Try.prog 27 #[.slice a n c, .int .i64 k] w fun e w' => e = .returned (.bool (hasI xs k)) ∧ w' = w := by
  have H39 : Calls Try.prog 39 #[.slice a n c, .int .i64 k] w fun e w' => ∃ i : Int, e = .returned (.int .i64 i) ∧ Hid (decide (i ≥ 0) = hasI xs k) ∧ w' = w := by
    refine (o39 a n c xs k w h hn).mono ?_
    rintro e w' ⟨⟨i, rfl, h1⟩, rfl⟩
    exact ⟨i, rfl, h1, rfl⟩
  clear h
  go_enter Try.func27, Try.ntmps27
  go_wp2_with fail
  refine H39.mono ?_
  rintro e w' ⟨i, rfl, HI, hw⟩
  obtain rfl := hw
  go_wp2_with fail
  go_ret
  refine ⟨?_, rfl⟩
  rw [← HI.out]; rfl
/-- Are numbers the same? -/
def sameI (xs ys : List Int) : Bool := decide (xs = ys)
theorem take_ne {xs ys : List Int} {k : Nat} (h1 : k < xs.length) (h2 : k < ys.length) (h : xs[k] ≠ ys[k]) : xs ≠ ys := fun e => by subst e; exact h rfl
set_option maxRecDepth 100000 in
set_option maxHeartbeats 2000000 in
theorem o13 (a b : Option Addr) (n c n' c' : Nat) (xs ys : List Int) (w : World) (h : In w a n xs) (h' : In w b n' ys) (hn : n ≤ 140737488355328) (hn' : n' ≤ 140737488355328) :
    Calls Try.prog 13 #[.slice a n c, .slice b n' c'] w fun e w' => e = .returned (.bool (sameI xs ys)) ∧ ∃ d, w' = w.drewN d := by
  have HX : Hid (In w a n xs) := h
  have HY : Hid (In w b n' ys) := h'
  have hlx := h.len
  have hly := h'.len
  by_cases hnn : n = n'
  · subst hnn
    have HL : Hid (xs.length = n ∧ ys.length = n) := ⟨hlx, hly⟩
    clear h h' hlx hly
    go_enter Try.func13, Try.ntmps13
    go_wp2_with fail
    go_loopw [5] (fun i wr => ∃ k d : Nat, k ≤ n ∧ i = .int .i64 k ∧ wr = w.drewN d ∧ Hid (xs.take k = ys.take k)) (fun i _ => n - (intOf i).toNat)
    case atStart => exact ⟨0, 0, Nat.zero_le _, rfl, rfl, rfl⟩
    case round =>
      obtain ⟨k, d, hk, rfl, rfl, hT⟩ := hrel
      by_cases hlt : k < n
      · have hlt1 : (k : Int) < (n : Int) := by omega
        have hk0 : (0 : Int) ≤ (k : Int) := by omega
        obtain ⟨b1, o1, hk1, rfl, hc1⟩ := (HX.out.below (below_dN (Below.refl _ _) d)).at hlt
        obtain ⟨b2, o2, hk2, rfl, hc2⟩ := (HY.out.below (below_dN (Below.refl _ _) d)).at hlt
        have HTX : Hid (xs.take (k + 1) = xs.take k ++ [xs[k]]) := (List.take_append_getElem hk1).symm
        have HTY : Hid (ys.take (k + 1) = ys.take k ++ [ys[k]]) := (List.take_append_getElem hk2).symm
        have HNE : Hid (xs[k] ≠ ys[k] → sameI xs ys = false) := fun e => by
          show sameI xs ys = false
          simp only [sameI, decide_eq_false_iff_not]
          exact take_ne hk1 hk2 e
        simp only [World.cell?_drewN] at hc1 hc2
        generalize xs[k] = x at *
        generalize ys[k] = y at *
        clear hk1 hk2
        by_cases hxy : x = y
        · subst hxy
          go_wp2_with fail
          go_quiet (fail)
          go_wp2_with fail
          go_roundw
          case rel => exact ⟨k + 1, d + nq, by omega, by go_num, by simp [World.drewN], by
            show xs.take (k + 1) = ys.take (k + 1)
            rw [HTX.out, HTY.out, hT.out]⟩
          case measure => simp [intOf]; omega
        · have hxy2 : (x == y) = false := by simp [hxy]
          go_wp2_with fail
          go_quiet (fail)
          go_wp2_with fail
          go_ret
          refine ⟨?_, d + nq, by simp [World.drewN, Nat.add_assoc]⟩
          rw [HNE.out hxy]; rfl
      · go_wp2_with fail
        go_ret
        refine ⟨?_, d, rfl⟩
        have e1 : xs = ys := by
          have h1 := hT.out
          rwa [List.take_of_length_le (by rw [HL.out.1]; omega), List.take_of_length_le (by rw [HL.out.2]; omega)] at h1
        have : sameI xs ys = true := by simp [sameI, e1]
        rw [this]; rfl
  · have hne : ¬ (n : Int) = (n' : Int) := by omega
    have HF : Hid (sameI xs ys = false) := by
      show sameI xs ys = false
      simp only [sameI, decide_eq_false_iff_not]
      intro e; subst e; omega
    clear h h' hlx hly
    go_enter Try.func13, Try.ntmps13
    go_wp2_with fail
    go_ret
    exact ⟨by rw [HF.out]; rfl, 0, rfl⟩
end Go.Proofs.Ytdonclnjgopmbaa
