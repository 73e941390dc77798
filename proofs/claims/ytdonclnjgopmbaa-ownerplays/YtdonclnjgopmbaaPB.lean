/- Names that can be read; contracts of the reference's Less, HasName, SameNames. -/
import Derived.Test.YtdonclnjgopmbaaKY3
import Derived.Test.YtdonclnjgopmbaaOC
namespace Go.Proofs.Ytdonclnjgopmbaa
open Go.RowKit
attribute [local go_sem ↓] Go.wp_at_zero Go.wp_at_succ
theorem fmN_get : ∀ (l : List Nm) (i : Nat) (hi : i < l.length), (l.flatMap encM)[i * 2]? = some (.int .i64 l[i].1) ∧ (l.flatMap encM)[i * 2 + 1]? = some (.int .i64 l[i].2)
  | d :: r, 0, _ => by simp [encM]
  | d :: r, i + 1, hi => by
    have h := fmN_get r i (by simpa using hi)
    have e : (i + 1) * 2 = i * 2 + 2 := by omega
    simp only [List.flatMap_cons, encM, List.cons_append, List.nil_append, List.getElem_cons_succ, e]
    exact h
/-- Names that can be read. -/
structure Ns (w : World) (a : Option Addr) (n : Nat) (xs : List Nm) : Prop where
  len : xs.length = n
  mem : n = 0 ∨ ∃ b o, a = some ⟨b, o, none⟩ ∧ b < w.heap.size ∧ w.rangeAt b o (xs.flatMap encM)
theorem Ns.below {w w' : World} {a : Option Addr} {n : Nat} {xs : List Nm} (h : Ns w a n xs) (hb : Below w.heap.size w w') : Ns w' a n xs :=
  ⟨h.len, by
    rcases h.mem with e | ⟨b, o, e, hl, hr⟩
    · exact .inl e
    · exact .inr ⟨b, o, e, Nat.lt_of_lt_of_le hl hb.size, fun j u hu => (hb.cell (p := ⟨b, o + j, none⟩) hl).trans (hr j u hu)⟩⟩
theorem Ns.keeps {w w' : World} {a : Option Addr} {n : Nat} {xs : List Nm} (h : Ns w a n xs) (hk : ∀ g, blk a = some g → w'.heap[g]? = w.heap[g]?) : Ns w' a n xs :=
  ⟨h.len, by
    rcases h.mem with e | ⟨b, o, e, hl, hr⟩
    · exact .inl e
    · subst e
      have hg := hk b rfl
      refine .inr ⟨b, o, rfl, ?_, fun j u hu => ?_⟩
      · rw [Array.getElem?_eq_getElem hl] at hg
        exact (Array.getElem?_eq_some_iff.1 hg).1
      · have := hr j u hu
        unfold World.cell? at this ⊢
        simp only [hg]
        exact this⟩
theorem Ns.at {w : World} {a : Option Addr} {n : Nat} {xs : List Nm} (h : Ns w a n xs) {k : Nat} (hk : k < n) : ∃ b o, ∃ (hx : k < xs.length), a = some ⟨b, o, none⟩ ∧ b < w.heap.size ∧ w.cell? ⟨b, o + k * 2, none⟩ = some (.int .i64 xs[k].1) ∧ w.cell? ⟨b, o + k * 2 + 1, none⟩ = some (.int .i64 xs[k].2) := by
  rcases h.mem with e | ⟨b, o, e, hl, hr⟩
  · omega
  · have hx : k < xs.length := by rw [h.len]; exact hk
    obtain ⟨p1, p2⟩ := fmN_get xs k hx
    exact ⟨b, o, hx, e, hl, hr _ _ p1, by have := hr _ _ p2; rwa [← Nat.add_assoc] at this⟩
def lessB (x1 x2 y1 y2 : Int) : Bool := decide (x1 < y1) || (decide (x1 = y1) && decide (x2 < y2))
theorem lessB_iff (x y : Nm) : lessB x.1 x.2 y.1 y.2 = true ↔ ltN x y := by simp [lessB, ltN]
set_option maxRecDepth 100000 in
set_option maxHeartbeats 1000000 in
theorem o31 (x1 x2 y1 y2 : Int) (w : World) : Calls Try.prog 31 #[.agg #[.int .i64 x1, .int .i64 x2], .agg #[.int .i64 y1, .int .i64 y2]] w fun e w' => e = .returned (.bool (lessB x1 x2 y1 y2)) ∧ Below w.heap.size w w' := by
  have HB : Hid (Below w.heap.size w ((w.alloc (.cells #[.int .i64 x1, .int .i64 x2] 28)).alloc (.cells #[.int .i64 y1, .int .i64 y2] 28))) := ((Below.refl _ w).alloc (Nat.le_refl _) _).alloc (by simp) _
  have HL : Hid ((x1 < y1 → lessB x1 x2 y1 y2 = true) ∧ (¬ x1 < y1 → x1 ≠ y1 → lessB x1 x2 y1 y2 = false) ∧ (x1 = y1 → lessB x1 x2 y1 y2 = decide (x2 < y2))) := by
    refine ⟨fun h => by simp [lessB, h], fun h h' => by simp [lessB, h, h'], fun h => by simp [lessB, h]⟩
  generalize lessB x1 x2 y1 y2 = r at *
  by_cases h1 : x1 < y1
  · obtain rfl := HL.out.1 h1
    clear HL
    go_enter Try.func31, Try.ntmps31
    go_wp2_with fail
    go_ret
    exact ⟨rfl, HB.out⟩
  · by_cases h2 : x1 = y1
    · obtain rfl := HL.out.2.2 h2
      subst h2
      clear HL
      by_cases h3 : x2 < y2
      · go_enter Try.func31, Try.ntmps31
        go_wp2_with fail
        go_ret
        exact ⟨by simp, HB.out⟩
      · go_enter Try.func31, Try.ntmps31
        go_wp2_with fail
        go_ret
        exact ⟨by simp [h3], HB.out⟩
    · obtain rfl := HL.out.2.1 h1 h2
      clear HL
      have h2' : (x1 == y1) = false := by simp [h2]
      go_enter Try.func31, Try.ntmps31
      go_wp2_with fail
      go_ret
      exact ⟨rfl, HB.out⟩
theorem eqlN (a b c d : Int) (w : World) : (binOp .eql 28 (.agg #[.int .i64 a, .int .i64 b]) (.agg #[.int .i64 c, .int .i64 d])).run Try.prog w = .ok (.bool (a == c && b == d)) w := by
  cases h1 : (a == c) <;> cases h2 : (b == d) <;> go_simp
theorem neqN (a b c d : Int) (w : World) : (binOp .neq 28 (.agg #[.int .i64 a, .int .i64 b]) (.agg #[.int .i64 c, .int .i64 d])).run Try.prog w = .ok (.bool (!(a == c && b == d))) w := by
  cases h1 : (a == c) <;> cases h2 : (b == d) <;> go_simp
def hasN (xs : List Nm) (x : Nm) : Bool := decide (x ∈ xs)
set_option maxRecDepth 100000 in
set_option maxHeartbeats 2000000 in
theorem o30 (a : Option Addr) (n c : Nat) (xs : List Nm) (x : Nm) (w : World) (h : Ns w a n xs) (hn : n ≤ 140737488355328) :
    Calls Try.prog 30 #[.slice a n c, .agg #[.int .i64 x.1, .int .i64 x.2]] w fun e w' => e = .returned (.bool (hasN xs x)) ∧ Below w.heap.size w w' := by
  obtain ⟨W, hW⟩ : ∃ W, w.alloc (.cells #[.int .i64 x.1, .int .i64 x.2] 28) = W := ⟨_, rfl⟩
  obtain ⟨vb, hvb⟩ : ∃ vb, w.heap.size = vb := ⟨_, rfl⟩
  have hc : W.heap[vb]? = some (.cells #[.int .i64 x.1, .int .i64 x.2] 28 (0, 0)) := by rw [← hW, ← hvb]; exact heap_alloc_new w _
  obtain ⟨v0, v1⟩ := box_cells hc
  have hbW : Below w.heap.size w W := by rw [← hW]; exact (Below.refl _ w).alloc (Nat.le_refl _) _
  have HX : Hid (Ns W a n xs ∧ Below w.heap.size w W ∧ xs.length = n) := ⟨h.below hbW, hbW, h.len⟩
  clear h hc hbW
  obtain ⟨x1, x2⟩ := x
  simp only at hW v0 v1
  go_enter Try.func30, Try.ntmps30
  go_wp2_with fail
  go_loopw [5] (fun i wr => ∃ k d : Nat, k ≤ n ∧ i = .int .i64 k ∧ wr = W.drewN d ∧ Hid ((x1, x2) ∉ xs.take k)) (fun i _ => n - (intOf i).toNat)
  case atStart => exact ⟨0, 0, Nat.zero_le _, rfl, rfl, by intro h; simp at h⟩
  case round =>
    obtain ⟨k, d, hk, rfl, rfl, hT⟩ := hrel
    by_cases hlt : k < n
    · have hlt1 : (k : Int) < (n : Int) := by omega
      have hk0 : (0 : Int) ≤ (k : Int) := by omega
      obtain ⟨b1, o1, hk1, rfl, _, hc1, hc2⟩ := HX.out.1.at hlt
      have HTX : Hid (xs.take (k + 1) = xs.take k ++ [xs[k]]) := (List.take_append_getElem hk1).symm
      have HM : Hid (xs[k] ∈ xs) := List.getElem_mem hk1
      generalize xs[k] = y at *
      obtain ⟨y1, y2⟩ := y
      simp only at hc1 hc2
      clear hk1
      by_cases hxy : y1 = x1 ∧ y2 = x2
      · obtain ⟨rfl, rfl⟩ := hxy
        go_wp2_with fail
        go_quiet (fail)
        go_wp2_with fail
        go_ret
        refine ⟨?_, HX.out.2.1.trans ((below_dN (below_dN (Below.refl _ W) d) _).mono HX.out.2.1.size)⟩
        have : hasN xs (y1, y2) = true := by simp [hasN, HM.out]
        rw [this]; rfl
      · have hN := eqlN y1 y2 x1 x2
        rw [show (y1 == x1 && y2 == x2) = false by simpa using hxy] at hN
        go_wp2_with fail
        go_quiet (fail)
        go_wp2_with fail
        go_roundw
        case rel => exact ⟨k + 1, d + nq, by omega, by go_num, by simp [World.drewN], by
          show (x1, x2) ∉ xs.take (k + 1)
          rw [HTX.out]
          intro e
          rcases List.mem_append.1 e with e | e
          · exact hT.out e
          · simp only [List.mem_cons, Prod.mk.injEq, List.not_mem_nil, or_false] at e
            exact hxy ⟨e.1.symm, e.2.symm⟩⟩
        case measure => simp [intOf]; omega
    · go_wp2_with fail
      go_ret
      refine ⟨?_, HX.out.2.1.trans ((below_dN (Below.refl _ W) d).mono HX.out.2.1.size)⟩
      have h1 := hT.out
      rw [List.take_of_length_le (by rw [HX.out.2.2]; omega)] at h1
      have : hasN xs (x1, x2) = false := by simp [hasN, h1]
      rw [this]; rfl
def sameN (xs ys : List Nm) : Bool := decide (xs = ys)
theorem take_neN {xs ys : List Nm} {k : Nat} (h1 : k < xs.length) (h2 : k < ys.length) (h : xs[k] ≠ ys[k]) : xs ≠ ys := fun e => by subst e; exact h rfl
set_option maxRecDepth 100000 in
set_option maxHeartbeats 2000000 in
theorem o32 (a b : Option Addr) (n c n' c' : Nat) (xs ys : List Nm) (w : World) (h : Ns w a n xs) (h' : Ns w b n' ys) (hn : n ≤ 140737488355328) (hn' : n' ≤ 140737488355328) :
    Calls Try.prog 32 #[.slice a n c, .slice b n' c'] w fun e w' => e = .returned (.bool (sameN xs ys)) ∧ ∃ d, w' = w.drewN d := by
  have HX : Hid (Ns w a n xs) := h
  have HY : Hid (Ns w b n' ys) := h'
  have hlx := h.len
  have hly := h'.len
  by_cases hnn : n = n'
  · subst hnn
    have HL : Hid (xs.length = n ∧ ys.length = n) := ⟨hlx, hly⟩
    clear h h' hlx hly
    go_enter Try.func32, Try.ntmps32
    go_wp2_with fail
    go_loopw [5] (fun i wr => ∃ k d : Nat, k ≤ n ∧ i = .int .i64 k ∧ wr = w.drewN d ∧ Hid (xs.take k = ys.take k)) (fun i _ => n - (intOf i).toNat)
    case atStart => exact ⟨0, 0, Nat.zero_le _, rfl, rfl, rfl⟩
    case round =>
      obtain ⟨k, d, hk, rfl, rfl, hT⟩ := hrel
      by_cases hlt : k < n
      · have hlt1 : (k : Int) < (n : Int) := by omega
        have hk0 : (0 : Int) ≤ (k : Int) := by omega
        obtain ⟨b1, o1, hk1, rfl, _, hc1, hd1⟩ := HX.out.at hlt
        obtain ⟨b2, o2, hk2, rfl, _, hc2, hd2⟩ := HY.out.at hlt
        have HTX : Hid (xs.take (k + 1) = xs.take k ++ [xs[k]]) := (List.take_append_getElem hk1).symm
        have HTY : Hid (ys.take (k + 1) = ys.take k ++ [ys[k]]) := (List.take_append_getElem hk2).symm
        have HNE : Hid (xs[k] ≠ ys[k] → sameN xs ys = false) := fun e => by
          show sameN xs ys = false
          simp only [sameN, decide_eq_false_iff_not]
          exact take_neN hk1 hk2 e
        generalize xs[k] = x at *
        generalize ys[k] = y at *
        obtain ⟨x1, x2⟩ := x
        obtain ⟨y1, y2⟩ := y
        simp only at hc1 hd1 hc2 hd2
        clear hk1 hk2
        by_cases hxy : x1 = y1 ∧ x2 = y2
        · obtain ⟨rfl, rfl⟩ := hxy
          go_wp2_with fail
          go_quiet (fail)
          go_wp2_with fail
          go_roundw
          case rel => exact ⟨k + 1, d + nq, by omega, by go_num, by simp [World.drewN], by
            show xs.take (k + 1) = ys.take (k + 1)
            rw [HTX.out, HTY.out, hT.out]⟩
          case measure => simp [intOf]; omega
        · have hN := neqN x1 x2 y1 y2
          rw [show (x1 == y1 && x2 == y2) = false by simpa using hxy, Bool.not_false] at hN
          go_wp2_with fail
          go_quiet (fail)
          go_wp2_with fail
          go_ret
          refine ⟨?_, d + nq, by simp [World.drewN, Nat.add_assoc]⟩
          rw [HNE.out (by intro e; simp only [Prod.mk.injEq] at e; exact hxy e)]; rfl
      · go_wp2_with fail
        go_ret
        refine ⟨?_, d, rfl⟩
        have e1 : xs = ys := by
          have h1 := hT.out
          rwa [List.take_of_length_le (by rw [HL.out.1]; omega), List.take_of_length_le (by rw [HL.out.2]; omega)] at h1
        have : sameN xs ys = true := by simp [sameN, e1]
        rw [this]; rfl
  · have hne : ¬ (n : Int) = (n' : Int) := by omega
    have HF : Hid (sameN xs ys = false) := by
      show sameN xs ys = false
      simp only [sameN, decide_eq_false_iff_not]
      intro e; subst e; omega
    clear h h' hlx hly
    go_enter Try.func32, Try.ntmps32
    go_wp2_with fail
    go_ret
    exact ⟨by rw [HF.out]; rfl, 0, rfl⟩
end Go.Proofs.Ytdonclnjgopmbaa
