/- What a key of the map is; contracts of sorting nothing or one, of rising where there is at most one count. -/
import Derived.Test.YtjbgemmcbombfaaRD
import Derived.Maps.RangeWalk
namespace Go.Proofs.Ytjbgemmcbombfaa
open Go.RowKit
attribute [local go_sem ↓] Go.wp_at_zero Go.wp_at_succ
set_option maxRecDepth 100000 in
theorem lits_int {d : Nat} {cs : List Value} {ls : List Lit} (h : Try.prog.keyLits (d + 1) 3 cs = some ls) : ∃ n, cs = [.int .i64 n] ∧ wfI n ∧ ls = [.int .i64 n] := by
  unfold Program.keyLits at h
  rw [Try.underlying3] at h
  match cs, h with
  | [.int q n], h =>
    simp only at h
    split at h
    · next hq =>
      obtain ⟨rfl, hw⟩ := hq
      simp only [Option.some.injEq] at h
      exact ⟨n, rfl, hw, h.symm⟩
    · cases h
set_option maxRecDepth 100000 in
theorem key_inv {key : Value} {kl : Lit} (h : keyOf Try.prog 87 key = some kl) : ∃ k, wfK k ∧ key = kV k ∧ kl = kLit k := by
  have hc : Try.prog.cellsOf 87 = 3 := by kernel_rfl
  have hc48 : Try.prog.cellsOf 48 = 2 := by kernel_rfl
  have hc3 : Try.prog.cellsOf 3 = 1 := by kernel_rfl
  have hs : ∃ n, Try.prog.types.size = n + 2 := ⟨Try.prog.types.size - 2, by have : 1 < Try.prog.types.size := of_decide_eq_true (by kernel_rfl); omega⟩
  obtain ⟨n, hs⟩ := hs
  unfold keyOf at h
  rw [Try.underlying87] at h
  simp only at h
  split at h
  · next hf =>
    rw [Option.map_eq_some_iff] at h
    obtain ⟨ls, h1, h2⟩ := h
    simp only [Bool.and_eq_true] at hf
    have hform := hf.2
    match key, hform with
    | .agg cs, hform =>
      have hsz : cs.size = 3 := by
        simp [Value.formed, Try.underlying87, hc] at hform
        exact hform
      obtain ⟨l⟩ := cs
      match l, hsz with
      | [a, b, c], _ =>
        rw [hs] at h1
        replace h1 : Try.prog.keyLits (n + 2 + 1) 87 [a, b, c] = some ls := h1
        unfold Program.keyLits at h1
        rw [Try.underlying87] at h1
        replace h1 := (if_pos (show [a, b, c].length = Try.prog.cellsOf 87 ∧ _ from ⟨by rw [hc]; rfl, by kernel_rfl⟩)).symm.trans h1
        rw [Option.map_eq_some_iff] at h1
        obtain ⟨lls, h3, h4⟩ := h1
        simp only [List.mapM_cons, List.mapM_nil, hc48, hc3, List.drop_zero, List.drop_succ_cons, List.take_succ_cons, List.take_zero, Option.bind_eq_bind, Option.bind_eq_some_iff, Option.pure_def, Option.some.injEq] at h3
        obtain ⟨l1, h5, l2, ⟨l3, h6, l4, rfl, rfl⟩, rfl⟩ := h3
        obtain ⟨m3, e3, w3, rfl⟩ := lits_int h6
        unfold Program.keyLits at h5
        rw [Try.underlying48] at h5
        replace h5 := (if_pos (show [a, b].length = Try.prog.cellsOf 48 ∧ _ from ⟨by rw [hc48]; rfl, by kernel_rfl⟩)).symm.trans h5
        rw [Option.map_eq_some_iff] at h5
        obtain ⟨lls2, h7, h8⟩ := h5
        simp only [List.mapM_cons, List.mapM_nil, hc3, List.drop_zero, List.drop_succ_cons, List.take_succ_cons, List.take_zero, Option.bind_eq_bind, Option.bind_eq_some_iff, Option.pure_def, Option.some.injEq] at h7
        obtain ⟨l5, h9, l6, ⟨l7, h10, l8, rfl, rfl⟩, rfl⟩ := h7
        obtain ⟨m1, e1, w1, rfl⟩ := lits_int h9
        obtain ⟨m2, e2, w2, rfl⟩ := lits_int h10
        simp only [List.cons.injEq, and_true] at e1 e2 e3
        subst e1 e2 e3
        refine ⟨((m1, m2), m3), ⟨⟨w1, w2⟩, w3⟩, rfl, ?_⟩
        rw [← h2, ← h4, ← h8]
        rfl
  · cases h
set_option maxRecDepth 100000 in
theorem r79 (n : Nat) (hn : n ≤ 1) (w : World) : Calls Try.prog 79 #[.int .u64 (n : Int)] w fun e w' => (∃ k, e = .returned (.int .i64 k)) ∧ w' = w := by
  have hn : n = 0 ∨ n = 1 := by omega
  rcases hn with rfl | rfl
  · go_enter Try.func79, Try.ntmps79
    go_wp2_with fail
    go_ret
    exact ⟨⟨_, rfl⟩, rfl⟩
  · go_enter Try.func79, Try.ntmps79
    go_wp2_with fail
    go_ret
    exact ⟨⟨_, rfl⟩, rfl⟩
end Go.Proofs.Ytjbgemmcbombfaa
