/- Bytes and payloads that are handed in, opened, with how much they hold. -/
import Derived.Test.YthomdgafaffphaaJN
import Derived.ProofKit
import Derived.OpenShut
import Derived.Lib.SmallJoins
import Derived.ChangeSlices
import Derived.Deep.Slices
import Derived.Deep.Matrix
namespace Go.Proofs.Ythomdgafaffphaa
open Go.ChangeShapes Go.WideShapes Go.ChangeAt Go.RowKit Go.Joins Go.Deep
theorem bulk_pos {H : Type} (d : DataW H) : 1 ≤ Rows.uptoBulk d := by
  cases d with
  | lit x => cases x <;> simp [Rows.uptoBulk]
  | _ => simp [Rows.uptoBulk]
theorem bulkAll_len {H : Type} : ∀ ds : List (DataW H), ds.length ≤ Rows.uptoBulkAll ds
  | [] => by simp
  | d :: r => by
    have h1 := bulk_pos d
    have h2 := bulkAll_len r
    simp only [Rows.uptoBulkAll, List.length_cons]
    omega
section
variable {H : Type} {enc : TypeId × Value → H} {w : World} {base : Nat} {held : Bool}
theorem open_by {fuel : Nat} {v : Value} {x : DataW H × List MemPlace} (h : DataW.trod enc Try.prog w base (fun _ => true) held fuel 22 [v] = some x) :
    ∃ a n c xs, v = .slice a n c ∧ By w a n c xs ∧ n ≤ Rows.uptoBulk x.1 := by
  rcases open_ints Try.underlying22 Try.underlying5 (by kernel_rfl) h with ⟨hcs, _⟩ | ⟨a, len, cap, zs, hcs, _, hl, _, hzl, hx, hcell, hwf⟩
  · simp only [List.cons.injEq, and_true] at hcs
    exact ⟨none, 0, 0, [], hcs, By.nul w, Nat.zero_le _⟩
  · simp only [List.cons.injEq, and_true] at hcs
    simp only [if_true] at hzl
    have hlen : (zs.take len).length = len := by rw [List.length_take]; omega
    refine ⟨some a, len, cap, zs.take len, hcs, ⟨hlen, hl, fun e => by (cases e), fun z hz => ?_, ?_⟩, ?_⟩
    · have hw := hwf z (List.mem_of_mem_take hz)
      simp [Lit.wf, IntKind.min, IntKind.max, IntKind.signed, IntKind.bits] at hw
      exact ⟨by omega, by omega⟩
    · rcases Nat.eq_zero_or_pos len with h0 | h0
      · exact .inl h0
      · have h00 := hcell 0 (by omega)
        obtain ⟨b, o, spot⟩ := a
        have hspot : spot = none := by simpa [Addr.add] using World.cell?_spot h00
        subst hspot
        refine .inr ⟨b, o, rfl, ?_, fun j u hu => ?_⟩
        · rw [Addr.add_mid] at h00
          exact World.block_lt_of_cell? w _ h00
        · unfold u8s at hu
          rw [List.getElem?_map, Option.map_eq_some_iff] at hu
          obtain ⟨z, hz, rfl⟩ := hu
          have hjl : j < len := by
            have := (List.getElem?_eq_some_iff.1 hz).1
            omega
          rw [List.getElem?_take_of_lt hjl] at hz
          have hc := hcell j (by omega)
          have hk : zs.getD j 0 = z := by rw [List.getD_eq_getElem?_getD, hz]; rfl
          rw [hk, Addr.add_mid] at hc
          exact hc
    · rw [hx]
      simp only [Rows.uptoBulk]
      have := bulkAll_len (lits .u8 (zs.take len) : List (DataW H))
      have hll : (lits .u8 (zs.take len) : List (DataW H)).length = len := by simp only [lits, List.length_map]; exact hlen
      omega
/-- All bytes of payloads. -/
def bytesP (ps : List (List Int)) : Nat := (ps.map List.length).sum
theorem bulk_sum {D : Nat → DataW H} {f : Nat → List Int} : ∀ (n : Nat), (∀ i, i < n → (f i).length ≤ Rows.uptoBulk (D i)) → bytesP ((List.range n).map f) ≤ Rows.uptoBulkAll ((List.range n).map D)
  | 0, _ => by simp [bytesP]
  | n + 1, h => by
    have ih := bulk_sum n (fun i hi => h i (by omega))
    have h1 := h n (by omega)
    have happ : ∀ (l m : List (DataW H)), Rows.uptoBulkAll (l ++ m) = Rows.uptoBulkAll l + Rows.uptoBulkAll m := by
      intro l m
      induction l with
      | nil => simp [Rows.uptoBulkAll]
      | cons d r ih => simp only [List.cons_append, Rows.uptoBulkAll, ih]; omega
    rw [List.range_succ, List.map_append, List.map_append, happ]
    simp only [bytesP, List.map_append, List.sum_append, List.map_cons, List.map_nil, List.sum_cons, List.sum_nil, Rows.uptoBulkAll] at ih ⊢
    omega
theorem cells22 : Try.prog.cellsOf 22 = 1 := by kernel_rfl
theorem open_pays {fuel : Nat} {v : Value} {x : DataW H × List MemPlace} (h : DataW.trod enc Try.prog w base (fun _ => true) held fuel 27 [v] = some x) (hbk : Rows.uptoBulk x.1 ≤ 1048576) :
    ∃ a n c l ps, v = .slice a n c ∧ Pl w a n c l ps ∧ n ≤ Rows.uptoBulk x.1 ∧ bytesP ps ≤ Rows.uptoBulk x.1 ∧ (a = none → c = 0) := by
  rcases open_slice1 Try.underlying27 cells22 h with ⟨hcs, _⟩ | ⟨a, len, cap, m, n, V, D, Pq, hcs, _, hl, _, hm, hx, hel⟩
  · simp only [List.cons.injEq, and_true] at hcs
    exact ⟨none, 0, 0, [], [], hcs, ⟨rfl, Nat.le_refl _, rfl, .inl rfl, fun i s xs h => by simp at h, fun s h => by cases h⟩, Nat.zero_le _, by simp [bytesP], fun _ => rfl⟩
  · simp only [List.cons.injEq, and_true] at hcs
    simp only [if_true] at hm
    subst hm
    have hsz : Rows.uptoBulkAll ((List.range len).map D) ≤ Rows.uptoBulk x.1 := by
      rw [hx]; simp only [Rows.uptoBulk]; omega
    have hlen : len ≤ Rows.uptoBulk x.1 := by
      have := bulkAll_len ((List.range len).map D)
      simp only [List.length_map, List.length_range] at this
      omega
    have hc : ∀ i, i < len → ∃ p : Sl × List Int, V i = p.1.v ∧ By w p.1.a p.1.n p.1.c p.2 ∧ p.1.n ≤ Rows.uptoBulk (D i) := by
      intro i hi
      obtain ⟨_, h2⟩ := hel i (by omega)
      obtain ⟨a', n', c', xs, e1, e2, e3⟩ := open_by h2
      exact ⟨(⟨a', n', c'⟩, xs), e1, e2, e3⟩
    obtain ⟨f, hf⟩ := @choose_lt (Sl × List Int) ⟨(⟨none, 0, 0⟩, [])⟩ len _ hc
    have hsum : bytesP ((List.range len).map fun i => (f i).2) ≤ Rows.uptoBulkAll ((List.range len).map D) := bulk_sum len (fun i hi => by
      have := (hf i hi).2.1.len
      have := (hf i hi).2.2
      omega)
    refine ⟨some a, len, _, (List.range len).map fun i => (f i).1, (List.range len).map fun i => (f i).2, hcs, ⟨by simp, hl, by simp, ?_, ?_, ?_⟩, hlen, by omega, fun e => by (cases e)⟩
    · rcases Nat.eq_zero_or_pos len with h0 | h0
      · exact .inl h0
      · have h00 := (hel 0 (by omega)).1
        obtain ⟨b, o, spot⟩ := a
        have hspot : spot = none := by simpa [Addr.add] using World.cell?_spot h00
        subst hspot
        refine .inr ⟨b, o, rfl, ?_, fun j u hu => ?_⟩
        · rw [Addr.add_mid] at h00
          exact World.block_lt_of_cell? w _ h00
        · simp only [List.map_map, List.getElem?_map, Option.map_eq_some_iff] at hu
          obtain ⟨i, hi, rfl⟩ := hu
          have hjl : j < len := by have := (List.getElem?_eq_some_iff.1 hi).1; simpa using this
          rw [List.getElem?_range hjl] at hi
          cases hi
          have h2 := (hel j (by omega)).1
          rw [(hf j hjl).1, Addr.add_mid] at h2
          exact h2
    · intro i s xs h1 h2
      simp only [List.getElem?_map, Option.map_eq_some_iff] at h1 h2
      obtain ⟨j, hj, rfl⟩ := h1
      obtain ⟨j', hj', rfl⟩ := h2
      rw [hj] at hj'
      cases hj'
      have hlt : i < len := by have := (List.getElem?_eq_some_iff.1 hj).1; simpa using this
      rw [List.getElem?_range hlt] at hj
      cases hj
      exact (hf i hlt).2.1
    · intro s hs
      simp only [List.mem_map, List.mem_range] at hs
      obtain ⟨i, hi, rfl⟩ := hs
      have h1 := (hf i hi).2.2
      have h2 : Rows.uptoBulk (D i) ≤ Rows.uptoBulkAll ((List.range len).map D) := by
        have key : ∀ (ds : List (DataW H)) (d : DataW H), d ∈ ds → Rows.uptoBulk d ≤ Rows.uptoBulkAll ds := by
          intro ds d hd
          induction ds with
          | nil => cases hd
          | cons e r ih =>
            simp only [Rows.uptoBulkAll]
            rcases List.mem_cons.1 hd with rfl | hd
            · omega
            · have := ih hd; omega
        exact key _ _ (List.mem_map.2 ⟨i, List.mem_range.2 hi, rfl⟩)
      omega
end
end Go.Proofs.Ythomdgafaffphaa
