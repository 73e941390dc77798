/- Contract of slices.Delete of one datagram. -/
import Derived.Test.YthpbfaddojcohaaNG
import Derived.Lib.SliceRun
import Derived.Laws.IdiomCopy
namespace Go.Proofs.Ythpbfaddojcohaa
open Go.RowKit
attribute [local go_sem ↓] Go.wp_at_zero Go.wp_at_succ
theorem flatD_take : ∀ (l : List Dg) (k : Nat), flatD (l.take k) = (flatD l).take (k * 5)
  | [], k => by simp [flatD]
  | d :: r, 0 => by simp [flatD]
  | d :: r, k + 1 => by
    have e : (k + 1) * 5 = d.vals.length + k * 5 := by simp [Dg.vals]; omega
    simp only [List.take_succ_cons, flatD, flatD_take r k]
    rw [e, List.take_length_add_append]
theorem flatD_drop : ∀ (l : List Dg) (k : Nat), flatD (l.drop k) = (flatD l).drop (k * 5)
  | [], k => by simp [flatD]
  | d :: r, 0 => by simp [flatD]
  | d :: r, k + 1 => by
    have e : (k + 1) * 5 = d.vals.length + k * 5 := by simp [Dg.vals]; omega
    simp only [List.drop_succ_cons, flatD, flatD_drop r k]
    rw [e, List.drop_length_add_append]
theorem flatD_one : ∀ (l : List Dg), ∀ u ∈ flatD l, u.oneCell' = true
  | [], u, h => by simp [flatD] at h
  | d :: r, u, h => by
    rcases List.mem_append.1 h with h | h
    · simp [Dg.vals] at h
      rcases h with rfl | rfl | rfl | rfl | rfl <;> rfl
    · exact flatD_one r u h
theorem blk_setCells (g : Nat) (t : TypeId) : ∀ (vs : List Value) (o : Nat) (w : World) (cur : Array Value), w.heap[g]? = some (.cells cur t (0, 0)) → o + vs.length ≤ cur.size →
    ∃ cur' : Array Value, (w.setCells g o vs).heap[g]? = some (.cells cur' t (0, 0)) ∧ cur'.size = cur.size ∧ cur'.toList = cur.toList.take o ++ vs ++ cur.toList.drop (o + vs.length)
  | [], o, w, cur, h, _ => ⟨cur, h, rfl, by simp⟩
  | v :: r, o, w, cur, h, hl => by
    simp only [List.length_cons] at hl
    have h1 := heap_setCell_same w g o cur t v h
    obtain ⟨cur', e1, e2, e3⟩ := blk_setCells g t r (o + 1) _ _ h1 (by simp; omega)
    refine ⟨cur', e1, by rw [e2]; simp, ?_⟩
    rw [e3]
    have hlo : o < cur.toList.length := by simp; omega
    simp only [Array.toList_setIfInBounds, List.length_cons]
    rw [List.take_set, List.drop_set_of_lt (by omega), List.take_succ_eq_append_getElem hlo]
    rw [List.set_append_right _ _ (by simp; omega)]
    simp only [List.length_take, Nat.min_eq_left (Nat.le_of_lt hlo), Nat.sub_self, List.set_cons_zero, List.append_assoc, List.cons_append, List.nil_append]
    rw [show o + 1 + r.length = o + (r.length + 1) by omega]
theorem setCells_far (g : Nat) : ∀ (vs : List Value) (o : Nat) (w : World), (w.setCells g o vs).os = w.os ∧ (w.setCells g o vs).tape = w.tape ∧ (w.setCells g o vs).output = w.output ∧ (w.setCells g o vs).heap.size = w.heap.size ∧ ∀ k, k ≠ g → (w.setCells g o vs).heap[k]? = w.heap[k]?
  | [], o, w => ⟨rfl, rfl, rfl, rfl, fun _ _ => rfl⟩
  | v :: r, o, w => by
    obtain ⟨h1, h2, h3, h4, h5⟩ := setCells_far g r (o + 1) (w.setCell ⟨g, o, none⟩ v)
    exact ⟨h1, h2, h3, by rw [World.setCells, h4]; simp, fun k hk => (h5 k hk).trans (heap_setCell_other _ _ _ _ (by simpa using hk))⟩
theorem zero46 (w : World) : (zeroValue 46).run Try.prog w = .ok (.agg #[.int .i64 0, .int .i64 0, .bool false, .int .i64 0, .slice none 0 0]) w := by go_simp
theorem run_clear_one (w : World) (ty : TypeId) (b o c : Nat) (hc : ∀ j, j < 5 → (w.cell? ⟨b, o + j, none⟩).isSome = true) (hf : ∀ j, j < 5 → w.frozen? ⟨b, o + j, none⟩ = false) :
    (Builtin.clear_ #[34] ty #[.slice (some ⟨b, o, none⟩) 1 c]).run Try.prog w = .ok (.tuple #[]) (w.setCells b o [.int .i64 0, .int .i64 0, .bool false, .int .i64 0, .slice none 0 0]) := by
  have hst := run_storeCells_cells (P := Try.prog) b o [.int .i64 0, .int .i64 0, .bool false, .int .i64 0, .slice none 0 0] 0 w (by simpa using hc) (by simpa using hf) (by intro v hv; simp at hv; rcases hv with rfl | rfl | rfl | rfl | rfl <;> rfl)
  simp only [Nat.add_zero] at hst
  have hzc : (Builtin.zeroCells (Value.agg #[.int .i64 0, .int .i64 0, .bool false, .int .i64 0, .slice none 0 0]).cells 1).toList = [.int .i64 0, .int .i64 0, .bool false, .int .i64 0, .slice none 0 0] := by kernel_rfl
  simp [Builtin.clear_, run_underlying Try.underlying34, hzc, hst]
/-- What is left of a row. -/
def DelPost (g cap : Nat) (l' : List Dg) (w w' : World) : Prop :=
  (∃ cur' : Array Value, w'.heap[g]? = some (.cells cur' 46 (0, 0)) ∧ cur'.size = cap * 5 ∧ cur'.toList.take (l'.length * 5) = flatD l') ∧ w'.os = w.os ∧ w'.tape = w.tape ∧ w'.output = w.output ∧ w'.heap.size = w.heap.size ∧ ∀ k, k ≠ g → w'.heap[k]? = w.heap[k]?
theorem del_post {g cap m k : Nat} {l : List Dg} {w : World} {cur : Array Value} (hg : w.heap[g]? = some (.cells cur 46 (0, 0))) (hs : cur.size = cap * 5) (hl : l.length = m + 1) (hc : m + 1 ≤ cap) (ht : cur.toList.take ((m + 1) * 5) = flatD l) (hk : k ≤ m) :
    DelPost g cap (l.take k ++ l.drop (k + 1)) w ((w.setCells g (k * 5) (flatD (l.drop (k + 1)))).setCells g (m * 5) [.int .i64 0, .int .i64 0, .bool false, .int .i64 0, .slice none 0 0]) := by
  have hnl : (flatD (l.drop (k + 1))).length = (m - k) * 5 := by rw [flatD_length, List.length_drop, hl]; omega
  obtain ⟨c1, e1, z1, t1⟩ := blk_setCells g 46 (flatD (l.drop (k + 1))) (k * 5) w cur hg (by rw [hnl, hs]; omega)
  obtain ⟨c2, e2, z2, t2⟩ := blk_setCells g 46 [.int .i64 0, .int .i64 0, .bool false, .int .i64 0, .slice none 0 0] (m * 5) _ c1 e1 (by rw [z1, hs]; simp; omega)
  obtain ⟨a1, a2, a3, a4, a5⟩ := setCells_far g (flatD (l.drop (k + 1))) (k * 5) w
  obtain ⟨b1, b2, b3, b4, b5⟩ := setCells_far g [.int .i64 0, .int .i64 0, .bool false, .int .i64 0, .slice none 0 0] (m * 5) (w.setCells g (k * 5) (flatD (l.drop (k + 1))))
  refine ⟨⟨c2, e2, by rw [z2, z1, hs], ?_⟩, b1.trans a1, b2.trans a2, b3.trans a3, b4.trans a4, fun q hq => (b5 q hq).trans (a5 q hq)⟩
  have hlen : (l.take k ++ l.drop (k + 1)).length = m := by simp [hl]; omega
  have hcl : c1.toList.length = cap * 5 := by simp [z1, hs]
  have h5 : m * 5 = k * 5 + (m - k) * 5 := by omega
  rw [hlen, t2, List.append_assoc, List.take_append_of_le_length (by rw [List.length_take, hcl]; omega), List.take_take, Nat.min_self, t1, List.append_assoc, flatD_append]
  have e0 : cur.toList.take (k * 5) = flatD (l.take k) := by
    rw [flatD_take, ← ht, List.take_take, Nat.min_eq_left (by omega)]
  rw [e0, ← List.append_assoc, List.take_append_of_le_length (by rw [List.length_append, hnl, flatD_length, List.length_take]; omega)]
  rw [List.take_of_length_le (by rw [List.length_append, hnl, flatD_length, List.length_take]; omega)]
set_option maxRecDepth 100000 in
set_option maxHeartbeats 1000000 in
theorem n63 (g cap m k : Nat) (l : List Dg) (cur : Array Value) (w : World) (hg : w.heap[g]? = some (.cells cur 46 (0, 0))) (hs : cur.size = cap * 5) (hl : l.length = m + 1) (hc : m + 1 ≤ cap) (hcm : cap ≤ maxLen) (ht : cur.toList.take ((m + 1) * 5) = flatD l) (hk : k ≤ m) :
    Calls Try.prog 63 #[.slice (some ⟨g, 0, none⟩) (m + 1) cap, .int .i64 k, .int .i64 (k + 1)] w fun e w' => e = .returned (.slice (some ⟨g, 0, none⟩) m cap) ∧ DelPost g cap (l.take k ++ l.drop (k + 1)) w w' := by
  obtain ⟨i0, hi, _, hsz, _⟩ := info46
  have HP : Hid (DelPost g cap (l.take k ++ l.drop (k + 1)) w.drew ((w.drew.setCells g (k * 5) (flatD (l.drop (k + 1)))).setCells g (m * 5) [.int .i64 0, .int .i64 0, .bool false, .int .i64 0, .slice none 0 0])) := del_post (w := w.drew) hg hs hl hc ht hk
  have hnl : (flatD (l.drop (k + 1))).length = (m - k) * 5 := by rw [flatD_length, List.length_drop, hl]; omega
  have hcell : ∀ j, j < cap * 5 → (w.cell? ⟨g, j, none⟩).isSome = true := fun j hj => by
    rw [cell_of_row w g j _ 46 (0, 0) hg, Array.getElem?_eq_getElem (by omega)]; rfl
  have hat : ∀ (j : Nat) (u : Value), (flatD l)[j]? = some u → w.cell? ⟨g, j, none⟩ = some u := fun j u hu => by
    have hj : j < (m + 1) * 5 := by
      have := (List.getElem?_eq_some_iff.1 hu).1
      rw [flatD_length, hl] at this; exact this
    rw [cell_of_row w g j _ 46 (0, 0) hg]
    rw [← ht, List.getElem?_take_of_lt hj] at hu
    simpa using hu
  have hfz : ∀ j, w.frozen? ⟨g, j, none⟩ = false := fun j => frozen_of_row w g j _ 46 hg
  obtain ⟨A, hA, hsrc⟩ : ∃ A : Addr, (if cap = k + 1 then some (⟨g, 0, none⟩ : Addr) else some ⟨g, (k + 1) * 5, none⟩) = some A ∧ Hid (∀ t u, (flatD (l.drop (k + 1)))[t]? = some u → w.drew.cell? (A.add t) = some u) := by
    by_cases h : cap = k + 1
    · refine ⟨⟨g, 0, none⟩, by simp [h], fun t u hu => ?_⟩
      have h0 : (flatD (l.drop (k + 1))).length = 0 := by rw [hnl]; omega
      rw [List.length_eq_zero_iff.1 h0] at hu
      simp at hu
    · refine ⟨⟨g, (k + 1) * 5, none⟩, by simp [h], fun t u hu => ?_⟩
      rw [Addr.add_mid]
      rw [flatD_drop, List.getElem?_drop] at hu
      exact hat _ u hu
  have s1 : Hid ((flatD (l.drop (k + 1))).length = (m - k) * 5) := hnl
  have s2 : Hid (∀ u ∈ flatD (l.drop (k + 1)), u.oneCell' = true) := flatD_one _
  have s3 : Hid (∀ t, t < (flatD (l.drop (k + 1))).length → (w.drew.cell? ⟨g, 0 + k * 5 + t, none⟩).isSome = true ∧ w.drew.frozen? ⟨g, 0 + k * 5 + t, none⟩ = false) := fun t ht' => by
    rw [hnl] at ht'
    exact ⟨hcell _ (by omega), hfz _⟩
  obtain ⟨W1, hW1⟩ : ∃ W1, W1 = w.drew.setCells g (0 + k * 5) (flatD (l.drop (k + 1))) := ⟨_, rfl⟩
  have hcl : ∀ ty, (Builtin.clear_ #[34] ty #[.slice (some ⟨g, m * 5, none⟩) 1 (cap - m)]).run Try.prog W1 = .ok (.tuple #[]) (W1.setCells g (m * 5) [.int .i64 0, .int .i64 0, .bool false, .int .i64 0, .slice none 0 0]) := fun ty =>
    run_clear_one W1 ty g (m * 5) (cap - m) (fun j hj => by
      rw [hW1]
      exact World.isSome_setCells g _ _ _ _ (hcell _ (by omega))) (fun j _ => by
      rw [hW1, World.frozen?_setCells]; exact hfz _)
  have hW : Hid (W1 = w.drew.setCells g (0 + k * 5) (flatD (l.drop (k + 1)))) := hW1
  have hmk : (k : Int) ≤ m := by omega
  have hcl1 : (m : Int) + 1 ≤ cap := by omega
  have hcap : (cap : Int) ≤ 9223372036854775807 := by unfold maxLen at hcm; omega
  have hcne : cap ≠ m := by omega
  have hic : k ≤ cap := by omega
  have hjc : k + 1 ≤ cap := by omega
  have hjm : k + 1 ≤ m + 1 := by omega
  have hk1 : (0 : Int) ≤ (k : Int) + 1 := by omega
  clear hW1 hg hs ht hnl hcell hat hfz
  go_enter Try.func63, Try.ntmps63
  go_wp2_with fail
  go_region_law (refine step_append_room rfl (.tmp 22) (.tmp 25) 34 rfl 46 i0 5 Try.underlying34 hi hsz g 0 k cap (by simp [Act.eval, Act.put]) A (m - k) (cap - (k + 1)) (flatD (l.drop (k + 1))) (by simp [Act.eval, Act.put]) s1.out hsrc.out s2.out (by omega) s3.out ?_; rw [← hW.out])
  go_wp2_with fail
  go_ret
  refine ⟨rfl, ?_⟩
  rw [hW.out, Nat.zero_add]
  exact HP.out
end Go.Proofs.Ythpbfaddojcohaa
