/- Names sorted, where the same may be there twice; slices.Compact over names. -/
import Derived.Test.YtojobiefambkoaaGreatDoorFC
import Derived.Test.YtojobiefambkoaaGreatDoorTA
import Derived.Lib.SlicesCompact
import Derived.Lib.SliceRun
namespace Go.Proofs.YtojobiefambkoaaGreatDoor
open Go.RowKit Go.Lib Go.Sort
attribute [local go_sem ↓] Go.wp_at_zero Go.wp_at_succ
theorem perm_of {l : List Nm} {d' : Array Nm} (hp : PermIn 0 l.toArray.size l.toArray d') (hs : SortedIn (ltOf cfN) 0 l.toArray.size d') : d'.toList.Perm l ∧ d'.toList.Pairwise (fun a b => ¬ ltN b a) ∧ d'.size = l.length := by
  obtain ⟨h1, _, h3⟩ := hp
  have h4 : d'.toList.Perm l := by
    have e1 : d'.extract 0 l.toArray.size = d' := by rw [← h1]; simp
    have e2 : l.toArray.extract 0 l.toArray.size = l.toArray := by simp
    rw [e1, e2] at h3
    exact h3
  refine ⟨h4, ?_, by simpa using h1⟩
  rw [List.pairwise_iff_getElem]
  intro i j hi hj hij
  have hsz : d'.toList.length = l.toArray.size := by simpa using h1
  have h5 := hs i j (Nat.zero_le _) hij (by omega)
  have hi' : i < d'.size := by simpa using hi
  have hj' : j < d'.size := by simpa using hj
  rw [getElem!_pos d' i hi', getElem!_pos d' j hj', ltNB_not] at h5
  simpa using h5
/-- What sorting leaves, where the same may be there twice. -/
def SoW (w w' : World) (B : Nat) (v : Value) (l : List Nm) : Prop := ∃ xs : List Nm, xs.Perm l ∧ xs.Pairwise (fun a b => ¬ ltN b a) ∧ xs.length = l.length ∧ OwnN w' B v xs ∧ w.grownBy w' v.ownBlock
theorem f27w (B : Nat) (u : Value) (l : List Nm) (w : World) (h : OwnN w B u l) (hl : l.length ≤ 4000000000000) :
    Calls Tryz.prog 32 #[u, .func (.func 33) #[] #[]] w fun e w' => e = .returned (.tuple #[]) ∧ Hid (SoW w w' B u l) := by
  rcases h.2 with ⟨e, h0⟩ | ⟨g, cap, cur, e, h1, h2, h3, h4, h5, h6⟩
  · subst e
    obtain rfl : l = [] := List.length_eq_zero_iff.1 h0
    refine (y70 none 0 0 (by omega) _ w).mono ?_
    rintro e w' ⟨rfl, rfl⟩
    exact ⟨rfl, [], List.Perm.refl _, List.Pairwise.nil, rfl, h, ⟨rfl, rfl, rfl, Nat.le_refl _, fun _ _ _ => rfl⟩⟩
  · subst e
    refine (y70g g cap cur l w h2 h6 (by omega)).mono ?_
    rintro e w' ⟨rfl, d', n, os, hp, hs, rfl⟩
    obtain ⟨hP, hR, hl⟩ := perm_of hp hs
    have hl' : d'.toList.length = l.length := by simpa using hl
    refine ⟨rfl, d'.toList, hP, hR, hl', ?_, grownBy_sortedK (enc := encM) (k := 2) d'⟩
    have := ownsRow_sortedK (n := n) (os := os) encM_len (l := d'.toList) hl' h1 h2 h3 h4 h5
    show World.ownsRow _ _ _ _ _ _ _
    rw [hl', ← flatM]
    simpa using this
theorem comp_to (d : Array Nm) (hs : ∀ i j, i < j → j < d.size → ¬ ltN d[j]! d[i]!) : ∀ m, m ≤ d.size → (∀ x, x ∈ compactUpTo d m ↔ ∃ j, j < m ∧ d[j]! = x) ∧ (compactUpTo d m).Pairwise ltN := by
  intro m
  induction m with
  | zero => exact fun _ => ⟨fun x => by simp [compactUpTo], by simp [compactUpTo]⟩
  | succ m ih =>
    intro hm
    obtain ⟨h1, h2⟩ := ih (by omega)
    rw [compactUpTo_succ]
    cases hk : keeps d m with
    | false =>
      have hk' : ¬ (m = 0 ∨ d[m]! ≠ d[m - 1]!) := by
        unfold keeps at hk
        exact of_decide_eq_false hk
      refine ⟨fun x => ?_, by simpa using h2⟩
      simp only [Bool.false_eq_true, if_false, List.append_nil, h1]
      constructor
      · rintro ⟨j, h3, h4⟩
        exact ⟨j, by omega, h4⟩
      · rintro ⟨j, h3, h4⟩
        by_cases e : j = m
        · subst e
          exact ⟨j - 1, by omega, by rw [← h4]; exact (Decidable.not_not.1 fun e => hk' (.inr e)).symm⟩
        · exact ⟨j, by omega, h4⟩
    | true =>
      have hk' : m = 0 ∨ d[m]! ≠ d[m - 1]! := by
        unfold keeps at hk
        exact of_decide_eq_true hk
      simp only [if_true]
      refine ⟨fun x => ?_, ?_⟩
      · simp only [List.mem_append, List.mem_singleton, h1]
        constructor
        · rintro (⟨j, h3, h4⟩ | rfl)
          · exact ⟨j, by omega, h4⟩
          · exact ⟨m, by omega, rfl⟩
        · rintro ⟨j, h3, h4⟩
          by_cases e : j = m
          · subst e
            exact .inr h4.symm
          · exact .inl ⟨j, by omega, h4⟩
      · rw [List.pairwise_append]
        refine ⟨h2, by simp, fun x hx y hy => ?_⟩
        rw [List.mem_singleton] at hy
        subst hy
        obtain ⟨j, h3, rfl⟩ := (h1 x).1 hx
        refine ltN_tri _ _ (hs j m h3 (by omega)) fun e => ?_
        have h5 : d[m]! ≠ d[m - 1]! := by
          rcases hk' with h | h
          · omega
          · exact h
        by_cases e2 : j = m - 1
        · rw [e2] at e
          exact h5 e.symm
        · have h6 := hs j (m - 1) (by omega) (by omega)
          have h7 := hs (m - 1) m (by omega) (by omega)
          have h8 : ltN d[j]! d[m - 1]! := ltN_tri _ _ h6 fun e3 => h5 (by rw [← e3, e])
          rw [e] at h8
          exact h7 h8
/-- A row that rises, the same once. -/
theorem comp_up (xs : List Nm) (hs : xs.Pairwise fun a b => ¬ ltN b a) : UpN (· ∈ xs) (compactUpTo xs.toArray xs.length) := by
  have hs' : ∀ i j, i < j → j < xs.toArray.size → ¬ ltN xs.toArray[j]! xs.toArray[i]! := fun i j hij hj => by
    have hj' : j < xs.length := by simpa using hj
    rw [getElem!_pos xs.toArray j hj, getElem!_pos xs.toArray i (by omega)]
    exact (List.pairwise_iff_getElem.1 hs) i j (by omega) hj' hij
  obtain ⟨h1, h2⟩ := comp_to xs.toArray hs' xs.length (by simp)
  refine ⟨fun x => (h1 x).trans ?_, h2⟩
  constructor
  · rintro ⟨j, hj, rfl⟩
    rw [getElem!_pos xs.toArray j (by simpa using hj)]
    simp
  · intro hx
    obtain ⟨j, hj, rfl⟩ := List.getElem_of_mem hx
    exact ⟨j, hj, by rw [getElem!_pos xs.toArray j (by simpa using hj)]; simp⟩
theorem run_clear_names (w : World) (ty : TypeId) (b o n c : Nat) (hn : 0 < n) (hc : ∀ j, j < n * 2 → (w.cell? ⟨b, o + j, none⟩).isSome = true) (hf : ∀ j, j < n * 2 → w.frozen? ⟨b, o + j, none⟩ = false) :
    (Builtin.clear_ #[23] ty #[.slice (some ⟨b, o, none⟩) n c]).run Tryz.prog w = .ok (.tuple #[]) (w.setCells b o (List.replicate (n * 2) (.int .i64 0))) := by
  have hv : ∀ w, (zeroValue 49).run Tryz.prog w = .ok (.agg #[.int .i64 0, .int .i64 0]) w := fun w => Tryz.zeroValue49 w
  have hzc : (Builtin.zeroCells (Value.agg #[.int .i64 0, .int .i64 0]).cells n).toList = List.replicate (n * 2) (.int .i64 0) := by
    simp only [Value.cells, Builtin.zeroCells]
    apply List.ext_getElem
    · simp
    · intro i h1 h2
      have h3 : i % 2 = 0 ∨ i % 2 = 1 := by omega
      rcases h3 with h3 | h3 <;> simp [h3]
  have hst := run_storeCells_cells (P := Tryz.prog) b o (List.replicate (n * 2) (.int .i64 0)) 0 w (by simpa using hc) (by simpa using hf) (by intro v hv'; rw [List.eq_of_mem_replicate hv']; rfl)
  simp only [Nat.add_zero] at hst
  obtain ⟨m, rfl⟩ : ∃ m, n = m + 1 := ⟨n - 1, by omega⟩
  simp [Builtin.clear_, run_underlying Tryz.underlying23, hv, hzc, hst]
section
variable {W w0 : World} {B g n c : Nat} {xs : List Nm}
theorem own_at (h : OwnN W B (.slice (some ⟨g, 0, none⟩) n c) xs) (k : Nat) (hk : k < xs.length) : W.cell? ⟨g, k * 2, none⟩ = some (.int .i64 xs[k].1) ∧ W.cell? ⟨g, k * 2 + 1, none⟩ = some (.int .i64 xs[k].2) ∧ W.frozen? ⟨g, k * 2, none⟩ = false ∧ W.frozen? ⟨g, k * 2 + 1, none⟩ = false := by
  rcases h.2 with ⟨e, _⟩ | ⟨g', cap, cur, e, h1, h2, h3, h4, h5, h6⟩
  · simp at e
  · simp only [Value.slice.injEq, Option.some.injEq, Addr.mk.injEq, and_true] at e
    obtain ⟨rfl, rfl, rfl⟩ := e
    obtain ⟨p0, p1⟩ := name_cells (range_of_owns h2 h6) k hk
    rw [Nat.zero_add] at p0 p1
    exact ⟨p0, p1, frozen_of_row W g _ cur 49 h2, frozen_of_row W g _ cur 49 h2⟩
theorem own_len (h : OwnN W B (.slice (some ⟨g, 0, none⟩) n c) xs) : xs.length = n := by
  rcases h.2 with ⟨e, _⟩ | ⟨g', cap, cur, e, h1, h2, h3, h4, h5, h6⟩
  · simp at e
  · simp only [Value.slice.injEq] at e
    exact e.2.1.symm
theorem flatN_set (xs : List Nm) (k : Nat) (x : Nm) (hk : k < xs.length) : ((flatN xs).set (k * 2) (.int .i64 x.1)).set (k * 2 + 1) (.int .i64 x.2) = flatN (xs.set k x) := by
  have e1 : xs = xs.take k ++ xs[k] :: xs.drop (k + 1) := by rw [List.getElem_cons_drop, List.take_append_drop]
  have e2 : (flatN (xs.take k)).length = k * 2 := by rw [flatN_length, List.length_take, Nat.min_eq_left (by omega)]
  have e3 : xs.set k x = xs.take k ++ x :: xs.drop (k + 1) := by
    rw [List.set_eq_take_append_cons_drop, if_pos hk]
  have hc : ∀ (y : Nm) (r : List Nm), flatN (y :: r) = .int .i64 y.1 :: .int .i64 y.2 :: flatN r := fun y r => rfl
  rw [e3, flatN_append, hc]
  conv => lhs; rw [e1]
  rw [flatN_append, hc, List.set_append_right _ _ (by omega), List.set_append_right _ _ (by omega), e2]
  simp
theorem own_put (h : OwnN W B (.slice (some ⟨g, 0, none⟩) n c) xs) (hb : Below B w0 W) (hB : B ≤ W.heap.size) (k : Nat) (hk : k < xs.length) (x : Nm) : OwnN ((W.setCell ⟨g, k * 2, none⟩ (.int .i64 x.1)).setCell ⟨g, k * 2 + 1, none⟩ (.int .i64 x.2)) B (.slice (some ⟨g, 0, none⟩) n c) (xs.set k x) ∧ Below B w0 ((W.setCell ⟨g, k * 2, none⟩ (.int .i64 x.1)).setCell ⟨g, k * 2 + 1, none⟩ (.int .i64 x.2)) := by
  have hl := own_len h
  have h0 : W.ownsRow B 49 2 (.slice (some ⟨g, 0, none⟩) n c) n (flatN xs) := by
    have h' := h
    unfold OwnN at h'
    rw [hl] at h'
    exact h'
  have hBg := (h0.lt g rfl).1
  obtain ⟨h1, g1⟩ := h0.stored (k * 2) (.int .i64 x.1)
  obtain ⟨h2, g2⟩ := h1.stored (k * 2 + 1) (.int .i64 x.2)
  have hr : ∀ x, some g = some x → B ≤ x := fun x hx => by cases hx; exact hBg
  have b1 := hb.grown g1 hB hr
  have z1 := g1.size
  rw [flatN_set xs k x hk] at h2
  refine ⟨?_, b1.grown g2 (by omega) hr⟩
  show World.ownsRow _ _ _ _ _ _ _
  rw [List.length_set, hl]
  exact h2
/-- Cells of a row of one's own written over from a place on: what lies ahead stays. -/
theorem owns_setCells {e : TypeId} {s : Nat} : ∀ (vs : List Value) (o : Nat) (W : World) (ys : List Value), W.ownsRow B e s (.slice (some ⟨g, 0, none⟩) n c) n ys → Below B w0 W → B ≤ W.heap.size → ∃ zs, (W.setCells g o vs).ownsRow B e s (.slice (some ⟨g, 0, none⟩) n c) n zs ∧ zs.take o = ys.take o ∧ Below B w0 (W.setCells g o vs)
  | [], o, W, ys, h, hb, _ => ⟨ys, h, rfl, hb⟩
  | v :: vs, o, W, ys, h, hb, hB => by
    obtain ⟨h1, g1⟩ := h.stored o v
    have hBg := (h.lt g rfl).1
    have b1 := hb.grown g1 hB (fun x hx => by cases hx; exact hBg)
    have z1 := g1.size
    obtain ⟨zs, h2, h3, h4⟩ := owns_setCells vs (o + 1) _ _ h1 b1 (by omega)
    refine ⟨zs, h2, ?_, h4⟩
    have h5 := congrArg (List.take o) h3
    rw [List.take_take, List.take_take, Nat.min_eq_left (by omega), List.take_set] at h5
    rw [h5, List.set_eq_of_length_le (by rw [List.length_take]; omega)]
/-- A row of one's own, cut. -/
theorem owns_cut {e : TypeId} {s k : Nat} {ys : List Value} (h : W.ownsRow B e s (.slice (some ⟨g, 0, none⟩) n c) n ys) (hk : k ≤ n) : W.ownsRow B e s (.slice (some ⟨g, 0, none⟩) k c) k (ys.take (k * s)) := by
  have hks : k * s ≤ n * s := Nat.mul_le_mul_right _ hk
  refine ⟨by rw [List.length_take, h.1]; omega, ?_⟩
  rcases h.2 with ⟨e, _⟩ | ⟨g', cap, cur, e, h1, h2, h3, h4, h5, h6⟩
  · simp at e
  · simp only [Value.slice.injEq, Option.some.injEq, Addr.mk.injEq, and_true, true_and] at e
    obtain ⟨rfl, rfl⟩ := e
    exact .inr ⟨g, c, cur, rfl, h1, h2, by omega, h4, h5, by rw [← h6, List.take_take, Nat.min_eq_left hks]⟩
end
theorem stored2 {wr U : World} {vb : Nat} {x y : Value} (hU : wr.alloc (.cells #[.int .i64 0, .int .i64 0] 49) = U) (hvb : wr.heap.size = vb) :
    (U.cell? ⟨vb, 0, none⟩ = some (.int .i64 0) ∧ U.cell? ⟨vb, 1, none⟩ = some (.int .i64 0) ∧ U.frozen? ⟨vb, 0, none⟩ = false ∧ U.frozen? ⟨vb, 1, none⟩ = false) ∧ ∀ V, (U.setCell ⟨vb, 0, none⟩ x).setCell ⟨vb, 1, none⟩ y = V → Below wr.heap.size wr V ∧ V.heap[vb]? = some (.cells #[x, y] 49 (0, 0)) := by
  have hc : U.heap[vb]? = some (.cells #[.int .i64 0, .int .i64 0] 49 (0, 0)) := by rw [← hU, ← hvb]; exact heap_alloc_new wr _
  have h1 : Below wr.heap.size wr U := by rw [← hU]; exact (Below.refl _ _).alloc (Nat.le_refl _) _
  have h0 : wr.heap.size ≤ vb := by omega
  have e1 := heap_setCell_same U vb 0 _ 49 x hc
  have e2 := heap_setCell_same _ vb 1 _ 49 y e1
  refine ⟨⟨by rw [cell_of_row U vb 0 _ 49 (0, 0) hc]; rfl, by rw [cell_of_row U vb 1 _ 49 (0, 0) hc]; rfl, frozen_of_row U vb 0 _ 49 hc, frozen_of_row U vb 1 _ 49 hc⟩, fun V hV => ?_⟩
  rw [← hV]
  exact ⟨(h1.setCell (p := ⟨vb, 0, none⟩) h0 _).setCell (p := ⟨vb, 1, none⟩) h0 _, e2⟩
end Go.Proofs.YtojobiefambkoaaGreatDoor
