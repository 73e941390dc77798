/- Deeds in memory; what they do to the counts; contracts of first and run. -/
import Derived.Test.YtjbgemmcbombfaaRR
import Derived.Test.YtjbgemmcbombfaaRQ
namespace Go.Proofs.Ytjbgemmcbombfaa
open Go.RowKit
attribute [local go_sem ↓] Go.wp_at_zero Go.wp_at_succ
/-- A deed. -/
structure Dd where
  kd : Int
  nd : Int
  ti : Int
  a : Option Addr
  n : Nat
  c : Nat
  xs : List Nm
def Dd.vals (d : Dd) : List Value := [.int .i64 d.kd, .int .i64 d.nd, .int .i64 d.ti, .slice d.a d.n d.c]
def flatD : List Dd → List Value
  | [] => []
  | d :: r => d.vals ++ flatD r
theorem flatD_len : ∀ l : List Dd, (flatD l).length = l.length * 4
  | [] => rfl
  | d :: r => by simp [flatD, Dd.vals, flatD_len r]; omega
theorem flatD_append : ∀ l m : List Dd, flatD (l ++ m) = flatD l ++ flatD m
  | [], m => rfl
  | d :: r, m => by simp [flatD, flatD_append r m]
theorem flatD_get : ∀ (l : List Dd) (i j : Nat) (hi : i < l.length), j < 4 → (flatD l)[i * 4 + j]? = (l[i].vals)[j]?
  | d :: r, 0, j, _, hj => by
    simp only [flatD, Nat.zero_mul, Nat.zero_add, List.getElem_cons_zero]
    rw [List.getElem?_append_left (by simp [Dd.vals]; exact hj)]
  | d :: r, i + 1, j, hi, hj => by
    simp only [flatD, List.getElem_cons_succ]
    rw [List.getElem?_append_right (by simp [Dd.vals]; omega)]
    have e : (i + 1) * 4 + j - d.vals.length = i * 4 + j := by simp [Dd.vals]; omega
    rw [e]
    exact flatD_get r i j (by simpa using hi) hj
/-- Deeds that can be read. -/
structure DdRow (w : World) (a : Option Addr) (n : Nat) (es : List Dd) : Prop where
  len : es.length = n
  mem : n = 0 ∨ ∃ b o, a = some ⟨b, o, none⟩ ∧ b < w.heap.size ∧ w.rangeAt b o (flatD es)
  wf : ∀ e ∈ es, wfI e.nd ∧ NmR w e.a e.n e.xs
theorem DdRow.below {w w' : World} {a : Option Addr} {n : Nat} {es : List Dd} (h : DdRow w a n es) (hb : Below w.heap.size w w') : DdRow w' a n es :=
  ⟨h.len, by
    rcases h.mem with e | ⟨b, o, e, hl, hr⟩
    · exact .inl e
    · exact .inr ⟨b, o, e, Nat.lt_of_lt_of_le hl hb.size, fun j u hu => (hb.cell (p := ⟨b, o + j, none⟩) hl).trans (hr j u hu)⟩, fun e he => ⟨(h.wf e he).1, (h.wf e he).2.below hb⟩⟩
theorem DdRow.at {w : World} {a : Option Addr} {n : Nat} {es : List Dd} (h : DdRow w a n es) (k : Nat) (hk : k < n) : ∃ b o d, a = some ⟨b, o, none⟩ ∧ es[k]? = some d ∧ wfI d.nd ∧ NmR w d.a d.n d.xs ∧
    w.cell? ⟨b, o + k * 4, none⟩ = some (.int .i64 d.kd) ∧ w.cell? ⟨b, o + k * 4 + 1, none⟩ = some (.int .i64 d.nd) ∧ w.cell? ⟨b, o + k * 4 + 2, none⟩ = some (.int .i64 d.ti) ∧ w.cell? ⟨b, o + k * 4 + 3, none⟩ = some (.slice d.a d.n d.c) := by
  rcases h.mem with e | ⟨b, o, e, hb, hr⟩
  · omega
  · have hi : k < es.length := by rw [h.len]; exact hk
    have key : ∀ j, j < 4 → ∀ v, (es[k].vals)[j]? = some v → w.cell? ⟨b, o + k * 4 + j, none⟩ = some v := fun j hj v hv => by
      have h1 := hr (k * 4 + j) v (by rw [flatD_get es k j hi hj]; exact hv)
      rw [← Nat.add_assoc] at h1
      exact h1
    obtain ⟨w1, w2⟩ := h.wf _ (List.getElem_mem hi)
    exact ⟨b, o, es[k], e, List.getElem?_eq_getElem hi, w1, w2, key 0 (by omega) _ rfl, key 1 (by omega) _ rfl, key 2 (by omega) _ rfl, key 3 (by omega) _ rfl⟩
def fst (xs : List Nm) : Nm := xs.headD (0, 0)
theorem fst_wf {xs : List Nm} (h : ∀ x ∈ xs, wfN x) : wfN (fst xs) := by
  cases xs with
  | nil => exact ⟨by unfold wfI; decide, by unfold wfI; decide⟩
  | cons x r => exact h x List.mem_cons_self
def stepE (f : Hk → Int) (d : Dd) : Hk → Int := if d.kd = 0 then sentG 0 4 f d.nd d.xs else if d.kd = 1 then addG 0 4 f d.nd (fst d.xs) else if d.kd = 2 then relG 0 4 f d.nd d.ti (fst d.xs) else f
def stepI (g : Hk → Int) (d : Dd) : Hk → Int := if d.kd = 3 then gotG 0 4 g d.xs else if d.kd = 4 then freeF g (fst d.xs) else g
def runE (es : List Dd) : Hk → Int := es.foldl stepE fun _ => 0
def runI (es : List Dd) : Hk → Int := es.foldl stepI fun _ => 0
def tot : List Dd → Nat
  | [] => 0
  | d :: r => (d.n + 1) + tot r
theorem tot_append : ∀ l m : List Dd, tot (l ++ m) = tot l + tot m
  | [], m => by simp [tot]
  | d :: r, m => by simp only [List.cons_append, tot, tot_append r m]; omega
theorem tot_len : ∀ l : List Dd, l.length ≤ tot l
  | [] => Nat.le_refl _
  | d :: r => by have := tot_len r; simp only [List.length_cons, tot]; omega
theorem tot_take (l : List Dd) (k : Nat) : tot (l.take k) ≤ tot l := by
  have := tot_append (l.take k) (l.drop k)
  rw [List.take_append_drop] at this
  omega
set_option maxRecDepth 100000 in
set_option maxHeartbeats 8000000 in
theorem r35 (a : Option Addr) (n c : Nat) (xs : List Nm) (w : World) (h : NmR w a n xs) : Calls Try.prog 35 #[.slice a n c] w fun e w' => e = .returned (.agg #[.int .i64 (fst xs).1, .int .i64 (fst xs).2]) ∧ Below w.heap.size w w' := by
  obtain ⟨W, hW⟩ : ∃ W, w.alloc (.cells #[.int .i64 0, .int .i64 0] 48) = W := ⟨_, rfl⟩
  have HB : Hid (Below w.heap.size w W) := by rw [← hW]; exact (Below.refl _ w).alloc (Nat.le_refl _) _
  obtain ⟨vb, hvb⟩ : ∃ vb, w.heap.size = vb := ⟨_, rfl⟩
  have hc : W.heap[vb]? = some (.cells #[.int .i64 0, .int .i64 0] 48 (0, 0)) := by rw [← hW, ← hvb]; exact heap_alloc_new w _
  obtain ⟨c0, c1⟩ := box2 hc
  have g0 := frozen_of_row W vb 0 _ 48 hc
  have g1 := frozen_of_row W vb 1 _ 48 hc
  have HV : Hid (w.heap.size ≤ vb) := by show w.heap.size ≤ vb; omega
  by_cases hn : n = 0
  · subst hn
    obtain rfl : xs = [] := List.length_eq_zero_iff.1 h.len
    clear h hc
    go_enter Try.func35, Try.ntmps35
    go_wp2_with fail
    refine bodyPost_ret (v := .agg #[.int .i64 0, .int .i64 0]) (by simp [results, Try.results35, go_sem, c0, c1]) rfl ⟨rfl, ?_⟩
    first | exact HB.out | exact (HB.out.setCell (p := ⟨vb, 0, none⟩) HV.out _).setCell (p := ⟨vb, 1, none⟩) HV.out _
  · obtain ⟨b, o, hx, rfl, hb, p0, p1⟩ := (h.below HB.out).at (show 0 < n by omega)
    have hpos : (0 : Int) < (n : Int) := by omega
    have hne : ¬ (n : Int) = 0 := by omega
    have e : fst xs = xs[0] := by
      cases xs with
      | nil => simp at hx
      | cons x r => rfl
    rw [e]
    generalize xs[0] = y at *
    obtain ⟨y1, y2⟩ := y
    simp only [Nat.zero_mul, Nat.add_zero] at p0 p1
    clear h hc e hx
    go_enter Try.func35, Try.ntmps35
    go_wp2_with fail
    refine bodyPost_ret (v := .agg #[.int .i64 y1, .int .i64 y2]) (by simp [results, Try.results35, go_sem, c0, c1]) rfl ⟨rfl, ?_⟩
    exact (HB.out.setCell (p := ⟨vb, 0, none⟩) HV.out _).setCell (p := ⟨vb, 1, none⟩) HV.out _
theorem stored36 {wr U : World} {vb : Nat} {x y z v : Value} (hU : wr.alloc (.cells #[.int .i64 0, .int .i64 0, .int .i64 0, .slice none 0 0] 36) = U) (hvb : wr.heap.size = vb) :
    (U.cell? ⟨vb, 0, none⟩ = some (.int .i64 0) ∧ U.cell? ⟨vb, 1, none⟩ = some (.int .i64 0) ∧ U.cell? ⟨vb, 2, none⟩ = some (.int .i64 0) ∧ U.cell? ⟨vb, 3, none⟩ = some (.slice none 0 0) ∧ U.frozen? ⟨vb, 0, none⟩ = false ∧ U.frozen? ⟨vb, 1, none⟩ = false ∧ U.frozen? ⟨vb, 2, none⟩ = false ∧ U.frozen? ⟨vb, 3, none⟩ = false) ∧
      ∀ V, (((U.setCell ⟨vb, 0, none⟩ x).setCell ⟨vb, 1, none⟩ y).setCell ⟨vb, 2, none⟩ z).setCell ⟨vb, 3, none⟩ v = V → Below wr.heap.size wr V ∧ V.heap[vb]? = some (.cells #[x, y, z, v] 36 (0, 0)) := by
  have hc : U.heap[vb]? = some (.cells #[.int .i64 0, .int .i64 0, .int .i64 0, .slice none 0 0] 36 (0, 0)) := by rw [← hU, ← hvb]; exact heap_alloc_new wr _
  have h1 : Below wr.heap.size wr U := by rw [← hU]; exact (Below.refl _ _).alloc (Nat.le_refl _) _
  have h0 : wr.heap.size ≤ vb := by omega
  have e1 := heap_setCell_same U vb 0 _ 36 x hc
  have e2 := heap_setCell_same _ vb 1 _ 36 y e1
  have e3 := heap_setCell_same _ vb 2 _ 36 z e2
  have e4 := heap_setCell_same _ vb 3 _ 36 v e3
  refine ⟨⟨by rw [cell_of_row U vb 0 _ 36 (0, 0) hc]; rfl, by rw [cell_of_row U vb 1 _ 36 (0, 0) hc]; rfl, by rw [cell_of_row U vb 2 _ 36 (0, 0) hc]; rfl, by rw [cell_of_row U vb 3 _ 36 (0, 0) hc]; rfl, frozen_of_row U vb 0 _ 36 hc, frozen_of_row U vb 1 _ 36 hc, frozen_of_row U vb 2 _ 36 hc, frozen_of_row U vb 3 _ 36 hc⟩, fun V hV => ?_⟩
  rw [← hV]
  exact ⟨(((h1.setCell (p := ⟨vb, 0, none⟩) h0 _).setCell (p := ⟨vb, 1, none⟩) h0 _).setCell (p := ⟨vb, 2, none⟩) h0 _).setCell (p := ⟨vb, 3, none⟩) h0 _, e4⟩
theorem box36 {w : World} {b : Nat} {x y z v : Value} (h : w.heap[b]? = some (.cells #[x, y, z, v] 36 (0, 0))) : w.cell? ⟨b, 0, none⟩ = some x ∧ w.cell? ⟨b, 1, none⟩ = some y ∧ w.cell? ⟨b, 2, none⟩ = some z ∧ w.cell? ⟨b, 3, none⟩ = some v :=
  ⟨by rw [cell_of_row w b 0 _ 36 (0, 0) h]; rfl, by rw [cell_of_row w b 1 _ 36 (0, 0) h]; rfl, by rw [cell_of_row w b 2 _ 36 (0, 0) h]; rfl, by rw [cell_of_row w b 3 _ 36 (0, 0) h]; rfl⟩
/-- A table of the call's own. -/
def Ru (w wr : World) (tb eb ib N : Nat) (f g : Hk → Int) : Prop := RtAt wr w.heap.size tb eb ib N 0 4 f g ∧ Below w.heap.size w wr
theorem Ru.below {w wr w' : World} {tb eb ib N : Nat} {f g : Hk → Int} (h : Ru w wr tb eb ib N f g) (hb : Below wr.heap.size wr w') : Ru w w' tb eb ib N f g := ⟨h.1.below hb, h.2.trans (hb.mono h.2.size)⟩
theorem Ru.to {w wr w' : World} {tb eb ib N N' : Nat} {f g f' g' : Hk → Int} (h : Ru w wr tb eb ib N f g) (hk : RtIs wr w.heap.size tb eb ib N' 0 4 f' g' w') : Ru w w' tb eb ib N' f' g' := ⟨hk.1, h.2.trans (hk.2.below h.1.hb.1 h.1.hb.2 h.2.size)⟩
theorem Ru.le {w wr : World} {tb eb ib N N' : Nat} {f g : Hk → Int} (h : Ru w wr tb eb ib N f g) (hN : N ≤ N') : Ru w wr tb eb ib N' f g := ⟨h.1.le hN, h.2⟩
/-- A table and a deed in a block. -/
structure RuB (w wr : World) (tb eb ib N vb : Nat) (f g : Hk → Int) (d : Dd) : Prop where
  ru : Ru w wr tb eb ib N f g
  box : wr.heap[vb]? = some (.cells #[.int .i64 d.kd, .int .i64 d.nd, .int .i64 d.ti, .slice d.a d.n d.c] 36 (0, 0))
theorem RuB.below {w wr w' : World} {tb eb ib N vb : Nat} {f g : Hk → Int} {d : Dd} (h : RuB w wr tb eb ib N vb f g d) (hb : Below wr.heap.size wr w') : RuB w w' tb eb ib N vb f g d := ⟨h.ru.below hb, (hb.block vb (Array.getElem?_eq_some_iff.1 h.box).1).trans h.box⟩
theorem off_of {w wr : World} {tb eb ib N : Nat} {f g : Hk → Int} {a : Option Addr} {m : Nat} {xs : List Nm} (h : Ru w wr tb eb ib N f g) (hx : NmR w a m xs) : m = 0 ∨ ∀ k, blk a = some k → k ≠ eb ∧ k ≠ ib := by
  rcases hx.mem with e | ⟨b, o, e, hl, _⟩
  · exact .inl e
  · refine .inr fun k hk => ?_
    rw [e] at hk
    have h1 := h.1.hb
    have : b = k := by simpa [blk] using hk
    constructor <;> omega
theorem n0 (w W : World) (tb eb ib N vb : Nat) (f g : Hk → Int) (d : Dd) (hx : NmR w d.a d.n d.xs) (hwt : wfI d.nd) (hn : N + (d.n + 1) ≤ 1000000000) (h : RuB w W tb eb ib N vb f g d) (hk : d.kd = 0) : Calls Try.prog 19 #[.pointer (some ⟨tb, 0, none⟩), .int .i64 d.nd, .slice d.a d.n d.c] W fun e w' => (∃ c, e = .returned (.int .i64 c)) ∧ Hid (Ru w w' tb eb ib (N + (d.n + 1)) (stepE f d) (stepI g d)) := by
  have e1 : stepE f d = sentG 0 4 f d.nd d.xs := by simp [stepE, hk]
  have e2 : stepI g d = g := by simp [stepI, hk]
  rw [e1, e2]
  exact (r19a _ tb eb ib N 0 4 f g d.nd d.a d.n d.c d.xs W h.ru.1 hwt (hx.below h.ru.2) (off_of h.ru hx) (by omega)).mono fun e w' h1 => ⟨h1.1, (h.ru.to h1.2).le (by omega)⟩
theorem n1 (w W : World) (tb eb ib N vb : Nat) (f g : Hk → Int) (d : Dd) (hx : NmR w d.a d.n d.xs) (hwt : wfI d.nd) (hn : N + (d.n + 1) ≤ 1000000000) (h : RuB w W tb eb ib N vb f g d) (hk : d.kd = 1) : Calls Try.prog 30 #[.pointer (some ⟨tb, 0, none⟩), .agg #[.int .i64 (fst d.xs).1, .int .i64 (fst d.xs).2], .int .i64 d.nd] W fun e w' => (∃ c, e = .returned (.int .i64 c)) ∧ Hid (Ru w w' tb eb ib (N + (d.n + 1)) (stepE f d) (stepI g d)) := by
  have e1 : stepE f d = addG 0 4 f d.nd (fst d.xs) := by simp [stepE, hk]
  have e2 : stepI g d = g := by simp [stepI, hk]
  rw [e1, e2]
  exact (r30a _ tb eb ib N 0 4 f g (fst d.xs) d.nd W h.ru.1 (fst_wf hx.wf) hwt (by omega)).mono fun e w' h1 => ⟨h1.1, (h.ru.to h1.2).le (by omega)⟩
theorem n2 (w W : World) (tb eb ib N vb : Nat) (f g : Hk → Int) (d : Dd) (hx : NmR w d.a d.n d.xs) (hwt : wfI d.nd) (hn : N + (d.n + 1) ≤ 1000000000) (h : RuB w W tb eb ib N vb f g d) (hk : d.kd = 2) : Calls Try.prog 21 #[.pointer (some ⟨tb, 0, none⟩), .agg #[.int .i64 (fst d.xs).1, .int .i64 (fst d.xs).2], .int .i64 d.nd, .int .i64 d.ti] W fun e w' => (∃ c, e = .returned (.int .i64 c)) ∧ Hid (Ru w w' tb eb ib (N + (d.n + 1)) (stepE f d) (stepI g d)) := by
  have e1 : stepE f d = relG 0 4 f d.nd d.ti (fst d.xs) := by simp [stepE, hk]
  have e2 : stepI g d = g := by simp [stepI, hk]
  rw [e1, e2]
  exact (r21a _ tb eb ib N 0 4 f g (fst d.xs) d.nd d.ti W h.ru.1 (fst_wf hx.wf) hwt (by omega)).mono fun e w' h1 => ⟨h1.1, (h.ru.to h1.2).le (by omega)⟩
theorem n3 (w W : World) (tb eb ib N vb : Nat) (f g : Hk → Int) (d : Dd) (hx : NmR w d.a d.n d.xs) (hwt : wfI d.nd) (hn : N + (d.n + 1) ≤ 1000000000) (h : RuB w W tb eb ib N vb f g d) (hk : d.kd = 3) : Calls Try.prog 22 #[.pointer (some ⟨tb, 0, none⟩), .slice d.a d.n d.c] W fun e w' => (∃ c, e = .returned (.int .i64 c)) ∧ Hid (Ru w w' tb eb ib (N + (d.n + 1)) (stepE f d) (stepI g d)) := by
  have e1 : stepE f d = f := by simp [stepE, hk]
  have e2 : stepI g d = gotG 0 4 g d.xs := by simp [stepI, hk]
  rw [e1, e2]
  have _ := hwt
  exact (r22a _ tb eb ib N 0 4 f g d.a d.n d.c d.xs W h.ru.1 (hx.below h.ru.2) (off_of h.ru hx) (by omega)).mono fun e w' h1 => ⟨h1.1, (h.ru.to h1.2).le (by omega)⟩
theorem n4 (w W : World) (tb eb ib N vb : Nat) (f g : Hk → Int) (d : Dd) (hx : NmR w d.a d.n d.xs) (hwt : wfI d.nd) (hn : N + (d.n + 1) ≤ 1000000000) (h : RuB w W tb eb ib N vb f g d) (hk : d.kd = 4) : Calls Try.prog 24 #[.pointer (some ⟨tb, 0, none⟩), .agg #[.int .i64 (fst d.xs).1, .int .i64 (fst d.xs).2]] W fun e w' => (∃ c, e = .returned (.int .i64 c)) ∧ Hid (Ru w w' tb eb ib (N + (d.n + 1)) (stepE f d) (stepI g d)) := by
  have e1 : stepE f d = f := by simp [stepE, hk]
  have e2 : stepI g d = freeF g (fst d.xs) := by simp [stepI, hk]
  rw [e1, e2]
  have _ := hwt
  have _ := hn
  exact (r24 _ tb eb ib N 0 4 f g (fst d.xs) W h.ru.1 (fst_wf hx.wf)).mono fun e w' h1 => ⟨⟨_, h1.1⟩, (h.ru.to h1.2).le (by omega)⟩
theorem n5 {w W : World} {tb eb ib N vb : Nat} {f g : Hk → Int} {d : Dd} (h : RuB w W tb eb ib N vb f g d) (h0 : d.kd ≠ 0) (h1 : d.kd ≠ 1) (h2 : d.kd ≠ 2) (h3 : d.kd ≠ 3) (h4 : d.kd ≠ 4) : Ru w W tb eb ib (N + (d.n + 1)) (stepE f d) (stepI g d) := by
  have e1 : stepE f d = f := by simp [stepE, h0, h1, h2]
  have e2 : stepI g d = g := by simp [stepI, h3, h4]
  rw [e1, e2]
  exact h.ru.le (by omega)
/-- A table of the call's own behind deeds. -/
def RunTo (w w' : World) (tb : Nat) (es : List Dd) : Prop := ∃ eb ib, Ru w w' tb eb ib (tot es) (runE es) (runI es)
set_option maxRecDepth 100000 in
set_option maxHeartbeats 8000000 in
theorem r17 (a : Option Addr) (n c : Nat) (es : List Dd) (w : World) (h : DdRow w a n es) (hn : tot es ≤ 1000000000) : Calls Try.prog 17 #[.slice a n c] w fun e w' => ∃ tb, e = .returned (.pointer (some ⟨tb, 0, none⟩)) ∧ RunTo w w' tb es := by
  have HH : Hid (DdRow w a n es ∧ tot es ≤ 1000000000) := ⟨h, hn⟩
  have H9 : Calls Try.prog 9 #[.int .i64 0, .int .i64 4] w fun e w' => ∃ tb eb ib, e = .returned (.tuple #[.pointer (some ⟨tb, 0, none⟩), .int .i64 0]) ∧ Hid (Ru w w' tb eb ib (tot (es.take 0)) (runE (es.take 0)) (runI (es.take 0))) := (r9 0 4 w (by omega) (by omega) (by omega)).mono fun e w' ⟨tb, eb, ib, h1, h2, h3⟩ => ⟨tb, eb, ib, h1, h2, h3⟩
  have hnn : n ≤ 1000000000 := by have := tot_len es; have := h.len; omega
  clear h hn
  go_enter Try.func17, Try.ntmps17
  go_wp2_with fail
  refine H9.mono ?_
  rintro e w1 ⟨tb, eb, ib, rfl, H1⟩
  clear H9
  go_wp2_with fail
  go_loopw [5] (fun i wr => ∃ k : Nat, k ≤ n ∧ i = .int .i64 k ∧ Hid (Ru w wr tb eb ib (tot (es.take k)) (runE (es.take k)) (runI (es.take k)))) (fun i _ => n - (intOf i).toNat)
  case atStart => exact ⟨0, Nat.zero_le _, rfl, H1⟩
  case round =>
    clear H1
    obtain ⟨k, hk, rfl, HK⟩ := hrel
    by_cases hlt : k < n
    · have hltI : (k : Int) < (n : Int) := by omega
      have hk0 : (0 : Int) ≤ (k : Int) := by omega
      obtain ⟨b, o, d, rfl, hd, hwt, hnm, p0, p1, p2, p3⟩ := (HH.out.1.below HK.out.2).at k hlt
      obtain ⟨hwt', hnm'⟩ := HH.out.1.wf d (List.mem_of_getElem? hd)
      have hkl : k < es.length := (List.getElem?_eq_some_iff.1 hd).1
      have hte : es.take (k + 1) = es.take k ++ [d] := by
        have := (List.getElem?_eq_some_iff.1 hd).2
        rw [← this]; exact (List.take_append_getElem hkl).symm
      have HT : Hid (tot (es.take (k + 1)) = tot (es.take k) + (d.n + 1) ∧ runE (es.take (k + 1)) = stepE (runE (es.take k)) d ∧ runI (es.take (k + 1)) = stepI (runI (es.take k)) d) := by
        rw [hte, tot_append]
        exact ⟨by simp [tot], by simp [runE], by simp [runI]⟩
      have HX : Hid (NmR w d.a d.n d.xs ∧ wfI d.nd ∧ tot (es.take k) + (d.n + 1) ≤ 1000000000) := ⟨hnm', hwt', by rw [← HT.out.1]; exact Nat.le_trans (tot_take es (k + 1)) HH.out.2⟩
      clear hd hwt hnm hwt' hnm' hkl hte
      obtain ⟨U, hU⟩ : ∃ U, wr.alloc (.cells #[.int .i64 0, .int .i64 0, .int .i64 0, .slice none 0 0] 36) = U := ⟨_, rfl⟩
      obtain ⟨vb, hvb⟩ : ∃ vb, wr.heap.size = vb := ⟨_, rfl⟩
      obtain ⟨⟨c0, c1, c2, c3, f0, f1, f2, f3⟩, hVV⟩ := stored36 (x := .int .i64 d.kd) (y := .int .i64 d.nd) (z := .int .i64 d.ti) (v := .slice d.a d.n d.c) hU hvb
      obtain ⟨V, hV⟩ : ∃ V, (((U.setCell ⟨vb, 0, none⟩ (.int .i64 d.kd)).setCell ⟨vb, 1, none⟩ (.int .i64 d.nd)).setCell ⟨vb, 2, none⟩ (.int .i64 d.ti)).setCell ⟨vb, 3, none⟩ (.slice d.a d.n d.c) = V := ⟨_, rfl⟩
      have H3 : Hid (RuB w V tb eb ib (tot (es.take k)) vb (runE (es.take k)) (runI (es.take k)) d) := ⟨HK.out.below (hVV V hV).1, (hVV V hV).2⟩
      have HD : Hid (RuB w V.drew tb eb ib (tot (es.take k)) vb (runE (es.take k)) (runI (es.take k)) d) := H3.out.below ((Below.refl _ V).drew)
      obtain ⟨q0, q1, q2, q3⟩ := box36 H3.out.box
      obtain ⟨y0, y1, y2, y3⟩ := box36 HD.out.box
      have C35 : Hid (∀ W, Hid (RuB w W tb eb ib (tot (es.take k)) vb (runE (es.take k)) (runI (es.take k)) d) → Calls Try.prog 35 #[.slice d.a d.n d.c] W fun e w' => e = .returned (.agg #[.int .i64 (fst d.xs).1, .int .i64 (fst d.xs).2]) ∧ Hid (RuB w w' tb eb ib (tot (es.take k)) vb (runE (es.take k)) (runI (es.take k)) d)) := fun W hW => (r35 d.a d.n d.c d.xs W (HX.out.1.below hW.out.ru.2)).mono fun e w' ⟨h1, h2⟩ => ⟨h1, hW.out.below h2⟩
      clear hVV
      by_cases hk0 : d.kd = 0
      · have C : Hid (∀ W, Hid (RuB w W tb eb ib (tot (es.take k)) vb (runE (es.take k)) (runI (es.take k)) d) → Calls Try.prog 19 #[.pointer (some ⟨tb, 0, none⟩), .int .i64 d.nd, .slice d.a d.n d.c] W fun e w' => ∃ c, e = .returned (.int .i64 c) ∧ Hid (Ru w w' tb eb ib (tot (es.take k) + (d.n + 1)) (stepE (runE (es.take k)) d) (stepI (runI (es.take k)) d))) := fun W hW => (n0 w W tb eb ib _ vb _ _ d HX.out.1 HX.out.2.1 HX.out.2.2 hW.out hk0).mono fun e w' ⟨⟨c, h1⟩, h2⟩ => ⟨c, h1, h2⟩
        rw [hk0] at p0 q0 y0 hV
        go_wp2_with fail
        refine (C.out _ H3).mono ?_
        rintro e w6 ⟨cc, rfl, H6⟩
        all_goals (
          have HN : Hid (Ru w w6 tb eb ib (tot (es.take (k + 1))) (runE (es.take (k + 1))) (runI (es.take (k + 1)))) := by
            have h6 := H6.out
            rw [← HT.out.1, ← HT.out.2.1, ← HT.out.2.2] at h6
            exact h6
          clear H6 H3 HD C C35 p0 p1 p2 p3 q0 q1 q2 q3 y0 y1 y2 y3 hU hvb c0 c1 c2 c3 f0 f1 f2 f3 hV
          go_wp2_with fail
          go_roundw
          case rel => exact ⟨k + 1, by omega, by go_num, HN⟩
          case measure => simp [intOf]; omega)
      by_cases hk1 : d.kd = 1
      · have C : Hid (∀ W, Hid (RuB w W tb eb ib (tot (es.take k)) vb (runE (es.take k)) (runI (es.take k)) d) → Calls Try.prog 30 #[.pointer (some ⟨tb, 0, none⟩), .agg #[.int .i64 (fst d.xs).1, .int .i64 (fst d.xs).2], .int .i64 d.nd] W fun e w' => ∃ c, e = .returned (.int .i64 c) ∧ Hid (Ru w w' tb eb ib (tot (es.take k) + (d.n + 1)) (stepE (runE (es.take k)) d) (stepI (runI (es.take k)) d))) := fun W hW => (n1 w W tb eb ib _ vb _ _ d HX.out.1 HX.out.2.1 HX.out.2.2 hW.out hk1).mono fun e w' ⟨⟨c, h1⟩, h2⟩ => ⟨c, h1, h2⟩
        rw [hk1] at p0 q0 y0 hV
        go_wp2_with fail
        go_region_with (first
          | (go_at_call 35; refine (C35.out _ HD).mono ?_; rintro e w5 ⟨rfl, H5⟩; obtain ⟨x0, x1, x2, x3⟩ := box36 H5.out.box)
          | (go_at_call 30; refine (C.out _ H5).mono ?_; rintro e w6 ⟨cc, rfl, H6⟩))
        all_goals (
          have HN : Hid (Ru w w6 tb eb ib (tot (es.take (k + 1))) (runE (es.take (k + 1))) (runI (es.take (k + 1)))) := by
            have h6 := H6.out
            rw [← HT.out.1, ← HT.out.2.1, ← HT.out.2.2] at h6
            exact h6
          clear H6 H3 HD C C35 p0 p1 p2 p3 q0 q1 q2 q3 y0 y1 y2 y3 hU hvb c0 c1 c2 c3 f0 f1 f2 f3 hV
          go_wp2_with fail
          go_roundw
          case rel => exact ⟨k + 1, by omega, by go_num, HN⟩
          case measure => simp [intOf]; omega)
      by_cases hk2 : d.kd = 2
      · have C : Hid (∀ W, Hid (RuB w W tb eb ib (tot (es.take k)) vb (runE (es.take k)) (runI (es.take k)) d) → Calls Try.prog 21 #[.pointer (some ⟨tb, 0, none⟩), .agg #[.int .i64 (fst d.xs).1, .int .i64 (fst d.xs).2], .int .i64 d.nd, .int .i64 d.ti] W fun e w' => ∃ c, e = .returned (.int .i64 c) ∧ Hid (Ru w w' tb eb ib (tot (es.take k) + (d.n + 1)) (stepE (runE (es.take k)) d) (stepI (runI (es.take k)) d))) := fun W hW => (n2 w W tb eb ib _ vb _ _ d HX.out.1 HX.out.2.1 HX.out.2.2 hW.out hk2).mono fun e w' ⟨⟨c, h1⟩, h2⟩ => ⟨c, h1, h2⟩
        rw [hk2] at p0 q0 y0 hV
        go_wp2_with fail
        go_region_with (first
          | (go_at_call 35; refine (C35.out _ HD).mono ?_; rintro e w5 ⟨rfl, H5⟩; obtain ⟨x0, x1, x2, x3⟩ := box36 H5.out.box)
          | (go_at_call 21; refine (C.out _ H5).mono ?_; rintro e w6 ⟨cc, rfl, H6⟩))
        all_goals (
          have HN : Hid (Ru w w6 tb eb ib (tot (es.take (k + 1))) (runE (es.take (k + 1))) (runI (es.take (k + 1)))) := by
            have h6 := H6.out
            rw [← HT.out.1, ← HT.out.2.1, ← HT.out.2.2] at h6
            exact h6
          clear H6 H3 HD C C35 p0 p1 p2 p3 q0 q1 q2 q3 y0 y1 y2 y3 hU hvb c0 c1 c2 c3 f0 f1 f2 f3 hV
          go_wp2_with fail
          go_roundw
          case rel => exact ⟨k + 1, by omega, by go_num, HN⟩
          case measure => simp [intOf]; omega)
      by_cases hk3 : d.kd = 3
      · have C : Hid (∀ W, Hid (RuB w W tb eb ib (tot (es.take k)) vb (runE (es.take k)) (runI (es.take k)) d) → Calls Try.prog 22 #[.pointer (some ⟨tb, 0, none⟩), .slice d.a d.n d.c] W fun e w' => ∃ c, e = .returned (.int .i64 c) ∧ Hid (Ru w w' tb eb ib (tot (es.take k) + (d.n + 1)) (stepE (runE (es.take k)) d) (stepI (runI (es.take k)) d))) := fun W hW => (n3 w W tb eb ib _ vb _ _ d HX.out.1 HX.out.2.1 HX.out.2.2 hW.out hk3).mono fun e w' ⟨⟨c, h1⟩, h2⟩ => ⟨c, h1, h2⟩
        rw [hk3] at p0 q0 y0 hV
        go_wp2_with fail
        refine (C.out _ H3).mono ?_
        rintro e w6 ⟨cc, rfl, H6⟩
        all_goals (
          have HN : Hid (Ru w w6 tb eb ib (tot (es.take (k + 1))) (runE (es.take (k + 1))) (runI (es.take (k + 1)))) := by
            have h6 := H6.out
            rw [← HT.out.1, ← HT.out.2.1, ← HT.out.2.2] at h6
            exact h6
          clear H6 H3 HD C C35 p0 p1 p2 p3 q0 q1 q2 q3 y0 y1 y2 y3 hU hvb c0 c1 c2 c3 f0 f1 f2 f3 hV
          go_wp2_with fail
          go_roundw
          case rel => exact ⟨k + 1, by omega, by go_num, HN⟩
          case measure => simp [intOf]; omega)
      by_cases hk4 : d.kd = 4
      · have C : Hid (∀ W, Hid (RuB w W tb eb ib (tot (es.take k)) vb (runE (es.take k)) (runI (es.take k)) d) → Calls Try.prog 24 #[.pointer (some ⟨tb, 0, none⟩), .agg #[.int .i64 (fst d.xs).1, .int .i64 (fst d.xs).2]] W fun e w' => ∃ c, e = .returned (.int .i64 c) ∧ Hid (Ru w w' tb eb ib (tot (es.take k) + (d.n + 1)) (stepE (runE (es.take k)) d) (stepI (runI (es.take k)) d))) := fun W hW => (n4 w W tb eb ib _ vb _ _ d HX.out.1 HX.out.2.1 HX.out.2.2 hW.out hk4).mono fun e w' ⟨⟨c, h1⟩, h2⟩ => ⟨c, h1, h2⟩
        rw [hk4] at p0 q0 y0 hV
        go_wp2_with fail
        refine (C35.out _ H3).mono ?_
        rintro e w5 ⟨rfl, H5⟩
        go_wp2_with fail
        refine (C.out _ H5).mono ?_
        rintro e w6 ⟨cc, rfl, H6⟩
        all_goals (
          have HN : Hid (Ru w w6 tb eb ib (tot (es.take (k + 1))) (runE (es.take (k + 1))) (runI (es.take (k + 1)))) := by
            have h6 := H6.out
            rw [← HT.out.1, ← HT.out.2.1, ← HT.out.2.2] at h6
            exact h6
          clear H6 H3 HD C C35 p0 p1 p2 p3 q0 q1 q2 q3 y0 y1 y2 y3 hU hvb c0 c1 c2 c3 f0 f1 f2 f3 hV
          go_wp2_with fail
          go_roundw
          case rel => exact ⟨k + 1, by omega, by go_num, HN⟩
          case measure => simp [intOf]; omega)
      have HN : Hid (Ru w V tb eb ib (tot (es.take (k + 1))) (runE (es.take (k + 1))) (runI (es.take (k + 1)))) := by
        have h6 := n5 H3.out hk0 hk1 hk2 hk3 hk4
        rw [← HT.out.1, ← HT.out.2.1, ← HT.out.2.2] at h6
        exact h6
      go_wp2_with fail
      go_roundw
      case rel => exact ⟨k + 1, by omega, by go_num, HN⟩
      case measure => simp [intOf]; omega
    · obtain rfl : k = n := by omega
      have hltI : ¬ (k : Int) < (k : Int) := by omega
      go_wp2_with fail
      go_ret
      have h6 := HK.out
      rw [List.take_of_length_le (by rw [HH.out.1.len]; exact Nat.le_refl _)] at h6
      exact ⟨tb, rfl, eb, ib, h6⟩
end Go.Proofs.Ytjbgemmcbombfaa
