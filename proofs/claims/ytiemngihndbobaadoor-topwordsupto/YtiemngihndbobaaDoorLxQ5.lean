/- The reference All, and the contract of LexAll. -/
import Derived.Test.YtiemngihndbobaaDoorLxQ4
import Derived.Maps.AppendAt
import Derived.Deep.RegionWith
namespace Go.Proofs.YtiemngihndbobaaDoor.Lx
open Go.RowKit
def T.vals29 (x : T) : List Value := [.int .i64 x.k, .string x.t, .int .i64 x.n, .int .i64 x.node, .int .i64 x.at_]
def flat29 (l : List T) : List Value := l.flatMap T.vals29
theorem flat29_append (a b : List T) : flat29 (a ++ b) = flat29 a ++ flat29 b := by simp [flat29]
theorem flat29_one (l : List T) : ∀ u ∈ flat29 l, u.oneCell' = true := by
  intro u hu
  simp only [flat29, List.mem_flatMap] at hu
  obtain ⟨c, _, hc⟩ := hu
  simp only [T.vals29, List.mem_cons, List.not_mem_nil, or_false] at hc
  rcases hc with rfl | rfl | rfl | rfl | rfl <;> rfl
def zero29 : Value := .agg #[.int .i64 0, .string ⟨#[]⟩, .int .i64 0, .int .i64 0, .int .i64 0]
theorem info29 : ∃ i, Tryd.prog.info? 29 = some i ∧ i.zero = some zero29 ∧ i.size = 5 ∧ i.bytes = 48 := by
  have h : (Tryd.prog.info? 29).map (fun i => (i.zero, i.size, i.bytes)) = some (some zero29, 5, 48) := by kernel_rfl
  cases hq : Tryd.prog.info? 29 with
  | none => rw [hq] at h; cases h
  | some i =>
    rw [hq] at h
    simp only [Option.map_some, Option.some.injEq, Prod.mk.injEq] at h
    exact ⟨i, rfl, h.1, h.2.1, h.2.2⟩
theorem news29 (W : World) (x : T) : ∀ j u, (flat29 [x])[j]? = some u → (W.alloc (.cells #[.int .i64 x.k, .string x.t, .int .i64 x.n, .int .i64 x.node, .int .i64 x.at_] 29)).cell? ((⟨W.heap.size, 0, none⟩ : Addr).add j) = some u := by
  intro j u hu
  rw [Addr.add_mid, cell_of_row _ _ _ _ _ _ (World.alloc_heap_new W (.cells #[.int .i64 x.k, .string x.t, .int .i64 x.n, .int .i64 x.node, .int .i64 x.at_] 29))]
  have h : (flat29 [x]) = #[Value.int .i64 x.k, .string x.t, .int .i64 x.n, .int .i64 x.node, .int .i64 x.at_].toList := by simp [flat29, T.vals29]
  rw [h] at hu
  simpa using hu
theorem allE_err {s : ByteArray} {pre : List Fd} {x : Fd} (h : walkL s = pre ++ [x]) (hok : ∀ y ∈ pre, okB y = true) (hx : okB x = false) : allE s = (x.2.2, x.2.1) ∧ allL s = [] := by
  constructor
  · unfold allE
    rw [h, List.find?_append, List.find?_eq_none.2 (fun y hy => by rw [hok y hy]; simp)]
    simp [hx]
  · unfold allL
    rw [if_neg]
    intro h2
    have := List.all_eq_true.1 h2 x (by rw [h]; simp)
    rw [hx] at this; cases this
theorem allE_ok {s : ByteArray} {pre : List Fd} (h : walkL s = pre) (hok : ∀ y ∈ pre, okB y = true) : allE s = (0, 0) ∧ allL s = toks pre := by
  have hall : (walkL s).all okB = true := by rw [List.all_eq_true, h]; exact hok
  constructor
  · unfold allE
    rw [List.find?_eq_none.2 (fun x hx => by rw [List.all_eq_true.1 hall x hx]; simp)]
  · unfold allL; rw [hall, if_pos rfl, h]
theorem pre_len {s : ByteArray} {pre r : List Fd} (h : walkL s = pre ++ r) : pre.length ≤ s.size + 1 := by
  have h1 := walkF_len s (s.size + 1) 0
  have h2 : (walkL s).length = pre.length + r.length := by rw [h, List.length_append]
  have h3 : (walkL s).length ≤ s.size + 1 := h1
  omega
theorem owns_below5 {w w' : World} {base : Nat} {e : TypeId} {s n : Nat} {u : Value} {xs : List Value} (h : w.ownsRow base e s u n xs) (hb : Below w.heap.size w w') : w'.ownsRow base e s u n xs := by
  refine ⟨h.1, ?_⟩
  rcases h.2 with hn | ⟨g, cap, cur, h1, h2, h3, h4⟩
  · exact Or.inl hn
  · exact Or.inr ⟨g, cap, cur, h1, h2, (hb.block g (Array.getElem?_eq_some_iff.1 h3).1).trans h3, h4⟩
theorem flat5_get (g : T → List Value) (hg : ∀ x, (g x).length = 5) (l : List T) (i j : Nat) (hi : i < l.length) (hj : j < 5) : (l.flatMap g)[5 * i + j]? = (g l[i])[j]? := by
  induction l generalizing i with
  | nil => simp at hi
  | cons a r ih =>
    cases i with
    | zero =>
      simp only [List.flatMap_cons]
      rw [List.getElem?_append_left (by rw [hg]; omega)]
      simp
    | succ i =>
      simp only [List.flatMap_cons]
      rw [List.getElem?_append_right (by rw [hg]; omega), hg]
      have e : 5 * (i + 1) + j - 5 = 5 * i + j := by omega
      rw [e]
      exact ih i (by simpa using hi)
theorem tok_cells {w : World} {b : Nat} (g : T → List Value) (hg : ∀ x, (g x).length = 5) {l : List T} (h : w.rangeAt b 0 (l.flatMap g)) (i : Nat) (hi : i < l.length) (j : Nat) (v : Value) (hj : j < 5) (hv : (g l[i])[j]? = some v) : w.cell? ⟨b, i * 5 + j, none⟩ = some v := by
  have := h (5 * i + j) v (by rw [flat5_get g hg l i j hi hj]; exact hv)
  rw [show 0 + (5 * i + j) = i * 5 + j by omega] at this
  exact this
theorem walk_kind (s : ByteArray) : ∀ f k, ∀ x ∈ walkF s f k, 0 ≤ x.1.k ∧ x.1.k ≤ 255
  | 0, _, x, hx => by simp [walkF] at hx
  | f + 1, k, x, hx => by
    have hn : 0 ≤ (nextN s k).1.k ∧ (nextN s k).1.k ≤ 255 := by
      unfold nextN
      have h := first_kind (s.extract (startN s k) s.size)
      split
      · exact ⟨h.1, Int.le_trans h.2 (by decide)⟩
      · exact ⟨show (0 : Int) ≤ 0 by decide, show (0 : Int) ≤ 255 by decide⟩
    simp only [walkF] at hx
    split at hx
    · simp at hx; subst hx; exact hn
    · rcases List.mem_cons.1 hx with rfl | hx
      · exact hn
      · exact walk_kind s f _ x hx
theorem all_kind (s : ByteArray) : ∀ t ∈ allL s, 0 ≤ t.k ∧ t.k ≤ 255 := by
  intro t ht
  unfold allL at ht
  split at ht
  · unfold toks at ht
    obtain ⟨x, hx, rfl⟩ := List.mem_map.1 ht
    exact walk_kind s _ _ x hx
  · simp at ht
theorem all_len (s : ByteArray) : (allL s).length ≤ s.size + 1 := by
  unfold allL
  split
  · unfold toks
    rw [List.length_map]; exact walkF_len s _ _
  · simp
end Go.Proofs.YtiemngihndbobaaDoor.Lx
