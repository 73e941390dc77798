/- Messages that are too long; what stays of both links when the other one's memory is written. -/
import Derived.Test.YtnhomejenjinaaaLT
namespace Go.Proofs.Ytnhomejenjinaaa
open Go.RowKit
attribute [local go_sem ↓] Go.wp_at_zero Go.wp_at_succ
set_option maxRecDepth 100000 in
theorem l14_long (lb : Nat) (fi : Int) (s : Sl) (a : Option Addr) (n c : Nat) (w : World) (h : LkB w lb fi s) (hn : ¬ n ≤ 65536) : Calls Try.prog 14 #[.pointer (some ⟨lb, 0, none⟩), .int .i64 1, .slice a n c] w fun e w' => e = .returned (.tuple #[.agg dz, .int .i64 5]) ∧ Below w.heap.size w w' := by
  obtain ⟨W, hW⟩ : ∃ W, w.alloc (.cells dz 36) = W := ⟨_, rfl⟩
  have hbl : Below w.heap.size w W := by rw [← hW]; exact (Below.refl _ w).alloc (Nat.le_refl _) _
  have HB : Hid (Below w.heap.size w W) := hbl
  have hc : W.heap[w.heap.size]? = some (.cells dz 36 (0, 0)) := by rw [← hW]; exact heap_alloc_new w _
  obtain ⟨c0, c1, c2, c3, c4, g0, g1, g2, g3, g4⟩ := dg_cells hc
  have H33 := l33 lb fi s W (h.below hbl)
  have hln : (65536 : Int) < (n : Int) := by omega
  clear hc h hbl hn
  go_enter Try.func14, Try.ntmps14
  go_wp2_with fail
  refine H33.mono ?_
  rintro e w' ⟨rfl, hw⟩
  obtain rfl := hw.symm
  clear hW H33
  go_wp2_with fail
  refine bodyPost_ret (v := .tuple #[.agg dz, .int .i64 5]) (by simp [results, Try.results14, go_sem, c0, c1, c2, c3, c4]) rfl ⟨rfl, ?_⟩
  have h0 := Nat.le_refl w.heap.size
  exact ((((HB.out.setCell h0 _).setCell h0 _).setCell h0 _).setCell h0 _).setCell h0 _
set_option maxRecDepth 100000 in
theorem r15_long (rb : Nat) (sn : Int) (ov : Value) (a : Option Addr) (n c : Nat) (w : World) (h : RkB w rb sn ov) (hn : ¬ n ≤ 65536) : Calls Try.prog 15 #[.pointer (some ⟨rb, 0, none⟩), .int .i64 1, .slice a n c] w fun e w' => e = .returned (.tuple #[.agg dz, .int .i64 5]) ∧ Below w.heap.size w w' := by
  obtain ⟨W, hW⟩ : ∃ W, w.alloc (.cells dz 36) = W := ⟨_, rfl⟩
  have hbl : Below w.heap.size w W := by rw [← hW]; exact (Below.refl _ w).alloc (Nat.le_refl _) _
  have HB : Hid (Below w.heap.size w W) := hbl
  have hc : W.heap[w.heap.size]? = some (.cells dz 36 (0, 0)) := by rw [← hW]; exact heap_alloc_new w _
  obtain ⟨c0, c1, c2, c3, c4, g0, g1, g2, g3, g4⟩ := dg_cells hc
  have H36 : Calls Try.prog 36 #[.pointer (some ⟨rb, 0, none⟩), .int .i64 1] W fun e w' => e = .returned (.bool true) ∧ w' = W := r36 rb sn ov 1 W (h.below hbl)
  have hln : (65536 : Int) < (n : Int) := by omega
  clear hc h hbl hn
  go_enter Try.func15, Try.ntmps15
  go_wp2_with fail
  refine H36.mono ?_
  rintro e w' ⟨rfl, hw⟩
  obtain rfl := hw.symm
  clear hW H36
  go_wp2_with fail
  refine bodyPost_ret (v := .tuple #[.agg dz, .int .i64 5]) (by simp [results, Try.results15, go_sem, c0, c1, c2, c3, c4]) rfl ⟨rfl, ?_⟩
  have h0 := Nat.le_refl w.heap.size
  exact ((((HB.out.setCell h0 _).setCell h0 _).setCell h0 _).setCell h0 _).setCell h0 _
theorem LkG.keeps {w w' : World} {B lb : Nat} {fi : Int} {s : Sl} {l : List Sl} (h : LkG w B lb fi s l) (hk : ∀ (k : Nat) (cu : Array Value) (T : TypeId), T ≠ 65 → T ≠ 36 → w.heap[k]? = some (.cells cu T (0, 0)) → w'.heap[k]? = w.heap[k]?) : LkG w' B lb fi s l := by
  have hb := h.blk
  refine ⟨?_, h.hb, h.row.keeps fun g hg => ?_, fun t ht => ?_⟩
  · unfold LkB at hb ⊢
    exact (hk lb _ 61 (by decide) (by decide) hb).trans hb
  · obtain ⟨cu, h4⟩ := h.row.kind hg
    exact hk g cu 34 (by decide) (by decide) h4
  · obtain ⟨xs, h1, h2⟩ := h.bys t ht
    exact ⟨xs, h1.keeps fun g hg => by obtain ⟨cu, h4⟩ := h1.kind hg; exact hk g cu 5 (by decide) (by decide) h4, h2⟩
theorem RkG.keeps {w w' : World} {B rb : Nat} {ov : Value} {ds : List Sl} {ms : List (List Int)} (h : RkG w B rb ov ds ms) (hs : w.heap.size ≤ w'.heap.size) (hk : ∀ (k : Nat) (cu : Array Value) (T : TypeId), T ≠ 61 → T ≠ 34 → w.heap[k]? = some (.cells cu T (0, 0)) → w'.heap[k]? = w.heap[k]?) : RkG w' B rb ov ds ms := by
  have hb := h.blk
  refine ⟨?_, ⟨h.hb.1, Nat.le_trans h.hb.2 hs⟩, owns_keeps h.row fun g hg => ?_, h.len, fun k d xs e1 e2 => (h.by' k d xs e1 e2).keeps fun g hg => ?_⟩
  · unfold RkB at hb ⊢
    exact (hk rb _ 65 (by decide) (by decide) hb).trans hb
  · obtain ⟨cu, h4⟩ := owns_kind h.row hg
    exact hk g cu 36 (by decide) (by decide) h4
  · obtain ⟨cu, h4⟩ := (h.by' k d xs e1 e2).kind hg
    exact hk g cu 5 (by decide) (by decide) h4
/-- Both links, having sent the same. -/
structure Lw (W : World) (B la rb : Nat) (s : Sl) (l : List Sl) (ov : Value) (ds : List Sl) (ms : List (List Int)) : Prop where
  lk : LkG W B la ((0 : Nat) : Int) s l
  rk : RkG W B rb ov ds ms
  len : l.length = ds.length
  byl : ∀ (k : Nat) (t : Sl) (xs : List Int), l[k]? = some t → ms[k]? = some xs → Row W B 5 t.a t.n t.c (u8s xs) ∧ ∀ x ∈ xs, Byte x
theorem Lw.below {W W' : World} {B la rb : Nat} {s : Sl} {l : List Sl} {ov : Value} {ds : List Sl} {ms : List (List Int)} (h : Lw W B la rb s l ov ds ms) (hb : Below W.heap.size W W') : Lw W' B la rb s l ov ds ms :=
  ⟨h.lk.below hb, h.rk.below hb, h.len, fun k t xs e1 e2 => ⟨(h.byl k t xs e1 e2).1.below hb, (h.byl k t xs e1 e2).2⟩⟩
theorem Lw.mid {W W' : World} {B la rb n : Nat} {s : Sl} {l : List Sl} {ov : Value} {ds : List Sl} {ms : List (List Int)} {xs : List Int} (h : Lw W B la rb s l ov ds ms) (hp : PutG W B la ((0 : Nat) : Int) l n xs s.a W') (hx : ∀ x ∈ xs, Byte x) :
    ∃ s' t, LkG W' B la ((0 : Nat) : Int) s' (l ++ [t]) ∧ RkG W' B rb ov ds ms ∧ Below B W W' ∧ ∀ (k : Nat) (u : Sl) (ys : List Int), (l ++ [t])[k]? = some u → (ms ++ [xs])[k]? = some ys → Row W' B 5 u.a u.n u.c (u8s ys) ∧ ∀ x ∈ ys, Byte x := by
  obtain ⟨s', t, k1, k2, k3, k4, k5, k6, k7, k8⟩ := hp
  have hk : ∀ (k : Nat) (cu : Array Value) (T : TypeId), T ≠ 61 → T ≠ 34 → W.heap[k]? = some (.cells cu T (0, 0)) → W'.heap[k]? = W.heap[k]? := fun k cu T h1 h2 h3 => by
    refine k6 k (Array.getElem?_eq_some_iff.1 h3).1 (fun e => ?_) fun e => ?_
    · have h4 := h.lk.blk
      unfold LkB at h4
      rw [← e, h3] at h4
      simp only [Option.some.injEq, Obj.cells.injEq] at h4
      exact h1 h4.2.1
    · obtain ⟨cu2, h4⟩ := h.lk.row.kind e
      rw [h3] at h4
      simp only [Option.some.injEq, Obj.cells.injEq] at h4
      exact h2 h4.2.1
  refine ⟨s', t, k1, h.rk.keeps k5 hk, k4, fun k u ys e1 e2 => ?_⟩
  have hlen : l.length = ms.length := h.len.trans h.rk.len
  rcases Nat.lt_or_ge k l.length with hk' | hk'
  · rw [List.getElem?_append_left hk'] at e1
    rw [List.getElem?_append_left (by omega)] at e2
    obtain ⟨h1, h2⟩ := h.byl k u ys e1 e2
    exact ⟨h1.keeps fun g hg => by obtain ⟨cu, h4⟩ := h1.kind hg; exact hk g cu 5 (by decide) (by decide) h4, h2⟩
  · have hk2 := (List.getElem?_eq_some_iff.1 e1).1
    simp only [List.length_append, List.length_cons, List.length_nil] at hk2
    obtain rfl : k = l.length := by omega
    rw [List.getElem?_append_right (Nat.le_refl _), Nat.sub_self, List.getElem?_cons_zero, Option.some.injEq] at e1
    rw [hlen, List.getElem?_append_right (Nat.le_refl _), Nat.sub_self, List.getElem?_cons_zero, Option.some.injEq] at e2
    subst e1 e2
    exact ⟨k8, hx⟩
theorem lw_end {W W' : World} {B la rb : Nat} {s' : Sl} {l' : List Sl} {ov ov' : Value} {ds ds' : List Sl} {ms ms' : List (List Int)} (h : LkG W B la ((0 : Nat) : Int) s' l') (hr0 : RkG W B rb ov ds ms) (hr : RkG W' B rb ov' ds' ms') (hl : l'.length = ds'.length)
    (hb : ∀ (k : Nat) (u : Sl) (ys : List Int), l'[k]? = some u → ms'[k]? = some ys → Row W B 5 u.a u.n u.c (u8s ys) ∧ ∀ x ∈ ys, Byte x) (k6 : ∀ k, k < W.heap.size → k ≠ rb → ov.ownBlock ≠ some k → W'.heap[k]? = W.heap[k]?) : Lw W' B la rb s' l' ov' ds' ms' := by
  have hk : ∀ (k : Nat) (cu : Array Value) (T : TypeId), T ≠ 65 → T ≠ 36 → W.heap[k]? = some (.cells cu T (0, 0)) → W'.heap[k]? = W.heap[k]? := fun k cu T h1 h2 h3 => by
    refine k6 k (Array.getElem?_eq_some_iff.1 h3).1 (fun e => ?_) fun e => ?_
    · have h4 := hr0.blk
      unfold RkB at h4
      rw [← e, h3] at h4
      simp only [Option.some.injEq, Obj.cells.injEq] at h4
      exact h1 h4.2.1
    · obtain ⟨cu2, h4⟩ := owns_kind hr0.row e
      rw [h3] at h4
      simp only [Option.some.injEq, Obj.cells.injEq] at h4
      exact h2 h4.2.1
  refine ⟨h.keeps hk, hr, hl, fun k u ys e1 e2 => ?_⟩
  obtain ⟨h1, h2⟩ := hb k u ys e1 e2
  exact ⟨h1.keeps fun g hg => by obtain ⟨cu, h4⟩ := h1.kind hg; exact hk g cu 5 (by decide) (by decide) h4, h2⟩
/-- A slice whose bytes may be written. -/
def Wy (W : World) (b : Nat) (e : Sl) : Prop := e.n = 0 ∨ ∃ (g : Nat) (cu : Array Value), e.a = some ⟨g, 0, none⟩ ∧ b ≤ g ∧ W.heap[g]? = some (.cells cu 5 (0, 0)) ∧ e.n ≤ cu.size ∧ e.n ≤ maxLen
theorem Wy.set {W : World} {b : Nat} {e : Sl} (h : Wy W b e) (g i : Nat) (v : Value) : Wy (W.setCell ⟨g, i, none⟩ v) b e := by
  rcases h with h | ⟨g', cu, h1, h2, h3, h4, h5⟩
  · exact .inl h
  · by_cases hg : g' = g
    · subst hg
      exact .inr ⟨g', _, h1, h2, heap_setCell_same _ _ _ _ _ _ h3, by simpa using h4, h5⟩
    · exact .inr ⟨g', cu, h1, h2, (heap_setCell_other _ _ _ _ (by simpa using hg)).trans h3, h4, h5⟩
theorem Row.wy {W : World} {b : Nat} {e : Sl} {xs : List Int} (h : Row W b 5 e.a e.n e.c (u8s xs)) : Wy W b e := by
  have h0 := h.cap
  rcases h.mem with ⟨_, h1⟩ | ⟨g, cu, h1, h2, h3, h4, _⟩
  · exact .inl (by omega)
  · exact .inr ⟨g, cu, h1, h2, h3, by omega, by have := h.max; omega⟩
end Go.Proofs.Ytnhomejenjinaaa
