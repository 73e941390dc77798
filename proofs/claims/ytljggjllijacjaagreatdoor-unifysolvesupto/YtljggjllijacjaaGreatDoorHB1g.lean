/- Contract of Bindings: how many there are. -/
import Derived.Test.YtljggjllijacjaaGreatDoorKY3g
import Derived.Test.YtljggjllijacjaaGreatDoorHP6g
import Derived.Deep.RegionLaw
import Derived.OwnWalk
import Derived.Sort.OwnSorted

namespace Go.Proofs.YtljggjllijacjaaGreatDoor
open Go.RowKit
attribute [local go_sem ↓] Go.wp_at_zero Go.wp_at_succ
theorem step_append_own {P : Program} {ops : Array Oper} {o : Oper} {a : Act} {w : World} {K : Act → World → Prop} {Q : Exit → Act → World → Prop} {E : Prop} (hgd : o.guard = none) (s x : Operand) (t : TypeId)
    (ho : o.op = .call { callee := .builtin .append, args := #[s, x], argTypes := #[t, t] })
    (base : Nat) (e : TypeId) (i : TypeInfo) (z : Value) (size bytes : Nat) (ht : P.underlying t = some (.slice e)) (hi : P.info? e = some i) (hz : i.zero = some z)
    (hsize : i.size = size) (hby : i.bytes = bytes) (hzs : z.cells.size = size) (hsz : 0 < size)
    (v : Value) (n : Nat) (xs : List Value) (hs : a.eval s = v) (hown : w.ownsRow base e size v n xs)
    (ad : Addr) (m c : Nat) (news : List Value) (hx : a.eval x = .slice (some ad) m c) (hl : news.length = m * size) (hnews : ∀ j u, news[j]? = some u → w.cell? (ad.add j) = some u) (h1 : ∀ u ∈ news, u.oneCell' = true)
    (h63 : n + m ≤ maxLen) (hbytes : (n + m) * bytes ≤ 140737488355328) (hbase : base ≤ w.heap.size)
    (h : ∀ v' w', w'.ownsRow base e size v' (n + m) (xs ++ news) → w.grownBy w' v.ownBlock → (v' = .slice none 0 0 ↔ v = .slice none 0 0 ∧ m = 0) → K (a.put o.dst v') w') :
    if Region.wanted o (yielded ops a.tmps) = true then Oper.wp P o a w K Q else E := by
  have hw : Region.wanted o (yielded ops a.tmps) = true := by simp [Region.wanted, hgd]
  rw [if_pos hw]
  exact wp_append_own w s x t ho base e i z size bytes ht hi hz hsize hby hzs hsz v n xs hs hown ad m c news hx hl hnews h1 h63 hbytes hbase h
theorem info66 : ∃ i, Tryz.prog.info? 73 = some i ∧ i.zero = some (.agg #[.int .i64 0, .int .i64 0, .slice none 0 0]) ∧ i.size = 3 ∧ i.bytes = 40 := by
  have h : (Tryz.prog.info? 73).map (fun i => (i.zero, i.size, i.bytes)) = some (some (.agg #[.int .i64 0, .int .i64 0, .slice none 0 0]), 3, 40) := by kernel_rfl
  cases hq : Tryz.prog.info? 73 with
  | none => rw [hq] at h; cases h
  | some i =>
    rw [hq] at h
    simp only [Option.map_some, Option.some.injEq, Prod.mk.injEq] at h
    exact ⟨i, rfl, h.1, h.2.1, h.2.2⟩
theorem HpAt.look1 {w : World} {hb M n : Nat} {D : DataW Value} {m : Hp} (h : HpAt w hb M n D m) (x : Nm) (hx : wfN x) (hD : Maps.has D (kLit x) = true) : ∃ u l, (Instr.lookup 97 (.map (some M)) (.agg #[.int .i64 x.1, .int .i64 x.2]) false).run Tryz.prog w = .ok u w ∧ lookH m x = some l ∧ TermAt w u l := by
  obtain ⟨u, ps, hrun, hR⟩ := h.map.lookup keyed23 Tryz.underlying97 (zeroT w) (show heldElem (.slice none 0 0) = some (.held (.slice none 0 0), []) from rfl) (key23 x hx)
  have hu : DataW.held u = D.atKey (kLit x) (.held (.slice none 0 0)) := by
    have h1 : heldElem u = some (DataW.held u, []) := rfl
    rw [h1] at hR
    simp only [Option.some.injEq, Prod.mk.injEq] at hR
    exact hR.1
  cases hl : lookH m x with
  | none =>
    have h0 := h.no x hx hl
    rw [hD] at h0
    cases h0
  | some l =>
    obtain ⟨v, h1, h2⟩ := h.yes x l hx hl
    rw [h1] at hu
    cases hu
    exact ⟨_, l, hrun, rfl, h2⟩
/-- A row of names that can be read. -/
theorem keys_at {w wr : World} {B : Nat} {a : Option Addr} {c : Nat} {xs : List Nm} (h : w.ownsRow B 32 2 (.slice a xs.length c) xs.length (xs.flatMap encM)) (hb : Below w.heap.size w wr) {k : Nat} (hk : k < xs.length) : ∃ g, a = some ⟨g, 0, none⟩ ∧ wr.cell? ⟨g, k * 2, none⟩ = some (.int .i64 xs[k].1) ∧ wr.cell? ⟨g, k * 2 + 1, none⟩ = some (.int .i64 xs[k].2) := by
  rcases h.2 with ⟨_, h0⟩ | ⟨g, cap, cur, e, _, h2, _, _, _, h6⟩
  · omega
  · simp only [Value.slice.injEq] at e
    have key : ∀ j, j < 2 → ∀ v, (encM xs[k])[j]? = some v → wr.cell? ⟨g, k * 2 + j, none⟩ = some v := fun j hj v hv => by
      have hlt : k * 2 + j < xs.length * 2 := by omega
      have h3 : (xs.flatMap encM)[k * 2 + j]? = some v := by
        rw [flatMap_get encM_len xs (k * 2 + j) hlt]
        have d1 : (k * 2 + j) / 2 = k := by omega
        have d2 : (k * 2 + j) % 2 = j := by omega
        rw [d1, d2, getElem!_pos xs k hk]
        obtain ⟨hl, he⟩ := List.getElem?_eq_some_iff.1 hv
        rw [getElem!_pos (encM xs[k]) j hl, he]
      rw [← h6, List.getElem?_take_of_lt hlt] at h3
      have hg : wr.heap[g]? = some (.cells cur 32 (0, 0)) := (hb.block g (Array.getElem?_eq_some_iff.1 h2).1).trans h2
      rw [cell_of_row wr g _ _ 32 (0, 0) hg, ← Array.getElem?_toList]
      exact h3
    exact ⟨g, e.1, key 0 (by omega) _ rfl, key 1 (by omega) _ rfl⟩
theorem stored23 {wr U : World} {vb : Nat} {x y : Value} (hU : wr.alloc (.cells #[.int .i64 0, .int .i64 0] 32) = U) (hvb : wr.heap.size = vb) :
    (U.cell? ⟨vb, 0, none⟩ = some (.int .i64 0) ∧ U.cell? ⟨vb, 1, none⟩ = some (.int .i64 0) ∧ U.frozen? ⟨vb, 0, none⟩ = false ∧ U.frozen? ⟨vb, 1, none⟩ = false) ∧ ∀ V, (U.setCell ⟨vb, 0, none⟩ x).setCell ⟨vb, 1, none⟩ y = V → Below wr.heap.size wr V ∧ V.heap[vb]? = some (.cells #[x, y] 32 (0, 0)) := by
  have hc : U.heap[vb]? = some (.cells #[.int .i64 0, .int .i64 0] 32 (0, 0)) := by rw [← hU, ← hvb]; exact heap_alloc_new wr _
  have h1 : Below wr.heap.size wr U := by rw [← hU]; exact (Below.refl _ _).alloc (Nat.le_refl _) _
  have h0 : wr.heap.size ≤ vb := by omega
  have e1 := heap_setCell_same U vb 0 _ 32 x hc
  have e2 := heap_setCell_same _ vb 1 _ 32 y e1
  refine ⟨⟨by rw [cell_of_row U vb 0 _ 32 (0, 0) hc]; rfl, by rw [cell_of_row U vb 1 _ 32 (0, 0) hc]; rfl, frozen_of_row U vb 0 _ 32 hc, frozen_of_row U vb 1 _ 32 hc⟩, fun V hV => ?_⟩
  rw [← hV]
  exact ⟨(h1.setCell (p := ⟨vb, 0, none⟩) h0 _).setCell (p := ⟨vb, 1, none⟩) h0 _, e2⟩
theorem box_kept {V w5 : World} {vb : Nat} {y1 y2 : Int} (h : V.heap[vb]? = some (.cells #[.int .i64 y1, .int .i64 y2] 32 (0, 0))) (hb : Below V.heap.size V w5) : w5.cell? ⟨vb, 0, none⟩ = some (.int .i64 y1) ∧ w5.cell? ⟨vb, 1, none⟩ = some (.int .i64 y2) := by
  have hg : w5.heap[vb]? = some (.cells #[.int .i64 y1, .int .i64 y2] 32 (0, 0)) := (hb.block vb (Array.getElem?_eq_some_iff.1 h).1).trans h
  exact ⟨by rw [cell_of_row w5 vb 0 _ 32 (0, 0) hg]; rfl, by rw [cell_of_row w5 vb 1 _ 32 (0, 0) hg]; rfl⟩
theorem new_row {w1 V w5 : World} {y1 y2 : Int} {ta : Option Addr} {tn tc : Nat} (hB : Below w1.heap.size w1 V) (hb : Below V.heap.size V w5) :
    Hid ((∀ j u, ([.int .i64 y1, .int .i64 y2, .slice ta tn tc] : List Value)[j]? = some u → (w5.alloc (.cells #[.int .i64 y1, .int .i64 y2, .slice ta tn tc] 73)).cell? ((⟨w5.heap.size, 0, none⟩ : Addr).add j) = some u) ∧ (∀ u ∈ ([.int .i64 y1, .int .i64 y2, .slice ta tn tc] : List Value), u.oneCell' = true) ∧ w1.heap.size ≤ (w5.alloc (.cells #[.int .i64 y1, .int .i64 y2, .slice ta tn tc] 73)).heap.size) := by
  refine ⟨fun j u hu => ?_, fun u hu => ?_, ?_⟩
  · rw [Addr.add_mid, Nat.zero_add, cell_of_row _ w5.heap.size j _ 73 (0, 0) (heap_alloc_new w5 _)]
    simpa using hu
  · simp at hu
    rcases hu with rfl | rfl | rfl <;> rfl
  · have h1 := hB.size
    have h2 := hb.size
    simp
    omega
end Go.Proofs.YtljggjllijacjaaGreatDoor
