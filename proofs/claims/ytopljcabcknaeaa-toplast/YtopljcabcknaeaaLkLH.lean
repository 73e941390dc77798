/- Slices of one-cell elements that lie anywhere in a block of their own: what append does. -/
import Derived.Test.YtopljcabcknaeaaLkLE
import Derived.Deep.AppendSrc
namespace Go.Proofs.Ytopljcabcknaeaa.Lk
open Go.RowKit
/-- A slice whose elements lie somewhere in a block of their kind, at B or behind. -/
structure RowO (w : World) (B : Nat) (e : TypeId) (a : Option Addr) (n c : Nat) (xs : List Value) : Prop where
  len : xs.length = n
  cap : n ≤ c
  max : c ≤ maxLen
  mem : (a = none ∧ c = 0) ∨ ∃ g o, a = some ⟨g, o, none⟩ ∧ B ≤ g ∧ (∃ cu : Array Value, w.heap[g]? = some (.cells cu e (0, 0)) ∧ o + c ≤ cu.size) ∧ w.rangeAt g o xs
section
variable {w w' : World} {B : Nat} {e : TypeId} {a : Option Addr} {n c : Nat} {xs : List Value}
theorem rowO_nil (w : World) (B : Nat) (e : TypeId) : RowO w B e none 0 0 [] := ⟨rfl, Nat.le_refl _, Nat.zero_le _, .inl ⟨rfl, rfl⟩⟩
theorem RowO.lt (h : RowO w B e a n c xs) {g : Nat} (hg : blk a = some g) : B ≤ g ∧ g < w.heap.size := by
  rcases h.mem with ⟨rfl, _⟩ | ⟨g', o, rfl, hB, ⟨cu, hb, _⟩, _⟩
  · cases hg
  · cases hg
    exact ⟨hB, (Array.getElem?_eq_some_iff.1 hb).1⟩
theorem RowO.kind (h : RowO w B e a n c xs) {g : Nat} (hg : blk a = some g) : ∃ cu : Array Value, w.heap[g]? = some (.cells cu e (0, 0)) := by
  rcases h.mem with ⟨rfl, _⟩ | ⟨g', o, rfl, hB, ⟨cu, hb, _⟩, _⟩
  · cases hg
  · cases hg
    exact ⟨cu, hb⟩
theorem RowO.keeps (h : RowO w B e a n c xs) (hk : ∀ g, blk a = some g → w'.heap[g]? = w.heap[g]?) : RowO w' B e a n c xs := by
  refine ⟨h.len, h.cap, h.max, ?_⟩
  rcases h.mem with h1 | ⟨g, o, rfl, h2, ⟨cu, h3, h4⟩, h5⟩
  · exact .inl h1
  · refine .inr ⟨g, o, rfl, h2, ⟨cu, by rw [hk g rfl]; exact h3, h4⟩, fun j u hu => ?_⟩
    rw [World.cell?_of_block (a := ⟨g, o + j, none⟩) (hk g rfl)]
    exact h5 j u hu
theorem RowO.base {B' : Nat} (h : RowO w B e a n c xs) (hB : B' ≤ B) : RowO w B' e a n c xs := by
  refine ⟨h.len, h.cap, h.max, ?_⟩
  rcases h.mem with h1 | ⟨g, o, rfl, h2, h3⟩
  · exact .inl h1
  · exact .inr ⟨g, o, rfl, by omega, h3⟩
theorem RowO.below (h : RowO w B e a n c xs) (hb : Below w.heap.size w w') : RowO w' B e a n c xs := h.keeps fun g hg => hb.block g (h.lt hg).2
theorem RowO.other (h : RowO w B e a n c xs) {p : Addr} (u : Value) (hne : blk a ≠ some p.block) : RowO (w.setCell p u) B e a n c xs :=
  h.keeps fun g hg => heap_setCell_other _ _ _ _ (by intro e1; exact hne (by rw [hg, e1]))
theorem RowO.alloc (h : RowO w B e a n c xs) (o : Obj) : RowO (w.alloc o) B e a n c xs := h.keeps fun _ hg => heap_alloc_old w o (h.lt hg).2
theorem _root_.Go.Proofs.Ytopljcabcknaeaa.Row.toO (h : Row w B e a n c xs) : RowO w B e a n c xs := by
  refine ⟨h.len, h.cap, h.max, ?_⟩
  rcases h.mem with h1 | ⟨g, cur, rfl, h2, h3, h4, h5⟩
  · exact .inl h1
  · refine .inr ⟨g, 0, rfl, h2, ⟨cur, h3, by omega⟩, fun j u hu => ?_⟩
    rcases h.reads.2 with e1 | ⟨ad, e1, e2⟩
    · have h6 := h.len
      have h7 : xs = [] := List.eq_nil_of_length_eq_zero (by omega)
      rw [h7] at hu
      simp at hu
    · cases e1
      have h8 := e2 j u hu
      rw [Addr.add_mid] at h8
      exact h8
theorem RowO.reads (h : RowO w B e a n c xs) : Reads w a n xs := by
  refine ⟨h.len, ?_⟩
  rcases h.mem with ⟨rfl, h1⟩ | ⟨g, o, rfl, h2, h3, h4⟩
  · exact .inl (by have := h.cap; omega)
  · refine .inr ⟨_, rfl, fun j u hu => ?_⟩
    rw [Addr.add_mid]
    exact h4 j u hu
end
theorem kind_setCells (g : Nat) (e : TypeId) : ∀ (vs : List Value) (o : Nat) (w : World) (cu : Array Value), w.heap[g]? = some (.cells cu e (0, 0)) → ∃ cu' : Array Value, (w.setCells g o vs).heap[g]? = some (.cells cu' e (0, 0)) ∧ cu'.size = cu.size
  | [], _, _, cu, h => ⟨cu, h, rfl⟩
  | v :: r, o, w, cu, h => by
    obtain ⟨cu', h1, h2⟩ := kind_setCells g e r (o + 1) _ _ (heap_setCell_same w g o cu e v h)
    exact ⟨cu', h1, by rw [h2]; simp⟩
theorem grown_setCells (g : Nat) : ∀ (vs : List Value) (o : Nat) (w : World), w.grownBy (w.setCells g o vs) (some g)
  | [], _, _ => ⟨rfl, rfl, rfl, Nat.le_refl _, fun _ _ _ => rfl⟩
  | v :: r, o, w => by
    have b := (Below.refl 0 w).setCell (p := ⟨g, o, none⟩) (Nat.zero_le _) v
    have h1 : w.grownBy (w.setCell ⟨g, o, none⟩ v) (some g) := ⟨b.os, b.tape, b.output, b.size, fun k _ hne => heap_setCell_other _ _ _ _ (fun e => hne (by rw [e]))⟩
    exact h1.trans (grown_setCells g r (o + 1) _)
section
variable {P : Program}
theorem run_append_rowO (w : World) (B : Nat) (t ty e : TypeId) (i : TypeInfo) (z : Value) (bytes : Nat) (ht : P.underlying t = some (.slice e)) (hi : P.info? e = some i) (hz : i.zero = some z)
    (hsize : i.size = 1) (hby : i.bytes = bytes) (hzs : z.cells.size = 1)
    (a : Option Addr) (n c : Nat) (xs : List Value) (h : RowO w B e a n c xs)
    (ad : Addr) (m cx : Nat) (news : List Value) (hl : news.length = m) (hr : ∀ j u, news[j]? = some u → w.cell? (ad.add j) = some u) (h1 : ∀ u ∈ news, u.oneCell' = true) (_ : 0 < m)
    (h63 : n + m ≤ maxLen) (hbytes : (n + m) * bytes ≤ 140737488355328) (hB : B ≤ w.heap.size) :
    ∃ a' c' w', (Builtin.append_ #[t, t] ty #[.slice a n c, .slice (some ad) m cx]).run P w = .ok (.slice a' (n + m) c') w' ∧ RowO w' B e a' (n + m) c' (xs ++ news) ∧ w.grownBy w' (blk a) ∧
      (blk a' = blk a ∨ ∃ g, blk a' = some g ∧ w.heap.size ≤ g) := by
  rcases h.mem with ⟨rfl, rfl⟩ | ⟨g, o, rfl, hBg, ⟨cu, hg, hcs⟩, hra⟩
  · obtain rfl : n = 0 := by have := h.cap; omega
    obtain rfl : xs = [] := List.eq_nil_of_length_eq_zero h.len
    obtain ⟨a', c', w', k1, k2, k3, k4, _⟩ := run_append_row (P := P) w B t ty e i z bytes ht hi hz hsize hby hzs none 0 0 [] (row_nil w B e) (some ad) m cx news ⟨hl, .inr ⟨ad, rfl, hr⟩⟩ h1 (fun e => by cases e) h63 hbytes hB
    refine ⟨a', c', w', k1, k2.toO, k3, ?_⟩
    rcases k4 with rfl | ⟨g, rfl, k5, _⟩
    · exact .inl rfl
    · exact .inr ⟨g, rfl, k5⟩
  · by_cases hroom : n + m ≤ c
    · have hcell : ∀ j, j < news.length → w.cell? ⟨g, o + n * i.size + j, none⟩ = cu[o + n + j]? := fun j _ => by
        rw [cell_of_row w g _ cu e (0, 0) hg, hsize, Nat.mul_one]
      have hthere : ∀ j, j < news.length → (w.cell? ⟨g, o + n * i.size + j, none⟩).isSome = true := fun j hj => by
        rw [hcell j hj, Array.getElem?_eq_getElem (by omega)]
        rfl
      have hrun := run_append_room_src (P := P) w t t ty e i ht hi g o n c (.slice (some ad) m cx) m news (Src.ofSlice w ht ad m cx news (by rw [hl, hsize, Nat.mul_one]) hr h1) hroom hthere (fun j _ => frozen_of_row w g _ cu e hg)
      rw [hsize, Nat.mul_one] at hrun hthere
      obtain ⟨cu', q1, q2⟩ := kind_setCells g e news (o + n) w cu hg
      refine ⟨some ⟨g, o, none⟩, c, _, hrun, ⟨by rw [List.length_append, h.len, hl], hroom, h.max, .inr ⟨g, o, rfl, hBg, ⟨cu', q1, by omega⟩, fun j u hu => ?_⟩⟩, grown_setCells g news (o + n) w, .inl rfl⟩
      by_cases hj : j < n
      · rw [List.getElem?_append_left (by rw [h.len]; exact hj)] at hu
        rw [World.cell?_setCells_out g news (o + n) w ⟨g, o + j, none⟩ (fun _ _ => .inl (by show o + j < o + n; omega))]
        exact hra j u hu
      · rw [List.getElem?_append_right (by rw [h.len]; omega), h.len] at hu
        have hjl := (List.getElem?_eq_some_iff.1 hu).1
        have h6 := World.cell?_setCells_in g news (o + n) w hthere (j - n) hjl
        rw [show o + n + (j - n) = o + j by omega] at h6
        rw [h6, ← hu, List.getElem?_eq_getElem hjl]
    · have hold : ∀ j u, xs[j]? = some u → w.cell? ((⟨g, o, none⟩ : Addr).add j) = some u := fun j u hu => by
        rw [Addr.add_mid]
        exact hra j u hu
      have hm63 : n + m ≤ 9223372036854775807 := by unfold maxLen at h63; omega
      have hrun := run_append_grow (P := P) w t ty e i z ht hi hz ⟨g, o, none⟩ n c xs (by rw [hsize, h.len, Nat.mul_one]) hold ad m cx news (by rw [hl, hsize, Nat.mul_one]) hr (by omega) (by omega) (growslice_fits (by omega) (by rw [hby]; exact hbytes))
      have hge := grownCap_ge w (n + m) c e
      have hcm : grownCap w (n + m) c e ≤ maxLen := grownCap_le_maxLen w (n + m) c e h63
      have hnew := heap_alloc_new w.drew (.cells (xs.toArray ++ news.toArray ++ Builtin.zeroCells z.cells (grownCap w (n + m) c e - (n + m))) e)
      refine ⟨_, _, _, hrun, ⟨by rw [List.length_append, h.len, hl], hge, hcm, .inr ⟨w.heap.size, 0, rfl, hB, ⟨_, hnew, ?_⟩, fun j u hu => ?_⟩⟩, ⟨rfl, rfl, rfl, by simp, fun k hk _ => heap_alloc_old w.drew _ hk⟩, .inr ⟨w.heap.size, rfl, Nat.le_refl _⟩⟩
      · have h5 := h.len
        simp only [Array.size_append, List.size_toArray, size_zeroCells, hzs]
        omega
      · have h7 : (w.drew.alloc (.cells (xs.toArray ++ news.toArray ++ Builtin.zeroCells z.cells (grownCap w (n + m) c e - (n + m))) e)).heap[w.heap.size]? = some (.cells (xs.toArray ++ news.toArray ++ Builtin.zeroCells z.cells (grownCap w (n + m) c e - (n + m))) e (0, 0)) := hnew
        rw [cell_of_row _ w.heap.size _ _ e (0, 0) h7, Nat.zero_add]
        have h8 := (List.getElem?_eq_some_iff.1 hu).1
        rw [List.length_append] at h8
        rw [Array.getElem?_append_left (by simp; omega)]
        simpa using hu
theorem step_append_rowO (w : World) {ops : Array Oper} {o : Oper} {act : Act} {K : Act → World → Prop} {Q : Exit → Act → World → Prop} {E : Prop} (hgd : o.guard = none) (s x : Operand) (t : TypeId)
    (ho : o.op = .call { callee := .builtin .append, args := #[s, x], argTypes := #[t, t] })
    (B : Nat) (e : TypeId) (i : TypeInfo) (z : Value) (bytes : Nat) (ht : P.underlying t = some (.slice e)) (hi : P.info? e = some i) (hz : i.zero = some z)
    (hsize : i.size = 1) (hby : i.bytes = bytes) (hzs : z.cells.size = 1)
    (a : Option Addr) (n c : Nat) (xs : List Value) (hs : act.eval s = .slice a n c) (h : RowO w B e a n c xs)
    (ad : Addr) (m cx : Nat) (news : List Value) (hx : act.eval x = .slice (some ad) m cx) (hl : news.length = m) (hr : ∀ j u, news[j]? = some u → w.cell? (ad.add j) = some u) (h1 : ∀ u ∈ news, u.oneCell' = true) (hm : 0 < m)
    (h63 : n + m ≤ maxLen) (hbytes : (n + m) * bytes ≤ 140737488355328) (hB : B ≤ w.heap.size)
    (hK : ∀ a' c' w', RowO w' B e a' (n + m) c' (xs ++ news) → w.grownBy w' (blk a) → (blk a' = blk a ∨ ∃ g, blk a' = some g ∧ w.heap.size ≤ g) → K (act.put o.dst (.slice a' (n + m) c')) w') :
    if Region.wanted o (yielded ops act.tmps) = true then Oper.wp P o act w K Q else E := by
  have hw : Region.wanted o (yielded ops act.tmps) = true := by simp [Region.wanted, hgd]
  rw [if_pos hw]
  obtain ⟨a', c', w', hrun, h2, h3, h4⟩ := run_append_rowO (P := P) w B t o.type e i z bytes ht hi hz hsize hby hzs a n c xs h ad m cx news hl hr h1 hm h63 hbytes hB
  unfold Oper.wp execOp
  simp only [ho, resolve, invoke, builtin, Sem.run_bind, Sem.run_pure, Result.andThen_ok, List.map_toArray, List.map_cons, List.map_nil, hs, hx, hrun]
  exact hK _ _ _ h2 h3 h4
end
end Go.Proofs.Ytopljcabcknaeaa.Lk
