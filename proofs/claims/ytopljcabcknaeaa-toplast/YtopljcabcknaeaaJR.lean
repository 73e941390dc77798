/- Slices whose elements are one cell each: what append does. -/
import Derived.Maps.AppendAt
import Derived.Maps.OwnRows
import Derived.Below
import Derived.Deep.Upon
import Derived.Deep.AppendLies
import Derived.RangeFuncNested
import Derived.RangeFuncBound
import Derived.RangeFuncCalls
import Derived.RangeFuncLeaves
import Derived.Shelf.Abstract
import Derived.Shelf.RegionOpen
import Derived.OwnWalkIn
import Derived.TacticsInMore
import Derived.LoopNIn
import Derived.LoopIn
import Derived.Sort.EveryDepth
import Derived.Maps.OwnIn
namespace Go.Proofs.Ytopljcabcknaeaa
open Go.RowKit
/-- A slice whose elements lie at the beginning of a block of their kind, at B or behind. -/
structure Row (w : World) (B : Nat) (e : TypeId) (a : Option Addr) (n c : Nat) (xs : List Value) : Prop where
  len : xs.length = n
  cap : n ≤ c
  max : c ≤ maxLen
  mem : (a = none ∧ c = 0) ∨ ∃ g cur, a = some ⟨g, 0, none⟩ ∧ B ≤ g ∧ w.heap[g]? = some (.cells cur e (0, 0)) ∧ c ≤ cur.size ∧ cur.toList.take n = xs
/-- The block of an address. -/
def blk (a : Option Addr) : Option Nat := a.map (·.block)
@[simp] theorem blk_none : blk none = none := rfl
@[simp] theorem blk_some (x : Addr) : blk (some x) = some x.block := rfl
/-- A slice from which is read. -/
def Reads (w : World) (a : Option Addr) (n : Nat) (xs : List Value) : Prop :=
  xs.length = n ∧ (n = 0 ∨ ∃ ad, a = some ad ∧ ∀ j u, xs[j]? = some u → w.cell? (ad.add j) = some u)
/-- The block has just the room that the slice tells. -/
def Ex (w : World) (e : TypeId) (a : Option Addr) (c : Nat) : Prop := ∀ g, blk a = some g → ∃ cur : Array Value, w.heap[g]? = some (.cells cur e (0, 0)) ∧ cur.size = c
theorem Ex.keeps {w w' : World} {e : TypeId} {a : Option Addr} {c : Nat} (h : Ex w e a c) (hk : ∀ g, blk a = some g → w'.heap[g]? = w.heap[g]?) : Ex w' e a c := fun g hg => by
  obtain ⟨cur, h1, h2⟩ := h g hg
  exact ⟨cur, (hk g hg).trans h1, h2⟩
theorem ex_nil (w : World) (e : TypeId) : Ex w e none 0 := fun g h => by cases h
theorem row_nil (w : World) (B : Nat) (e : TypeId) : Row w B e none 0 0 [] := ⟨rfl, Nat.le_refl _, Nat.zero_le _, .inl ⟨rfl, rfl⟩⟩
theorem Row.lt {w : World} {B : Nat} {e : TypeId} {a : Option Addr} {n c : Nat} {xs : List Value} (h : Row w B e a n c xs) {g : Nat} (hg : blk a = some g) : B ≤ g ∧ g < w.heap.size := by
  rcases h.mem with ⟨rfl, _⟩ | ⟨g', cur, rfl, hB, hb, _⟩
  · cases hg
  · cases hg
    exact ⟨hB, (Array.getElem?_eq_some_iff.1 hb).1⟩
theorem Row.keeps {w w' : World} {B : Nat} {e : TypeId} {a : Option Addr} {n c : Nat} {xs : List Value} (h : Row w B e a n c xs) (hk : ∀ g, blk a = some g → w'.heap[g]? = w.heap[g]?) : Row w' B e a n c xs := by
  refine ⟨h.len, h.cap, h.max, ?_⟩
  rcases h.mem with h1 | ⟨g, cur, rfl, h2, h3, h4⟩
  · exact .inl h1
  · exact .inr ⟨g, cur, rfl, h2, by rw [hk g rfl]; exact h3, h4⟩
theorem Row.base {w : World} {B B' : Nat} {e : TypeId} {a : Option Addr} {n c : Nat} {xs : List Value} (h : Row w B e a n c xs) (hB : B' ≤ B) : Row w B' e a n c xs := by
  refine ⟨h.len, h.cap, h.max, ?_⟩
  rcases h.mem with h1 | ⟨g, cur, rfl, h2, h3, h4⟩
  · exact .inl h1
  · exact .inr ⟨g, cur, rfl, by omega, h3, h4⟩
theorem Row.below {w w' : World} {B : Nat} {e : TypeId} {a : Option Addr} {n c : Nat} {xs : List Value} (h : Row w B e a n c xs) (hb : Below w.heap.size w w') : Row w' B e a n c xs :=
  h.keeps fun g hg => hb.block g (h.lt hg).2
theorem Row.grown {w w' : World} {B : Nat} {e : TypeId} {a : Option Addr} {n c : Nat} {xs : List Value} (h : Row w B e a n c xs) {row : Option Nat} (hg : w.grownBy w' row) (hne : ∀ g, blk a = some g → row ≠ some g) : Row w' B e a n c xs :=
  h.keeps fun g hb => hg.block g (h.lt hb).2 (Ne.symm (hne g hb))
theorem Row.other {w : World} {B : Nat} {e : TypeId} {a : Option Addr} {n c : Nat} {xs : List Value} (h : Row w B e a n c xs) {p : Addr} (u : Value) (hne : blk a ≠ some p.block) : Row (w.setCell p u) B e a n c xs :=
  h.keeps fun g hg => heap_setCell_other _ _ _ _ (by intro e1; exact hne (by rw [hg, e1]))
theorem Row.alloc {w : World} {B : Nat} {e : TypeId} {a : Option Addr} {n c : Nat} {xs : List Value} (h : Row w B e a n c xs) (o : Obj) : Row (w.alloc o) B e a n c xs :=
  h.keeps fun _ hg => heap_alloc_old w o (h.lt hg).2
theorem Row.of_owns {w : World} {B : Nat} {e : TypeId} {v : Value} {n : Nat} {xs : List Value} (h : w.ownsRow B e 1 v n xs) : ∃ a c, v = .slice a n c ∧ Row w B e a n c xs := by
  have hl := h.1
  rcases h.2 with ⟨rfl, rfl⟩ | ⟨g, cap, cur, rfl, h2, h3, h4, h5, h6, h7⟩
  · refine ⟨_, _, rfl, ⟨by omega, Nat.le_refl _, Nat.zero_le _, .inl ⟨rfl, rfl⟩⟩⟩
  · exact ⟨_, _, rfl, ⟨by omega, h4, h5, .inr ⟨g, cur, rfl, h2, h3, by omega, by simpa using h7⟩⟩⟩
theorem Row.owns {w : World} {B : Nat} {e : TypeId} {a : Option Addr} {n c : Nat} {xs : List Value} (h : Row w B e a n c xs) (hx : Ex w e a c) : w.ownsRow B e 1 (.slice a n c) n xs := by
  refine ⟨by rw [h.len, Nat.mul_one], ?_⟩
  rcases h.mem with ⟨rfl, rfl⟩ | ⟨g, cur, rfl, h2, h3, h4, h5⟩
  · obtain rfl : n = 0 := by have := h.cap; omega
    exact .inl ⟨rfl, rfl⟩
  · obtain ⟨cu, h6, h7⟩ := hx g rfl
    rw [h3] at h6
    simp only [Option.some.injEq, Obj.cells.injEq, and_true] at h6
    subst h6
    exact .inr ⟨g, c, cur, rfl, h2, h3, h.cap, h.max, by omega, by simpa using h5⟩
theorem ex_of_owns {w : World} {B : Nat} {e : TypeId} {a : Option Addr} {n c : Nat} {xs : List Value} (h : w.ownsRow B e 1 (.slice a n c) n xs) : Ex w e a c := fun g hg => by
  rcases h.2 with ⟨e1, _⟩ | ⟨g', cap, cur, e1, _, h3, _, _, h6, _⟩
  · cases e1; cases hg
  · cases e1; cases hg
    exact ⟨cur, h3, by omega⟩
theorem Row.reads {w : World} {B : Nat} {e : TypeId} {a : Option Addr} {n c : Nat} {xs : List Value} (h : Row w B e a n c xs) : Reads w a n xs := by
  refine ⟨h.len, ?_⟩
  rcases h.mem with ⟨rfl, h1⟩ | ⟨g, cur, rfl, h2, h3, h4, h5⟩
  · exact .inl (by have := h.cap; omega)
  · refine .inr ⟨_, rfl, fun j u hu => ?_⟩
    rw [Addr.add_lit, cell_of_row w g _ cur e (0, 0) h3, ← h5] at *
    rw [List.getElem?_take] at hu
    split at hu
    · simpa using hu
    · cases hu
section
variable {P : Program}
theorem run_append_row (w : World) (B : Nat) (t ty e : TypeId) (i : TypeInfo) (z : Value) (bytes : Nat) (ht : P.underlying t = some (.slice e)) (hi : P.info? e = some i) (hz : i.zero = some z)
    (hsize : i.size = 1) (hby : i.bytes = bytes) (hzs : z.cells.size = 1)
    (a : Option Addr) (n c : Nat) (xs : List Value) (h : Row w B e a n c xs)
    (ax : Option Addr) (m cx : Nat) (news : List Value) (hr : Reads w ax m news) (h1 : ∀ u ∈ news, u.oneCell' = true) (hnil : ax = none → m = 0)
    (h63 : n + m ≤ maxLen) (hbytes : (n + m) * bytes ≤ 140737488355328) (hB : B ≤ w.heap.size) :
    ∃ a' c' w', (Builtin.append_ #[t, t] ty #[.slice a n c, .slice ax m cx]).run P w = .ok (.slice a' (n + m) c') w' ∧ Row w' B e a' (n + m) c' (xs ++ news) ∧ w.grownBy w' (blk a) ∧
      (a' = a ∨ ∃ g, a' = some ⟨g, 0, none⟩ ∧ w.heap.size ≤ g ∧ w.grownBy w' none) ∧ (a ≠ none → a' ≠ none) ∧ (m ≠ 0 → a' ≠ none) ∧ (Ex w e a c → Ex w' e a' c') := by
  rcases Nat.eq_zero_or_pos m with hm | hm
  · subst hm
    obtain rfl : news = [] := List.eq_nil_of_length_eq_zero hr.1
    have hs : Src P i.size t (.slice ax 0 cx) 0 [] w := by
      cases ax with
      | none => exact Src.ofNil w ht cx
      | some ad => exact Src.ofSlice w ht ad 0 cx [] (by simp) (fun j u hu => by simp at hu) (fun u hu => by cases hu)
    refine ⟨a, c, w, run_append_nothing w t t ty e i ht hi a n c h.cap _ hs, by simpa using h, ⟨rfl, rfl, rfl, Nat.le_refl _, fun _ _ _ => rfl⟩, .inl rfl, fun h => h, fun h => absurd rfl h, fun h => h⟩
  · obtain ⟨ad, rfl, hc⟩ : ∃ ad, ax = some ad ∧ ∀ j u, news[j]? = some u → w.cell? (ad.add j) = some u := by
      rcases hr.2 with e1 | h2
      · omega
      · exact h2
    have hl : news.length = m * i.size := by rw [hsize, hr.1, Nat.mul_one]
    rcases h.mem with ⟨rfl, rfl⟩ | ⟨g, cur, rfl, hBg, hg, hcs, htk⟩
    · obtain rfl : n = 0 := by have := h.cap; omega
      obtain rfl : xs = [] := List.eq_nil_of_length_eq_zero h.len
      obtain ⟨v', w', hrun, ho, hgr, hiff⟩ := run_append_own (P := P) w w.heap.size t ty e i z 1 bytes ht hi hz hsize hby hzs (by decide) (.slice none 0 0) 0 [] (World.ownsRow_nil w _ e 1) ad m cx news (by rw [hl, hsize]) hc h1 h63 hbytes (Nat.le_refl _)
      obtain ⟨a', c', rfl, hrow⟩ := Row.of_owns ho
      refine ⟨a', c', w', hrun, hrow.base hB, by simpa [Value.ownBlock] using hgr, .inr ?_, ?_, ?_, fun _ => ex_of_owns ho⟩
      · rcases hrow.mem with ⟨rfl, rfl⟩ | ⟨g, cur, rfl, hBg, _⟩
        · have := hrow.cap; omega
        · exact ⟨g, rfl, hBg, by simpa [Value.ownBlock] using hgr⟩
      · intro hh; exact absurd rfl hh
      · rintro _ rfl
        rcases hrow.mem with ⟨_, rfl⟩ | ⟨g, cur, e1, _⟩
        · have := hrow.cap; omega
        · cases e1
    · by_cases hroom : n + m ≤ c
      · have hfit : n * i.size + news.length ≤ cur.size := by rw [hsize, hr.1]; omega
        have hrun := run_append_room (P := P) w t ty e i ht hi g n c cur hg ad m cx news hl hc h1 hroom hfit
        refine ⟨_, _, _, hrun, ⟨by rw [List.length_append, h.len, hr.1], hroom, h.max, .inr ⟨g, _, rfl, hBg, setRow_heap w g cur _ e _ hg, ?_, ?_⟩⟩, ⟨rfl, rfl, rfl, by simp, fun k _ hk => setRow_other w g k _ (fun e1 => hk (by simp [e1]))⟩, .inl rfl, fun h => h, fun _ => by simp, fun hx => ?_⟩
        · have h5 := hr.1
          simp only [hsize, Nat.mul_one, List.size_toArray, List.length_append, List.length_take, List.length_drop, Array.length_toList]
          omega
        · have h5 := h.len
          have h6 := hr.1
          simp only [hsize, Nat.mul_one, htk, List.append_assoc]
          rw [show n + m = (xs ++ news).length by rw [List.length_append]; omega, ← List.append_assoc]
          exact List.take_left
        · intro g' hg'
          cases hg'
          obtain ⟨cu, h6, h7⟩ := hx g rfl
          rw [hg] at h6
          simp only [Option.some.injEq, Obj.cells.injEq, and_true] at h6
          subst h6
          refine ⟨_, setRow_heap w g cur _ e _ hg, ?_⟩
          have h5 := hr.1
          simp only [hsize, Nat.mul_one, List.size_toArray, List.length_append, List.length_take, List.length_drop, Array.length_toList]
          omega
      · have hold : ∀ j u, xs[j]? = some u → w.cell? ((⟨g, 0, none⟩ : Addr).add j) = some u := by
          have h7 := h.reads
          rcases h7.2 with e1 | ⟨ad2, e1, e2⟩
          · intro j u hu
            have := h7.1
            obtain rfl : xs = [] := List.eq_nil_of_length_eq_zero (by omega)
            simp at hu
          · cases e1; exact e2
        have hm63 : n + m ≤ 9223372036854775807 := by unfold maxLen at h63; omega
        have hrun := run_append_grow (P := P) w t ty e i z ht hi hz ⟨g, 0, none⟩ n c xs (by rw [hsize, h.len, Nat.mul_one]) hold ad m cx news hl hc (by omega) (by omega) (growslice_fits (by omega) (by rw [hby]; exact hbytes))
        have hge := grownCap_ge w (n + m) c e
        have hcm : grownCap w (n + m) c e ≤ maxLen := grownCap_le_maxLen w (n + m) c e h63
        refine ⟨_, _, _, hrun, ⟨by rw [List.length_append, h.len, hr.1], hge, hcm, .inr ⟨w.heap.size, _, rfl, hB, heap_alloc_new w.drew _, ?_, ?_⟩⟩, ⟨rfl, rfl, rfl, by simp, fun k hk _ => heap_alloc_old w.drew _ hk⟩, .inr ⟨_, rfl, Nat.le_refl _, ⟨rfl, rfl, rfl, by simp, fun k hk _ => heap_alloc_old w.drew _ hk⟩⟩, fun _ => by simp, fun _ => by simp, fun _ => ?_⟩
        · have h5 := h.len
          have h6 := hr.1
          simp only [Array.size_append, List.size_toArray, size_zeroCells, hzs]
          omega
        · have h5 := h.len
          have h6 := hr.1
          simp only [Array.toList_append]
          rw [show n + m = (xs ++ news).length by rw [List.length_append]; omega]
          exact List.take_left
        · intro g' hg'
          cases hg'
          refine ⟨_, heap_alloc_new w.drew _, ?_⟩
          have h5 := h.len
          have h6 := hr.1
          simp only [Array.size_append, List.size_toArray, size_zeroCells, hzs]
          omega
theorem wp_append_row (w : World) {o : Oper} {act : Act} {K : Act → World → Prop} {Q : Exit → Act → World → Prop} (s x : Operand) (t : TypeId)
    (ho : o.op = .call { callee := .builtin .append, args := #[s, x], argTypes := #[t, t] })
    (B : Nat) (e : TypeId) (i : TypeInfo) (z : Value) (bytes : Nat) (ht : P.underlying t = some (.slice e)) (hi : P.info? e = some i) (hz : i.zero = some z)
    (hsize : i.size = 1) (hby : i.bytes = bytes) (hzs : z.cells.size = 1)
    (a : Option Addr) (n c : Nat) (xs : List Value) (hs : act.eval s = .slice a n c) (h : Row w B e a n c xs)
    (ax : Option Addr) (m cx : Nat) (news : List Value) (hx : act.eval x = .slice ax m cx) (hr : Reads w ax m news) (h1 : ∀ u ∈ news, u.oneCell' = true) (hnil : ax = none → m = 0)
    (h63 : n + m ≤ maxLen) (hbytes : (n + m) * bytes ≤ 140737488355328) (hB : B ≤ w.heap.size)
    (hK : ∀ a' c' w', Row w' B e a' (n + m) c' (xs ++ news) → w.grownBy w' (blk a) → (a' = a ∨ ∃ g, a' = some ⟨g, 0, none⟩ ∧ w.heap.size ≤ g ∧ w.grownBy w' none) → (a ≠ none → a' ≠ none) → (m ≠ 0 → a' ≠ none) → K (act.put o.dst (.slice a' (n + m) c')) w') :
    o.wp P act w K Q := by
  obtain ⟨a', c', w', hrun, h2, h3, h4, h5, h6, _⟩ := run_append_row (P := P) w B t o.type e i z bytes ht hi hz hsize hby hzs a n c xs h ax m cx news hr h1 hnil h63 hbytes hB
  unfold Oper.wp execOp
  simp only [ho, resolve, invoke, builtin, Sem.run_bind, Sem.run_pure, Result.andThen_ok, List.map_toArray, List.map_cons, List.map_nil, hs, hx, hrun]
  exact hK _ _ _ h2 h3 h4 h5 h6
theorem wpList_append_row_ex (w : World) {ops : Array Oper} {rest : List Oper} {o : Oper} {act : Act} {Q : Exit → Act → World → Prop} (hgd : o.guard = none) (s x : Operand) (t : TypeId)
    (ho : o.op = .call { callee := .builtin .append, args := #[s, x], argTypes := #[t, t] })
    (B : Nat) (e : TypeId) (i : TypeInfo) (z : Value) (bytes : Nat) (ht : P.underlying t = some (.slice e)) (hi : P.info? e = some i) (hz : i.zero = some z)
    (hsize : i.size = 1) (hby : i.bytes = bytes) (hzs : z.cells.size = 1)
    (a : Option Addr) (n c : Nat) (xs : List Value) (hs : act.eval s = .slice a n c) (h : Row w B e a n c xs) (hex : Ex w e a c)
    (ax : Option Addr) (m cx : Nat) (news : List Value) (hx : act.eval x = .slice ax m cx) (hr : Reads w ax m news) (h1 : ∀ u ∈ news, u.oneCell' = true) (hnil : ax = none → m = 0)
    (h63 : n + m ≤ maxLen) (hbytes : (n + m) * bytes ≤ 140737488355328) (hB : B ≤ w.heap.size)
    (hK : ∀ a' c' w', Row w' B e a' (n + m) c' (xs ++ news) → w.grownBy w' (blk a) → (a' = a ∨ ∃ g, a' = some ⟨g, 0, none⟩ ∧ w.heap.size ≤ g ∧ w.grownBy w' none) → Ex w' e a' c' → wpList P ops Q rest (act.put o.dst (.slice a' (n + m) c')) w') :
    wpList P ops Q (o :: rest) act w := by
  refine wpList_plain hgd fun _ hk => ?_
  obtain ⟨a', c', w', hrun, h2, h3, h4, _, _, h7⟩ := run_append_row (P := P) w B t o.type e i z bytes ht hi hz hsize hby hzs a n c xs h ax m cx news hr h1 hnil h63 hbytes hB
  unfold Oper.wp execOp
  simp only [ho, resolve, invoke, builtin, Sem.run_bind, Sem.run_pure, Result.andThen_ok, List.map_toArray, List.map_cons, List.map_nil, hs, hx, hrun]
  exact hk _ _ (hK _ _ _ h2 h3 h4 (h7 hex))
theorem wpList_append_row (w : World) {ops : Array Oper} {rest : List Oper} {o : Oper} {act : Act} {Q : Exit → Act → World → Prop} (hgd : o.guard = none) (s x : Operand) (t : TypeId)
    (ho : o.op = .call { callee := .builtin .append, args := #[s, x], argTypes := #[t, t] })
    (B : Nat) (e : TypeId) (i : TypeInfo) (z : Value) (bytes : Nat) (ht : P.underlying t = some (.slice e)) (hi : P.info? e = some i) (hz : i.zero = some z)
    (hsize : i.size = 1) (hby : i.bytes = bytes) (hzs : z.cells.size = 1)
    (a : Option Addr) (n c : Nat) (xs : List Value) (hs : act.eval s = .slice a n c) (h : Row w B e a n c xs)
    (ax : Option Addr) (m cx : Nat) (news : List Value) (hx : act.eval x = .slice ax m cx) (hr : Reads w ax m news) (h1 : ∀ u ∈ news, u.oneCell' = true) (hnil : ax = none → m = 0)
    (h63 : n + m ≤ maxLen) (hbytes : (n + m) * bytes ≤ 140737488355328) (hB : B ≤ w.heap.size)
    (hK : ∀ a' c' w', Row w' B e a' (n + m) c' (xs ++ news) → w.grownBy w' (blk a) → (a' = a ∨ ∃ g, a' = some ⟨g, 0, none⟩ ∧ w.heap.size ≤ g ∧ w.grownBy w' none) → (a ≠ none → a' ≠ none) → (m ≠ 0 → a' ≠ none) → wpList P ops Q rest (act.put o.dst (.slice a' (n + m) c')) w') :
    wpList P ops Q (o :: rest) act w :=
  wpList_plain hgd fun _ hk => wp_append_row w s x t ho B e i z bytes ht hi hz hsize hby hzs a n c xs hs h ax m cx news hx hr h1 hnil h63 hbytes hB fun a' c' w' h2 h3 h4 h5 h6 => hk _ _ (hK a' c' w' h2 h3 h4 h5 h6)
theorem step_append_row (w : World) {ops : Array Oper} {o : Oper} {act : Act} {K : Act → World → Prop} {Q : Exit → Act → World → Prop} {E : Prop} (hgd : o.guard = none) (s x : Operand) (t : TypeId)
    (ho : o.op = .call { callee := .builtin .append, args := #[s, x], argTypes := #[t, t] })
    (B : Nat) (e : TypeId) (i : TypeInfo) (z : Value) (bytes : Nat) (ht : P.underlying t = some (.slice e)) (hi : P.info? e = some i) (hz : i.zero = some z)
    (hsize : i.size = 1) (hby : i.bytes = bytes) (hzs : z.cells.size = 1)
    (a : Option Addr) (n c : Nat) (xs : List Value) (hs : act.eval s = .slice a n c) (h : Row w B e a n c xs)
    (ax : Option Addr) (m cx : Nat) (news : List Value) (hx : act.eval x = .slice ax m cx) (hr : Reads w ax m news) (h1 : ∀ u ∈ news, u.oneCell' = true) (hnil : ax = none → m = 0)
    (h63 : n + m ≤ maxLen) (hbytes : (n + m) * bytes ≤ 140737488355328) (hB : B ≤ w.heap.size)
    (hK : ∀ a' c' w', Row w' B e a' (n + m) c' (xs ++ news) → w.grownBy w' (blk a) → (a' = a ∨ ∃ g, a' = some ⟨g, 0, none⟩ ∧ w.heap.size ≤ g ∧ w.grownBy w' none) → (a ≠ none → a' ≠ none) → (m ≠ 0 → a' ≠ none) → K (act.put o.dst (.slice a' (n + m) c')) w') :
    if Region.wanted o (yielded ops act.tmps) = true then Oper.wp P o act w K Q else E := by
  have hw : Region.wanted o (yielded ops act.tmps) = true := by simp [Region.wanted, hgd]
  rw [if_pos hw]
  exact wp_append_row w s x t ho B e i z bytes ht hi hz hsize hby hzs a n c xs hs h ax m cx news hx hr h1 hnil h63 hbytes hB hK
theorem stepIn_append_row {F : Fence} {nF : Nat} (w : World) {ops : Array Oper} {o : Oper} {act : Act} {K : Act → World → Prop} {Q : Exit → Act → World → Prop} {E : Prop} (hgd : o.guard = none) (s x : Operand) (t : TypeId)
    (ho : o.op = .call { callee := .builtin .append, args := #[s, x], argTypes := #[t, t] })
    (B : Nat) (e : TypeId) (i : TypeInfo) (z : Value) (bytes : Nat) (ht : P.underlying t = some (.slice e)) (hi : P.info? e = some i) (hz : i.zero = some z)
    (hsize : i.size = 1) (hby : i.bytes = bytes) (hzs : z.cells.size = 1)
    (a : Option Addr) (n c : Nat) (xs : List Value) (hs : act.eval s = .slice a n c) (h : Row w B e a n c xs)
    (ax : Option Addr) (m cx : Nat) (news : List Value) (hx : act.eval x = .slice ax m cx) (hr : Reads w ax m news) (h1 : ∀ u ∈ news, u.oneCell' = true) (hnil : ax = none → m = 0)
    (h63 : n + m ≤ maxLen) (hbytes : (n + m) * bytes ≤ 140737488355328) (hB : B ≤ w.heap.size)
    (hK : ∀ a' c' w', Row w' B e a' (n + m) c' (xs ++ news) → w.grownBy w' (blk a) → (a' = a ∨ ∃ g, a' = some ⟨g, 0, none⟩ ∧ w.heap.size ≤ g ∧ w.grownBy w' none) → (a ≠ none → a' ≠ none) → (m ≠ 0 → a' ≠ none) → K (act.put o.dst (.slice a' (n + m) c')) w') :
    if Region.wanted o (yielded ops act.tmps) = true then Oper.wpIn F nF P o act w K Q else E := by
  have hw : Region.wanted o (yielded ops act.tmps) = true := by simp [Region.wanted, hgd]
  rw [if_pos hw]
  obtain ⟨a', c', w', hrun, h2, h3, h4, h5, h6, _⟩ := run_append_row (P := P) w B t o.type e i z bytes ht hi hz hsize hby hzs a n c xs h ax m cx news hr h1 hnil h63 hbytes hB
  unfold Oper.wpIn
  refine ⟨by simp [Oper.about, ho, resolve, Target.leads, Sem.run_pure], ?_⟩
  rw [Oper.semAt_plain F _ _ (by rw [ho]; intro c hc'; cases hc')]
  simp [execOp, ho, resolve, invoke, builtin, hs, hx, hrun, Result.andThen]
  exact hK _ _ _ h2 h3 h4 h5 h6
end
end Go.Proofs.Ytopljcabcknaeaa
