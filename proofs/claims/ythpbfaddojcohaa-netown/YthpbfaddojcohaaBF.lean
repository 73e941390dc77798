/- Contracts of TakeBytes, TakeInts, TakeDatagrams, and of what is alone because it is not there. -/
import Derived.Test.YthpbfaddojcohaaBE
namespace Go.Proofs.Ythpbfaddojcohaa
open Go.RowKit
set_option maxRecDepth 100000 in
theorem n49 (b : Nat) (w : World) (h : w.cell? ⟨b, 1, none⟩ = some (.slice none 0 0)) :
    Calls Try.prog 49 #[.pointer (some ⟨b, 0, none⟩)] w fun e w' => e = .returned (.bool true) ∧ w' = w := by
  go_enter Try.func49, Try.ntmps49
  go_wp2_with fail
  refine wp_loop_rounds 1 ?_
  rw [rounds_succ]
  go_wp2_with fail
  refine wp_loop_rounds 1 ?_
  rw [rounds_succ]
  go_wp2_with fail
  refine wp_loop_rounds 1 ?_
  rw [rounds_succ]
  go_wp2_with fail
  go_ret
  exact ⟨rfl, rfl⟩
set_option maxRecDepth 100000 in
theorem n51 (b : Nat) (w : World) (h : w.cell? ⟨b, 3, none⟩ = some (.slice none 0 0)) :
    Calls Try.prog 51 #[.pointer (some ⟨b, 0, none⟩)] w fun e w' => e = .returned (.bool true) ∧ w' = w := by
  go_enter Try.func51, Try.ntmps51
  go_wp2_with fail
  refine wp_loop_rounds 1 ?_
  rw [rounds_succ]
  go_wp2_with fail
  refine wp_loop_rounds 1 ?_
  rw [rounds_succ]
  go_wp2_with fail
  refine wp_loop_rounds 1 ?_
  rw [rounds_succ]
  go_wp2_with fail
  go_ret
  exact ⟨rfl, rfl⟩
set_option maxRecDepth 100000 in
theorem n52 (b : Nat) (w : World) (h : w.cell? ⟨b, 4, none⟩ = some (.slice none 0 0)) :
    Calls Try.prog 52 #[.pointer (some ⟨b, 0, none⟩)] w fun e w' => e = .returned (.bool true) ∧ w' = w := by
  go_enter Try.func52, Try.ntmps52
  go_wp2_with fail
  refine wp_loop_rounds 1 ?_
  rw [rounds_succ]
  go_wp2_with fail
  refine wp_loop_rounds 1 ?_
  rw [rounds_succ]
  go_wp2_with fail
  refine wp_loop_rounds 1 ?_
  rw [rounds_succ]
  go_wp2_with fail
  go_ret
  exact ⟨rfl, rfl⟩
abbrev Bk (bv iv : Value) : Array Value := #[bv, nilV, iv, nilV, nilV]
theorem book_cells {w : World} {b : Nat} {bv iv : Value} (h : BookAt w b (Bk bv iv)) : w.cell? ⟨b, 0, none⟩ = some bv ∧ w.cell? ⟨b, 1, none⟩ = some nilV ∧ w.cell? ⟨b, 2, none⟩ = some iv ∧ w.cell? ⟨b, 3, none⟩ = some nilV ∧ w.cell? ⟨b, 4, none⟩ = some nilV := by
  refine ⟨?_, ?_, ?_, ?_, ?_⟩
  · rw [cell_of_row w b 0 _ 64 (0, 0) h]; rfl
  · rw [cell_of_row w b 1 _ 64 (0, 0) h]; rfl
  · rw [cell_of_row w b 2 _ 64 (0, 0) h]; rfl
  · rw [cell_of_row w b 3 _ 64 (0, 0) h]; rfl
  · rw [cell_of_row w b 4 _ 64 (0, 0) h]; rfl
/-- A book with rows of bytes and rows of numbers. -/
structure BkS (w : World) (B b : Nat) (bv iv : Value) (nb ni : Nat) (vb vi : List Value) : Prop where
  book : BookAt w b (Bk bv iv)
  hb : B ≤ b
  rb : w.ownsRow B 44 1 bv nb vb
  ri : w.ownsRow B 67 1 iv ni vi
/-- All stays but books and their rows. -/
structure KT (w w' : World) : Prop where
  size : w.heap.size ≤ w'.heap.size
  keep : ∀ (k : Nat) (cu : Array Value) (t : TypeId) (fr : Nat × Nat), w.heap[k]? = some (.cells cu t fr) → t ≠ 64 → t ≠ 44 → t ≠ 67 → w'.heap[k]? = some (.cells cu t fr)
theorem KT.refl (w : World) : KT w w := ⟨Nat.le_refl _, fun _ _ _ _ h _ _ _ => h⟩
theorem KT.trans {a b c : World} (h : KT a b) (h' : KT b c) : KT a c := ⟨Nat.le_trans h.size h'.size, fun k cu t fr h1 h2 h3 h4 => h'.keep k cu t fr (h.keep k cu t fr h1 h2 h3 h4) h2 h3 h4⟩
theorem KT.below {a b : World} (h : Below a.heap.size a b) : KT a b := ⟨h.size, fun k _ _ _ h1 _ _ _ => (h.block k (Array.getElem?_eq_some_iff.1 h1).1).trans h1⟩
theorem KT.owns {a b : World} (h : KT a b) {B : Nat} {e : TypeId} {s n : Nat} {v : Value} {xs : List Value} (he : e ≠ 64 ∧ e ≠ 44 ∧ e ≠ 67) (ho : a.ownsRow B e s v n xs) : b.ownsRow B e s v n xs := by
  refine ⟨ho.1, ?_⟩
  rcases ho.2 with h1 | ⟨g, cap, cur, h1, h2, h3, h4⟩
  · exact .inl h1
  · exact .inr ⟨g, cap, cur, h1, h2, h.keep g _ _ _ h3 he.1 he.2.1 he.2.2, h4⟩
def TkB (B b : Nat) (_bv iv : Value) (nb ni : Nat) (vb vi : List Value) (a : Option Addr) (m c : Nat) (w w' : World) : Prop := ∃ v', BkS w' B b v' iv (nb + 1) ni (vb ++ [.slice a m c]) vi ∧ KT w w' ∧ Below B w w'
set_option maxRecDepth 100000 in
set_option maxHeartbeats 4000000 in
theorem n47 (B b : Nat) (bv iv : Value) (nb ni : Nat) (vb vi : List Value) (a : Option Addr) (m c : Nat) (w : World) (h : BkS w B b bv iv nb ni vb vi) (hn : (nb + 1) * 24 ≤ 140737488355328) :
    Calls Try.prog 47 #[.pointer (some ⟨b, 0, none⟩), .slice a m c] w fun e w' => e = .returned (.tuple #[]) ∧ TkB B b bv iv nb ni vb vi a m c w w' := by
  obtain ⟨i36, ki, kz, ks, kby⟩ := info44
  have HH : Hid (BkS w B b bv iv nb ni vb vi) := h
  have hblt : b < w.heap.size := (Array.getElem?_eq_some_iff.1 h.book).1
  have hBs : B ≤ w.heap.size := by have := h.hb; omega
  obtain ⟨x0, _, x2, _, _⟩ := book_cells h.book
  obtain ⟨ai, ci, hiv⟩ := rowv_form h.rb
  obtain ⟨ao, co, hov⟩ := rowv_form h.ri
  have HOa : Hid ((w.alloc (.cells #[.slice a m c] 44)).ownsRow B 44 1 bv nb vb) := h.rb.alloc _
  have hbase : B ≤ (w.alloc (.cells #[.slice a m c] 44)).heap.size := by simp; omega
  subst hiv hov
  clear h
  go_enter Try.func47, Try.ntmps47
  go_wp2_with (at_builtin; refine wpList_append_two rfl _ _ 58 rfl B 44 i36 (.slice none 0 0) 1 24 Try.underlying58 ki kz ks kby rfl (by decide) _ _ _ rfl HOa.out ⟨w.heap.size, 0, none⟩ 1 1 [.slice a m c] rfl rfl (cell_one_new _ _ _) (fun u hu => by simp at hu; subst hu; rfl) (by unfold maxLen; omega) (by omega) hbase ?_)
  intro v' w' hown hgr hloc
  have hkeep : ∀ k, k < w.heap.size → (Value.slice ai nb ci).ownBlock ≠ some k → w'.heap[k]? = w.heap[k]? := fun k h1 h2 => (hgr.block k (by simp; omega) (fun e => h2 e.symm)).trans (heap_alloc_old w _ h1)
  have hbk' : BookAt w' b (Bk (.slice ai nb ci) (.slice ao ni co)) := (hkeep b hblt (fun e => book_apartR (by decide) HH.out.book HH.out.rb b e rfl)).trans HH.out.book
  have fz : w'.frozen? ⟨b, 0, none⟩ = false := frozen_of_row w' b 0 _ 64 hbk'
  have HF : Hid (TkB B b (.slice ai nb ci) (.slice ao ni co) nb ni vb vi a m c w (w'.setCell ⟨b, 0, none⟩ v')) := by
    have hsz := hgr.size
    simp at hsz
    have hset : ∀ k, k ≠ b → (w'.setCell ⟨b, 0, none⟩ v').heap[k]? = w'.heap[k]? := fun k hk => heap_setCell_other w' ⟨b, 0, none⟩ k _ hk
    refine ⟨v', ⟨(heap_setCell_same w' b 0 _ 64 v' hbk').trans rfl, HH.out.hb, ?_, ?_⟩, ⟨?_, ?_⟩, ?_⟩
    · exact owns_eq hown fun g hg => hset g (fun e => book_apartR (by decide) hbk' hown g hg e)
    · exact owns_eq HH.out.ri fun g hg => (hset g (fun e => book_apartR (by decide) HH.out.book HH.out.ri g hg e)).trans (hkeep g (HH.out.ri.lt g hg).2 (fun e => types_apart HH.out.ri HH.out.rb (by decide) g hg e))
    · simp; omega
    · intro k cu t fr h1 h2 h3 h4
      have hlt := (Array.getElem?_eq_some_iff.1 h1).1
      have hkb : k ≠ b := by
        rintro rfl
        have h9 := h1.symm.trans HH.out.book
        simp only [Option.some.injEq, Obj.cells.injEq] at h9
        exact h2 h9.2.1
      rw [hset k hkb, hkeep k hlt (fun e => ?_)]
      · exact h1
      · obtain ⟨cu', fr', h5⟩ := owns_typed HH.out.rb k e
        rw [h1] at h5
        simp only [Option.some.injEq, Obj.cells.injEq] at h5
        exact h3 h5.2.1
    · have x1 : Below B w w' := ((Below.refl B w).alloc hBs _).grown hgr hbase (fun g hg => (HOa.out.lt g hg).1)
      exact x1.setCell (p := ⟨b, 0, none⟩) HH.out.hb _
  obtain ⟨a', c', hvf⟩ := rowv_form hown
  have y0 := (book_cells hbk').1
  have y2 := (book_cells hbk').2.2.1
  clear hown hgr hloc hbk' hkeep x0 x2
  subst hvf
  go_wp2_with fail
  go_end0
  exact ⟨rfl, HF.out⟩
def TkI (B b : Nat) (bv _iv : Value) (nb ni : Nat) (vb vi : List Value) (a : Option Addr) (m c : Nat) (w w' : World) : Prop := ∃ v', BkS w' B b bv v' nb (ni + 1) vb (vi ++ [.slice a m c]) ∧ KT w w' ∧ Below B w w'
set_option maxRecDepth 100000 in
set_option maxHeartbeats 4000000 in
theorem n25 (B b : Nat) (bv iv : Value) (nb ni : Nat) (vb vi : List Value) (a : Option Addr) (m c : Nat) (w : World) (h : BkS w B b bv iv nb ni vb vi) (hn : (ni + 1) * 24 ≤ 140737488355328) :
    Calls Try.prog 25 #[.pointer (some ⟨b, 0, none⟩), .slice a m c] w fun e w' => e = .returned (.tuple #[]) ∧ TkI B b bv iv nb ni vb vi a m c w w' := by
  obtain ⟨i36, ki, kz, ks, kby⟩ := info67
  have HH : Hid (BkS w B b bv iv nb ni vb vi) := h
  have hblt : b < w.heap.size := (Array.getElem?_eq_some_iff.1 h.book).1
  have hBs : B ≤ w.heap.size := by have := h.hb; omega
  obtain ⟨x0, _, x2, _, _⟩ := book_cells h.book
  obtain ⟨ai, ci, hiv⟩ := rowv_form h.ri
  obtain ⟨ao, co, hov⟩ := rowv_form h.rb
  have HOa : Hid ((w.alloc (.cells #[.slice a m c] 67)).ownsRow B 67 1 iv ni vi) := h.ri.alloc _
  have hbase : B ≤ (w.alloc (.cells #[.slice a m c] 67)).heap.size := by simp; omega
  subst hiv hov
  clear h
  go_enter Try.func25, Try.ntmps25
  go_wp2_with (at_builtin; refine wpList_append_two rfl _ _ 60 rfl B 67 i36 (.slice none 0 0) 1 24 Try.underlying60 ki kz ks kby rfl (by decide) _ _ _ rfl HOa.out ⟨w.heap.size, 0, none⟩ 1 1 [.slice a m c] rfl rfl (cell_one_new _ _ _) (fun u hu => by simp at hu; subst hu; rfl) (by unfold maxLen; omega) (by omega) hbase ?_)
  intro v' w' hown hgr hloc
  have hkeep : ∀ k, k < w.heap.size → (Value.slice ai ni ci).ownBlock ≠ some k → w'.heap[k]? = w.heap[k]? := fun k h1 h2 => (hgr.block k (by simp; omega) (fun e => h2 e.symm)).trans (heap_alloc_old w _ h1)
  have hbk' : BookAt w' b (Bk (.slice ao nb co) (.slice ai ni ci)) := (hkeep b hblt (fun e => book_apartR (by decide) HH.out.book HH.out.ri b e rfl)).trans HH.out.book
  have fz : w'.frozen? ⟨b, 2, none⟩ = false := frozen_of_row w' b 2 _ 64 hbk'
  have HF : Hid (TkI B b (.slice ao nb co) (.slice ai ni ci) nb ni vb vi a m c w (w'.setCell ⟨b, 2, none⟩ v')) := by
    have hsz := hgr.size
    simp at hsz
    have hset : ∀ k, k ≠ b → (w'.setCell ⟨b, 2, none⟩ v').heap[k]? = w'.heap[k]? := fun k hk => heap_setCell_other w' ⟨b, 2, none⟩ k _ hk
    refine ⟨v', ⟨(heap_setCell_same w' b 2 _ 64 v' hbk').trans rfl, HH.out.hb, ?_, ?_⟩, ⟨?_, ?_⟩, ?_⟩
    · exact owns_eq HH.out.rb fun g hg => (hset g (fun e => book_apartR (by decide) HH.out.book HH.out.rb g hg e)).trans (hkeep g (HH.out.rb.lt g hg).2 (fun e => types_apart HH.out.rb HH.out.ri (by decide) g hg e))
    · exact owns_eq hown fun g hg => hset g (fun e => book_apartR (by decide) hbk' hown g hg e)
    · simp; omega
    · intro k cu t fr h1 h2 h3 h4
      have hlt := (Array.getElem?_eq_some_iff.1 h1).1
      have hkb : k ≠ b := by
        rintro rfl
        have h9 := h1.symm.trans HH.out.book
        simp only [Option.some.injEq, Obj.cells.injEq] at h9
        exact h2 h9.2.1
      rw [hset k hkb, hkeep k hlt (fun e => ?_)]
      · exact h1
      · obtain ⟨cu', fr', h5⟩ := owns_typed HH.out.ri k e
        rw [h1] at h5
        simp only [Option.some.injEq, Obj.cells.injEq] at h5
        exact h4 h5.2.1
    · have x1 : Below B w w' := ((Below.refl B w).alloc hBs _).grown hgr hbase (fun g hg => (HOa.out.lt g hg).1)
      exact x1.setCell (p := ⟨b, 2, none⟩) HH.out.hb _
  obtain ⟨a', c', hvf⟩ := rowv_form hown
  have y0 := (book_cells hbk').1
  have y2 := (book_cells hbk').2.2.1
  clear hown hgr hloc hbk' hkeep x0 x2
  subst hvf
  go_wp2_with fail
  go_end0
  exact ⟨rfl, HF.out⟩
end Go.Proofs.Ythpbfaddojcohaa
