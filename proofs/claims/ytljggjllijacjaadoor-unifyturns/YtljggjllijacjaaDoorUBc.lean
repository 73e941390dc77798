/- Contracts of TakeCells, TakeTerm and of Alone, of a book that keeps cells. -/
import Derived.Test.YtljggjllijacjaaDoorUBb
namespace Go.Proofs.YtljggjllijacjaaDoor.Bk
open Go.RowKit
attribute [local go_sem ↓] Go.wp_at_zero Go.wp_at_succ
set_option maxRecDepth 100000 in
theorem b26 (b : Nat) (w : World) (h : w.cell? ⟨b, 0, none⟩ = some (.slice none 0 0)) :
    Calls Tryd.prog 26 #[.pointer (some ⟨b, 0, none⟩)] w fun e w' => e = .returned (.bool true) ∧ w' = w := by
  go_enter Tryd.func26, Tryd.ntmps26
  go_wp2_with fail
  refine wp_loop_rounds 1 ?_
  rw [rounds_succ]
  go_wp2_with fail
  refine wp_loop_rounds 1 ?_
  rw [rounds_succ]
  go_wp2_with fail
  refine wp_loop_rounds 1 ?_
  rw [rounds_succ]
  go_wp2_with fail
  go_ret
  exact ⟨rfl, rfl⟩
set_option maxRecDepth 100000 in
theorem b27 (b : Nat) (w : World) (h : w.cell? ⟨b, 1, none⟩ = some (.slice none 0 0)) :
    Calls Tryd.prog 27 #[.pointer (some ⟨b, 0, none⟩)] w fun e w' => e = .returned (.bool true) ∧ w' = w := by
  go_enter Tryd.func27, Tryd.ntmps27
  go_wp2_with fail
  refine wp_loop_rounds 1 ?_
  rw [rounds_succ]
  go_wp2_with fail
  refine wp_loop_rounds 1 ?_
  rw [rounds_succ]
  go_wp2_with fail
  refine wp_loop_rounds 1 ?_
  rw [rounds_succ]
  go_wp2_with fail
  go_ret
  exact ⟨rfl, rfl⟩
set_option maxRecDepth 100000 in
theorem b28 (b : Nat) (w : World) (h : w.cell? ⟨b, 2, none⟩ = some (.slice none 0 0)) :
    Calls Tryd.prog 28 #[.pointer (some ⟨b, 0, none⟩)] w fun e w' => e = .returned (.bool true) ∧ w' = w := by
  go_enter Tryd.func28, Tryd.ntmps28
  go_wp2_with fail
  refine wp_loop_rounds 1 ?_
  rw [rounds_succ]
  go_wp2_with fail
  refine wp_loop_rounds 1 ?_
  rw [rounds_succ]
  go_wp2_with fail
  refine wp_loop_rounds 1 ?_
  rw [rounds_succ]
  go_wp2_with fail
  go_ret
  exact ⟨rfl, rfl⟩
set_option maxRecDepth 100000 in
theorem b30 (b : Nat) (w : World) (h : w.cell? ⟨b, 4, none⟩ = some (.slice none 0 0)) :
    Calls Tryd.prog 30 #[.pointer (some ⟨b, 0, none⟩)] w fun e w' => e = .returned (.bool true) ∧ w' = w := by
  go_enter Tryd.func30, Tryd.ntmps30
  go_wp2_with fail
  refine wp_loop_rounds 1 ?_
  rw [rounds_succ]
  go_wp2_with fail
  refine wp_loop_rounds 1 ?_
  rw [rounds_succ]
  go_wp2_with fail
  refine wp_loop_rounds 1 ?_
  rw [rounds_succ]
  go_wp2_with fail
  go_ret
  exact ⟨rfl, rfl⟩
abbrev BkA (nv : Value) : Array Value := #[nilV, nilV, nilV, nv, nilV]
/-- A book with rows of names that lie apart. -/
structure BkN (w : World) (B b : Nat) (nv : Value) (vs : List Value) (ns : List Nat) : Prop where
  book : BookAt w b (BkA nv)
  hb : B ≤ b
  row : w.ownsRow B 22 1 nv ns.length vs
  each : ∀ (j : Nat) (v : Value) (n : Nat), vs[j]? = some v → ns[j]? = some n → ∃ zs : List C, zs.length = n ∧ OwnZ w B 57 v zs
  apart : ∀ (j j' : Nat) (v v' : Value) (g : Nat), j ≠ j' → vs[j]? = some v → vs[j']? = some v' → v.ownBlock = some g → v'.ownBlock ≠ some g
theorem book_cells {w : World} {b : Nat} {nv : Value} (h : BookAt w b (BkA nv)) : w.cell? ⟨b, 0, none⟩ = some nilV ∧ w.cell? ⟨b, 1, none⟩ = some nilV ∧ w.cell? ⟨b, 2, none⟩ = some nilV ∧ w.cell? ⟨b, 3, none⟩ = some nv ∧ w.cell? ⟨b, 4, none⟩ = some nilV := by
  refine ⟨?_, ?_, ?_, ?_, ?_⟩
  · rw [cell_of_row w b 0 _ 36 (0, 0) h]; rfl
  · rw [cell_of_row w b 1 _ 36 (0, 0) h]; rfl
  · rw [cell_of_row w b 2 _ 36 (0, 0) h]; rfl
  · rw [cell_of_row w b 3 _ 36 (0, 0) h]; rfl
  · rw [cell_of_row w b 4 _ 36 (0, 0) h]; rfl
theorem BkN.lt {w : World} {B b : Nat} {nv : Value} {vs : List Value} {ns : List Nat} (h : BkN w B b nv vs ns) : b < w.heap.size := (Array.getElem?_eq_some_iff.1 h.book).1
theorem BkN.low {w : World} {B b : Nat} {nv : Value} {vs : List Value} {ns : List Nat} (h : BkN w B b nv vs ns) {j : Nat} {v : Value} {g : Nat} (hv : vs[j]? = some v) (hg : v.ownBlock = some g) : g < w.heap.size := by
  have hl : vs.length = ns.length := by have := h.row.1; omega
  have hj : j < ns.length := by rw [← hl]; exact (List.getElem?_eq_some_iff.1 hv).1
  obtain ⟨zs, _, h2⟩ := h.each j v _ hv (List.getElem?_eq_getElem hj)
  exact (h2.1.lt g hg).2
theorem BkN.below {w w' : World} {B b : Nat} {nv : Value} {vs : List Value} {ns : List Nat} (h : BkN w B b nv vs ns) (hb : Below w.heap.size w w') : BkN w' B b nv vs ns := by
  refine ⟨(hb.block b h.lt).trans h.book, h.hb, owns_eq h.row fun g hg => hb.block g (h.row.lt g hg).2, fun j v n hv hn => ?_, h.apart⟩
  obtain ⟨zs, h1, h2⟩ := h.each j v n hv hn
  exact ⟨zs, h1, ints_eq h2 fun g hg => hb.block g (h2.1.lt g hg).2⟩
def Tk (B b : Nat) (vs : List Value) (ns : List Nat) (a : Option Addr) (m c : Nat) (w w' : World) : Prop := ∃ nv', BkN w' B b nv' (vs ++ [.slice a m c]) (ns ++ [m]) ∧ Below B w w' ∧ ∀ k, k < w.heap.size → k ≠ b → (∀ cu fr, w.heap[k]? ≠ some (Obj.cells cu 22 fr)) → w'.heap[k]? = w.heap[k]?
set_option maxRecDepth 100000 in
set_option maxHeartbeats 4000000 in
theorem b25 (B b : Nat) (nv : Value) (vs : List Value) (ns : List Nat) (a : Option Addr) (m c : Nat) (zs : List C) (w : World) (h : BkN w B b nv vs ns) (hz : zs.length = m) (ho : OwnZ w B 57 (.slice a m c) zs) (hap : ∀ (j : Nat) (v : Value) (g : Nat), vs[j]? = some v → (Value.slice a m c).ownBlock = some g → v.ownBlock ≠ some g) (hn : (ns.length + 1) * 24 ≤ 140737488355328) :
    Calls Tryd.prog 25 #[.pointer (some ⟨b, 0, none⟩), .slice a m c] w fun e w' => e = .returned (.tuple #[]) ∧ Tk B b vs ns a m c w w' := by
  obtain ⟨i36, ki, kz, ks, kby⟩ := info22
  have HH : Hid (BkN w B b nv vs ns) := h
  have HZ : Hid (zs.length = m ∧ OwnZ w B 57 (.slice a m c) zs ∧ ∀ (j : Nat) (v : Value) (g : Nat), vs[j]? = some v → (Value.slice a m c).ownBlock = some g → v.ownBlock ≠ some g) := ⟨hz, ho, hap⟩
  have hblt : b < w.heap.size := h.lt
  have hBs : B ≤ w.heap.size := by have := h.hb; omega
  obtain ⟨_, _, _, x4, _⟩ := book_cells h.book
  obtain ⟨ai, ci, hiv⟩ := rowv_form h.row
  have HOa : Hid ((w.alloc (.cells #[.slice a m c] 22)).ownsRow B 22 1 nv ns.length vs) := h.row.alloc _
  have hbase : B ≤ (w.alloc (.cells #[.slice a m c] 22)).heap.size := by simp; omega
  subst hiv
  clear h hz ho hap
  go_enter Tryd.func25, Tryd.ntmps25
  go_wp2_with (at_builtin; refine wpList_append_two rfl _ _ 33 rfl B 22 i36 (.slice none 0 0) 1 24 Tryd.underlying33 ki kz ks kby rfl (by decide) _ _ _ rfl HOa.out ⟨w.heap.size, 0, none⟩ 1 1 [.slice a m c] rfl rfl (cell_one_new _ _ _) (fun u hu => by simp at hu; subst hu; rfl) (by unfold maxLen; omega) (by omega) hbase ?_)
  intro v' w' hown hgr hloc
  have hkeep : ∀ k, k < w.heap.size → (Value.slice ai ns.length ci).ownBlock ≠ some k → w'.heap[k]? = w.heap[k]? := fun k h1 h2 => (hgr.block k (by simp; omega) (fun e => h2 e.symm)).trans (heap_alloc_old w _ h1)
  have hbk' : BookAt w' b (BkA (.slice ai ns.length ci)) := (hkeep b hblt (fun e => book_apartR (by decide) HH.out.book HH.out.row b e rfl)).trans HH.out.book
  have fz : w'.frozen? ⟨b, 3, none⟩ = false := frozen_of_row w' b 3 _ 36 hbk'
  have HF : Hid (Tk B b vs ns a m c w (w'.setCell ⟨b, 3, none⟩ v')) := by
    have hset : ∀ k, k ≠ b → (w'.setCell ⟨b, 3, none⟩ v').heap[k]? = w'.heap[k]? := fun k hk => heap_setCell_other w' ⟨b, 3, none⟩ k _ hk
    have hk2 : ∀ {v : Value} {ys : List C}, OwnZ w B 57 v ys → OwnZ (w'.setCell ⟨b, 3, none⟩ v') B 57 v ys := fun {v ys} hh => ints_eq hh fun g hg => (hset g (fun e => book_apart (by decide) HH.out.book hh g hg e)).trans (hkeep g (hh.1.lt g hg).2 (fun e => types_apart hh.1 HH.out.row (by decide) g hg e))
    have hvl : vs.length = ns.length := by have := HH.out.row.1; omega
    refine ⟨v', ⟨(heap_setCell_same w' b 3 _ 36 v' hbk').trans rfl, HH.out.hb, ?_, ?_, ?_⟩, ?_, ?_⟩
    · rw [List.length_append]
      exact owns_eq hown fun g hg => hset g (fun e => book_apartR (by decide) hbk' hown g hg e)
    · intro j v n hv hn'
      by_cases hj : j < vs.length
      · rw [List.getElem?_append_left hj] at hv
        rw [List.getElem?_append_left (by omega)] at hn'
        obtain ⟨ys, h1, h2⟩ := HH.out.each j v n hv hn'
        exact ⟨ys, h1, hk2 h2⟩
      · rw [List.getElem?_append_right (by omega)] at hv
        rw [List.getElem?_append_right (by omega), ← hvl] at hn'
        have h0 : j - vs.length = 0 := by
          have := (List.getElem?_eq_some_iff.1 hv).1
          simp at this; omega
        rw [h0] at hv hn'
        simp at hv hn'
        subst hv hn'
        exact ⟨zs, HZ.out.1, hk2 HZ.out.2.1⟩
    · have hget : ∀ (j : Nat) (u : Value), (vs ++ [.slice a m c])[j]? = some u → vs[j]? = some u ∨ (j = vs.length ∧ u = .slice a m c) := by
        intro j u hu
        by_cases hj : j < vs.length
        · rw [List.getElem?_append_left hj] at hu
          exact .inl hu
        · rw [List.getElem?_append_right (by omega)] at hu
          have h0 : j - vs.length = 0 := by
            have := (List.getElem?_eq_some_iff.1 hu).1
            simp at this; omega
          rw [h0] at hu
          simp at hu
          exact .inr ⟨by omega, hu.symm⟩
      intro j j' v u g hne hv hu hg
      rcases hget j v hv with h1 | ⟨h1, h1'⟩
      · rcases hget j' u hu with h2 | ⟨h2, h2'⟩
        · exact HH.out.apart j j' v u g hne h1 h2 hg
        · rw [h2']
          exact fun e => HZ.out.2.2 j v g h1 e hg
      · rcases hget j' u hu with h2 | ⟨h2, _⟩
        · exact HZ.out.2.2 j' u g h2 (by rw [← h1']; exact hg)
        · omega
    · have x1 : Below B w w' := ((Below.refl B w).alloc hBs _).grown hgr hbase (fun g hg => (HOa.out.lt g hg).1)
      exact x1.setCell (p := ⟨b, 3, none⟩) HH.out.hb _
    · intro k h1 h2 h3
      refine (hset k h2).trans (hkeep k h1 (fun e => ?_))
      obtain ⟨cu, fr, h4⟩ := owns_typed HH.out.row k e
      exact h3 cu fr h4
  obtain ⟨a', c', hvf⟩ := rowv_form hown
  have y4 := (book_cells hbk').2.2.2.1
  clear hown hgr hloc hbk' hkeep x4
  subst hvf
  go_wp2_with fail
  go_end0
  exact ⟨rfl, HF.out⟩
theorem BkN.p1 {w : World} {B b : Nat} {nv : Value} {vs : List Value} {ns : List Nat} (h : BkN w B b nv vs ns) : P1 57 22 mkN (BkA nv) w B b nv vs ns 0 0 :=
  ⟨⟨by decide, by decide, by decide⟩, h.book, h.hb, h.row, fun j v n hj => by omega, fun v n hv hn => by
    obtain ⟨zs, h1, h2⟩ := h.each 0 v n hv hn
    exact ⟨zs, by omega, by simpa using h2⟩, fun j v n _ hv hn => h.each j v n hv hn, h.apart⟩
set_option maxRecDepth 100000 in
set_option maxHeartbeats 4000000 in
theorem b11 (B b : Nat) (nv : Value) (vs : List Value) (ns : List Nat) (w : World) (h : BkN w B b nv vs ns) (hl : ns.length * 24 ≤ 140737488355328) (hm : ∀ n ∈ ns, n ≤ 2500000000000) :
    Calls Tryd.prog 11 #[.pointer (some ⟨b, 0, none⟩)] w fun e w' => e = .returned (.bool true) ∧ Below B w w' := by
  have hBb := h.hb
  obtain ⟨c0, c1, c2, _, c4⟩ := book_cells h.book
  have H26 := b26 b w c0
  have H27 := b27 b w c1
  have H28 := b28 b w c2
  have H30 := fun (w : World) (hw : w.cell? ⟨b, 4, none⟩ = some (.slice none 0 0)) => b30 b w hw
  have H29 := b29 B b (BkA nv) nv vs ns w h.p1 rfl hl hm
  clear h c0 c1 c2 c4 hl hm
  go_enter Tryd.func11, Tryd.ntmps11
  go_wp2_with fail
  refine H26.mono ?_
  rintro e w26 ⟨rfl, hw⟩
  obtain rfl := hw.symm
  clear H26
  go_wp2_with fail
  refine H27.mono ?_
  rintro e w27 ⟨rfl, hw⟩
  obtain rfl := hw.symm
  clear H27
  go_wp2_with fail
  refine H28.mono ?_
  rintro e w28 ⟨rfl, hw⟩
  obtain rfl := hw.symm
  clear H28
  go_wp2_with fail
  refine H29.mono ?_
  rintro e w3 ⟨rfl, hbk, hk3⟩
  have HK3 : Hid (Below B w w3) := hk3.below
  have HBK : Hid (BookAt w3 b (BkA nv)) := hbk
  clear H29 hk3
  go_wp2_with fail
  refine (H30 _ (book_cells HBK.out).2.2.2.2).mono ?_
  rintro e w30 ⟨rfl, hw⟩
  obtain rfl := hw.symm
  clear H30
  have f0 : w3.frozen? ⟨b, 0, none⟩ = false := frozen_of_row w3 b 0 _ 36 hbk
  have f1 : w3.frozen? ⟨b, 1, none⟩ = false := frozen_of_row w3 b 1 _ 36 hbk
  have f2 : w3.frozen? ⟨b, 2, none⟩ = false := frozen_of_row w3 b 2 _ 36 hbk
  have f3 : w3.frozen? ⟨b, 3, none⟩ = false := frozen_of_row w3 b 3 _ 36 hbk
  have f4 : w3.frozen? ⟨b, 4, none⟩ = false := frozen_of_row w3 b 4 _ 36 hbk
  have hbz : b < w3.heap.size := (Array.getElem?_eq_some_iff.1 hbk).1
  obtain ⟨g0, g1, g2, g3, g4⟩ := book_cells hbk
  clear hbk
  go_wp2_with fail
  go_ret
  exact ⟨rfl, by
    refine Below.setCell ?_ (p := ⟨b, _, none⟩) hBb _
    refine Below.setCell ?_ (p := ⟨b, _, none⟩) hBb _
    refine Below.setCell ?_ (p := ⟨b, _, none⟩) hBb _
    refine Below.setCell ?_ (p := ⟨b, _, none⟩) hBb _
    exact HK3.out.setCell (p := ⟨b, _, none⟩) hBb _⟩
set_option maxRecDepth 100000 in
theorem b10 (B b : Nat) (nv : Value) (vs : List Value) (ns : List Nat) (a : Option Addr) (m c : Nat) (zs : List C) (w : World) (h : BkN w B b nv vs ns) (hz : zs.length = m) (ho : OwnZ w B 57 (.slice a m c) zs) (hap : ∀ (j : Nat) (v : Value) (g : Nat), vs[j]? = some v → (Value.slice a m c).ownBlock = some g → v.ownBlock ≠ some g) (hn : (ns.length + 1) * 24 ≤ 140737488355328) :
    Calls Tryd.prog 10 #[.pointer (some ⟨b, 0, none⟩), .slice a m c] w fun e w' => e = .returned (.tuple #[]) ∧ Tk B b vs ns a m c w w' := by
  have H25 := b25 B b nv vs ns a m c zs w h hz ho hap hn
  clear h ho hap hz
  go_enter Tryd.func10, Tryd.ntmps10
  go_wp2_with fail
  refine H25.mono ?_
  rintro e w1 ⟨rfl, h1⟩
  have HT : Hid (Tk B b vs ns a m c w w1) := h1
  clear h1 H25
  go_wp2_with fail
  go_end0
  exact ⟨rfl, HT.out⟩
end Go.Proofs.YtljggjllijacjaaDoor.Bk
