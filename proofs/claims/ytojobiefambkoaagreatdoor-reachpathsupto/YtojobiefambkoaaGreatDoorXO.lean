/- Contracts of TakeNames and of Alone, of a book that keeps names. -/
import Derived.Test.YtojobiefambkoaaGreatDoorXN
namespace Go.Proofs.YtojobiefambkoaaGreatDoor.Bk
open Go.RowKit
attribute [local go_sem ↓] Go.wp_at_zero Go.wp_at_succ
set_option maxRecDepth 100000 in
theorem b46 (b : Nat) (w : World) (h : w.cell? ⟨b, 0, none⟩ = some (.slice none 0 0)) :
    Calls Tryz.prog 41 #[.pointer (some ⟨b, 0, none⟩)] w fun e w' => e = .returned (.bool true) ∧ w' = w := by
  go_enter Tryz.func41, Tryz.ntmps41
  go_wp2_with fail
  refine wp_loop_rounds 1 ?_
  rw [rounds_succ]
  go_wp2_with fail
  refine wp_loop_rounds 1 ?_
  rw [rounds_succ]
  go_wp2_with fail
  refine wp_loop_rounds 1 ?_
  rw [rounds_succ]
  go_wp2_with fail
  go_ret
  exact ⟨rfl, rfl⟩
set_option maxRecDepth 100000 in
theorem b47 (b : Nat) (w : World) (h : w.cell? ⟨b, 1, none⟩ = some (.slice none 0 0)) :
    Calls Tryz.prog 42 #[.pointer (some ⟨b, 0, none⟩)] w fun e w' => e = .returned (.bool true) ∧ w' = w := by
  go_enter Tryz.func42, Tryz.ntmps42
  go_wp2_with fail
  refine wp_loop_rounds 1 ?_
  rw [rounds_succ]
  go_wp2_with fail
  refine wp_loop_rounds 1 ?_
  rw [rounds_succ]
  go_wp2_with fail
  refine wp_loop_rounds 1 ?_
  rw [rounds_succ]
  go_wp2_with fail
  go_ret
  exact ⟨rfl, rfl⟩
set_option maxRecDepth 100000 in
theorem b48 (b : Nat) (w : World) (h : w.cell? ⟨b, 2, none⟩ = some (.slice none 0 0)) :
    Calls Tryz.prog 43 #[.pointer (some ⟨b, 0, none⟩)] w fun e w' => e = .returned (.bool true) ∧ w' = w := by
  go_enter Tryz.func43, Tryz.ntmps43
  go_wp2_with fail
  refine wp_loop_rounds 1 ?_
  rw [rounds_succ]
  go_wp2_with fail
  refine wp_loop_rounds 1 ?_
  rw [rounds_succ]
  go_wp2_with fail
  refine wp_loop_rounds 1 ?_
  rw [rounds_succ]
  go_wp2_with fail
  go_ret
  exact ⟨rfl, rfl⟩
set_option maxRecDepth 100000 in
theorem b49 (b : Nat) (w : World) (h : w.cell? ⟨b, 3, none⟩ = some (.slice none 0 0)) :
    Calls Tryz.prog 44 #[.pointer (some ⟨b, 0, none⟩)] w fun e w' => e = .returned (.bool true) ∧ w' = w := by
  go_enter Tryz.func44, Tryz.ntmps44
  go_wp2_with fail
  refine wp_loop_rounds 1 ?_
  rw [rounds_succ]
  go_wp2_with fail
  refine wp_loop_rounds 1 ?_
  rw [rounds_succ]
  go_wp2_with fail
  refine wp_loop_rounds 1 ?_
  rw [rounds_succ]
  go_wp2_with fail
  go_ret
  exact ⟨rfl, rfl⟩
abbrev BkA (nv : Value) : Array Value := #[nilV, nilV, nilV, nilV, nv]
/-- A book with rows of names that lie apart. -/
structure BkN (w : World) (B b : Nat) (nv : Value) (vs : List Value) (ns : List Nat) : Prop where
  book : BookAt w b (BkA nv)
  hb : B ≤ b
  row : w.ownsRow B 23 1 nv ns.length vs
  each : ∀ (j : Nat) (v : Value) (n : Nat), vs[j]? = some v → ns[j]? = some n → ∃ zs : List Nm, zs.length = n ∧ OwnZ w B 49 v zs
  apart : ∀ (j j' : Nat) (v v' : Value) (g : Nat), j ≠ j' → vs[j]? = some v → vs[j']? = some v' → v.ownBlock = some g → v'.ownBlock ≠ some g
theorem book_cells {w : World} {b : Nat} {nv : Value} (h : BookAt w b (BkA nv)) : w.cell? ⟨b, 0, none⟩ = some nilV ∧ w.cell? ⟨b, 1, none⟩ = some nilV ∧ w.cell? ⟨b, 2, none⟩ = some nilV ∧ w.cell? ⟨b, 3, none⟩ = some nilV ∧ w.cell? ⟨b, 4, none⟩ = some nv := by
  refine ⟨?_, ?_, ?_, ?_, ?_⟩
  · rw [cell_of_row w b 0 _ 44 (0, 0) h]; rfl
  · rw [cell_of_row w b 1 _ 44 (0, 0) h]; rfl
  · rw [cell_of_row w b 2 _ 44 (0, 0) h]; rfl
  · rw [cell_of_row w b 3 _ 44 (0, 0) h]; rfl
  · rw [cell_of_row w b 4 _ 44 (0, 0) h]; rfl
theorem BkN.lt {w : World} {B b : Nat} {nv : Value} {vs : List Value} {ns : List Nat} (h : BkN w B b nv vs ns) : b < w.heap.size := (Array.getElem?_eq_some_iff.1 h.book).1
theorem BkN.low {w : World} {B b : Nat} {nv : Value} {vs : List Value} {ns : List Nat} (h : BkN w B b nv vs ns) {j : Nat} {v : Value} {g : Nat} (hv : vs[j]? = some v) (hg : v.ownBlock = some g) : g < w.heap.size := by
  have hl : vs.length = ns.length := by have := h.row.1; omega
  have hj : j < ns.length := by rw [← hl]; exact (List.getElem?_eq_some_iff.1 hv).1
  obtain ⟨zs, _, h2⟩ := h.each j v _ hv (List.getElem?_eq_getElem hj)
  exact (h2.1.lt g hg).2
theorem BkN.below {w w' : World} {B b : Nat} {nv : Value} {vs : List Value} {ns : List Nat} (h : BkN w B b nv vs ns) (hb : Below w.heap.size w w') : BkN w' B b nv vs ns := by
  refine ⟨(hb.block b h.lt).trans h.book, h.hb, owns_eq h.row fun g hg => hb.block g (h.row.lt g hg).2, fun j v n hv hn => ?_, h.apart⟩
  obtain ⟨zs, h1, h2⟩ := h.each j v n hv hn
  exact ⟨zs, h1, ints_eq h2 fun g hg => hb.block g (h2.1.lt g hg).2⟩
def Tk (B b : Nat) (vs : List Value) (ns : List Nat) (a : Option Addr) (m c : Nat) (w w' : World) : Prop := ∃ nv', BkN w' B b nv' (vs ++ [.slice a m c]) (ns ++ [m]) ∧ Below B w w' ∧ ∀ k, k < w.heap.size → k ≠ b → (∀ cu fr, w.heap[k]? ≠ some (Obj.cells cu 23 fr)) → w'.heap[k]? = w.heap[k]?
set_option maxRecDepth 100000 in
set_option maxHeartbeats 4000000 in
theorem b17 (B b : Nat) (nv : Value) (vs : List Value) (ns : List Nat) (a : Option Addr) (m c : Nat) (zs : List Nm) (w : World) (h : BkN w B b nv vs ns) (hz : zs.length = m) (ho : OwnZ w B 49 (.slice a m c) zs) (hap : ∀ (j : Nat) (v : Value) (g : Nat), vs[j]? = some v → (Value.slice a m c).ownBlock = some g → v.ownBlock ≠ some g) (hn : (ns.length + 1) * 24 ≤ 140737488355328) :
    Calls Tryz.prog 16 #[.pointer (some ⟨b, 0, none⟩), .slice a m c] w fun e w' => e = .returned (.tuple #[]) ∧ Tk B b vs ns a m c w w' := by
  obtain ⟨i36, ki, kz, ks, kby⟩ := info31
  have HH : Hid (BkN w B b nv vs ns) := h
  have HZ : Hid (zs.length = m ∧ OwnZ w B 49 (.slice a m c) zs ∧ ∀ (j : Nat) (v : Value) (g : Nat), vs[j]? = some v → (Value.slice a m c).ownBlock = some g → v.ownBlock ≠ some g) := ⟨hz, ho, hap⟩
  have hblt : b < w.heap.size := h.lt
  have hBs : B ≤ w.heap.size := by have := h.hb; omega
  obtain ⟨_, _, _, _, x4⟩ := book_cells h.book
  obtain ⟨ai, ci, hiv⟩ := rowv_form h.row
  have HOa : Hid ((w.alloc (.cells #[.slice a m c] 23)).ownsRow B 23 1 nv ns.length vs) := h.row.alloc _
  have hbase : B ≤ (w.alloc (.cells #[.slice a m c] 23)).heap.size := by simp; omega
  subst hiv
  clear h hz ho hap
  go_enter Tryz.func16, Tryz.ntmps16
  go_wp2_with (at_builtin; refine wpList_append_two rfl _ _ 42 rfl B 23 i36 (.slice none 0 0) 1 24 Tryz.underlying42 ki kz ks kby rfl (by decide) _ _ _ rfl HOa.out ⟨w.heap.size, 0, none⟩ 1 1 [.slice a m c] rfl rfl (cell_one_new _ _ _) (fun u hu => by simp at hu; subst hu; rfl) (by unfold maxLen; omega) (by omega) hbase ?_)
  intro v' w' hown hgr hloc
  have hkeep : ∀ k, k < w.heap.size → (Value.slice ai ns.length ci).ownBlock ≠ some k → w'.heap[k]? = w.heap[k]? := fun k h1 h2 => (hgr.block k (by simp; omega) (fun e => h2 e.symm)).trans (heap_alloc_old w _ h1)
  have hbk' : BookAt w' b (BkA (.slice ai ns.length ci)) := (hkeep b hblt (fun e => book_apartR (by decide) HH.out.book HH.out.row b e rfl)).trans HH.out.book
  have fz : w'.frozen? ⟨b, 4, none⟩ = false := frozen_of_row w' b 4 _ 44 hbk'
  have HF : Hid (Tk B b vs ns a m c w (w'.setCell ⟨b, 4, none⟩ v')) := by
    have hset : ∀ k, k ≠ b → (w'.setCell ⟨b, 4, none⟩ v').heap[k]? = w'.heap[k]? := fun k hk => heap_setCell_other w' ⟨b, 4, none⟩ k _ hk
    have hk2 : ∀ {v : Value} {ys : List Nm}, OwnZ w B 49 v ys → OwnZ (w'.setCell ⟨b, 4, none⟩ v') B 49 v ys := fun {v ys} hh => ints_eq hh fun g hg => (hset g (fun e => book_apart (by decide) HH.out.book hh g hg e)).trans (hkeep g (hh.1.lt g hg).2 (fun e => types_apart hh.1 HH.out.row (by decide) g hg e))
    have hvl : vs.length = ns.length := by have := HH.out.row.1; omega
    refine ⟨v', ⟨(heap_setCell_same w' b 4 _ 44 v' hbk').trans rfl, HH.out.hb, ?_, ?_, ?_⟩, ?_, fun k h1 h2 h3 => ?_⟩
    · rw [List.length_append]
      exact owns_eq hown fun g hg => hset g (fun e => book_apartR (by decide) hbk' hown g hg e)
    · intro j v n hv hn'
      by_cases hj : j < vs.length
      · rw [List.getElem?_append_left hj] at hv
        rw [List.getElem?_append_left (by omega)] at hn'
        obtain ⟨ys, h1, h2⟩ := HH.out.each j v n hv hn'
        exact ⟨ys, h1, hk2 h2⟩
      · rw [List.getElem?_append_right (by omega)] at hv
        rw [List.getElem?_append_right (by omega), ← hvl] at hn'
        have h0 : j - vs.length = 0 := by
          have := (List.getElem?_eq_some_iff.1 hv).1
          simp at this; omega
        rw [h0] at hv hn'
        simp at hv hn'
        subst hv hn'
        exact ⟨zs, HZ.out.1, hk2 HZ.out.2.1⟩
    · have hget : ∀ (j : Nat) (u : Value), (vs ++ [.slice a m c])[j]? = some u → vs[j]? = some u ∨ (j = vs.length ∧ u = .slice a m c) := by
        intro j u hu
        by_cases hj : j < vs.length
        · rw [List.getElem?_append_left hj] at hu
          exact .inl hu
        · rw [List.getElem?_append_right (by omega)] at hu
          have h0 : j - vs.length = 0 := by
            have := (List.getElem?_eq_some_iff.1 hu).1
            simp at this; omega
          rw [h0] at hu
          simp at hu
          exact .inr ⟨by omega, hu.symm⟩
      intro j j' v u g hne hv hu hg
      rcases hget j v hv with h1 | ⟨h1, h1'⟩
      · rcases hget j' u hu with h2 | ⟨h2, h2'⟩
        · exact HH.out.apart j j' v u g hne h1 h2 hg
        · rw [h2']
          exact fun e => HZ.out.2.2 j v g h1 e hg
      · rcases hget j' u hu with h2 | ⟨h2, _⟩
        · exact HZ.out.2.2 j' u g h2 (by rw [← h1']; exact hg)
        · omega
    · have x1 : Below B w w' := ((Below.refl B w).alloc hBs _).grown hgr hbase (fun g hg => (HOa.out.lt g hg).1)
      exact x1.setCell (p := ⟨b, 4, none⟩) HH.out.hb _
    · exact (hset k h2).trans (hkeep k h1 fun e => by
        obtain ⟨cu, fr, hc⟩ := owns_typed HH.out.row k e
        exact h3 cu fr hc)
  obtain ⟨a', c', hvf⟩ := rowv_form hown
  have y4 := (book_cells hbk').2.2.2.2
  clear hown hgr hloc hbk' hkeep x4
  subst hvf
  go_wp2_with fail
  go_end0
  exact ⟨rfl, HF.out⟩
theorem BkN.p1 {w : World} {B b : Nat} {nv : Value} {vs : List Value} {ns : List Nat} (h : BkN w B b nv vs ns) : P1 49 23 mkN (BkA nv) w B b nv vs ns 0 0 :=
  ⟨⟨by decide, by decide, by decide⟩, h.book, h.hb, h.row, fun j v n hj => by omega, fun v n hv hn => by
    obtain ⟨zs, h1, h2⟩ := h.each 0 v n hv hn
    exact ⟨zs, by omega, by simpa using h2⟩, fun j v n _ hv hn => h.each j v n hv hn, h.apart⟩
set_option maxRecDepth 100000 in
set_option maxHeartbeats 4000000 in
theorem b20 (B b : Nat) (nv : Value) (vs : List Value) (ns : List Nat) (w : World) (h : BkN w B b nv vs ns) (hl : ns.length * 24 ≤ 140737488355328) (hm : ∀ n ∈ ns, n ≤ 5000000000000) :
    Calls Tryz.prog 17 #[.pointer (some ⟨b, 0, none⟩)] w fun e w' => e = .returned (.bool true) ∧ Below B w w' := by
  have hBb := h.hb
  obtain ⟨c0, c1, c2, c3, _⟩ := book_cells h.book
  have H46 := b46 b w c0
  have H47 := b47 b w c1
  have H48 := b48 b w c2
  have H49 := b49 b w c3
  have H50 := b50 B b (BkA nv) nv vs ns w h.p1 rfl hl hm
  clear h c0 c1 c2 c3 hl hm
  go_enter Tryz.func17, Tryz.ntmps17
  go_wp2_with fail
  refine H46.mono ?_
  rintro e w46 ⟨rfl, hw⟩
  obtain rfl := hw.symm
  clear H46
  go_wp2_with fail
  refine H47.mono ?_
  rintro e w47 ⟨rfl, hw⟩
  obtain rfl := hw.symm
  clear H47
  go_wp2_with fail
  refine H48.mono ?_
  rintro e w48 ⟨rfl, hw⟩
  obtain rfl := hw.symm
  clear H48
  go_wp2_with fail
  refine H49.mono ?_
  rintro e w49 ⟨rfl, hw⟩
  obtain rfl := hw.symm
  clear H49
  go_wp2_with fail
  refine H50.mono ?_
  rintro e w3 ⟨rfl, hbk, hk3⟩
  have HK3 : Hid (Below B w w3) := hk3.below
  have f0 : w3.frozen? ⟨b, 0, none⟩ = false := frozen_of_row w3 b 0 _ 44 hbk
  have f1 : w3.frozen? ⟨b, 1, none⟩ = false := frozen_of_row w3 b 1 _ 44 hbk
  have f2 : w3.frozen? ⟨b, 2, none⟩ = false := frozen_of_row w3 b 2 _ 44 hbk
  have f3 : w3.frozen? ⟨b, 3, none⟩ = false := frozen_of_row w3 b 3 _ 44 hbk
  have f4 : w3.frozen? ⟨b, 4, none⟩ = false := frozen_of_row w3 b 4 _ 44 hbk
  have hbz : b < w3.heap.size := (Array.getElem?_eq_some_iff.1 hbk).1
  obtain ⟨g0, g1, g2, g3, g4⟩ := book_cells hbk
  clear H50 hbk hk3
  go_wp2_with fail
  go_ret
  exact ⟨rfl, by
    refine Below.setCell ?_ (p := ⟨b, _, none⟩) hBb _
    refine Below.setCell ?_ (p := ⟨b, _, none⟩) hBb _
    refine Below.setCell ?_ (p := ⟨b, _, none⟩) hBb _
    refine Below.setCell ?_ (p := ⟨b, _, none⟩) hBb _
    exact HK3.out.setCell (p := ⟨b, _, none⟩) hBb _⟩
end Go.Proofs.YtojobiefambkoaaGreatDoor.Bk
