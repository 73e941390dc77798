/- Contract of Deliver. -/
import Derived.Test.YthpbfaddojcohaaNI
namespace Go.Proofs.Ythpbfaddojcohaa
open Go.RowKit
attribute [local go_sem ↓] Go.wp_at_zero Go.wp_at_succ
theorem NtAt.setd {w : World} {nb B : Nat} {v : Value} {N : Nt} (h : NtAt w nb B v N) (q : Int) : NtAt (w.setCell ⟨nb, 2, none⟩ (.int .i64 q)) nb B v { N with d := q } :=
  ⟨by rw [heap_setCell_same w nb 2 _ 77 _ h.blk]; rfl, owns_setO h.own _ (row_not_net h.own h.blk)⟩
theorem NtAt.setr {w : World} {nb B : Nat} {v : Value} {N : Nt} (h : NtAt w nb B v N) (q : Int) : NtAt (w.setCell ⟨nb, 3, none⟩ (.int .i64 q)) nb B v { N with r := q } :=
  ⟨by rw [heap_setCell_same w nb 3 _ 77 _ h.blk]; rfl, owns_setO h.own _ (row_not_net h.own h.blk)⟩
theorem NtAt.setx {w : World} {nb B : Nat} {v : Value} {N : Nt} (h : NtAt w nb B v N) (q : Int) : NtAt (w.setCell ⟨nb, 4, none⟩ (.int .i64 q)) nb B v { N with x := q } :=
  ⟨by rw [heap_setCell_same w nb 4 _ 77 _ h.blk]; rfl, owns_setO h.own _ (row_not_net h.own h.blk)⟩
theorem OwnB.at {w : World} {B : Nat} {ba : Option Addr} {bn bc : Nat} {xs : List Int} (h : OwnB w B ba bn bc xs) : ByAt w ba bn bc xs := by
  have hl : xs.length = bn := by have := h.1; rw [u8s_len] at this; omega
  refine ⟨hl, ?_⟩
  rcases h.2 with ⟨e, h0⟩ | ⟨g, cap, cur, e, h2, h3, h4, h5, h6, h7⟩
  · simp only [Value.slice.injEq] at e
    exact .inl e
  · simp only [Value.slice.injEq] at e
    obtain ⟨rfl, _, rfl⟩ := e
    refine .inr (.inr ⟨g, 0, rfl, (Array.getElem?_eq_some_iff.1 h3).1, fun j u hu => ?_⟩)
    rw [Nat.zero_add, cell_of_row w g j _ 5 (0, 0) h3]
    have hj : j < bn * 1 := by
      have := (List.getElem?_eq_some_iff.1 hu).1
      rw [h.1] at this; exact this
    rw [← h7, List.getElem?_take_of_lt hj] at hu
    simpa using hu
theorem NtC.from {w w' : World} {nb B : Nat} {v v' : Value} {N N' : Nt} {cs : List Dc} (h : NtC w nb B v N cs) (hN : NtAt w' nb B v' N') (hl : N'.l = N.l) (hk : KeepN nb v w w') : NtC w' nb B v' N' cs :=
  ⟨hN, by rw [hl]; exact h.own.keep h.at_ hk⟩
def restC (k : Nat) (cs : List Dc) : List Dc := cs.take k ++ cs.drop (k + 1)
theorem OwnL.rest {w : World} {B k : Nat} {l : List Dg} {cs : List Dc} (h : OwnL w B l cs) : OwnL w B (rest k l) (restC k cs) := by
  have e := h.1
  refine ⟨by simp [Ythpbfaddojcohaa.rest, restC, e], fun i d x h1 h2 => ?_⟩
  unfold Ythpbfaddojcohaa.rest at h1
  unfold restC at h2
  by_cases hi : i < (l.take k).length
  · rw [List.getElem?_append_left hi] at h1
    rw [List.getElem?_append_left (by simp at hi ⊢; omega)] at h2
    have hik : i < k := by simp at hi; omega
    rw [List.getElem?_take_of_lt hik] at h1 h2
    exact h.2 i d x h1 h2
  · rw [List.getElem?_append_right (by omega), List.getElem?_drop] at h1
    rw [List.getElem?_append_right (by simp at hi ⊢; omega), List.getElem?_drop] at h2
    have hh : (l.take k).length = (cs.take k).length := by simp [e]
    rw [← hh] at h2
    exact h.2 _ d x h1 h2
theorem owns_some {w : World} {B m : Nat} {v : Value} {xs : List Value} (h : w.ownsRow B 46 5 v (m + 1) xs) : ∃ g cap, v = .slice (some ⟨g, 0, none⟩) (m + 1) cap := by
  rcases h.2 with ⟨_, e⟩ | ⟨g, cap, cur, e, _⟩
  · omega
  · exact ⟨g, cap, e⟩
/-- How a network stands from which one was taken. -/
def TakePost (nb B : Nat) (v : Value) (N : Nt) (cs : List Dc) (w w' : World) : Prop := ∃ v' l', NtC w' nb B v' { N with l := l' } cs ∧ FromN nb v w v' w'
theorem FromN.set {nb A : Nat} {v0 v1 : Value} {w w1 : World} (h : FromN nb v0 w v1 w1) (hA : w.heap.size ≤ A) (j : Nat) (u : Value) : FromN nb v0 w v1 (w1.setCell ⟨A, j, none⟩ u) :=
  ⟨⟨h.keep.os, h.keep.tape, h.keep.output, by have := h.keep.size; simp; omega, fun k hk h1 h2 => (heap_setCell_other _ _ _ _ (by show k ≠ A; omega)).trans (h.keep.block k hk h1 h2)⟩, h.own⟩
theorem NtC.setFar {w : World} {nb B A : Nat} {v : Value} {N : Nt} {cs : List Dc} {cu : Array Value} (h : NtC w nb B v N cs) (hA : w.heap[A]? = some (.cells cu 46 (0, 0))) (hne : v.ownBlock ≠ some A) (j : Nat) (u : Value) : NtC (w.setCell ⟨A, j, none⟩ u) nb B v N cs := by
  have hn : nb ≠ A := by intro e; rw [← e, h.at_.blk] at hA; cases hA
  refine ⟨⟨by rw [heap_setCell_other _ _ _ _ (by simpa using hn)]; exact h.at_.blk, owns_setO h.at_.own _ hne⟩, h.own.1, fun i d x h1 h2 => ⟨(h.own.2 i d x h1 h2).1, ?_⟩⟩
  have ho := (h.own.2 i d x h1 h2).2
  refine owns_setO ho _ ?_
  rcases ho.2 with ⟨e, _⟩ | ⟨g, cap, cur, e, _, h3, _⟩
  · rw [e]; simp [Value.ownBlock]
  · rw [e]; intro e2; simp only [Value.ownBlock, Option.some.injEq] at e2
    rw [e2, hA] at h3; cases h3
set_option maxRecDepth 100000 in
set_option maxHeartbeats 1000000 in
theorem n17_no (nb B : Nat) (v : Value) (N : Nt) (k : Int) (w : World) (h : NtAt w nb B v N) (hk : hasN N.l.length k = false) :
    Calls Try.prog 17 #[.pointer (some ⟨nb, 0, none⟩), .int .i64 k] w fun e w' => e = .returned (.tuple #[.agg #[.int .i64 0, .int .i64 0, .bool false, .int .i64 0, .slice none 0 0], .int .i64 4]) ∧ Below w.heap.size w w' := by
  have hb0 : Below w.heap.size w (w.alloc (.cells #[.int .i64 0, .int .i64 0, .bool false, .int .i64 0, .slice none 0 0] 46)) := (Below.refl _ w).alloc (Nat.le_refl _) _
  have H44 := n44 nb B v N k _ (h.below hb0)
  rw [hk, if_neg (by simp)] at H44
  clear h hk hb0
  go_enter Try.func17, Try.ntmps17
  go_wp2_with fail
  refine H44.mono ?_
  rintro e w1 ⟨rfl, hw⟩
  obtain rfl := hw.symm
  go_wp2_with fail
  refine bodyPost_ret (v := .tuple #[.agg #[.int .i64 0, .int .i64 0, .bool false, .int .i64 0, .slice none 0 0], .int .i64 4]) (by simp [results, Try.results17, go_sem]) rfl ⟨rfl, ?_⟩
  repeat (first | exact Below.refl _ _ | refine Below.alloc ?_ (by simp) _ | refine Below.setCell ?_ (by simp) _)
set_option maxRecDepth 100000 in
set_option maxHeartbeats 1000000 in
theorem n17 (nb B : Nat) (v : Value) (N : Nt) (cs : List Dc) (k : Nat) (x : Dc) (w : World) (h : NtC w nb B v N cs) (hk : k < N.l.length) (hx : cs[k]? = some x) (hd0 : 0 ≤ N.d) (hd1 : N.d ≤ 1000000000000) (hxl : x.xs.length ≤ 140737488355328) :
    Calls Try.prog 17 #[.pointer (some ⟨nb, 0, none⟩), .int .i64 k] w fun e w' => ∃ d, e = .returned (.tuple #[.agg d.box, .int .i64 0]) ∧ OwnD w' w.heap.size d x ∧ TakePost nb B v { N with d := N.d + 1 } (restC k cs) w w' := by
  obtain ⟨m, hm⟩ : ∃ m, N.l.length = m + 1 := ⟨N.l.length - 1, by omega⟩
  have hown := h.at_.own
  rw [hm] at hown
  obtain ⟨g, cap, hv⟩ := owns_some hown
  subst hv
  clear hown
  obtain ⟨W0, hW0⟩ : ∃ W0, W0 = w.alloc (.cells #[.int .i64 0, .int .i64 0, .bool false, .int .i64 0, .slice none 0 0] 46) := ⟨_, rfl⟩
  have hb0 : Below w.heap.size w W0 := by rw [hW0]; exact (Below.refl _ w).alloc (Nat.le_refl _) _
  have h0 := h.below hb0
  have H44 := n44 nb B _ N k _ h0.at_
  rw [show hasN N.l.length k = true by simp [hasN]; omega, if_pos rfl] at H44
  have hd := h0.at_.cells.2.2.1
  have hfz := h0.at_.frozen 2
  have h1 : NtC (W0.setCell ⟨nb, 2, none⟩ (.int .i64 (N.d + 1))) nb B (.slice (some ⟨g, 0, none⟩) (m + 1) cap) { N with d := N.d + 1 } cs := h0.from (h0.at_.setd (N.d + 1)) rfl (keepN_set _ _ nb 2 _)
  have hF1 : FromN nb (.slice (some ⟨g, 0, none⟩) (m + 1) cap) w (.slice (some ⟨g, 0, none⟩) (m + 1) cap) (W0.setCell ⟨nb, 2, none⟩ (.int .i64 (N.d + 1))) := ((FromN.refl nb _ w).below hb0).trans ⟨keepN_set _ _ nb 2 _, fun _ e => .inl e⟩
  obtain ⟨⟨fr, to, ak, sq, ba, bn, bc⟩, hdn⟩ : ∃ d, N.l[k] = d := ⟨_, rfl⟩
  have H45 : Calls Try.prog 45 #[.pointer (some ⟨nb, 0, none⟩), .int .i64 k] (W0.setCell ⟨nb, 2, none⟩ (.int .i64 (N.d + 1))) fun e w' => e = .returned (.agg #[.int .i64 fr, .int .i64 to, .bool ak, .int .i64 sq, .slice ba bn bc]) ∧ OutPost nb B (.slice (some ⟨g, 0, none⟩) (m + 1) cap) { N with d := N.d + 1, l := rest k N.l } (W0.setCell ⟨nb, 2, none⟩ (.int .i64 (N.d + 1))) w' := by
    have hh := n45 nb B g cap m k { N with d := N.d + 1 } _ h1.at_ hm (by omega)
    rw [show (({ N with d := N.d + 1 } : Nt).l[k]'(by show k < N.l.length; omega)) = ⟨fr, to, ak, sq, ba, bn, bc⟩ from hdn] at hh
    exact hh
  have hD := h1.own.2 k ⟨fr, to, ak, sq, ba, bn, bc⟩ x (by rw [← hdn]; exact List.getElem?_eq_getElem hk) hx
  have HD : Hid (OwnD (W0.setCell ⟨nb, 2, none⟩ (.int .i64 (N.d + 1))) B ⟨fr, to, ak, sq, ba, bn, bc⟩ x) := hD
  have H1 : Hid (NtC (W0.setCell ⟨nb, 2, none⟩ (.int .i64 (N.d + 1))) nb B (.slice (some ⟨g, 0, none⟩) (m + 1) cap) { N with d := N.d + 1 } cs) := h1
  have HF1 : Hid (FromN nb (.slice (some ⟨g, 0, none⟩) (m + 1) cap) w (.slice (some ⟨g, 0, none⟩) (m + 1) cap) (W0.setCell ⟨nb, 2, none⟩ (.int .i64 (N.d + 1)))) := hF1
  have hlt := h.at_.lt
  have hR0 : (W0.setCell ⟨nb, 2, none⟩ (.int .i64 (N.d + 1))).heap[w.heap.size]? = some (.cells #[.int .i64 0, .int .i64 0, .bool false, .int .i64 0, .slice none 0 0] 46 (0, 0)) := by
    rw [heap_setCell_other _ _ _ _ (by show w.heap.size ≠ nb; omega), hW0]; exact heap_alloc_new w _
  have HR0 : Hid (_ ∧ g < w.heap.size) := ⟨hR0, (owns_lt h.at_.own rfl).2⟩
  clear h h0 h1 hF1 hD hb0 hx hR0 hdn
  go_enter Try.func17, Try.ntmps17
  go_wp2_with fail
  rw [hW0] at H44
  refine H44.mono ?_
  rw [← hW0]
  rintro e w1 ⟨rfl, hw⟩
  obtain rfl := hw.symm
  clear H44 hW0
  go_wp2_with fail
  refine H45.mono ?_
  rintro e w2 ⟨rfl, v2, hN2, hF2, hv2⟩
  clear H45 hd hfz
  generalize hWn : W0.setCell ⟨nb, 2, none⟩ (.int .i64 (N.d + 1)) = W at *
  have hN2c : NtC w2 nb B v2 { N with d := N.d + 1, l := rest k N.l } (restC k cs) := ⟨hN2, (H1.out.own.keep H1.out.at_ hF2.keep).rest⟩
  have hB2 := HD.out.2.keep H1.out.at_ hF2.keep
  have H41 : Calls Try.prog 41 #[.agg #[.int .i64 fr, .int .i64 to, .bool ak, .int .i64 sq, .slice ba bn bc]] w2 fun e w' => ∃ a c, e = .returned (.agg #[.int .i64 fr, .int .i64 to, .bool ak, .int .i64 sq, .slice a bn c]) ∧ OwnB w' w2.heap.size a bn c x.xs ∧ (ba = none → a = none ∧ c = 0) ∧ Below w2.heap.size w2 w' := n41 ⟨fr, to, ak, sq, ba, bn, bc⟩ x.xs w2 hB2.at (by rw [HD.out.1.2.2.2.2]; exact hxl)
  go_wp2_with fail
  refine H41.mono ?_
  rintro e w3 ⟨a3, c3, rfl, ho3, _, hb3⟩
  have hR3 : w3.heap[w.heap.size]? = some (.cells #[.int .i64 0, .int .i64 0, .bool false, .int .i64 0, .slice none 0 0] 46 (0, 0)) := by
    have hWs : w.heap.size < W.heap.size := (Array.getElem?_eq_some_iff.1 HR0.out.1).1
    have hne : (Value.slice (some ⟨g, 0, none⟩) (m + 1) cap).ownBlock ≠ some w.heap.size := by
      have := HR0.out.2; simp [Value.ownBlock]; omega
    refine (hb3.block _ (Nat.lt_of_lt_of_le hWs hF2.keep.size)).trans ((hF2.keep.block _ hWs (by omega) hne).trans HR0.out.1)
  have hv2n : v2.ownBlock ≠ some w.heap.size := by
    rw [hv2]
    have := HR0.out.2; simp [Value.ownBlock]; omega
  obtain ⟨A, hAn⟩ : ∃ A, A = w.heap.size := ⟨_, rfl⟩
  rw [← hAn] at hR3 hv2n
  have c0 : w3.cell? ⟨A, 0, none⟩ = some (.int .i64 0) := by rw [cell_of_row w3 A 0 _ 46 (0, 0) hR3]; rfl
  have c1 : w3.cell? ⟨A, 1, none⟩ = some (.int .i64 0) := by rw [cell_of_row w3 A 1 _ 46 (0, 0) hR3]; rfl
  have c2 : w3.cell? ⟨A, 2, none⟩ = some (.bool false) := by rw [cell_of_row w3 A 2 _ 46 (0, 0) hR3]; rfl
  have c3' : w3.cell? ⟨A, 3, none⟩ = some (.int .i64 0) := by rw [cell_of_row w3 A 3 _ 46 (0, 0) hR3]; rfl
  have c4 : w3.cell? ⟨A, 4, none⟩ = some (.slice none 0 0) := by rw [cell_of_row w3 A 4 _ 46 (0, 0) hR3]; rfl
  have g0 : w3.frozen? ⟨A, 0, none⟩ = false := frozen_of_row w3 A 0 _ 46 hR3
  have g1 : w3.frozen? ⟨A, 1, none⟩ = false := frozen_of_row w3 A 1 _ 46 hR3
  have g2 : w3.frozen? ⟨A, 2, none⟩ = false := frozen_of_row w3 A 2 _ 46 hR3
  have g3 : w3.frozen? ⟨A, 3, none⟩ = false := frozen_of_row w3 A 3 _ 46 hR3
  have g4 : w3.frozen? ⟨A, 4, none⟩ = false := frozen_of_row w3 A 4 _ 46 hR3
  have HN3 : Hid (NtC w3 nb B v2 { N with d := N.d + 1, l := rest k N.l } (restC k cs)) := hN2c.below hb3
  have HF3 : Hid (FromN nb (.slice (some ⟨g, 0, none⟩) (m + 1) cap) w v2 w3) := (HF1.out.trans hF2).below hb3
  have HO3 : Hid (OwnB w3 w2.heap.size a3 bn c3 x.xs ∧ A < w2.heap.size) := ⟨ho3, by
    have hWs : w.heap.size < W.heap.size := (Array.getElem?_eq_some_iff.1 HR0.out.1).1
    have := hF2.keep.size; omega⟩
  have HDI : Hid (DgIs ⟨fr, to, ak, sq, ba, bn, bc⟩ x) := HD.out.1
  have HR3 : Hid (w3.heap[A]? = some (.cells #[.int .i64 0, .int .i64 0, .bool false, .int .i64 0, .slice none 0 0] 46 (0, 0)) ∧ v2.ownBlock ≠ some A) := ⟨hR3, hv2n⟩
  clear hR3 hv2n ho3 hb3 hN2 hN2c hF2 hv2 H1 HF1 HD HR0 H41 hB2 hWn
  subst hAn
  go_wp2_with fail
  refine bodyPost_ret (v := .tuple #[.agg #[.int .i64 fr, .int .i64 to, .bool ak, .int .i64 sq, .slice a3 bn c3], .int .i64 0]) (by simp [results, Try.results17, go_sem, c0, c1, c2, c3', c4]) rfl ⟨⟨fr, to, ak, sq, a3, bn, c3⟩, rfl, ?_, ?_⟩
  · have h1 := HO3.out.2
    exact ⟨HDI.out, owns_base (owns_set (owns_set (owns_set (owns_set (owns_set HO3.out.1 _ h1) _ h1) _ h1) _ h1) _ h1) (by omega)⟩
  · have hle := Nat.le_refl w.heap.size
    refine ⟨v2, rest k N.l, ?_, ((((HF3.out.set hle _ _).set hle _ _).set hle _ _).set hle _ _).set hle _ _⟩
    have e1 := HR3.out.1
    have e2 := heap_setCell_same w3 w.heap.size 0 _ 46 (.int .i64 fr) e1
    have e3 := heap_setCell_same _ w.heap.size 1 _ 46 (.int .i64 to) e2
    have e4 := heap_setCell_same _ w.heap.size 2 _ 46 (.bool ak) e3
    have e5 := heap_setCell_same _ w.heap.size 3 _ 46 (.int .i64 sq) e4
    exact ((((HN3.out.setFar e1 HR3.out.2 _ _).setFar e2 HR3.out.2 _ _).setFar e3 HR3.out.2 _ _).setFar e4 HR3.out.2 _ _).setFar e5 HR3.out.2 _ _
end Go.Proofs.Ythpbfaddojcohaa
