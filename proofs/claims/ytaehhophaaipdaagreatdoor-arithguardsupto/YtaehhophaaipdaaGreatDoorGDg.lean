/- Contracts of the guards' closures that ask of which kind a term is. -/
import Derived.Test.YtaehhophaaipdaaGreatDoorGCg
import Derived.Test.YtaehhophaaipdaaGreatDoorQKg
namespace Go.Proofs.YtaehhophaaipdaaGreatDoor
open Go.RowKit
attribute [local go_sem ↓] Go.wp_at_zero Go.wp_at_succ
/-- The empty cell. -/
abbrev zCells : Array Value := #[.int .u8 0, .string ⟨#[]⟩, .int .i64 0, .int .i64 0, .int .i64 0]
theorem z_cells {w : World} {b : Nat} (h : w.heap[b]? = some (.cells zCells 69 (0, 0))) : w.cell? ⟨b, 0, none⟩ = some (.int .u8 0) ∧ w.cell? ⟨b, 1, none⟩ = some (.string ⟨#[]⟩) ∧ w.cell? ⟨b, 2, none⟩ = some (.int .i64 0) ∧ w.cell? ⟨b, 3, none⟩ = some (.int .i64 0) ∧ w.cell? ⟨b, 4, none⟩ = some (.int .i64 0) ∧ ∀ j, w.frozen? ⟨b, j, none⟩ = false := by
  refine ⟨?_, ?_, ?_, ?_, ?_, fun j => frozen_of_row w b j _ 69 h⟩ <;> rw [cell_of_row w b _ _ 69 (0, 0) h] <;> rfl
theorem gset5 {w : World} {b : Nat} (c : C) (h : w.heap[b]? = some (.cells zCells 69 (0, 0))) : (((((w.setCell ⟨b, 0, none⟩ (.int .u8 c.k)).setCell ⟨b, 1, none⟩ (.string c.t)).setCell ⟨b, 2, none⟩ (.int .i64 c.n)).setCell ⟨b, 3, none⟩ (.int .i64 c.vn)).setCell ⟨b, 4, none⟩ (.int .i64 c.vk)).heap[b]? = some (.cells #[.int .u8 c.k, .string c.t, .int .i64 c.n, .int .i64 c.vn, .int .i64 c.vk] 69 (0, 0)) :=
  heap_setCell_same _ b 4 _ 69 _ (heap_setCell_same _ b 3 _ 69 _ (heap_setCell_same _ b 2 _ 69 _ (heap_setCell_same _ b 1 _ 69 _ (heap_setCell_same _ b 0 _ 69 _ h))))
/-- A cell in a box. -/
def BoxAt (w W : World) (bx : Nat) (c : C) : Prop := W.heap[bx]? = some (.cells #[.int .u8 c.k, .string c.t, .int .i64 c.n, .int .i64 c.vn, .int .i64 c.vk] 69 (0, 0)) ∧ Below w.heap.size w W
theorem BoxAt.cells {w W : World} {bx : Nat} {c : C} (h : BoxAt w W bx c) : W.cell? ⟨bx, 0, none⟩ = some (.int .u8 c.k) ∧ W.cell? ⟨bx, 1, none⟩ = some (.string c.t) ∧ W.cell? ⟨bx, 2, none⟩ = some (.int .i64 c.n) ∧ W.cell? ⟨bx, 3, none⟩ = some (.int .i64 c.vn) ∧ W.cell? ⟨bx, 4, none⟩ = some (.int .i64 c.vk) := by
  refine ⟨?_, ?_, ?_, ?_, ?_⟩ <;> rw [cell_of_row W bx _ _ 69 (0, 0) h.1] <;> rfl
theorem box_new {w w2 : World} (c : C) (h : Below w.heap.size w w2) : BoxAt w (w2.alloc (.cells #[.int .u8 c.k, .string c.t, .int .i64 c.n, .int .i64 c.vn, .int .i64 c.vk] 69)) w2.heap.size c := ⟨heap_alloc_new _ _, h.trans ((below_alloc _ _).mono h.size)⟩
theorem box_set {w w2 : World} (c : C) (h : Below (w.drew.alloc (.cells zCells 69)).heap.size (w.drew.alloc (.cells zCells 69)) w2) : BoxAt w (((((w2.setCell ⟨w.heap.size, 0, none⟩ (.int .u8 c.k)).setCell ⟨w.heap.size, 1, none⟩ (.string c.t)).setCell ⟨w.heap.size, 2, none⟩ (.int .i64 c.n)).setCell ⟨w.heap.size, 3, none⟩ (.int .i64 c.vn)).setCell ⟨w.heap.size, 4, none⟩ (.int .i64 c.vk)) w.heap.size c := by
  have h0 : w2.heap[w.heap.size]? = some (.cells zCells 69 (0, 0)) := (h.block w.heap.size (by rw [World.size_alloc]; exact Nat.lt_succ_self _)).trans (heap_alloc_new w.drew (.cells zCells 69))
  have b0 : Below w.heap.size w (w.drew.alloc (.cells zCells 69)) := Below.alloc (Below.drew (Below.refl _ _)) (Nat.le_refl _) _
  have b1 : Below w.heap.size w w2 := b0.trans (h.mono b0.size)
  exact ⟨gset5 c h0, ((((b1.setCell (Nat.le_refl _) _).setCell (Nat.le_refl _) _).setCell (Nat.le_refl _) _).setCell (Nat.le_refl _) _).setCell (Nat.le_refl _) _⟩
def askO (k : Nat) (e : C) : Int := if e.k = 4 then 3 else outO (kindB k e.k)
def askN (e : C) (names : List Nm) : List Nm := if e.k = 4 then addN names (e.vn, e.vk) else names
set_option maxRecDepth 100000 in
set_option maxHeartbeats 4000000 in
theorem z144_7 (m : Hp) (hm : HpOk m) (w0 : World) (lb : Nat) (p : Option Addr) (B g : Nat) (hp : HpV w0 (.pointer p) m) (c : C) (t : List C) (e : C) (r : List C) (names : List Nm) (K : Nat) (v : Value) (w : World) (bl bf : Nat) (hf : IsFol m t (e :: r)) (hb : Below w0.heap.size w0 w) (hL : Lk w w0.heap.size lb (.pointer p) B g names K) (hT : TermAt w0 v (c :: t)) (hW : ∀ x ∈ t, wfN (x.vn, x.vk)) (ht : t.length * 48 ≤ 140737488355328) (hwe : wfN (e.vn, e.vk)) (hK : K < 999999999) (hbl : w.heap[bl]? = some (.cells #[pv lb] 78 (0, 0))) (hbf : w.heap[bf]? = some (.cells #[.func (Fn.func 116) #[] #[]] 147 (0, 0))) :
    Calls Tryz.prog 144 #[v, pv bl, pv bf] w (GdPost w0 lb (.pointer p) B g (askO 7 e) (askN e names) (K + 1) w) := by
  obtain ⟨b, ob, cap, pp, rfl, hcap, hcm, hpp, HTt⟩ := tail_at hT
  have H15 : Hid (∀ W, Below w.heap.size w W → Calls Tryz.prog 102 #[.pointer p, .slice pp t.length (cap - 1)] W fun e' w' => ∃ b2 o2 cp, e' = .returned (.slice (some ⟨b2, o2, none⟩) (r.length + 1) cp) ∧ w'.cell? ⟨b2, o2, none⟩ = some (.int .u8 e.k) ∧ w'.cell? ⟨b2, o2 + 1, none⟩ = some (.string e.t) ∧ w'.cell? ⟨b2, o2 + 2, none⟩ = some (.int .i64 e.n) ∧ w'.cell? ⟨b2, o2 + 3, none⟩ = some (.int .i64 e.vn) ∧ w'.cell? ⟨b2, o2 + 4, none⟩ = some (.int .i64 e.vk) ∧
      (∀ ob : Obj, (w'.alloc ob).cell? ⟨b2, o2, none⟩ = some (.int .u8 e.k)) ∧ (∀ ob : Obj, (w'.alloc ob).cell? ⟨b2, o2 + 1, none⟩ = some (.string e.t)) ∧ (∀ ob : Obj, (w'.alloc ob).cell? ⟨b2, o2 + 2, none⟩ = some (.int .i64 e.n)) ∧ (∀ ob : Obj, (w'.alloc ob).cell? ⟨b2, o2 + 3, none⟩ = some (.int .i64 e.vn)) ∧ (∀ ob : Obj, (w'.alloc ob).cell? ⟨b2, o2 + 4, none⟩ = some (.int .i64 e.vk)) ∧ Hid (Below W.heap.size W w')) := fun W hWw => by
    have hbW := hb.trans (hWw.mono hb.size)
    refine (h15 m (.pointer p) t _ W (hp.below hbW) (HTt.out.below hbW) hW ht (fun x l h => (hm x l h).2)).mono ?_
    rintro e' w' ⟨u, l', rfl, h1, h2, _, h4⟩
    obtain rfl : l' = e :: r := h2.uniq hf
    obtain ⟨b2, o2, cap2, rfl, _, HC2⟩ := head_cells h1
    obtain ⟨t0, t1, t2, t3, t4⟩ := HC2.out w' (Below.refl _ _)
    have t5 := fun ob : Obj => HC2.out (w'.alloc ob) (below_alloc _ _)
    exact ⟨b2, o2, cap2, rfl, t0, t1, t2, t3, t4, fun ob => (t5 ob).1, fun ob => (t5 ob).2.1, fun ob => (t5 ob).2.2.1, fun ob => (t5 ob).2.2.2.1, fun ob => (t5 ob).2.2.2.2, h4⟩
  have h0l : (0 : Int) < (r.length : Int) + 1 := by omega
  have hge : (1 : Int) ≤ (t.length : Int) + 1 := by omega
  obtain ⟨M0, n0, nv0, hL0, _⟩ := id hL
  have l0 := hL0.cells.1
  have c0 := cell0 hbl
  have c1 := cell0 hbf
  have l1 : ∀ ob : Obj, (w.drew.alloc ob).cell? ⟨lb, 0, none⟩ = some (.pointer p) := fun ob => ((below_alloc w.drew ob).cell (p := ⟨lb, 0, none⟩) (World.block_lt_of_cell? w _ l0)).trans l0
  have c2 : ∀ ob : Obj, (w.drew.alloc ob).cell? ⟨bl, 0, none⟩ = some (pv lb) := fun ob => ((below_alloc w.drew ob).cell (p := ⟨bl, 0, none⟩) (World.block_lt_of_cell? w _ c0)).trans c0
  have l2 : ∀ ob : Obj, (w.alloc ob).cell? ⟨lb, 0, none⟩ = some (.pointer p) := fun ob => ((below_alloc w ob).cell (p := ⟨lb, 0, none⟩) (World.block_lt_of_cell? w _ l0)).trans l0
  have c3 : ∀ ob : Obj, (w.alloc ob).cell? ⟨bl, 0, none⟩ = some (pv lb) := fun ob => ((below_alloc w ob).cell (p := ⟨bl, 0, none⟩) (World.block_lt_of_cell? w _ c0)).trans c0
  have hlb := World.block_lt_of_cell? w _ l0
  have hlbl := World.block_lt_of_cell? w _ c0
  have HLk : Hid (∀ W, Below w.heap.size w W → Lk W w0.heap.size lb (.pointer p) B g names K) := fun W h => hL.below h
  have K92 : ∀ W, Below w.heap.size w W → Calls Tryz.prog 103 #[pv lb, .agg #[.int .i64 e.vn, .int .i64 e.vk]] W fun e' w' => e' = .returned (.int .u8 3) ∧ Hid (Lk w' w0.heap.size lb (.pointer p) B g (addN names (e.vn, e.vk)) (K + 1) ∧ Below w0.heap.size w0 w' ∧ KeepT W w') := fun W h => by
    obtain ⟨M, n, nv, hl, hk1, hk2⟩ := hL.below h
    have hbW := hb.trans (h.mono hb.size)
    refine (h92 w0.heap.size lb _ B g M n nv names (e.vn, e.vk) W hl hwe (by omega) (by omega) hbW.size).mono ?_
    rintro e' w' ⟨he, ⟨n', nv', h1, h2⟩, hb3, hkt⟩
    exact ⟨he, ⟨M, n', nv', h1, by omega, by have := addN_len names (e.vn, e.vk); omega⟩, hbW.trans hb3, hkt⟩
  clear hL0
  go_enter Tryz.func144, Tryz.ntmps144
  go_wp2_with fail
  go_region_with (go_at_call 102; first | (refine (H15.out _ (Below.drew (Below.refl _ _))).mono ?_; rintro e' w2 ⟨b2, o2, cz, rfl, t0, t1, t2, t3, t4, t5, t6, t7, t8, t9, H2⟩; obtain ⟨n0, n1, n2, n3, n4, n5⟩ := z_cells (heap_alloc_new w2 (.cells zCells 69)); have n6 := n5 0; have n7 := n5 1; have n8 := n5 2; have n9 := n5 3; have n10 := n5 4; clear n5) | (refine (H15.out _ (Below.alloc (Below.drew (Below.refl _ _)) (Nat.le_refl _) _)).mono ?_; rintro e' w2 ⟨b2, o2, cz, rfl, t0, t1, t2, t3, t4, t5, t6, t7, t8, t9, H2⟩; obtain ⟨n0, n1, n2, n3, n4, n5⟩ := z_cells ((H2.out.block w.heap.size (by simp)).trans (heap_alloc_new w (.cells zCells 69))); have n6 := n5 0; have n7 := n5 1; have n8 := n5 2; have n9 := n5 3; have n10 := n5 4; clear n5))
  all_goals (
    first
    | (have HX : Hid (BoxAt w (w2.alloc (.cells #[.int .u8 e.k, .string e.t, .int .i64 e.n, .int .i64 e.vn, .int .i64 e.vk] 69)) w2.heap.size e) := box_new e ((Below.drew (Below.refl _ _)).trans H2.out)
       generalize w2.alloc (.cells #[.int .u8 e.k, .string e.t, .int .i64 e.n, .int .i64 e.vn, .int .i64 e.vk] 69) = W' at HX ⊢
       generalize w2.heap.size = bx at HX ⊢
       clear t0 t1 t2 t3 t4 t5 t6 t7 t8 t9 H2)
    | (have HX : Hid (BoxAt w (((((w2.setCell ⟨w.heap.size, 0, none⟩ (.int .u8 e.k)).setCell ⟨w.heap.size, 1, none⟩ (.string e.t)).setCell ⟨w.heap.size, 2, none⟩ (.int .i64 e.n)).setCell ⟨w.heap.size, 3, none⟩ (.int .i64 e.vn)).setCell ⟨w.heap.size, 4, none⟩ (.int .i64 e.vk)) w.heap.size e) := box_set e H2.out
       generalize (((((w2.setCell ⟨w.heap.size, 0, none⟩ (.int .u8 e.k)).setCell ⟨w.heap.size, 1, none⟩ (.string e.t)).setCell ⟨w.heap.size, 2, none⟩ (.int .i64 e.n)).setCell ⟨w.heap.size, 3, none⟩ (.int .i64 e.vn)).setCell ⟨w.heap.size, 4, none⟩ (.int .i64 e.vk)) = W' at HX ⊢
       obtain ⟨bx, hbx⟩ : ∃ bx, bx = w.heap.size := ⟨_, rfl⟩
       rw [← hbx]
       rw [← hbx] at HX
       clear hbx t0 t1 t2 t3 t4 t5 t6 t7 t8 t9 H2)
    clear n0 n1 n2 n3 n4 n6 n7 n8 n9 n10 l1 l2 c2 c3 hlb hlbl l0
    obtain ⟨d0, d1, d2, d3, d4⟩ := HX.out.cells
    have q0 : W'.cell? ⟨bl, 0, none⟩ = some (pv lb) := (HX.out.2.cell (p := ⟨bl, 0, none⟩) (World.block_lt_of_cell? w _ c0)).trans c0
    have q1 : W'.cell? ⟨bf, 0, none⟩ = some (.func (Fn.func 116) #[] #[]) := (HX.out.2.cell (p := ⟨bf, 0, none⟩) (World.block_lt_of_cell? w _ c1)).trans c1
    clear c0 c1
    by_cases h4 : e.k = 4
    · have HE : Hid (askO 7 e = 3 ∧ askN e names = addN names (e.vn, e.vk)) := by
        refine ⟨?_, ?_⟩
        · unfold askO; rw [if_pos h4]
        · unfold askN; rw [if_pos h4]
      have H92 := K92 W' HX.out.2
      have hq : (e.k == 4) = true := by simpa using h4
      clear h4
      go_wp2_with fail
      refine H92.mono ?_
      rintro e3 w3 ⟨rfl, H3⟩
      clear H92
      go_wp2_with fail
      refine bodyPost_ret (v := .int .u8 3) (by simp [results, Tryz.results144, go_sem]) rfl ?_
      rw [HE.out.1, HE.out.2]
      exact ⟨rfl, K + 1, H3.out.1, Nat.le_refl _, H3.out.2.1, (KeepT.of_below HX.out.2).trans H3.out.2.2⟩
    · have HE : Hid (askO 7 e = outO (kindB 7 e.k) ∧ askN e names = names) := by
        refine ⟨?_, ?_⟩
        · unfold askO; rw [if_neg h4]
        · unfold askN; rw [if_neg h4]
      have hq : (e.k == 4) = false := by simpa using h4
      clear h4 K92
      go_wp2_with fail
      refine (z116 e.k W').mono ?_
      rintro e3 w3 ⟨rfl, hw3⟩
      obtain rfl := hw3.symm
      go_wp2_with fail
      refine (z143 (kindB 7 e.k) _).mono ?_
      rintro e3 w3 ⟨rfl, hw3⟩
      obtain rfl := hw3.symm
      go_wp2_with fail
      refine bodyPost_ret (v := .int .u8 (outO (kindB 7 e.k))) (by simp [results, Tryz.results144, go_sem]) rfl ?_
      rw [HE.out.1, HE.out.2]
      obtain ⟨M, n, nv, h1, h2, h3⟩ := HLk.out W' HX.out.2
      exact ⟨rfl, K + 1, ⟨M, n, nv, h1, Nat.le_succ_of_le h2, Nat.le_succ_of_le h3⟩, Nat.le_refl _, hb.trans (HX.out.2.mono hb.size), KeepT.of_below HX.out.2⟩)
set_option maxRecDepth 100000 in
set_option maxHeartbeats 4000000 in
theorem z144_8 (m : Hp) (hm : HpOk m) (w0 : World) (lb : Nat) (p : Option Addr) (B g : Nat) (hp : HpV w0 (.pointer p) m) (c : C) (t : List C) (e : C) (r : List C) (names : List Nm) (K : Nat) (v : Value) (w : World) (bl bf : Nat) (hf : IsFol m t (e :: r)) (hb : Below w0.heap.size w0 w) (hL : Lk w w0.heap.size lb (.pointer p) B g names K) (hT : TermAt w0 v (c :: t)) (hW : ∀ x ∈ t, wfN (x.vn, x.vk)) (ht : t.length * 48 ≤ 140737488355328) (hwe : wfN (e.vn, e.vk)) (hK : K < 999999999) (hbl : w.heap[bl]? = some (.cells #[pv lb] 78 (0, 0))) (hbf : w.heap[bf]? = some (.cells #[.func (Fn.func 117) #[] #[]] 147 (0, 0))) :
    Calls Tryz.prog 144 #[v, pv bl, pv bf] w (GdPost w0 lb (.pointer p) B g (askO 8 e) (askN e names) (K + 1) w) := by
  obtain ⟨b, ob, cap, pp, rfl, hcap, hcm, hpp, HTt⟩ := tail_at hT
  have H15 : Hid (∀ W, Below w.heap.size w W → Calls Tryz.prog 102 #[.pointer p, .slice pp t.length (cap - 1)] W fun e' w' => ∃ b2 o2 cp, e' = .returned (.slice (some ⟨b2, o2, none⟩) (r.length + 1) cp) ∧ w'.cell? ⟨b2, o2, none⟩ = some (.int .u8 e.k) ∧ w'.cell? ⟨b2, o2 + 1, none⟩ = some (.string e.t) ∧ w'.cell? ⟨b2, o2 + 2, none⟩ = some (.int .i64 e.n) ∧ w'.cell? ⟨b2, o2 + 3, none⟩ = some (.int .i64 e.vn) ∧ w'.cell? ⟨b2, o2 + 4, none⟩ = some (.int .i64 e.vk) ∧
      (∀ ob : Obj, (w'.alloc ob).cell? ⟨b2, o2, none⟩ = some (.int .u8 e.k)) ∧ (∀ ob : Obj, (w'.alloc ob).cell? ⟨b2, o2 + 1, none⟩ = some (.string e.t)) ∧ (∀ ob : Obj, (w'.alloc ob).cell? ⟨b2, o2 + 2, none⟩ = some (.int .i64 e.n)) ∧ (∀ ob : Obj, (w'.alloc ob).cell? ⟨b2, o2 + 3, none⟩ = some (.int .i64 e.vn)) ∧ (∀ ob : Obj, (w'.alloc ob).cell? ⟨b2, o2 + 4, none⟩ = some (.int .i64 e.vk)) ∧ Hid (Below W.heap.size W w')) := fun W hWw => by
    have hbW := hb.trans (hWw.mono hb.size)
    refine (h15 m (.pointer p) t _ W (hp.below hbW) (HTt.out.below hbW) hW ht (fun x l h => (hm x l h).2)).mono ?_
    rintro e' w' ⟨u, l', rfl, h1, h2, _, h4⟩
    obtain rfl : l' = e :: r := h2.uniq hf
    obtain ⟨b2, o2, cap2, rfl, _, HC2⟩ := head_cells h1
    obtain ⟨t0, t1, t2, t3, t4⟩ := HC2.out w' (Below.refl _ _)
    have t5 := fun ob : Obj => HC2.out (w'.alloc ob) (below_alloc _ _)
    exact ⟨b2, o2, cap2, rfl, t0, t1, t2, t3, t4, fun ob => (t5 ob).1, fun ob => (t5 ob).2.1, fun ob => (t5 ob).2.2.1, fun ob => (t5 ob).2.2.2.1, fun ob => (t5 ob).2.2.2.2, h4⟩
  have h0l : (0 : Int) < (r.length : Int) + 1 := by omega
  have hge : (1 : Int) ≤ (t.length : Int) + 1 := by omega
  obtain ⟨M0, n0, nv0, hL0, _⟩ := id hL
  have l0 := hL0.cells.1
  have c0 := cell0 hbl
  have c1 := cell0 hbf
  have l1 : ∀ ob : Obj, (w.drew.alloc ob).cell? ⟨lb, 0, none⟩ = some (.pointer p) := fun ob => ((below_alloc w.drew ob).cell (p := ⟨lb, 0, none⟩) (World.block_lt_of_cell? w _ l0)).trans l0
  have c2 : ∀ ob : Obj, (w.drew.alloc ob).cell? ⟨bl, 0, none⟩ = some (pv lb) := fun ob => ((below_alloc w.drew ob).cell (p := ⟨bl, 0, none⟩) (World.block_lt_of_cell? w _ c0)).trans c0
  have l2 : ∀ ob : Obj, (w.alloc ob).cell? ⟨lb, 0, none⟩ = some (.pointer p) := fun ob => ((below_alloc w ob).cell (p := ⟨lb, 0, none⟩) (World.block_lt_of_cell? w _ l0)).trans l0
  have c3 : ∀ ob : Obj, (w.alloc ob).cell? ⟨bl, 0, none⟩ = some (pv lb) := fun ob => ((below_alloc w ob).cell (p := ⟨bl, 0, none⟩) (World.block_lt_of_cell? w _ c0)).trans c0
  have hlb := World.block_lt_of_cell? w _ l0
  have hlbl := World.block_lt_of_cell? w _ c0
  have HLk : Hid (∀ W, Below w.heap.size w W → Lk W w0.heap.size lb (.pointer p) B g names K) := fun W h => hL.below h
  have K92 : ∀ W, Below w.heap.size w W → Calls Tryz.prog 103 #[pv lb, .agg #[.int .i64 e.vn, .int .i64 e.vk]] W fun e' w' => e' = .returned (.int .u8 3) ∧ Hid (Lk w' w0.heap.size lb (.pointer p) B g (addN names (e.vn, e.vk)) (K + 1) ∧ Below w0.heap.size w0 w' ∧ KeepT W w') := fun W h => by
    obtain ⟨M, n, nv, hl, hk1, hk2⟩ := hL.below h
    have hbW := hb.trans (h.mono hb.size)
    refine (h92 w0.heap.size lb _ B g M n nv names (e.vn, e.vk) W hl hwe (by omega) (by omega) hbW.size).mono ?_
    rintro e' w' ⟨he, ⟨n', nv', h1, h2⟩, hb3, hkt⟩
    exact ⟨he, ⟨M, n', nv', h1, by omega, by have := addN_len names (e.vn, e.vk); omega⟩, hbW.trans hb3, hkt⟩
  clear hL0
  go_enter Tryz.func144, Tryz.ntmps144
  go_wp2_with fail
  go_region_with (go_at_call 102; first | (refine (H15.out _ (Below.drew (Below.refl _ _))).mono ?_; rintro e' w2 ⟨b2, o2, cz, rfl, t0, t1, t2, t3, t4, t5, t6, t7, t8, t9, H2⟩; obtain ⟨n0, n1, n2, n3, n4, n5⟩ := z_cells (heap_alloc_new w2 (.cells zCells 69)); have n6 := n5 0; have n7 := n5 1; have n8 := n5 2; have n9 := n5 3; have n10 := n5 4; clear n5) | (refine (H15.out _ (Below.alloc (Below.drew (Below.refl _ _)) (Nat.le_refl _) _)).mono ?_; rintro e' w2 ⟨b2, o2, cz, rfl, t0, t1, t2, t3, t4, t5, t6, t7, t8, t9, H2⟩; obtain ⟨n0, n1, n2, n3, n4, n5⟩ := z_cells ((H2.out.block w.heap.size (by simp)).trans (heap_alloc_new w (.cells zCells 69))); have n6 := n5 0; have n7 := n5 1; have n8 := n5 2; have n9 := n5 3; have n10 := n5 4; clear n5))
  all_goals (
    first
    | (have HX : Hid (BoxAt w (w2.alloc (.cells #[.int .u8 e.k, .string e.t, .int .i64 e.n, .int .i64 e.vn, .int .i64 e.vk] 69)) w2.heap.size e) := box_new e ((Below.drew (Below.refl _ _)).trans H2.out)
       generalize w2.alloc (.cells #[.int .u8 e.k, .string e.t, .int .i64 e.n, .int .i64 e.vn, .int .i64 e.vk] 69) = W' at HX ⊢
       generalize w2.heap.size = bx at HX ⊢
       clear t0 t1 t2 t3 t4 t5 t6 t7 t8 t9 H2)
    | (have HX : Hid (BoxAt w (((((w2.setCell ⟨w.heap.size, 0, none⟩ (.int .u8 e.k)).setCell ⟨w.heap.size, 1, none⟩ (.string e.t)).setCell ⟨w.heap.size, 2, none⟩ (.int .i64 e.n)).setCell ⟨w.heap.size, 3, none⟩ (.int .i64 e.vn)).setCell ⟨w.heap.size, 4, none⟩ (.int .i64 e.vk)) w.heap.size e) := box_set e H2.out
       generalize (((((w2.setCell ⟨w.heap.size, 0, none⟩ (.int .u8 e.k)).setCell ⟨w.heap.size, 1, none⟩ (.string e.t)).setCell ⟨w.heap.size, 2, none⟩ (.int .i64 e.n)).setCell ⟨w.heap.size, 3, none⟩ (.int .i64 e.vn)).setCell ⟨w.heap.size, 4, none⟩ (.int .i64 e.vk)) = W' at HX ⊢
       obtain ⟨bx, hbx⟩ : ∃ bx, bx = w.heap.size := ⟨_, rfl⟩
       rw [← hbx]
       rw [← hbx] at HX
       clear hbx t0 t1 t2 t3 t4 t5 t6 t7 t8 t9 H2)
    clear n0 n1 n2 n3 n4 n6 n7 n8 n9 n10 l1 l2 c2 c3 hlb hlbl l0
    obtain ⟨d0, d1, d2, d3, d4⟩ := HX.out.cells
    have q0 : W'.cell? ⟨bl, 0, none⟩ = some (pv lb) := (HX.out.2.cell (p := ⟨bl, 0, none⟩) (World.block_lt_of_cell? w _ c0)).trans c0
    have q1 : W'.cell? ⟨bf, 0, none⟩ = some (.func (Fn.func 117) #[] #[]) := (HX.out.2.cell (p := ⟨bf, 0, none⟩) (World.block_lt_of_cell? w _ c1)).trans c1
    clear c0 c1
    by_cases h4 : e.k = 4
    · have HE : Hid (askO 8 e = 3 ∧ askN e names = addN names (e.vn, e.vk)) := by
        refine ⟨?_, ?_⟩
        · unfold askO; rw [if_pos h4]
        · unfold askN; rw [if_pos h4]
      have H92 := K92 W' HX.out.2
      have hq : (e.k == 4) = true := by simpa using h4
      clear h4
      go_wp2_with fail
      refine H92.mono ?_
      rintro e3 w3 ⟨rfl, H3⟩
      clear H92
      go_wp2_with fail
      refine bodyPost_ret (v := .int .u8 3) (by simp [results, Tryz.results144, go_sem]) rfl ?_
      rw [HE.out.1, HE.out.2]
      exact ⟨rfl, K + 1, H3.out.1, Nat.le_refl _, H3.out.2.1, (KeepT.of_below HX.out.2).trans H3.out.2.2⟩
    · have HE : Hid (askO 8 e = outO (kindB 8 e.k) ∧ askN e names = names) := by
        refine ⟨?_, ?_⟩
        · unfold askO; rw [if_neg h4]
        · unfold askN; rw [if_neg h4]
      have hq : (e.k == 4) = false := by simpa using h4
      clear h4 K92
      go_wp2_with fail
      refine (z117 e.k W').mono ?_
      rintro e3 w3 ⟨rfl, hw3⟩
      obtain rfl := hw3.symm
      go_wp2_with fail
      refine (z143 (kindB 8 e.k) _).mono ?_
      rintro e3 w3 ⟨rfl, hw3⟩
      obtain rfl := hw3.symm
      go_wp2_with fail
      refine bodyPost_ret (v := .int .u8 (outO (kindB 8 e.k))) (by simp [results, Tryz.results144, go_sem]) rfl ?_
      rw [HE.out.1, HE.out.2]
      obtain ⟨M, n, nv, h1, h2, h3⟩ := HLk.out W' HX.out.2
      exact ⟨rfl, K + 1, ⟨M, n, nv, h1, Nat.le_succ_of_le h2, Nat.le_succ_of_le h3⟩, Nat.le_refl _, hb.trans (HX.out.2.mono hb.size), KeepT.of_below HX.out.2⟩)
end Go.Proofs.YtaehhophaaipdaaGreatDoor
