/- Contracts of lookBy and Value. Contracts of the order of names: Compare, Or, Names, Less. Contract of Bind. The fixed term of live: its sums. Contract of live. Contract of the statement on division: for every two numbers it returns true. -/
import Derived.Test.YteikdgjlhdgapaaDoorQ16
import Derived.Test.YteikdgjlhdgapaaDoorQ10
import Derived.BigQuiet
import Derived.Test.YteikdgjlhdgapaaDoorQ1
import Derived.Deep.RegionHeld3
import Derived.Below
import Derived.Test.YteikdgjlhdgapaaDoorQ15
import Derived.Test.YteikdgjlhdgapaaDoorQ11
namespace Go.Proofs.YteikdgjlhdgapaaDoor
open Go.RowKit
attribute [local go_sem ↓] Go.wp_at_zero Go.wp_at_succ
theorem Lk.made (w : World) (p : Value) (B g base : Nat) (ho : OpsAt w B g) (hb : base ≤ w.heap.size) : Lk ((w.alloc (.map #[] 0)).alloc (.cells #[p, .slice (some ⟨g, 0, none⟩) 8 8, .slice none 0 0, .map (some w.heap.size)] 97)) base (w.heap.size + 1) p B g [] 0 := by
  have hB : Below w.heap.size w ((w.alloc (.map #[] 0)).alloc (.cells #[p, .slice (some ⟨g, 0, none⟩) 8 8, .slice none 0 0, .map (some w.heap.size)] 97)) := ((Below.refl _ w).alloc (Nat.le_refl _) _).alloc (by simp) _
  refine ⟨w.heap.size, 0, .slice none 0 0, ⟨?_, by omega, hb, ho.below hB, ⟨rfl, .inl ⟨rfl, rfl⟩⟩, ?_, by simp⟩, Nat.le_refl _, Nat.le_refl _⟩
  · have := heap_alloc_new (w.alloc (.map #[] 0)) (.cells #[p, .slice (some ⟨g, 0, none⟩) 8 8, .slice none 0 0, .map (some w.heap.size)] 97)
    simpa using this
  · exact (World.ownsMap_made w Tryd.prog 23 (unitElem (H := Unit))).alloc _
set_option maxRecDepth 100000 in
theorem h61 (a : Option Addr) (base : Nat) (w : World) (hw : base ≤ w.heap.size) : Calls Tryd.prog 61 #[.pointer a] w fun e w' => ∃ lb B g, e = .returned (.pointer (some ⟨lb, 0, none⟩)) ∧ Lk w' base lb (.pointer a) B g [] 0 ∧ Below w.heap.size w w' := by
  have hmm := @run_makeMap Tryd.prog
  go_enter Tryd.func61, Tryd.ntmps61
  go_wp2_with fail
  refine (h36 w).mono ?_
  rintro e w1 ⟨rfl, ho, hb⟩
  have HB : Hid (Below w.heap.size w ((w1.alloc (.map #[] 0)).alloc (.cells #[.pointer a, .slice (some ⟨w.heap.size + 7, 0, none⟩) 8 8, .slice none 0 0, .map (some w1.heap.size)] 97))) := (hb.alloc hb.size _).alloc (by have := hb.size; simp; omega) _
  have HL : Hid (Lk ((w1.alloc (.map #[] 0)).alloc (.cells #[.pointer a, .slice (some ⟨w.heap.size + 7, 0, none⟩) 8 8, .slice none 0 0, .map (some w1.heap.size)] 97)) base (w1.heap.size + 1) (.pointer a) w.heap.size (w.heap.size + 7) [] 0) := Lk.made w1 _ _ _ _ ho (Nat.le_trans hw hb.size)
  clear ho
  go_wp2_with fail
  exact bodyPost_ret (v := .pointer (some ⟨w1.heap.size + 1, 0, none⟩)) (by simp [results, Tryd.results61, go_sem]) rfl ⟨_, _, _, rfl, HL.out, HB.out⟩
/-- A row of names that a call told. -/
def NamesR (w : World) (v : Value) (ns : List Nm) : Prop := ∃ base, w.ownsRow base 23 2 v ns.length (flatN ns)
set_option maxRecDepth 100000 in
set_option maxHeartbeats 4000000 in
theorem h39_wrong (a : Option Addr) (cells : List C) (v : Value) (w : World) (hT : TermAt w v cells) (hS : Signs w) (hr : rightB cells = false) : Calls Tryd.prog 39 #[.pointer a, v] w fun e w' => e = .returned (.tuple #[.int .i64 0, .int .u8 2, .slice none 0 0]) ∧ Below w.heap.size w w' := by
  have H24 := c22 cells v w hT hS
  rw [hr] at H24
  obtain ⟨a0, c0, hf0⟩ := hT.form
  subst hf0
  clear hT hS
  go_enter Tryd.func39, Tryd.ntmps39
  go_wp2_with fail
  refine H24.mono ?_
  rintro e w1 ⟨rfl, hb1⟩
  have HB : Hid (Below w.heap.size w w1) := hb1
  go_wp2_with fail
  exact bodyPost_ret (v := .tuple #[.int .i64 0, .int .u8 2, .slice none 0 0]) (by simp [results, Tryd.results39, go_sem]) rfl ⟨rfl, HB.out⟩
def valN (n o : Int) : Int := if o = 2 then 0 else n
def valM (o : Int) (names : List Nm) : List Nm := if o = 2 then [] else names
/-- What a call of Value tells. -/
def ValPost (n o : Int) (names : List Nm) (w : World) (e : Ending) (w' : World) : Prop := ∃ nv, e = .returned (.tuple #[.int .i64 n, .int .u8 o, nv]) ∧ NamesR w' nv names ∧ Below w.heap.size w w'
set_option maxRecDepth 100000 in
set_option maxHeartbeats 4000000 in
theorem h39 (m : Hp) (hm : HpOk m) (a : Option Addr) (cells : List C) (v : Value) (w : World) (d : Nat) (n o : Int) (rest : List C) (names : List Nm) (hT : TermAt w v cells) (hS : Signs w) (hr : rightB cells = true) (hp : HpV w (.pointer a) m) (hs : Sm m d cells [] n o rest names) (hW : ∀ c ∈ cells, wfN (c.vn, c.vk)) (hl : cells.length < 999999999) : Calls Tryd.prog 39 #[.pointer a, v] w (ValPost (valN n o) o (valM o names) w) := by
  have H24 := c22 cells v w hT hS
  rw [hr] at H24
  have H61 : Hid (∀ W, Below w.heap.size w W → Calls Tryd.prog 61 #[.pointer a] W fun e w' => ∃ lb B g, e = .returned (.pointer (some ⟨lb, 0, none⟩)) ∧ Lk w' w.heap.size lb (.pointer a) B g [] 0 ∧ Below W.heap.size W w') := fun W hW => h61 a w.heap.size W hW.size
  have H62 : Hid (∀ lb B g W, Below w.heap.size w W → Lk W w.heap.size lb (.pointer a) B g [] 0 → Calls Tryd.prog 62 #[.pointer (some ⟨lb, 0, none⟩), v] W (SumPost w lb (.pointer a) B g n o rest names (0 + cells.length) W)) := fun lb B g W hb hL => h62 m hm w lb (.pointer a) B g hp d cells [] n o rest names v W 0 hs hb hL hT hW (by omega)
  obtain ⟨a0, c0, hf0⟩ := hT.form
  subst hf0
  clear hT hS hs hW hp hm
  go_enter Tryd.func39, Tryd.ntmps39
  go_wp2_with fail
  refine H24.mono ?_
  rintro e w1 ⟨rfl, hb1⟩
  go_wp2_with fail
  refine (H61.out w1 hb1).mono ?_
  rintro e w2 ⟨lb, B, g, rfl, hL2, hb2⟩
  have hb2' : Below w.heap.size w w2 := hb1.trans (hb2.mono hb1.size)
  have H62 := H62.out lb B g w2 hb2' hL2
  clear hL2
  go_wp2_with fail
  refine H62.mono ?_
  rintro e w3 ⟨rv, K', rfl, hT3, ⟨M, k3, nv, hL3, hk3⟩, hK3, hw3, hb3, hkk3⟩
  have HR : Hid (NamesR w3 nv names) := ⟨_, hL3.row⟩
  have HB3 : Hid (Below w.heap.size w w3) := hb3
  obtain ⟨_, _, l2, _⟩ := hL3.cells
  obtain ⟨a3, c3, hf3⟩ := hT3.form
  obtain ⟨a4, c4, hf4⟩ := owns_form hL3.row
  subst hf3 hf4
  clear hT3 hL3 hk3 hK3 hw3 hb3 hkk3 H62
  by_cases ho : o = 2
  · subst ho
    go_wp2_with fail
    exact bodyPost_ret (v := .tuple #[.int .i64 0, .int .u8 2, .slice none 0 0]) (by simp [results, Tryd.results39, go_sem]) rfl ⟨_, rfl, ⟨0, rfl, .inl ⟨rfl, rfl⟩⟩, HB3.out⟩
  · have hq : (o == 2) = false := by simpa using ho
    have HV : Hid (valN n o = n ∧ valM o names = names) := ⟨if_neg ho, if_neg ho⟩
    clear ho
    go_wp2_with fail
    go_quiet (fail)
    go_wp2_with fail
    exact bodyPost_ret (v := .tuple #[.int .i64 n, .int .u8 o, .slice a4 names.length c4]) (by simp [results, Tryd.results39, go_sem]) rfl ⟨_, by rw [HV.out.1], (by rw [HV.out.2]; obtain ⟨bs, h⟩ := HR.out; exact ⟨bs, owns_below h (below_drewN (Below.refl _ _) nq)⟩), below_drewN HB3.out nq⟩
end Go.Proofs.YteikdgjlhdgapaaDoor
namespace Go.Proofs.YteikdgjlhdgapaaDoor
open Go.RowKit
def cmpI (x y : Int) : Int := if x < y then -1 else if y < x then 1 else 0
def orI (x y : Int) : Int := if x = 0 then y else x
set_option maxRecDepth 100000 in
theorem h88 (x : Int) (w : World) : Calls Tryd.prog 88 #[.int .i64 x] w fun e w' => e = .returned (.bool false) ∧ w' = w := by
  have hq : (x != x) = false := by simp
  go_enter Tryd.func88, Tryd.ntmps88
  go_wp2_with fail
  go_ret
  exact ⟨rfl, rfl⟩
set_option maxRecDepth 100000 in
theorem h68 (x y : Int) (w : World) : Calls Tryd.prog 68 #[.int .i64 x, .int .i64 y] w fun e w' => e = .returned (.int .i64 (cmpI x y)) ∧ w' = w := by
  have H1 := h88 x w
  have H2 := h88 y w
  have HC : Hid (cmpI x y = if x < y then -1 else if y < x then 1 else 0) := rfl
  by_cases hx : x < y
  · have HE : Hid (cmpI x y = -1) := by show cmpI x y = -1; rw [HC.out, if_pos hx]
    rw [HE.out]
    go_enter Tryd.func68, Tryd.ntmps68
    go_wp2_with fail
    refine H1.mono ?_
    rintro e w1 ⟨rfl, hw⟩
    obtain rfl := hw
    go_wp2_with fail
    refine H2.mono ?_
    rintro e w1 ⟨rfl, hw⟩
    obtain rfl := hw
    go_wp2_with fail
    go_ret
    exact ⟨rfl, rfl⟩
  · by_cases hy : y < x
    · have HE : Hid (cmpI x y = 1) := by show cmpI x y = 1; rw [HC.out, if_neg hx, if_pos hy]
      rw [HE.out]
      go_enter Tryd.func68, Tryd.ntmps68
      go_wp2_with fail
      refine H1.mono ?_
      rintro e w1 ⟨rfl, hw⟩
      obtain rfl := hw
      go_wp2_with fail
      refine H2.mono ?_
      rintro e w1 ⟨rfl, hw⟩
      obtain rfl := hw
      go_wp2_with fail
      go_ret
      exact ⟨rfl, rfl⟩
    · have HE : Hid (cmpI x y = 0) := by show cmpI x y = 0; rw [HC.out, if_neg hx, if_neg hy]
      rw [HE.out]
      go_enter Tryd.func68, Tryd.ntmps68
      go_wp2_with fail
      refine H1.mono ?_
      rintro e w1 ⟨rfl, hw⟩
      obtain rfl := hw
      go_wp2_with fail
      refine H2.mono ?_
      rintro e w1 ⟨rfl, hw⟩
      obtain rfl := hw
      go_wp2_with fail
      go_ret
      exact ⟨rfl, rfl⟩
set_option maxRecDepth 100000 in
theorem h67 (x y : Int) (b : Nat) (w : World) (h : w.heap[b]? = some (.cells #[.int .i64 x, .int .i64 y] 3 (0, 0))) : Calls Tryd.prog 67 #[.slice (some ⟨b, 0, none⟩) 2 2] w fun e w' => e = .returned (.int .i64 (orI x y)) ∧ w' = w := by
  have HO : orI x y = if x = 0 then y else x := rfl
  have c0 : w.cell? ⟨b, 0, none⟩ = some (.int .i64 x) := by rw [cell_of_row w b 0 _ 3 (0, 0) h]; rfl
  have c1 : w.cell? ⟨b, 1, none⟩ = some (.int .i64 y) := by rw [cell_of_row w b 1 _ 3 (0, 0) h]; rfl
  clear h
  by_cases hx : x = 0
  · subst hx
    rw [if_pos rfl] at HO
    rw [HO]
    clear HO
    by_cases hy : y = 0
    · subst hy
      go_enter Tryd.func67, Tryd.ntmps67
      go_wp2_with fail
      refine wp_loop_rounds 3 ?_
      rw [rounds_succ]
      go_wp2_with fail
      rw [rounds_succ]
      go_wp2_with fail
      rw [rounds_succ]
      go_wp2_with fail
      go_ret
      exact ⟨rfl, rfl⟩
    · have hq : (y != 0) = true := by simp [hy]
      go_enter Tryd.func67, Tryd.ntmps67
      go_wp2_with fail
      refine wp_loop_rounds 3 ?_
      rw [rounds_succ]
      go_wp2_with fail
      rw [rounds_succ]
      go_wp2_with fail
      go_ret
      exact ⟨rfl, rfl⟩
  · have hq : (x != 0) = true := by simp [hx]
    rw [if_neg hx] at HO
    rw [HO]
    clear HO
    go_enter Tryd.func67, Tryd.ntmps67
    go_wp2_with fail
    refine wp_loop_rounds 3 ?_
    rw [rounds_succ]
    go_wp2_with fail
    go_ret
    exact ⟨rfl, rfl⟩
abbrev NmS (w2 : World) (b1 b2 : Nat) (x1 x2 y1 y2 : Int) (w' : World) : Prop :=
  w'.cell? ⟨b1, 0, none⟩ = some (.int .i64 x1) ∧ w'.cell? ⟨b1, 1, none⟩ = some (.int .i64 x2) ∧ w'.cell? ⟨b2, 0, none⟩ = some (.int .i64 y1) ∧ w'.cell? ⟨b2, 1, none⟩ = some (.int .i64 y2) ∧ Hid (Below w2.heap.size w2 w' ∧ b1 < w2.heap.size ∧ b2 < w2.heap.size)
theorem nmS_hb {w2 : World} {b1 b2 : Nat} {x1 x2 y1 y2 : Int} {w' : World} (h : NmS w2 b1 b2 x1 x2 y1 y2 w') : Below w2.heap.size w2 w' := h.2.2.2.2.out.1
theorem nmS_to {w2 : World} {b1 b2 : Nat} {x1 x2 y1 y2 : Int} {w' w'' : World} (h : NmS w2 b1 b2 x1 x2 y1 y2 w') (hb : Below w2.heap.size w2 w'') : NmS w2 b1 b2 x1 x2 y1 y2 w'' := by
  obtain ⟨h1, h2, h3, h4, h5⟩ := h
  have h9 := h5.out
  have t : ∀ q j u, q < w2.heap.size → w'.cell? ⟨q, j, none⟩ = some u → w''.cell? ⟨q, j, none⟩ = some u := fun q j u hq hu =>
    (hb.cell (p := ⟨q, j, none⟩) hq).trans ((h9.1.cell (p := ⟨q, j, none⟩) hq).symm.trans hu)
  exact ⟨t _ _ _ h9.2.1 h1, t _ _ _ h9.2.1 h2, t _ _ _ h9.2.2 h3, t _ _ _ h9.2.2 h4, hb, h9.2⟩
theorem nmS_drew {w2 : World} {b1 b2 : Nat} {x1 x2 y1 y2 : Int} {w' : World} (h : NmS w2 b1 b2 x1 x2 y1 y2 w') : NmS w2 b1 b2 x1 x2 y1 y2 w'.drew := nmS_to h (nmS_hb h).drew
theorem nmS_alloc {w2 : World} {b1 b2 : Nat} {x1 x2 y1 y2 : Int} {w' : World} (h : NmS w2 b1 b2 x1 x2 y1 y2 w') (ob : Obj) : NmS w2 b1 b2 x1 x2 y1 y2 (w'.alloc ob) := nmS_to h ((nmS_hb h).alloc (nmS_hb h).size ob)
def namesS (x1 x2 y1 y2 : Int) : Int := orI (cmpI x1 y1) (cmpI x2 y2)
theorem two_boxes (w : World) (x1 x2 y1 y2 : Int) : NmS ((w.alloc (.cells #[.int .i64 x1, .int .i64 x2] 23)).alloc (.cells #[.int .i64 y1, .int .i64 y2] 23)) w.heap.size (w.heap.size + 1) x1 x2 y1 y2 ((w.alloc (.cells #[.int .i64 x1, .int .i64 x2] 23)).alloc (.cells #[.int .i64 y1, .int .i64 y2] 23)) := by
  have e1 : ((w.alloc (.cells #[.int .i64 x1, .int .i64 x2] 23)).alloc (.cells #[.int .i64 y1, .int .i64 y2] 23)).heap[w.heap.size]? = some (.cells #[.int .i64 x1, .int .i64 x2] 23 (0, 0)) := (heap_alloc_old _ _ (by simp)).trans (heap_alloc_new w _)
  have e2 : ((w.alloc (.cells #[.int .i64 x1, .int .i64 x2] 23)).alloc (.cells #[.int .i64 y1, .int .i64 y2] 23)).heap[w.heap.size + 1]? = some (.cells #[.int .i64 y1, .int .i64 y2] 23 (0, 0)) := by
    have := heap_alloc_new (w.alloc (.cells #[.int .i64 x1, .int .i64 x2] 23)) (.cells #[.int .i64 y1, .int .i64 y2] 23)
    simpa using this
  refine ⟨?_, ?_, ?_, ?_, Below.refl _ _, by simp; omega, by simp⟩
  · rw [cell_of_row _ _ 0 _ 23 (0, 0) e1]; rfl
  · rw [cell_of_row _ _ 1 _ 23 (0, 0) e1]; rfl
  · rw [cell_of_row _ _ 0 _ 23 (0, 0) e2]; rfl
  · rw [cell_of_row _ _ 1 _ 23 (0, 0) e2]; rfl
set_option maxRecDepth 100000 in
set_option maxHeartbeats 2000000 in
theorem h46 (x1 x2 y1 y2 : Int) (w : World) : Calls Tryd.prog 46 #[.agg #[.int .i64 x1, .int .i64 x2], .agg #[.int .i64 y1, .int .i64 y2]] w fun e w' => e = .returned (.int .i64 (namesS x1 x2 y1 y2)) ∧ Below w.heap.size w w' := by
  have hS0 := two_boxes w x1 x2 y1 y2
  have HB0 : Hid (Below w.heap.size w ((w.alloc (.cells #[.int .i64 x1, .int .i64 x2] 23)).alloc (.cells #[.int .i64 y1, .int .i64 y2] 23))) := ((Below.refl _ w).alloc (Nat.le_refl _) _).alloc (by simp) _
  go_enter Tryd.func46, Tryd.ntmps46
  go_wp2_with fail
  generalize hW : (w.alloc (.cells #[.int .i64 x1, .int .i64 x2] 23)).alloc (.cells #[.int .i64 y1, .int .i64 y2] 23) = w2 at *
  clear hW
  refine wp_region_noPanic ?_
  refine wp_region_held_drew (S := fun w' => NmS w2 w.heap.size (w.heap.size + 1) x1 x2 y1 y2 w') (by kernel_rfl) (nmS_drew hS0) (fun hHeld => ?_)
  refine wpAnyH_take (i := 0) (v := ?_) (by simp only [List.getElem?_toArray, List.getElem?_cons_zero]; rfl) (by kernel_rfl) (by kernel_rfl) (by kernel_rfl) (fun _ _ _ h => h) (Or.inl ⟨by rfl, ?_⟩) (by assumption) ?_
  rotate_left
  · (intro w hSw; (try dsimp only at hSw); go_simp <;> with_reducible rfl)
  try simp only [Act.put, List.setIfInBounds_toArray, List.set_cons_zero, List.set_cons_succ]
  refine wpAnyH_take (i := 1) (v := ?_) (by simp only [List.getElem?_toArray, List.getElem?_cons_zero, List.getElem?_cons_succ]; rfl) (by kernel_rfl) (by kernel_rfl) (by kernel_rfl) (fun _ _ _ h => h) (Or.inl ⟨by rfl, ?_⟩) (by assumption) ?_
  rotate_left
  · (intro w hSw; (try dsimp only at hSw); go_simp <;> with_reducible rfl)
  try simp only [Act.put, List.setIfInBounds_toArray, List.set_cons_zero, List.set_cons_succ]
  refine wpAnyH_take (i := 2) (v := ?_) (by simp only [List.getElem?_toArray, List.getElem?_cons_zero, List.getElem?_cons_succ]; rfl) (by kernel_rfl) (by kernel_rfl) (by kernel_rfl) (fun _ _ _ h => h) (Or.inl ⟨by rfl, ?_⟩) (by assumption) ?_
  rotate_left
  · (intro w hSw; (try dsimp only at hSw); go_simp <;> with_reducible rfl)
  try simp only [Act.put, List.setIfInBounds_toArray, List.set_cons_zero, List.set_cons_succ]
  refine wpAnyH_take (i := 3) (v := ?_) (by simp only [List.getElem?_toArray, List.getElem?_cons_zero, List.getElem?_cons_succ]; rfl) (by kernel_rfl) (by kernel_rfl) (by kernel_rfl) (fun _ _ _ h => h) (Or.inl ⟨by rfl, ?_⟩) (by assumption) ?_
  rotate_left
  · (intro w hSw; (try dsimp only at hSw); go_simp <;> with_reducible rfl)
  try simp only [Act.put, List.setIfInBounds_toArray, List.set_cons_zero, List.set_cons_succ]
  refine wpAnyH_take (i := 5) (v := ?_) (by simp only [List.getElem?_toArray, List.getElem?_cons_zero, List.getElem?_cons_succ]; rfl) (by kernel_rfl) (by kernel_rfl) (by kernel_rfl) (fun _ _ _ h => h) (Or.inl ⟨by rfl, ?_⟩) (by assumption) ?_
  rotate_left
  · (intro w hSw; (try dsimp only at hSw); go_simp <;> with_reducible rfl)
  try simp only [Act.put, List.setIfInBounds_toArray, List.set_cons_zero, List.set_cons_succ]
  refine wpAnyH_take (i := 6) (v := ?_) (by simp only [List.getElem?_toArray, List.getElem?_cons_zero, List.getElem?_cons_succ]; rfl) (by kernel_rfl) (by kernel_rfl) (by kernel_rfl) (fun _ _ _ h => h) (Or.inl ⟨by rfl, ?_⟩) (by assumption) ?_
  rotate_left
  · (intro w hSw; (try dsimp only at hSw); go_simp <;> with_reducible rfl)
  try simp only [Act.put, List.setIfInBounds_toArray, List.set_cons_zero, List.set_cons_succ]
  refine wpAnyH_take (i := 7) (v := ?_) (by simp only [List.getElem?_toArray, List.getElem?_cons_zero, List.getElem?_cons_succ]; rfl) (by kernel_rfl) (by kernel_rfl) (by kernel_rfl) (fun _ _ _ h => h) (Or.inl ⟨by rfl, ?_⟩) (by assumption) ?_
  rotate_left
  · (intro w hSw; (try dsimp only at hSw); go_simp <;> with_reducible rfl)
  try simp only [Act.put, List.setIfInBounds_toArray, List.set_cons_zero, List.set_cons_succ]
  refine wpAnyH_take (i := 8) (v := ?_) (by simp only [List.getElem?_toArray, List.getElem?_cons_zero, List.getElem?_cons_succ]; rfl) (by kernel_rfl) (by kernel_rfl) (by kernel_rfl) (fun _ _ _ h => h) (Or.inl ⟨by rfl, ?_⟩) (by assumption) ?_
  rotate_left
  · (intro w hSw; (try dsimp only at hSw); go_simp <;> with_reducible rfl)
  try simp only [Act.put, List.setIfInBounds_toArray, List.set_cons_zero, List.set_cons_succ]
  refine wpAnyH_ready (rs := [4]) (by kernel_rfl) (by simp) ?_
  refine AllReadyH.cons (by simp only [List.getElem?_toArray, List.getElem?_cons_zero, List.getElem?_cons_succ]; rfl) (fun K hK => ?_) AllReadyH.nil
  go_simp
  go_at_call 68
  refine (h68 _ _ _).mono ?_
  rintro e w3 ⟨rfl, hw3⟩
  obtain rfl := hw3
  refine hK.out _ _ ?_ (fun hHeld => ?_)
  · exact (by assumption)
  clear hK K
  try simp only [Act.put, List.setIfInBounds_toArray, List.set_cons_zero, List.set_cons_succ]
  refine wpAnyH_ready (rs := [9]) (by kernel_rfl) (by simp) ?_
  refine AllReadyH.cons (by simp only [List.getElem?_toArray, List.getElem?_cons_zero, List.getElem?_cons_succ]; rfl) (fun K hK => ?_) AllReadyH.nil
  go_simp
  go_at_call 68
  refine (h68 _ _ _).mono ?_
  rintro e w4 ⟨rfl, hw4⟩
  obtain rfl := hw4
  refine hK.out _ _ ?_ (fun hHeld => ?_)
  · exact (by assumption)
  clear hK K
  try simp only [Act.put, List.setIfInBounds_toArray, List.set_cons_zero, List.set_cons_succ]
  refine wpAnyH_ready (rs := [10]) (by kernel_rfl) (by simp) ?_
  refine AllReadyH.cons (by simp only [List.getElem?_toArray, List.getElem?_cons_zero, List.getElem?_cons_succ]; rfl) (fun K hK => ?_) AllReadyH.nil
  go_simp
  refine hK.out _ _ ?_ (fun hHeld => ?_)
  · exact nmS_alloc (by assumption) _
  clear hK K
  try simp only [Act.put, List.setIfInBounds_toArray, List.set_cons_zero, List.set_cons_succ]
  refine wpAnyH_ready (rs := [11]) (by kernel_rfl) (by simp) ?_
  refine AllReadyH.cons (by simp only [List.getElem?_toArray, List.getElem?_cons_zero, List.getElem?_cons_succ]; rfl) (fun K hK => ?_) AllReadyH.nil
  go_simp
  go_at_call 67
  refine (h67 (cmpI x1 y1) (cmpI x2 y2) w2.heap.size _ (by exact heap_alloc_new w2 _)).mono ?_
  rintro e w5 ⟨rfl, hw5⟩
  obtain rfl := hw5
  refine hK.out _ _ ?_ (fun hHeld => ?_)
  · exact (by assumption)
  clear hK K
  try simp only [Act.put, List.setIfInBounds_toArray, List.set_cons_zero, List.set_cons_succ]
  refine wpAnyH_take (i := 12) (v := ?_) (by simp only [List.getElem?_toArray, List.getElem?_cons_zero, List.getElem?_cons_succ]; rfl) (by kernel_rfl) (by kernel_rfl) (by kernel_rfl) (fun _ _ _ h => h) (Or.inl ⟨by rfl, ?_⟩) (by assumption) ?_
  rotate_left
  · (intro w hSw; (try dsimp only at hSw); go_simp <;> with_reducible rfl)
  try simp only [Act.put, List.setIfInBounds_toArray, List.set_cons_zero, List.set_cons_succ]
  refine wpAnyH_done (by kernel_rfl) ?_ _
  refine NoPanic.normal ?_
  have hbf := nmS_hb (w2 := w2) (by assumption)
  go_wp2_with fail
  go_ret
  exact ⟨rfl, HB0.out.trans (hbf.mono HB0.out.size)⟩
set_option maxRecDepth 100000 in
theorem h30 (x1 x2 y1 y2 : Int) (w : World) : Calls Tryd.prog 30 #[.agg #[.int .i64 x1, .int .i64 x2], .agg #[.int .i64 y1, .int .i64 y2]] w fun e w' => e = .returned (.bool (decide (namesS x1 x2 y1 y2 < 0))) ∧ Below w.heap.size w w' := by
  obtain ⟨c0, c1, c2, c3, _⟩ := two_boxes w x1 x2 y1 y2
  have HB0 : Hid (Below w.heap.size w ((w.alloc (.cells #[.int .i64 x1, .int .i64 x2] 23)).alloc (.cells #[.int .i64 y1, .int .i64 y2] 23))) := ((Below.refl _ w).alloc (Nat.le_refl _) _).alloc (by simp) _
  have H46 := h46 x1 x2 y1 y2 ((w.alloc (.cells #[.int .i64 x1, .int .i64 x2] 23)).alloc (.cells #[.int .i64 y1, .int .i64 y2] 23))
  generalize namesS x1 x2 y1 y2 = q at *
  go_enter Tryd.func30, Tryd.ntmps30
  go_wp2_with fail
  refine H46.mono ?_
  rintro e w1 ⟨rfl, hb1⟩
  have HB1 : Hid (Below w.heap.size w w1) := HB0.out.trans (hb1.mono HB0.out.size)
  go_wp2_with fail
  go_ret
  exact ⟨rfl, HB1.out⟩
end Go.Proofs.YteikdgjlhdgapaaDoor
namespace Go.Proofs.YteikdgjlhdgapaaDoor
open Go.RowKit
attribute [local go_sem ↓] Go.wp_at_zero Go.wp_at_succ
theorem less_names (a b : Nm) : decide (namesS a.1 a.2 b.1 b.2 < 0) = lessN a b := by
  unfold namesS orI cmpI lessN
  rcases Int.lt_trichotomy a.1 b.1 with h | h | h
  · simp [h]
  · rcases Int.lt_trichotomy a.2 b.2 with k | k | k
    · simp [h, k]
    · simp [h, k]
    · have k' : ¬ a.2 < b.2 := by omega
      simp [h, k, k']
  · have h' : ¬ a.1 < b.1 := by omega
    have h'' : a.1 ≠ b.1 := by omega
    simp [h, h', h'']
/-- What Bind answers. -/
def bindE (m : Hp) (x : Nm) (l : List C) : Int :=
  if x.1 < 0 ∨ oneT ⟨4, ⟨#[]⟩, 0, x.1, x.2⟩ = [] ∨ globalB l = false then 6 else if (lookH m x).isSome then 70 else if isVarL l = true ∧ lessN (varL l) x = false then 71 else 0
def bindH (m : Hp) (x : Nm) (l : List C) : Hp := if bindE m x l = 0 then insH x l m else m
/-- All blocks but one stay. -/
def KeepsBut (M : Nat) (w w' : World) : Prop := w'.os = w.os ∧ w'.tape = w.tape ∧ w'.output = w.output ∧ w.heap.size ≤ w'.heap.size ∧ ∀ k, k < w.heap.size → k ≠ M → w'.heap[k]? = w.heap[k]?
theorem KeepsBut.of_below {M : Nat} {w w' : World} (h : Below w.heap.size w w') : KeepsBut M w w' := ⟨h.os, h.tape, h.output, h.size, fun k hk _ => h.block k hk⟩
theorem KeepsBut.below {M B : Nat} {w w' : World} (h : KeepsBut M w w') (hB : B ≤ M) (hs : B ≤ w.heap.size) : Below B w w' := ⟨h.1, h.2.1, h.2.2.1, h.2.2.2.1, fun k hk => h.2.2.2.2 k (by omega) (by omega)⟩
theorem keeps_put {M : Nat} {w w7 w8 : World} (h : Below w.heap.size w w7) (ht : w7.mapTurned w8 M) : KeepsBut M w w8 := by
  have hg := ht.grown
  exact ⟨hg.os.trans h.os, hg.tape.trans h.tape, hg.output.trans h.output, Nat.le_trans h.size hg.size, fun k hk hne => (hg.block k (Nat.lt_of_lt_of_le hk h.size) (by simpa using hne)).trans (h.block k hk)⟩
theorem TermAt.turned {w w' : World} {v : Value} {l : List C} {M : Nat} (h : TermAt w v l) (ht : w.mapTurned w' M) : TermAt w' v l := by
  obtain ⟨h0, h⟩ := h
  refine ⟨h0, ?_⟩
  rcases h with h | ⟨b, o, cap, h1, h2, h3, h4, h5⟩
  · exact .inl h
  · have hg := ht.grown
    obtain ⟨es, ck, es', ck', hb, _⟩ := ht
    cases hl : l with
    | nil =>
      rw [hl] at h1 h2
      refine .inr ⟨b, o, cap, h1, h2, h3, fun j u hu => ?_, Nat.lt_of_lt_of_le h5 hg.size⟩
      simp [flat] at hu
    | cons c r =>
      rw [← hl]
      have hbM : b ≠ M := by
        intro e
        have h6 := h4 0 (.int .u8 c.k) (by rw [hl]; simp [flat, C.vals])
        rw [e] at h6
        simp [World.cell?, hb] at h6
      exact .inr ⟨b, o, cap, h1, h2, h3, fun j u hu => by
        rw [World.cell?_of_block (a := ⟨b, o + j, none⟩) (hg.block b h5 (by simpa using hbM))]
        exact h4 j u hu, Nat.lt_of_lt_of_le h5 hg.size⟩
theorem HpAt.put {w w' : World} {hb M n : Nat} {D : DataW Value} {m : Hp} {x : Nm} {l : List C} {u : Value} (h : HpAt w hb M n D m) (hx : wfN x) (h0 : lookH m x = none) (hT : TermAt w u l) (hW : ∀ c ∈ l, wfN (c.vn, c.vk)) (hv : isVarL l = true → lessN (varL l) x = true) (hm : w'.ownsMap Tryd.prog 23 heldElem M (n + 1) (D.put (kLit x) (.held u))) (ht : w.mapTurned w' M) : HpAt w' hb M (n + 1) (D.put (kLit x) (.held u)) (insH x l m) := by
  have hne : hb ≠ M := by
    intro e
    have h1 := h.blk
    obtain ⟨es, ck, h2, _⟩ := h.map
    rw [e, h2] at h1
    cases h1
  have hisM : Maps.IsMap D := h.map.isMap
  have hkl : WideAt.IsKeyLit (kLit x) := keyed23.key (key23 x hx)
  refine ⟨(ht.grown.block hb (Array.getElem?_eq_some_iff.1 h.blk).1 (by simpa using hne)).trans h.blk, hm, ?_, ?_, desc_ins h.desc h0 hv, ?_⟩
  · intro y hy hn
    rw [look_ins m x y l h0] at hn
    split at hn
    · cases hn
    · next e =>
      have hk : kLit y ≠ kLit x := fun e' => e (kLit_inj hy hx e').symm
      rw [Maps.has_put_other hk]
      exact h.no y hy hn
  · intro y l' hy hs
    rw [look_ins m x y l h0] at hs
    split at hs
    · next e =>
      cases hs
      subst e
      exact ⟨u, fun z => Maps.atKey_put_same hisM hkl _ _, hT.turned ht⟩
    · next e =>
      have hk : kLit y ≠ kLit x := fun e' => e (kLit_inj hy hx e').symm
      obtain ⟨v, h1, h2⟩ := h.yes y l' hy hs
      exact ⟨v, fun z => by rw [Maps.atKey_put_other hk]; exact h1 z, h2.turned ht⟩
  · intro y l' hs
    rw [look_ins m x y l h0] at hs
    split at hs
    · next e =>
      cases hs
      subst e
      exact ⟨hx, hW⟩
    · exact h.wf y l' hs
abbrev BdS (w2 : World) (hb M bx tb tof : Nat) (x1 x2 y1 y2 : Int) (f : Bool) (w' : World) : Prop :=
  w'.cell? ⟨hb, 0, none⟩ = some (.map (some M)) ∧ w'.cell? ⟨bx, 0, none⟩ = some (.int .i64 x1) ∧ w'.cell? ⟨bx, 1, none⟩ = some (.int .i64 x2) ∧ (f = true → w'.cell? ⟨tb, tof, none⟩ = some (.int .i64 y1)) ∧ (f = true → w'.cell? ⟨tb, tof + 1, none⟩ = some (.int .i64 y2)) ∧ Hid (Below w2.heap.size w2 w' ∧ hb < w2.heap.size ∧ bx < w2.heap.size ∧ (f = true → tb < w2.heap.size))
theorem bdS_hb {w2 : World} {hb M bx tb tof : Nat} {x1 x2 y1 y2 : Int} {f : Bool} {w' : World} (h : BdS w2 hb M bx tb tof x1 x2 y1 y2 f w') : Below w2.heap.size w2 w' := h.2.2.2.2.2.out.1
theorem bdS_to {w2 : World} {hb M bx tb tof : Nat} {x1 x2 y1 y2 : Int} {f : Bool} {w' w'' : World} (h : BdS w2 hb M bx tb tof x1 x2 y1 y2 f w') (hb' : Below w2.heap.size w2 w'') : BdS w2 hb M bx tb tof x1 x2 y1 y2 f w'' := by
  obtain ⟨h1, h2, h3, h4, h5, h6⟩ := h
  have h9 := h6.out
  have t : ∀ q j u, q < w2.heap.size → w'.cell? ⟨q, j, none⟩ = some u → w''.cell? ⟨q, j, none⟩ = some u := fun q j u hq hu =>
    (hb'.cell (p := ⟨q, j, none⟩) hq).trans ((h9.1.cell (p := ⟨q, j, none⟩) hq).symm.trans hu)
  exact ⟨t _ _ _ h9.2.1 h1, t _ _ _ h9.2.2.1 h2, t _ _ _ h9.2.2.1 h3, fun e => t _ _ _ (h9.2.2.2 e) (h4 e), fun e => t _ _ _ (h9.2.2.2 e) (h5 e), hb', h9.2⟩
theorem bdS_below {w2 : World} {hb M bx tb tof : Nat} {x1 x2 y1 y2 : Int} {f : Bool} {w' w'' : World} (h : BdS w2 hb M bx tb tof x1 x2 y1 y2 f w') (hw : Below w'.heap.size w' w'') : BdS w2 hb M bx tb tof x1 x2 y1 y2 f w'' := bdS_to h ((bdS_hb h).trans (hw.mono (bdS_hb h).size))
theorem bdS_drew {w2 : World} {hb M bx tb tof : Nat} {x1 x2 y1 y2 : Int} {f : Bool} {w' : World} (h : BdS w2 hb M bx tb tof x1 x2 y1 y2 f w') : BdS w2 hb M bx tb tof x1 x2 y1 y2 f w'.drew := bdS_to h (bdS_hb h).drew
theorem bdS_less {w2 : World} {hb M bx tb tof : Nat} {x1 x2 y1 y2 : Int} {f : Bool} {w' : World} (h : BdS w2 hb M bx tb tof x1 x2 y1 y2 f w') : BdS w' hb M bx 0 0 x1 x2 0 0 false w' := by
  obtain ⟨h1, h2, h3, _, _, h6⟩ := h
  have h9 := h6.out
  exact ⟨h1, h2, h3, (fun e => by cases e), (fun e => by cases e), Below.refl _ _, Nat.lt_of_lt_of_le h9.2.1 h9.1.size, Nat.lt_of_lt_of_le h9.2.2.1 h9.1.size, (fun e => by cases e)⟩
/-- How the heap stands behind Bind. -/
def BindPost (m : Hp) (x : Nm) (l : List C) (hb M n : Nat) (w w' : World) : Prop := ∃ n' D', HpAt w' hb M n' D' (bindH m x l) ∧ n' ≤ n + 1 ∧ KeepsBut M w w'
abbrev PtS (hb M bx : Nat) (x1 x2 : Int) (w' : World) : Prop :=
  w'.cell? ⟨hb, 0, none⟩ = some (.map (some M)) ∧ w'.cell? ⟨bx, 0, none⟩ = some (.int .i64 x1) ∧ w'.cell? ⟨bx, 1, none⟩ = some (.int .i64 x2)
theorem ptS_to {hb M bx : Nat} {x1 x2 : Int} {w' w'' : World} (h : PtS hb M bx x1 x2 w') (hw : Below w'.heap.size w' w'') (h1 : hb < w'.heap.size) (h2 : bx < w'.heap.size) : PtS hb M bx x1 x2 w'' :=
  ⟨(hw.cell (p := ⟨hb, 0, none⟩) h1).trans h.1, (hw.cell (p := ⟨bx, 0, none⟩) h2).trans h.2.1, (hw.cell (p := ⟨bx, 1, none⟩) h2).trans h.2.2⟩
theorem ptS_turn {hb M bx : Nat} {x1 x2 : Int} {w' w'' : World} (h : PtS hb M bx x1 x2 w') (hw : w'.mapTurned w'' M) (h1 : hb < w'.heap.size) (h2 : bx < w'.heap.size) (h3 : hb ≠ M) (h4 : bx ≠ M) : PtS hb M bx x1 x2 w'' := by
  have hg := hw.grown
  exact ⟨(World.cell?_of_block (a := ⟨hb, 0, none⟩) (hg.block hb h1 (by simpa using h3))).trans h.1, (World.cell?_of_block (a := ⟨bx, 0, none⟩) (hg.block bx h2 (by simpa using h4))).trans h.2.1, (World.cell?_of_block (a := ⟨bx, 1, none⟩) (hg.block bx h2 (by simpa using h4))).trans h.2.2⟩
set_option maxRecDepth 100000 in
set_option maxHeartbeats 8000000 in
theorem h11 (m : Hp) (hb M n : Nat) (D : DataW Value) (x : Nm) (l : List C) (v : Value) (w : World) (hH : HpAt w hb M n D m) (hx : wfN x) (hT : TermAt w v l) (hWl : ∀ c ∈ l, wfN (c.vn, c.vk)) (hS : Signs w) (hby : l.length * 48 ≤ 140737488355328) (hn : n < maxLen) :
    Calls Tryd.prog 11 #[.pointer (some ⟨hb, 0, none⟩), .agg #[.int .i64 x.1, .int .i64 x.2], v] w fun e w' => e = .returned (.int .i64 (bindE m x l)) ∧ BindPost m x l hb M n w w' := by
  have HH : Hid (HpAt w hb M n D m) := hH
  have HT : Hid (TermAt w v l) := hT
  have HX : Hid (wfN x) := hx
  have HWl : Hid (∀ c ∈ l, wfN (c.vn, c.vk)) := hWl
  have HS : Hid (Signs w) := hS
  have hhb : hb < w.heap.size := (Array.getElem?_eq_some_iff.1 hH.blk).1
  have hMs : M < w.heap.size := hH.map.lt
  have hbM : hb ≠ M := by
    intro e
    have h1 := hH.blk
    obtain ⟨es, ck, h2, _⟩ := hH.map
    rw [e, h2] at h1
    cases h1
  have hbxM : w.heap.size ≠ M := by omega
  have HBE : Hid (bindE m x l = if x.1 < 0 ∨ oneT ⟨4, ⟨#[]⟩, 0, x.1, x.2⟩ = [] ∨ globalB l = false then 6 else if (lookH m x).isSome then 70 else if isVarL l = true ∧ lessN (varL l) x = false then 71 else 0) := rfl
  have HNo : Hid (∀ W, Below w.heap.size w W → bindE m x l ≠ 0 → BindPost m x l hb M n w W) := fun W hW he => by
    refine ⟨n, D, ?_, by omega, KeepsBut.of_below hW⟩
    unfold bindH
    rw [if_neg he]
    exact hH.below hW
  have HYes : Hid (bindE m x l = 0 → bindH m x l = insH x l m) := fun he => by unfold bindH; rw [if_pos he]
  have H27 : Hid (∀ W, Below w.heap.size w W → Calls Tryd.prog 27 #[.agg #[.int .i64 x.1, .int .i64 x.2]] W fun e w' => ∃ v, e = .returned v ∧ TermAt w' v (oneT ⟨4, ⟨#[]⟩, 0, x.1, x.2⟩) ∧ Below W.heap.size W w') := fun W hW => c18 x.1 x.2 W (hS.below hW)
  have H28 : Hid (∀ W, Below w.heap.size w W → Calls Tryd.prog 28 #[v] W fun e w' => e = .returned (.bool (globalB l)) ∧ Below W.heap.size W w') := fun W hW => c36 l v W (hT.below hW) (hS.below hW)
  have H21 : Hid (∀ W, Below w.heap.size w W → Calls Tryd.prog 21 #[.pointer (some ⟨hb, 0, none⟩), .agg #[.int .i64 x.1, .int .i64 x.2]] W fun e w' => e = .returned (.bool (lookH m x).isSome) ∧ Below W.heap.size W w') := fun W hW => h21 m hb M n D x W (hH.below hW) hx
  have H29 : Hid (∀ W, Below w.heap.size w W → Calls Tryd.prog 29 #[v] W fun e w' => e = .returned (.bool (isVarL l)) ∧ w' = W) := fun W hW => h29 l v W (hT.below hW)
  have H22 : Hid (∀ W, Below w.heap.size w W → Calls Tryd.prog 22 #[v] W fun e w' => ∃ u, e = .returned u ∧ TermAt w' u l ∧ (∀ g, u.ownBlock = some g → W.heap.size ≤ g) ∧ Below W.heap.size W w') := fun W hW => h22 l v W (hT.below hW) hby
  obtain ⟨x1, x2⟩ := x
  have HB1 : Hid (Below w.heap.size w (w.alloc (.cells #[.int .i64 x1, .int .i64 x2] 23))) := (Below.refl _ w).alloc (Nat.le_refl _) _
  have HBx : Hid (∀ W, Below (w.heap.size + 1) (w.alloc (.cells #[.int .i64 x1, .int .i64 x2] 23)) W → W.cell? ⟨w.heap.size, 0, none⟩ = some (.int .i64 x1) ∧ W.cell? ⟨w.heap.size, 1, none⟩ = some (.int .i64 x2)) := fun W hW => by
    have e1 : W.heap[w.heap.size]? = some (.cells #[.int .i64 x1, .int .i64 x2] 23 (0, 0)) := (hW.block w.heap.size (by omega)).trans (heap_alloc_new w _)
    constructor
    · rw [cell_of_row W _ 0 _ 23 (0, 0) e1]; rfl
    · rw [cell_of_row W _ 1 _ 23 (0, 0) e1]; rfl
  have HCh : Hid (∀ W, Below w.heap.size w W → W.cell? ⟨hb, 0, none⟩ = some (.map (some M))) := fun W hW => (hH.below hW).cell
  obtain ⟨x0a, x0b⟩ := HBx.out _ (Below.refl _ _)
  obtain ⟨av, cv, hvf⟩ := hT.form
  subst hvf
  have HVar : Hid (isVarL l = true → ∃ tb tof, av = some ⟨tb, tof, none⟩ ∧ tb < w.heap.size ∧ l.length = 1 ∧ w.cell? ⟨tb, tof + 3, none⟩ = some (.int .i64 (varL l).1) ∧ w.cell? ⟨tb, tof + 3 + 1, none⟩ = some (.int .i64 (varL l).2)) := fun h => by
    match l, h with
    | [c], h =>
      obtain ⟨_, hT'⟩ := hT
      rcases hT' with ⟨e, _⟩ | ⟨b, o, cap, e, h2, h5, h3, h4⟩
      · cases e
      · simp only [Value.slice.injEq] at e
        obtain ⟨_, _, _, p3, p4⟩ := term_cells h3 0 (by simp)
        simp only [Nat.zero_mul, Nat.add_zero, List.getElem_cons_zero] at p3 p4
        exact ⟨b, o, e.1, h4, rfl, p3, p4⟩
  clear hH hT hx hWl hS
  by_cases hneg : x1 < 0
  · have HE : Hid (bindE m (x1, x2) l = 6) := by show bindE m (x1, x2) l = 6; rw [HBE.out, if_pos (.inl hneg)]
    have HF := HNo.out _ HB1.out (by rw [HE.out]; decide)
    have HF : Hid (BindPost m (x1, x2) l hb M n w (w.alloc (.cells #[.int .i64 x1, .int .i64 x2] 23))) := HF
    rw [HE.out]
    go_enter Tryd.func11, Tryd.ntmps11
    go_wp2_with fail
    go_ret
    exact ⟨rfl, HF.out⟩
  · cases hR : rightB [⟨4, ⟨#[]⟩, 0, x1, x2⟩]
    · have ho : oneT ⟨4, ⟨#[]⟩, 0, x1, x2⟩ = [] := by unfold oneT; rw [hR]; rfl
      have HE : Hid (bindE m (x1, x2) l = 6) := by show bindE m (x1, x2) l = 6; rw [HBE.out, if_pos (.inr (.inl ho))]
      simp only [ho] at H27
      rw [HE.out]
      clear hR ho
      go_enter Tryd.func11, Tryd.ntmps11
      go_wp2_with fail
      refine (H27.out _ HB1.out).mono ?_
      rintro e w2 ⟨v2, rfl, hT2, hb2⟩
      obtain ⟨a2, c2, hf2⟩ := hT2.form
      simp only [List.length_nil] at hf2
      subst hf2
      have HB2 : Hid (Below w.heap.size w w2) := HB1.out.trans (hb2.mono HB1.out.size)
      clear hT2
      go_wp2_with fail
      go_ret
      exact ⟨rfl, HNo.out w2 HB2.out (by rw [HE.out]; decide)⟩
    · have ho : oneT ⟨4, ⟨#[]⟩, 0, x1, x2⟩ = [⟨4, ⟨#[]⟩, 0, x1, x2⟩] := by unfold oneT; rw [hR]; rfl
      have HO : Hid (oneT ⟨4, ⟨#[]⟩, 0, x1, x2⟩ ≠ []) := by show _ ≠ _; rw [ho]; simp
      have hneg' : Hid (¬ x1 < 0) := hneg
      simp only [ho] at H27
      clear hR ho
      cases hG : globalB l
      · have HE : Hid (bindE m (x1, x2) l = 6) := by show bindE m (x1, x2) l = 6; rw [HBE.out, if_pos (.inr (.inr hG))]
        simp only [hG] at H28
        rw [HE.out]
        clear hG
        go_enter Tryd.func11, Tryd.ntmps11
        go_wp2_with fail
        refine (H27.out _ HB1.out).mono ?_
        rintro e w2 ⟨v2, rfl, hT2, hb2⟩
        obtain ⟨a2, c2, hf2⟩ := hT2.form
        simp only [List.length_singleton] at hf2
        subst hf2
        have HB2 : Hid (Below w.heap.size w w2) := HB1.out.trans (hb2.mono HB1.out.size)
        clear hT2
        go_wp2_with fail
        refine (H28.out _ HB2.out).mono ?_
        rintro e w3 ⟨rfl, hb3⟩
        have HB3 : Hid (Below w.heap.size w w3) := HB2.out.trans (hb3.mono HB2.out.size)
        go_wp2_with fail
        go_ret
        exact ⟨rfl, HNo.out w3 HB3.out (by rw [HE.out]; decide)⟩
      · have HBE1 : Hid (bindE m (x1, x2) l = if (lookH m (x1, x2)).isSome then 70 else if isVarL l = true ∧ lessN (varL l) (x1, x2) = false then 71 else 0) := by
          show bindE m (x1, x2) l = _
          rw [HBE.out, if_neg]
          rintro (h | h | h)
          · exact hneg'.out h
          · exact HO.out h
          · rw [hG] at h; cases h
        simp only [hG] at H28
        clear hG HBE HO
        have H30 : Hid (∀ W, Calls Tryd.prog 30 #[.agg #[.int .i64 (varL l).1, .int .i64 (varL l).2], .agg #[.int .i64 x1, .int .i64 x2]] W fun e w' => e = .returned (.bool (lessN (varL l) (x1, x2))) ∧ Below W.heap.size W w') := fun W => by
          have := h30 (varL l).1 (varL l).2 x1 x2 W
          rw [less_names (varL l) (x1, x2)] at this
          exact this
        cases hL : lookH m (x1, x2) with
        | some l0 =>
          have HE : Hid (bindE m (x1, x2) l = 70) := by show bindE m (x1, x2) l = 70; rw [HBE1.out, hL]; rfl
          simp only [hL, Option.isSome_some] at H21
          rw [HE.out]
          clear hL HBE1
          go_enter Tryd.func11, Tryd.ntmps11
          go_wp2_with fail
          refine (H27.out _ HB1.out).mono ?_
          rintro e w2 ⟨v2, rfl, hT2, hb2⟩
          obtain ⟨a2, c2, hf2⟩ := hT2.form
          simp only [List.length_singleton] at hf2
          subst hf2
          have HB2 : Hid (Below w.heap.size w w2) := HB1.out.trans (hb2.mono HB1.out.size)
          have hw2 : Below (w.heap.size + 1) (w.alloc (.cells #[.int .i64 x1, .int .i64 x2] 23)) w2 := by simpa using hb2
          clear hT2 hb2
          go_wp2_with fail
          refine (H28.out _ HB2.out).mono ?_
          rintro e w3 ⟨rfl, hb3⟩
          have HB3 : Hid (Below w.heap.size w w3) := HB2.out.trans (hb3.mono HB2.out.size)
          obtain ⟨y0a, y0b⟩ := HBx.out w3 (hw2.trans (hb3.mono (by have := hw2.size; simp at this; omega)))
          go_wp2_with fail
          refine (H21.out _ HB3.out).mono ?_
          rintro e w4 ⟨rfl, hb4⟩
          have HB4 : Hid (Below w.heap.size w w4) := HB3.out.trans (hb4.mono HB3.out.size)
          go_wp2_with fail
          go_ret
          exact ⟨rfl, HNo.out w4 HB4.out (by rw [HE.out]; decide)⟩
        | none =>
          have HL0 : Hid (lookH m (x1, x2) = none) := hL
          have HBE2 : Hid (bindE m (x1, x2) l = if isVarL l = true ∧ lessN (varL l) (x1, x2) = false then 71 else 0) := by show bindE m (x1, x2) l = _; rw [HBE1.out, hL]; rfl
          simp only [hL, Option.isSome_none] at H21
          clear hL HBE1
          cases hv : isVarL l
          · have HE : Hid (bindE m (x1, x2) l = 0) := by show bindE m (x1, x2) l = 0; rw [HBE2.out, hv]; rfl
            have HVs : Hid (isVarL l = true → lessN (varL l) (x1, x2) = true) := fun e => by rw [hv] at e; cases e
            simp only [hv] at H29
            rw [HE.out]
            clear hv HBE2 HVar H30
            go_enter Tryd.func11, Tryd.ntmps11
            go_wp2_with fail
            refine (H27.out _ HB1.out).mono ?_
            rintro e w2 ⟨v2, rfl, hT2, hb2⟩
            obtain ⟨a2, c2, hf2⟩ := hT2.form
            simp only [List.length_singleton] at hf2
            subst hf2
            have HB2 : Hid (Below w.heap.size w w2) := HB1.out.trans (hb2.mono HB1.out.size)
            have hw2 : Below (w.heap.size + 1) (w.alloc (.cells #[.int .i64 x1, .int .i64 x2] 23)) w2 := by simpa using hb2
            clear hT2 hb2 x0a x0b
            go_wp2_with fail
            refine (H28.out _ HB2.out).mono ?_
            rintro e w3 ⟨rfl, hb3⟩
            have HB3 : Hid (Below w.heap.size w w3) := HB2.out.trans (hb3.mono HB2.out.size)
            have hs2 : w.heap.size + 1 ≤ w2.heap.size := by have := hw2.size; simp at this; omega
            have hw3 := hw2.trans (hb3.mono hs2)
            have hs3 : w.heap.size + 1 ≤ w3.heap.size := Nat.le_trans hs2 hb3.size
            obtain ⟨y0a, y0b⟩ := HBx.out w3 hw3
            go_wp2_with fail
            refine (H21.out _ HB3.out).mono ?_
            rintro e w4 ⟨rfl, hb4⟩
            have HB4 : Hid (Below w.heap.size w w4) := HB3.out.trans (hb4.mono HB3.out.size)
            have hw4 := hw3.trans (hb4.mono hs3)
            have hbx4 : w.heap.size < w4.heap.size := by have := hb4.size; omega
            obtain ⟨z0a, z0b⟩ := HBx.out w4 hw4
            clear y0a y0b hb3 hb4 hw2 hw3 hw4
            have hS4 : BdS w4 hb M w.heap.size 0 0 x1 x2 0 0 false w4 := ⟨HCh.out w4 HB4.out, z0a, z0b, (fun e => by cases e), (fun e => by cases e), Below.refl _ _, Nat.lt_of_lt_of_le hhb HB4.out.size, hbx4, (fun e => by cases e)⟩
            go_wp2_with fail
            refine wp_region_noPanic ?_
            refine wp_region_held_drew (S := fun w' => BdS w4 hb M w.heap.size 0 0 x1 x2 0 0 false w') (by kernel_rfl) (bdS_drew hS4) (fun hHeld => ?_)
            refine wpAnyH_take (i := 0) (v := ?_) (by simp only [List.getElem?_toArray, List.getElem?_cons_zero]; rfl) (by kernel_rfl) (by kernel_rfl) (by kernel_rfl) (fun _ _ _ h => h) (Or.inl ⟨by rfl, ?_⟩) (by assumption) ?_
            rotate_left
            · (intro w hSw; (try dsimp only at hSw); go_simp <;> with_reducible rfl)
            try simp only [Act.put, List.setIfInBounds_toArray, List.set_cons_zero, List.set_cons_succ]
            refine wpAnyH_ready (rs := [1]) (by kernel_rfl) (by simp) ?_
            refine AllReadyH.cons (by simp only [List.getElem?_toArray, List.getElem?_cons_zero, List.getElem?_cons_succ]; rfl) (fun K hK => ?_) AllReadyH.nil
            go_simp
            go_at_call 29
            refine (H29.out _ (HB4.out.trans ((bdS_hb (w2 := w4) (by assumption)).mono HB4.out.size))).mono ?_
            rintro e w5 ⟨rfl, hw5⟩
            obtain rfl := hw5
            refine hK.out _ _ ?_ (fun hHeld => ?_)
            · exact (by assumption)
            clear hK K
            try simp only [Act.put, List.setIfInBounds_toArray, List.set_cons_zero, List.set_cons_succ]
            refine wpAnyH_take (i := 2) (v := ?_) (by simp only [List.getElem?_toArray, List.getElem?_cons_zero, List.getElem?_cons_succ]; rfl) (by kernel_rfl) (by kernel_rfl) (by kernel_rfl) (fun _ _ _ h => h) (Or.inl ⟨by rfl, ?_⟩) (by assumption) ?_
            rotate_left
            · (intro w hSw; (try dsimp only at hSw); go_simp <;> with_reducible rfl)
            try simp only [Act.put, List.setIfInBounds_toArray, List.set_cons_zero, List.set_cons_succ]
            refine wpAnyH_take (i := 3) (v := undef) (by simp only [List.getElem?_toArray, List.getElem?_cons_zero, List.getElem?_cons_succ]; rfl) (by kernel_rfl) (by kernel_rfl) (by kernel_rfl) (fun _ _ _ h => h) (Or.inr ⟨by rfl, rfl⟩) (by assumption) ?_
            try simp only [Act.put, List.setIfInBounds_toArray, List.set_cons_zero, List.set_cons_succ]
            refine wpAnyH_take (i := 4) (v := undef) (by simp only [List.getElem?_toArray, List.getElem?_cons_zero, List.getElem?_cons_succ]; rfl) (by kernel_rfl) (by kernel_rfl) (by kernel_rfl) (fun _ _ _ h => h) (Or.inr ⟨by rfl, rfl⟩) (by assumption) ?_
            try simp only [Act.put, List.setIfInBounds_toArray, List.set_cons_zero, List.set_cons_succ]
            refine wpAnyH_take (i := 5) (v := undef) (by simp only [List.getElem?_toArray, List.getElem?_cons_zero, List.getElem?_cons_succ]; rfl) (by kernel_rfl) (by kernel_rfl) (by kernel_rfl) (fun _ _ _ h => h) (Or.inr ⟨by rfl, rfl⟩) (by assumption) ?_
            try simp only [Act.put, List.setIfInBounds_toArray, List.set_cons_zero, List.set_cons_succ]
            refine wpAnyH_take (i := 6) (v := undef) (by simp only [List.getElem?_toArray, List.getElem?_cons_zero, List.getElem?_cons_succ]; rfl) (by kernel_rfl) (by kernel_rfl) (by kernel_rfl) (fun _ _ _ h => h) (Or.inr ⟨by rfl, rfl⟩) (by assumption) ?_
            try simp only [Act.put, List.setIfInBounds_toArray, List.set_cons_zero, List.set_cons_succ]
            refine wpAnyH_take (i := 7) (v := undef) (by simp only [List.getElem?_toArray, List.getElem?_cons_zero, List.getElem?_cons_succ]; rfl) (by kernel_rfl) (by kernel_rfl) (by kernel_rfl) (fun _ _ _ h => h) (Or.inr ⟨by rfl, rfl⟩) (by assumption) ?_
            try simp only [Act.put, List.setIfInBounds_toArray, List.set_cons_zero, List.set_cons_succ]
            refine wpAnyH_take (i := 8) (v := undef) (by simp only [List.getElem?_toArray, List.getElem?_cons_zero, List.getElem?_cons_succ]; rfl) (by kernel_rfl) (by kernel_rfl) (by kernel_rfl) (fun _ _ _ h => h) (Or.inr ⟨by rfl, rfl⟩) (by assumption) ?_
            try simp only [Act.put, List.setIfInBounds_toArray, List.set_cons_zero, List.set_cons_succ]
            refine wpAnyH_take (i := 9) (v := undef) (by simp only [List.getElem?_toArray, List.getElem?_cons_zero, List.getElem?_cons_succ]; rfl) (by kernel_rfl) (by kernel_rfl) (by kernel_rfl) (fun _ _ _ h => h) (Or.inr ⟨by rfl, rfl⟩) (by assumption) ?_
            try simp only [Act.put, List.setIfInBounds_toArray, List.set_cons_zero, List.set_cons_succ]
            refine wpAnyH_take (i := 10) (v := ?_) (by simp only [List.getElem?_toArray, List.getElem?_cons_zero, List.getElem?_cons_succ]; rfl) (by kernel_rfl) (by kernel_rfl) (by kernel_rfl) (fun _ _ _ h => h) (Or.inl ⟨by rfl, ?_⟩) (by assumption) ?_
            rotate_left
            · (intro w hSw; (try dsimp only at hSw); go_simp <;> with_reducible rfl)
            try simp only [Act.put, List.setIfInBounds_toArray, List.set_cons_zero, List.set_cons_succ]
            refine wpAnyH_take (i := 11) (v := ?_) (by simp only [List.getElem?_toArray, List.getElem?_cons_zero, List.getElem?_cons_succ]; rfl) (by kernel_rfl) (by kernel_rfl) (by kernel_rfl) (fun _ _ _ h => h) (Or.inl ⟨by rfl, ?_⟩) (by assumption) ?_
            rotate_left
            · (intro w hSw; (try dsimp only at hSw); go_simp <;> with_reducible rfl)
            try simp only [Act.put, List.setIfInBounds_toArray, List.set_cons_zero, List.set_cons_succ]
            refine wpAnyH_done (by kernel_rfl) ?_ _
            refine NoPanic.normal ?_
            have hS5 : PtS hb M w.heap.size x1 x2 w4.drew := (fun h => ⟨h.1, h.2.1, h.2.2.1⟩) (show BdS w4 hb M w.heap.size _ _ x1 x2 _ _ _ w4.drew by assumption)
            have HB5 : Hid (Below w.heap.size w w4.drew) := HB4.out.trans ((bdS_hb (w2 := w4) (by assumption)).mono HB4.out.size)
            have HH5 : Hid (HpAt w4.drew hb M n D m) := HH.out.below HB5.out
            have hh5 : hb < w4.drew.heap.size := Nat.lt_of_lt_of_le hhb HB5.out.size
            have hbx5 : w.heap.size < w4.drew.heap.size := Nat.lt_of_lt_of_le hbx4 (bdS_hb (w2 := w4) (by assumption)).size
            clear hHeld hS4
            go_wp2_with fail
            refine wp_region_noPanic ?_
            refine wp_region_held_drew (S := fun w' => PtS hb M w.heap.size x1 x2 w') (by kernel_rfl) hS5 (fun hHeld => ?_)
            refine wpAnyH_take (i := 0) (v := ?_) (by simp only [List.getElem?_toArray, List.getElem?_cons_zero]; rfl) (by kernel_rfl) (by kernel_rfl) (by kernel_rfl) (fun _ _ _ h => h) (Or.inl ⟨by rfl, ?_⟩) (by assumption) ?_
            rotate_left
            · (intro w hSw; (try dsimp only at hSw); go_simp <;> with_reducible rfl)
            try simp only [Act.put, List.setIfInBounds_toArray, List.set_cons_zero, List.set_cons_succ]
            refine wpAnyH_take (i := 1) (v := ?_) (by simp only [List.getElem?_toArray, List.getElem?_cons_zero, List.getElem?_cons_succ]; rfl) (by kernel_rfl) (by kernel_rfl) (by kernel_rfl) (fun _ _ _ h => h) (Or.inl ⟨by rfl, ?_⟩) (by assumption) ?_
            rotate_left
            · (intro w hSw; (try dsimp only at hSw); go_simp <;> with_reducible rfl)
            try simp only [Act.put, List.setIfInBounds_toArray, List.set_cons_zero, List.set_cons_succ]
            refine wpAnyH_take (i := 2) (v := ?_) (by simp only [List.getElem?_toArray, List.getElem?_cons_zero, List.getElem?_cons_succ]; rfl) (by kernel_rfl) (by kernel_rfl) (by kernel_rfl) (fun _ _ _ h => h) (Or.inl ⟨by rfl, ?_⟩) (by assumption) ?_
            rotate_left
            · (intro w hSw; (try dsimp only at hSw); go_simp <;> with_reducible rfl)
            try simp only [Act.put, List.setIfInBounds_toArray, List.set_cons_zero, List.set_cons_succ]
            refine wpAnyH_take (i := 3) (v := ?_) (by simp only [List.getElem?_toArray, List.getElem?_cons_zero, List.getElem?_cons_succ]; rfl) (by kernel_rfl) (by kernel_rfl) (by kernel_rfl) (fun _ _ _ h => h) (Or.inl ⟨by rfl, ?_⟩) (by assumption) ?_
            rotate_left
            · (intro w hSw; (try dsimp only at hSw); go_simp <;> with_reducible rfl)
            try simp only [Act.put, List.setIfInBounds_toArray, List.set_cons_zero, List.set_cons_succ]
            refine wpAnyH_take (i := 4) (v := ?_) (by simp only [List.getElem?_toArray, List.getElem?_cons_zero, List.getElem?_cons_succ]; rfl) (by kernel_rfl) (by kernel_rfl) (by kernel_rfl) (fun _ _ _ h => h) (Or.inl ⟨by rfl, ?_⟩) (by assumption) ?_
            rotate_left
            · (intro w hSw; (try dsimp only at hSw); go_simp <;> with_reducible rfl)
            try simp only [Act.put, List.setIfInBounds_toArray, List.set_cons_zero, List.set_cons_succ]
            refine wpAnyH_take (i := 5) (v := ?_) (by simp only [List.getElem?_toArray, List.getElem?_cons_zero, List.getElem?_cons_succ]; rfl) (by kernel_rfl) (by kernel_rfl) (by kernel_rfl) (fun _ _ _ h => h) (Or.inl ⟨by rfl, ?_⟩) (by assumption) ?_
            rotate_left
            · (intro w hSw; (try dsimp only at hSw); go_simp <;> with_reducible rfl)
            try simp only [Act.put, List.setIfInBounds_toArray, List.set_cons_zero, List.set_cons_succ]
            refine wpAnyH_ready (rs := [6]) (by kernel_rfl) (by simp) ?_
            refine AllReadyH.cons (by simp only [List.getElem?_toArray, List.getElem?_cons_zero, List.getElem?_cons_succ]; rfl) (fun K hK => ?_) AllReadyH.nil
            go_simp
            go_at_call 22
            refine (H22.out _ HB5.out.drew).mono ?_
            rintro e w7 ⟨u7, rfl, hT7, _, hb7⟩
            refine hK.out _ _ ?_ (fun hHeld => ?_)
            · exact ptS_to (by assumption) hb7 hh5 hbx5
            clear hK K
            try simp only [Act.put, List.setIfInBounds_toArray, List.set_cons_zero, List.set_cons_succ]
            have hB57 : Below w4.drew.heap.size w4.drew w7 := ((Below.refl _ _).drew).trans hb7
            have HH7 : Hid (HpAt w7 hb M n D m) := HH5.out.below hB57
            have HT7 : Hid (TermAt w7 u7 l) := hT7
            obtain ⟨w8, hrun, hmap8, hturn⟩ := HH7.out.map.store keyed23 Tryd.underlying55 hn (key23 (x1, x2) HX.out) (show heldElem u7 = some (.held u7, []) from rfl)
            have HF8 : Hid (BindPost m (x1, x2) l hb M n w w8) := by
              refine ⟨n + 1, D.put (kLit (x1, x2)) (.held u7), ?_, Nat.le_refl _, keeps_put (HB5.out.trans (hB57.mono HB5.out.size)) hturn⟩
              rw [HYes.out HE.out]
              exact HH7.out.put HX.out HL0.out HT7.out HWl.out HVs.out hmap8 hturn
            have HS8 : Hid (PtS hb M w.heap.size x1 x2 w8) := ptS_turn (by assumption) hturn (Nat.lt_of_lt_of_le hh5 hB57.size) (Nat.lt_of_lt_of_le hbx5 hB57.size) hbM hbxM
            obtain ⟨a7, c7, hf7⟩ := hT7.form
            subst hf7
            clear hT7 hmap8 hturn hb7
            refine wpAnyH_ready (rs := [7]) (by kernel_rfl) (by simp) ?_
            refine AllReadyH.cons (by simp only [List.getElem?_toArray, List.getElem?_cons_zero, List.getElem?_cons_succ]; rfl) (fun K hK => ?_) AllReadyH.nil
            go_simp
            refine hK.out _ _ ?_ (fun hHeld => ?_)
            · exact HS8.out
            clear hK K
            try simp only [Act.put, List.setIfInBounds_toArray, List.set_cons_zero, List.set_cons_succ]
            refine wpAnyH_done (by kernel_rfl) ?_ _
            refine NoPanic.normal ?_
            clear hHeld
            go_wp2_with fail
            go_ret
            exact ⟨rfl, HF8.out⟩
          · obtain ⟨tb, tof, rfl, htb, hl1, t3, t4⟩ := HVar.out hv
            have HT3 : Hid (∀ W, Below w.heap.size w W → W.cell? ⟨tb, tof + 3, none⟩ = some (.int .i64 (varL l).1) ∧ W.cell? ⟨tb, tof + 3 + 1, none⟩ = some (.int .i64 (varL l).2)) := fun W hW => ⟨(hW.cell (p := ⟨tb, tof + 3, none⟩) htb).trans t3, (hW.cell (p := ⟨tb, tof + 3 + 1, none⟩) htb).trans t4⟩
            have h0l : (0 : Int) < (l.length : Int) := by omega
            have h0n : 0 < l.length := by omega
            clear t3 t4 HVar hl1
            simp only [hv] at H29
            cases hle : lessN (varL l) (x1, x2)
            · have HE : Hid (bindE m (x1, x2) l = 71) := by show bindE m (x1, x2) l = 71; rw [HBE2.out, hv, hle]; rfl
              simp only [hle] at H30
              rw [HE.out]
              clear hv hle HBE2
              generalize (varL l).1 = y1 at *
              generalize (varL l).2 = y2 at *
              go_enter Tryd.func11, Tryd.ntmps11
              go_wp2_with fail
              refine (H27.out _ HB1.out).mono ?_
              rintro e w2 ⟨v2, rfl, hT2, hb2⟩
              obtain ⟨a2, c2, hf2⟩ := hT2.form
              simp only [List.length_singleton] at hf2
              subst hf2
              have HB2 : Hid (Below w.heap.size w w2) := HB1.out.trans (hb2.mono HB1.out.size)
              have hw2 : Below (w.heap.size + 1) (w.alloc (.cells #[.int .i64 x1, .int .i64 x2] 23)) w2 := by simpa using hb2
              clear hT2 hb2 x0a x0b
              go_wp2_with fail
              refine (H28.out _ HB2.out).mono ?_
              rintro e w3 ⟨rfl, hb3⟩
              have HB3 : Hid (Below w.heap.size w w3) := HB2.out.trans (hb3.mono HB2.out.size)
              have hs2 : w.heap.size + 1 ≤ w2.heap.size := by have := hw2.size; simp at this; omega
              have hw3 := hw2.trans (hb3.mono hs2)
              have hs3 : w.heap.size + 1 ≤ w3.heap.size := Nat.le_trans hs2 hb3.size
              obtain ⟨y0a, y0b⟩ := HBx.out w3 hw3
              go_wp2_with fail
              refine (H21.out _ HB3.out).mono ?_
              rintro e w4 ⟨rfl, hb4⟩
              have HB4 : Hid (Below w.heap.size w w4) := HB3.out.trans (hb4.mono HB3.out.size)
              have hw4 := hw3.trans (hb4.mono hs3)
              have hbx4 : w.heap.size < w4.heap.size := by have := hb4.size; omega
              obtain ⟨z0a, z0b⟩ := HBx.out w4 hw4
              clear y0a y0b hb3 hb4 hw2 hw3 hw4
              obtain ⟨z3, z4⟩ := HT3.out w4 HB4.out
              have hS4 : BdS w4 hb M w.heap.size tb (tof + 3) x1 x2 y1 y2 true w4 := ⟨HCh.out w4 HB4.out, z0a, z0b, (fun _ => z3), (fun _ => z4), Below.refl _ _, Nat.lt_of_lt_of_le hhb HB4.out.size, hbx4, (fun _ => Nat.lt_of_lt_of_le htb HB4.out.size)⟩
              clear z3 z4
              go_wp2_with fail
              refine wp_region_noPanic ?_
              refine wp_region_held_drew (S := fun w' => BdS w4 hb M w.heap.size tb (tof + 3) x1 x2 y1 y2 true w') (by kernel_rfl) (bdS_drew hS4) (fun hHeld => ?_)
              refine wpAnyH_take (i := 0) (v := ?_) (by simp only [List.getElem?_toArray, List.getElem?_cons_zero]; rfl) (by kernel_rfl) (by kernel_rfl) (by kernel_rfl) (fun _ _ _ h => h) (Or.inl ⟨by rfl, ?_⟩) (by assumption) ?_
              rotate_left
              · (intro w hSw; (try dsimp only at hSw); go_simp <;> with_reducible rfl)
              try simp only [Act.put, List.setIfInBounds_toArray, List.set_cons_zero, List.set_cons_succ]
              refine wpAnyH_ready (rs := [1]) (by kernel_rfl) (by simp) ?_
              refine AllReadyH.cons (by simp only [List.getElem?_toArray, List.getElem?_cons_zero, List.getElem?_cons_succ]; rfl) (fun K hK => ?_) AllReadyH.nil
              go_simp
              go_at_call 29
              refine (H29.out _ (HB4.out.trans ((bdS_hb (w2 := w4) (by assumption)).mono HB4.out.size))).mono ?_
              rintro e w5 ⟨rfl, hw5⟩
              obtain rfl := hw5
              refine hK.out _ _ ?_ (fun hHeld => ?_)
              · exact (by assumption)
              clear hK K
              try simp only [Act.put, List.setIfInBounds_toArray, List.set_cons_zero, List.set_cons_succ]
              refine wpAnyH_take (i := 2) (v := ?_) (by simp only [List.getElem?_toArray, List.getElem?_cons_zero, List.getElem?_cons_succ]; rfl) (by kernel_rfl) (by kernel_rfl) (by kernel_rfl) (fun _ _ _ h => h) (Or.inl ⟨by rfl, ?_⟩) (by assumption) ?_
              rotate_left
              · (intro w hSw; (try dsimp only at hSw); go_simp <;> with_reducible rfl)
              try simp only [Act.put, List.setIfInBounds_toArray, List.set_cons_zero, List.set_cons_succ]
              refine wpAnyH_take (i := 3) (v := ?_) (by simp only [List.getElem?_toArray, List.getElem?_cons_zero, List.getElem?_cons_succ]; rfl) (by kernel_rfl) (by kernel_rfl) (by kernel_rfl) (fun _ _ _ h => h) (Or.inl ⟨by rfl, ?_⟩) (by assumption) ?_
              rotate_left
              · (intro w hSw; (try dsimp only at hSw); go_simp <;> with_reducible rfl)
              try simp only [Act.put, List.setIfInBounds_toArray, List.set_cons_zero, List.set_cons_succ]
              refine wpAnyH_take (i := 4) (v := ?_) (by simp only [List.getElem?_toArray, List.getElem?_cons_zero, List.getElem?_cons_succ]; rfl) (by kernel_rfl) (by kernel_rfl) (by kernel_rfl) (fun _ _ _ h => h) (Or.inl ⟨by rfl, ?_⟩) (by assumption) ?_
              rotate_left
              · (intro w hSw; (try dsimp only at hSw); go_simp <;> with_reducible rfl)
              try simp only [Act.put, List.setIfInBounds_toArray, List.set_cons_zero, List.set_cons_succ]
              refine wpAnyH_take (i := 5) (v := ?_) (by simp only [List.getElem?_toArray, List.getElem?_cons_zero, List.getElem?_cons_succ]; rfl) (by kernel_rfl) (by kernel_rfl) (by kernel_rfl) (fun _ _ _ h => h) (Or.inl ⟨by rfl, ?_⟩) (by assumption) ?_
              rotate_left
              · (intro w hSw; (try dsimp only at hSw); go_simp <;> with_reducible rfl)
              try simp only [Act.put, List.setIfInBounds_toArray, List.set_cons_zero, List.set_cons_succ]
              refine wpAnyH_take (i := 6) (v := ?_) (by simp only [List.getElem?_toArray, List.getElem?_cons_zero, List.getElem?_cons_succ]; rfl) (by kernel_rfl) (by kernel_rfl) (by kernel_rfl) (fun _ _ _ h => h) (Or.inl ⟨by rfl, ?_⟩) (by assumption) ?_
              rotate_left
              · (intro w hSw; (try dsimp only at hSw); go_simp <;> with_reducible rfl)
              try simp only [Act.put, List.setIfInBounds_toArray, List.set_cons_zero, List.set_cons_succ]
              refine wpAnyH_take (i := 7) (v := ?_) (by simp only [List.getElem?_toArray, List.getElem?_cons_zero, List.getElem?_cons_succ]; rfl) (by kernel_rfl) (by kernel_rfl) (by kernel_rfl) (fun _ _ _ h => h) (Or.inl ⟨by rfl, ?_⟩) (by assumption) ?_
              rotate_left
              · (intro w hSw; (try dsimp only at hSw); go_simp <;> with_reducible rfl)
              try simp only [Act.put, List.setIfInBounds_toArray, List.set_cons_zero, List.set_cons_succ]
              refine wpAnyH_ready (rs := [8]) (by kernel_rfl) (by simp) ?_
              refine AllReadyH.cons (by simp only [List.getElem?_toArray, List.getElem?_cons_zero, List.getElem?_cons_succ]; rfl) (fun K hK => ?_) AllReadyH.nil
              go_simp
              go_at_call 30
              refine (H30.out _).mono ?_
              rintro e w6 ⟨rfl, hb6⟩
              refine hK.out _ _ ?_ (fun hHeld => ?_)
              · exact bdS_below (by assumption) hb6
              clear hK K
              try simp only [Act.put, List.setIfInBounds_toArray, List.set_cons_zero, List.set_cons_succ]
              refine wpAnyH_take (i := 9) (v := ?_) (by simp only [List.getElem?_toArray, List.getElem?_cons_zero, List.getElem?_cons_succ]; rfl) (by kernel_rfl) (by kernel_rfl) (by kernel_rfl) (fun _ _ _ h => h) (Or.inl ⟨by rfl, ?_⟩) (by assumption) ?_
              rotate_left
              · (intro w hSw; (try dsimp only at hSw); go_simp <;> with_reducible rfl)
              try simp only [Act.put, List.setIfInBounds_toArray, List.set_cons_zero, List.set_cons_succ]
              refine wpAnyH_take (i := 10) (v := ?_) (by simp only [List.getElem?_toArray, List.getElem?_cons_zero, List.getElem?_cons_succ]; rfl) (by kernel_rfl) (by kernel_rfl) (by kernel_rfl) (fun _ _ _ h => h) (Or.inl ⟨by rfl, ?_⟩) (by assumption) ?_
              rotate_left
              · (intro w hSw; (try dsimp only at hSw); go_simp <;> with_reducible rfl)
              try simp only [Act.put, List.setIfInBounds_toArray, List.set_cons_zero, List.set_cons_succ]
              refine wpAnyH_take (i := 11) (v := ?_) (by simp only [List.getElem?_toArray, List.getElem?_cons_zero, List.getElem?_cons_succ]; rfl) (by kernel_rfl) (by kernel_rfl) (by kernel_rfl) (fun _ _ _ h => h) (Or.inl ⟨by rfl, ?_⟩) (by assumption) ?_
              rotate_left
              · (intro w hSw; (try dsimp only at hSw); go_simp <;> with_reducible rfl)
              try simp only [Act.put, List.setIfInBounds_toArray, List.set_cons_zero, List.set_cons_succ]
              refine wpAnyH_done (by kernel_rfl) ?_ _
              refine NoPanic.normal ?_
              have HB6 : Hid (Below w.heap.size w w6) := HB4.out.trans ((bdS_hb (w2 := w4) (by assumption)).mono HB4.out.size)
              clear hHeld
              go_wp2_with fail
              go_ret
              exact ⟨rfl, HNo.out w6 HB6.out (by rw [HE.out]; decide)⟩
            · have HE : Hid (bindE m (x1, x2) l = 0) := by show bindE m (x1, x2) l = 0; rw [HBE2.out, hv, hle]; rfl
              have HVs : Hid (isVarL l = true → lessN (varL l) (x1, x2) = true) := fun _ => hle
              simp only [hle] at H30
              rw [HE.out]
              clear hv hle HBE2
              generalize (varL l).1 = y1 at *
              generalize (varL l).2 = y2 at *
              go_enter Tryd.func11, Tryd.ntmps11
              go_wp2_with fail
              refine (H27.out _ HB1.out).mono ?_
              rintro e w2 ⟨v2, rfl, hT2, hb2⟩
              obtain ⟨a2, c2, hf2⟩ := hT2.form
              simp only [List.length_singleton] at hf2
              subst hf2
              have HB2 : Hid (Below w.heap.size w w2) := HB1.out.trans (hb2.mono HB1.out.size)
              have hw2 : Below (w.heap.size + 1) (w.alloc (.cells #[.int .i64 x1, .int .i64 x2] 23)) w2 := by simpa using hb2
              clear hT2 hb2 x0a x0b
              go_wp2_with fail
              refine (H28.out _ HB2.out).mono ?_
              rintro e w3 ⟨rfl, hb3⟩
              have HB3 : Hid (Below w.heap.size w w3) := HB2.out.trans (hb3.mono HB2.out.size)
              have hs2 : w.heap.size + 1 ≤ w2.heap.size := by have := hw2.size; simp at this; omega
              have hw3 := hw2.trans (hb3.mono hs2)
              have hs3 : w.heap.size + 1 ≤ w3.heap.size := Nat.le_trans hs2 hb3.size
              obtain ⟨y0a, y0b⟩ := HBx.out w3 hw3
              go_wp2_with fail
              refine (H21.out _ HB3.out).mono ?_
              rintro e w4 ⟨rfl, hb4⟩
              have HB4 : Hid (Below w.heap.size w w4) := HB3.out.trans (hb4.mono HB3.out.size)
              have hw4 := hw3.trans (hb4.mono hs3)
              have hbx4 : w.heap.size < w4.heap.size := by have := hb4.size; omega
              obtain ⟨z0a, z0b⟩ := HBx.out w4 hw4
              clear y0a y0b hb3 hb4 hw2 hw3 hw4
              obtain ⟨z3, z4⟩ := HT3.out w4 HB4.out
              have hS4 : BdS w4 hb M w.heap.size tb (tof + 3) x1 x2 y1 y2 true w4 := ⟨HCh.out w4 HB4.out, z0a, z0b, (fun _ => z3), (fun _ => z4), Below.refl _ _, Nat.lt_of_lt_of_le hhb HB4.out.size, hbx4, (fun _ => Nat.lt_of_lt_of_le htb HB4.out.size)⟩
              clear z3 z4
              go_wp2_with fail
              refine wp_region_noPanic ?_
              refine wp_region_held_drew (S := fun w' => BdS w4 hb M w.heap.size tb (tof + 3) x1 x2 y1 y2 true w') (by kernel_rfl) (bdS_drew hS4) (fun hHeld => ?_)
              refine wpAnyH_take (i := 0) (v := ?_) (by simp only [List.getElem?_toArray, List.getElem?_cons_zero]; rfl) (by kernel_rfl) (by kernel_rfl) (by kernel_rfl) (fun _ _ _ h => h) (Or.inl ⟨by rfl, ?_⟩) (by assumption) ?_
              rotate_left
              · (intro w hSw; (try dsimp only at hSw); go_simp <;> with_reducible rfl)
              try simp only [Act.put, List.setIfInBounds_toArray, List.set_cons_zero, List.set_cons_succ]
              refine wpAnyH_ready (rs := [1]) (by kernel_rfl) (by simp) ?_
              refine AllReadyH.cons (by simp only [List.getElem?_toArray, List.getElem?_cons_zero, List.getElem?_cons_succ]; rfl) (fun K hK => ?_) AllReadyH.nil
              go_simp
              go_at_call 29
              refine (H29.out _ (HB4.out.trans ((bdS_hb (w2 := w4) (by assumption)).mono HB4.out.size))).mono ?_
              rintro e w5 ⟨rfl, hw5⟩
              obtain rfl := hw5
              refine hK.out _ _ ?_ (fun hHeld => ?_)
              · exact (by assumption)
              clear hK K
              try simp only [Act.put, List.setIfInBounds_toArray, List.set_cons_zero, List.set_cons_succ]
              refine wpAnyH_take (i := 2) (v := ?_) (by simp only [List.getElem?_toArray, List.getElem?_cons_zero, List.getElem?_cons_succ]; rfl) (by kernel_rfl) (by kernel_rfl) (by kernel_rfl) (fun _ _ _ h => h) (Or.inl ⟨by rfl, ?_⟩) (by assumption) ?_
              rotate_left
              · (intro w hSw; (try dsimp only at hSw); go_simp <;> with_reducible rfl)
              try simp only [Act.put, List.setIfInBounds_toArray, List.set_cons_zero, List.set_cons_succ]
              refine wpAnyH_take (i := 3) (v := ?_) (by simp only [List.getElem?_toArray, List.getElem?_cons_zero, List.getElem?_cons_succ]; rfl) (by kernel_rfl) (by kernel_rfl) (by kernel_rfl) (fun _ _ _ h => h) (Or.inl ⟨by rfl, ?_⟩) (by assumption) ?_
              rotate_left
              · (intro w hSw; (try dsimp only at hSw); go_simp <;> with_reducible rfl)
              try simp only [Act.put, List.setIfInBounds_toArray, List.set_cons_zero, List.set_cons_succ]
              refine wpAnyH_take (i := 4) (v := ?_) (by simp only [List.getElem?_toArray, List.getElem?_cons_zero, List.getElem?_cons_succ]; rfl) (by kernel_rfl) (by kernel_rfl) (by kernel_rfl) (fun _ _ _ h => h) (Or.inl ⟨by rfl, ?_⟩) (by assumption) ?_
              rotate_left
              · (intro w hSw; (try dsimp only at hSw); go_simp <;> with_reducible rfl)
              try simp only [Act.put, List.setIfInBounds_toArray, List.set_cons_zero, List.set_cons_succ]
              refine wpAnyH_take (i := 5) (v := ?_) (by simp only [List.getElem?_toArray, List.getElem?_cons_zero, List.getElem?_cons_succ]; rfl) (by kernel_rfl) (by kernel_rfl) (by kernel_rfl) (fun _ _ _ h => h) (Or.inl ⟨by rfl, ?_⟩) (by assumption) ?_
              rotate_left
              · (intro w hSw; (try dsimp only at hSw); go_simp <;> with_reducible rfl)
              try simp only [Act.put, List.setIfInBounds_toArray, List.set_cons_zero, List.set_cons_succ]
              refine wpAnyH_take (i := 6) (v := ?_) (by simp only [List.getElem?_toArray, List.getElem?_cons_zero, List.getElem?_cons_succ]; rfl) (by kernel_rfl) (by kernel_rfl) (by kernel_rfl) (fun _ _ _ h => h) (Or.inl ⟨by rfl, ?_⟩) (by assumption) ?_
              rotate_left
              · (intro w hSw; (try dsimp only at hSw); go_simp <;> with_reducible rfl)
              try simp only [Act.put, List.setIfInBounds_toArray, List.set_cons_zero, List.set_cons_succ]
              refine wpAnyH_take (i := 7) (v := ?_) (by simp only [List.getElem?_toArray, List.getElem?_cons_zero, List.getElem?_cons_succ]; rfl) (by kernel_rfl) (by kernel_rfl) (by kernel_rfl) (fun _ _ _ h => h) (Or.inl ⟨by rfl, ?_⟩) (by assumption) ?_
              rotate_left
              · (intro w hSw; (try dsimp only at hSw); go_simp <;> with_reducible rfl)
              try simp only [Act.put, List.setIfInBounds_toArray, List.set_cons_zero, List.set_cons_succ]
              refine wpAnyH_ready (rs := [8]) (by kernel_rfl) (by simp) ?_
              refine AllReadyH.cons (by simp only [List.getElem?_toArray, List.getElem?_cons_zero, List.getElem?_cons_succ]; rfl) (fun K hK => ?_) AllReadyH.nil
              go_simp
              go_at_call 30
              refine (H30.out _).mono ?_
              rintro e w6 ⟨rfl, hb6⟩
              refine hK.out _ _ ?_ (fun hHeld => ?_)
              · exact bdS_below (by assumption) hb6
              clear hK K
              try simp only [Act.put, List.setIfInBounds_toArray, List.set_cons_zero, List.set_cons_succ]
              refine wpAnyH_take (i := 9) (v := ?_) (by simp only [List.getElem?_toArray, List.getElem?_cons_zero, List.getElem?_cons_succ]; rfl) (by kernel_rfl) (by kernel_rfl) (by kernel_rfl) (fun _ _ _ h => h) (Or.inl ⟨by rfl, ?_⟩) (by assumption) ?_
              rotate_left
              · (intro w hSw; (try dsimp only at hSw); go_simp <;> with_reducible rfl)
              try simp only [Act.put, List.setIfInBounds_toArray, List.set_cons_zero, List.set_cons_succ]
              refine wpAnyH_take (i := 10) (v := ?_) (by simp only [List.getElem?_toArray, List.getElem?_cons_zero, List.getElem?_cons_succ]; rfl) (by kernel_rfl) (by kernel_rfl) (by kernel_rfl) (fun _ _ _ h => h) (Or.inl ⟨by rfl, ?_⟩) (by assumption) ?_
              rotate_left
              · (intro w hSw; (try dsimp only at hSw); go_simp <;> with_reducible rfl)
              try simp only [Act.put, List.setIfInBounds_toArray, List.set_cons_zero, List.set_cons_succ]
              refine wpAnyH_take (i := 11) (v := ?_) (by simp only [List.getElem?_toArray, List.getElem?_cons_zero, List.getElem?_cons_succ]; rfl) (by kernel_rfl) (by kernel_rfl) (by kernel_rfl) (fun _ _ _ h => h) (Or.inl ⟨by rfl, ?_⟩) (by assumption) ?_
              rotate_left
              · (intro w hSw; (try dsimp only at hSw); go_simp <;> with_reducible rfl)
              try simp only [Act.put, List.setIfInBounds_toArray, List.set_cons_zero, List.set_cons_succ]
              refine wpAnyH_done (by kernel_rfl) ?_ _
              refine NoPanic.normal ?_
              have hS5 : PtS hb M w.heap.size x1 x2 w6 := (fun h => ⟨h.1, h.2.1, h.2.2.1⟩) (show BdS w4 hb M w.heap.size _ _ x1 x2 _ _ _ w6 by assumption)
              have HB5 : Hid (Below w.heap.size w w6) := HB4.out.trans ((bdS_hb (w2 := w4) (by assumption)).mono HB4.out.size)
              have HH5 : Hid (HpAt w6 hb M n D m) := HH.out.below HB5.out
              have hh5 : hb < w6.heap.size := Nat.lt_of_lt_of_le hhb HB5.out.size
              have hbx5 : w.heap.size < w6.heap.size := Nat.lt_of_lt_of_le hbx4 (bdS_hb (w2 := w4) (by assumption)).size
              clear hHeld hS4
              go_wp2_with fail
              refine wp_region_noPanic ?_
              refine wp_region_held_drew (S := fun w' => PtS hb M w.heap.size x1 x2 w') (by kernel_rfl) hS5 (fun hHeld => ?_)
              refine wpAnyH_take (i := 0) (v := ?_) (by simp only [List.getElem?_toArray, List.getElem?_cons_zero]; rfl) (by kernel_rfl) (by kernel_rfl) (by kernel_rfl) (fun _ _ _ h => h) (Or.inl ⟨by rfl, ?_⟩) (by assumption) ?_
              rotate_left
              · (intro w hSw; (try dsimp only at hSw); go_simp <;> with_reducible rfl)
              try simp only [Act.put, List.setIfInBounds_toArray, List.set_cons_zero, List.set_cons_succ]
              refine wpAnyH_take (i := 1) (v := ?_) (by simp only [List.getElem?_toArray, List.getElem?_cons_zero, List.getElem?_cons_succ]; rfl) (by kernel_rfl) (by kernel_rfl) (by kernel_rfl) (fun _ _ _ h => h) (Or.inl ⟨by rfl, ?_⟩) (by assumption) ?_
              rotate_left
              · (intro w hSw; (try dsimp only at hSw); go_simp <;> with_reducible rfl)
              try simp only [Act.put, List.setIfInBounds_toArray, List.set_cons_zero, List.set_cons_succ]
              refine wpAnyH_take (i := 2) (v := ?_) (by simp only [List.getElem?_toArray, List.getElem?_cons_zero, List.getElem?_cons_succ]; rfl) (by kernel_rfl) (by kernel_rfl) (by kernel_rfl) (fun _ _ _ h => h) (Or.inl ⟨by rfl, ?_⟩) (by assumption) ?_
              rotate_left
              · (intro w hSw; (try dsimp only at hSw); go_simp <;> with_reducible rfl)
              try simp only [Act.put, List.setIfInBounds_toArray, List.set_cons_zero, List.set_cons_succ]
              refine wpAnyH_take (i := 3) (v := ?_) (by simp only [List.getElem?_toArray, List.getElem?_cons_zero, List.getElem?_cons_succ]; rfl) (by kernel_rfl) (by kernel_rfl) (by kernel_rfl) (fun _ _ _ h => h) (Or.inl ⟨by rfl, ?_⟩) (by assumption) ?_
              rotate_left
              · (intro w hSw; (try dsimp only at hSw); go_simp <;> with_reducible rfl)
              try simp only [Act.put, List.setIfInBounds_toArray, List.set_cons_zero, List.set_cons_succ]
              refine wpAnyH_take (i := 4) (v := ?_) (by simp only [List.getElem?_toArray, List.getElem?_cons_zero, List.getElem?_cons_succ]; rfl) (by kernel_rfl) (by kernel_rfl) (by kernel_rfl) (fun _ _ _ h => h) (Or.inl ⟨by rfl, ?_⟩) (by assumption) ?_
              rotate_left
              · (intro w hSw; (try dsimp only at hSw); go_simp <;> with_reducible rfl)
              try simp only [Act.put, List.setIfInBounds_toArray, List.set_cons_zero, List.set_cons_succ]
              refine wpAnyH_take (i := 5) (v := ?_) (by simp only [List.getElem?_toArray, List.getElem?_cons_zero, List.getElem?_cons_succ]; rfl) (by kernel_rfl) (by kernel_rfl) (by kernel_rfl) (fun _ _ _ h => h) (Or.inl ⟨by rfl, ?_⟩) (by assumption) ?_
              rotate_left
              · (intro w hSw; (try dsimp only at hSw); go_simp <;> with_reducible rfl)
              try simp only [Act.put, List.setIfInBounds_toArray, List.set_cons_zero, List.set_cons_succ]
              refine wpAnyH_ready (rs := [6]) (by kernel_rfl) (by simp) ?_
              refine AllReadyH.cons (by simp only [List.getElem?_toArray, List.getElem?_cons_zero, List.getElem?_cons_succ]; rfl) (fun K hK => ?_) AllReadyH.nil
              go_simp
              go_at_call 22
              refine (H22.out _ HB5.out.drew).mono ?_
              rintro e w7 ⟨u7, rfl, hT7, _, hb7⟩
              refine hK.out _ _ ?_ (fun hHeld => ?_)
              · exact ptS_to (by assumption) hb7 hh5 hbx5
              clear hK K
              try simp only [Act.put, List.setIfInBounds_toArray, List.set_cons_zero, List.set_cons_succ]
              have hB57 : Below w6.heap.size w6 w7 := ((Below.refl _ _).drew).trans hb7
              have HH7 : Hid (HpAt w7 hb M n D m) := HH5.out.below hB57
              have HT7 : Hid (TermAt w7 u7 l) := hT7
              obtain ⟨w8, hrun, hmap8, hturn⟩ := HH7.out.map.store keyed23 Tryd.underlying55 hn (key23 (x1, x2) HX.out) (show heldElem u7 = some (.held u7, []) from rfl)
              have HF8 : Hid (BindPost m (x1, x2) l hb M n w w8) := by
                refine ⟨n + 1, D.put (kLit (x1, x2)) (.held u7), ?_, Nat.le_refl _, keeps_put (HB5.out.trans (hB57.mono HB5.out.size)) hturn⟩
                rw [HYes.out HE.out]
                exact HH7.out.put HX.out HL0.out HT7.out HWl.out HVs.out hmap8 hturn
              have HS8 : Hid (PtS hb M w.heap.size x1 x2 w8) := ptS_turn (by assumption) hturn (Nat.lt_of_lt_of_le hh5 hB57.size) (Nat.lt_of_lt_of_le hbx5 hB57.size) hbM hbxM
              obtain ⟨a7, c7, hf7⟩ := hT7.form
              subst hf7
              clear hT7 hmap8 hturn hb7
              refine wpAnyH_ready (rs := [7]) (by kernel_rfl) (by simp) ?_
              refine AllReadyH.cons (by simp only [List.getElem?_toArray, List.getElem?_cons_zero, List.getElem?_cons_succ]; rfl) (fun K hK => ?_) AllReadyH.nil
              go_simp
              refine hK.out _ _ ?_ (fun hHeld => ?_)
              · exact HS8.out
              clear hK K
              try simp only [Act.put, List.setIfInBounds_toArray, List.set_cons_zero, List.set_cons_succ]
              refine wpAnyH_done (by kernel_rfl) ?_ _
              refine NoPanic.normal ?_
              clear hHeld
              go_wp2_with fail
              go_ret
              exact ⟨rfl, HF8.out⟩
end Go.Proofs.YteikdgjlhdgapaaDoor
namespace Go.Proofs.YteikdgjlhdgapaaDoor
open Go.RowKit
attribute [local go_sem ↓] Go.wp_at_zero Go.wp_at_succ
def lxC : C := ⟨4, ⟨#[]⟩, 0, 0, 1⟩
def liC (n : Int) : C := ⟨1, ⟨#[]⟩, n, 0, 0⟩
def loC (t : ByteArray) : C := ⟨3, t, 2, 0, 0⟩
def lvT : List C := [loC ⟨#[43]⟩, lxC, loC ⟨#[42]⟩, liC 2, liC 3]
def lvH : Hp := [((0, 1), [liC 1])]
theorem lv_bind : bindE [] (0, 1) [liC 1] = 0 := by kernel_rfl
theorem lv_bound : bindH [] (0, 1) [liC 1] = lvH := by
  unfold bindH
  rw [if_pos lv_bind]
  rfl
theorem lv_right : rightB lvT = true := by kernel_rfl
theorem lv_int (m : Hp) (d : Nat) (n : Int) (r : List C) (names : List Nm) : Sm m (d + 1) (liC n :: r) names n 1 r names := Sm.leaf (e := liC n) (r' := []) (show (1 : Int) ≠ 3 by decide) ⟨.here _, rfl⟩
theorem lv_mul (m : Hp) (d : Nat) (names : List Nm) : Sm m (d + 2) [loC ⟨#[42]⟩, liC 2, liC 3] names 6 1 [] names := by
  have h := Sm.op (m := m) (d := d + 1) (c := loC ⟨#[42]⟩) (r := [liC 2, liC 3]) (names := names) (i := 2) (nums := [2, 3]) (o := 1) (rest := []) (names' := names) rfl (by omega) (by kernel_rfl) ?_ ?_ ?_
  · exact h
  · intro j hj
    rcases j with _ | _ | j
    · kernel_rfl
    · kernel_rfl
    · omega
  · exact .next (lv_int m d 2 _ names) (by decide) (by decide) (.next (lv_int m d 3 _ names) (by decide) (by decide) .done)
  · intro _
    refine ⟨rfl, fun x hx => ?_⟩
    simp at hx
    rcases hx with rfl | rfl <;> (unfold okI; omega)
theorem lv_sum : Sm lvH 3 lvT [] 7 1 [] [] := by
  have hx : Sm lvH 2 (lxC :: [loC ⟨#[42]⟩, liC 2, liC 3]) [] 1 1 [loC ⟨#[42]⟩, liC 2, liC 3] [] := Sm.leaf (e := liC 1) (r' := []) (by decide) ⟨.step (l' := [liC 1]) (by kernel_rfl) (.here _), rfl⟩
  have h := Sm.op (m := lvH) (d := 2) (c := loC ⟨#[43]⟩) (r := [lxC, loC ⟨#[42]⟩, liC 2, liC 3]) (names := []) (i := 0) (nums := [1, 6]) (o := 1) (rest := []) (names' := []) rfl (by omega) (by kernel_rfl) (fun j hj => by omega) ?_ ?_
  · exact h
  · exact .next hx (by decide) (by decide) (.next (lv_mul lvH 0 []) (by decide) (by decide) .done)
  · intro _
    refine ⟨rfl, fun x hx => ?_⟩
    simp at hx
    rcases hx with rfl | rfl <;> (unfold okI; omega)
theorem lv_open : Sm [] 3 lvT [] 0 3 [] [(0, 1)] := by
  have hx : Sm [] 2 (lxC :: [loC ⟨#[42]⟩, liC 2, liC 3]) [] 0 3 [loC ⟨#[42]⟩, liC 2, liC 3] [(0, 1)] := Sm.leaf (e := lxC) (r' := []) (by decide) ⟨.here _, rfl⟩
  have h := Sm.op (m := []) (d := 2) (c := loC ⟨#[43]⟩) (r := [lxC, loC ⟨#[42]⟩, liC 2, liC 3]) (names := []) (i := 0) (nums := [0, 6]) (o := 3) (rest := []) (names' := [(0, 1)]) rfl (by omega) (by kernel_rfl) (fun j hj => by omega) ?_ (fun h => by cases h)
  · exact h
  · exact .next hx (by decide) (by decide) (.next (lv_mul [] 0 [(0, 1)]) (by decide) (by decide) .done)
theorem lv_reck : reckS ⟨#[100, 105, 118]⟩ [-7, 2] = (-4, true) := by kernel_rfl
theorem lvH_ok : HpOk lvH := by
  intro x l h
  unfold lookH lvH at h
  simp only [List.find?_cons, List.find?_nil] at h
  split at h
  · simp at h; subst h; simp
  · simp at h
theorem nil_ok : HpOk [] := by
  intro x l h
  simp [lookH] at h
end Go.Proofs.YteikdgjlhdgapaaDoor
namespace Go.Proofs.YteikdgjlhdgapaaDoor
open Go.RowKit
attribute [local go_sem ↓] Go.wp_at_zero Go.wp_at_succ
theorem names_one {w : World} {v : Value} {x : Nm} (h : NamesR w v [x]) : ∃ g cap, v = .slice (some ⟨g, 0, none⟩) 1 cap ∧ g < w.heap.size ∧ w.cell? ⟨g, 0, none⟩ = some (.int .i64 x.1) ∧ w.cell? ⟨g, 1, none⟩ = some (.int .i64 x.2) := by
  obtain ⟨base, h0, h⟩ := h
  rcases h with ⟨_, h2⟩ | ⟨g, cap, cur, e1, e2, e3, e4, e5, e6, e7⟩
  · simp at h2
  · have hr := range_of_owns e3 e7
    exact ⟨g, cap, e1, (Array.getElem?_eq_some_iff.1 e3).1, hr 0 _ rfl, hr 1 _ rfl⟩
theorem lv_wf : ∀ c ∈ lvT, wfN (c.vn, c.vk) := by
  intro c hc
  simp only [lvT, List.mem_cons, List.not_mem_nil, or_false] at hc
  rcases hc with rfl | rfl | rfl | rfl | rfl <;> exact ⟨by decide, by decide⟩
theorem lv_term (w : World) : TermAt (w.alloc (.cells (flat lvT).toArray 54)) (.slice (some ⟨w.heap.size, 0, none⟩) 5 5) lvT := by
  refine ⟨⟨by decide, ?_⟩, Or.inr ⟨w.heap.size, 0, 5, rfl, Nat.le_refl _, by simp [maxLen], range_new w (flat lvT) 54, by simp⟩⟩
  intro c hc
  simp only [lvT, List.mem_cons, List.not_mem_nil, or_false] at hc
  rcases hc with rfl | rfl | rfl | rfl | rfl <;> decide
theorem ints_new (w : World) (ns : List Int) (hl : ns.length ≤ maxLen) : IntsR (w.alloc (.cells (ns.map (Value.int .i64)).toArray 3)) (.slice (some ⟨w.heap.size, 0, none⟩) ns.length ns.length) ns := ⟨hl, .inr ⟨w.heap.size, 0, ns.length, rfl, by simp, range_new w _ 3⟩⟩
set_option maxRecDepth 100000 in
set_option maxHeartbeats 8000000 in
theorem h19 (w : World) (hS : Signs w) : Calls Tryd.prog 19 #[] w fun e w' => e = .returned (.bool true) ∧ Below w.heap.size w w' := by
  have HS : Hid (Signs w) := hS
  clear hS
  go_enter Tryd.func19, Tryd.ntmps19
  go_wp2_with fail
  refine (h26 w).mono ?_
  rintro e w1 ⟨rfl, hH1, hb1⟩
  have hs1 := (Array.getElem?_eq_some_iff.1 hH1.blk).1
  obtain ⟨w2, hw2⟩ : ∃ W, W = w1.alloc (.cells #[.int .u8 4, .string ⟨#[]⟩, .int .i64 0, .int .i64 0, .int .i64 1] 54) := ⟨_, rfl⟩
  have HX : Hid (w2.rangeAt w1.heap.size 0 (flat [lxC])) := by show w2.rangeAt _ _ _; rw [hw2]; exact range_new w1 (flat [lxC]) 54
  have hz2 : w2.heap.size = w1.heap.size + 1 := by rw [hw2]; simp
  have HB2 : Hid (Below w1.heap.size w1 w2) := by show Below _ _ _; rw [hw2]; exact below_alloc _ _
  obtain ⟨w3, hw3⟩ : ∃ W, W = w2.alloc (.cells #[.int .u8 1, .string ⟨#[]⟩, .int .i64 1, .int .i64 0, .int .i64 0] 54) := ⟨_, rfl⟩
  have HT3 : Hid (TermAt w3 (.slice (some ⟨w1.heap.size + 1, 0, none⟩) 1 1) [liC 1]) := by
    show TermAt _ _ _
    rw [hw3, ← hz2]
    exact termAt_new w2 (liC 1) (by decide)
  have hz3 : w3.heap.size = w1.heap.size + 2 := by rw [hw3]; simp [hz2]
  have HB3 : Hid (Below w1.heap.size w1 w3) := by
    show Below _ _ _
    rw [hw3]
    exact HB2.out.alloc (by omega) _
  have HX3 : Hid (w3.rangeAt w1.heap.size 0 (flat [lxC])) := fun j v hv => by
    rw [hw3]
    exact ((below_alloc w2 _).cell (p := ⟨w1.heap.size, 0 + j, none⟩) (show w1.heap.size < w2.heap.size by omega)).trans (HX.out j v hv)
  have H11 : Hid (Calls Tryd.prog 11 #[.pointer (some ⟨w.heap.size + 1, 0, none⟩), .agg #[.int .i64 0, .int .i64 1], .slice (some ⟨w1.heap.size + 1, 0, none⟩) 1 1] w3 fun e w' => e = .returned (.int .i64 (bindE [] (0, 1) [liC 1])) ∧ BindPost [] (0, 1) [liC 1] (w.heap.size + 1) w.heap.size 0 w3 w') := h11 [] (w.heap.size + 1) w.heap.size 0 (.map []) (0, 1) [liC 1] _ w3 (hH1.below HB3.out) ⟨by decide, by decide⟩ HT3.out (by intro c hc; simp at hc; subst hc; exact ⟨by decide, by decide⟩) (HS.out.below (hb1.trans (HB3.out.mono hb1.size))) (by decide) (by decide)
  have HB03 : Hid (Below w.heap.size w w3) := hb1.trans (HB3.out.mono hb1.size)
  have hw1 := hb1.size
  clear hH1 hb1
  go_wp2_with fail
  rw [← hw2, ← hw3]
  refine H11.out.mono ?_
  rintro e w4 ⟨rfl, n4, D4, hH4, hn4, hk4⟩
  rw [lv_bound] at hH4
  rw [lv_bind]
  have HX4 : Hid (w4.rangeAt w1.heap.size 0 (flat [lxC])) := fun j v hv => by
    have := HX3.out j v hv
    have hk := hk4.2.2.2.2 w1.heap.size (by omega) (by omega)
    unfold World.cell? at this ⊢
    rw [hk]
    exact this
  have HB4 : Hid (Below w.heap.size w w4) := HB03.out.trans (hk4.below (Nat.le_refl _) HB03.out.size)
  have hz4 : w1.heap.size < w4.heap.size := by have := hk4.2.2.2.1; omega
  have p0 : w4.cell? ⟨w1.heap.size, 0, none⟩ = some (.int .u8 4) := HX4.out 0 _ rfl
  have p1 : w4.cell? ⟨w1.heap.size, 1, none⟩ = some (.string ⟨#[]⟩) := HX4.out 1 _ rfl
  have p2 : w4.cell? ⟨w1.heap.size, 2, none⟩ = some (.int .i64 0) := HX4.out 2 _ rfl
  have p3 : w4.cell? ⟨w1.heap.size, 3, none⟩ = some (.int .i64 0) := HX4.out 3 _ rfl
  have p4 : w4.cell? ⟨w1.heap.size, 4, none⟩ = some (.int .i64 1) := HX4.out 4 _ rfl
  have HH4 : Hid (HpAt w4 (w.heap.size + 1) w.heap.size n4 D4 lvH) := hH4
  clear hH4 hk4 hn4 hw2 hw3 hz2 hz3 H11 HX HX3 HT3 HB2 HB3
  have H39a : Hid (Calls Tryd.prog 39 #[.pointer (some ⟨w.heap.size + 1, 0, none⟩), .slice (some ⟨w4.heap.size, 0, none⟩) 5 5] (w4.alloc (.cells (flat lvT).toArray 54)) (ValPost 7 1 [] (w4.alloc (.cells (flat lvT).toArray 54)))) := h39 lvH lvH_ok _ lvT _ _ 3 7 1 [] [] (lv_term w4) (HS.out.below (HB4.out.alloc HB4.out.size _)) lv_right (.inr ⟨_, _, _, _, rfl, HH4.out.below (below_alloc _ _)⟩) lv_sum lv_wf (by decide)
  go_wp2_with fail
  refine H39a.out.mono ?_
  rintro e w6 ⟨nv6, rfl, ⟨bs6, hN6⟩, hb6⟩
  obtain ⟨a6, c6, hf6⟩ := owns_form hN6
  subst hf6
  clear hN6 H39a
  have HB46 : Hid (Below w4.heap.size w4 w6) := (below_alloc _ _).trans (hb6.mono (by simp))
  have HT6 : Hid (TermAt w6 (.slice (some ⟨w4.heap.size, 0, none⟩) 5 5) lvT) := (lv_term w4).below hb6
  have HB6 : Hid (Below w.heap.size w w6) := HB4.out.trans (HB46.out.mono HB4.out.size)
  clear hb6
  have H39b : Hid (Calls Tryd.prog 39 #[.pointer none, .slice (some ⟨w4.heap.size, 0, none⟩) 5 5] w6 (ValPost 0 3 [(0, 1)] w6)) := h39 [] nil_ok none lvT _ w6 3 0 3 [] [(0, 1)] HT6.out (HS.out.below HB6.out) lv_right (.inl ⟨rfl, rfl⟩) lv_open lv_wf (by decide)
  simp only [List.length_nil]
  go_wp2_with fail
  refine H39b.out.mono ?_
  rintro e w7 ⟨nv7, rfl, hN7, hb7⟩
  obtain ⟨g7, c7, rfl, hg7, q0, q1⟩ := names_one hN7
  have HB47 : Hid (Below w4.heap.size w4 w7) := HB46.out.trans (hb7.mono HB46.out.size)
  have HB7 : Hid (Below w.heap.size w w7) := HB6.out.trans (hb7.mono HB6.out.size)
  clear hN7 hb7 H39b
  have H17 : Hid (Calls Tryd.prog 17 #[.string ⟨#[100, 105, 118]⟩, .slice (some ⟨w7.heap.size, 0, none⟩) 2 2] (w7.alloc (.cells (([-7, 2] : List Int).map (Value.int .i64)).toArray 3)) fun e w' => e = .returned (.tuple #[.int .i64 (reckS ⟨#[100, 105, 118]⟩ [-7, 2]).1, .bool (reckS ⟨#[100, 105, 118]⟩ [-7, 2]).2]) ∧ Below (w7.alloc (.cells (([-7, 2] : List Int).map (Value.int .i64)).toArray 3)).heap.size (w7.alloc (.cells (([-7, 2] : List Int).map (Value.int .i64)).toArray 3)) w') := h17 _ [-7, 2] _ _ (ints_new w7 [-7, 2] (by decide))
  rw [lv_reck] at H17
  go_wp2_with fail
  refine H17.out.mono ?_
  rintro e w8 ⟨rfl, hb8⟩
  have HB78 : Hid (Below w7.heap.size w7 w8) := (below_alloc _ _).trans (hb8.mono (by simp))
  have HB8 : Hid (Below w.heap.size w w8) := HB7.out.trans (HB78.out.mono HB7.out.size)
  have HB48 : Hid (Below w4.heap.size w4 w8) := HB47.out.trans (HB78.out.mono HB47.out.size)
  clear hb8 H17
  have r0 : w8.cell? ⟨g7, 0, none⟩ = some (.int .i64 0) := (HB78.out.cell (p := ⟨g7, 0, none⟩) hg7).trans q0
  have r1 : w8.cell? ⟨g7, 1, none⟩ = some (.int .i64 1) := (HB78.out.cell (p := ⟨g7, 1, none⟩) hg7).trans q1
  have s3 : w8.cell? ⟨w1.heap.size, 3, none⟩ = some (.int .i64 0) := (HB48.out.cell (p := ⟨w1.heap.size, 3, none⟩) hz4).trans p3
  have s4 : w8.cell? ⟨w1.heap.size, 4, none⟩ = some (.int .i64 1) := (HB48.out.cell (p := ⟨w1.heap.size, 4, none⟩) hz4).trans p4
  clear q0 q1 p0 p1 p2 p3 p4
  go_wp2_with fail
  go_quiet (fail)
  go_wp2_with fail
  go_ret
  exact ⟨rfl, below_drewN HB8.out nq⟩
end Go.Proofs.YteikdgjlhdgapaaDoor
namespace Go.Proofs.YteikdgjlhdgapaaDoor
open Go.RowKit
attribute [local go_sem ↓] Go.wp_at_zero Go.wp_at_succ
theorem tmod_facts (a b : Int) (hb : b ≠ 0) : (0 ≤ a → 0 ≤ a.tmod b) ∧ (a < 0 → a.tmod b ≤ 0) ∧ (a.tmod b).natAbs < b.natAbs := by
  refine ⟨fun h => Int.tmod_nonneg b h, fun h => ?_, ?_⟩
  · have h1 := Int.tmod_nonneg b (show 0 ≤ -a by omega)
    rw [Int.neg_tmod] at h1
    omega
  · rw [Int.natAbs_tmod]
    exact Nat.mod_lt _ (by omega)
theorem modF_bd (a b : Int) (hb : b ≠ 0) : (0 < b → 0 ≤ modF a b ∧ modF a b < b) ∧ (b < 0 → modF a b ≤ 0 ∧ b < modF a b) := by
  obtain ⟨h1, h2, h3⟩ := tmod_facts a b hb
  rw [modF_eq]
  by_cases ha : a < 0 <;> by_cases hb0 : b < 0 <;> by_cases ht : a.tmod b = 0 <;> simp [ha, hb0, ht] <;> omega
theorem divF_ok {a b : Int} (ha : okI a) (_hb : okI b) (h0 : b ≠ 0) : greatB (divF a b) = false := by
  obtain ⟨d1, d2⟩ := divF_bd (b := b) ha
  obtain ⟨m1, m2⟩ := modF_bd a b h0
  have e : modF a b = a - b * divF a b := rfl
  have hne : divF a b ≠ -2147483649 := by
    intro h
    rw [h] at e
    unfold okI at ha
    omega
  unfold greatB
  simp
  omega
theorem modF_ok {a b : Int} (hb : okI b) (h0 : b ≠ 0) : greatB (modF a b) = false := by
  obtain ⟨m1, m2⟩ := modF_bd a b h0
  unfold greatB
  unfold okI at hb
  simp
  omega
theorem find_div : (List.range 8).find? (matchB ⟨#[100, 105, 118]⟩ 2) = some 3 := by kernel_rfl
theorem find_mod : (List.range 8).find? (matchB ⟨#[109, 111, 100]⟩ 2) = some 4 := by kernel_rfl
theorem any_two (a b : Int) : ([a, b] : List Int).any greatB = (greatB a || greatB b) := by simp
theorem great_ok {a : Int} (h : okI a) : greatB a = false := by
  unfold okI at h
  unfold greatB
  simp
  omega
theorem reck_div {a b : Int} (ha : okI a) (hb : okI b) (h0 : b ≠ 0) : reckS ⟨#[100, 105, 118]⟩ [a, b] = (divF a b, true) := by
  unfold reckS
  rw [any_two, great_ok ha, great_ok hb]
  have e : (([a, b] : List Int).length : Int) = 2 := rfl
  rw [e, find_div]
  have hd := divF_ok ha hb h0
  simp [resR, rawR, h0, finN, finB, hd]
theorem reck_mod {a b : Int} (ha : okI a) (hb : okI b) (h0 : b ≠ 0) : reckS ⟨#[109, 111, 100]⟩ [a, b] = (modF a b, true) := by
  unfold reckS
  rw [any_two, great_ok ha, great_ok hb]
  have e : (([a, b] : List Int).length : Int) = 2 := rfl
  rw [e, find_mod]
  have hd := modF_ok (a := a) hb h0
  simp [resR, rawR, h0, finN, finB, hd]
theorem great_not {a : Int} (h : ¬ okI a) : greatB a = true := by
  unfold okI at h
  unfold greatB
  simp
  omega
theorem reck_bad (op : ByteArray) {a b : Int} (hop : op = ⟨#[100, 105, 118]⟩ ∨ op = ⟨#[109, 111, 100]⟩) (h : b = 0 ∨ ¬ okI a ∨ ¬ okI b) : reckS op [a, b] = (0, false) := by
  unfold reckS
  rw [any_two]
  by_cases hg : (greatB a || greatB b) = true
  · rw [if_pos hg]
  · rw [if_neg hg]
    have h0 : b = 0 := by
      rcases h with h | h | h
      · exact h
      · rw [great_not h] at hg; simp at hg
      · rw [great_not h] at hg; simp at hg
    subst h0
    have e : (([a, 0] : List Int).length : Int) = 2 := rfl
    rw [e]
    rcases hop with rfl | rfl
    · rw [find_div]; simp [resR, rawR, finN, finB]
    · rw [find_mod]; simp [resR, rawR, finN, finB]
set_option maxRecDepth 100000 in
set_option maxHeartbeats 8000000 in
theorem h5_bad (a b : Int) (w : World) (hS : Signs w) (h : b = 0 ∨ ¬ okI a ∨ ¬ okI b) : Calls Tryd.prog 5 #[.int .i64 a, .int .i64 b] w fun e w' => e = .returned (.bool true) ∧ Below w.heap.size w w' := by
  have HS : Hid (Signs w) := hS
  have H17a : Hid (∀ W : World, Calls Tryd.prog 17 #[.string ⟨#[100, 105, 118]⟩, .slice (some ⟨W.heap.size, 0, none⟩) 2 2] (W.alloc (.cells #[.int .i64 a, .int .i64 b] 3)) fun e w' => e = .returned (.tuple #[.int .i64 0, .bool false]) ∧ Below (W.alloc (.cells #[.int .i64 a, .int .i64 b] 3)).heap.size (W.alloc (.cells #[.int .i64 a, .int .i64 b] 3)) w') := fun W => by
    have := h17 ⟨#[100, 105, 118]⟩ [a, b] _ _ (ints_new W [a, b] (by simp [maxLen]))
    rw [reck_bad _ (.inl rfl) h] at this
    exact this
  have H17b : Hid (∀ W : World, Calls Tryd.prog 17 #[.string ⟨#[109, 111, 100]⟩, .slice (some ⟨W.heap.size, 0, none⟩) 2 2] (W.alloc (.cells #[.int .i64 a, .int .i64 b] 3)) fun e w' => e = .returned (.tuple #[.int .i64 0, .bool false]) ∧ Below (W.alloc (.cells #[.int .i64 a, .int .i64 b] 3)).heap.size (W.alloc (.cells #[.int .i64 a, .int .i64 b] 3)) w') := fun W => by
    have := h17 ⟨#[109, 111, 100]⟩ [a, b] _ _ (ints_new W [a, b] (by simp [maxLen]))
    rw [reck_bad _ (.inr rfl) h] at this
    exact this
  unfold okI at h
  clear hS
  go_enter Tryd.func5, Tryd.ntmps5
  go_wp2_with fail
  refine (H17a.out w).mono ?_
  rintro e w1 ⟨rfl, hb1⟩
  have HB1 : Hid (Below w.heap.size w w1) := (below_alloc _ _).trans (hb1.mono (by simp))
  clear hb1
  go_wp2_with fail
  refine (H17b.out w1).mono ?_
  rintro e w2 ⟨rfl, hb2⟩
  have HB2 : Hid (Below w.heap.size w w2) := HB1.out.trans (((below_alloc _ _).trans (hb2.mono (by simp))).mono HB1.out.size)
  clear hb2
  go_wp2_with fail
  refine (h19 w2 (HS.out.below HB2.out)).mono ?_
  rintro e w3 ⟨rfl, hb3⟩
  have HB3 : Hid (Below w.heap.size w w3) := HB2.out.trans (hb3.mono HB2.out.size)
  clear hb3
  have H19 := h19 w3 (HS.out.below HB3.out)
  have HE : Hid (∀ w4, Below w3.heap.size w3 w4 → Below w.heap.size w w4) := fun w4 h4 => HB3.out.trans (h4.mono HB3.out.size)
  rcases (show b = 0 ∨ (b ≠ 0 ∧ a < -2147483648) ∨ (b ≠ 0 ∧ ¬ a < -2147483648 ∧ 2147483648 < a) ∨ (b ≠ 0 ∧ ¬ a < -2147483648 ∧ ¬ 2147483648 < a ∧ b < -2147483648) ∨ (b ≠ 0 ∧ ¬ a < -2147483648 ∧ ¬ 2147483648 < a ∧ ¬ b < -2147483648 ∧ 2147483648 < b) by omega) with h1 | ⟨h1, h2⟩ | ⟨h1, h2, h3⟩ | ⟨h1, h2, h3, h4⟩ | ⟨h1, h2, h3, h4, h5⟩
  all_goals
    clear h
    have hz : (b == 0) = decide (b = 0) := rfl
    simp only [h1, decide_true, decide_false] at hz
    go_wp2_with fail
    refine H19.mono ?_
    rintro e w4 ⟨rfl, hb4⟩
    have HB4 : Hid (Below w.heap.size w w4) := HE.out w4 hb4
    clear hb4
    go_wp2_with fail
    go_ret
    exact ⟨rfl, HB4.out⟩
set_option maxRecDepth 100000 in
set_option maxHeartbeats 8000000 in
theorem h5_ok (a b : Int) (w : World) (hS : Signs w) (ha : okI a) (hb : okI b) (h0 : b ≠ 0) : Calls Tryd.prog 5 #[.int .i64 a, .int .i64 b] w fun e w' => e = .returned (.bool true) ∧ Below w.heap.size w w' := by
  have HS : Hid (Signs w) := hS
  have H17a : Hid (∀ W : World, Calls Tryd.prog 17 #[.string ⟨#[100, 105, 118]⟩, .slice (some ⟨W.heap.size, 0, none⟩) 2 2] (W.alloc (.cells #[.int .i64 a, .int .i64 b] 3)) fun e w' => e = .returned (.tuple #[.int .i64 (divF a b), .bool true]) ∧ Below (W.alloc (.cells #[.int .i64 a, .int .i64 b] 3)).heap.size (W.alloc (.cells #[.int .i64 a, .int .i64 b] 3)) w') := fun W => by
    have := h17 ⟨#[100, 105, 118]⟩ [a, b] _ _ (ints_new W [a, b] (by simp [maxLen]))
    rw [reck_div ha hb h0] at this
    exact this
  have H17b : Hid (∀ W : World, Calls Tryd.prog 17 #[.string ⟨#[109, 111, 100]⟩, .slice (some ⟨W.heap.size, 0, none⟩) 2 2] (W.alloc (.cells #[.int .i64 a, .int .i64 b] 3)) fun e w' => e = .returned (.tuple #[.int .i64 (modF a b), .bool true]) ∧ Below (W.alloc (.cells #[.int .i64 a, .int .i64 b] 3)).heap.size (W.alloc (.cells #[.int .i64 a, .int .i64 b] 3)) w') := fun W => by
    have := h17 ⟨#[109, 111, 100]⟩ [a, b] _ _ (ints_new W [a, b] (by simp [maxLen]))
    rw [reck_mod ha hb h0] at this
    exact this
  obtain ⟨m1, m2⟩ := modF_bd a b h0
  obtain ⟨q1, q2⟩ := mul_divF_bd ha hb
  have hdm : b * divF a b + modF a b = a := by unfold modF; omega
  generalize modF a b = m at *
  generalize divF a b = d at *
  obtain ⟨q, hq⟩ : ∃ q, b * d = q := ⟨_, rfl⟩
  rw [hq] at hdm q1 q2
  unfold okI at ha hb
  obtain ⟨a1, a2⟩ := ha
  obtain ⟨b1, b2⟩ := hb
  have a3 : ¬ a < -2147483648 := by omega
  have a4 : ¬ 2147483648 < a := by omega
  have b3 : ¬ b < -2147483648 := by omega
  have b4 : ¬ 2147483648 < b := by omega
  have hz : (b == 0) = false := by simpa using h0
  have hee : (a == a) = true := by simp
  clear hS
  rcases (show (0 < b ∧ 0 ≤ m ∧ m < b) ∨ (¬ 0 < b ∧ b < 0 ∧ m ≤ 0 ∧ b < m) by omega) with ⟨k1, k2, k3⟩ | ⟨k1, k2, k3, k4⟩
  all_goals
    clear m1 m2 h0 a1 a2 b1 b2
    go_enter Tryd.func5, Tryd.ntmps5
    go_wp2_with fail
    refine (H17a.out w).mono ?_
    rintro e w1 ⟨rfl, hb1⟩
    have HB1 : Hid (Below w.heap.size w w1) := (below_alloc _ _).trans (hb1.mono (by simp))
    clear hb1
    go_wp2_with fail
    refine (H17b.out w1).mono ?_
    rintro e w2 ⟨rfl, hb2⟩
    have HB2 : Hid (Below w.heap.size w w2) := HB1.out.trans (((below_alloc _ _).trans (hb2.mono (by simp))).mono HB1.out.size)
    clear hb2
    go_wp2_with fail
    refine (h19 w2 (HS.out.below HB2.out)).mono ?_
    rintro e w3 ⟨rfl, hb3⟩
    have HB3 : Hid (Below w.heap.size w w3) := HB2.out.trans (hb3.mono HB2.out.size)
    clear hb3
    go_wp2_with fail
    go_ret
    exact ⟨rfl, HB3.out⟩
theorem h5 (a b : Int) (w : World) (hS : Signs w) : Calls Tryd.prog 5 #[.int .i64 a, .int .i64 b] w fun e w' => e = .returned (.bool true) ∧ Below w.heap.size w w' := by
  by_cases h : okI a ∧ okI b ∧ b ≠ 0
  · exact h5_ok a b w hS h.1 h.2.1 h.2.2
  · refine h5_bad a b w hS ?_
    by_cases h1 : okI a <;> by_cases h2 : okI b <;> by_cases h3 : b = 0 <;> simp_all
end Go.Proofs.YteikdgjlhdgapaaDoor
