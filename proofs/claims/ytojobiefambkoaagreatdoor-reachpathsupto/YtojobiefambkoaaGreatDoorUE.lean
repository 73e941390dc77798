/- The document's Cyclic; the statement on paths, on what leads to itself and on what is another node's: it returns true. -/
import Derived.Test.YtojobiefambkoaaGreatDoorUD
import Derived.Test.YtojobiefambkoaaGreatDoorUB
import Derived.Test.YtojobiefambkoaaGreatDoorTH
namespace Go.Proofs.YtojobiefambkoaaGreatDoor
open Go.RowKit
attribute [local go_sem ↓] Go.wp_at_zero Go.wp_at_succ
abbrev CyS (W0 : World) (bx : Nat) (x1 x2 : Int) (W : World) : Prop := W.cell? ⟨bx, 0, none⟩ = some (.int .i64 x1) ∧ W.cell? ⟨bx, 1, none⟩ = some (.int .i64 x2) ∧ Hid (Below W0.heap.size W0 W ∧ bx < W0.heap.size)
theorem cyS_below {W0 W W' : World} {bx : Nat} {x1 x2 : Int} (h : CyS W0 bx x1 x2 W) (hb : Below W.heap.size W W') : CyS W0 bx x1 x2 W' := by
  obtain ⟨h1, h2, h3⟩ := h
  have hl : bx < W.heap.size := Nat.lt_of_lt_of_le h3.out.2 h3.out.1.size
  exact ⟨(hb.cell (p := ⟨bx, 0, none⟩) hl).trans h1, (hb.cell (p := ⟨bx, 1, none⟩) hl).trans h2, h3.out.1.trans (hb.mono h3.out.1.size), h3.out.2⟩
theorem cyc_has {m : Hp} {x : Nm} {xs : List Nm} (h : UpN (Rch m (leadsH m x)) xs) : hasN xs x = cycF m x := by
  rw [Bool.eq_iff_iff, hasN_iff, h.all, ← allC_mem]
  unfold cycF
  rw [List.any_eq_true, List.mem_map]
  exact ⟨fun ⟨c, h1, h2⟩ => ⟨c, h1, by rw [eqN_iff]; exact h2⟩, fun ⟨c, h1, h2⟩ => ⟨c, h1, (eqN_iff _ _).1 h2⟩⟩
set_option maxRecDepth 100000 in
set_option maxHeartbeats 4000000 in
theorem z24 {p : Value} {m : Hp} (x : Nm) (w : World) (h : RfV w p m) (hup : RisesH m) (hm : GoodH m) (hu : (univ m (leadsH m x)).length ≤ 1000000000) :
    Calls Tryz.prog 24 #[p, .agg #[.int .i64 x.1, .int .i64 x.2]] w fun e w' => e = .returned (.bool (cycF m x)) ∧ Below w.heap.size w w' := by
  have hpf : ∃ q, p = .pointer q := by
    rcases h with ⟨h, _⟩ | ⟨_, _, _, h, _⟩ <;> exact ⟨_, h⟩
  obtain ⟨q, rfl⟩ := hpf
  obtain ⟨cy, hcy⟩ : ∃ b, cycF m x = b := ⟨_, rfl⟩
  obtain ⟨ls, hls⟩ : ∃ ls, leadsH m x = ls := ⟨_, rfl⟩
  have hll := (leads_len hm x).1
  rw [hls] at hu hll
  have HB0 : Hid (Below w.heap.size w (w.alloc (.cells #[.int .i64 x.1, .int .i64 x.2] 49)) ∧ (w.alloc (.cells #[.int .i64 x.1, .int .i64 x.2] 49)).heap[w.heap.size]? = some (.cells #[.int .i64 x.1, .int .i64 x.2] 49 (0, 0))) := ⟨below_alloc _ _, heap_alloc_new w _⟩
  have H38 : ∀ W, Below (w.alloc (.cells #[.int .i64 x.1, .int .i64 x.2] 49)).heap.size (w.alloc (.cells #[.int .i64 x.1, .int .i64 x.2] 49)) W → Calls Tryz.prog 38 #[.pointer q, .agg #[.int .i64 x.1, .int .i64 x.2]] W fun e w' => ∃ a j c, e = .returned (.slice a j c) ∧ Hid (ls.length = j ∧ OwnN w' W.heap.size (.slice a j c) ls ∧ Below W.heap.size W w') := fun W hW => by
    have h1 := z38 x W (h.below (HB0.out.1.trans (hW.mono HB0.out.1.size))) hup hm
    rw [hls] at h1
    exact h1
  have H13 : ∀ {W : World} (w' : World) (a : Option Addr) (j c : Nat), Below (w.alloc (.cells #[.int .i64 x.1, .int .i64 x.2] 49)).heap.size (w.alloc (.cells #[.int .i64 x.1, .int .i64 x.2] 49)) w' → Hid (ls.length = j ∧ OwnN w' W.heap.size (.slice a j c) ls ∧ Below W.heap.size W w') → Calls Tryz.prog 13 #[.pointer q, .slice a j c] w' fun e w'' => NdR m ls e w' w'' := fun {W} w' a j c hW hL => by
    have hj := hL.out.1
    exact z13 _ m ls a j c w' (h.below (HB0.out.1.trans (hW.mono HB0.out.1.size))) hup hm (namesAt_of_owns hL.out.2.1 (by unfold maxLen; omega)) hu (by omega)
  have H37f : Hid (∀ (W w' : World) (a : Option Addr) (j c : Nat), Hid (∃ xs, UpN (Rch m ls) xs ∧ xs.length = j ∧ OwnN w' W.heap.size (.slice a j c) xs ∧ Below W.heap.size W w') → (Calls Tryz.prog 37 #[.slice a j c, .agg #[.int .i64 x.1, .int .i64 x.2]] w' fun e w'' => e = .returned (.bool cy) ∧ Below w'.heap.size w' w'') ∧ Below W.heap.size W w') := fun W w' a j c hX => by
    obtain ⟨xs, h1, h2, h3, h4⟩ := hX.out
    have h5 := upn_len h1
    have h6 := c43 xs (.slice a j c) x w' (namesAt_of_owns h3 (by unfold maxLen; omega))
    rw [← hls] at h1
    rw [cyc_has h1, hcy] at h6
    exact ⟨h6, h4⟩
  obtain ⟨x1, x2⟩ := x
  dsimp only at HB0 H38 H13 H37f hcy ⊢
  rw [hcy]
  clear h hup hm hu hcy hls hll
  go_enter Tryz.func24, Tryz.ntmps24
  go_wp2_with fail
  obtain ⟨W0, hW0⟩ : ∃ W0, w.alloc (.cells #[.int .i64 x1, .int .i64 x2] 49) = W0 := ⟨_, rfl⟩
  obtain ⟨bx, hbx⟩ : ∃ bx, w.heap.size = bx := ⟨_, rfl⟩
  rw [hW0] at HB0 H38 H13 ⊢
  have HB1 : Hid (Below w.heap.size w W0 ∧ W0.heap[bx]? = some (.cells #[.int .i64 x1, .int .i64 x2] 49 (0, 0))) := by rw [← hbx]; exact HB0
  rw [hbx]
  clear hW0 HB0
  have hS24 : CyS W0 bx x1 x2 W0.drew := by
    have h1 : Below W0.heap.size W0 W0.drew := (Below.refl _ W0).drew
    have h2 := (h1.block bx (Array.getElem?_eq_some_iff.1 HB1.out.2).1).trans HB1.out.2
    exact ⟨by rw [cell_of_row _ bx 0 _ 49 (0, 0) h2]; rfl, by rw [cell_of_row _ bx 1 _ 49 (0, 0) h2]; rfl, h1, (Array.getElem?_eq_some_iff.1 HB1.out.2).1⟩
  refine wp_region_noPanic ?_
  refine wp_region_held_drew (S := CyS W0 bx x1 x2) (by kernel_rfl) hS24 (fun hHeld => ?_)
  refine wpAnyH_take (i := 0) (v := ?_) (by simp only [List.getElem?_toArray, List.getElem?_cons_zero]; rfl) (by kernel_rfl) (by kernel_rfl) (by kernel_rfl) (fun _ _ _ h => h) (Or.inl ⟨by rfl, ?_⟩) (by assumption) ?_; rotate_left; (· (intro w hSw; (try dsimp only at hSw); go_simp <;> with_reducible rfl)); try simp only [Act.put, List.setIfInBounds_toArray, List.set_cons_zero, List.set_cons_succ]
  refine wpAnyH_take (i := 1) (v := ?_) (by simp only [List.getElem?_toArray, List.getElem?_cons_zero, List.getElem?_cons_succ]; rfl) (by kernel_rfl) (by kernel_rfl) (by kernel_rfl) (fun _ _ _ h => h) (Or.inl ⟨by rfl, ?_⟩) (by assumption) ?_; rotate_left; (· (intro w hSw; (try dsimp only at hSw); go_simp <;> with_reducible rfl)); try simp only [Act.put, List.setIfInBounds_toArray, List.set_cons_zero, List.set_cons_succ]
  refine wpAnyH_take (i := 2) (v := ?_) (by simp only [List.getElem?_toArray, List.getElem?_cons_zero, List.getElem?_cons_succ]; rfl) (by kernel_rfl) (by kernel_rfl) (by kernel_rfl) (fun _ _ _ h => h) (Or.inl ⟨by rfl, ?_⟩) (by assumption) ?_; rotate_left; (· (intro w hSw; (try dsimp only at hSw); go_simp <;> with_reducible rfl)); try simp only [Act.put, List.setIfInBounds_toArray, List.set_cons_zero, List.set_cons_succ]
  refine wpAnyH_take (i := 5) (v := ?_) (by simp only [List.getElem?_toArray, List.getElem?_cons_zero, List.getElem?_cons_succ]; rfl) (by kernel_rfl) (by kernel_rfl) (by kernel_rfl) (fun _ _ _ h => h) (Or.inl ⟨by rfl, ?_⟩) (by assumption) ?_; rotate_left; (· (intro w hSw; (try dsimp only at hSw); go_simp <;> with_reducible rfl)); try simp only [Act.put, List.setIfInBounds_toArray, List.set_cons_zero, List.set_cons_succ]
  refine wpAnyH_ready (rs := [3]) (by kernel_rfl) (by simp) ?_
  refine AllReadyH.cons (by simp only [List.getElem?_toArray, List.getElem?_cons_zero, List.getElem?_cons_succ]; rfl) (fun K hK => ?_) AllReadyH.nil
  go_simp
  refine (H38 _ hHeld.2.2.out.1).mono ?_
  rintro e u3 ⟨la, lj, lc, rfl, HL⟩
  refine hK.out _ _ (cyS_below hHeld HL.out.2.2) (fun hHeld => ?_)
  clear hK K
  try simp only [Act.put, List.setIfInBounds_toArray, List.set_cons_zero, List.set_cons_succ]
  refine wpAnyH_ready (rs := [4]) (by kernel_rfl) (by simp) ?_
  refine AllReadyH.cons (by simp only [List.getElem?_toArray, List.getElem?_cons_zero, List.getElem?_cons_succ]; rfl) (fun K hK => ?_) AllReadyH.nil
  go_simp
  refine (H13 _ la lj lc hHeld.2.2.out.1 HL).mono ?_
  rintro e u4 ⟨na, nj, nc, rfl, HN⟩
  have HNN : Hid (_ ∧ _) := (H37f.out _ _ na nj nc HN)
  refine hK.out _ _ (cyS_below hHeld HNN.out.2) (fun hHeld => ?_)
  clear hK K
  try simp only [Act.put, List.setIfInBounds_toArray, List.set_cons_zero, List.set_cons_succ]
  refine wpAnyH_ready (rs := [6]) (by kernel_rfl) (by simp) ?_
  refine AllReadyH.cons (by simp only [List.getElem?_toArray, List.getElem?_cons_zero, List.getElem?_cons_succ]; rfl) (fun K hK => ?_) AllReadyH.nil
  go_simp
  refine HNN.out.1.mono ?_
  rintro e u6 ⟨rfl, hb6⟩
  refine hK.out _ _ (cyS_below hHeld hb6) (fun hHeld => ?_)
  clear hK K
  try simp only [Act.put, List.setIfInBounds_toArray, List.set_cons_zero, List.set_cons_succ]
  refine wpAnyH_take (i := 7) (v := ?_) (by simp only [List.getElem?_toArray, List.getElem?_cons_zero, List.getElem?_cons_succ]; rfl) (by kernel_rfl) (by kernel_rfl) (by kernel_rfl) (fun _ _ _ h => h) (Or.inl ⟨by rfl, ?_⟩) (by assumption) ?_; rotate_left; (· (intro w hSw; (try dsimp only at hSw); go_simp <;> with_reducible rfl)); try simp only [Act.put, List.setIfInBounds_toArray, List.set_cons_zero, List.set_cons_succ]
  refine wpAnyH_done (by kernel_rfl) ?_ _
  refine NoPanic.normal ?_
  have HE : Hid (Below w.heap.size w u6) := HB1.out.1.trans (hHeld.2.2.out.1.mono HB1.out.1.size)
  clear hHeld
  go_wp2_with fail
  go_ret
  exact ⟨rfl, HE.out⟩
/-- The box of two names stays readable. -/
abbrev PpS (W0 : World) (bx : Nat) (x1 x2 y1 y2 : Int) (W : World) : Prop := W.cell? ⟨bx, 0, none⟩ = some (.int .i64 x1) ∧ W.cell? ⟨bx, 1, none⟩ = some (.int .i64 x2) ∧ W.cell? ⟨bx, 2, none⟩ = some (.int .i64 y1) ∧ W.cell? ⟨bx, 3, none⟩ = some (.int .i64 y2) ∧ Hid (Below W0.heap.size W0 W ∧ W0.heap[bx]? = some (.cells #[.int .i64 x1, .int .i64 x2, .int .i64 y1, .int .i64 y2] 50 (0, 0)))
theorem ppS_of {W0 W : World} {bx : Nat} {x1 x2 y1 y2 : Int} (h : W0.heap[bx]? = some (.cells #[.int .i64 x1, .int .i64 x2, .int .i64 y1, .int .i64 y2] 50 (0, 0))) (hb : Below W0.heap.size W0 W) : PpS W0 bx x1 x2 y1 y2 W := by
  have h2 := (hb.block bx (Array.getElem?_eq_some_iff.1 h).1).trans h
  exact ⟨by rw [cell_of_row _ bx 0 _ 50 (0, 0) h2]; rfl, by rw [cell_of_row _ bx 1 _ 50 (0, 0) h2]; rfl, by rw [cell_of_row _ bx 2 _ 50 (0, 0) h2]; rfl, by rw [cell_of_row _ bx 3 _ 50 (0, 0) h2]; rfl, hb, h⟩
theorem ppS_below {W0 W W' : World} {bx : Nat} {x1 x2 y1 y2 : Int} (h : PpS W0 bx x1 x2 y1 y2 W) (hb : Below W.heap.size W W') : PpS W0 bx x1 x2 y1 y2 W' :=
  ppS_of h.2.2.2.2.out.2 (h.2.2.2.2.out.1.trans (hb.mono h.2.2.2.2.out.1.size))
set_option maxRecDepth 100000 in
set_option maxHeartbeats 8000000 in
theorem r4 (b0 : Option Addr) (n0 c0 : Nat) (bs : List Bn) (x y : Nm) (la : Option Addr) (ln lc : Nat) (l : List Nm) (w : World) (hA : BdRow w b0 n0 bs) (hn : n0 ≤ 2000000) (hx : wfN x) (hl : NamesAt w (.slice la ln lc) l) (hln : ln ≤ 10000000) (hS : Signs w) :
    Calls Tryz.prog 4 #[.slice b0 n0 c0, .agg #[.int .i64 x.1, .int .i64 x.2, .int .i64 y.1, .int .i64 y.2], .slice la ln lc] w fun e w' => e = .returned (.bool true) ∧ Below w.heap.size w w' := by
  obtain ⟨x1, x2⟩ := x
  obtain ⟨y1, y2⟩ := y
  dsimp only
  obtain ⟨m, HM⟩ : ∃ m, Hid (foldB bs = m) := ⟨_, rfl⟩
  have HB0 : Hid (Below w.heap.size w (w.alloc (.cells #[.int .i64 x1, .int .i64 x2, .int .i64 y1, .int .i64 y2] 50)) ∧ (w.alloc (.cells #[.int .i64 x1, .int .i64 x2, .int .i64 y1, .int .i64 y2] 50)).heap[w.heap.size]? = some (.cells #[.int .i64 x1, .int .i64 x2, .int .i64 y1, .int .i64 y2] 50 (0, 0))) := ⟨below_alloc _ _, heap_alloc_new w _⟩
  have H5 := st5 b0 n0 c0 bs _ (bd_below hA HB0.out.1) (by omega) (hS.below HB0.out.1)
  rw [HM.out] at H5
  have HV : Hid (NamesAt w (.slice la ln lc) l ∧ Signs w ∧ wfN (x1, x2) ∧ n0 ≤ 2000000 ∧ ln ≤ 10000000 ∧ l.length = ln) := ⟨hl, hS, hx, hn, hln, names_len hl rfl⟩
  clear hA hl hS hx hn hln
  go_enter Tryz.func4, Tryz.ntmps4
  go_wp2_with fail
  obtain ⟨W0, hW0⟩ : ∃ W0, w.alloc (.cells #[.int .i64 x1, .int .i64 x2, .int .i64 y1, .int .i64 y2] 50) = W0 := ⟨_, rfl⟩
  obtain ⟨bx, hbx⟩ : ∃ bx, w.heap.size = bx := ⟨_, rfl⟩
  rw [hW0] at HB0 H5 ⊢
  have HB1 : Hid (Below w.heap.size w W0 ∧ W0.heap[bx]? = some (.cells #[.int .i64 x1, .int .i64 x2, .int .i64 y1, .int .i64 y2] 50 (0, 0))) := by rw [← hbx]; exact HB0
  try rw [hbx]
  clear hW0 HB0
  refine H5.mono ?_
  rintro e w5 ⟨hb, M, rt, rfl, HS5⟩
  clear H5
  have HY : Hid (∀ W, Below w5.heap.size w5 W → St W0 hb M n0 m W ∧ RfV W (.pointer (some ⟨rt, 0, none⟩)) m ∧ NamesAt W (.slice la ln lc) l ∧ Below w.heap.size w W ∧ W.heap[bx]? = some (.cells #[.int .i64 x1, .int .i64 x2, .int .i64 y1, .int .i64 y2] 50 (0, 0)) ∧ Signs W) := fun W hW => by
    have h1 := HS5.out.1.below hW
    obtain ⟨G, bs', g1, g2, g3⟩ := HS5.out.2
    have h2 : Below w.heap.size w W := HB1.out.1.trans (h1.bel.mono HB1.out.1.size)
    have h3 := HV.out.2.2.2.1
    exact ⟨h1, .inr ⟨rt, G, bs', rfl, g1.below hW, g2, by omega⟩, HV.out.1.below h2, h2, (h1.bel.block bx (Array.getElem?_eq_some_iff.1 HB1.out.2).1).trans HB1.out.2, HV.out.2.1.below h2⟩
  have HU : Hid ((univ m [(x1, x2)]).length ≤ 999999999 ∧ (univ m (leadsH m (x1, x2))).length ≤ 1000000000 ∧ RisesH m ∧ GoodH m ∧ WfH m ∧ 1 + 256 * (univ m [(x1, x2)]).length ≤ 1000000000000 ∧ 256 + 256 * (univ m (leadsH m (x1, x2))).length ≤ 1000000000000) := by
    have h1 := HS5.out.1
    have h2 := h1.univ [(x1, x2)]
    have h3 := h1.univ (leadsH m (x1, x2))
    have h4 := (leads_len h1.good (x1, x2)).1
    have h5 := HV.out.2.2.2.1
    simp only [List.length_cons, List.length_nil] at h2
    exact ⟨by omega, by omega, h1.up, h1.good, h1.wf, by omega, by omega⟩
  clear HS5
  obtain ⟨k0, k1, k2, k3, _⟩ := ppS_of (HY.out w5 (Below.refl _ _)).2.2.2.2.1 (Below.refl _ _)
  have H20 : Calls Tryz.prog 20 #[.pointer (some ⟨hb, 0, none⟩), .agg #[.int .i64 x1, .int .i64 x2], .agg #[.int .i64 y1, .int .i64 y2]] w5 fun e w' => PaTo m (x1, x2) (y1, y2) e w5 w' := f12 m _ (x1, x2) (y1, y2) w5 (HY.out w5 (Below.refl _ _)).1.hpv HV.out.2.2.1 HU.out.2.2.2.1 HU.out.2.2.2.2.1 HU.out.2.2.2.2.2.1
  obtain ⟨sb, hsb⟩ : ∃ sb, (pathF m (x1, x2) (y1, y2)).isSome = sb := ⟨_, rfl⟩
  obtain ⟨ps, hps⟩ : ∃ ps, ((pathF m (x1, x2) (y1, y2)).getD []).reverse = ps := ⟨_, rfl⟩
  have HPL : Hid (ps.length ≤ 1000000000) := by
    show _ ≤ _
    rw [← hps, List.length_reverse]
    cases hp : pathF m (x1, x2) (y1, y2) with
    | none => simp
    | some ch =>
      have h1 := allC_cl m [(x1, x2)] ch (List.mem_of_find?_eq_some hp)
      have h2 := HU.out.1
      simp
      omega
  go_wp2_with fail
  refine H20.mono ?_
  rintro e w6 ⟨pa, pn, pc, rfl, HP6⟩
  clear H20 k0 k1 k2 k3
  have HP : Hid (ps.length = pn ∧ Ow w6 w5.heap.size w6.heap.size (.slice pa pn pc) ps ∧ Below w5.heap.size w5 w6) := by
    obtain ⟨h1, h2, h3⟩ := HP6.out
    rw [hps] at h2
    exact ⟨by rw [← hps, List.length_reverse, h1], Ow.make h2, h3⟩
  rw [hsb]
  clear HP6
  obtain ⟨k0, k1, k2, k3, _⟩ := ppS_of (HY.out w6 HP.out.2.2).2.2.2.2.1 (Below.refl _ _)
  have H21 : Calls Tryz.prog 21 #[.pointer (some ⟨rt, 0, none⟩), .agg #[.int .i64 x1, .int .i64 x2], .agg #[.int .i64 y1, .int .i64 y2]] w6 fun e w' => ∃ a k c, e = .returned (.tuple #[.slice a k c, .bool sb]) ∧ Hid (NamesAt w' (.slice a k c) ps ∧ Below w6.heap.size w6 w') := by
    have h := z21 (x1, x2) (y1, y2) w6 (HY.out w6 HP.out.2.2).2.1 HU.out.2.2.1 HU.out.2.2.2.1 (by have := HU.out.1; omega)
    rw [hsb, hps] at h
    exact h
  go_wp2_with fail
  refine H21.mono ?_
  rintro e w7 ⟨qa, qn, qc, rfl, HQ7⟩
  clear H21 k0 k1 k2 k3 hsb hps
  have HB7 : Hid (Below w5.heap.size w5 w7) := HP.out.2.2.trans (HQ7.out.2.mono HP.out.2.2.size)
  obtain ⟨k0, k1, k2, k3, _⟩ := ppS_of (HY.out w7 HB7.out).2.2.2.2.1 (Below.refl _ _)
  have H22 := f22 x1 l la ln lc w7 (HY.out w7 HB7.out).2.2.1 (by have := HV.out.2.2.2.2.1; omega)
  go_wp2_with fail
  refine H22.mono ?_
  rintro e w9 ⟨fa, fn, fc, rfl, HF9⟩
  clear H22 k0 k1 k2 k3
  obtain ⟨fs, HF⟩ : ∃ fs, Hid (UpN (fun z => z ∈ l ∧ z.1 ≠ x1) fs ∧ fs.length = fn ∧ Ow w9 w7.heap.size w9.heap.size (.slice fa fn fc) fs ∧ Below w7.heap.size w7 w9 ∧ fn ≤ 1000000000) := by
    obtain ⟨fs, h1, h2, h3, h4, h5⟩ := HF9.out
    have h6 := HV.out.2.2.2.2
    exact ⟨fs, h1, h2, Ow.make h3, h4, by omega⟩
  clear HF9
  have HB9 : Hid (Below w5.heap.size w5 w9) := HB7.out.trans (HF.out.2.2.2.1.mono HB7.out.size)
  have HSZ : Hid (w5.heap.size ≤ w6.heap.size ∧ w6.heap.size ≤ w7.heap.size ∧ w7.heap.size ≤ w9.heap.size) := ⟨HP.out.2.2.size, HQ7.out.2.size, HF.out.2.2.2.1.size⟩
  have HO : Hid (∀ W, Below w9.heap.size w9 W → Ow W w5.heap.size w6.heap.size (.slice pa pn pc) ps ∧ Ow W w7.heap.size w9.heap.size (.slice fa fn fc) fs ∧ NamesAt W (.slice qa qn qc) ps) := fun W hW => by
    have h1 := HSZ.out
    have h2 := HQ7.out.2.trans (HF.out.2.2.2.1.mono HQ7.out.2.size)
    exact ⟨(HP.out.2.1.below h2 (Nat.le_refl _)).below hW (by omega), HF.out.2.2.1.below hW (Nat.le_refl _), (HQ7.out.1.below HF.out.2.2.2.1).below hW⟩
  have HY9 : ∀ W, Below w9.heap.size w9 W → Hid (Below w5.heap.size w5 W) := fun W hW => HB9.out.trans (hW.mono HB9.out.size)
  have H11 : ∀ W, Below w9.heap.size w9 W → Calls Tryz.prog 11 #[] W fun e w' => e = .returned (.bool true) ∧ Below W.heap.size W w' := fun W hW => f7 W (HY.out W (HY9 W hW).out).2.2.2.2.2
  have H12a : ∀ W, Below w9.heap.size w9 W → Calls Tryz.prog 12 #[.slice pa pn pc, .slice qa qn qc] W fun e w' => e = .returned (.bool true) ∧ Below W.heap.size W w' := fun W hW => f10s ps _ _ W ((HO.out W hW).1.names HPL.out) (HO.out W hW).2.2
  obtain ⟨cy, hcy⟩ : ∃ b, cycF m (x1, x2) = b := ⟨_, rfl⟩
  have H23 : ∀ W, Below w9.heap.size w9 W → Calls Tryz.prog 23 #[.pointer (some ⟨hb, 0, none⟩), .agg #[.int .i64 x1, .int .i64 x2]] W fun e w' => e = .returned (.bool cy) ∧ Below W.heap.size W w' := fun W hW => by
    rw [← hcy]
    exact f23 m _ (x1, x2) W (HY.out W (HY9 W hW).out).1.hpv HV.out.2.2.1 HU.out.2.2.2.1 HU.out.2.2.2.2.1 HU.out.2.2.2.2.2.2
  have H24 : ∀ W, Below w9.heap.size w9 W → Calls Tryz.prog 24 #[.pointer (some ⟨rt, 0, none⟩), .agg #[.int .i64 x1, .int .i64 x2]] W fun e w' => e = .returned (.bool cy) ∧ Below W.heap.size W w' := fun W hW => by
    rw [← hcy]
    exact z24 (x1, x2) W (HY.out W (HY9 W hW).out).2.1 HU.out.2.2.1 HU.out.2.2.2.1 HU.out.2.1
  have H25 : ∀ W, Below w9.heap.size w9 W → Calls Tryz.prog 25 #[.int .i64 x1, .slice la ln lc] W fun e w' => FoR x1 l e W w' := fun W hW => z25 x1 l la ln lc W (HY.out W (HY9 W hW).out).2.2.1 (by have := HV.out.2.2.2.2.1; omega)
  have H12b : Hid (∀ (W w' : World) (a : Option Addr) (j c : Nat), Below w9.heap.size w9 W → Hid (∃ xs, UpN (fun z => z ∈ l ∧ z.1 ≠ x1) xs ∧ xs.length = j ∧ OwnN w' W.heap.size (.slice a j c) xs ∧ Below W.heap.size W w' ∧ xs.length ≤ l.length) → (Calls Tryz.prog 12 #[.slice fa fn fc, .slice a j c] w' fun e w'' => e = .returned (.bool true) ∧ Below w'.heap.size w' w'') ∧ Below W.heap.size W w') := fun W w' a j c hW hX => by
    obtain ⟨xs, h1, h2, h3, h4, h5⟩ := hX.out
    have h6 := HF.out.1.like h1
    subst h6
    have h7 := HF.out.2.1
    have h8 := HF.out.2.2.2.2
    have hW' := hW.trans (h4.mono hW.size)
    exact ⟨f10s _ _ _ w' ((HO.out w' hW').2.1.names (by omega)) (namesAt_of_owns h3 (by unfold maxLen; omega)), h4⟩
  have hS9 : PpS w9 bx x1 x2 y1 y2 w9.drew := ppS_of (HY.out w9 HB9.out).2.2.2.2.1 (Below.refl _ w9).drew
  have hsbb : (sb != sb) = false := by simp
  have hcyy : (cy != cy) = false := by simp
  clear hcy HQ7 HB7
  go_wp2_with fail
  refine wp_region_noPanic ?_
  refine wp_region_held_drew (S := PpS w9 bx x1 x2 y1 y2) (by kernel_rfl) hS9 (fun hHeld => ?_)
  refine wpAnyH_ready (rs := [0]) (by kernel_rfl) (by simp) ?_
  refine AllReadyH.cons (by simp only [List.getElem?_toArray, List.getElem?_cons_zero]; rfl) (fun K hK => ?_) AllReadyH.nil
  go_simp
  refine (H11 _ hHeld.2.2.2.2.out.1).mono ?_
  rintro e u0 ⟨rfl, hb0⟩
  refine hK.out _ _ (ppS_below hHeld hb0) (fun hHeld => ?_)
  clear hK K
  try simp only [Act.put, List.setIfInBounds_toArray, List.set_cons_zero, List.set_cons_succ]
  refine wpAnyH_take (i := 1) (v := ?_) (by simp only [List.getElem?_toArray, List.getElem?_cons_zero, List.getElem?_cons_succ]; rfl) (by kernel_rfl) (by kernel_rfl) (by kernel_rfl) (fun _ _ _ h => h) (Or.inl ⟨by rfl, ?_⟩) (by assumption) ?_; rotate_left; (· (intro w hSw; (try dsimp only at hSw); go_simp <;> with_reducible rfl)); try simp only [Act.put, List.setIfInBounds_toArray, List.set_cons_zero, List.set_cons_succ]
  refine wpAnyH_take (i := 2) (v := ?_) (by simp only [List.getElem?_toArray, List.getElem?_cons_zero, List.getElem?_cons_succ]; rfl) (by kernel_rfl) (by kernel_rfl) (by kernel_rfl) (fun _ _ _ h => h) (Or.inl ⟨by rfl, ?_⟩) (by assumption) ?_; rotate_left; (· (intro w hSw; (try dsimp only at hSw); go_simp <;> with_reducible rfl)); try simp only [Act.put, List.setIfInBounds_toArray, List.set_cons_zero, List.set_cons_succ]
  refine wpAnyH_take (i := 3) (v := ?_) (by simp only [List.getElem?_toArray, List.getElem?_cons_zero, List.getElem?_cons_succ]; rfl) (by kernel_rfl) (by kernel_rfl) (by kernel_rfl) (fun _ _ _ h => h) (Or.inl ⟨by rfl, ?_⟩) (by assumption) ?_; rotate_left; (· (intro w hSw; (try dsimp only at hSw); go_simp <;> with_reducible rfl)); try simp only [Act.put, List.setIfInBounds_toArray, List.set_cons_zero, List.set_cons_succ]
  refine wpAnyH_take (i := 4) (v := ?_) (by simp only [List.getElem?_toArray, List.getElem?_cons_zero, List.getElem?_cons_succ]; rfl) (by kernel_rfl) (by kernel_rfl) (by kernel_rfl) (fun _ _ _ h => h) (Or.inl ⟨by rfl, ?_⟩) (by assumption) ?_; rotate_left; (· (intro w hSw; (try dsimp only at hSw); go_simp <;> with_reducible rfl)); try simp only [Act.put, List.setIfInBounds_toArray, List.set_cons_zero, List.set_cons_succ]
  refine wpAnyH_ready (rs := [5]) (by kernel_rfl) (by simp) ?_
  refine AllReadyH.cons (by simp only [List.getElem?_toArray, List.getElem?_cons_zero, List.getElem?_cons_succ]; rfl) (fun K hK => ?_) AllReadyH.nil
  go_simp
  refine (H12a _ hHeld.2.2.2.2.out.1).mono ?_
  rintro e u5 ⟨rfl, hb5⟩
  refine hK.out _ _ (ppS_below hHeld hb5) (fun hHeld => ?_)
  clear hK K
  try simp only [Act.put, List.setIfInBounds_toArray, List.set_cons_zero, List.set_cons_succ]
  refine wpAnyH_take (i := 6) (v := ?_) (by simp only [List.getElem?_toArray, List.getElem?_cons_zero, List.getElem?_cons_succ]; rfl) (by kernel_rfl) (by kernel_rfl) (by kernel_rfl) (fun _ _ _ h => h) (Or.inl ⟨by rfl, ?_⟩) (by assumption) ?_; rotate_left; (· (intro w hSw; (try dsimp only at hSw); go_simp <;> with_reducible rfl)); try simp only [Act.put, List.setIfInBounds_toArray, List.set_cons_zero, List.set_cons_succ]
  refine wpAnyH_take (i := 7) (v := ?_) (by simp only [List.getElem?_toArray, List.getElem?_cons_zero, List.getElem?_cons_succ]; rfl) (by kernel_rfl) (by kernel_rfl) (by kernel_rfl) (fun _ _ _ h => h) (Or.inl ⟨by rfl, ?_⟩) (by assumption) ?_; rotate_left; (· (intro w hSw; (try dsimp only at hSw); go_simp <;> with_reducible rfl)); try simp only [Act.put, List.setIfInBounds_toArray, List.set_cons_zero, List.set_cons_succ]
  refine wpAnyH_take (i := 8) (v := ?_) (by simp only [List.getElem?_toArray, List.getElem?_cons_zero, List.getElem?_cons_succ]; rfl) (by kernel_rfl) (by kernel_rfl) (by kernel_rfl) (fun _ _ _ h => h) (Or.inl ⟨by rfl, ?_⟩) (by assumption) ?_; rotate_left; (· (intro w hSw; (try dsimp only at hSw); go_simp <;> with_reducible rfl)); try simp only [Act.put, List.setIfInBounds_toArray, List.set_cons_zero, List.set_cons_succ]
  refine wpAnyH_take (i := 9) (v := ?_) (by simp only [List.getElem?_toArray, List.getElem?_cons_zero, List.getElem?_cons_succ]; rfl) (by kernel_rfl) (by kernel_rfl) (by kernel_rfl) (fun _ _ _ h => h) (Or.inl ⟨by rfl, ?_⟩) (by assumption) ?_; rotate_left; (· (intro w hSw; (try dsimp only at hSw); go_simp <;> with_reducible rfl)); try simp only [Act.put, List.setIfInBounds_toArray, List.set_cons_zero, List.set_cons_succ]
  refine wpAnyH_take (i := 10) (v := ?_) (by simp only [List.getElem?_toArray, List.getElem?_cons_zero, List.getElem?_cons_succ]; rfl) (by kernel_rfl) (by kernel_rfl) (by kernel_rfl) (fun _ _ _ h => h) (Or.inl ⟨by rfl, ?_⟩) (by assumption) ?_; rotate_left; (· (intro w hSw; (try dsimp only at hSw); go_simp <;> with_reducible rfl)); try simp only [Act.put, List.setIfInBounds_toArray, List.set_cons_zero, List.set_cons_succ]
  refine wpAnyH_take (i := 11) (v := ?_) (by simp only [List.getElem?_toArray, List.getElem?_cons_zero, List.getElem?_cons_succ]; rfl) (by kernel_rfl) (by kernel_rfl) (by kernel_rfl) (fun _ _ _ h => h) (Or.inl ⟨by rfl, ?_⟩) (by assumption) ?_; rotate_left; (· (intro w hSw; (try dsimp only at hSw); go_simp <;> with_reducible rfl)); try simp only [Act.put, List.setIfInBounds_toArray, List.set_cons_zero, List.set_cons_succ]
  refine wpAnyH_take (i := 12) (v := ?_) (by simp only [List.getElem?_toArray, List.getElem?_cons_zero, List.getElem?_cons_succ]; rfl) (by kernel_rfl) (by kernel_rfl) (by kernel_rfl) (fun _ _ _ h => h) (Or.inl ⟨by rfl, ?_⟩) (by assumption) ?_; rotate_left; (· (intro w hSw; (try dsimp only at hSw); go_simp <;> with_reducible rfl)); try simp only [Act.put, List.setIfInBounds_toArray, List.set_cons_zero, List.set_cons_succ]
  refine wpAnyH_take (i := 13) (v := ?_) (by simp only [List.getElem?_toArray, List.getElem?_cons_zero, List.getElem?_cons_succ]; rfl) (by kernel_rfl) (by kernel_rfl) (by kernel_rfl) (fun _ _ _ h => h) (Or.inl ⟨by rfl, ?_⟩) (by assumption) ?_; rotate_left; (· (intro w hSw; (try dsimp only at hSw); go_simp <;> with_reducible rfl)); try simp only [Act.put, List.setIfInBounds_toArray, List.set_cons_zero, List.set_cons_succ]
  refine wpAnyH_take (i := 14) (v := ?_) (by simp only [List.getElem?_toArray, List.getElem?_cons_zero, List.getElem?_cons_succ]; rfl) (by kernel_rfl) (by kernel_rfl) (by kernel_rfl) (fun _ _ _ h => h) (Or.inl ⟨by rfl, ?_⟩) (by assumption) ?_; rotate_left; (· (intro w hSw; (try dsimp only at hSw); go_simp <;> with_reducible rfl)); try simp only [Act.put, List.setIfInBounds_toArray, List.set_cons_zero, List.set_cons_succ]
  refine wpAnyH_take (i := 15) (v := ?_) (by simp only [List.getElem?_toArray, List.getElem?_cons_zero, List.getElem?_cons_succ]; rfl) (by kernel_rfl) (by kernel_rfl) (by kernel_rfl) (fun _ _ _ h => h) (Or.inl ⟨by rfl, ?_⟩) (by assumption) ?_; rotate_left; (· (intro w hSw; (try dsimp only at hSw); go_simp <;> with_reducible rfl)); try simp only [Act.put, List.setIfInBounds_toArray, List.set_cons_zero, List.set_cons_succ]
  refine wpAnyH_take (i := 16) (v := ?_) (by simp only [List.getElem?_toArray, List.getElem?_cons_zero, List.getElem?_cons_succ]; rfl) (by kernel_rfl) (by kernel_rfl) (by kernel_rfl) (fun _ _ _ h => h) (Or.inl ⟨by rfl, ?_⟩) (by assumption) ?_; rotate_left; (· (intro w hSw; (try dsimp only at hSw); go_simp <;> with_reducible rfl)); try simp only [Act.put, List.setIfInBounds_toArray, List.set_cons_zero, List.set_cons_succ]
  refine wpAnyH_take (i := 18) (v := ?_) (by simp only [List.getElem?_toArray, List.getElem?_cons_zero, List.getElem?_cons_succ]; rfl) (by kernel_rfl) (by kernel_rfl) (by kernel_rfl) (fun _ _ _ h => h) (Or.inl ⟨by rfl, ?_⟩) (by assumption) ?_; rotate_left; (· (intro w hSw; (try dsimp only at hSw); go_simp <;> with_reducible rfl)); try simp only [Act.put, List.setIfInBounds_toArray, List.set_cons_zero, List.set_cons_succ]
  refine wpAnyH_take (i := 19) (v := ?_) (by simp only [List.getElem?_toArray, List.getElem?_cons_zero, List.getElem?_cons_succ]; rfl) (by kernel_rfl) (by kernel_rfl) (by kernel_rfl) (fun _ _ _ h => h) (Or.inl ⟨by rfl, ?_⟩) (by assumption) ?_; rotate_left; (· (intro w hSw; (try dsimp only at hSw); go_simp <;> with_reducible rfl)); try simp only [Act.put, List.setIfInBounds_toArray, List.set_cons_zero, List.set_cons_succ]
  refine wpAnyH_take (i := 20) (v := ?_) (by simp only [List.getElem?_toArray, List.getElem?_cons_zero, List.getElem?_cons_succ]; rfl) (by kernel_rfl) (by kernel_rfl) (by kernel_rfl) (fun _ _ _ h => h) (Or.inl ⟨by rfl, ?_⟩) (by assumption) ?_; rotate_left; (· (intro w hSw; (try dsimp only at hSw); go_simp <;> with_reducible rfl)); try simp only [Act.put, List.setIfInBounds_toArray, List.set_cons_zero, List.set_cons_succ]
  refine wpAnyH_ready (rs := [17]) (by kernel_rfl) (by simp) ?_
  refine AllReadyH.cons (by simp only [List.getElem?_toArray, List.getElem?_cons_zero, List.getElem?_cons_succ]; rfl) (fun K hK => ?_) AllReadyH.nil
  go_simp
  refine (H23 _ hHeld.2.2.2.2.out.1).mono ?_
  rintro e u17 ⟨rfl, hb17⟩
  refine hK.out _ _ (ppS_below hHeld hb17) (fun hHeld => ?_)
  clear hK K
  try simp only [Act.put, List.setIfInBounds_toArray, List.set_cons_zero, List.set_cons_succ]
  refine wpAnyH_ready (rs := [21]) (by kernel_rfl) (by simp) ?_
  refine AllReadyH.cons (by simp only [List.getElem?_toArray, List.getElem?_cons_zero, List.getElem?_cons_succ]; rfl) (fun K hK => ?_) AllReadyH.nil
  go_simp
  refine (H24 _ hHeld.2.2.2.2.out.1).mono ?_
  rintro e u21 ⟨rfl, hb21⟩
  refine hK.out _ _ (ppS_below hHeld hb21) (fun hHeld => ?_)
  clear hK K
  try simp only [Act.put, List.setIfInBounds_toArray, List.set_cons_zero, List.set_cons_succ]
  refine wpAnyH_take (i := 22) (v := ?_) (by simp only [List.getElem?_toArray, List.getElem?_cons_zero, List.getElem?_cons_succ]; rfl) (by kernel_rfl) (by kernel_rfl) (by kernel_rfl) (fun _ _ _ h => h) (Or.inl ⟨by rfl, ?_⟩) (by assumption) ?_; rotate_left; (· (intro w hSw; (try dsimp only at hSw); go_simp <;> with_reducible rfl)); try simp only [Act.put, List.setIfInBounds_toArray, List.set_cons_zero, List.set_cons_succ]
  refine wpAnyH_take (i := 23) (v := ?_) (by simp only [List.getElem?_toArray, List.getElem?_cons_zero, List.getElem?_cons_succ]; rfl) (by kernel_rfl) (by kernel_rfl) (by kernel_rfl) (fun _ _ _ h => h) (Or.inl ⟨by rfl, ?_⟩) (by assumption) ?_; rotate_left; (· (intro w hSw; (try dsimp only at hSw); go_simp <;> with_reducible rfl)); try simp only [Act.put, List.setIfInBounds_toArray, List.set_cons_zero, List.set_cons_succ]
  refine wpAnyH_take (i := 24) (v := ?_) (by simp only [List.getElem?_toArray, List.getElem?_cons_zero, List.getElem?_cons_succ]; rfl) (by kernel_rfl) (by kernel_rfl) (by kernel_rfl) (fun _ _ _ h => h) (Or.inl ⟨by rfl, ?_⟩) (by assumption) ?_; rotate_left; (· (intro w hSw; (try dsimp only at hSw); go_simp <;> with_reducible rfl)); try simp only [Act.put, List.setIfInBounds_toArray, List.set_cons_zero, List.set_cons_succ]
  refine wpAnyH_take (i := 25) (v := ?_) (by simp only [List.getElem?_toArray, List.getElem?_cons_zero, List.getElem?_cons_succ]; rfl) (by kernel_rfl) (by kernel_rfl) (by kernel_rfl) (fun _ _ _ h => h) (Or.inl ⟨by rfl, ?_⟩) (by assumption) ?_; rotate_left; (· (intro w hSw; (try dsimp only at hSw); go_simp <;> with_reducible rfl)); try simp only [Act.put, List.setIfInBounds_toArray, List.set_cons_zero, List.set_cons_succ]
  refine wpAnyH_take (i := 26) (v := ?_) (by simp only [List.getElem?_toArray, List.getElem?_cons_zero, List.getElem?_cons_succ]; rfl) (by kernel_rfl) (by kernel_rfl) (by kernel_rfl) (fun _ _ _ h => h) (Or.inl ⟨by rfl, ?_⟩) (by assumption) ?_; rotate_left; (· (intro w hSw; (try dsimp only at hSw); go_simp <;> with_reducible rfl)); try simp only [Act.put, List.setIfInBounds_toArray, List.set_cons_zero, List.set_cons_succ]
  refine wpAnyH_take (i := 27) (v := ?_) (by simp only [List.getElem?_toArray, List.getElem?_cons_zero, List.getElem?_cons_succ]; rfl) (by kernel_rfl) (by kernel_rfl) (by kernel_rfl) (fun _ _ _ h => h) (Or.inl ⟨by rfl, ?_⟩) (by assumption) ?_; rotate_left; (· (intro w hSw; (try dsimp only at hSw); go_simp <;> with_reducible rfl)); try simp only [Act.put, List.setIfInBounds_toArray, List.set_cons_zero, List.set_cons_succ]
  refine wpAnyH_take (i := 28) (v := ?_) (by simp only [List.getElem?_toArray, List.getElem?_cons_zero, List.getElem?_cons_succ]; rfl) (by kernel_rfl) (by kernel_rfl) (by kernel_rfl) (fun _ _ _ h => h) (Or.inl ⟨by rfl, ?_⟩) (by assumption) ?_; rotate_left; (· (intro w hSw; (try dsimp only at hSw); go_simp <;> with_reducible rfl)); try simp only [Act.put, List.setIfInBounds_toArray, List.set_cons_zero, List.set_cons_succ]
  refine wpAnyH_take (i := 29) (v := ?_) (by simp only [List.getElem?_toArray, List.getElem?_cons_zero, List.getElem?_cons_succ]; rfl) (by kernel_rfl) (by kernel_rfl) (by kernel_rfl) (fun _ _ _ h => h) (Or.inl ⟨by rfl, ?_⟩) (by assumption) ?_; rotate_left; (· (intro w hSw; (try dsimp only at hSw); go_simp <;> with_reducible rfl)); try simp only [Act.put, List.setIfInBounds_toArray, List.set_cons_zero, List.set_cons_succ]
  refine wpAnyH_ready (rs := [30]) (by kernel_rfl) (by simp) ?_
  refine AllReadyH.cons (by simp only [List.getElem?_toArray, List.getElem?_cons_zero, List.getElem?_cons_succ]; rfl) (fun K hK => ?_) AllReadyH.nil
  go_simp
  refine (H25 _ hHeld.2.2.2.2.out.1).mono ?_
  rintro e u30 ⟨ga, gj, gc, rfl, HG⟩
  have HGG : Hid (_ ∧ _) := (H12b.out _ _ ga gj gc hHeld.2.2.2.2.out.1 HG)
  refine hK.out _ _ (ppS_below hHeld HGG.out.2) (fun hHeld => ?_)
  clear hK K
  try simp only [Act.put, List.setIfInBounds_toArray, List.set_cons_zero, List.set_cons_succ]
  refine wpAnyH_ready (rs := [31]) (by kernel_rfl) (by simp) ?_
  refine AllReadyH.cons (by simp only [List.getElem?_toArray, List.getElem?_cons_zero, List.getElem?_cons_succ]; rfl) (fun K hK => ?_) AllReadyH.nil
  go_simp
  refine HGG.out.1.mono ?_
  rintro e u31 ⟨rfl, hb31⟩
  refine hK.out _ _ (ppS_below hHeld hb31) (fun hHeld => ?_)
  clear hK K
  try simp only [Act.put, List.setIfInBounds_toArray, List.set_cons_zero, List.set_cons_succ]
  refine wpAnyH_take (i := 32) (v := ?_) (by simp only [List.getElem?_toArray, List.getElem?_cons_zero, List.getElem?_cons_succ]; rfl) (by kernel_rfl) (by kernel_rfl) (by kernel_rfl) (fun _ _ _ h => h) (Or.inl ⟨by rfl, ?_⟩) (by assumption) ?_; rotate_left; (· (intro w hSw; (try dsimp only at hSw); go_simp <;> with_reducible rfl)); try simp only [Act.put, List.setIfInBounds_toArray, List.set_cons_zero, List.set_cons_succ]
  refine wpAnyH_take (i := 33) (v := ?_) (by simp only [List.getElem?_toArray, List.getElem?_cons_zero, List.getElem?_cons_succ]; rfl) (by kernel_rfl) (by kernel_rfl) (by kernel_rfl) (fun _ _ _ h => h) (Or.inl ⟨by rfl, ?_⟩) (by assumption) ?_; rotate_left; (· (intro w hSw; (try dsimp only at hSw); go_simp <;> with_reducible rfl)); try simp only [Act.put, List.setIfInBounds_toArray, List.set_cons_zero, List.set_cons_succ]
  refine wpAnyH_done (by kernel_rfl) ?_ _
  refine NoPanic.normal ?_
  have K19 : Hid (Below w9.heap.size w9 u31) := hHeld.2.2.2.2.out.1
  clear hHeld H11 H12a H23 H24 H25 H12b HY9 hS9 HGG HG
  have HK : Hid (w9.heap.size ≤ u31.heap.size) := K19.out.size
  have HBk : Hid (Bq (u31.alloc (.cells #[.slice none 0 0, .slice none 0 0, .slice none 0 0, .slice none 0 0, .slice none 0 0] 44)) w5.heap.size u31.heap.size w5.heap.size [] [] ∧ Below w9.heap.size w9 (u31.alloc (.cells #[.slice none 0 0, .slice none 0 0, .slice none 0 0, .slice none 0 0, .slice none 0 0] 44))) := by
    refine ⟨Bq.start _ _ _ _ (heap_alloc_new _ _) ?_, K19.out.trans ((below_alloc u31 _).mono K19.out.size)⟩
    have h1 := HSZ.out
    have h2 := HK.out
    omega
  go_wp2_with fail
  obtain ⟨V0, hV0⟩ : ∃ W, u31.alloc (.cells #[.slice none 0 0, .slice none 0 0, .slice none 0 0, .slice none 0 0, .slice none 0 0] 44) = W := ⟨_, rfl⟩
  obtain ⟨b, hb'⟩ : ∃ b, u31.heap.size = b := ⟨_, rfl⟩
  rw [hV0, hb'] at HBk
  rw [hb'] at HK
  try rw [hV0]
  try rw [hb']
  clear hV0 hb' K19
  have HOx : Hid (Ow V0 w5.heap.size w6.heap.size (.slice pa pn pc) ps ∧ Ow V0 w7.heap.size w9.heap.size (.slice fa fn fc) fs ∧ Below w5.heap.size w5 V0) := by
    have h := HO.out V0 HBk.out.2
    exact ⟨h.1, h.2.1, HB9.out.trans (HBk.out.2.mono HB9.out.size)⟩
  have HT1 := HBk.out.1.take HOx.out.1 (Nat.le_refl _) HSZ.out.1 HP.out.1 (by have := HPL.out; have := HP.out.1; omega) (by decide)
  refine HT1.mono ?_
  rintro e V1 ⟨rfl, HW1⟩
  clear HT1 HBk
  have HOy : Hid (Ow V1 w7.heap.size w9.heap.size (.slice fa fn fc) fs ∧ Below w5.heap.size w5 V1) := by
    have h1 := HSZ.out
    have h2 := HK.out
    exact ⟨HOx.out.2.1.take (by omega) HW1.out.2.1.size HW1.out.2.2, HOx.out.2.2.trans HW1.out.2.1⟩
  have HT2 := (HW1.out.1.mono HSZ.out.2.1).take HOy.out.1 (by have := HSZ.out; omega) HSZ.out.2.2 HF.out.2.1 HF.out.2.2.2.2 (by simp)
  clear HW1 HOx
  go_wp2_with fail
  refine HT2.mono ?_
  rintro e V2 ⟨rfl, HW2⟩
  clear HT2
  have HO2 : Hid (Below w5.heap.size w5 V2) := HOy.out.2.trans HW2.out.2.1
  have HAl := HW2.out.1.alone (by simp)
  clear HW2 HOy
  go_wp2_with fail
  refine HAl.mono ?_
  rintro e V3 ⟨rfl, h3⟩
  clear HAl
  have HO3 : Hid (Below w5.heap.size w5 V3) := HO2.out.trans h3
  clear h3
  go_wp2_with fail
  go_ret
  exact ⟨rfl, (HY.out V3 HO3.out).2.2.2.1⟩
end Go.Proofs.YtojobiefambkoaaGreatDoor
