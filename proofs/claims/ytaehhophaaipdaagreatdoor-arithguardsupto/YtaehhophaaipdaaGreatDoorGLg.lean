/- Contracts of the guards' closure that holds two terms against one another. -/
import Derived.Test.YtaehhophaaipdaaGreatDoorGMg
import Derived.Test.YtaehhophaaipdaaGreatDoorGQg
import Derived.Deep.DeepCutAuto
namespace Go.Proofs.YtaehhophaaipdaaGreatDoor
open Go.RowKit
attribute [local go_sem ↓] Go.wp_at_zero Go.wp_at_succ
theorem eat_comp' : ∀ (p r : List C) (q : Nat), compQ p q = true → eat (p ++ r) q = some p.length
 | [], r, 0, _ => by rw [eat_zero]; rfl
 | [], _, _ + 1, h => by cases h
 | c :: p, r, 0, h => by cases h
 | c :: p, r, q + 1, h => by
  have h1 : compQ p (q + argN c) = true := h
  have h2 := eat_comp' p r (q + argN c) h1
  show (eat (p ++ r) (q + (argsOf c.k c.n).toNat)).map (· + 1) = some (p.length + 1)
  rw [show (argsOf c.k c.n).toNat = argN c from rfl, h2]
  rfl
theorem end_one {c : C} {p q : List C} (hp : compQ p 1 = true) : endS (c :: (p ++ q)) (1 : Nat) = (p.length : Int) + 1 := by
 have h1 := compQ_le hp
 rw [endS_eat _ 1 (by simp; omega)]
 simp only [List.drop_succ_cons, List.drop_zero]
 rw [eat_comp' p q 1 hp]
 simp
 omega
def wN (c : C) (names : List Nm) : List Nm := if c.k = 4 then addN names (c.vn, c.vk) else names
def likPO (k : Nat) (e f : C) : Int := if e.k = 4 ∧ eqC e f = true then (if k = 11 then 3 else 2) else if e.k = 4 ∨ f.k = 4 then 3 else outO (likB k e f)
def likPN (k : Nat) (e f : C) (names : List Nm) : List Nm := if e.k = 4 ∧ eqC e f = true then (if k = 11 then addN names (e.vn, e.vk) else names) else wN f (wN e names)
theorem Bc.cells {w1 W : World} {b : Nat} {c : C} (h : Bc w1 W b c) : W.cell? ⟨b, 0, none⟩ = some (.int .u8 c.k) ∧ W.cell? ⟨b, 1, none⟩ = some (.string c.t) ∧ W.cell? ⟨b, 2, none⟩ = some (.int .i64 c.n) ∧ W.cell? ⟨b, 3, none⟩ = some (.int .i64 c.vn) ∧ W.cell? ⟨b, 4, none⟩ = some (.int .i64 c.vk) := by
 refine ⟨?_, ?_, ?_, ?_, ?_⟩ <;> rw [cell_of_row W b _ _ 69 (0, 0) h.1] <;> rfl
set_option maxRecDepth 100000 in
set_option maxHeartbeats 40000000 in
theorem z145 (k : Nat) (fi ff : Value) (m : Hp) (hm : HpOk m) (w0 : World) (lb : Nat) (p : Option Addr) (B g : Nat) (hp : HpV w0 (.pointer p) m) (c : C) (x y : List C) (e f : C) (r s : List C) (names : List Nm) (K : Nat) (v : Value) (w : World) (bl bi bf : Nat) (hx : compQ x 1 = true) (hy : compQ y 1 = true) (hf : IsFol m x (e :: r)) (hg : IsFol m y (f :: s)) (hb : Below w0.heap.size w0 w) (hL : Lk w w0.heap.size lb (.pointer p) B g names K) (hT : TermAt w0 v (c :: (x ++ y))) (hW : ∀ z ∈ x ++ y, wfN (z.vn, z.vk)) (ht : (x ++ y).length * 48 ≤ 140737488355328) (hwe : wfN (e.vn, e.vk)) (hwf : wfN (f.vn, f.vk)) (hK : K < 999999999) (hbl : w.heap[bl]? = some (.cells #[pv lb] 78 (0, 0))) (hbi : w.heap[bi]? = some (.cells #[fi] 140 (0, 0))) (hbf : w.heap[bf]? = some (.cells #[ff] 149 (0, 0))) (hk : (k = 11 ∧ fi = .func (Fn.func 103) #[pv lb] #[] ∧ ff = .func (Fn.func 121) #[] #[]) ∨ (k = 12 ∧ fi = .func (Fn.func 123) #[] #[] ∧ ff = .func (Fn.func 124) #[] #[])) :
  Calls Tryz.prog 145 #[v, pv bl, pv bi, pv bf] w (GdPost w0 lb (.pointer p) B g (likPO k e f) (likPN k e f names) (K + 2) w) := by
 have hx1 := compQ_le hx
 have hy1 := compQ_le hy
 obtain ⟨⟨hlm, htx⟩, hT0⟩ := id hT
 rcases hT0 with ⟨h, _⟩ | ⟨b, ob, cap, rfl, h2, h5, h3, h4⟩
 ·cases h
 have H64 : Calls Tryz.prog 64 #[.slice (some ⟨b, ob, none⟩) (c :: (x ++ y)).length cap, .int .i64 1] w fun e' w' => e' = .returned (.int .i64 ((x.length : Int) + 1)) ∧ Hid (Below w.heap.size w w') := by
  have h1 := c24_in (c :: (x ++ y)) b ob cap 1 w (range_below h3 h4 hb) (Nat.lt_of_lt_of_le h4 hb.size) hlm (by simp; omega)
  rw [end_one hx] at h1
  exact h1
 have HTx : Hid (TermAt w0 (.slice (some ⟨b, ob + 5, none⟩) x.length (cap - 1)) x ∧ TermAt w0 (.slice (some ⟨b, ob + (x.length + 1) * 5, none⟩) y.length (cap - (x.length + 1))) y) := by
  simp only [List.length_cons, List.length_append] at h2
  exact term_mid h3 h4 (by omega) h5 htx
 simp only [List.length_cons, List.length_append] at h2
 have hcap : x.length + y.length + 1 ≤ cap := h2
 unfold maxLen at h5
 obtain ⟨M0, n0, nv0, hL0, _⟩ := id hL
 have l0 := hL0.cells.1
 have c0 := cell0 hbl
 have hlbl := World.block_lt_of_cell? w _ c0
 have hlb := World.block_lt_of_cell? w _ l0
 simp only at hlbl hlb
 clear hL0
 simp only [List.length_cons, List.length_append] at H64 ⊢
 go_enter Tryz.func145, Tryz.ntmps145
 go_wp2_with fail
 refine H64.mono ?_
 rintro e' w1 ⟨rfl, H1⟩
 have hsz := H1.out.size
 have hlbl1 : bl < w1.heap.size := by omega
 have hlb1 : lb < w1.heap.size := by omega
 have HA : Hid (∀ W, Below w1.heap.size w1 W → Calls Tryz.prog 102 #[.pointer p, .slice (some ⟨b, ob + 5, none⟩) x.length (cap - 1)] W fun e' w' => ∃ b2 o2 cz, e' = .returned (.slice (some ⟨b2, o2, none⟩) (r.length + 1) cz) ∧ Hid (Dr W w' b2 o2 e)) := fun W hWw => by
  have hbW := hb.trans ((H1.out.trans (hWw.mono H1.out.size)).mono hb.size)
  exact dr_of m hm p x _ W e r (hp.below hbW) (HTx.out.1.below hbW) (fun z hz => hW z (by simp [hz])) (by simp at ht; omega) hf
 have HQ : Hid (∀ W, Below w1.heap.size w1 W → Calls Tryz.prog 102 #[.pointer p, .slice (some ⟨b, ob + (x.length + 1) * 5, none⟩) y.length (cap - (x.length + 1))] W fun e' w' => ∃ b2 o2 cz, e' = .returned (.slice (some ⟨b2, o2, none⟩) (s.length + 1) cz) ∧ Hid (Dr W w' b2 o2 f)) := fun W hWw => by
  have hbW := hb.trans ((H1.out.trans (hWw.mono H1.out.size)).mono hb.size)
  exact dr_of m hm p y _ W f s (hp.below hbW) (HTx.out.2.below hbW) (fun z hz => hW z (by simp [hz])) (by simp at ht; omega) hg
 have hge1 : (1 : Int) ≤ (x.length : Int) + 1 := by omega
 have hge2 : (x.length : Int) + 1 ≤ (x.length : Int) + (y.length : Int) + 1 := by omega
 have hi1 : (0 : Int) ≤ (x.length : Int) + 1 := by omega
 have hi2 : (x.length : Int) + 1 ≤ (cap : Int) := by omega
 have hi3 : (x.length : Int) + (y.length : Int) + 1 ≤ (cap : Int) := by omega
 have hc1 : ¬ cap = 1 := by omega
 have hc2 : ¬ cap = x.length + 1 := by omega
 have h0r : (0 : Int) < (r.length : Int) + 1 := by omega
 have h0s : (0 : Int) < (s.length : Int) + 1 := by omega
 have hS0 : LS0 bl lb p w1.drew := ⟨(H1.out.cell (p := ⟨bl, 0, none⟩) hlbl).trans c0, (H1.out.cell (p := ⟨lb, 0, none⟩) hlb).trans l0⟩
 have HB0 : Hid (Below w1.heap.size w1 w1.drew) := Below.drew (Below.refl _ _)
 have K92 : ∀ (c : C), wfN (c.vn, c.vk) → ∀ (W : World) (ns : List Nm) (L : Nat), Below w0.heap.size w0 W → Lk W w0.heap.size lb (.pointer p) B g ns L → L < 1000000000 → Calls Tryz.prog 103 #[pv lb, .agg #[.int .i64 c.vn, .int .i64 c.vk]] W fun e' w' => e' = .returned (.int .u8 3) ∧ Hid (Lk w' w0.heap.size lb (.pointer p) B g (addN ns (c.vn, c.vk)) (L + 1) ∧ Below w0.heap.size w0 w' ∧ KeepT W w') := fun c hc W ns L hbW hL hL9 => by
  obtain ⟨M, n, nv, hl, hk1, hk2⟩ := hL
  refine (h92 w0.heap.size lb _ B g M n nv ns (c.vn, c.vk) W hl hc (by omega) (by omega) hbW.size).mono ?_
  rintro e' w' ⟨he, ⟨n', nv', h1, h2⟩, hb3, hkt⟩
  exact ⟨he, ⟨M, n', nv', h1, by omega, by have := addN_len ns (c.vn, c.vk); omega⟩, hbW.trans hb3, hkt⟩
 have HLk : Hid (∀ W, Below w.heap.size w W → Lk W w0.heap.size lb (.pointer p) B g names K) := fun W h => hL.below h
 have ci := cell0 hbi
 have cf := cell0 hbf
 have hbi1 := World.block_lt_of_cell? w _ ci
 have hbf1 := World.block_lt_of_cell? w _ cf
 simp only at hbi1 hbf1
 have HCs : Hid (∀ W, Below w.heap.size w W → W.cell? ⟨bl, 0, none⟩ = some (pv lb) ∧ W.cell? ⟨bi, 0, none⟩ = some fi ∧ W.cell? ⟨bf, 0, none⟩ = some ff) := fun W h => ⟨(h.cell (p := ⟨bl, 0, none⟩) hlbl).trans c0, (h.cell (p := ⟨bi, 0, none⟩) hbi1).trans ci, (h.cell (p := ⟨bf, 0, none⟩) hbf1).trans cf⟩
 have HBlk : Hid (w.heap[bl]? = some (.cells #[pv lb] 78 (0, 0))) := hbl
 clear ci cf hbi hbf hbl
 clear c0 l0 H64 hlm htx h3 h4 hT hx hy hf hg hW ht hp
 go_upto_region 2 with fail
 go_cut [7, 8] (fun va vb wc => ∃ ba bb, va = pv ba ∧ vb = pv bb ∧ Hid (Bc w1 wc ba e ∧ Bc w1 wc bb f ∧ Below w1.heap.size w1 wc))
 case first =>
  refine wp_region_noPanic ?_
  refine wp_region_held_drew (S := fun w' => LS0 bl lb p w') (by kernel_rfl) hS0 (fun hHeld => ?_)
  clear hHeld
  generalize w1.drew = W0 at hS0 HB0 ⊢
  refine wpAnyH_take (i := 0) (v := ?_) (by simp only [List.getElem?_toArray, List.getElem?_cons_zero]; rfl) (by kernel_rfl) (by kernel_rfl) (by kernel_rfl) (fun _ _ _ h => h) (Or.inl ⟨by rfl, ?_⟩) (by assumption) ?_
  rotate_left
  ·(intro w hSw; (try dsimp only at hSw); go_simp <;> with_reducible rfl)
  try simp only [Act.put, List.setIfInBounds_toArray, List.set_cons_zero, List.set_cons_succ]
  refine wpAnyH_take (i := 1) (v := ?_) (by simp only [List.getElem?_toArray, List.getElem?_cons_zero, List.getElem?_cons_succ]; rfl) (by kernel_rfl) (by kernel_rfl) (by kernel_rfl) (fun _ _ _ h => h) (Or.inl ⟨by rfl, ?_⟩) (by assumption) ?_
  rotate_left
  ·(intro w hSw; (try dsimp only at hSw); go_simp <;> with_reducible rfl)
  try simp only [Act.put, List.setIfInBounds_toArray, List.set_cons_zero, List.set_cons_succ]
  refine wpAnyH_take (i := 2) (v := ?_) (by simp only [List.getElem?_toArray, List.getElem?_cons_zero, List.getElem?_cons_succ]; rfl) (by kernel_rfl) (by kernel_rfl) (by kernel_rfl) (fun _ _ _ h => h) (Or.inl ⟨by rfl, ?_⟩) (by assumption) ?_
  rotate_left
  ·(intro w hSw; (try dsimp only at hSw); go_simp <;> with_reducible rfl)
  try simp only [Act.put, List.setIfInBounds_toArray, List.set_cons_zero, List.set_cons_succ]
  refine wpAnyH_take (i := 3) (v := ?_) (by simp only [List.getElem?_toArray, List.getElem?_cons_zero, List.getElem?_cons_succ]; rfl) (by kernel_rfl) (by kernel_rfl) (by kernel_rfl) (fun _ _ _ h => h) (Or.inl ⟨by rfl, ?_⟩) (by assumption) ?_
  rotate_left
  ·(intro w hSw; (try dsimp only at hSw); go_simp <;> with_reducible rfl)
  try simp only [Act.put, List.setIfInBounds_toArray, List.set_cons_zero, List.set_cons_succ]
  refine wpAnyH_take (i := 4) (v := ?_) (by simp only [List.getElem?_toArray, List.getElem?_cons_zero, List.getElem?_cons_succ]; rfl) (by kernel_rfl) (by kernel_rfl) (by kernel_rfl) (fun _ _ _ h => h) (Or.inl ⟨by rfl, ?_⟩) (by assumption) ?_
  rotate_left
  ·(intro w hSw; (try dsimp only at hSw); go_simp <;> with_reducible rfl)
  try simp only [Act.put, List.setIfInBounds_toArray, List.set_cons_zero, List.set_cons_succ]
  refine wpAnyH_take (i := 5) (v := ?_) (by simp only [List.getElem?_toArray, List.getElem?_cons_zero, List.getElem?_cons_succ]; rfl) (by kernel_rfl) (by kernel_rfl) (by kernel_rfl) (fun _ _ _ h => h) (Or.inl ⟨by rfl, ?_⟩) (by assumption) ?_
  rotate_left
  ·(intro w hSw; (try dsimp only at hSw); go_simp <;> with_reducible rfl)
  try simp only [Act.put, List.setIfInBounds_toArray, List.set_cons_zero, List.set_cons_succ]
  refine wpAnyH_take (i := 6) (v := ?_) (by simp only [List.getElem?_toArray, List.getElem?_cons_zero, List.getElem?_cons_succ]; rfl) (by kernel_rfl) (by kernel_rfl) (by kernel_rfl) (fun _ _ _ h => h) (Or.inl ⟨by rfl, ?_⟩) (by assumption) ?_
  rotate_left
  ·(intro w hSw; (try dsimp only at hSw); go_simp <;> with_reducible rfl)
  try simp only [Act.put, List.setIfInBounds_toArray, List.set_cons_zero, List.set_cons_succ]
  refine wpAnyH_take (i := 10) (v := ?_) (by simp only [List.getElem?_toArray, List.getElem?_cons_zero, List.getElem?_cons_succ]; rfl) (by kernel_rfl) (by kernel_rfl) (by kernel_rfl) (fun _ _ _ h => h) (Or.inl ⟨by rfl, ?_⟩) (by assumption) ?_
  rotate_left
  ·(intro w hSw; (try dsimp only at hSw); go_simp <;> with_reducible rfl)
  try simp only [Act.put, List.setIfInBounds_toArray, List.set_cons_zero, List.set_cons_succ]
  refine wpAnyH_take (i := 11) (v := ?_) (by simp only [List.getElem?_toArray, List.getElem?_cons_zero, List.getElem?_cons_succ]; rfl) (by kernel_rfl) (by kernel_rfl) (by kernel_rfl) (fun _ _ _ h => h) (Or.inl ⟨by rfl, ?_⟩) (by assumption) ?_
  rotate_left
  ·(intro w hSw; (try dsimp only at hSw); go_simp <;> with_reducible rfl)
  try simp only [Act.put, List.setIfInBounds_toArray, List.set_cons_zero, List.set_cons_succ]
  refine wpAnyH_take (i := 12) (v := ?_) (by simp only [List.getElem?_toArray, List.getElem?_cons_zero, List.getElem?_cons_succ]; rfl) (by kernel_rfl) (by kernel_rfl) (by kernel_rfl) (fun _ _ _ h => h) (Or.inl ⟨by rfl, ?_⟩) (by assumption) ?_
  rotate_left
  ·(intro w hSw; (try dsimp only at hSw); go_simp <;> with_reducible rfl)
  try simp only [Act.put, List.setIfInBounds_toArray, List.set_cons_zero, List.set_cons_succ]
  refine wpAnyH_take (i := 13) (v := ?_) (by simp only [List.getElem?_toArray, List.getElem?_cons_zero, List.getElem?_cons_succ]; rfl) (by kernel_rfl) (by kernel_rfl) (by kernel_rfl) (fun _ _ _ h => h) (Or.inl ⟨by rfl, ?_⟩) (by assumption) ?_
  rotate_left
  ·(intro w hSw; (try dsimp only at hSw); go_simp <;> with_reducible rfl)
  try simp only [Act.put, List.setIfInBounds_toArray, List.set_cons_zero, List.set_cons_succ]
  refine wpAnyH_take (i := 14) (v := ?_) (by simp only [List.getElem?_toArray, List.getElem?_cons_zero, List.getElem?_cons_succ]; rfl) (by kernel_rfl) (by kernel_rfl) (by kernel_rfl) (fun _ _ _ h => h) (Or.inl ⟨by rfl, ?_⟩) (by assumption) ?_
  rotate_left
  ·(intro w hSw; (try dsimp only at hSw); go_simp <;> with_reducible rfl)
  try simp only [Act.put, List.setIfInBounds_toArray, List.set_cons_zero, List.set_cons_succ]
  refine wpAnyH_take (i := 15) (v := ?_) (by simp only [List.getElem?_toArray, List.getElem?_cons_zero, List.getElem?_cons_succ]; rfl) (by kernel_rfl) (by kernel_rfl) (by kernel_rfl) (fun _ _ _ h => h) (Or.inl ⟨by rfl, ?_⟩) (by assumption) ?_
  rotate_left
  ·(intro w hSw; (try dsimp only at hSw); go_simp <;> with_reducible rfl)
  try simp only [Act.put, List.setIfInBounds_toArray, List.set_cons_zero, List.set_cons_succ]
  refine wpAnyH_take (i := 16) (v := ?_) (by simp only [List.getElem?_toArray, List.getElem?_cons_zero, List.getElem?_cons_succ]; rfl) (by kernel_rfl) (by kernel_rfl) (by kernel_rfl) (fun _ _ _ h => h) (Or.inl ⟨by rfl, ?_⟩) (by assumption) ?_
  rotate_left
  ·(intro w hSw; (try dsimp only at hSw); go_simp <;> with_reducible rfl)
  try simp only [Act.put, List.setIfInBounds_toArray, List.set_cons_zero, List.set_cons_succ]
  refine wpAnyH_ready (rs := [7, 20, 21]) (by kernel_rfl) (by simp) ?_
  refine (AllReadyH.cons (by simp only [List.getElem?_toArray, List.getElem?_cons_zero, List.getElem?_cons_succ]; rfl) (fun K hK => ?_) (AllReadyH.cons (by simp only [List.getElem?_toArray, List.getElem?_cons_zero, List.getElem?_cons_succ]; rfl) (fun K hK => ?_) (AllReadyH.cons (by simp only [List.getElem?_toArray, List.getElem?_cons_zero, List.getElem?_cons_succ]; rfl) (fun K hK => ?_) AllReadyH.nil)))
  ·go_simp
   go_at_call 102
   refine (HA.out _ HB0.out).mono ?_
   rintro e' W1 ⟨b2, o2, cz2, rfl, HR⟩
   have st : Stp W0 W1 none := Stp.call HR.out.bel
   have hT : LS0 bl lb p W1 := LS0.stp hS0 st (by simp) (by simp)
   have HB1 : Hid (Below w1.heap.size w1 W1) := st.bel w1 HB0.out (fun b h => by cases h)
   refine hK.out _ _ hT (fun hHeld => ?_)
   clear hK K hHeld
   try simp only [Act.put, List.setIfInBounds_toArray, List.set_cons_zero, List.set_cons_succ]
   refine wpAnyH_more (S' := fun w' => (LS0 bl lb p w' ∧ LC b2 o2 e w')) (fun _ h => h.1) _ _ _ _ ?_
   have hS1 : (LS0 bl lb p W1 ∧ LC b2 o2 e W1) := ⟨hT, HR.out.cells⟩
   clear hT st HR hS0 HB0
   refine wpAnyH_take (i := 8) (v := ?_) (by simp only [List.getElem?_toArray, List.getElem?_cons_zero, List.getElem?_cons_succ]; rfl) (by kernel_rfl) (by kernel_rfl) (by kernel_rfl) (fun _ _ _ h => h) (Or.inl ⟨by rfl, ?_⟩) (by assumption) ?_
   rotate_left
   ·(intro w hSw; (try dsimp only at hSw); go_simp <;> with_reducible rfl)
   try simp only [Act.put, List.setIfInBounds_toArray, List.set_cons_zero, List.set_cons_succ]
   refine wpAnyH_take (i := 9) (v := ?_) (by simp only [List.getElem?_toArray, List.getElem?_cons_zero, List.getElem?_cons_succ]; rfl) (by kernel_rfl) (by kernel_rfl) (by kernel_rfl) (fun _ _ _ h => h) (Or.inl ⟨by rfl, ?_⟩) (by assumption) ?_
   rotate_left
   ·(intro w hSw; (try dsimp only at hSw); go_simp <;> with_reducible rfl)
   try simp only [Act.put, List.setIfInBounds_toArray, List.set_cons_zero, List.set_cons_succ]
   refine wpAnyH_ready (rs := [17, 20, 21]) (by kernel_rfl) (by simp) ?_
   refine (AllReadyH.cons (by simp only [List.getElem?_toArray, List.getElem?_cons_zero, List.getElem?_cons_succ]; rfl) (fun K hK => ?_) (AllReadyH.cons (by simp only [List.getElem?_toArray, List.getElem?_cons_zero, List.getElem?_cons_succ]; rfl) (fun K hK => ?_) (AllReadyH.cons (by simp only [List.getElem?_toArray, List.getElem?_cons_zero, List.getElem?_cons_succ]; rfl) (fun K hK => ?_) AllReadyH.nil)))
   ·go_simp
    go_at_call 102
    refine (HQ.out _ HB1.out).mono ?_
    rintro e' W2 ⟨b3, o3, cz3, rfl, HR⟩
    have st : Stp W1 W2 none := Stp.call HR.out.bel
    have hT : (LS0 bl lb p W2 ∧ LC b2 o2 e W2) := ⟨LS0.stp hS1.1 st (by simp) (by simp), LC.stp hS1.2 st (by simp)⟩
    have HB2 : Hid (Below w1.heap.size w1 W2) := st.bel w1 HB1.out (fun b h => by cases h)
    refine hK.out _ _ hT (fun hHeld => ?_)
    clear hK K hHeld
    try simp only [Act.put, List.setIfInBounds_toArray, List.set_cons_zero, List.set_cons_succ]
    refine wpAnyH_more (S' := fun w' => ((LS0 bl lb p w' ∧ LC b2 o2 e w') ∧ LC b3 o3 f w')) (fun _ h => h.1) _ _ _ _ ?_
    have hS2 : ((LS0 bl lb p W2 ∧ LC b2 o2 e W2) ∧ LC b3 o3 f W2) := ⟨hT, HR.out.cells⟩
    clear hT st HR hS1 HB1
    refine wpAnyH_take (i := 18) (v := ?_) (by simp only [List.getElem?_toArray, List.getElem?_cons_zero, List.getElem?_cons_succ]; rfl) (by kernel_rfl) (by kernel_rfl) (by kernel_rfl) (fun _ _ _ h => h) (Or.inl ⟨by rfl, ?_⟩) (by assumption) ?_
    rotate_left
    ·(intro w hSw; (try dsimp only at hSw); go_simp <;> with_reducible rfl)
    try simp only [Act.put, List.setIfInBounds_toArray, List.set_cons_zero, List.set_cons_succ]
    refine wpAnyH_take (i := 19) (v := ?_) (by simp only [List.getElem?_toArray, List.getElem?_cons_zero, List.getElem?_cons_succ]; rfl) (by kernel_rfl) (by kernel_rfl) (by kernel_rfl) (fun _ _ _ h => h) (Or.inl ⟨by rfl, ?_⟩) (by assumption) ?_
    rotate_left
    ·(intro w hSw; (try dsimp only at hSw); go_simp <;> with_reducible rfl)
    try simp only [Act.put, List.setIfInBounds_toArray, List.set_cons_zero, List.set_cons_succ]
    refine wpAnyH_ready (rs := [20, 21]) (by kernel_rfl) (by simp) ?_
    refine (AllReadyH.cons (by simp only [List.getElem?_toArray, List.getElem?_cons_zero, List.getElem?_cons_succ]; rfl) (fun K hK => ?_) (AllReadyH.cons (by simp only [List.getElem?_toArray, List.getElem?_cons_zero, List.getElem?_cons_succ]; rfl) (fun K hK => ?_) AllReadyH.nil))
    ·go_simp
     have st : Stp W2 (W2.alloc (.cells #[.int .u8 0, .string ⟨#[]⟩, .int .i64 0, .int .i64 0, .int .i64 0] 69)) none := Stp.alloc _ _
     have hT : ((LS0 bl lb p (W2.alloc (.cells #[.int .u8 0, .string ⟨#[]⟩, .int .i64 0, .int .i64 0, .int .i64 0] 69)) ∧ LC b2 o2 e (W2.alloc (.cells #[.int .u8 0, .string ⟨#[]⟩, .int .i64 0, .int .i64 0, .int .i64 0] 69))) ∧ LC b3 o3 f (W2.alloc (.cells #[.int .u8 0, .string ⟨#[]⟩, .int .i64 0, .int .i64 0, .int .i64 0] 69))) := ⟨⟨LS0.stp hS2.1.1 st (by simp) (by simp), LC.stp hS2.1.2 st (by simp)⟩, LC.stp hS2.2 st (by simp)⟩
     have HB3 : Hid (Below w1.heap.size w1 (W2.alloc (.cells #[.int .u8 0, .string ⟨#[]⟩, .int .i64 0, .int .i64 0, .int .i64 0] 69))) := st.bel w1 HB2.out (fun b h => by cases h)
     have fA3 : Hid (Bz w1 (W2.alloc (.cells #[.int .u8 0, .string ⟨#[]⟩, .int .i64 0, .int .i64 0, .int .i64 0] 69)) W2.heap.size) := Bz.new HB2.out
     have n2a : b2 ≠ W2.heap.size := by have h1 := LC.lt (hS2.1.2); omega
     have n3a : b3 ≠ W2.heap.size := by have h1 := LC.lt (hS2.2); omega
     refine hK.out _ _ hT (fun hHeld => ?_)
     clear hK K hHeld st
     try simp only [Act.put, List.setIfInBounds_toArray, List.set_cons_zero, List.set_cons_succ]
     generalize W2.alloc (.cells #[.int .u8 0, .string ⟨#[]⟩, .int .i64 0, .int .i64 0, .int .i64 0] 69) = W3 at hT HB3 fA3 ⊢
     generalize W2.heap.size = ba at fA3 n2a n3a ⊢
     have hS3 := hT
     clear hT hS2 HB2
     refine wpAnyH_ready (rs := [21]) (by kernel_rfl) (by simp) ?_
     refine (AllReadyH.cons (by simp only [List.getElem?_toArray, List.getElem?_cons_zero, List.getElem?_cons_succ]; rfl) (fun K hK => ?_) AllReadyH.nil)
     ·go_simp
      have st : Stp W3 (W3.alloc (.cells #[.int .u8 0, .string ⟨#[]⟩, .int .i64 0, .int .i64 0, .int .i64 0] 69)) none := Stp.alloc _ _
      have hT : ((LS0 bl lb p (W3.alloc (.cells #[.int .u8 0, .string ⟨#[]⟩, .int .i64 0, .int .i64 0, .int .i64 0] 69)) ∧ LC b2 o2 e (W3.alloc (.cells #[.int .u8 0, .string ⟨#[]⟩, .int .i64 0, .int .i64 0, .int .i64 0] 69))) ∧ LC b3 o3 f (W3.alloc (.cells #[.int .u8 0, .string ⟨#[]⟩, .int .i64 0, .int .i64 0, .int .i64 0] 69))) := ⟨⟨LS0.stp hS3.1.1 st (by simp) (by simp), LC.stp hS3.1.2 st (by simp)⟩, LC.stp hS3.2 st (by simp)⟩
      have HB4 : Hid (Below w1.heap.size w1 (W3.alloc (.cells #[.int .u8 0, .string ⟨#[]⟩, .int .i64 0, .int .i64 0, .int .i64 0] 69))) := st.bel w1 HB3.out (fun b h => by cases h)
      have fA4 : Hid (Bz w1 (W3.alloc (.cells #[.int .u8 0, .string ⟨#[]⟩, .int .i64 0, .int .i64 0, .int .i64 0] 69)) ba) := fA3.out.stp st (by simp)
      have nab : ba ≠ W3.heap.size := by have h1 := fA3.out.lt; omega
      have fB4 : Hid (Bz w1 (W3.alloc (.cells #[.int .u8 0, .string ⟨#[]⟩, .int .i64 0, .int .i64 0, .int .i64 0] 69)) W3.heap.size) := Bz.new HB3.out
      have n2b : b2 ≠ W3.heap.size := by have h1 := LC.lt (hS3.1.2); omega
      have n3b : b3 ≠ W3.heap.size := by have h1 := LC.lt (hS3.2); omega
      refine hK.out _ _ hT (fun hHeld => ?_)
      clear hK K hHeld st
      try simp only [Act.put, List.setIfInBounds_toArray, List.set_cons_zero, List.set_cons_succ]
      generalize W3.alloc (.cells #[.int .u8 0, .string ⟨#[]⟩, .int .i64 0, .int .i64 0, .int .i64 0] 69) = W4 at hT HB4 fA4 fB4 ⊢
      generalize W3.heap.size = bb at fB4 nab n2b n3b ⊢
      have hS4 := hT
      clear hT hS3 HB3 fA3
      refine wpAnyH_ready (rs := [22]) (by kernel_rfl) (by simp) ?_
      refine (AllReadyH.cons (by simp only [List.getElem?_toArray, List.getElem?_cons_zero, List.getElem?_cons_succ]; rfl) (fun K hK => ?_) AllReadyH.nil)
      ·obtain ⟨z0, z1, z2, z3, z4, z5⟩ := z_cells fA4.out.1
       have z6 := z5 0
       have z7 := z5 1
       have z8 := z5 2
       have z9 := z5 3
       have z10 := z5 4
       clear z5
       go_simp
       clear z0 z1 z2 z3 z4 z6 z7 z8 z9 z10
       have st := Stp.store W4 ba e
       have fA5 : Hid (Bc w1 _ ba e) := fA4.out.fill e
       unfold fill5 at st fA5
       generalize (((((W4.setCell ⟨ba, 0, none⟩ (.int .u8 e.k)).setCell ⟨ba, 1, none⟩ (.string e.t)).setCell ⟨ba, 2, none⟩ (.int .i64 e.n)).setCell ⟨ba, 3, none⟩ (.int .i64 e.vn)).setCell ⟨ba, 4, none⟩ (.int .i64 e.vk)) = W5 at st fA5 ⊢
       have hT : ((LS0 bl lb p W5 ∧ LC b2 o2 e W5) ∧ LC b3 o3 f W5) := ⟨⟨LS0.stp hS4.1.1 st (fun h => by cases h; have := fA4.out.2; omega) (fun h => by cases h; have := fA4.out.2; omega), LC.stp hS4.1.2 st (fun h => n2a (Option.some.inj h).symm)⟩, LC.stp hS4.2 st (fun h => n3a (Option.some.inj h).symm)⟩
       have HB5 : Hid (Below w1.heap.size w1 W5) := st.bel w1 HB4.out (fun b h => by cases h; exact fA4.out.2)
       have fB5 : Hid (Bz w1 W5 bb) := fB4.out.stp st (fun h => by have h1 := Option.some.inj h; omega)
       refine hK.out _ _ hT (fun hHeld => ?_)
       clear hK K hHeld st
       try simp only [Act.put, List.setIfInBounds_toArray, List.set_cons_zero, List.set_cons_succ]
       have hS5 := hT
       clear hT hS4 HB4 fA4 fB4
       refine wpAnyH_ready (rs := [23]) (by kernel_rfl) (by simp) ?_
       refine (AllReadyH.cons (by simp only [List.getElem?_toArray, List.getElem?_cons_zero, List.getElem?_cons_succ]; rfl) (fun K hK => ?_) AllReadyH.nil)
       ·obtain ⟨z0, z1, z2, z3, z4, z5⟩ := z_cells fB5.out.1
        have z6 := z5 0
        have z7 := z5 1
        have z8 := z5 2
        have z9 := z5 3
        have z10 := z5 4
        clear z5
        go_simp
        clear z0 z1 z2 z3 z4 z6 z7 z8 z9 z10
        have st := Stp.store W5 bb f
        have fB6 : Hid (Bc w1 _ bb f) := fB5.out.fill f
        unfold fill5 at st fB6
        generalize (((((W5.setCell ⟨bb, 0, none⟩ (.int .u8 f.k)).setCell ⟨bb, 1, none⟩ (.string f.t)).setCell ⟨bb, 2, none⟩ (.int .i64 f.n)).setCell ⟨bb, 3, none⟩ (.int .i64 f.vn)).setCell ⟨bb, 4, none⟩ (.int .i64 f.vk)) = W6 at st fB6 ⊢
        have hT : ((LS0 bl lb p W6 ∧ LC b2 o2 e W6) ∧ LC b3 o3 f W6) := ⟨⟨LS0.stp hS5.1.1 st (fun h => by cases h; have := fB5.out.2; omega) (fun h => by cases h; have := fB5.out.2; omega), LC.stp hS5.1.2 st (fun h => n2b (Option.some.inj h).symm)⟩, LC.stp hS5.2 st (fun h => n3b (Option.some.inj h).symm)⟩
        have HB6 : Hid (Below w1.heap.size w1 W6) := st.bel w1 HB5.out (fun b h => by cases h; exact fB5.out.2)
        have fA6 : Hid (Bc w1 W6 ba e) := fA5.out.stp st (fun h => by have h1 := Option.some.inj h; omega)
        refine hK.out _ _ hT (fun hHeld => ?_)
        clear hK K hHeld st
        try simp only [Act.put, List.setIfInBounds_toArray, List.set_cons_zero, List.set_cons_succ]
        have hS6 := hT
        clear hT hS5 HB5 fA5 fB5
        refine wpAnyH_done (by kernel_rfl) ?_ _
        refine NoPanic.normal ?_
        go_wp2_with fail
        go_meet
        case rel => exact ⟨ba, bb, rfl, rfl, fA6.out, fB6.out, HB6.out⟩
    ·go_simp
     have st : Stp W2 (W2.alloc (.cells #[.int .u8 0, .string ⟨#[]⟩, .int .i64 0, .int .i64 0, .int .i64 0] 69)) none := Stp.alloc _ _
     have hT : ((LS0 bl lb p (W2.alloc (.cells #[.int .u8 0, .string ⟨#[]⟩, .int .i64 0, .int .i64 0, .int .i64 0] 69)) ∧ LC b2 o2 e (W2.alloc (.cells #[.int .u8 0, .string ⟨#[]⟩, .int .i64 0, .int .i64 0, .int .i64 0] 69))) ∧ LC b3 o3 f (W2.alloc (.cells #[.int .u8 0, .string ⟨#[]⟩, .int .i64 0, .int .i64 0, .int .i64 0] 69))) := ⟨⟨LS0.stp hS2.1.1 st (by simp) (by simp), LC.stp hS2.1.2 st (by simp)⟩, LC.stp hS2.2 st (by simp)⟩
     have HB3 : Hid (Below w1.heap.size w1 (W2.alloc (.cells #[.int .u8 0, .string ⟨#[]⟩, .int .i64 0, .int .i64 0, .int .i64 0] 69))) := st.bel w1 HB2.out (fun b h => by cases h)
     have fB3 : Hid (Bz w1 (W2.alloc (.cells #[.int .u8 0, .string ⟨#[]⟩, .int .i64 0, .int .i64 0, .int .i64 0] 69)) W2.heap.size) := Bz.new HB2.out
     have n2b : b2 ≠ W2.heap.size := by have h1 := LC.lt (hS2.1.2); omega
     have n3b : b3 ≠ W2.heap.size := by have h1 := LC.lt (hS2.2); omega
     refine hK.out _ _ hT (fun hHeld => ?_)
     clear hK K hHeld st
     try simp only [Act.put, List.setIfInBounds_toArray, List.set_cons_zero, List.set_cons_succ]
     generalize W2.alloc (.cells #[.int .u8 0, .string ⟨#[]⟩, .int .i64 0, .int .i64 0, .int .i64 0] 69) = W3 at hT HB3 fB3 ⊢
     generalize W2.heap.size = bb at fB3 n2b n3b ⊢
     have hS3 := hT
     clear hT hS2 HB2
     refine wpAnyH_ready (rs := [20]) (by kernel_rfl) (by simp) ?_
     refine (AllReadyH.cons (by simp only [List.getElem?_toArray, List.getElem?_cons_zero, List.getElem?_cons_succ]; rfl) (fun K hK => ?_) AllReadyH.nil)
     ·go_simp
      have st : Stp W3 (W3.alloc (.cells #[.int .u8 0, .string ⟨#[]⟩, .int .i64 0, .int .i64 0, .int .i64 0] 69)) none := Stp.alloc _ _
      have hT : ((LS0 bl lb p (W3.alloc (.cells #[.int .u8 0, .string ⟨#[]⟩, .int .i64 0, .int .i64 0, .int .i64 0] 69)) ∧ LC b2 o2 e (W3.alloc (.cells #[.int .u8 0, .string ⟨#[]⟩, .int .i64 0, .int .i64 0, .int .i64 0] 69))) ∧ LC b3 o3 f (W3.alloc (.cells #[.int .u8 0, .string ⟨#[]⟩, .int .i64 0, .int .i64 0, .int .i64 0] 69))) := ⟨⟨LS0.stp hS3.1.1 st (by simp) (by simp), LC.stp hS3.1.2 st (by simp)⟩, LC.stp hS3.2 st (by simp)⟩
      have HB4 : Hid (Below w1.heap.size w1 (W3.alloc (.cells #[.int .u8 0, .string ⟨#[]⟩, .int .i64 0, .int .i64 0, .int .i64 0] 69))) := st.bel w1 HB3.out (fun b h => by cases h)
      have fB4 : Hid (Bz w1 (W3.alloc (.cells #[.int .u8 0, .string ⟨#[]⟩, .int .i64 0, .int .i64 0, .int .i64 0] 69)) bb) := fB3.out.stp st (by simp)
      have nab : bb ≠ W3.heap.size := by have h1 := fB3.out.lt; omega
      have fA4 : Hid (Bz w1 (W3.alloc (.cells #[.int .u8 0, .string ⟨#[]⟩, .int .i64 0, .int .i64 0, .int .i64 0] 69)) W3.heap.size) := Bz.new HB3.out
      have n2a : b2 ≠ W3.heap.size := by have h1 := LC.lt (hS3.1.2); omega
      have n3a : b3 ≠ W3.heap.size := by have h1 := LC.lt (hS3.2); omega
      refine hK.out _ _ hT (fun hHeld => ?_)
      clear hK K hHeld st
      try simp only [Act.put, List.setIfInBounds_toArray, List.set_cons_zero, List.set_cons_succ]
      generalize W3.alloc (.cells #[.int .u8 0, .string ⟨#[]⟩, .int .i64 0, .int .i64 0, .int .i64 0] 69) = W4 at hT HB4 fA4 fB4 ⊢
      generalize W3.heap.size = ba at fA4 nab n2a n3a ⊢
      have hS4 := hT
      clear hT hS3 HB3 fB3
      refine wpAnyH_ready (rs := [22]) (by kernel_rfl) (by simp) ?_
      refine (AllReadyH.cons (by simp only [List.getElem?_toArray, List.getElem?_cons_zero, List.getElem?_cons_succ]; rfl) (fun K hK => ?_) AllReadyH.nil)
      ·obtain ⟨z0, z1, z2, z3, z4, z5⟩ := z_cells fA4.out.1
       have z6 := z5 0
       have z7 := z5 1
       have z8 := z5 2
       have z9 := z5 3
       have z10 := z5 4
       clear z5
       go_simp
       clear z0 z1 z2 z3 z4 z6 z7 z8 z9 z10
       have st := Stp.store W4 ba e
       have fA5 : Hid (Bc w1 _ ba e) := fA4.out.fill e
       unfold fill5 at st fA5
       generalize (((((W4.setCell ⟨ba, 0, none⟩ (.int .u8 e.k)).setCell ⟨ba, 1, none⟩ (.string e.t)).setCell ⟨ba, 2, none⟩ (.int .i64 e.n)).setCell ⟨ba, 3, none⟩ (.int .i64 e.vn)).setCell ⟨ba, 4, none⟩ (.int .i64 e.vk)) = W5 at st fA5 ⊢
       have hT : ((LS0 bl lb p W5 ∧ LC b2 o2 e W5) ∧ LC b3 o3 f W5) := ⟨⟨LS0.stp hS4.1.1 st (fun h => by cases h; have := fA4.out.2; omega) (fun h => by cases h; have := fA4.out.2; omega), LC.stp hS4.1.2 st (fun h => n2a (Option.some.inj h).symm)⟩, LC.stp hS4.2 st (fun h => n3a (Option.some.inj h).symm)⟩
       have HB5 : Hid (Below w1.heap.size w1 W5) := st.bel w1 HB4.out (fun b h => by cases h; exact fA4.out.2)
       have fB5 : Hid (Bz w1 W5 bb) := fB4.out.stp st (fun h => by have h1 := Option.some.inj h; omega)
       refine hK.out _ _ hT (fun hHeld => ?_)
       clear hK K hHeld st
       try simp only [Act.put, List.setIfInBounds_toArray, List.set_cons_zero, List.set_cons_succ]
       have hS5 := hT
       clear hT hS4 HB4 fA4 fB4
       refine wpAnyH_ready (rs := [23]) (by kernel_rfl) (by simp) ?_
       refine (AllReadyH.cons (by simp only [List.getElem?_toArray, List.getElem?_cons_zero, List.getElem?_cons_succ]; rfl) (fun K hK => ?_) AllReadyH.nil)
       ·obtain ⟨z0, z1, z2, z3, z4, z5⟩ := z_cells fB5.out.1
        have z6 := z5 0
        have z7 := z5 1
        have z8 := z5 2
        have z9 := z5 3
        have z10 := z5 4
        clear z5
        go_simp
        clear z0 z1 z2 z3 z4 z6 z7 z8 z9 z10
        have st := Stp.store W5 bb f
        have fB6 : Hid (Bc w1 _ bb f) := fB5.out.fill f
        unfold fill5 at st fB6
        generalize (((((W5.setCell ⟨bb, 0, none⟩ (.int .u8 f.k)).setCell ⟨bb, 1, none⟩ (.string f.t)).setCell ⟨bb, 2, none⟩ (.int .i64 f.n)).setCell ⟨bb, 3, none⟩ (.int .i64 f.vn)).setCell ⟨bb, 4, none⟩ (.int .i64 f.vk)) = W6 at st fB6 ⊢
        have hT : ((LS0 bl lb p W6 ∧ LC b2 o2 e W6) ∧ LC b3 o3 f W6) := ⟨⟨LS0.stp hS5.1.1 st (fun h => by cases h; have := fB5.out.2; omega) (fun h => by cases h; have := fB5.out.2; omega), LC.stp hS5.1.2 st (fun h => n2b (Option.some.inj h).symm)⟩, LC.stp hS5.2 st (fun h => n3b (Option.some.inj h).symm)⟩
        have HB6 : Hid (Below w1.heap.size w1 W6) := st.bel w1 HB5.out (fun b h => by cases h; exact fB5.out.2)
        have fA6 : Hid (Bc w1 W6 ba e) := fA5.out.stp st (fun h => by have h1 := Option.some.inj h; omega)
        refine hK.out _ _ hT (fun hHeld => ?_)
        clear hK K hHeld st
        try simp only [Act.put, List.setIfInBounds_toArray, List.set_cons_zero, List.set_cons_succ]
        have hS6 := hT
        clear hT hS5 HB5 fA5 fB5
        refine wpAnyH_done (by kernel_rfl) ?_ _
        refine NoPanic.normal ?_
        go_wp2_with fail
        go_meet
        case rel => exact ⟨ba, bb, rfl, rfl, fA6.out, fB6.out, HB6.out⟩
   ·go_simp
    have st : Stp W1 (W1.alloc (.cells #[.int .u8 0, .string ⟨#[]⟩, .int .i64 0, .int .i64 0, .int .i64 0] 69)) none := Stp.alloc _ _
    have hT : (LS0 bl lb p (W1.alloc (.cells #[.int .u8 0, .string ⟨#[]⟩, .int .i64 0, .int .i64 0, .int .i64 0] 69)) ∧ LC b2 o2 e (W1.alloc (.cells #[.int .u8 0, .string ⟨#[]⟩, .int .i64 0, .int .i64 0, .int .i64 0] 69))) := ⟨LS0.stp hS1.1 st (by simp) (by simp), LC.stp hS1.2 st (by simp)⟩
    have HB2 : Hid (Below w1.heap.size w1 (W1.alloc (.cells #[.int .u8 0, .string ⟨#[]⟩, .int .i64 0, .int .i64 0, .int .i64 0] 69))) := st.bel w1 HB1.out (fun b h => by cases h)
    have fA2 : Hid (Bz w1 (W1.alloc (.cells #[.int .u8 0, .string ⟨#[]⟩, .int .i64 0, .int .i64 0, .int .i64 0] 69)) W1.heap.size) := Bz.new HB1.out
    have n2a : b2 ≠ W1.heap.size := by have h1 := LC.lt (hS1.2); omega
    refine hK.out _ _ hT (fun hHeld => ?_)
    clear hK K hHeld st
    try simp only [Act.put, List.setIfInBounds_toArray, List.set_cons_zero, List.set_cons_succ]
    generalize W1.alloc (.cells #[.int .u8 0, .string ⟨#[]⟩, .int .i64 0, .int .i64 0, .int .i64 0] 69) = W2 at hT HB2 fA2 ⊢
    generalize W1.heap.size = ba at fA2 n2a ⊢
    have hS2 := hT
    clear hT hS1 HB1
    refine wpAnyH_ready (rs := [17, 21]) (by kernel_rfl) (by simp) ?_
    refine (AllReadyH.cons (by simp only [List.getElem?_toArray, List.getElem?_cons_zero, List.getElem?_cons_succ]; rfl) (fun K hK => ?_) (AllReadyH.cons (by simp only [List.getElem?_toArray, List.getElem?_cons_zero, List.getElem?_cons_succ]; rfl) (fun K hK => ?_) AllReadyH.nil))
    ·go_simp
     go_at_call 102
     refine (HQ.out _ HB2.out).mono ?_
     rintro e' W3 ⟨b3, o3, cz3, rfl, HR⟩
     have st : Stp W2 W3 none := Stp.call HR.out.bel
     have hT : (LS0 bl lb p W3 ∧ LC b2 o2 e W3) := ⟨LS0.stp hS2.1 st (by simp) (by simp), LC.stp hS2.2 st (by simp)⟩
     have HB3 : Hid (Below w1.heap.size w1 W3) := st.bel w1 HB2.out (fun b h => by cases h)
     have fA3 : Hid (Bz w1 W3 ba) := fA2.out.stp st (by simp)
     have n3a : b3 ≠ ba := by have h1 := fA2.out.lt; have h2 := HR.out.new; omega
     refine hK.out _ _ hT (fun hHeld => ?_)
     clear hK K hHeld
     try simp only [Act.put, List.setIfInBounds_toArray, List.set_cons_zero, List.set_cons_succ]
     refine wpAnyH_more (S' := fun w' => ((LS0 bl lb p w' ∧ LC b2 o2 e w') ∧ LC b3 o3 f w')) (fun _ h => h.1) _ _ _ _ ?_
     have hS3 : ((LS0 bl lb p W3 ∧ LC b2 o2 e W3) ∧ LC b3 o3 f W3) := ⟨hT, HR.out.cells⟩
     clear hT st HR hS2 HB2 fA2
     refine wpAnyH_take (i := 18) (v := ?_) (by simp only [List.getElem?_toArray, List.getElem?_cons_zero, List.getElem?_cons_succ]; rfl) (by kernel_rfl) (by kernel_rfl) (by kernel_rfl) (fun _ _ _ h => h) (Or.inl ⟨by rfl, ?_⟩) (by assumption) ?_
     rotate_left
     ·(intro w hSw; (try dsimp only at hSw); go_simp <;> with_reducible rfl)
     try simp only [Act.put, List.setIfInBounds_toArray, List.set_cons_zero, List.set_cons_succ]
     refine wpAnyH_take (i := 19) (v := ?_) (by simp only [List.getElem?_toArray, List.getElem?_cons_zero, List.getElem?_cons_succ]; rfl) (by kernel_rfl) (by kernel_rfl) (by kernel_rfl) (fun _ _ _ h => h) (Or.inl ⟨by rfl, ?_⟩) (by assumption) ?_
     rotate_left
     ·(intro w hSw; (try dsimp only at hSw); go_simp <;> with_reducible rfl)
     try simp only [Act.put, List.setIfInBounds_toArray, List.set_cons_zero, List.set_cons_succ]
     refine wpAnyH_ready (rs := [21]) (by kernel_rfl) (by simp) ?_
     refine (AllReadyH.cons (by simp only [List.getElem?_toArray, List.getElem?_cons_zero, List.getElem?_cons_succ]; rfl) (fun K hK => ?_) AllReadyH.nil)
     ·go_simp
      have st : Stp W3 (W3.alloc (.cells #[.int .u8 0, .string ⟨#[]⟩, .int .i64 0, .int .i64 0, .int .i64 0] 69)) none := Stp.alloc _ _
      have hT : ((LS0 bl lb p (W3.alloc (.cells #[.int .u8 0, .string ⟨#[]⟩, .int .i64 0, .int .i64 0, .int .i64 0] 69)) ∧ LC b2 o2 e (W3.alloc (.cells #[.int .u8 0, .string ⟨#[]⟩, .int .i64 0, .int .i64 0, .int .i64 0] 69))) ∧ LC b3 o3 f (W3.alloc (.cells #[.int .u8 0, .string ⟨#[]⟩, .int .i64 0, .int .i64 0, .int .i64 0] 69))) := ⟨⟨LS0.stp hS3.1.1 st (by simp) (by simp), LC.stp hS3.1.2 st (by simp)⟩, LC.stp hS3.2 st (by simp)⟩
      have HB4 : Hid (Below w1.heap.size w1 (W3.alloc (.cells #[.int .u8 0, .string ⟨#[]⟩, .int .i64 0, .int .i64 0, .int .i64 0] 69))) := st.bel w1 HB3.out (fun b h => by cases h)
      have fA4 : Hid (Bz w1 (W3.alloc (.cells #[.int .u8 0, .string ⟨#[]⟩, .int .i64 0, .int .i64 0, .int .i64 0] 69)) ba) := fA3.out.stp st (by simp)
      have nab : ba ≠ W3.heap.size := by have h1 := fA3.out.lt; omega
      have fB4 : Hid (Bz w1 (W3.alloc (.cells #[.int .u8 0, .string ⟨#[]⟩, .int .i64 0, .int .i64 0, .int .i64 0] 69)) W3.heap.size) := Bz.new HB3.out
      have n2b : b2 ≠ W3.heap.size := by have h1 := LC.lt (hS3.1.2); omega
      have n3b : b3 ≠ W3.heap.size := by have h1 := LC.lt (hS3.2); omega
      refine hK.out _ _ hT (fun hHeld => ?_)
      clear hK K hHeld st
      try simp only [Act.put, List.setIfInBounds_toArray, List.set_cons_zero, List.set_cons_succ]
      generalize W3.alloc (.cells #[.int .u8 0, .string ⟨#[]⟩, .int .i64 0, .int .i64 0, .int .i64 0] 69) = W4 at hT HB4 fA4 fB4 ⊢
      generalize W3.heap.size = bb at fB4 nab n2b n3b ⊢
      have hS4 := hT
      clear hT hS3 HB3 fA3
      refine wpAnyH_ready (rs := [22]) (by kernel_rfl) (by simp) ?_
      refine (AllReadyH.cons (by simp only [List.getElem?_toArray, List.getElem?_cons_zero, List.getElem?_cons_succ]; rfl) (fun K hK => ?_) AllReadyH.nil)
      ·obtain ⟨z0, z1, z2, z3, z4, z5⟩ := z_cells fA4.out.1
       have z6 := z5 0
       have z7 := z5 1
       have z8 := z5 2
       have z9 := z5 3
       have z10 := z5 4
       clear z5
       go_simp
       clear z0 z1 z2 z3 z4 z6 z7 z8 z9 z10
       have st := Stp.store W4 ba e
       have fA5 : Hid (Bc w1 _ ba e) := fA4.out.fill e
       unfold fill5 at st fA5
       generalize (((((W4.setCell ⟨ba, 0, none⟩ (.int .u8 e.k)).setCell ⟨ba, 1, none⟩ (.string e.t)).setCell ⟨ba, 2, none⟩ (.int .i64 e.n)).setCell ⟨ba, 3, none⟩ (.int .i64 e.vn)).setCell ⟨ba, 4, none⟩ (.int .i64 e.vk)) = W5 at st fA5 ⊢
       have hT : ((LS0 bl lb p W5 ∧ LC b2 o2 e W5) ∧ LC b3 o3 f W5) := ⟨⟨LS0.stp hS4.1.1 st (fun h => by cases h; have := fA4.out.2; omega) (fun h => by cases h; have := fA4.out.2; omega), LC.stp hS4.1.2 st (fun h => n2a (Option.some.inj h).symm)⟩, LC.stp hS4.2 st (fun h => n3a (Option.some.inj h).symm)⟩
       have HB5 : Hid (Below w1.heap.size w1 W5) := st.bel w1 HB4.out (fun b h => by cases h; exact fA4.out.2)
       have fB5 : Hid (Bz w1 W5 bb) := fB4.out.stp st (fun h => by have h1 := Option.some.inj h; omega)
       refine hK.out _ _ hT (fun hHeld => ?_)
       clear hK K hHeld st
       try simp only [Act.put, List.setIfInBounds_toArray, List.set_cons_zero, List.set_cons_succ]
       have hS5 := hT
       clear hT hS4 HB4 fA4 fB4
       refine wpAnyH_ready (rs := [23]) (by kernel_rfl) (by simp) ?_
       refine (AllReadyH.cons (by simp only [List.getElem?_toArray, List.getElem?_cons_zero, List.getElem?_cons_succ]; rfl) (fun K hK => ?_) AllReadyH.nil)
       ·obtain ⟨z0, z1, z2, z3, z4, z5⟩ := z_cells fB5.out.1
        have z6 := z5 0
        have z7 := z5 1
        have z8 := z5 2
        have z9 := z5 3
        have z10 := z5 4
        clear z5
        go_simp
        clear z0 z1 z2 z3 z4 z6 z7 z8 z9 z10
        have st := Stp.store W5 bb f
        have fB6 : Hid (Bc w1 _ bb f) := fB5.out.fill f
        unfold fill5 at st fB6
        generalize (((((W5.setCell ⟨bb, 0, none⟩ (.int .u8 f.k)).setCell ⟨bb, 1, none⟩ (.string f.t)).setCell ⟨bb, 2, none⟩ (.int .i64 f.n)).setCell ⟨bb, 3, none⟩ (.int .i64 f.vn)).setCell ⟨bb, 4, none⟩ (.int .i64 f.vk)) = W6 at st fB6 ⊢
        have hT : ((LS0 bl lb p W6 ∧ LC b2 o2 e W6) ∧ LC b3 o3 f W6) := ⟨⟨LS0.stp hS5.1.1 st (fun h => by cases h; have := fB5.out.2; omega) (fun h => by cases h; have := fB5.out.2; omega), LC.stp hS5.1.2 st (fun h => n2b (Option.some.inj h).symm)⟩, LC.stp hS5.2 st (fun h => n3b (Option.some.inj h).symm)⟩
        have HB6 : Hid (Below w1.heap.size w1 W6) := st.bel w1 HB5.out (fun b h => by cases h; exact fB5.out.2)
        have fA6 : Hid (Bc w1 W6 ba e) := fA5.out.stp st (fun h => by have h1 := Option.some.inj h; omega)
        refine hK.out _ _ hT (fun hHeld => ?_)
        clear hK K hHeld st
        try simp only [Act.put, List.setIfInBounds_toArray, List.set_cons_zero, List.set_cons_succ]
        have hS6 := hT
        clear hT hS5 HB5 fA5 fB5
        refine wpAnyH_done (by kernel_rfl) ?_ _
        refine NoPanic.normal ?_
        go_wp2_with fail
        go_meet
        case rel => exact ⟨ba, bb, rfl, rfl, fA6.out, fB6.out, HB6.out⟩
    ·go_simp
     have st : Stp W2 (W2.alloc (.cells #[.int .u8 0, .string ⟨#[]⟩, .int .i64 0, .int .i64 0, .int .i64 0] 69)) none := Stp.alloc _ _
     have hT : (LS0 bl lb p (W2.alloc (.cells #[.int .u8 0, .string ⟨#[]⟩, .int .i64 0, .int .i64 0, .int .i64 0] 69)) ∧ LC b2 o2 e (W2.alloc (.cells #[.int .u8 0, .string ⟨#[]⟩, .int .i64 0, .int .i64 0, .int .i64 0] 69))) := ⟨LS0.stp hS2.1 st (by simp) (by simp), LC.stp hS2.2 st (by simp)⟩
     have HB3 : Hid (Below w1.heap.size w1 (W2.alloc (.cells #[.int .u8 0, .string ⟨#[]⟩, .int .i64 0, .int .i64 0, .int .i64 0] 69))) := st.bel w1 HB2.out (fun b h => by cases h)
     have fA3 : Hid (Bz w1 (W2.alloc (.cells #[.int .u8 0, .string ⟨#[]⟩, .int .i64 0, .int .i64 0, .int .i64 0] 69)) ba) := fA2.out.stp st (by simp)
     have nab : ba ≠ W2.heap.size := by have h1 := fA2.out.lt; omega
     have fB3 : Hid (Bz w1 (W2.alloc (.cells #[.int .u8 0, .string ⟨#[]⟩, .int .i64 0, .int .i64 0, .int .i64 0] 69)) W2.heap.size) := Bz.new HB2.out
     have n2b : b2 ≠ W2.heap.size := by have h1 := LC.lt (hS2.2); omega
     refine hK.out _ _ hT (fun hHeld => ?_)
     clear hK K hHeld st
     try simp only [Act.put, List.setIfInBounds_toArray, List.set_cons_zero, List.set_cons_succ]
     generalize W2.alloc (.cells #[.int .u8 0, .string ⟨#[]⟩, .int .i64 0, .int .i64 0, .int .i64 0] 69) = W3 at hT HB3 fA3 fB3 ⊢
     generalize W2.heap.size = bb at fB3 nab n2b ⊢
     have hS3 := hT
     clear hT hS2 HB2 fA2
     refine wpAnyH_ready (rs := [17]) (by kernel_rfl) (by simp) ?_
     refine (AllReadyH.cons (by simp only [List.getElem?_toArray, List.getElem?_cons_zero, List.getElem?_cons_succ]; rfl) (fun K hK => ?_) AllReadyH.nil)
     ·go_simp
      go_at_call 102
      refine (HQ.out _ HB3.out).mono ?_
      rintro e' W4 ⟨b3, o3, cz3, rfl, HR⟩
      have st : Stp W3 W4 none := Stp.call HR.out.bel
      have hT : (LS0 bl lb p W4 ∧ LC b2 o2 e W4) := ⟨LS0.stp hS3.1 st (by simp) (by simp), LC.stp hS3.2 st (by simp)⟩
      have HB4 : Hid (Below w1.heap.size w1 W4) := st.bel w1 HB3.out (fun b h => by cases h)
      have fA4 : Hid (Bz w1 W4 ba) := fA3.out.stp st (by simp)
      have n3a : b3 ≠ ba := by have h1 := fA3.out.lt; have h2 := HR.out.new; omega
      have fB4 : Hid (Bz w1 W4 bb) := fB3.out.stp st (by simp)
      have n3b : b3 ≠ bb := by have h1 := fB3.out.lt; have h2 := HR.out.new; omega
      refine hK.out _ _ hT (fun hHeld => ?_)
      clear hK K hHeld
      try simp only [Act.put, List.setIfInBounds_toArray, List.set_cons_zero, List.set_cons_succ]
      refine wpAnyH_more (S' := fun w' => ((LS0 bl lb p w' ∧ LC b2 o2 e w') ∧ LC b3 o3 f w')) (fun _ h => h.1) _ _ _ _ ?_
      have hS4 : ((LS0 bl lb p W4 ∧ LC b2 o2 e W4) ∧ LC b3 o3 f W4) := ⟨hT, HR.out.cells⟩
      clear hT st HR hS3 HB3 fA3 fB3
      refine wpAnyH_take (i := 18) (v := ?_) (by simp only [List.getElem?_toArray, List.getElem?_cons_zero, List.getElem?_cons_succ]; rfl) (by kernel_rfl) (by kernel_rfl) (by kernel_rfl) (fun _ _ _ h => h) (Or.inl ⟨by rfl, ?_⟩) (by assumption) ?_
      rotate_left
      ·(intro w hSw; (try dsimp only at hSw); go_simp <;> with_reducible rfl)
      try simp only [Act.put, List.setIfInBounds_toArray, List.set_cons_zero, List.set_cons_succ]
      refine wpAnyH_take (i := 19) (v := ?_) (by simp only [List.getElem?_toArray, List.getElem?_cons_zero, List.getElem?_cons_succ]; rfl) (by kernel_rfl) (by kernel_rfl) (by kernel_rfl) (fun _ _ _ h => h) (Or.inl ⟨by rfl, ?_⟩) (by assumption) ?_
      rotate_left
      ·(intro w hSw; (try dsimp only at hSw); go_simp <;> with_reducible rfl)
      try simp only [Act.put, List.setIfInBounds_toArray, List.set_cons_zero, List.set_cons_succ]
      refine wpAnyH_ready (rs := [22]) (by kernel_rfl) (by simp) ?_
      refine (AllReadyH.cons (by simp only [List.getElem?_toArray, List.getElem?_cons_zero, List.getElem?_cons_succ]; rfl) (fun K hK => ?_) AllReadyH.nil)
      ·obtain ⟨z0, z1, z2, z3, z4, z5⟩ := z_cells fA4.out.1
       have z6 := z5 0
       have z7 := z5 1
       have z8 := z5 2
       have z9 := z5 3
       have z10 := z5 4
       clear z5
       go_simp
       clear z0 z1 z2 z3 z4 z6 z7 z8 z9 z10
       have st := Stp.store W4 ba e
       have fA5 : Hid (Bc w1 _ ba e) := fA4.out.fill e
       unfold fill5 at st fA5
       generalize (((((W4.setCell ⟨ba, 0, none⟩ (.int .u8 e.k)).setCell ⟨ba, 1, none⟩ (.string e.t)).setCell ⟨ba, 2, none⟩ (.int .i64 e.n)).setCell ⟨ba, 3, none⟩ (.int .i64 e.vn)).setCell ⟨ba, 4, none⟩ (.int .i64 e.vk)) = W5 at st fA5 ⊢
       have hT : ((LS0 bl lb p W5 ∧ LC b2 o2 e W5) ∧ LC b3 o3 f W5) := ⟨⟨LS0.stp hS4.1.1 st (fun h => by cases h; have := fA4.out.2; omega) (fun h => by cases h; have := fA4.out.2; omega), LC.stp hS4.1.2 st (fun h => n2a (Option.some.inj h).symm)⟩, LC.stp hS4.2 st (fun h => n3a (Option.some.inj h).symm)⟩
       have HB5 : Hid (Below w1.heap.size w1 W5) := st.bel w1 HB4.out (fun b h => by cases h; exact fA4.out.2)
       have fB5 : Hid (Bz w1 W5 bb) := fB4.out.stp st (fun h => by have h1 := Option.some.inj h; omega)
       refine hK.out _ _ hT (fun hHeld => ?_)
       clear hK K hHeld st
       try simp only [Act.put, List.setIfInBounds_toArray, List.set_cons_zero, List.set_cons_succ]
       have hS5 := hT
       clear hT hS4 HB4 fA4 fB4
       refine wpAnyH_ready (rs := [23]) (by kernel_rfl) (by simp) ?_
       refine (AllReadyH.cons (by simp only [List.getElem?_toArray, List.getElem?_cons_zero, List.getElem?_cons_succ]; rfl) (fun K hK => ?_) AllReadyH.nil)
       ·obtain ⟨z0, z1, z2, z3, z4, z5⟩ := z_cells fB5.out.1
        have z6 := z5 0
        have z7 := z5 1
        have z8 := z5 2
        have z9 := z5 3
        have z10 := z5 4
        clear z5
        go_simp
        clear z0 z1 z2 z3 z4 z6 z7 z8 z9 z10
        have st := Stp.store W5 bb f
        have fB6 : Hid (Bc w1 _ bb f) := fB5.out.fill f
        unfold fill5 at st fB6
        generalize (((((W5.setCell ⟨bb, 0, none⟩ (.int .u8 f.k)).setCell ⟨bb, 1, none⟩ (.string f.t)).setCell ⟨bb, 2, none⟩ (.int .i64 f.n)).setCell ⟨bb, 3, none⟩ (.int .i64 f.vn)).setCell ⟨bb, 4, none⟩ (.int .i64 f.vk)) = W6 at st fB6 ⊢
        have hT : ((LS0 bl lb p W6 ∧ LC b2 o2 e W6) ∧ LC b3 o3 f W6) := ⟨⟨LS0.stp hS5.1.1 st (fun h => by cases h; have := fB5.out.2; omega) (fun h => by cases h; have := fB5.out.2; omega), LC.stp hS5.1.2 st (fun h => n2b (Option.some.inj h).symm)⟩, LC.stp hS5.2 st (fun h => n3b (Option.some.inj h).symm)⟩
        have HB6 : Hid (Below w1.heap.size w1 W6) := st.bel w1 HB5.out (fun b h => by cases h; exact fB5.out.2)
        have fA6 : Hid (Bc w1 W6 ba e) := fA5.out.stp st (fun h => by have h1 := Option.some.inj h; omega)
        refine hK.out _ _ hT (fun hHeld => ?_)
        clear hK K hHeld st
        try simp only [Act.put, List.setIfInBounds_toArray, List.set_cons_zero, List.set_cons_succ]
        have hS6 := hT
        clear hT hS5 HB5 fA5 fB5
        refine wpAnyH_done (by kernel_rfl) ?_ _
        refine NoPanic.normal ?_
        go_wp2_with fail
        go_meet
        case rel => exact ⟨ba, bb, rfl, rfl, fA6.out, fB6.out, HB6.out⟩
   ·go_simp
    have st : Stp W1 (W1.alloc (.cells #[.int .u8 0, .string ⟨#[]⟩, .int .i64 0, .int .i64 0, .int .i64 0] 69)) none := Stp.alloc _ _
    have hT : (LS0 bl lb p (W1.alloc (.cells #[.int .u8 0, .string ⟨#[]⟩, .int .i64 0, .int .i64 0, .int .i64 0] 69)) ∧ LC b2 o2 e (W1.alloc (.cells #[.int .u8 0, .string ⟨#[]⟩, .int .i64 0, .int .i64 0, .int .i64 0] 69))) := ⟨LS0.stp hS1.1 st (by simp) (by simp), LC.stp hS1.2 st (by simp)⟩
    have HB2 : Hid (Below w1.heap.size w1 (W1.alloc (.cells #[.int .u8 0, .string ⟨#[]⟩, .int .i64 0, .int .i64 0, .int .i64 0] 69))) := st.bel w1 HB1.out (fun b h => by cases h)
    have fB2 : Hid (Bz w1 (W1.alloc (.cells #[.int .u8 0, .string ⟨#[]⟩, .int .i64 0, .int .i64 0, .int .i64 0] 69)) W1.heap.size) := Bz.new HB1.out
    have n2b : b2 ≠ W1.heap.size := by have h1 := LC.lt (hS1.2); omega
    refine hK.out _ _ hT (fun hHeld => ?_)
    clear hK K hHeld st
    try simp only [Act.put, List.setIfInBounds_toArray, List.set_cons_zero, List.set_cons_succ]
    generalize W1.alloc (.cells #[.int .u8 0, .string ⟨#[]⟩, .int .i64 0, .int .i64 0, .int .i64 0] 69) = W2 at hT HB2 fB2 ⊢
    generalize W1.heap.size = bb at fB2 n2b ⊢
    have hS2 := hT
    clear hT hS1 HB1
    refine wpAnyH_ready (rs := [17, 20]) (by kernel_rfl) (by simp) ?_
    refine (AllReadyH.cons (by simp only [List.getElem?_toArray, List.getElem?_cons_zero, List.getElem?_cons_succ]; rfl) (fun K hK => ?_) (AllReadyH.cons (by simp only [List.getElem?_toArray, List.getElem?_cons_zero, List.getElem?_cons_succ]; rfl) (fun K hK => ?_) AllReadyH.nil))
    ·go_simp
     go_at_call 102
     refine (HQ.out _ HB2.out).mono ?_
     rintro e' W3 ⟨b3, o3, cz3, rfl, HR⟩
     have st : Stp W2 W3 none := Stp.call HR.out.bel
     have hT : (LS0 bl lb p W3 ∧ LC b2 o2 e W3) := ⟨LS0.stp hS2.1 st (by simp) (by simp), LC.stp hS2.2 st (by simp)⟩
     have HB3 : Hid (Below w1.heap.size w1 W3) := st.bel w1 HB2.out (fun b h => by cases h)
     have fB3 : Hid (Bz w1 W3 bb) := fB2.out.stp st (by simp)
     have n3b : b3 ≠ bb := by have h1 := fB2.out.lt; have h2 := HR.out.new; omega
     refine hK.out _ _ hT (fun hHeld => ?_)
     clear hK K hHeld
     try simp only [Act.put, List.setIfInBounds_toArray, List.set_cons_zero, List.set_cons_succ]
     refine wpAnyH_more (S' := fun w' => ((LS0 bl lb p w' ∧ LC b2 o2 e w') ∧ LC b3 o3 f w')) (fun _ h => h.1) _ _ _ _ ?_
     have hS3 : ((LS0 bl lb p W3 ∧ LC b2 o2 e W3) ∧ LC b3 o3 f W3) := ⟨hT, HR.out.cells⟩
     clear hT st HR hS2 HB2 fB2
     refine wpAnyH_take (i := 18) (v := ?_) (by simp only [List.getElem?_toArray, List.getElem?_cons_zero, List.getElem?_cons_succ]; rfl) (by kernel_rfl) (by kernel_rfl) (by kernel_rfl) (fun _ _ _ h => h) (Or.inl ⟨by rfl, ?_⟩) (by assumption) ?_
     rotate_left
     ·(intro w hSw; (try dsimp only at hSw); go_simp <;> with_reducible rfl)
     try simp only [Act.put, List.setIfInBounds_toArray, List.set_cons_zero, List.set_cons_succ]
     refine wpAnyH_take (i := 19) (v := ?_) (by simp only [List.getElem?_toArray, List.getElem?_cons_zero, List.getElem?_cons_succ]; rfl) (by kernel_rfl) (by kernel_rfl) (by kernel_rfl) (fun _ _ _ h => h) (Or.inl ⟨by rfl, ?_⟩) (by assumption) ?_
     rotate_left
     ·(intro w hSw; (try dsimp only at hSw); go_simp <;> with_reducible rfl)
     try simp only [Act.put, List.setIfInBounds_toArray, List.set_cons_zero, List.set_cons_succ]
     refine wpAnyH_ready (rs := [20]) (by kernel_rfl) (by simp) ?_
     refine (AllReadyH.cons (by simp only [List.getElem?_toArray, List.getElem?_cons_zero, List.getElem?_cons_succ]; rfl) (fun K hK => ?_) AllReadyH.nil)
     ·go_simp
      have st : Stp W3 (W3.alloc (.cells #[.int .u8 0, .string ⟨#[]⟩, .int .i64 0, .int .i64 0, .int .i64 0] 69)) none := Stp.alloc _ _
      have hT : ((LS0 bl lb p (W3.alloc (.cells #[.int .u8 0, .string ⟨#[]⟩, .int .i64 0, .int .i64 0, .int .i64 0] 69)) ∧ LC b2 o2 e (W3.alloc (.cells #[.int .u8 0, .string ⟨#[]⟩, .int .i64 0, .int .i64 0, .int .i64 0] 69))) ∧ LC b3 o3 f (W3.alloc (.cells #[.int .u8 0, .string ⟨#[]⟩, .int .i64 0, .int .i64 0, .int .i64 0] 69))) := ⟨⟨LS0.stp hS3.1.1 st (by simp) (by simp), LC.stp hS3.1.2 st (by simp)⟩, LC.stp hS3.2 st (by simp)⟩
      have HB4 : Hid (Below w1.heap.size w1 (W3.alloc (.cells #[.int .u8 0, .string ⟨#[]⟩, .int .i64 0, .int .i64 0, .int .i64 0] 69))) := st.bel w1 HB3.out (fun b h => by cases h)
      have fB4 : Hid (Bz w1 (W3.alloc (.cells #[.int .u8 0, .string ⟨#[]⟩, .int .i64 0, .int .i64 0, .int .i64 0] 69)) bb) := fB3.out.stp st (by simp)
      have nab : bb ≠ W3.heap.size := by have h1 := fB3.out.lt; omega
      have fA4 : Hid (Bz w1 (W3.alloc (.cells #[.int .u8 0, .string ⟨#[]⟩, .int .i64 0, .int .i64 0, .int .i64 0] 69)) W3.heap.size) := Bz.new HB3.out
      have n2a : b2 ≠ W3.heap.size := by have h1 := LC.lt (hS3.1.2); omega
      have n3a : b3 ≠ W3.heap.size := by have h1 := LC.lt (hS3.2); omega
      refine hK.out _ _ hT (fun hHeld => ?_)
      clear hK K hHeld st
      try simp only [Act.put, List.setIfInBounds_toArray, List.set_cons_zero, List.set_cons_succ]
      generalize W3.alloc (.cells #[.int .u8 0, .string ⟨#[]⟩, .int .i64 0, .int .i64 0, .int .i64 0] 69) = W4 at hT HB4 fA4 fB4 ⊢
      generalize W3.heap.size = ba at fA4 nab n2a n3a ⊢
      have hS4 := hT
      clear hT hS3 HB3 fB3
      refine wpAnyH_ready (rs := [22]) (by kernel_rfl) (by simp) ?_
      refine (AllReadyH.cons (by simp only [List.getElem?_toArray, List.getElem?_cons_zero, List.getElem?_cons_succ]; rfl) (fun K hK => ?_) AllReadyH.nil)
      ·obtain ⟨z0, z1, z2, z3, z4, z5⟩ := z_cells fA4.out.1
       have z6 := z5 0
       have z7 := z5 1
       have z8 := z5 2
       have z9 := z5 3
       have z10 := z5 4
       clear z5
       go_simp
       clear z0 z1 z2 z3 z4 z6 z7 z8 z9 z10
       have st := Stp.store W4 ba e
       have fA5 : Hid (Bc w1 _ ba e) := fA4.out.fill e
       unfold fill5 at st fA5
       generalize (((((W4.setCell ⟨ba, 0, none⟩ (.int .u8 e.k)).setCell ⟨ba, 1, none⟩ (.string e.t)).setCell ⟨ba, 2, none⟩ (.int .i64 e.n)).setCell ⟨ba, 3, none⟩ (.int .i64 e.vn)).setCell ⟨ba, 4, none⟩ (.int .i64 e.vk)) = W5 at st fA5 ⊢
       have hT : ((LS0 bl lb p W5 ∧ LC b2 o2 e W5) ∧ LC b3 o3 f W5) := ⟨⟨LS0.stp hS4.1.1 st (fun h => by cases h; have := fA4.out.2; omega) (fun h => by cases h; have := fA4.out.2; omega), LC.stp hS4.1.2 st (fun h => n2a (Option.some.inj h).symm)⟩, LC.stp hS4.2 st (fun h => n3a (Option.some.inj h).symm)⟩
       have HB5 : Hid (Below w1.heap.size w1 W5) := st.bel w1 HB4.out (fun b h => by cases h; exact fA4.out.2)
       have fB5 : Hid (Bz w1 W5 bb) := fB4.out.stp st (fun h => by have h1 := Option.some.inj h; omega)
       refine hK.out _ _ hT (fun hHeld => ?_)
       clear hK K hHeld st
       try simp only [Act.put, List.setIfInBounds_toArray, List.set_cons_zero, List.set_cons_succ]
       have hS5 := hT
       clear hT hS4 HB4 fA4 fB4
       refine wpAnyH_ready (rs := [23]) (by kernel_rfl) (by simp) ?_
       refine (AllReadyH.cons (by simp only [List.getElem?_toArray, List.getElem?_cons_zero, List.getElem?_cons_succ]; rfl) (fun K hK => ?_) AllReadyH.nil)
       ·obtain ⟨z0, z1, z2, z3, z4, z5⟩ := z_cells fB5.out.1
        have z6 := z5 0
        have z7 := z5 1
        have z8 := z5 2
        have z9 := z5 3
        have z10 := z5 4
        clear z5
        go_simp
        clear z0 z1 z2 z3 z4 z6 z7 z8 z9 z10
        have st := Stp.store W5 bb f
        have fB6 : Hid (Bc w1 _ bb f) := fB5.out.fill f
        unfold fill5 at st fB6
        generalize (((((W5.setCell ⟨bb, 0, none⟩ (.int .u8 f.k)).setCell ⟨bb, 1, none⟩ (.string f.t)).setCell ⟨bb, 2, none⟩ (.int .i64 f.n)).setCell ⟨bb, 3, none⟩ (.int .i64 f.vn)).setCell ⟨bb, 4, none⟩ (.int .i64 f.vk)) = W6 at st fB6 ⊢
        have hT : ((LS0 bl lb p W6 ∧ LC b2 o2 e W6) ∧ LC b3 o3 f W6) := ⟨⟨LS0.stp hS5.1.1 st (fun h => by cases h; have := fB5.out.2; omega) (fun h => by cases h; have := fB5.out.2; omega), LC.stp hS5.1.2 st (fun h => n2b (Option.some.inj h).symm)⟩, LC.stp hS5.2 st (fun h => n3b (Option.some.inj h).symm)⟩
        have HB6 : Hid (Below w1.heap.size w1 W6) := st.bel w1 HB5.out (fun b h => by cases h; exact fB5.out.2)
        have fA6 : Hid (Bc w1 W6 ba e) := fA5.out.stp st (fun h => by have h1 := Option.some.inj h; omega)
        refine hK.out _ _ hT (fun hHeld => ?_)
        clear hK K hHeld st
        try simp only [Act.put, List.setIfInBounds_toArray, List.set_cons_zero, List.set_cons_succ]
        have hS6 := hT
        clear hT hS5 HB5 fA5 fB5
        refine wpAnyH_done (by kernel_rfl) ?_ _
        refine NoPanic.normal ?_
        go_wp2_with fail
        go_meet
        case rel => exact ⟨ba, bb, rfl, rfl, fA6.out, fB6.out, HB6.out⟩
    ·go_simp
     have st : Stp W2 (W2.alloc (.cells #[.int .u8 0, .string ⟨#[]⟩, .int .i64 0, .int .i64 0, .int .i64 0] 69)) none := Stp.alloc _ _
     have hT : (LS0 bl lb p (W2.alloc (.cells #[.int .u8 0, .string ⟨#[]⟩, .int .i64 0, .int .i64 0, .int .i64 0] 69)) ∧ LC b2 o2 e (W2.alloc (.cells #[.int .u8 0, .string ⟨#[]⟩, .int .i64 0, .int .i64 0, .int .i64 0] 69))) := ⟨LS0.stp hS2.1 st (by simp) (by simp), LC.stp hS2.2 st (by simp)⟩
     have HB3 : Hid (Below w1.heap.size w1 (W2.alloc (.cells #[.int .u8 0, .string ⟨#[]⟩, .int .i64 0, .int .i64 0, .int .i64 0] 69))) := st.bel w1 HB2.out (fun b h => by cases h)
     have fB3 : Hid (Bz w1 (W2.alloc (.cells #[.int .u8 0, .string ⟨#[]⟩, .int .i64 0, .int .i64 0, .int .i64 0] 69)) bb) := fB2.out.stp st (by simp)
     have nab : bb ≠ W2.heap.size := by have h1 := fB2.out.lt; omega
     have fA3 : Hid (Bz w1 (W2.alloc (.cells #[.int .u8 0, .string ⟨#[]⟩, .int .i64 0, .int .i64 0, .int .i64 0] 69)) W2.heap.size) := Bz.new HB2.out
     have n2a : b2 ≠ W2.heap.size := by have h1 := LC.lt (hS2.2); omega
     refine hK.out _ _ hT (fun hHeld => ?_)
     clear hK K hHeld st
     try simp only [Act.put, List.setIfInBounds_toArray, List.set_cons_zero, List.set_cons_succ]
     generalize W2.alloc (.cells #[.int .u8 0, .string ⟨#[]⟩, .int .i64 0, .int .i64 0, .int .i64 0] 69) = W3 at hT HB3 fA3 fB3 ⊢
     generalize W2.heap.size = ba at fA3 nab n2a ⊢
     have hS3 := hT
     clear hT hS2 HB2 fB2
     refine wpAnyH_ready (rs := [17]) (by kernel_rfl) (by simp) ?_
     refine (AllReadyH.cons (by simp only [List.getElem?_toArray, List.getElem?_cons_zero, List.getElem?_cons_succ]; rfl) (fun K hK => ?_) AllReadyH.nil)
     ·go_simp
      go_at_call 102
      refine (HQ.out _ HB3.out).mono ?_
      rintro e' W4 ⟨b3, o3, cz3, rfl, HR⟩
      have st : Stp W3 W4 none := Stp.call HR.out.bel
      have hT : (LS0 bl lb p W4 ∧ LC b2 o2 e W4) := ⟨LS0.stp hS3.1 st (by simp) (by simp), LC.stp hS3.2 st (by simp)⟩
      have HB4 : Hid (Below w1.heap.size w1 W4) := st.bel w1 HB3.out (fun b h => by cases h)
      have fA4 : Hid (Bz w1 W4 ba) := fA3.out.stp st (by simp)
      have n3a : b3 ≠ ba := by have h1 := fA3.out.lt; have h2 := HR.out.new; omega
      have fB4 : Hid (Bz w1 W4 bb) := fB3.out.stp st (by simp)
      have n3b : b3 ≠ bb := by have h1 := fB3.out.lt; have h2 := HR.out.new; omega
      refine hK.out _ _ hT (fun hHeld => ?_)
      clear hK K hHeld
      try simp only [Act.put, List.setIfInBounds_toArray, List.set_cons_zero, List.set_cons_succ]
      refine wpAnyH_more (S' := fun w' => ((LS0 bl lb p w' ∧ LC b2 o2 e w') ∧ LC b3 o3 f w')) (fun _ h => h.1) _ _ _ _ ?_
      have hS4 : ((LS0 bl lb p W4 ∧ LC b2 o2 e W4) ∧ LC b3 o3 f W4) := ⟨hT, HR.out.cells⟩
      clear hT st HR hS3 HB3 fA3 fB3
      refine wpAnyH_take (i := 18) (v := ?_) (by simp only [List.getElem?_toArray, List.getElem?_cons_zero, List.getElem?_cons_succ]; rfl) (by kernel_rfl) (by kernel_rfl) (by kernel_rfl) (fun _ _ _ h => h) (Or.inl ⟨by rfl, ?_⟩) (by assumption) ?_
      rotate_left
      ·(intro w hSw; (try dsimp only at hSw); go_simp <;> with_reducible rfl)
      try simp only [Act.put, List.setIfInBounds_toArray, List.set_cons_zero, List.set_cons_succ]
      refine wpAnyH_take (i := 19) (v := ?_) (by simp only [List.getElem?_toArray, List.getElem?_cons_zero, List.getElem?_cons_succ]; rfl) (by kernel_rfl) (by kernel_rfl) (by kernel_rfl) (fun _ _ _ h => h) (Or.inl ⟨by rfl, ?_⟩) (by assumption) ?_
      rotate_left
      ·(intro w hSw; (try dsimp only at hSw); go_simp <;> with_reducible rfl)
      try simp only [Act.put, List.setIfInBounds_toArray, List.set_cons_zero, List.set_cons_succ]
      refine wpAnyH_ready (rs := [22]) (by kernel_rfl) (by simp) ?_
      refine (AllReadyH.cons (by simp only [List.getElem?_toArray, List.getElem?_cons_zero, List.getElem?_cons_succ]; rfl) (fun K hK => ?_) AllReadyH.nil)
      ·obtain ⟨z0, z1, z2, z3, z4, z5⟩ := z_cells fA4.out.1
       have z6 := z5 0
       have z7 := z5 1
       have z8 := z5 2
       have z9 := z5 3
       have z10 := z5 4
       clear z5
       go_simp
       clear z0 z1 z2 z3 z4 z6 z7 z8 z9 z10
       have st := Stp.store W4 ba e
       have fA5 : Hid (Bc w1 _ ba e) := fA4.out.fill e
       unfold fill5 at st fA5
       generalize (((((W4.setCell ⟨ba, 0, none⟩ (.int .u8 e.k)).setCell ⟨ba, 1, none⟩ (.string e.t)).setCell ⟨ba, 2, none⟩ (.int .i64 e.n)).setCell ⟨ba, 3, none⟩ (.int .i64 e.vn)).setCell ⟨ba, 4, none⟩ (.int .i64 e.vk)) = W5 at st fA5 ⊢
       have hT : ((LS0 bl lb p W5 ∧ LC b2 o2 e W5) ∧ LC b3 o3 f W5) := ⟨⟨LS0.stp hS4.1.1 st (fun h => by cases h; have := fA4.out.2; omega) (fun h => by cases h; have := fA4.out.2; omega), LC.stp hS4.1.2 st (fun h => n2a (Option.some.inj h).symm)⟩, LC.stp hS4.2 st (fun h => n3a (Option.some.inj h).symm)⟩
       have HB5 : Hid (Below w1.heap.size w1 W5) := st.bel w1 HB4.out (fun b h => by cases h; exact fA4.out.2)
       have fB5 : Hid (Bz w1 W5 bb) := fB4.out.stp st (fun h => by have h1 := Option.some.inj h; omega)
       refine hK.out _ _ hT (fun hHeld => ?_)
       clear hK K hHeld st
       try simp only [Act.put, List.setIfInBounds_toArray, List.set_cons_zero, List.set_cons_succ]
       have hS5 := hT
       clear hT hS4 HB4 fA4 fB4
       refine wpAnyH_ready (rs := [23]) (by kernel_rfl) (by simp) ?_
       refine (AllReadyH.cons (by simp only [List.getElem?_toArray, List.getElem?_cons_zero, List.getElem?_cons_succ]; rfl) (fun K hK => ?_) AllReadyH.nil)
       ·obtain ⟨z0, z1, z2, z3, z4, z5⟩ := z_cells fB5.out.1
        have z6 := z5 0
        have z7 := z5 1
        have z8 := z5 2
        have z9 := z5 3
        have z10 := z5 4
        clear z5
        go_simp
        clear z0 z1 z2 z3 z4 z6 z7 z8 z9 z10
        have st := Stp.store W5 bb f
        have fB6 : Hid (Bc w1 _ bb f) := fB5.out.fill f
        unfold fill5 at st fB6
        generalize (((((W5.setCell ⟨bb, 0, none⟩ (.int .u8 f.k)).setCell ⟨bb, 1, none⟩ (.string f.t)).setCell ⟨bb, 2, none⟩ (.int .i64 f.n)).setCell ⟨bb, 3, none⟩ (.int .i64 f.vn)).setCell ⟨bb, 4, none⟩ (.int .i64 f.vk)) = W6 at st fB6 ⊢
        have hT : ((LS0 bl lb p W6 ∧ LC b2 o2 e W6) ∧ LC b3 o3 f W6) := ⟨⟨LS0.stp hS5.1.1 st (fun h => by cases h; have := fB5.out.2; omega) (fun h => by cases h; have := fB5.out.2; omega), LC.stp hS5.1.2 st (fun h => n2b (Option.some.inj h).symm)⟩, LC.stp hS5.2 st (fun h => n3b (Option.some.inj h).symm)⟩
        have HB6 : Hid (Below w1.heap.size w1 W6) := st.bel w1 HB5.out (fun b h => by cases h; exact fB5.out.2)
        have fA6 : Hid (Bc w1 W6 ba e) := fA5.out.stp st (fun h => by have h1 := Option.some.inj h; omega)
        refine hK.out _ _ hT (fun hHeld => ?_)
        clear hK K hHeld st
        try simp only [Act.put, List.setIfInBounds_toArray, List.set_cons_zero, List.set_cons_succ]
        have hS6 := hT
        clear hT hS5 HB5 fA5 fB5
        refine wpAnyH_done (by kernel_rfl) ?_ _
        refine NoPanic.normal ?_
        go_wp2_with fail
        go_meet
        case rel => exact ⟨ba, bb, rfl, rfl, fA6.out, fB6.out, HB6.out⟩
  ·go_simp
   have st : Stp W0 (W0.alloc (.cells #[.int .u8 0, .string ⟨#[]⟩, .int .i64 0, .int .i64 0, .int .i64 0] 69)) none := Stp.alloc _ _
   have hT : LS0 bl lb p (W0.alloc (.cells #[.int .u8 0, .string ⟨#[]⟩, .int .i64 0, .int .i64 0, .int .i64 0] 69)) := LS0.stp hS0 st (by simp) (by simp)
   have HB1 : Hid (Below w1.heap.size w1 (W0.alloc (.cells #[.int .u8 0, .string ⟨#[]⟩, .int .i64 0, .int .i64 0, .int .i64 0] 69))) := st.bel w1 HB0.out (fun b h => by cases h)
   have fA1 : Hid (Bz w1 (W0.alloc (.cells #[.int .u8 0, .string ⟨#[]⟩, .int .i64 0, .int .i64 0, .int .i64 0] 69)) W0.heap.size) := Bz.new HB0.out
   refine hK.out _ _ hT (fun hHeld => ?_)
   clear hK K hHeld st
   try simp only [Act.put, List.setIfInBounds_toArray, List.set_cons_zero, List.set_cons_succ]
   generalize W0.alloc (.cells #[.int .u8 0, .string ⟨#[]⟩, .int .i64 0, .int .i64 0, .int .i64 0] 69) = W1 at hT HB1 fA1 ⊢
   generalize W0.heap.size = ba at fA1  ⊢
   have hS1 := hT
   clear hT hS0 HB0
   refine wpAnyH_ready (rs := [7, 21]) (by kernel_rfl) (by simp) ?_
   refine (AllReadyH.cons (by simp only [List.getElem?_toArray, List.getElem?_cons_zero, List.getElem?_cons_succ]; rfl) (fun K hK => ?_) (AllReadyH.cons (by simp only [List.getElem?_toArray, List.getElem?_cons_zero, List.getElem?_cons_succ]; rfl) (fun K hK => ?_) AllReadyH.nil))
   ·go_simp
    go_at_call 102
    refine (HA.out _ HB1.out).mono ?_
    rintro e' W2 ⟨b2, o2, cz2, rfl, HR⟩
    have st : Stp W1 W2 none := Stp.call HR.out.bel
    have hT : LS0 bl lb p W2 := LS0.stp hS1 st (by simp) (by simp)
    have HB2 : Hid (Below w1.heap.size w1 W2) := st.bel w1 HB1.out (fun b h => by cases h)
    have fA2 : Hid (Bz w1 W2 ba) := fA1.out.stp st (by simp)
    have n2a : b2 ≠ ba := by have h1 := fA1.out.lt; have h2 := HR.out.new; omega
    refine hK.out _ _ hT (fun hHeld => ?_)
    clear hK K hHeld
    try simp only [Act.put, List.setIfInBounds_toArray, List.set_cons_zero, List.set_cons_succ]
    refine wpAnyH_more (S' := fun w' => (LS0 bl lb p w' ∧ LC b2 o2 e w')) (fun _ h => h.1) _ _ _ _ ?_
    have hS2 : (LS0 bl lb p W2 ∧ LC b2 o2 e W2) := ⟨hT, HR.out.cells⟩
    clear hT st HR hS1 HB1 fA1
    refine wpAnyH_take (i := 8) (v := ?_) (by simp only [List.getElem?_toArray, List.getElem?_cons_zero, List.getElem?_cons_succ]; rfl) (by kernel_rfl) (by kernel_rfl) (by kernel_rfl) (fun _ _ _ h => h) (Or.inl ⟨by rfl, ?_⟩) (by assumption) ?_
    rotate_left
    ·(intro w hSw; (try dsimp only at hSw); go_simp <;> with_reducible rfl)
    try simp only [Act.put, List.setIfInBounds_toArray, List.set_cons_zero, List.set_cons_succ]
    refine wpAnyH_take (i := 9) (v := ?_) (by simp only [List.getElem?_toArray, List.getElem?_cons_zero, List.getElem?_cons_succ]; rfl) (by kernel_rfl) (by kernel_rfl) (by kernel_rfl) (fun _ _ _ h => h) (Or.inl ⟨by rfl, ?_⟩) (by assumption) ?_
    rotate_left
    ·(intro w hSw; (try dsimp only at hSw); go_simp <;> with_reducible rfl)
    try simp only [Act.put, List.setIfInBounds_toArray, List.set_cons_zero, List.set_cons_succ]
    refine wpAnyH_ready (rs := [17, 21]) (by kernel_rfl) (by simp) ?_
    refine (AllReadyH.cons (by simp only [List.getElem?_toArray, List.getElem?_cons_zero, List.getElem?_cons_succ]; rfl) (fun K hK => ?_) (AllReadyH.cons (by simp only [List.getElem?_toArray, List.getElem?_cons_zero, List.getElem?_cons_succ]; rfl) (fun K hK => ?_) AllReadyH.nil))
    ·go_simp
     go_at_call 102
     refine (HQ.out _ HB2.out).mono ?_
     rintro e' W3 ⟨b3, o3, cz3, rfl, HR⟩
     have st : Stp W2 W3 none := Stp.call HR.out.bel
     have hT : (LS0 bl lb p W3 ∧ LC b2 o2 e W3) := ⟨LS0.stp hS2.1 st (by simp) (by simp), LC.stp hS2.2 st (by simp)⟩
     have HB3 : Hid (Below w1.heap.size w1 W3) := st.bel w1 HB2.out (fun b h => by cases h)
     have fA3 : Hid (Bz w1 W3 ba) := fA2.out.stp st (by simp)
     have n3a : b3 ≠ ba := by have h1 := fA2.out.lt; have h2 := HR.out.new; omega
     refine hK.out _ _ hT (fun hHeld => ?_)
     clear hK K hHeld
     try simp only [Act.put, List.setIfInBounds_toArray, List.set_cons_zero, List.set_cons_succ]
     refine wpAnyH_more (S' := fun w' => ((LS0 bl lb p w' ∧ LC b2 o2 e w') ∧ LC b3 o3 f w')) (fun _ h => h.1) _ _ _ _ ?_
     have hS3 : ((LS0 bl lb p W3 ∧ LC b2 o2 e W3) ∧ LC b3 o3 f W3) := ⟨hT, HR.out.cells⟩
     clear hT st HR hS2 HB2 fA2
     refine wpAnyH_take (i := 18) (v := ?_) (by simp only [List.getElem?_toArray, List.getElem?_cons_zero, List.getElem?_cons_succ]; rfl) (by kernel_rfl) (by kernel_rfl) (by kernel_rfl) (fun _ _ _ h => h) (Or.inl ⟨by rfl, ?_⟩) (by assumption) ?_
     rotate_left
     ·(intro w hSw; (try dsimp only at hSw); go_simp <;> with_reducible rfl)
     try simp only [Act.put, List.setIfInBounds_toArray, List.set_cons_zero, List.set_cons_succ]
     refine wpAnyH_take (i := 19) (v := ?_) (by simp only [List.getElem?_toArray, List.getElem?_cons_zero, List.getElem?_cons_succ]; rfl) (by kernel_rfl) (by kernel_rfl) (by kernel_rfl) (fun _ _ _ h => h) (Or.inl ⟨by rfl, ?_⟩) (by assumption) ?_
     rotate_left
     ·(intro w hSw; (try dsimp only at hSw); go_simp <;> with_reducible rfl)
     try simp only [Act.put, List.setIfInBounds_toArray, List.set_cons_zero, List.set_cons_succ]
     refine wpAnyH_ready (rs := [21]) (by kernel_rfl) (by simp) ?_
     refine (AllReadyH.cons (by simp only [List.getElem?_toArray, List.getElem?_cons_zero, List.getElem?_cons_succ]; rfl) (fun K hK => ?_) AllReadyH.nil)
     ·go_simp
      have st : Stp W3 (W3.alloc (.cells #[.int .u8 0, .string ⟨#[]⟩, .int .i64 0, .int .i64 0, .int .i64 0] 69)) none := Stp.alloc _ _
      have hT : ((LS0 bl lb p (W3.alloc (.cells #[.int .u8 0, .string ⟨#[]⟩, .int .i64 0, .int .i64 0, .int .i64 0] 69)) ∧ LC b2 o2 e (W3.alloc (.cells #[.int .u8 0, .string ⟨#[]⟩, .int .i64 0, .int .i64 0, .int .i64 0] 69))) ∧ LC b3 o3 f (W3.alloc (.cells #[.int .u8 0, .string ⟨#[]⟩, .int .i64 0, .int .i64 0, .int .i64 0] 69))) := ⟨⟨LS0.stp hS3.1.1 st (by simp) (by simp), LC.stp hS3.1.2 st (by simp)⟩, LC.stp hS3.2 st (by simp)⟩
      have HB4 : Hid (Below w1.heap.size w1 (W3.alloc (.cells #[.int .u8 0, .string ⟨#[]⟩, .int .i64 0, .int .i64 0, .int .i64 0] 69))) := st.bel w1 HB3.out (fun b h => by cases h)
      have fA4 : Hid (Bz w1 (W3.alloc (.cells #[.int .u8 0, .string ⟨#[]⟩, .int .i64 0, .int .i64 0, .int .i64 0] 69)) ba) := fA3.out.stp st (by simp)
      have nab : ba ≠ W3.heap.size := by have h1 := fA3.out.lt; omega
      have fB4 : Hid (Bz w1 (W3.alloc (.cells #[.int .u8 0, .string ⟨#[]⟩, .int .i64 0, .int .i64 0, .int .i64 0] 69)) W3.heap.size) := Bz.new HB3.out
      have n2b : b2 ≠ W3.heap.size := by have h1 := LC.lt (hS3.1.2); omega
      have n3b : b3 ≠ W3.heap.size := by have h1 := LC.lt (hS3.2); omega
      refine hK.out _ _ hT (fun hHeld => ?_)
      clear hK K hHeld st
      try simp only [Act.put, List.setIfInBounds_toArray, List.set_cons_zero, List.set_cons_succ]
      generalize W3.alloc (.cells #[.int .u8 0, .string ⟨#[]⟩, .int .i64 0, .int .i64 0, .int .i64 0] 69) = W4 at hT HB4 fA4 fB4 ⊢
      generalize W3.heap.size = bb at fB4 nab n2b n3b ⊢
      have hS4 := hT
      clear hT hS3 HB3 fA3
      refine wpAnyH_ready (rs := [22]) (by kernel_rfl) (by simp) ?_
      refine (AllReadyH.cons (by simp only [List.getElem?_toArray, List.getElem?_cons_zero, List.getElem?_cons_succ]; rfl) (fun K hK => ?_) AllReadyH.nil)
      ·obtain ⟨z0, z1, z2, z3, z4, z5⟩ := z_cells fA4.out.1
       have z6 := z5 0
       have z7 := z5 1
       have z8 := z5 2
       have z9 := z5 3
       have z10 := z5 4
       clear z5
       go_simp
       clear z0 z1 z2 z3 z4 z6 z7 z8 z9 z10
       have st := Stp.store W4 ba e
       have fA5 : Hid (Bc w1 _ ba e) := fA4.out.fill e
       unfold fill5 at st fA5
       generalize (((((W4.setCell ⟨ba, 0, none⟩ (.int .u8 e.k)).setCell ⟨ba, 1, none⟩ (.string e.t)).setCell ⟨ba, 2, none⟩ (.int .i64 e.n)).setCell ⟨ba, 3, none⟩ (.int .i64 e.vn)).setCell ⟨ba, 4, none⟩ (.int .i64 e.vk)) = W5 at st fA5 ⊢
       have hT : ((LS0 bl lb p W5 ∧ LC b2 o2 e W5) ∧ LC b3 o3 f W5) := ⟨⟨LS0.stp hS4.1.1 st (fun h => by cases h; have := fA4.out.2; omega) (fun h => by cases h; have := fA4.out.2; omega), LC.stp hS4.1.2 st (fun h => n2a (Option.some.inj h).symm)⟩, LC.stp hS4.2 st (fun h => n3a (Option.some.inj h).symm)⟩
       have HB5 : Hid (Below w1.heap.size w1 W5) := st.bel w1 HB4.out (fun b h => by cases h; exact fA4.out.2)
       have fB5 : Hid (Bz w1 W5 bb) := fB4.out.stp st (fun h => by have h1 := Option.some.inj h; omega)
       refine hK.out _ _ hT (fun hHeld => ?_)
       clear hK K hHeld st
       try simp only [Act.put, List.setIfInBounds_toArray, List.set_cons_zero, List.set_cons_succ]
       have hS5 := hT
       clear hT hS4 HB4 fA4 fB4
       refine wpAnyH_ready (rs := [23]) (by kernel_rfl) (by simp) ?_
       refine (AllReadyH.cons (by simp only [List.getElem?_toArray, List.getElem?_cons_zero, List.getElem?_cons_succ]; rfl) (fun K hK => ?_) AllReadyH.nil)
       ·obtain ⟨z0, z1, z2, z3, z4, z5⟩ := z_cells fB5.out.1
        have z6 := z5 0
        have z7 := z5 1
        have z8 := z5 2
        have z9 := z5 3
        have z10 := z5 4
        clear z5
        go_simp
        clear z0 z1 z2 z3 z4 z6 z7 z8 z9 z10
        have st := Stp.store W5 bb f
        have fB6 : Hid (Bc w1 _ bb f) := fB5.out.fill f
        unfold fill5 at st fB6
        generalize (((((W5.setCell ⟨bb, 0, none⟩ (.int .u8 f.k)).setCell ⟨bb, 1, none⟩ (.string f.t)).setCell ⟨bb, 2, none⟩ (.int .i64 f.n)).setCell ⟨bb, 3, none⟩ (.int .i64 f.vn)).setCell ⟨bb, 4, none⟩ (.int .i64 f.vk)) = W6 at st fB6 ⊢
        have hT : ((LS0 bl lb p W6 ∧ LC b2 o2 e W6) ∧ LC b3 o3 f W6) := ⟨⟨LS0.stp hS5.1.1 st (fun h => by cases h; have := fB5.out.2; omega) (fun h => by cases h; have := fB5.out.2; omega), LC.stp hS5.1.2 st (fun h => n2b (Option.some.inj h).symm)⟩, LC.stp hS5.2 st (fun h => n3b (Option.some.inj h).symm)⟩
        have HB6 : Hid (Below w1.heap.size w1 W6) := st.bel w1 HB5.out (fun b h => by cases h; exact fB5.out.2)
        have fA6 : Hid (Bc w1 W6 ba e) := fA5.out.stp st (fun h => by have h1 := Option.some.inj h; omega)
        refine hK.out _ _ hT (fun hHeld => ?_)
        clear hK K hHeld st
        try simp only [Act.put, List.setIfInBounds_toArray, List.set_cons_zero, List.set_cons_succ]
        have hS6 := hT
        clear hT hS5 HB5 fA5 fB5
        refine wpAnyH_done (by kernel_rfl) ?_ _
        refine NoPanic.normal ?_
        go_wp2_with fail
        go_meet
        case rel => exact ⟨ba, bb, rfl, rfl, fA6.out, fB6.out, HB6.out⟩
    ·go_simp
     have st : Stp W2 (W2.alloc (.cells #[.int .u8 0, .string ⟨#[]⟩, .int .i64 0, .int .i64 0, .int .i64 0] 69)) none := Stp.alloc _ _
     have hT : (LS0 bl lb p (W2.alloc (.cells #[.int .u8 0, .string ⟨#[]⟩, .int .i64 0, .int .i64 0, .int .i64 0] 69)) ∧ LC b2 o2 e (W2.alloc (.cells #[.int .u8 0, .string ⟨#[]⟩, .int .i64 0, .int .i64 0, .int .i64 0] 69))) := ⟨LS0.stp hS2.1 st (by simp) (by simp), LC.stp hS2.2 st (by simp)⟩
     have HB3 : Hid (Below w1.heap.size w1 (W2.alloc (.cells #[.int .u8 0, .string ⟨#[]⟩, .int .i64 0, .int .i64 0, .int .i64 0] 69))) := st.bel w1 HB2.out (fun b h => by cases h)
     have fA3 : Hid (Bz w1 (W2.alloc (.cells #[.int .u8 0, .string ⟨#[]⟩, .int .i64 0, .int .i64 0, .int .i64 0] 69)) ba) := fA2.out.stp st (by simp)
     have nab : ba ≠ W2.heap.size := by have h1 := fA2.out.lt; omega
     have fB3 : Hid (Bz w1 (W2.alloc (.cells #[.int .u8 0, .string ⟨#[]⟩, .int .i64 0, .int .i64 0, .int .i64 0] 69)) W2.heap.size) := Bz.new HB2.out
     have n2b : b2 ≠ W2.heap.size := by have h1 := LC.lt (hS2.2); omega
     refine hK.out _ _ hT (fun hHeld => ?_)
     clear hK K hHeld st
     try simp only [Act.put, List.setIfInBounds_toArray, List.set_cons_zero, List.set_cons_succ]
     generalize W2.alloc (.cells #[.int .u8 0, .string ⟨#[]⟩, .int .i64 0, .int .i64 0, .int .i64 0] 69) = W3 at hT HB3 fA3 fB3 ⊢
     generalize W2.heap.size = bb at fB3 nab n2b ⊢
     have hS3 := hT
     clear hT hS2 HB2 fA2
     refine wpAnyH_ready (rs := [17]) (by kernel_rfl) (by simp) ?_
     refine (AllReadyH.cons (by simp only [List.getElem?_toArray, List.getElem?_cons_zero, List.getElem?_cons_succ]; rfl) (fun K hK => ?_) AllReadyH.nil)
     ·go_simp
      go_at_call 102
      refine (HQ.out _ HB3.out).mono ?_
      rintro e' W4 ⟨b3, o3, cz3, rfl, HR⟩
      have st : Stp W3 W4 none := Stp.call HR.out.bel
      have hT : (LS0 bl lb p W4 ∧ LC b2 o2 e W4) := ⟨LS0.stp hS3.1 st (by simp) (by simp), LC.stp hS3.2 st (by simp)⟩
      have HB4 : Hid (Below w1.heap.size w1 W4) := st.bel w1 HB3.out (fun b h => by cases h)
      have fA4 : Hid (Bz w1 W4 ba) := fA3.out.stp st (by simp)
      have n3a : b3 ≠ ba := by have h1 := fA3.out.lt; have h2 := HR.out.new; omega
      have fB4 : Hid (Bz w1 W4 bb) := fB3.out.stp st (by simp)
      have n3b : b3 ≠ bb := by have h1 := fB3.out.lt; have h2 := HR.out.new; omega
      refine hK.out _ _ hT (fun hHeld => ?_)
      clear hK K hHeld
      try simp only [Act.put, List.setIfInBounds_toArray, List.set_cons_zero, List.set_cons_succ]
      refine wpAnyH_more (S' := fun w' => ((LS0 bl lb p w' ∧ LC b2 o2 e w') ∧ LC b3 o3 f w')) (fun _ h => h.1) _ _ _ _ ?_
      have hS4 : ((LS0 bl lb p W4 ∧ LC b2 o2 e W4) ∧ LC b3 o3 f W4) := ⟨hT, HR.out.cells⟩
      clear hT st HR hS3 HB3 fA3 fB3
      refine wpAnyH_take (i := 18) (v := ?_) (by simp only [List.getElem?_toArray, List.getElem?_cons_zero, List.getElem?_cons_succ]; rfl) (by kernel_rfl) (by kernel_rfl) (by kernel_rfl) (fun _ _ _ h => h) (Or.inl ⟨by rfl, ?_⟩) (by assumption) ?_
      rotate_left
      ·(intro w hSw; (try dsimp only at hSw); go_simp <;> with_reducible rfl)
      try simp only [Act.put, List.setIfInBounds_toArray, List.set_cons_zero, List.set_cons_succ]
      refine wpAnyH_take (i := 19) (v := ?_) (by simp only [List.getElem?_toArray, List.getElem?_cons_zero, List.getElem?_cons_succ]; rfl) (by kernel_rfl) (by kernel_rfl) (by kernel_rfl) (fun _ _ _ h => h) (Or.inl ⟨by rfl, ?_⟩) (by assumption) ?_
      rotate_left
      ·(intro w hSw; (try dsimp only at hSw); go_simp <;> with_reducible rfl)
      try simp only [Act.put, List.setIfInBounds_toArray, List.set_cons_zero, List.set_cons_succ]
      refine wpAnyH_ready (rs := [22]) (by kernel_rfl) (by simp) ?_
      refine (AllReadyH.cons (by simp only [List.getElem?_toArray, List.getElem?_cons_zero, List.getElem?_cons_succ]; rfl) (fun K hK => ?_) AllReadyH.nil)
      ·obtain ⟨z0, z1, z2, z3, z4, z5⟩ := z_cells fA4.out.1
       have z6 := z5 0
       have z7 := z5 1
       have z8 := z5 2
       have z9 := z5 3
       have z10 := z5 4
       clear z5
       go_simp
       clear z0 z1 z2 z3 z4 z6 z7 z8 z9 z10
       have st := Stp.store W4 ba e
       have fA5 : Hid (Bc w1 _ ba e) := fA4.out.fill e
       unfold fill5 at st fA5
       generalize (((((W4.setCell ⟨ba, 0, none⟩ (.int .u8 e.k)).setCell ⟨ba, 1, none⟩ (.string e.t)).setCell ⟨ba, 2, none⟩ (.int .i64 e.n)).setCell ⟨ba, 3, none⟩ (.int .i64 e.vn)).setCell ⟨ba, 4, none⟩ (.int .i64 e.vk)) = W5 at st fA5 ⊢
       have hT : ((LS0 bl lb p W5 ∧ LC b2 o2 e W5) ∧ LC b3 o3 f W5) := ⟨⟨LS0.stp hS4.1.1 st (fun h => by cases h; have := fA4.out.2; omega) (fun h => by cases h; have := fA4.out.2; omega), LC.stp hS4.1.2 st (fun h => n2a (Option.some.inj h).symm)⟩, LC.stp hS4.2 st (fun h => n3a (Option.some.inj h).symm)⟩
       have HB5 : Hid (Below w1.heap.size w1 W5) := st.bel w1 HB4.out (fun b h => by cases h; exact fA4.out.2)
       have fB5 : Hid (Bz w1 W5 bb) := fB4.out.stp st (fun h => by have h1 := Option.some.inj h; omega)
       refine hK.out _ _ hT (fun hHeld => ?_)
       clear hK K hHeld st
       try simp only [Act.put, List.setIfInBounds_toArray, List.set_cons_zero, List.set_cons_succ]
       have hS5 := hT
       clear hT hS4 HB4 fA4 fB4
       refine wpAnyH_ready (rs := [23]) (by kernel_rfl) (by simp) ?_
       refine (AllReadyH.cons (by simp only [List.getElem?_toArray, List.getElem?_cons_zero, List.getElem?_cons_succ]; rfl) (fun K hK => ?_) AllReadyH.nil)
       ·obtain ⟨z0, z1, z2, z3, z4, z5⟩ := z_cells fB5.out.1
        have z6 := z5 0
        have z7 := z5 1
        have z8 := z5 2
        have z9 := z5 3
        have z10 := z5 4
        clear z5
        go_simp
        clear z0 z1 z2 z3 z4 z6 z7 z8 z9 z10
        have st := Stp.store W5 bb f
        have fB6 : Hid (Bc w1 _ bb f) := fB5.out.fill f
        unfold fill5 at st fB6
        generalize (((((W5.setCell ⟨bb, 0, none⟩ (.int .u8 f.k)).setCell ⟨bb, 1, none⟩ (.string f.t)).setCell ⟨bb, 2, none⟩ (.int .i64 f.n)).setCell ⟨bb, 3, none⟩ (.int .i64 f.vn)).setCell ⟨bb, 4, none⟩ (.int .i64 f.vk)) = W6 at st fB6 ⊢
        have hT : ((LS0 bl lb p W6 ∧ LC b2 o2 e W6) ∧ LC b3 o3 f W6) := ⟨⟨LS0.stp hS5.1.1 st (fun h => by cases h; have := fB5.out.2; omega) (fun h => by cases h; have := fB5.out.2; omega), LC.stp hS5.1.2 st (fun h => n2b (Option.some.inj h).symm)⟩, LC.stp hS5.2 st (fun h => n3b (Option.some.inj h).symm)⟩
        have HB6 : Hid (Below w1.heap.size w1 W6) := st.bel w1 HB5.out (fun b h => by cases h; exact fB5.out.2)
        have fA6 : Hid (Bc w1 W6 ba e) := fA5.out.stp st (fun h => by have h1 := Option.some.inj h; omega)
        refine hK.out _ _ hT (fun hHeld => ?_)
        clear hK K hHeld st
        try simp only [Act.put, List.setIfInBounds_toArray, List.set_cons_zero, List.set_cons_succ]
        have hS6 := hT
        clear hT hS5 HB5 fA5 fB5
        refine wpAnyH_done (by kernel_rfl) ?_ _
        refine NoPanic.normal ?_
        go_wp2_with fail
        go_meet
        case rel => exact ⟨ba, bb, rfl, rfl, fA6.out, fB6.out, HB6.out⟩
   ·go_simp
    have st : Stp W1 (W1.alloc (.cells #[.int .u8 0, .string ⟨#[]⟩, .int .i64 0, .int .i64 0, .int .i64 0] 69)) none := Stp.alloc _ _
    have hT : LS0 bl lb p (W1.alloc (.cells #[.int .u8 0, .string ⟨#[]⟩, .int .i64 0, .int .i64 0, .int .i64 0] 69)) := LS0.stp hS1 st (by simp) (by simp)
    have HB2 : Hid (Below w1.heap.size w1 (W1.alloc (.cells #[.int .u8 0, .string ⟨#[]⟩, .int .i64 0, .int .i64 0, .int .i64 0] 69))) := st.bel w1 HB1.out (fun b h => by cases h)
    have fA2 : Hid (Bz w1 (W1.alloc (.cells #[.int .u8 0, .string ⟨#[]⟩, .int .i64 0, .int .i64 0, .int .i64 0] 69)) ba) := fA1.out.stp st (by simp)
    have nab : ba ≠ W1.heap.size := by have h1 := fA1.out.lt; omega
    have fB2 : Hid (Bz w1 (W1.alloc (.cells #[.int .u8 0, .string ⟨#[]⟩, .int .i64 0, .int .i64 0, .int .i64 0] 69)) W1.heap.size) := Bz.new HB1.out
    refine hK.out _ _ hT (fun hHeld => ?_)
    clear hK K hHeld st
    try simp only [Act.put, List.setIfInBounds_toArray, List.set_cons_zero, List.set_cons_succ]
    generalize W1.alloc (.cells #[.int .u8 0, .string ⟨#[]⟩, .int .i64 0, .int .i64 0, .int .i64 0] 69) = W2 at hT HB2 fA2 fB2 ⊢
    generalize W1.heap.size = bb at fB2 nab ⊢
    have hS2 := hT
    clear hT hS1 HB1 fA1
    refine wpAnyH_ready (rs := [7]) (by kernel_rfl) (by simp) ?_
    refine (AllReadyH.cons (by simp only [List.getElem?_toArray, List.getElem?_cons_zero, List.getElem?_cons_succ]; rfl) (fun K hK => ?_) AllReadyH.nil)
    ·go_simp
     go_at_call 102
     refine (HA.out _ HB2.out).mono ?_
     rintro e' W3 ⟨b2, o2, cz2, rfl, HR⟩
     have st : Stp W2 W3 none := Stp.call HR.out.bel
     have hT : LS0 bl lb p W3 := LS0.stp hS2 st (by simp) (by simp)
     have HB3 : Hid (Below w1.heap.size w1 W3) := st.bel w1 HB2.out (fun b h => by cases h)
     have fA3 : Hid (Bz w1 W3 ba) := fA2.out.stp st (by simp)
     have n2a : b2 ≠ ba := by have h1 := fA2.out.lt; have h2 := HR.out.new; omega
     have fB3 : Hid (Bz w1 W3 bb) := fB2.out.stp st (by simp)
     have n2b : b2 ≠ bb := by have h1 := fB2.out.lt; have h2 := HR.out.new; omega
     refine hK.out _ _ hT (fun hHeld => ?_)
     clear hK K hHeld
     try simp only [Act.put, List.setIfInBounds_toArray, List.set_cons_zero, List.set_cons_succ]
     refine wpAnyH_more (S' := fun w' => (LS0 bl lb p w' ∧ LC b2 o2 e w')) (fun _ h => h.1) _ _ _ _ ?_
     have hS3 : (LS0 bl lb p W3 ∧ LC b2 o2 e W3) := ⟨hT, HR.out.cells⟩
     clear hT st HR hS2 HB2 fA2 fB2
     refine wpAnyH_take (i := 8) (v := ?_) (by simp only [List.getElem?_toArray, List.getElem?_cons_zero, List.getElem?_cons_succ]; rfl) (by kernel_rfl) (by kernel_rfl) (by kernel_rfl) (fun _ _ _ h => h) (Or.inl ⟨by rfl, ?_⟩) (by assumption) ?_
     rotate_left
     ·(intro w hSw; (try dsimp only at hSw); go_simp <;> with_reducible rfl)
     try simp only [Act.put, List.setIfInBounds_toArray, List.set_cons_zero, List.set_cons_succ]
     refine wpAnyH_take (i := 9) (v := ?_) (by simp only [List.getElem?_toArray, List.getElem?_cons_zero, List.getElem?_cons_succ]; rfl) (by kernel_rfl) (by kernel_rfl) (by kernel_rfl) (fun _ _ _ h => h) (Or.inl ⟨by rfl, ?_⟩) (by assumption) ?_
     rotate_left
     ·(intro w hSw; (try dsimp only at hSw); go_simp <;> with_reducible rfl)
     try simp only [Act.put, List.setIfInBounds_toArray, List.set_cons_zero, List.set_cons_succ]
     refine wpAnyH_ready (rs := [17]) (by kernel_rfl) (by simp) ?_
     refine (AllReadyH.cons (by simp only [List.getElem?_toArray, List.getElem?_cons_zero, List.getElem?_cons_succ]; rfl) (fun K hK => ?_) AllReadyH.nil)
     ·go_simp
      go_at_call 102
      refine (HQ.out _ HB3.out).mono ?_
      rintro e' W4 ⟨b3, o3, cz3, rfl, HR⟩
      have st : Stp W3 W4 none := Stp.call HR.out.bel
      have hT : (LS0 bl lb p W4 ∧ LC b2 o2 e W4) := ⟨LS0.stp hS3.1 st (by simp) (by simp), LC.stp hS3.2 st (by simp)⟩
      have HB4 : Hid (Below w1.heap.size w1 W4) := st.bel w1 HB3.out (fun b h => by cases h)
      have fA4 : Hid (Bz w1 W4 ba) := fA3.out.stp st (by simp)
      have n3a : b3 ≠ ba := by have h1 := fA3.out.lt; have h2 := HR.out.new; omega
      have fB4 : Hid (Bz w1 W4 bb) := fB3.out.stp st (by simp)
      have n3b : b3 ≠ bb := by have h1 := fB3.out.lt; have h2 := HR.out.new; omega
      refine hK.out _ _ hT (fun hHeld => ?_)
      clear hK K hHeld
      try simp only [Act.put, List.setIfInBounds_toArray, List.set_cons_zero, List.set_cons_succ]
      refine wpAnyH_more (S' := fun w' => ((LS0 bl lb p w' ∧ LC b2 o2 e w') ∧ LC b3 o3 f w')) (fun _ h => h.1) _ _ _ _ ?_
      have hS4 : ((LS0 bl lb p W4 ∧ LC b2 o2 e W4) ∧ LC b3 o3 f W4) := ⟨hT, HR.out.cells⟩
      clear hT st HR hS3 HB3 fA3 fB3
      refine wpAnyH_take (i := 18) (v := ?_) (by simp only [List.getElem?_toArray, List.getElem?_cons_zero, List.getElem?_cons_succ]; rfl) (by kernel_rfl) (by kernel_rfl) (by kernel_rfl) (fun _ _ _ h => h) (Or.inl ⟨by rfl, ?_⟩) (by assumption) ?_
      rotate_left
      ·(intro w hSw; (try dsimp only at hSw); go_simp <;> with_reducible rfl)
      try simp only [Act.put, List.setIfInBounds_toArray, List.set_cons_zero, List.set_cons_succ]
      refine wpAnyH_take (i := 19) (v := ?_) (by simp only [List.getElem?_toArray, List.getElem?_cons_zero, List.getElem?_cons_succ]; rfl) (by kernel_rfl) (by kernel_rfl) (by kernel_rfl) (fun _ _ _ h => h) (Or.inl ⟨by rfl, ?_⟩) (by assumption) ?_
      rotate_left
      ·(intro w hSw; (try dsimp only at hSw); go_simp <;> with_reducible rfl)
      try simp only [Act.put, List.setIfInBounds_toArray, List.set_cons_zero, List.set_cons_succ]
      refine wpAnyH_ready (rs := [22]) (by kernel_rfl) (by simp) ?_
      refine (AllReadyH.cons (by simp only [List.getElem?_toArray, List.getElem?_cons_zero, List.getElem?_cons_succ]; rfl) (fun K hK => ?_) AllReadyH.nil)
      ·obtain ⟨z0, z1, z2, z3, z4, z5⟩ := z_cells fA4.out.1
       have z6 := z5 0
       have z7 := z5 1
       have z8 := z5 2
       have z9 := z5 3
       have z10 := z5 4
       clear z5
       go_simp
       clear z0 z1 z2 z3 z4 z6 z7 z8 z9 z10
       have st := Stp.store W4 ba e
       have fA5 : Hid (Bc w1 _ ba e) := fA4.out.fill e
       unfold fill5 at st fA5
       generalize (((((W4.setCell ⟨ba, 0, none⟩ (.int .u8 e.k)).setCell ⟨ba, 1, none⟩ (.string e.t)).setCell ⟨ba, 2, none⟩ (.int .i64 e.n)).setCell ⟨ba, 3, none⟩ (.int .i64 e.vn)).setCell ⟨ba, 4, none⟩ (.int .i64 e.vk)) = W5 at st fA5 ⊢
       have hT : ((LS0 bl lb p W5 ∧ LC b2 o2 e W5) ∧ LC b3 o3 f W5) := ⟨⟨LS0.stp hS4.1.1 st (fun h => by cases h; have := fA4.out.2; omega) (fun h => by cases h; have := fA4.out.2; omega), LC.stp hS4.1.2 st (fun h => n2a (Option.some.inj h).symm)⟩, LC.stp hS4.2 st (fun h => n3a (Option.some.inj h).symm)⟩
       have HB5 : Hid (Below w1.heap.size w1 W5) := st.bel w1 HB4.out (fun b h => by cases h; exact fA4.out.2)
       have fB5 : Hid (Bz w1 W5 bb) := fB4.out.stp st (fun h => by have h1 := Option.some.inj h; omega)
       refine hK.out _ _ hT (fun hHeld => ?_)
       clear hK K hHeld st
       try simp only [Act.put, List.setIfInBounds_toArray, List.set_cons_zero, List.set_cons_succ]
       have hS5 := hT
       clear hT hS4 HB4 fA4 fB4
       refine wpAnyH_ready (rs := [23]) (by kernel_rfl) (by simp) ?_
       refine (AllReadyH.cons (by simp only [List.getElem?_toArray, List.getElem?_cons_zero, List.getElem?_cons_succ]; rfl) (fun K hK => ?_) AllReadyH.nil)
       ·obtain ⟨z0, z1, z2, z3, z4, z5⟩ := z_cells fB5.out.1
        have z6 := z5 0
        have z7 := z5 1
        have z8 := z5 2
        have z9 := z5 3
        have z10 := z5 4
        clear z5
        go_simp
        clear z0 z1 z2 z3 z4 z6 z7 z8 z9 z10
        have st := Stp.store W5 bb f
        have fB6 : Hid (Bc w1 _ bb f) := fB5.out.fill f
        unfold fill5 at st fB6
        generalize (((((W5.setCell ⟨bb, 0, none⟩ (.int .u8 f.k)).setCell ⟨bb, 1, none⟩ (.string f.t)).setCell ⟨bb, 2, none⟩ (.int .i64 f.n)).setCell ⟨bb, 3, none⟩ (.int .i64 f.vn)).setCell ⟨bb, 4, none⟩ (.int .i64 f.vk)) = W6 at st fB6 ⊢
        have hT : ((LS0 bl lb p W6 ∧ LC b2 o2 e W6) ∧ LC b3 o3 f W6) := ⟨⟨LS0.stp hS5.1.1 st (fun h => by cases h; have := fB5.out.2; omega) (fun h => by cases h; have := fB5.out.2; omega), LC.stp hS5.1.2 st (fun h => n2b (Option.some.inj h).symm)⟩, LC.stp hS5.2 st (fun h => n3b (Option.some.inj h).symm)⟩
        have HB6 : Hid (Below w1.heap.size w1 W6) := st.bel w1 HB5.out (fun b h => by cases h; exact fB5.out.2)
        have fA6 : Hid (Bc w1 W6 ba e) := fA5.out.stp st (fun h => by have h1 := Option.some.inj h; omega)
        refine hK.out _ _ hT (fun hHeld => ?_)
        clear hK K hHeld st
        try simp only [Act.put, List.setIfInBounds_toArray, List.set_cons_zero, List.set_cons_succ]
        have hS6 := hT
        clear hT hS5 HB5 fA5 fB5
        refine wpAnyH_done (by kernel_rfl) ?_ _
        refine NoPanic.normal ?_
        go_wp2_with fail
        go_meet
        case rel => exact ⟨ba, bb, rfl, rfl, fA6.out, fB6.out, HB6.out⟩
  ·go_simp
   have st : Stp W0 (W0.alloc (.cells #[.int .u8 0, .string ⟨#[]⟩, .int .i64 0, .int .i64 0, .int .i64 0] 69)) none := Stp.alloc _ _
   have hT : LS0 bl lb p (W0.alloc (.cells #[.int .u8 0, .string ⟨#[]⟩, .int .i64 0, .int .i64 0, .int .i64 0] 69)) := LS0.stp hS0 st (by simp) (by simp)
   have HB1 : Hid (Below w1.heap.size w1 (W0.alloc (.cells #[.int .u8 0, .string ⟨#[]⟩, .int .i64 0, .int .i64 0, .int .i64 0] 69))) := st.bel w1 HB0.out (fun b h => by cases h)
   have fB1 : Hid (Bz w1 (W0.alloc (.cells #[.int .u8 0, .string ⟨#[]⟩, .int .i64 0, .int .i64 0, .int .i64 0] 69)) W0.heap.size) := Bz.new HB0.out
   refine hK.out _ _ hT (fun hHeld => ?_)
   clear hK K hHeld st
   try simp only [Act.put, List.setIfInBounds_toArray, List.set_cons_zero, List.set_cons_succ]
   generalize W0.alloc (.cells #[.int .u8 0, .string ⟨#[]⟩, .int .i64 0, .int .i64 0, .int .i64 0] 69) = W1 at hT HB1 fB1 ⊢
   generalize W0.heap.size = bb at fB1  ⊢
   have hS1 := hT
   clear hT hS0 HB0
   refine wpAnyH_ready (rs := [7, 20]) (by kernel_rfl) (by simp) ?_
   refine (AllReadyH.cons (by simp only [List.getElem?_toArray, List.getElem?_cons_zero, List.getElem?_cons_succ]; rfl) (fun K hK => ?_) (AllReadyH.cons (by simp only [List.getElem?_toArray, List.getElem?_cons_zero, List.getElem?_cons_succ]; rfl) (fun K hK => ?_) AllReadyH.nil))
   ·go_simp
    go_at_call 102
    refine (HA.out _ HB1.out).mono ?_
    rintro e' W2 ⟨b2, o2, cz2, rfl, HR⟩
    have st : Stp W1 W2 none := Stp.call HR.out.bel
    have hT : LS0 bl lb p W2 := LS0.stp hS1 st (by simp) (by simp)
    have HB2 : Hid (Below w1.heap.size w1 W2) := st.bel w1 HB1.out (fun b h => by cases h)
    have fB2 : Hid (Bz w1 W2 bb) := fB1.out.stp st (by simp)
    have n2b : b2 ≠ bb := by have h1 := fB1.out.lt; have h2 := HR.out.new; omega
    refine hK.out _ _ hT (fun hHeld => ?_)
    clear hK K hHeld
    try simp only [Act.put, List.setIfInBounds_toArray, List.set_cons_zero, List.set_cons_succ]
    refine wpAnyH_more (S' := fun w' => (LS0 bl lb p w' ∧ LC b2 o2 e w')) (fun _ h => h.1) _ _ _ _ ?_
    have hS2 : (LS0 bl lb p W2 ∧ LC b2 o2 e W2) := ⟨hT, HR.out.cells⟩
    clear hT st HR hS1 HB1 fB1
    refine wpAnyH_take (i := 8) (v := ?_) (by simp only [List.getElem?_toArray, List.getElem?_cons_zero, List.getElem?_cons_succ]; rfl) (by kernel_rfl) (by kernel_rfl) (by kernel_rfl) (fun _ _ _ h => h) (Or.inl ⟨by rfl, ?_⟩) (by assumption) ?_
    rotate_left
    ·(intro w hSw; (try dsimp only at hSw); go_simp <;> with_reducible rfl)
    try simp only [Act.put, List.setIfInBounds_toArray, List.set_cons_zero, List.set_cons_succ]
    refine wpAnyH_take (i := 9) (v := ?_) (by simp only [List.getElem?_toArray, List.getElem?_cons_zero, List.getElem?_cons_succ]; rfl) (by kernel_rfl) (by kernel_rfl) (by kernel_rfl) (fun _ _ _ h => h) (Or.inl ⟨by rfl, ?_⟩) (by assumption) ?_
    rotate_left
    ·(intro w hSw; (try dsimp only at hSw); go_simp <;> with_reducible rfl)
    try simp only [Act.put, List.setIfInBounds_toArray, List.set_cons_zero, List.set_cons_succ]
    refine wpAnyH_ready (rs := [17, 20]) (by kernel_rfl) (by simp) ?_
    refine (AllReadyH.cons (by simp only [List.getElem?_toArray, List.getElem?_cons_zero, List.getElem?_cons_succ]; rfl) (fun K hK => ?_) (AllReadyH.cons (by simp only [List.getElem?_toArray, List.getElem?_cons_zero, List.getElem?_cons_succ]; rfl) (fun K hK => ?_) AllReadyH.nil))
    ·go_simp
     go_at_call 102
     refine (HQ.out _ HB2.out).mono ?_
     rintro e' W3 ⟨b3, o3, cz3, rfl, HR⟩
     have st : Stp W2 W3 none := Stp.call HR.out.bel
     have hT : (LS0 bl lb p W3 ∧ LC b2 o2 e W3) := ⟨LS0.stp hS2.1 st (by simp) (by simp), LC.stp hS2.2 st (by simp)⟩
     have HB3 : Hid (Below w1.heap.size w1 W3) := st.bel w1 HB2.out (fun b h => by cases h)
     have fB3 : Hid (Bz w1 W3 bb) := fB2.out.stp st (by simp)
     have n3b : b3 ≠ bb := by have h1 := fB2.out.lt; have h2 := HR.out.new; omega
     refine hK.out _ _ hT (fun hHeld => ?_)
     clear hK K hHeld
     try simp only [Act.put, List.setIfInBounds_toArray, List.set_cons_zero, List.set_cons_succ]
     refine wpAnyH_more (S' := fun w' => ((LS0 bl lb p w' ∧ LC b2 o2 e w') ∧ LC b3 o3 f w')) (fun _ h => h.1) _ _ _ _ ?_
     have hS3 : ((LS0 bl lb p W3 ∧ LC b2 o2 e W3) ∧ LC b3 o3 f W3) := ⟨hT, HR.out.cells⟩
     clear hT st HR hS2 HB2 fB2
     refine wpAnyH_take (i := 18) (v := ?_) (by simp only [List.getElem?_toArray, List.getElem?_cons_zero, List.getElem?_cons_succ]; rfl) (by kernel_rfl) (by kernel_rfl) (by kernel_rfl) (fun _ _ _ h => h) (Or.inl ⟨by rfl, ?_⟩) (by assumption) ?_
     rotate_left
     ·(intro w hSw; (try dsimp only at hSw); go_simp <;> with_reducible rfl)
     try simp only [Act.put, List.setIfInBounds_toArray, List.set_cons_zero, List.set_cons_succ]
     refine wpAnyH_take (i := 19) (v := ?_) (by simp only [List.getElem?_toArray, List.getElem?_cons_zero, List.getElem?_cons_succ]; rfl) (by kernel_rfl) (by kernel_rfl) (by kernel_rfl) (fun _ _ _ h => h) (Or.inl ⟨by rfl, ?_⟩) (by assumption) ?_
     rotate_left
     ·(intro w hSw; (try dsimp only at hSw); go_simp <;> with_reducible rfl)
     try simp only [Act.put, List.setIfInBounds_toArray, List.set_cons_zero, List.set_cons_succ]
     refine wpAnyH_ready (rs := [20]) (by kernel_rfl) (by simp) ?_
     refine (AllReadyH.cons (by simp only [List.getElem?_toArray, List.getElem?_cons_zero, List.getElem?_cons_succ]; rfl) (fun K hK => ?_) AllReadyH.nil)
     ·go_simp
      have st : Stp W3 (W3.alloc (.cells #[.int .u8 0, .string ⟨#[]⟩, .int .i64 0, .int .i64 0, .int .i64 0] 69)) none := Stp.alloc _ _
      have hT : ((LS0 bl lb p (W3.alloc (.cells #[.int .u8 0, .string ⟨#[]⟩, .int .i64 0, .int .i64 0, .int .i64 0] 69)) ∧ LC b2 o2 e (W3.alloc (.cells #[.int .u8 0, .string ⟨#[]⟩, .int .i64 0, .int .i64 0, .int .i64 0] 69))) ∧ LC b3 o3 f (W3.alloc (.cells #[.int .u8 0, .string ⟨#[]⟩, .int .i64 0, .int .i64 0, .int .i64 0] 69))) := ⟨⟨LS0.stp hS3.1.1 st (by simp) (by simp), LC.stp hS3.1.2 st (by simp)⟩, LC.stp hS3.2 st (by simp)⟩
      have HB4 : Hid (Below w1.heap.size w1 (W3.alloc (.cells #[.int .u8 0, .string ⟨#[]⟩, .int .i64 0, .int .i64 0, .int .i64 0] 69))) := st.bel w1 HB3.out (fun b h => by cases h)
      have fB4 : Hid (Bz w1 (W3.alloc (.cells #[.int .u8 0, .string ⟨#[]⟩, .int .i64 0, .int .i64 0, .int .i64 0] 69)) bb) := fB3.out.stp st (by simp)
      have nab : bb ≠ W3.heap.size := by have h1 := fB3.out.lt; omega
      have fA4 : Hid (Bz w1 (W3.alloc (.cells #[.int .u8 0, .string ⟨#[]⟩, .int .i64 0, .int .i64 0, .int .i64 0] 69)) W3.heap.size) := Bz.new HB3.out
      have n2a : b2 ≠ W3.heap.size := by have h1 := LC.lt (hS3.1.2); omega
      have n3a : b3 ≠ W3.heap.size := by have h1 := LC.lt (hS3.2); omega
      refine hK.out _ _ hT (fun hHeld => ?_)
      clear hK K hHeld st
      try simp only [Act.put, List.setIfInBounds_toArray, List.set_cons_zero, List.set_cons_succ]
      generalize W3.alloc (.cells #[.int .u8 0, .string ⟨#[]⟩, .int .i64 0, .int .i64 0, .int .i64 0] 69) = W4 at hT HB4 fA4 fB4 ⊢
      generalize W3.heap.size = ba at fA4 nab n2a n3a ⊢
      have hS4 := hT
      clear hT hS3 HB3 fB3
      refine wpAnyH_ready (rs := [22]) (by kernel_rfl) (by simp) ?_
      refine (AllReadyH.cons (by simp only [List.getElem?_toArray, List.getElem?_cons_zero, List.getElem?_cons_succ]; rfl) (fun K hK => ?_) AllReadyH.nil)
      ·obtain ⟨z0, z1, z2, z3, z4, z5⟩ := z_cells fA4.out.1
       have z6 := z5 0
       have z7 := z5 1
       have z8 := z5 2
       have z9 := z5 3
       have z10 := z5 4
       clear z5
       go_simp
       clear z0 z1 z2 z3 z4 z6 z7 z8 z9 z10
       have st := Stp.store W4 ba e
       have fA5 : Hid (Bc w1 _ ba e) := fA4.out.fill e
       unfold fill5 at st fA5
       generalize (((((W4.setCell ⟨ba, 0, none⟩ (.int .u8 e.k)).setCell ⟨ba, 1, none⟩ (.string e.t)).setCell ⟨ba, 2, none⟩ (.int .i64 e.n)).setCell ⟨ba, 3, none⟩ (.int .i64 e.vn)).setCell ⟨ba, 4, none⟩ (.int .i64 e.vk)) = W5 at st fA5 ⊢
       have hT : ((LS0 bl lb p W5 ∧ LC b2 o2 e W5) ∧ LC b3 o3 f W5) := ⟨⟨LS0.stp hS4.1.1 st (fun h => by cases h; have := fA4.out.2; omega) (fun h => by cases h; have := fA4.out.2; omega), LC.stp hS4.1.2 st (fun h => n2a (Option.some.inj h).symm)⟩, LC.stp hS4.2 st (fun h => n3a (Option.some.inj h).symm)⟩
       have HB5 : Hid (Below w1.heap.size w1 W5) := st.bel w1 HB4.out (fun b h => by cases h; exact fA4.out.2)
       have fB5 : Hid (Bz w1 W5 bb) := fB4.out.stp st (fun h => by have h1 := Option.some.inj h; omega)
       refine hK.out _ _ hT (fun hHeld => ?_)
       clear hK K hHeld st
       try simp only [Act.put, List.setIfInBounds_toArray, List.set_cons_zero, List.set_cons_succ]
       have hS5 := hT
       clear hT hS4 HB4 fA4 fB4
       refine wpAnyH_ready (rs := [23]) (by kernel_rfl) (by simp) ?_
       refine (AllReadyH.cons (by simp only [List.getElem?_toArray, List.getElem?_cons_zero, List.getElem?_cons_succ]; rfl) (fun K hK => ?_) AllReadyH.nil)
       ·obtain ⟨z0, z1, z2, z3, z4, z5⟩ := z_cells fB5.out.1
        have z6 := z5 0
        have z7 := z5 1
        have z8 := z5 2
        have z9 := z5 3
        have z10 := z5 4
        clear z5
        go_simp
        clear z0 z1 z2 z3 z4 z6 z7 z8 z9 z10
        have st := Stp.store W5 bb f
        have fB6 : Hid (Bc w1 _ bb f) := fB5.out.fill f
        unfold fill5 at st fB6
        generalize (((((W5.setCell ⟨bb, 0, none⟩ (.int .u8 f.k)).setCell ⟨bb, 1, none⟩ (.string f.t)).setCell ⟨bb, 2, none⟩ (.int .i64 f.n)).setCell ⟨bb, 3, none⟩ (.int .i64 f.vn)).setCell ⟨bb, 4, none⟩ (.int .i64 f.vk)) = W6 at st fB6 ⊢
        have hT : ((LS0 bl lb p W6 ∧ LC b2 o2 e W6) ∧ LC b3 o3 f W6) := ⟨⟨LS0.stp hS5.1.1 st (fun h => by cases h; have := fB5.out.2; omega) (fun h => by cases h; have := fB5.out.2; omega), LC.stp hS5.1.2 st (fun h => n2b (Option.some.inj h).symm)⟩, LC.stp hS5.2 st (fun h => n3b (Option.some.inj h).symm)⟩
        have HB6 : Hid (Below w1.heap.size w1 W6) := st.bel w1 HB5.out (fun b h => by cases h; exact fB5.out.2)
        have fA6 : Hid (Bc w1 W6 ba e) := fA5.out.stp st (fun h => by have h1 := Option.some.inj h; omega)
        refine hK.out _ _ hT (fun hHeld => ?_)
        clear hK K hHeld st
        try simp only [Act.put, List.setIfInBounds_toArray, List.set_cons_zero, List.set_cons_succ]
        have hS6 := hT
        clear hT hS5 HB5 fA5 fB5
        refine wpAnyH_done (by kernel_rfl) ?_ _
        refine NoPanic.normal ?_
        go_wp2_with fail
        go_meet
        case rel => exact ⟨ba, bb, rfl, rfl, fA6.out, fB6.out, HB6.out⟩
    ·go_simp
     have st : Stp W2 (W2.alloc (.cells #[.int .u8 0, .string ⟨#[]⟩, .int .i64 0, .int .i64 0, .int .i64 0] 69)) none := Stp.alloc _ _
     have hT : (LS0 bl lb p (W2.alloc (.cells #[.int .u8 0, .string ⟨#[]⟩, .int .i64 0, .int .i64 0, .int .i64 0] 69)) ∧ LC b2 o2 e (W2.alloc (.cells #[.int .u8 0, .string ⟨#[]⟩, .int .i64 0, .int .i64 0, .int .i64 0] 69))) := ⟨LS0.stp hS2.1 st (by simp) (by simp), LC.stp hS2.2 st (by simp)⟩
     have HB3 : Hid (Below w1.heap.size w1 (W2.alloc (.cells #[.int .u8 0, .string ⟨#[]⟩, .int .i64 0, .int .i64 0, .int .i64 0] 69))) := st.bel w1 HB2.out (fun b h => by cases h)
     have fB3 : Hid (Bz w1 (W2.alloc (.cells #[.int .u8 0, .string ⟨#[]⟩, .int .i64 0, .int .i64 0, .int .i64 0] 69)) bb) := fB2.out.stp st (by simp)
     have nab : bb ≠ W2.heap.size := by have h1 := fB2.out.lt; omega
     have fA3 : Hid (Bz w1 (W2.alloc (.cells #[.int .u8 0, .string ⟨#[]⟩, .int .i64 0, .int .i64 0, .int .i64 0] 69)) W2.heap.size) := Bz.new HB2.out
     have n2a : b2 ≠ W2.heap.size := by have h1 := LC.lt (hS2.2); omega
     refine hK.out _ _ hT (fun hHeld => ?_)
     clear hK K hHeld st
     try simp only [Act.put, List.setIfInBounds_toArray, List.set_cons_zero, List.set_cons_succ]
     generalize W2.alloc (.cells #[.int .u8 0, .string ⟨#[]⟩, .int .i64 0, .int .i64 0, .int .i64 0] 69) = W3 at hT HB3 fA3 fB3 ⊢
     generalize W2.heap.size = ba at fA3 nab n2a ⊢
     have hS3 := hT
     clear hT hS2 HB2 fB2
     refine wpAnyH_ready (rs := [17]) (by kernel_rfl) (by simp) ?_
     refine (AllReadyH.cons (by simp only [List.getElem?_toArray, List.getElem?_cons_zero, List.getElem?_cons_succ]; rfl) (fun K hK => ?_) AllReadyH.nil)
     ·go_simp
      go_at_call 102
      refine (HQ.out _ HB3.out).mono ?_
      rintro e' W4 ⟨b3, o3, cz3, rfl, HR⟩
      have st : Stp W3 W4 none := Stp.call HR.out.bel
      have hT : (LS0 bl lb p W4 ∧ LC b2 o2 e W4) := ⟨LS0.stp hS3.1 st (by simp) (by simp), LC.stp hS3.2 st (by simp)⟩
      have HB4 : Hid (Below w1.heap.size w1 W4) := st.bel w1 HB3.out (fun b h => by cases h)
      have fA4 : Hid (Bz w1 W4 ba) := fA3.out.stp st (by simp)
      have n3a : b3 ≠ ba := by have h1 := fA3.out.lt; have h2 := HR.out.new; omega
      have fB4 : Hid (Bz w1 W4 bb) := fB3.out.stp st (by simp)
      have n3b : b3 ≠ bb := by have h1 := fB3.out.lt; have h2 := HR.out.new; omega
      refine hK.out _ _ hT (fun hHeld => ?_)
      clear hK K hHeld
      try simp only [Act.put, List.setIfInBounds_toArray, List.set_cons_zero, List.set_cons_succ]
      refine wpAnyH_more (S' := fun w' => ((LS0 bl lb p w' ∧ LC b2 o2 e w') ∧ LC b3 o3 f w')) (fun _ h => h.1) _ _ _ _ ?_
      have hS4 : ((LS0 bl lb p W4 ∧ LC b2 o2 e W4) ∧ LC b3 o3 f W4) := ⟨hT, HR.out.cells⟩
      clear hT st HR hS3 HB3 fA3 fB3
      refine wpAnyH_take (i := 18) (v := ?_) (by simp only [List.getElem?_toArray, List.getElem?_cons_zero, List.getElem?_cons_succ]; rfl) (by kernel_rfl) (by kernel_rfl) (by kernel_rfl) (fun _ _ _ h => h) (Or.inl ⟨by rfl, ?_⟩) (by assumption) ?_
      rotate_left
      ·(intro w hSw; (try dsimp only at hSw); go_simp <;> with_reducible rfl)
      try simp only [Act.put, List.setIfInBounds_toArray, List.set_cons_zero, List.set_cons_succ]
      refine wpAnyH_take (i := 19) (v := ?_) (by simp only [List.getElem?_toArray, List.getElem?_cons_zero, List.getElem?_cons_succ]; rfl) (by kernel_rfl) (by kernel_rfl) (by kernel_rfl) (fun _ _ _ h => h) (Or.inl ⟨by rfl, ?_⟩) (by assumption) ?_
      rotate_left
      ·(intro w hSw; (try dsimp only at hSw); go_simp <;> with_reducible rfl)
      try simp only [Act.put, List.setIfInBounds_toArray, List.set_cons_zero, List.set_cons_succ]
      refine wpAnyH_ready (rs := [22]) (by kernel_rfl) (by simp) ?_
      refine (AllReadyH.cons (by simp only [List.getElem?_toArray, List.getElem?_cons_zero, List.getElem?_cons_succ]; rfl) (fun K hK => ?_) AllReadyH.nil)
      ·obtain ⟨z0, z1, z2, z3, z4, z5⟩ := z_cells fA4.out.1
       have z6 := z5 0
       have z7 := z5 1
       have z8 := z5 2
       have z9 := z5 3
       have z10 := z5 4
       clear z5
       go_simp
       clear z0 z1 z2 z3 z4 z6 z7 z8 z9 z10
       have st := Stp.store W4 ba e
       have fA5 : Hid (Bc w1 _ ba e) := fA4.out.fill e
       unfold fill5 at st fA5
       generalize (((((W4.setCell ⟨ba, 0, none⟩ (.int .u8 e.k)).setCell ⟨ba, 1, none⟩ (.string e.t)).setCell ⟨ba, 2, none⟩ (.int .i64 e.n)).setCell ⟨ba, 3, none⟩ (.int .i64 e.vn)).setCell ⟨ba, 4, none⟩ (.int .i64 e.vk)) = W5 at st fA5 ⊢
       have hT : ((LS0 bl lb p W5 ∧ LC b2 o2 e W5) ∧ LC b3 o3 f W5) := ⟨⟨LS0.stp hS4.1.1 st (fun h => by cases h; have := fA4.out.2; omega) (fun h => by cases h; have := fA4.out.2; omega), LC.stp hS4.1.2 st (fun h => n2a (Option.some.inj h).symm)⟩, LC.stp hS4.2 st (fun h => n3a (Option.some.inj h).symm)⟩
       have HB5 : Hid (Below w1.heap.size w1 W5) := st.bel w1 HB4.out (fun b h => by cases h; exact fA4.out.2)
       have fB5 : Hid (Bz w1 W5 bb) := fB4.out.stp st (fun h => by have h1 := Option.some.inj h; omega)
       refine hK.out _ _ hT (fun hHeld => ?_)
       clear hK K hHeld st
       try simp only [Act.put, List.setIfInBounds_toArray, List.set_cons_zero, List.set_cons_succ]
       have hS5 := hT
       clear hT hS4 HB4 fA4 fB4
       refine wpAnyH_ready (rs := [23]) (by kernel_rfl) (by simp) ?_
       refine (AllReadyH.cons (by simp only [List.getElem?_toArray, List.getElem?_cons_zero, List.getElem?_cons_succ]; rfl) (fun K hK => ?_) AllReadyH.nil)
       ·obtain ⟨z0, z1, z2, z3, z4, z5⟩ := z_cells fB5.out.1
        have z6 := z5 0
        have z7 := z5 1
        have z8 := z5 2
        have z9 := z5 3
        have z10 := z5 4
        clear z5
        go_simp
        clear z0 z1 z2 z3 z4 z6 z7 z8 z9 z10
        have st := Stp.store W5 bb f
        have fB6 : Hid (Bc w1 _ bb f) := fB5.out.fill f
        unfold fill5 at st fB6
        generalize (((((W5.setCell ⟨bb, 0, none⟩ (.int .u8 f.k)).setCell ⟨bb, 1, none⟩ (.string f.t)).setCell ⟨bb, 2, none⟩ (.int .i64 f.n)).setCell ⟨bb, 3, none⟩ (.int .i64 f.vn)).setCell ⟨bb, 4, none⟩ (.int .i64 f.vk)) = W6 at st fB6 ⊢
        have hT : ((LS0 bl lb p W6 ∧ LC b2 o2 e W6) ∧ LC b3 o3 f W6) := ⟨⟨LS0.stp hS5.1.1 st (fun h => by cases h; have := fB5.out.2; omega) (fun h => by cases h; have := fB5.out.2; omega), LC.stp hS5.1.2 st (fun h => n2b (Option.some.inj h).symm)⟩, LC.stp hS5.2 st (fun h => n3b (Option.some.inj h).symm)⟩
        have HB6 : Hid (Below w1.heap.size w1 W6) := st.bel w1 HB5.out (fun b h => by cases h; exact fB5.out.2)
        have fA6 : Hid (Bc w1 W6 ba e) := fA5.out.stp st (fun h => by have h1 := Option.some.inj h; omega)
        refine hK.out _ _ hT (fun hHeld => ?_)
        clear hK K hHeld st
        try simp only [Act.put, List.setIfInBounds_toArray, List.set_cons_zero, List.set_cons_succ]
        have hS6 := hT
        clear hT hS5 HB5 fA5 fB5
        refine wpAnyH_done (by kernel_rfl) ?_ _
        refine NoPanic.normal ?_
        go_wp2_with fail
        go_meet
        case rel => exact ⟨ba, bb, rfl, rfl, fA6.out, fB6.out, HB6.out⟩
   ·go_simp
    have st : Stp W1 (W1.alloc (.cells #[.int .u8 0, .string ⟨#[]⟩, .int .i64 0, .int .i64 0, .int .i64 0] 69)) none := Stp.alloc _ _
    have hT : LS0 bl lb p (W1.alloc (.cells #[.int .u8 0, .string ⟨#[]⟩, .int .i64 0, .int .i64 0, .int .i64 0] 69)) := LS0.stp hS1 st (by simp) (by simp)
    have HB2 : Hid (Below w1.heap.size w1 (W1.alloc (.cells #[.int .u8 0, .string ⟨#[]⟩, .int .i64 0, .int .i64 0, .int .i64 0] 69))) := st.bel w1 HB1.out (fun b h => by cases h)
    have fB2 : Hid (Bz w1 (W1.alloc (.cells #[.int .u8 0, .string ⟨#[]⟩, .int .i64 0, .int .i64 0, .int .i64 0] 69)) bb) := fB1.out.stp st (by simp)
    have nab : bb ≠ W1.heap.size := by have h1 := fB1.out.lt; omega
    have fA2 : Hid (Bz w1 (W1.alloc (.cells #[.int .u8 0, .string ⟨#[]⟩, .int .i64 0, .int .i64 0, .int .i64 0] 69)) W1.heap.size) := Bz.new HB1.out
    refine hK.out _ _ hT (fun hHeld => ?_)
    clear hK K hHeld st
    try simp only [Act.put, List.setIfInBounds_toArray, List.set_cons_zero, List.set_cons_succ]
    generalize W1.alloc (.cells #[.int .u8 0, .string ⟨#[]⟩, .int .i64 0, .int .i64 0, .int .i64 0] 69) = W2 at hT HB2 fA2 fB2 ⊢
    generalize W1.heap.size = ba at fA2 nab ⊢
    have hS2 := hT
    clear hT hS1 HB1 fB1
    refine wpAnyH_ready (rs := [7]) (by kernel_rfl) (by simp) ?_
    refine (AllReadyH.cons (by simp only [List.getElem?_toArray, List.getElem?_cons_zero, List.getElem?_cons_succ]; rfl) (fun K hK => ?_) AllReadyH.nil)
    ·go_simp
     go_at_call 102
     refine (HA.out _ HB2.out).mono ?_
     rintro e' W3 ⟨b2, o2, cz2, rfl, HR⟩
     have st : Stp W2 W3 none := Stp.call HR.out.bel
     have hT : LS0 bl lb p W3 := LS0.stp hS2 st (by simp) (by simp)
     have HB3 : Hid (Below w1.heap.size w1 W3) := st.bel w1 HB2.out (fun b h => by cases h)
     have fA3 : Hid (Bz w1 W3 ba) := fA2.out.stp st (by simp)
     have n2a : b2 ≠ ba := by have h1 := fA2.out.lt; have h2 := HR.out.new; omega
     have fB3 : Hid (Bz w1 W3 bb) := fB2.out.stp st (by simp)
     have n2b : b2 ≠ bb := by have h1 := fB2.out.lt; have h2 := HR.out.new; omega
     refine hK.out _ _ hT (fun hHeld => ?_)
     clear hK K hHeld
     try simp only [Act.put, List.setIfInBounds_toArray, List.set_cons_zero, List.set_cons_succ]
     refine wpAnyH_more (S' := fun w' => (LS0 bl lb p w' ∧ LC b2 o2 e w')) (fun _ h => h.1) _ _ _ _ ?_
     have hS3 : (LS0 bl lb p W3 ∧ LC b2 o2 e W3) := ⟨hT, HR.out.cells⟩
     clear hT st HR hS2 HB2 fA2 fB2
     refine wpAnyH_take (i := 8) (v := ?_) (by simp only [List.getElem?_toArray, List.getElem?_cons_zero, List.getElem?_cons_succ]; rfl) (by kernel_rfl) (by kernel_rfl) (by kernel_rfl) (fun _ _ _ h => h) (Or.inl ⟨by rfl, ?_⟩) (by assumption) ?_
     rotate_left
     ·(intro w hSw; (try dsimp only at hSw); go_simp <;> with_reducible rfl)
     try simp only [Act.put, List.setIfInBounds_toArray, List.set_cons_zero, List.set_cons_succ]
     refine wpAnyH_take (i := 9) (v := ?_) (by simp only [List.getElem?_toArray, List.getElem?_cons_zero, List.getElem?_cons_succ]; rfl) (by kernel_rfl) (by kernel_rfl) (by kernel_rfl) (fun _ _ _ h => h) (Or.inl ⟨by rfl, ?_⟩) (by assumption) ?_
     rotate_left
     ·(intro w hSw; (try dsimp only at hSw); go_simp <;> with_reducible rfl)
     try simp only [Act.put, List.setIfInBounds_toArray, List.set_cons_zero, List.set_cons_succ]
     refine wpAnyH_ready (rs := [17]) (by kernel_rfl) (by simp) ?_
     refine (AllReadyH.cons (by simp only [List.getElem?_toArray, List.getElem?_cons_zero, List.getElem?_cons_succ]; rfl) (fun K hK => ?_) AllReadyH.nil)
     ·go_simp
      go_at_call 102
      refine (HQ.out _ HB3.out).mono ?_
      rintro e' W4 ⟨b3, o3, cz3, rfl, HR⟩
      have st : Stp W3 W4 none := Stp.call HR.out.bel
      have hT : (LS0 bl lb p W4 ∧ LC b2 o2 e W4) := ⟨LS0.stp hS3.1 st (by simp) (by simp), LC.stp hS3.2 st (by simp)⟩
      have HB4 : Hid (Below w1.heap.size w1 W4) := st.bel w1 HB3.out (fun b h => by cases h)
      have fA4 : Hid (Bz w1 W4 ba) := fA3.out.stp st (by simp)
      have n3a : b3 ≠ ba := by have h1 := fA3.out.lt; have h2 := HR.out.new; omega
      have fB4 : Hid (Bz w1 W4 bb) := fB3.out.stp st (by simp)
      have n3b : b3 ≠ bb := by have h1 := fB3.out.lt; have h2 := HR.out.new; omega
      refine hK.out _ _ hT (fun hHeld => ?_)
      clear hK K hHeld
      try simp only [Act.put, List.setIfInBounds_toArray, List.set_cons_zero, List.set_cons_succ]
      refine wpAnyH_more (S' := fun w' => ((LS0 bl lb p w' ∧ LC b2 o2 e w') ∧ LC b3 o3 f w')) (fun _ h => h.1) _ _ _ _ ?_
      have hS4 : ((LS0 bl lb p W4 ∧ LC b2 o2 e W4) ∧ LC b3 o3 f W4) := ⟨hT, HR.out.cells⟩
      clear hT st HR hS3 HB3 fA3 fB3
      refine wpAnyH_take (i := 18) (v := ?_) (by simp only [List.getElem?_toArray, List.getElem?_cons_zero, List.getElem?_cons_succ]; rfl) (by kernel_rfl) (by kernel_rfl) (by kernel_rfl) (fun _ _ _ h => h) (Or.inl ⟨by rfl, ?_⟩) (by assumption) ?_
      rotate_left
      ·(intro w hSw; (try dsimp only at hSw); go_simp <;> with_reducible rfl)
      try simp only [Act.put, List.setIfInBounds_toArray, List.set_cons_zero, List.set_cons_succ]
      refine wpAnyH_take (i := 19) (v := ?_) (by simp only [List.getElem?_toArray, List.getElem?_cons_zero, List.getElem?_cons_succ]; rfl) (by kernel_rfl) (by kernel_rfl) (by kernel_rfl) (fun _ _ _ h => h) (Or.inl ⟨by rfl, ?_⟩) (by assumption) ?_
      rotate_left
      ·(intro w hSw; (try dsimp only at hSw); go_simp <;> with_reducible rfl)
      try simp only [Act.put, List.setIfInBounds_toArray, List.set_cons_zero, List.set_cons_succ]
      refine wpAnyH_ready (rs := [22]) (by kernel_rfl) (by simp) ?_
      refine (AllReadyH.cons (by simp only [List.getElem?_toArray, List.getElem?_cons_zero, List.getElem?_cons_succ]; rfl) (fun K hK => ?_) AllReadyH.nil)
      ·obtain ⟨z0, z1, z2, z3, z4, z5⟩ := z_cells fA4.out.1
       have z6 := z5 0
       have z7 := z5 1
       have z8 := z5 2
       have z9 := z5 3
       have z10 := z5 4
       clear z5
       go_simp
       clear z0 z1 z2 z3 z4 z6 z7 z8 z9 z10
       have st := Stp.store W4 ba e
       have fA5 : Hid (Bc w1 _ ba e) := fA4.out.fill e
       unfold fill5 at st fA5
       generalize (((((W4.setCell ⟨ba, 0, none⟩ (.int .u8 e.k)).setCell ⟨ba, 1, none⟩ (.string e.t)).setCell ⟨ba, 2, none⟩ (.int .i64 e.n)).setCell ⟨ba, 3, none⟩ (.int .i64 e.vn)).setCell ⟨ba, 4, none⟩ (.int .i64 e.vk)) = W5 at st fA5 ⊢
       have hT : ((LS0 bl lb p W5 ∧ LC b2 o2 e W5) ∧ LC b3 o3 f W5) := ⟨⟨LS0.stp hS4.1.1 st (fun h => by cases h; have := fA4.out.2; omega) (fun h => by cases h; have := fA4.out.2; omega), LC.stp hS4.1.2 st (fun h => n2a (Option.some.inj h).symm)⟩, LC.stp hS4.2 st (fun h => n3a (Option.some.inj h).symm)⟩
       have HB5 : Hid (Below w1.heap.size w1 W5) := st.bel w1 HB4.out (fun b h => by cases h; exact fA4.out.2)
       have fB5 : Hid (Bz w1 W5 bb) := fB4.out.stp st (fun h => by have h1 := Option.some.inj h; omega)
       refine hK.out _ _ hT (fun hHeld => ?_)
       clear hK K hHeld st
       try simp only [Act.put, List.setIfInBounds_toArray, List.set_cons_zero, List.set_cons_succ]
       have hS5 := hT
       clear hT hS4 HB4 fA4 fB4
       refine wpAnyH_ready (rs := [23]) (by kernel_rfl) (by simp) ?_
       refine (AllReadyH.cons (by simp only [List.getElem?_toArray, List.getElem?_cons_zero, List.getElem?_cons_succ]; rfl) (fun K hK => ?_) AllReadyH.nil)
       ·obtain ⟨z0, z1, z2, z3, z4, z5⟩ := z_cells fB5.out.1
        have z6 := z5 0
        have z7 := z5 1
        have z8 := z5 2
        have z9 := z5 3
        have z10 := z5 4
        clear z5
        go_simp
        clear z0 z1 z2 z3 z4 z6 z7 z8 z9 z10
        have st := Stp.store W5 bb f
        have fB6 : Hid (Bc w1 _ bb f) := fB5.out.fill f
        unfold fill5 at st fB6
        generalize (((((W5.setCell ⟨bb, 0, none⟩ (.int .u8 f.k)).setCell ⟨bb, 1, none⟩ (.string f.t)).setCell ⟨bb, 2, none⟩ (.int .i64 f.n)).setCell ⟨bb, 3, none⟩ (.int .i64 f.vn)).setCell ⟨bb, 4, none⟩ (.int .i64 f.vk)) = W6 at st fB6 ⊢
        have hT : ((LS0 bl lb p W6 ∧ LC b2 o2 e W6) ∧ LC b3 o3 f W6) := ⟨⟨LS0.stp hS5.1.1 st (fun h => by cases h; have := fB5.out.2; omega) (fun h => by cases h; have := fB5.out.2; omega), LC.stp hS5.1.2 st (fun h => n2b (Option.some.inj h).symm)⟩, LC.stp hS5.2 st (fun h => n3b (Option.some.inj h).symm)⟩
        have HB6 : Hid (Below w1.heap.size w1 W6) := st.bel w1 HB5.out (fun b h => by cases h; exact fB5.out.2)
        have fA6 : Hid (Bc w1 W6 ba e) := fA5.out.stp st (fun h => by have h1 := Option.some.inj h; omega)
        refine hK.out _ _ hT (fun hHeld => ?_)
        clear hK K hHeld st
        try simp only [Act.put, List.setIfInBounds_toArray, List.set_cons_zero, List.set_cons_succ]
        have hS6 := hT
        clear hT hS5 HB5 fA5 fB5
        refine wpAnyH_done (by kernel_rfl) ?_ _
        refine NoPanic.normal ?_
        go_wp2_with fail
        go_meet
        case rel => exact ⟨ba, bb, rfl, rfl, fA6.out, fB6.out, HB6.out⟩
 case rest =>
  obtain ⟨ba, bb, rfl, rfl, HX⟩ := hcut
  obtain ⟨d0, d1, d2, d3, d4⟩ := HX.out.1.cells
  obtain ⟨f0, f1, f2, f3, f4⟩ := HX.out.2.1.cells
  have HBc : Hid (Below w.heap.size w wc) := H1.out.trans (HX.out.2.2.mono H1.out.size)
  obtain ⟨q0, qi, qf⟩ := HCs.out wc HBc.out
  have hE := fun W => eql60 e.k e.t e.n e.vn e.vk f.k f.t f.n f.vn f.vk W
  have e1 : eqCells e.k e.t e.n e.vn e.vk f.k f.t f.n f.vn f.vk = eqC e f := rfl
  rw [e1] at hE
  clear e1 hS0 HB0 HA HQ hge1 hge2 h0r h0s hi1 hi2 hi3 hc1 hc2 hcap h2 h5 hlbl1 hlb1 hsz hlbl hlb hbi1 hbf1 HTx
  by_cases hve : e.k = 4 ∧ eqC e f = true
  ·have HP : Hid (likPO k e f = (if k = 11 then 3 else 2) ∧ likPN k e f names = (if k = 11 then addN names (e.vn, e.vk) else names)) := by
    refine ⟨?_, ?_⟩
    ·unfold likPO; rw [if_pos hve]
    ·unfold likPN; rw [if_pos hve]
   obtain ⟨hv1, hv2⟩ := hve
   have hq : (e.k == 4) = true := by simpa using hv1
   rw [hv2] at hE
   clear hv1 hv2
   rcases hk with ⟨rfl, rfl, rfl⟩ | ⟨rfl, rfl, rfl⟩
   ·have HP : Hid (likPO 11 e f = 3 ∧ likPN 11 e f names = addN names (e.vn, e.vk)) := by show _ ∧ _; simpa using HP.out
    have H92 := K92 e hwe wc names K (hb.trans (HBc.out.mono hb.size)) (HLk.out wc HBc.out) (by omega)
    go_wp2_with fail
    refine H92.mono ?_
    rintro e3 w3 ⟨rfl, H3⟩
    clear H92
    go_wp2_with fail
    refine bodyPost_ret (v := .int .u8 3) (by simp [results, Tryz.results145, go_sem]) rfl ?_
    rw [HP.out.1, HP.out.2]
    exact ⟨rfl, K + 1, H3.out.1, by omega, H3.out.2.1, (KeepT.of_below HBc.out).trans H3.out.2.2⟩
   ·have HP : Hid (likPO 12 e f = 2 ∧ likPN 12 e f names = names) := by show _ ∧ _; simpa using HP.out
    have H123 := z123 e.vn e.vk wc
    go_wp2_with fail
    refine H123.mono ?_
    rintro e3 w3 ⟨rfl, H3⟩
    clear H123
    go_wp2_with fail
    refine bodyPost_ret (v := .int .u8 2) (by simp [results, Tryz.results145, go_sem]) rfl ?_
    rw [HP.out.1, HP.out.2]
    have b3 := HBc.out.trans (H3.out.mono HBc.out.size)
    obtain ⟨M, n, nv, g1, g2, g3⟩ := HLk.out w3 b3
    exact ⟨rfl, K, ⟨M, n, nv, g1, g2, g3⟩, by omega, hb.trans (b3.mono hb.size), KeepT.of_below b3⟩
  ·have HE0 : e.k = 4 → eqC e f = false := fun h => by
    cases h2 : eqC e f
    ·rfl
    ·exact absurd ⟨h, h2⟩ hve
   have HP : Hid (likPO k e f = (if e.k = 4 ∨ f.k = 4 then 3 else outO (likB k e f)) ∧ likPN k e f names = wN f (wN e names)) := by
    refine ⟨?_, ?_⟩
    ·unfold likPO; rw [if_neg hve]
    ·unfold likPN; rw [if_neg hve]
   clear hve
   rcases hk with ⟨rfl, rfl, rfl⟩ | ⟨rfl, rfl, rfl⟩
   ·have HLB : Hid (likB 11 e f = eqlB e f) := rfl
    have H5 := z121 e f wc
    rw [HLB.out] at HP
    generalize eqlB e f = Q at *
    clear HLB
    by_cases he4 : e.k = 4
    ·have hq : (e.k == 4) = true := by simpa using he4
     have HV : Hid (e.k = 4) := he4
     have hE' := hE
     rw [HE0 he4] at hE'
     clear hE HE0 he4
     go_wp2_with fail
     refine H5.mono ?_
     rintro e3 w2 ⟨rfl, H2⟩
     clear H5
     obtain ⟨g0, g1, g2, g3, g4⟩ := (HX.out.1.stp (Stp.call H2.out) (by simp)).cells
     obtain ⟨h0, h1, h2, h3, h4⟩ := (HX.out.2.1.stp (Stp.call H2.out) (by simp)).cells
     have HB2 : Hid (Below w.heap.size w w2) := HBc.out.trans (H2.out.mono HBc.out.size)
     clear H2 d0 d1 d2 d3 d4 f0 f1 f2 f3 f4 q0 qi qf
     go_wp2_with fail
     refine (z143 Q _).mono ?_
     rintro e3 w3 ⟨rfl, hw3⟩
     obtain rfl := hw3.symm
     obtain ⟨WR, hWR⟩ : ∃ WR, w2.alloc (.cells #[.int .u8 e.k, .string e.t, .int .i64 e.n, .int .i64 e.vn, .int .i64 e.vk, .int .u8 f.k, .string f.t, .int .i64 f.n, .int .i64 f.vn, .int .i64 f.vk] 69) = WR := ⟨_, rfl⟩
     have HWR : Hid (WR.heap[w2.heap.size]? = some (.cells #[.int .u8 e.k, .string e.t, .int .i64 e.n, .int .i64 e.vn, .int .i64 e.vk, .int .u8 f.k, .string f.t, .int .i64 f.n, .int .i64 f.vn, .int .i64 f.vk] 69 (0, 0)) ∧ Below w.heap.size w WR) := by rw [← hWR]; exact ⟨heap_alloc_new _ _, HB2.out.trans ((below_alloc _ _).mono HB2.out.size)⟩
     have HRc : Hid (∀ W, KeepT WR W → (W.cell? ⟨w2.heap.size, 0, none⟩ = some (.int .u8 e.k) ∧ W.cell? ⟨w2.heap.size, 1, none⟩ = some (.string e.t) ∧ W.cell? ⟨w2.heap.size, 2, none⟩ = some (.int .i64 e.n) ∧ W.cell? ⟨w2.heap.size, 3, none⟩ = some (.int .i64 e.vn) ∧ W.cell? ⟨w2.heap.size, 4, none⟩ = some (.int .i64 e.vk)) ∧ W.cell? ⟨w2.heap.size, 5, none⟩ = some (.int .u8 f.k) ∧ W.cell? ⟨w2.heap.size, 6, none⟩ = some (.string f.t) ∧ W.cell? ⟨w2.heap.size, 7, none⟩ = some (.int .i64 f.n) ∧ W.cell? ⟨w2.heap.size, 8, none⟩ = some (.int .i64 f.vn) ∧ W.cell? ⟨w2.heap.size, 9, none⟩ = some (.int .i64 f.vk)) := fun W h => by
      have hb := h.2 _ _ _ _ HWR.out.1 (by decide) (by decide)
      refine ⟨⟨?_, ?_, ?_, ?_, ?_⟩, ?_, ?_, ?_, ?_, ?_⟩ <;> rw [cell_of_row W _ _ _ 69 (0, 0) hb] <;> rfl
     obtain ⟨⟨r0, r1, r2, r3, r4⟩, _⟩ := HRc.out WR (KeepT.refl _)
     go_wp2_with fail
     refine wp_loop_rounds 3 ?_
     rw [rounds_succ]
     obtain ⟨X, hX⟩ : ∃ X, WR.alloc (.cells #[.int .u8 e.k, .string e.t, .int .i64 e.n, .int .i64 e.vn, .int .i64 e.vk] 69) = X := ⟨_, rfl⟩
     have HXb : Hid (Bc WR X WR.heap.size e ∧ Below WR.heap.size WR X ∧ Below w.heap.size w X) := by rw [← hX]; exact ⟨⟨heap_alloc_new _ _, Nat.le_refl _⟩, below_alloc _ _, HWR.out.2.trans ((below_alloc _ _).mono HWR.out.2.size)⟩
     obtain ⟨x0, x1, x2, x3, x4⟩ := HXb.out.1.cells
     obtain ⟨y0, _, _⟩ := HCs.out X HXb.out.2.2
     have H92 := K92 e hwe X names K (hb.trans (HXb.out.2.2.mono hb.size)) (HLk.out X HXb.out.2.2) (by omega)
     go_wp2_with fail
     refine H92.mono ?_
     rintro e3 w4 ⟨rfl, H4⟩
     clear H92
     have HS4 : Hid (Lk w4 w0.heap.size lb (.pointer p) B g (wN e names) (K + 1) ∧ Below w0.heap.size w0 w4 ∧ KeepT WR w4 ∧ KeepT w w4) := by
      have e1 : wN e names = addN names (e.vn, e.vk) := by unfold wN; rw [if_pos HV.out]
      rw [e1]
      exact ⟨H4.out.1, H4.out.2.1, (KeepT.of_below HXb.out.2.1).trans H4.out.2.2, (KeepT.of_below HXb.out.2.2).trans H4.out.2.2⟩
     clear H4
     go_wp2_with fail
     clear x0 x1 x2 x3 x4 y0 HXb hX r0 r1 r2 r3 r4
     obtain ⟨_, s0, s1, s2, s3, s4⟩ := HRc.out w4 HS4.out.2.2.1
     obtain ⟨Y, hY⟩ : ∃ Y, w4.alloc (.cells #[.int .u8 f.k, .string f.t, .int .i64 f.n, .int .i64 f.vn, .int .i64 f.vk] 69) = Y := ⟨_, rfl⟩
     have HYb : Hid (Bc w4 Y w4.heap.size f ∧ Below w4.heap.size w4 Y) := by rw [← hY]; exact ⟨⟨heap_alloc_new _ _, Nat.le_refl _⟩, below_alloc _ _⟩
     obtain ⟨y0, y1, y2, y3, y4⟩ := HYb.out.1.cells
     have HKY : Hid (KeepT w Y) := HS4.out.2.2.2.trans (KeepT.of_below HYb.out.2)
     have yl : Y.cell? ⟨bl, 0, none⟩ = some (pv lb) := cell0 (HKY.out.2 _ _ _ _ HBlk.out (by decide) (by decide))
     rw [rounds_succ]
     by_cases hf4 : f.k = 4
     ·have hqf : (f.k == 4) = true := by simpa using hf4
      have HPO : Hid (likPO 11 e f = 3 ∧ likPN 11 e f names = addN (wN e names) (f.vn, f.vk)) := by
       refine ⟨by rw [HP.out.1, if_pos (.inl HV.out)], ?_⟩
       rw [HP.out.2]
       show (if f.k = 4 then addN (wN e names) (f.vn, f.vk) else wN e names) = _
       rw [if_pos hf4]
      clear hf4
      have H92 := K92 f hwf Y (wN e names) (K + 1) (HS4.out.2.1.trans (HYb.out.2.mono HS4.out.2.1.size)) (HS4.out.1.below HYb.out.2) (by omega)
      go_wp2_with fail
      refine H92.mono ?_
      rintro e3 w5 ⟨rfl, H5⟩
      clear H92
      go_wp2_with fail
      rw [rounds_succ]
      go_wp2_with fail
      refine bodyPost_ret (v := .int .u8 3) (by simp [results, Tryz.results145, go_sem]) rfl ?_
      rw [HPO.out.1, HPO.out.2]
      exact ⟨rfl, K + 2, H5.out.1, Nat.le_refl _, H5.out.2.1, HKY.out.trans H5.out.2.2⟩
     ·have hqf : (f.k == 4) = false := by simpa using hf4
      have HPO : Hid (likPO 11 e f = 3 ∧ likPN 11 e f names = wN e names) := by
       refine ⟨by rw [HP.out.1, if_pos (.inl HV.out)], ?_⟩
       rw [HP.out.2]
       show (if f.k = 4 then addN (wN e names) (f.vn, f.vk) else wN e names) = _
       rw [if_neg hf4]
      clear hf4
      go_wp2_with fail
      rw [rounds_succ]
      go_wp2_with fail
      refine bodyPost_ret (v := .int .u8 3) (by simp [results, Tryz.results145, go_sem]) rfl ?_
      rw [HPO.out.1, HPO.out.2]
      obtain ⟨M, n, nv, g1, g2, g3⟩ := HS4.out.1.below HYb.out.2
      exact ⟨rfl, K + 2, ⟨M, n, nv, g1, Nat.le_succ_of_le g2, Nat.le_succ_of_le g3⟩, Nat.le_refl _, HS4.out.2.1.trans (HYb.out.2.mono HS4.out.2.1.size), HKY.out⟩
    ·have hq : (e.k == 4) = false := by simpa using he4
     have HV : Hid (¬ e.k = 4) := he4
     clear hE HE0 he4
     go_wp2_with fail
     refine H5.mono ?_
     rintro e3 w2 ⟨rfl, H2⟩
     clear H5
     obtain ⟨g0, g1, g2, g3, g4⟩ := (HX.out.1.stp (Stp.call H2.out) (by simp)).cells
     obtain ⟨h0, h1, h2, h3, h4⟩ := (HX.out.2.1.stp (Stp.call H2.out) (by simp)).cells
     have HB2 : Hid (Below w.heap.size w w2) := HBc.out.trans (H2.out.mono HBc.out.size)
     clear H2 d0 d1 d2 d3 d4 f0 f1 f2 f3 f4 q0 qi qf
     go_wp2_with fail
     refine (z143 Q _).mono ?_
     rintro e3 w3 ⟨rfl, hw3⟩
     obtain rfl := hw3.symm
     obtain ⟨WR, hWR⟩ : ∃ WR, w2.alloc (.cells #[.int .u8 e.k, .string e.t, .int .i64 e.n, .int .i64 e.vn, .int .i64 e.vk, .int .u8 f.k, .string f.t, .int .i64 f.n, .int .i64 f.vn, .int .i64 f.vk] 69) = WR := ⟨_, rfl⟩
     have HWR : Hid (WR.heap[w2.heap.size]? = some (.cells #[.int .u8 e.k, .string e.t, .int .i64 e.n, .int .i64 e.vn, .int .i64 e.vk, .int .u8 f.k, .string f.t, .int .i64 f.n, .int .i64 f.vn, .int .i64 f.vk] 69 (0, 0)) ∧ Below w.heap.size w WR) := by rw [← hWR]; exact ⟨heap_alloc_new _ _, HB2.out.trans ((below_alloc _ _).mono HB2.out.size)⟩
     have HRc : Hid (∀ W, KeepT WR W → (W.cell? ⟨w2.heap.size, 0, none⟩ = some (.int .u8 e.k) ∧ W.cell? ⟨w2.heap.size, 1, none⟩ = some (.string e.t) ∧ W.cell? ⟨w2.heap.size, 2, none⟩ = some (.int .i64 e.n) ∧ W.cell? ⟨w2.heap.size, 3, none⟩ = some (.int .i64 e.vn) ∧ W.cell? ⟨w2.heap.size, 4, none⟩ = some (.int .i64 e.vk)) ∧ W.cell? ⟨w2.heap.size, 5, none⟩ = some (.int .u8 f.k) ∧ W.cell? ⟨w2.heap.size, 6, none⟩ = some (.string f.t) ∧ W.cell? ⟨w2.heap.size, 7, none⟩ = some (.int .i64 f.n) ∧ W.cell? ⟨w2.heap.size, 8, none⟩ = some (.int .i64 f.vn) ∧ W.cell? ⟨w2.heap.size, 9, none⟩ = some (.int .i64 f.vk)) := fun W h => by
      have hb := h.2 _ _ _ _ HWR.out.1 (by decide) (by decide)
      refine ⟨⟨?_, ?_, ?_, ?_, ?_⟩, ?_, ?_, ?_, ?_, ?_⟩ <;> rw [cell_of_row W _ _ _ 69 (0, 0) hb] <;> rfl
     obtain ⟨⟨r0, r1, r2, r3, r4⟩, _⟩ := HRc.out WR (KeepT.refl _)
     go_wp2_with fail
     refine wp_loop_rounds 3 ?_
     rw [rounds_succ]
     obtain ⟨X, hX⟩ : ∃ X, WR.alloc (.cells #[.int .u8 e.k, .string e.t, .int .i64 e.n, .int .i64 e.vn, .int .i64 e.vk] 69) = X := ⟨_, rfl⟩
     have HXb : Hid (Bc WR X WR.heap.size e ∧ Below WR.heap.size WR X ∧ Below w.heap.size w X) := by rw [← hX]; exact ⟨⟨heap_alloc_new _ _, Nat.le_refl _⟩, below_alloc _ _, HWR.out.2.trans ((below_alloc _ _).mono HWR.out.2.size)⟩
     obtain ⟨x0, x1, x2, x3, x4⟩ := HXb.out.1.cells
     obtain ⟨y0, _, _⟩ := HCs.out X HXb.out.2.2
     have HS4 : Hid (Lk X w0.heap.size lb (.pointer p) B g (wN e names) (K + 1) ∧ Below w0.heap.size w0 X ∧ KeepT WR X ∧ KeepT w X) := by
      have e1 : wN e names = names := by unfold wN; rw [if_neg HV.out]
      rw [e1]
      obtain ⟨M, n, nv, g1, g2, g3⟩ := HLk.out X HXb.out.2.2
      exact ⟨⟨M, n, nv, g1, Nat.le_succ_of_le g2, Nat.le_succ_of_le g3⟩, hb.trans (HXb.out.2.2.mono hb.size), KeepT.of_below HXb.out.2.1, KeepT.of_below HXb.out.2.2⟩
     go_wp2_with fail
     obtain ⟨w4, hw4⟩ : ∃ w4, w4 = X := ⟨_, rfl⟩
     rw [← hw4] at HS4
     rw [← hw4]
     clear hw4
     clear x0 x1 x2 x3 x4 y0 HXb hX r0 r1 r2 r3 r4
     obtain ⟨_, s0, s1, s2, s3, s4⟩ := HRc.out w4 HS4.out.2.2.1
     obtain ⟨Y, hY⟩ : ∃ Y, w4.alloc (.cells #[.int .u8 f.k, .string f.t, .int .i64 f.n, .int .i64 f.vn, .int .i64 f.vk] 69) = Y := ⟨_, rfl⟩
     have HYb : Hid (Bc w4 Y w4.heap.size f ∧ Below w4.heap.size w4 Y) := by rw [← hY]; exact ⟨⟨heap_alloc_new _ _, Nat.le_refl _⟩, below_alloc _ _⟩
     obtain ⟨y0, y1, y2, y3, y4⟩ := HYb.out.1.cells
     have HKY : Hid (KeepT w Y) := HS4.out.2.2.2.trans (KeepT.of_below HYb.out.2)
     have yl : Y.cell? ⟨bl, 0, none⟩ = some (pv lb) := cell0 (HKY.out.2 _ _ _ _ HBlk.out (by decide) (by decide))
     rw [rounds_succ]
     by_cases hf4 : f.k = 4
     ·have hqf : (f.k == 4) = true := by simpa using hf4
      have HPO : Hid (likPO 11 e f = 3 ∧ likPN 11 e f names = addN (wN e names) (f.vn, f.vk)) := by
       refine ⟨by rw [HP.out.1, if_pos (.inr hf4)], ?_⟩
       rw [HP.out.2]
       show (if f.k = 4 then addN (wN e names) (f.vn, f.vk) else wN e names) = _
       rw [if_pos hf4]
      clear hf4
      have H92 := K92 f hwf Y (wN e names) (K + 1) (HS4.out.2.1.trans (HYb.out.2.mono HS4.out.2.1.size)) (HS4.out.1.below HYb.out.2) (by omega)
      go_wp2_with fail
      refine H92.mono ?_
      rintro e3 w5 ⟨rfl, H5⟩
      clear H92
      go_wp2_with fail
      rw [rounds_succ]
      go_wp2_with fail
      refine bodyPost_ret (v := .int .u8 3) (by simp [results, Tryz.results145, go_sem]) rfl ?_
      rw [HPO.out.1, HPO.out.2]
      exact ⟨rfl, K + 2, H5.out.1, Nat.le_refl _, H5.out.2.1, HKY.out.trans H5.out.2.2⟩
     ·have hqf : (f.k == 4) = false := by simpa using hf4
      have HPO : Hid (likPO 11 e f = (outO Q) ∧ likPN 11 e f names = wN e names) := by
       refine ⟨by rw [HP.out.1, if_neg (fun h => h.elim HV.out hf4)], ?_⟩
       rw [HP.out.2]
       show (if f.k = 4 then addN (wN e names) (f.vn, f.vk) else wN e names) = _
       rw [if_neg hf4]
      clear hf4
      go_wp2_with fail
      rw [rounds_succ]
      go_wp2_with fail
      refine bodyPost_ret (v := .int .u8 (outO Q)) (by simp [results, Tryz.results145, go_sem]) rfl ?_
      rw [HPO.out.1, HPO.out.2]
      obtain ⟨M, n, nv, g1, g2, g3⟩ := HS4.out.1.below HYb.out.2
      exact ⟨rfl, K + 2, ⟨M, n, nv, g1, Nat.le_succ_of_le g2, Nat.le_succ_of_le g3⟩, Nat.le_refl _, HS4.out.2.1.trans (HYb.out.2.mono HS4.out.2.1.size), HKY.out⟩
   ·have HLB : Hid (likB 12 e f = unlB e f) := rfl
    have H5 := z124 e f wc
    rw [HLB.out] at HP
    generalize unlB e f = Q at *
    clear HLB
    by_cases he4 : e.k = 4
    ·have hq : (e.k == 4) = true := by simpa using he4
     have HV : Hid (e.k = 4) := he4
     have hE' := hE
     rw [HE0 he4] at hE'
     clear hE HE0 he4
     go_wp2_with fail
     refine H5.mono ?_
     rintro e3 w2 ⟨rfl, H2⟩
     clear H5
     obtain ⟨g0, g1, g2, g3, g4⟩ := (HX.out.1.stp (Stp.call H2.out) (by simp)).cells
     obtain ⟨h0, h1, h2, h3, h4⟩ := (HX.out.2.1.stp (Stp.call H2.out) (by simp)).cells
     have HB2 : Hid (Below w.heap.size w w2) := HBc.out.trans (H2.out.mono HBc.out.size)
     clear H2 d0 d1 d2 d3 d4 f0 f1 f2 f3 f4 q0 qi qf
     go_wp2_with fail
     refine (z143 Q _).mono ?_
     rintro e3 w3 ⟨rfl, hw3⟩
     obtain rfl := hw3.symm
     obtain ⟨WR, hWR⟩ : ∃ WR, w2.alloc (.cells #[.int .u8 e.k, .string e.t, .int .i64 e.n, .int .i64 e.vn, .int .i64 e.vk, .int .u8 f.k, .string f.t, .int .i64 f.n, .int .i64 f.vn, .int .i64 f.vk] 69) = WR := ⟨_, rfl⟩
     have HWR : Hid (WR.heap[w2.heap.size]? = some (.cells #[.int .u8 e.k, .string e.t, .int .i64 e.n, .int .i64 e.vn, .int .i64 e.vk, .int .u8 f.k, .string f.t, .int .i64 f.n, .int .i64 f.vn, .int .i64 f.vk] 69 (0, 0)) ∧ Below w.heap.size w WR) := by rw [← hWR]; exact ⟨heap_alloc_new _ _, HB2.out.trans ((below_alloc _ _).mono HB2.out.size)⟩
     have HRc : Hid (∀ W, KeepT WR W → (W.cell? ⟨w2.heap.size, 0, none⟩ = some (.int .u8 e.k) ∧ W.cell? ⟨w2.heap.size, 1, none⟩ = some (.string e.t) ∧ W.cell? ⟨w2.heap.size, 2, none⟩ = some (.int .i64 e.n) ∧ W.cell? ⟨w2.heap.size, 3, none⟩ = some (.int .i64 e.vn) ∧ W.cell? ⟨w2.heap.size, 4, none⟩ = some (.int .i64 e.vk)) ∧ W.cell? ⟨w2.heap.size, 5, none⟩ = some (.int .u8 f.k) ∧ W.cell? ⟨w2.heap.size, 6, none⟩ = some (.string f.t) ∧ W.cell? ⟨w2.heap.size, 7, none⟩ = some (.int .i64 f.n) ∧ W.cell? ⟨w2.heap.size, 8, none⟩ = some (.int .i64 f.vn) ∧ W.cell? ⟨w2.heap.size, 9, none⟩ = some (.int .i64 f.vk)) := fun W h => by
      have hb := h.2 _ _ _ _ HWR.out.1 (by decide) (by decide)
      refine ⟨⟨?_, ?_, ?_, ?_, ?_⟩, ?_, ?_, ?_, ?_, ?_⟩ <;> rw [cell_of_row W _ _ _ 69 (0, 0) hb] <;> rfl
     obtain ⟨⟨r0, r1, r2, r3, r4⟩, _⟩ := HRc.out WR (KeepT.refl _)
     go_wp2_with fail
     refine wp_loop_rounds 3 ?_
     rw [rounds_succ]
     obtain ⟨X, hX⟩ : ∃ X, WR.alloc (.cells #[.int .u8 e.k, .string e.t, .int .i64 e.n, .int .i64 e.vn, .int .i64 e.vk] 69) = X := ⟨_, rfl⟩
     have HXb : Hid (Bc WR X WR.heap.size e ∧ Below WR.heap.size WR X ∧ Below w.heap.size w X) := by rw [← hX]; exact ⟨⟨heap_alloc_new _ _, Nat.le_refl _⟩, below_alloc _ _, HWR.out.2.trans ((below_alloc _ _).mono HWR.out.2.size)⟩
     obtain ⟨x0, x1, x2, x3, x4⟩ := HXb.out.1.cells
     obtain ⟨y0, _, _⟩ := HCs.out X HXb.out.2.2
     have H92 := K92 e hwe X names K (hb.trans (HXb.out.2.2.mono hb.size)) (HLk.out X HXb.out.2.2) (by omega)
     go_wp2_with fail
     refine H92.mono ?_
     rintro e3 w4 ⟨rfl, H4⟩
     clear H92
     have HS4 : Hid (Lk w4 w0.heap.size lb (.pointer p) B g (wN e names) (K + 1) ∧ Below w0.heap.size w0 w4 ∧ KeepT WR w4 ∧ KeepT w w4) := by
      have e1 : wN e names = addN names (e.vn, e.vk) := by unfold wN; rw [if_pos HV.out]
      rw [e1]
      exact ⟨H4.out.1, H4.out.2.1, (KeepT.of_below HXb.out.2.1).trans H4.out.2.2, (KeepT.of_below HXb.out.2.2).trans H4.out.2.2⟩
     clear H4
     go_wp2_with fail
     clear x0 x1 x2 x3 x4 y0 HXb hX r0 r1 r2 r3 r4
     obtain ⟨_, s0, s1, s2, s3, s4⟩ := HRc.out w4 HS4.out.2.2.1
     obtain ⟨Y, hY⟩ : ∃ Y, w4.alloc (.cells #[.int .u8 f.k, .string f.t, .int .i64 f.n, .int .i64 f.vn, .int .i64 f.vk] 69) = Y := ⟨_, rfl⟩
     have HYb : Hid (Bc w4 Y w4.heap.size f ∧ Below w4.heap.size w4 Y) := by rw [← hY]; exact ⟨⟨heap_alloc_new _ _, Nat.le_refl _⟩, below_alloc _ _⟩
     obtain ⟨y0, y1, y2, y3, y4⟩ := HYb.out.1.cells
     have HKY : Hid (KeepT w Y) := HS4.out.2.2.2.trans (KeepT.of_below HYb.out.2)
     have yl : Y.cell? ⟨bl, 0, none⟩ = some (pv lb) := cell0 (HKY.out.2 _ _ _ _ HBlk.out (by decide) (by decide))
     rw [rounds_succ]
     by_cases hf4 : f.k = 4
     ·have hqf : (f.k == 4) = true := by simpa using hf4
      have HPO : Hid (likPO 12 e f = 3 ∧ likPN 12 e f names = addN (wN e names) (f.vn, f.vk)) := by
       refine ⟨by rw [HP.out.1, if_pos (.inl HV.out)], ?_⟩
       rw [HP.out.2]
       show (if f.k = 4 then addN (wN e names) (f.vn, f.vk) else wN e names) = _
       rw [if_pos hf4]
      clear hf4
      have H92 := K92 f hwf Y (wN e names) (K + 1) (HS4.out.2.1.trans (HYb.out.2.mono HS4.out.2.1.size)) (HS4.out.1.below HYb.out.2) (by omega)
      go_wp2_with fail
      refine H92.mono ?_
      rintro e3 w5 ⟨rfl, H5⟩
      clear H92
      go_wp2_with fail
      rw [rounds_succ]
      go_wp2_with fail
      refine bodyPost_ret (v := .int .u8 3) (by simp [results, Tryz.results145, go_sem]) rfl ?_
      rw [HPO.out.1, HPO.out.2]
      exact ⟨rfl, K + 2, H5.out.1, Nat.le_refl _, H5.out.2.1, HKY.out.trans H5.out.2.2⟩
     ·have hqf : (f.k == 4) = false := by simpa using hf4
      have HPO : Hid (likPO 12 e f = 3 ∧ likPN 12 e f names = wN e names) := by
       refine ⟨by rw [HP.out.1, if_pos (.inl HV.out)], ?_⟩
       rw [HP.out.2]
       show (if f.k = 4 then addN (wN e names) (f.vn, f.vk) else wN e names) = _
       rw [if_neg hf4]
      clear hf4
      go_wp2_with fail
      rw [rounds_succ]
      go_wp2_with fail
      refine bodyPost_ret (v := .int .u8 3) (by simp [results, Tryz.results145, go_sem]) rfl ?_
      rw [HPO.out.1, HPO.out.2]
      obtain ⟨M, n, nv, g1, g2, g3⟩ := HS4.out.1.below HYb.out.2
      exact ⟨rfl, K + 2, ⟨M, n, nv, g1, Nat.le_succ_of_le g2, Nat.le_succ_of_le g3⟩, Nat.le_refl _, HS4.out.2.1.trans (HYb.out.2.mono HS4.out.2.1.size), HKY.out⟩
    ·have hq : (e.k == 4) = false := by simpa using he4
     have HV : Hid (¬ e.k = 4) := he4
     clear hE HE0 he4
     go_wp2_with fail
     refine H5.mono ?_
     rintro e3 w2 ⟨rfl, H2⟩
     clear H5
     obtain ⟨g0, g1, g2, g3, g4⟩ := (HX.out.1.stp (Stp.call H2.out) (by simp)).cells
     obtain ⟨h0, h1, h2, h3, h4⟩ := (HX.out.2.1.stp (Stp.call H2.out) (by simp)).cells
     have HB2 : Hid (Below w.heap.size w w2) := HBc.out.trans (H2.out.mono HBc.out.size)
     clear H2 d0 d1 d2 d3 d4 f0 f1 f2 f3 f4 q0 qi qf
     go_wp2_with fail
     refine (z143 Q _).mono ?_
     rintro e3 w3 ⟨rfl, hw3⟩
     obtain rfl := hw3.symm
     obtain ⟨WR, hWR⟩ : ∃ WR, w2.alloc (.cells #[.int .u8 e.k, .string e.t, .int .i64 e.n, .int .i64 e.vn, .int .i64 e.vk, .int .u8 f.k, .string f.t, .int .i64 f.n, .int .i64 f.vn, .int .i64 f.vk] 69) = WR := ⟨_, rfl⟩
     have HWR : Hid (WR.heap[w2.heap.size]? = some (.cells #[.int .u8 e.k, .string e.t, .int .i64 e.n, .int .i64 e.vn, .int .i64 e.vk, .int .u8 f.k, .string f.t, .int .i64 f.n, .int .i64 f.vn, .int .i64 f.vk] 69 (0, 0)) ∧ Below w.heap.size w WR) := by rw [← hWR]; exact ⟨heap_alloc_new _ _, HB2.out.trans ((below_alloc _ _).mono HB2.out.size)⟩
     have HRc : Hid (∀ W, KeepT WR W → (W.cell? ⟨w2.heap.size, 0, none⟩ = some (.int .u8 e.k) ∧ W.cell? ⟨w2.heap.size, 1, none⟩ = some (.string e.t) ∧ W.cell? ⟨w2.heap.size, 2, none⟩ = some (.int .i64 e.n) ∧ W.cell? ⟨w2.heap.size, 3, none⟩ = some (.int .i64 e.vn) ∧ W.cell? ⟨w2.heap.size, 4, none⟩ = some (.int .i64 e.vk)) ∧ W.cell? ⟨w2.heap.size, 5, none⟩ = some (.int .u8 f.k) ∧ W.cell? ⟨w2.heap.size, 6, none⟩ = some (.string f.t) ∧ W.cell? ⟨w2.heap.size, 7, none⟩ = some (.int .i64 f.n) ∧ W.cell? ⟨w2.heap.size, 8, none⟩ = some (.int .i64 f.vn) ∧ W.cell? ⟨w2.heap.size, 9, none⟩ = some (.int .i64 f.vk)) := fun W h => by
      have hb := h.2 _ _ _ _ HWR.out.1 (by decide) (by decide)
      refine ⟨⟨?_, ?_, ?_, ?_, ?_⟩, ?_, ?_, ?_, ?_, ?_⟩ <;> rw [cell_of_row W _ _ _ 69 (0, 0) hb] <;> rfl
     obtain ⟨⟨r0, r1, r2, r3, r4⟩, _⟩ := HRc.out WR (KeepT.refl _)
     go_wp2_with fail
     refine wp_loop_rounds 3 ?_
     rw [rounds_succ]
     obtain ⟨X, hX⟩ : ∃ X, WR.alloc (.cells #[.int .u8 e.k, .string e.t, .int .i64 e.n, .int .i64 e.vn, .int .i64 e.vk] 69) = X := ⟨_, rfl⟩
     have HXb : Hid (Bc WR X WR.heap.size e ∧ Below WR.heap.size WR X ∧ Below w.heap.size w X) := by rw [← hX]; exact ⟨⟨heap_alloc_new _ _, Nat.le_refl _⟩, below_alloc _ _, HWR.out.2.trans ((below_alloc _ _).mono HWR.out.2.size)⟩
     obtain ⟨x0, x1, x2, x3, x4⟩ := HXb.out.1.cells
     obtain ⟨y0, _, _⟩ := HCs.out X HXb.out.2.2
     have HS4 : Hid (Lk X w0.heap.size lb (.pointer p) B g (wN e names) (K + 1) ∧ Below w0.heap.size w0 X ∧ KeepT WR X ∧ KeepT w X) := by
      have e1 : wN e names = names := by unfold wN; rw [if_neg HV.out]
      rw [e1]
      obtain ⟨M, n, nv, g1, g2, g3⟩ := HLk.out X HXb.out.2.2
      exact ⟨⟨M, n, nv, g1, Nat.le_succ_of_le g2, Nat.le_succ_of_le g3⟩, hb.trans (HXb.out.2.2.mono hb.size), KeepT.of_below HXb.out.2.1, KeepT.of_below HXb.out.2.2⟩
     go_wp2_with fail
     obtain ⟨w4, hw4⟩ : ∃ w4, w4 = X := ⟨_, rfl⟩
     rw [← hw4] at HS4
     rw [← hw4]
     clear hw4
     clear x0 x1 x2 x3 x4 y0 HXb hX r0 r1 r2 r3 r4
     obtain ⟨_, s0, s1, s2, s3, s4⟩ := HRc.out w4 HS4.out.2.2.1
     obtain ⟨Y, hY⟩ : ∃ Y, w4.alloc (.cells #[.int .u8 f.k, .string f.t, .int .i64 f.n, .int .i64 f.vn, .int .i64 f.vk] 69) = Y := ⟨_, rfl⟩
     have HYb : Hid (Bc w4 Y w4.heap.size f ∧ Below w4.heap.size w4 Y) := by rw [← hY]; exact ⟨⟨heap_alloc_new _ _, Nat.le_refl _⟩, below_alloc _ _⟩
     obtain ⟨y0, y1, y2, y3, y4⟩ := HYb.out.1.cells
     have HKY : Hid (KeepT w Y) := HS4.out.2.2.2.trans (KeepT.of_below HYb.out.2)
     have yl : Y.cell? ⟨bl, 0, none⟩ = some (pv lb) := cell0 (HKY.out.2 _ _ _ _ HBlk.out (by decide) (by decide))
     rw [rounds_succ]
     by_cases hf4 : f.k = 4
     ·have hqf : (f.k == 4) = true := by simpa using hf4
      have HPO : Hid (likPO 12 e f = 3 ∧ likPN 12 e f names = addN (wN e names) (f.vn, f.vk)) := by
       refine ⟨by rw [HP.out.1, if_pos (.inr hf4)], ?_⟩
       rw [HP.out.2]
       show (if f.k = 4 then addN (wN e names) (f.vn, f.vk) else wN e names) = _
       rw [if_pos hf4]
      clear hf4
      have H92 := K92 f hwf Y (wN e names) (K + 1) (HS4.out.2.1.trans (HYb.out.2.mono HS4.out.2.1.size)) (HS4.out.1.below HYb.out.2) (by omega)
      go_wp2_with fail
      refine H92.mono ?_
      rintro e3 w5 ⟨rfl, H5⟩
      clear H92
      go_wp2_with fail
      rw [rounds_succ]
      go_wp2_with fail
      refine bodyPost_ret (v := .int .u8 3) (by simp [results, Tryz.results145, go_sem]) rfl ?_
      rw [HPO.out.1, HPO.out.2]
      exact ⟨rfl, K + 2, H5.out.1, Nat.le_refl _, H5.out.2.1, HKY.out.trans H5.out.2.2⟩
     ·have hqf : (f.k == 4) = false := by simpa using hf4
      have HPO : Hid (likPO 12 e f = (outO Q) ∧ likPN 12 e f names = wN e names) := by
       refine ⟨by rw [HP.out.1, if_neg (fun h => h.elim HV.out hf4)], ?_⟩
       rw [HP.out.2]
       show (if f.k = 4 then addN (wN e names) (f.vn, f.vk) else wN e names) = _
       rw [if_neg hf4]
      clear hf4
      go_wp2_with fail
      rw [rounds_succ]
      go_wp2_with fail
      refine bodyPost_ret (v := .int .u8 (outO Q)) (by simp [results, Tryz.results145, go_sem]) rfl ?_
      rw [HPO.out.1, HPO.out.2]
      obtain ⟨M, n, nv, g1, g2, g3⟩ := HS4.out.1.below HYb.out.2
      exact ⟨rfl, K + 2, ⟨M, n, nv, g1, Nat.le_succ_of_le g2, Nat.le_succ_of_le g3⟩, Nat.le_refl _, HS4.out.2.1.trans (HYb.out.2.mono HS4.out.2.1.size), HKY.out⟩
end Go.Proofs.YtaehhophaaipdaaGreatDoor
