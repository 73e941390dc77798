/- Contracts of the guards' closures that hold two sums against one another. -/
import Derived.Test.YtaehhophaaipdaaGreatDoorGBg
import Derived.Test.YtaehhophaaipdaaGreatDoorQJg
namespace Go.Proofs.YtaehhophaaipdaaGreatDoor
open Go.RowKit
attribute [local go_sem ↓] Go.wp_at_zero Go.wp_at_succ
/-- What a guard's closure tells. -/
def GdPost (w0 : World) (lb : Nat) (p : Value) (B g : Nat) (o : Int) (names' : List Nm) (T : Nat) (w : World) (e : Ending) (w' : World) : Prop := e = .returned (.int .u8 o) ∧ ∃ K', Lk w' w0.heap.size lb p B g names' K' ∧ K' ≤ T ∧ Below w0.heap.size w0 w' ∧ KeepT w w'
def cmpO (k : Nat) (nums : List Int) (o : Int) : Int := if o = 1 then outO (cmpB k (nums.getD 0 0) (nums.getD 1 0)) else o
/-- A term behind its first cell. -/
theorem tail_at {w : World} {v : Value} {c : C} {r : List C} (h : TermAt w v (c :: r)) : ∃ b ob cap pp, v = .slice (some ⟨b, ob, none⟩) (r.length + 1) cap ∧ r.length + 1 ≤ cap ∧ cap ≤ 9223372036854775807 ∧ (if cap = 1 then some (⟨b, ob, none⟩ : Addr) else some ⟨b, ob + 5, none⟩) = pp ∧ Hid (TermAt w (.slice pp r.length (cap - 1)) r) := by
 obtain ⟨⟨hlm, htx⟩, hT0⟩ := h
 rcases hT0 with ⟨h, _⟩ | ⟨b, ob, cap, rfl, h2, h5, h3, h4⟩
 ·cases h
 have hTt := term_tail h3 h4 h2 h5 htx
 refine ⟨b, ob, cap, _, rfl, h2, by unfold maxLen at h5; omega, rfl, ?_⟩
 split
 ·next e =>
  subst e
  exact tail_one hTt
 ·exact hTt
abbrev CnS (bf b o f : Nat) (x y : Int) (w' : World) : Prop := w'.cell? ⟨bf, 0, none⟩ = some (.func (Fn.func f) #[] #[]) ∧ w'.cell? ⟨b, o, none⟩ = some (.int .i64 x) ∧ w'.cell? ⟨b, o + 1, none⟩ = some (.int .i64 y)
theorem cell0 {w : World} {b : Nat} {v : Value} {t : TypeId} (h : w.heap[b]? = some (.cells #[v] t (0, 0))) : w.cell? ⟨b, 0, none⟩ = some v := by
 rw [cell_of_row w b 0 _ t (0, 0) h]
 rfl
set_option maxRecDepth 100000 in
set_option maxHeartbeats 4000000 in
theorem z142_1 (m : Hp) (w0 : World) (lb : Nat) (p : Value) (B g d : Nat) (hC : SumC m w0 lb p B g d) (c : C) (t : List C) (names : List Nm) (nums : List Int) (o : Int) (rest : List C) (names' : List Nm) (K : Nat) (v : Value) (w : World) (bl bf : Nat) (hs : Sms m d 2 t names [] 1 nums o rest names') (h2 : o = 1 → ∃ x y, nums = [x, y]) (hb : Below w0.heap.size w0 w) (hL : Lk w w0.heap.size lb p B g names K) (hT : TermAt w0 v (c :: t)) (hW : ∀ x ∈ t, wfN (x.vn, x.vk)) (hK : K + t.length < 999999999) (hbl : w.heap[bl]? = some (.cells #[pv lb] 78 (0, 0))) (hbf : w.heap[bf]? = some (.cells #[.func (Fn.func 109) #[] #[]] 145 (0, 0))) :
  Calls Tryz.prog 142 #[v, pv bl, pv bf] w (GdPost w0 lb p B g (cmpO 1 nums o) names' (K + t.length) w) := by
 obtain ⟨b, ob, cap, pp, rfl, hcap, hcm, hpp, HTt⟩ := tail_at hT
 have H93 : Hid (∀ W, Below w.heap.size w W → Calls Tryz.prog 104 #[pv lb, .slice pp t.length (cap - 1), .int .i64 2] W (SumsPost w0 lb p B g nums o rest names' (K + t.length) W)) := fun W hWw => h93 m w0 lb p B g d hC 2 (by decide) t names nums o rest names' _ W K hs (hb.trans (hWw.mono hb.size)) (hL.below hWw) HTt.out hW hK
 have hge : (1 : Int) ≤ (t.length : Int) + 1 := by omega
 have HBf : Hid (w.heap[bf]? = some (.cells #[.func (Fn.func 109) #[] #[]] 145 (0, 0))) := hbf
 have H2 : Hid (o = 1 → ∃ x y, nums = [x, y]) := h2
 have c0 := cell0 hbl
 have c1 := cell0 hbf
 clear hC hs hb hL hT hW hbl hbf h2
 go_enter Tryz.func142, Tryz.ntmps142
 go_wp2_with fail
 go_region_with (go_at_call 104; refine (H93.out _ (Below.drew (Below.refl _ _))).mono ?_; rintro e w2 ⟨nv, rv, K', rfl, hI, hTr, hL2, hK2, hW2, hb2, hk2⟩)
 all_goals (
  have hk2' : KeepT w w2 := (KeepT.of_below (Below.drew (Below.refl _ _))).trans hk2
  have HP : Hid (Lk w2 w0.heap.size lb p B g names' K' ∧ K' ≤ K + t.length ∧ Below w0.heap.size w0 w2 ∧ KeepT w w2) := ⟨hL2, by omega, hb2, hk2'⟩
  have q1 : w2.cell? ⟨bf, 0, none⟩ = some (.func (Fn.func 109) #[] #[]) := cell0 (hk2'.2 _ _ _ _ HBf.out (by decide) (by decide))
  obtain ⟨na, nc, e1⟩ := hI.form
  obtain ⟨ra, rc, e2⟩ := hTr.form
  subst e1 e2
  have HI : Hid (IntsR w2 (.slice na nums.length nc) nums) := hI
  clear hI hTr hL2 hK2 hW2 hb2 hk2 hk2' c0 c1 H93 HBf
  by_cases ho : o = 1
  ·obtain ⟨x, y, rfl⟩ := H2.out ho
   subst ho
   have HE : Hid (cmpO 1 [x, y] 1 = outO (cmpB 1 x y)) := rfl
   rw [HE.out]
   obtain ⟨b3, o3, cp3, e3, c3, _⟩ := HI.out.at 0 (by simp)
   obtain ⟨b4, o4, cp4, e4, c4, _⟩ := HI.out.at 1 (by simp)
   simp only [Value.slice.injEq] at e3 e4
   obtain ⟨rfl, _, rfl⟩ := e3
   simp only [Option.some.injEq, Addr.mk.injEq] at e4
   obtain ⟨⟨rfl, rfl, _⟩, _, rfl⟩ := e4
   simp only [List.getElem_cons_zero, List.getElem_cons_succ, Nat.add_zero] at c3 c4
   have hS : CnS bf b3 o3 109 x y w2.drew := ⟨q1, c3, c4⟩
   clear H2 HE HI
   simp only [List.length_cons, List.length_nil, Nat.zero_add, Nat.reduceAdd]
   go_wp2_with fail
   refine wp_region_noPanic ?_
   refine wp_region_held_drew (S := fun w' => CnS bf b3 o3 109 x y w') (by kernel_rfl) hS (fun hHeld => ?_)
   refine wpAnyH_take (i := 0) (v := ?_) (by simp only [List.getElem?_toArray, List.getElem?_cons_zero]; rfl) (by kernel_rfl) (by kernel_rfl) (by kernel_rfl) (fun _ _ _ h => h) (Or.inl ⟨by rfl, ?_⟩) (by assumption) ?_
   rotate_left
   ·(intro w hSw; (try dsimp only at hSw); go_simp <;> with_reducible rfl)
   try simp only [Act.put, List.setIfInBounds_toArray, List.set_cons_zero, List.set_cons_succ]
   refine wpAnyH_take (i := 1) (v := ?_) (by simp only [List.getElem?_toArray, List.getElem?_cons_zero, List.getElem?_cons_succ]; rfl) (by kernel_rfl) (by kernel_rfl) (by kernel_rfl) (fun _ _ _ h => h) (Or.inl ⟨by rfl, ?_⟩) (by assumption) ?_
   rotate_left
   ·(intro w hSw; (try dsimp only at hSw); go_simp <;> with_reducible rfl)
   try simp only [Act.put, List.setIfInBounds_toArray, List.set_cons_zero, List.set_cons_succ]
   refine wpAnyH_take (i := 2) (v := ?_) (by simp only [List.getElem?_toArray, List.getElem?_cons_zero, List.getElem?_cons_succ]; rfl) (by kernel_rfl) (by kernel_rfl) (by kernel_rfl) (fun _ _ _ h => h) (Or.inl ⟨by rfl, ?_⟩) (by assumption) ?_
   rotate_left
   ·(intro w hSw; (try dsimp only at hSw); go_simp <;> with_reducible rfl)
   try simp only [Act.put, List.setIfInBounds_toArray, List.set_cons_zero, List.set_cons_succ]
   refine wpAnyH_take (i := 3) (v := ?_) (by simp only [List.getElem?_toArray, List.getElem?_cons_zero, List.getElem?_cons_succ]; rfl) (by kernel_rfl) (by kernel_rfl) (by kernel_rfl) (fun _ _ _ h => h) (Or.inl ⟨by rfl, ?_⟩) (by assumption) ?_
   rotate_left
   ·(intro w hSw; (try dsimp only at hSw); go_simp <;> with_reducible rfl)
   try simp only [Act.put, List.setIfInBounds_toArray, List.set_cons_zero, List.set_cons_succ]
   refine wpAnyH_take (i := 4) (v := ?_) (by simp only [List.getElem?_toArray, List.getElem?_cons_zero, List.getElem?_cons_succ]; rfl) (by kernel_rfl) (by kernel_rfl) (by kernel_rfl) (fun _ _ _ h => h) (Or.inl ⟨by rfl, ?_⟩) (by assumption) ?_
   rotate_left
   ·(intro w hSw; (try dsimp only at hSw); go_simp <;> with_reducible rfl)
   try simp only [Act.put, List.setIfInBounds_toArray, List.set_cons_zero, List.set_cons_succ]
   refine wpAnyH_take (i := 5) (v := ?_) (by simp only [List.getElem?_toArray, List.getElem?_cons_zero, List.getElem?_cons_succ]; rfl) (by kernel_rfl) (by kernel_rfl) (by kernel_rfl) (fun _ _ _ h => h) (Or.inl ⟨by rfl, ?_⟩) (by assumption) ?_
   rotate_left
   ·(intro w hSw; (try dsimp only at hSw); go_simp <;> with_reducible rfl)
   try simp only [Act.put, List.setIfInBounds_toArray, List.set_cons_zero, List.set_cons_succ]
   refine wpAnyH_take (i := 6) (v := ?_) (by simp only [List.getElem?_toArray, List.getElem?_cons_zero, List.getElem?_cons_succ]; rfl) (by kernel_rfl) (by kernel_rfl) (by kernel_rfl) (fun _ _ _ h => h) (Or.inl ⟨by rfl, ?_⟩) (by assumption) ?_
   rotate_left
   ·(intro w hSw; (try dsimp only at hSw); go_simp <;> with_reducible rfl)
   try simp only [Act.put, List.setIfInBounds_toArray, List.set_cons_zero, List.set_cons_succ]
   refine wpAnyH_ready (rs := [7]) (by kernel_rfl) (by simp) ?_
   refine AllReadyH.cons (by simp only [List.getElem?_toArray, List.getElem?_cons_zero, List.getElem?_cons_succ]; rfl) (fun K hK => ?_) AllReadyH.nil
   go_simp
   go_at_call 109
   refine (z109 x y _).mono ?_
   rintro e w5 ⟨rfl, hw5⟩
   obtain rfl := hw5
   refine hK.out _ _ ?_ (fun hHeld => ?_)
   ·exact (by assumption)
   clear hK K
   try simp only [Act.put, List.setIfInBounds_toArray, List.set_cons_zero, List.set_cons_succ]
   refine wpAnyH_ready (rs := [8]) (by kernel_rfl) (by simp) ?_
   refine AllReadyH.cons (by simp only [List.getElem?_toArray, List.getElem?_cons_zero, List.getElem?_cons_succ]; rfl) (fun K hK => ?_) AllReadyH.nil
   go_simp
   go_at_call 143
   refine (z143 (cmpB 1 x y) _).mono ?_
   rintro e w6 ⟨rfl, hw6⟩
   obtain rfl := hw6
   refine hK.out _ _ ?_ (fun hHeld => ?_)
   ·exact (by assumption)
   clear hK K
   try simp only [Act.put, List.setIfInBounds_toArray, List.set_cons_zero, List.set_cons_succ]
   refine wpAnyH_take (i := 9) (v := ?_) (by simp only [List.getElem?_toArray, List.getElem?_cons_zero, List.getElem?_cons_succ]; rfl) (by kernel_rfl) (by kernel_rfl) (by kernel_rfl) (fun _ _ _ h => h) (Or.inl ⟨by rfl, ?_⟩) (by assumption) ?_
   rotate_left
   ·(intro w hSw; (try dsimp only at hSw); go_simp <;> with_reducible rfl)
   try simp only [Act.put, List.setIfInBounds_toArray, List.set_cons_zero, List.set_cons_succ]
   refine wpAnyH_done (by kernel_rfl) ?_ _
   refine NoPanic.normal ?_
   clear hHeld hS
   go_wp2_with fail
   exact bodyPost_ret (v := .int .u8 (outO (cmpB 1 x y))) (by simp [results, Tryz.results142, go_sem]) rfl ⟨rfl, K', HP.out.1.below ((Below.refl _ _).drew), HP.out.2.1, HP.out.2.2.1.drew, HP.out.2.2.2.trans (KeepT.of_below ((Below.refl _ _).drew))⟩
  ·have HE : Hid (cmpO 1 nums o = o) := by show cmpO 1 nums o = o; unfold cmpO; rw [if_neg ho]
   rw [HE.out]
   have hne : (o != 1) = true := by simpa using ho
   go_wp2_with fail
   exact bodyPost_ret (v := .int .u8 o) (by simp [results, Tryz.results142, go_sem]) rfl ⟨by rw [HE.out], K', HP.out⟩)
set_option maxRecDepth 100000 in
set_option maxHeartbeats 4000000 in
theorem z142_2 (m : Hp) (w0 : World) (lb : Nat) (p : Value) (B g d : Nat) (hC : SumC m w0 lb p B g d) (c : C) (t : List C) (names : List Nm) (nums : List Int) (o : Int) (rest : List C) (names' : List Nm) (K : Nat) (v : Value) (w : World) (bl bf : Nat) (hs : Sms m d 2 t names [] 1 nums o rest names') (h2 : o = 1 → ∃ x y, nums = [x, y]) (hb : Below w0.heap.size w0 w) (hL : Lk w w0.heap.size lb p B g names K) (hT : TermAt w0 v (c :: t)) (hW : ∀ x ∈ t, wfN (x.vn, x.vk)) (hK : K + t.length < 999999999) (hbl : w.heap[bl]? = some (.cells #[pv lb] 78 (0, 0))) (hbf : w.heap[bf]? = some (.cells #[.func (Fn.func 110) #[] #[]] 145 (0, 0))) :
  Calls Tryz.prog 142 #[v, pv bl, pv bf] w (GdPost w0 lb p B g (cmpO 2 nums o) names' (K + t.length) w) := by
 obtain ⟨b, ob, cap, pp, rfl, hcap, hcm, hpp, HTt⟩ := tail_at hT
 have H93 : Hid (∀ W, Below w.heap.size w W → Calls Tryz.prog 104 #[pv lb, .slice pp t.length (cap - 1), .int .i64 2] W (SumsPost w0 lb p B g nums o rest names' (K + t.length) W)) := fun W hWw => h93 m w0 lb p B g d hC 2 (by decide) t names nums o rest names' _ W K hs (hb.trans (hWw.mono hb.size)) (hL.below hWw) HTt.out hW hK
 have hge : (1 : Int) ≤ (t.length : Int) + 1 := by omega
 have HBf : Hid (w.heap[bf]? = some (.cells #[.func (Fn.func 110) #[] #[]] 145 (0, 0))) := hbf
 have H2 : Hid (o = 1 → ∃ x y, nums = [x, y]) := h2
 have c0 := cell0 hbl
 have c1 := cell0 hbf
 clear hC hs hb hL hT hW hbl hbf h2
 go_enter Tryz.func142, Tryz.ntmps142
 go_wp2_with fail
 go_region_with (go_at_call 104; refine (H93.out _ (Below.drew (Below.refl _ _))).mono ?_; rintro e w2 ⟨nv, rv, K', rfl, hI, hTr, hL2, hK2, hW2, hb2, hk2⟩)
 all_goals (
  have hk2' : KeepT w w2 := (KeepT.of_below (Below.drew (Below.refl _ _))).trans hk2
  have HP : Hid (Lk w2 w0.heap.size lb p B g names' K' ∧ K' ≤ K + t.length ∧ Below w0.heap.size w0 w2 ∧ KeepT w w2) := ⟨hL2, by omega, hb2, hk2'⟩
  have q1 : w2.cell? ⟨bf, 0, none⟩ = some (.func (Fn.func 110) #[] #[]) := cell0 (hk2'.2 _ _ _ _ HBf.out (by decide) (by decide))
  obtain ⟨na, nc, e1⟩ := hI.form
  obtain ⟨ra, rc, e2⟩ := hTr.form
  subst e1 e2
  have HI : Hid (IntsR w2 (.slice na nums.length nc) nums) := hI
  clear hI hTr hL2 hK2 hW2 hb2 hk2 hk2' c0 c1 H93 HBf
  by_cases ho : o = 1
  ·obtain ⟨x, y, rfl⟩ := H2.out ho
   subst ho
   have HE : Hid (cmpO 2 [x, y] 1 = outO (cmpB 2 x y)) := rfl
   rw [HE.out]
   obtain ⟨b3, o3, cp3, e3, c3, _⟩ := HI.out.at 0 (by simp)
   obtain ⟨b4, o4, cp4, e4, c4, _⟩ := HI.out.at 1 (by simp)
   simp only [Value.slice.injEq] at e3 e4
   obtain ⟨rfl, _, rfl⟩ := e3
   simp only [Option.some.injEq, Addr.mk.injEq] at e4
   obtain ⟨⟨rfl, rfl, _⟩, _, rfl⟩ := e4
   simp only [List.getElem_cons_zero, List.getElem_cons_succ, Nat.add_zero] at c3 c4
   have hS : CnS bf b3 o3 110 x y w2.drew := ⟨q1, c3, c4⟩
   clear H2 HE HI
   simp only [List.length_cons, List.length_nil, Nat.zero_add, Nat.reduceAdd]
   go_wp2_with fail
   refine wp_region_noPanic ?_
   refine wp_region_held_drew (S := fun w' => CnS bf b3 o3 110 x y w') (by kernel_rfl) hS (fun hHeld => ?_)
   refine wpAnyH_take (i := 0) (v := ?_) (by simp only [List.getElem?_toArray, List.getElem?_cons_zero]; rfl) (by kernel_rfl) (by kernel_rfl) (by kernel_rfl) (fun _ _ _ h => h) (Or.inl ⟨by rfl, ?_⟩) (by assumption) ?_
   rotate_left
   ·(intro w hSw; (try dsimp only at hSw); go_simp <;> with_reducible rfl)
   try simp only [Act.put, List.setIfInBounds_toArray, List.set_cons_zero, List.set_cons_succ]
   refine wpAnyH_take (i := 1) (v := ?_) (by simp only [List.getElem?_toArray, List.getElem?_cons_zero, List.getElem?_cons_succ]; rfl) (by kernel_rfl) (by kernel_rfl) (by kernel_rfl) (fun _ _ _ h => h) (Or.inl ⟨by rfl, ?_⟩) (by assumption) ?_
   rotate_left
   ·(intro w hSw; (try dsimp only at hSw); go_simp <;> with_reducible rfl)
   try simp only [Act.put, List.setIfInBounds_toArray, List.set_cons_zero, List.set_cons_succ]
   refine wpAnyH_take (i := 2) (v := ?_) (by simp only [List.getElem?_toArray, List.getElem?_cons_zero, List.getElem?_cons_succ]; rfl) (by kernel_rfl) (by kernel_rfl) (by kernel_rfl) (fun _ _ _ h => h) (Or.inl ⟨by rfl, ?_⟩) (by assumption) ?_
   rotate_left
   ·(intro w hSw; (try dsimp only at hSw); go_simp <;> with_reducible rfl)
   try simp only [Act.put, List.setIfInBounds_toArray, List.set_cons_zero, List.set_cons_succ]
   refine wpAnyH_take (i := 3) (v := ?_) (by simp only [List.getElem?_toArray, List.getElem?_cons_zero, List.getElem?_cons_succ]; rfl) (by kernel_rfl) (by kernel_rfl) (by kernel_rfl) (fun _ _ _ h => h) (Or.inl ⟨by rfl, ?_⟩) (by assumption) ?_
   rotate_left
   ·(intro w hSw; (try dsimp only at hSw); go_simp <;> with_reducible rfl)
   try simp only [Act.put, List.setIfInBounds_toArray, List.set_cons_zero, List.set_cons_succ]
   refine wpAnyH_take (i := 4) (v := ?_) (by simp only [List.getElem?_toArray, List.getElem?_cons_zero, List.getElem?_cons_succ]; rfl) (by kernel_rfl) (by kernel_rfl) (by kernel_rfl) (fun _ _ _ h => h) (Or.inl ⟨by rfl, ?_⟩) (by assumption) ?_
   rotate_left
   ·(intro w hSw; (try dsimp only at hSw); go_simp <;> with_reducible rfl)
   try simp only [Act.put, List.setIfInBounds_toArray, List.set_cons_zero, List.set_cons_succ]
   refine wpAnyH_take (i := 5) (v := ?_) (by simp only [List.getElem?_toArray, List.getElem?_cons_zero, List.getElem?_cons_succ]; rfl) (by kernel_rfl) (by kernel_rfl) (by kernel_rfl) (fun _ _ _ h => h) (Or.inl ⟨by rfl, ?_⟩) (by assumption) ?_
   rotate_left
   ·(intro w hSw; (try dsimp only at hSw); go_simp <;> with_reducible rfl)
   try simp only [Act.put, List.setIfInBounds_toArray, List.set_cons_zero, List.set_cons_succ]
   refine wpAnyH_take (i := 6) (v := ?_) (by simp only [List.getElem?_toArray, List.getElem?_cons_zero, List.getElem?_cons_succ]; rfl) (by kernel_rfl) (by kernel_rfl) (by kernel_rfl) (fun _ _ _ h => h) (Or.inl ⟨by rfl, ?_⟩) (by assumption) ?_
   rotate_left
   ·(intro w hSw; (try dsimp only at hSw); go_simp <;> with_reducible rfl)
   try simp only [Act.put, List.setIfInBounds_toArray, List.set_cons_zero, List.set_cons_succ]
   refine wpAnyH_ready (rs := [7]) (by kernel_rfl) (by simp) ?_
   refine AllReadyH.cons (by simp only [List.getElem?_toArray, List.getElem?_cons_zero, List.getElem?_cons_succ]; rfl) (fun K hK => ?_) AllReadyH.nil
   go_simp
   go_at_call 110
   refine (z110 x y _).mono ?_
   rintro e w5 ⟨rfl, hw5⟩
   obtain rfl := hw5
   refine hK.out _ _ ?_ (fun hHeld => ?_)
   ·exact (by assumption)
   clear hK K
   try simp only [Act.put, List.setIfInBounds_toArray, List.set_cons_zero, List.set_cons_succ]
   refine wpAnyH_ready (rs := [8]) (by kernel_rfl) (by simp) ?_
   refine AllReadyH.cons (by simp only [List.getElem?_toArray, List.getElem?_cons_zero, List.getElem?_cons_succ]; rfl) (fun K hK => ?_) AllReadyH.nil
   go_simp
   go_at_call 143
   refine (z143 (cmpB 2 x y) _).mono ?_
   rintro e w6 ⟨rfl, hw6⟩
   obtain rfl := hw6
   refine hK.out _ _ ?_ (fun hHeld => ?_)
   ·exact (by assumption)
   clear hK K
   try simp only [Act.put, List.setIfInBounds_toArray, List.set_cons_zero, List.set_cons_succ]
   refine wpAnyH_take (i := 9) (v := ?_) (by simp only [List.getElem?_toArray, List.getElem?_cons_zero, List.getElem?_cons_succ]; rfl) (by kernel_rfl) (by kernel_rfl) (by kernel_rfl) (fun _ _ _ h => h) (Or.inl ⟨by rfl, ?_⟩) (by assumption) ?_
   rotate_left
   ·(intro w hSw; (try dsimp only at hSw); go_simp <;> with_reducible rfl)
   try simp only [Act.put, List.setIfInBounds_toArray, List.set_cons_zero, List.set_cons_succ]
   refine wpAnyH_done (by kernel_rfl) ?_ _
   refine NoPanic.normal ?_
   clear hHeld hS
   go_wp2_with fail
   exact bodyPost_ret (v := .int .u8 (outO (cmpB 2 x y))) (by simp [results, Tryz.results142, go_sem]) rfl ⟨rfl, K', HP.out.1.below ((Below.refl _ _).drew), HP.out.2.1, HP.out.2.2.1.drew, HP.out.2.2.2.trans (KeepT.of_below ((Below.refl _ _).drew))⟩
  ·have HE : Hid (cmpO 2 nums o = o) := by show cmpO 2 nums o = o; unfold cmpO; rw [if_neg ho]
   rw [HE.out]
   have hne : (o != 1) = true := by simpa using ho
   go_wp2_with fail
   exact bodyPost_ret (v := .int .u8 o) (by simp [results, Tryz.results142, go_sem]) rfl ⟨by rw [HE.out], K', HP.out⟩)
set_option maxRecDepth 100000 in
set_option maxHeartbeats 4000000 in
theorem z142_3 (m : Hp) (w0 : World) (lb : Nat) (p : Value) (B g d : Nat) (hC : SumC m w0 lb p B g d) (c : C) (t : List C) (names : List Nm) (nums : List Int) (o : Int) (rest : List C) (names' : List Nm) (K : Nat) (v : Value) (w : World) (bl bf : Nat) (hs : Sms m d 2 t names [] 1 nums o rest names') (h2 : o = 1 → ∃ x y, nums = [x, y]) (hb : Below w0.heap.size w0 w) (hL : Lk w w0.heap.size lb p B g names K) (hT : TermAt w0 v (c :: t)) (hW : ∀ x ∈ t, wfN (x.vn, x.vk)) (hK : K + t.length < 999999999) (hbl : w.heap[bl]? = some (.cells #[pv lb] 78 (0, 0))) (hbf : w.heap[bf]? = some (.cells #[.func (Fn.func 111) #[] #[]] 145 (0, 0))) :
  Calls Tryz.prog 142 #[v, pv bl, pv bf] w (GdPost w0 lb p B g (cmpO 3 nums o) names' (K + t.length) w) := by
 obtain ⟨b, ob, cap, pp, rfl, hcap, hcm, hpp, HTt⟩ := tail_at hT
 have H93 : Hid (∀ W, Below w.heap.size w W → Calls Tryz.prog 104 #[pv lb, .slice pp t.length (cap - 1), .int .i64 2] W (SumsPost w0 lb p B g nums o rest names' (K + t.length) W)) := fun W hWw => h93 m w0 lb p B g d hC 2 (by decide) t names nums o rest names' _ W K hs (hb.trans (hWw.mono hb.size)) (hL.below hWw) HTt.out hW hK
 have hge : (1 : Int) ≤ (t.length : Int) + 1 := by omega
 have HBf : Hid (w.heap[bf]? = some (.cells #[.func (Fn.func 111) #[] #[]] 145 (0, 0))) := hbf
 have H2 : Hid (o = 1 → ∃ x y, nums = [x, y]) := h2
 have c0 := cell0 hbl
 have c1 := cell0 hbf
 clear hC hs hb hL hT hW hbl hbf h2
 go_enter Tryz.func142, Tryz.ntmps142
 go_wp2_with fail
 go_region_with (go_at_call 104; refine (H93.out _ (Below.drew (Below.refl _ _))).mono ?_; rintro e w2 ⟨nv, rv, K', rfl, hI, hTr, hL2, hK2, hW2, hb2, hk2⟩)
 all_goals (
  have hk2' : KeepT w w2 := (KeepT.of_below (Below.drew (Below.refl _ _))).trans hk2
  have HP : Hid (Lk w2 w0.heap.size lb p B g names' K' ∧ K' ≤ K + t.length ∧ Below w0.heap.size w0 w2 ∧ KeepT w w2) := ⟨hL2, by omega, hb2, hk2'⟩
  have q1 : w2.cell? ⟨bf, 0, none⟩ = some (.func (Fn.func 111) #[] #[]) := cell0 (hk2'.2 _ _ _ _ HBf.out (by decide) (by decide))
  obtain ⟨na, nc, e1⟩ := hI.form
  obtain ⟨ra, rc, e2⟩ := hTr.form
  subst e1 e2
  have HI : Hid (IntsR w2 (.slice na nums.length nc) nums) := hI
  clear hI hTr hL2 hK2 hW2 hb2 hk2 hk2' c0 c1 H93 HBf
  by_cases ho : o = 1
  ·obtain ⟨x, y, rfl⟩ := H2.out ho
   subst ho
   have HE : Hid (cmpO 3 [x, y] 1 = outO (cmpB 3 x y)) := rfl
   rw [HE.out]
   obtain ⟨b3, o3, cp3, e3, c3, _⟩ := HI.out.at 0 (by simp)
   obtain ⟨b4, o4, cp4, e4, c4, _⟩ := HI.out.at 1 (by simp)
   simp only [Value.slice.injEq] at e3 e4
   obtain ⟨rfl, _, rfl⟩ := e3
   simp only [Option.some.injEq, Addr.mk.injEq] at e4
   obtain ⟨⟨rfl, rfl, _⟩, _, rfl⟩ := e4
   simp only [List.getElem_cons_zero, List.getElem_cons_succ, Nat.add_zero] at c3 c4
   have hS : CnS bf b3 o3 111 x y w2.drew := ⟨q1, c3, c4⟩
   clear H2 HE HI
   simp only [List.length_cons, List.length_nil, Nat.zero_add, Nat.reduceAdd]
   go_wp2_with fail
   refine wp_region_noPanic ?_
   refine wp_region_held_drew (S := fun w' => CnS bf b3 o3 111 x y w') (by kernel_rfl) hS (fun hHeld => ?_)
   refine wpAnyH_take (i := 0) (v := ?_) (by simp only [List.getElem?_toArray, List.getElem?_cons_zero]; rfl) (by kernel_rfl) (by kernel_rfl) (by kernel_rfl) (fun _ _ _ h => h) (Or.inl ⟨by rfl, ?_⟩) (by assumption) ?_
   rotate_left
   ·(intro w hSw; (try dsimp only at hSw); go_simp <;> with_reducible rfl)
   try simp only [Act.put, List.setIfInBounds_toArray, List.set_cons_zero, List.set_cons_succ]
   refine wpAnyH_take (i := 1) (v := ?_) (by simp only [List.getElem?_toArray, List.getElem?_cons_zero, List.getElem?_cons_succ]; rfl) (by kernel_rfl) (by kernel_rfl) (by kernel_rfl) (fun _ _ _ h => h) (Or.inl ⟨by rfl, ?_⟩) (by assumption) ?_
   rotate_left
   ·(intro w hSw; (try dsimp only at hSw); go_simp <;> with_reducible rfl)
   try simp only [Act.put, List.setIfInBounds_toArray, List.set_cons_zero, List.set_cons_succ]
   refine wpAnyH_take (i := 2) (v := ?_) (by simp only [List.getElem?_toArray, List.getElem?_cons_zero, List.getElem?_cons_succ]; rfl) (by kernel_rfl) (by kernel_rfl) (by kernel_rfl) (fun _ _ _ h => h) (Or.inl ⟨by rfl, ?_⟩) (by assumption) ?_
   rotate_left
   ·(intro w hSw; (try dsimp only at hSw); go_simp <;> with_reducible rfl)
   try simp only [Act.put, List.setIfInBounds_toArray, List.set_cons_zero, List.set_cons_succ]
   refine wpAnyH_take (i := 3) (v := ?_) (by simp only [List.getElem?_toArray, List.getElem?_cons_zero, List.getElem?_cons_succ]; rfl) (by kernel_rfl) (by kernel_rfl) (by kernel_rfl) (fun _ _ _ h => h) (Or.inl ⟨by rfl, ?_⟩) (by assumption) ?_
   rotate_left
   ·(intro w hSw; (try dsimp only at hSw); go_simp <;> with_reducible rfl)
   try simp only [Act.put, List.setIfInBounds_toArray, List.set_cons_zero, List.set_cons_succ]
   refine wpAnyH_take (i := 4) (v := ?_) (by simp only [List.getElem?_toArray, List.getElem?_cons_zero, List.getElem?_cons_succ]; rfl) (by kernel_rfl) (by kernel_rfl) (by kernel_rfl) (fun _ _ _ h => h) (Or.inl ⟨by rfl, ?_⟩) (by assumption) ?_
   rotate_left
   ·(intro w hSw; (try dsimp only at hSw); go_simp <;> with_reducible rfl)
   try simp only [Act.put, List.setIfInBounds_toArray, List.set_cons_zero, List.set_cons_succ]
   refine wpAnyH_take (i := 5) (v := ?_) (by simp only [List.getElem?_toArray, List.getElem?_cons_zero, List.getElem?_cons_succ]; rfl) (by kernel_rfl) (by kernel_rfl) (by kernel_rfl) (fun _ _ _ h => h) (Or.inl ⟨by rfl, ?_⟩) (by assumption) ?_
   rotate_left
   ·(intro w hSw; (try dsimp only at hSw); go_simp <;> with_reducible rfl)
   try simp only [Act.put, List.setIfInBounds_toArray, List.set_cons_zero, List.set_cons_succ]
   refine wpAnyH_take (i := 6) (v := ?_) (by simp only [List.getElem?_toArray, List.getElem?_cons_zero, List.getElem?_cons_succ]; rfl) (by kernel_rfl) (by kernel_rfl) (by kernel_rfl) (fun _ _ _ h => h) (Or.inl ⟨by rfl, ?_⟩) (by assumption) ?_
   rotate_left
   ·(intro w hSw; (try dsimp only at hSw); go_simp <;> with_reducible rfl)
   try simp only [Act.put, List.setIfInBounds_toArray, List.set_cons_zero, List.set_cons_succ]
   refine wpAnyH_ready (rs := [7]) (by kernel_rfl) (by simp) ?_
   refine AllReadyH.cons (by simp only [List.getElem?_toArray, List.getElem?_cons_zero, List.getElem?_cons_succ]; rfl) (fun K hK => ?_) AllReadyH.nil
   go_simp
   go_at_call 111
   refine (z111 x y _).mono ?_
   rintro e w5 ⟨rfl, hw5⟩
   obtain rfl := hw5
   refine hK.out _ _ ?_ (fun hHeld => ?_)
   ·exact (by assumption)
   clear hK K
   try simp only [Act.put, List.setIfInBounds_toArray, List.set_cons_zero, List.set_cons_succ]
   refine wpAnyH_ready (rs := [8]) (by kernel_rfl) (by simp) ?_
   refine AllReadyH.cons (by simp only [List.getElem?_toArray, List.getElem?_cons_zero, List.getElem?_cons_succ]; rfl) (fun K hK => ?_) AllReadyH.nil
   go_simp
   go_at_call 143
   refine (z143 (cmpB 3 x y) _).mono ?_
   rintro e w6 ⟨rfl, hw6⟩
   obtain rfl := hw6
   refine hK.out _ _ ?_ (fun hHeld => ?_)
   ·exact (by assumption)
   clear hK K
   try simp only [Act.put, List.setIfInBounds_toArray, List.set_cons_zero, List.set_cons_succ]
   refine wpAnyH_take (i := 9) (v := ?_) (by simp only [List.getElem?_toArray, List.getElem?_cons_zero, List.getElem?_cons_succ]; rfl) (by kernel_rfl) (by kernel_rfl) (by kernel_rfl) (fun _ _ _ h => h) (Or.inl ⟨by rfl, ?_⟩) (by assumption) ?_
   rotate_left
   ·(intro w hSw; (try dsimp only at hSw); go_simp <;> with_reducible rfl)
   try simp only [Act.put, List.setIfInBounds_toArray, List.set_cons_zero, List.set_cons_succ]
   refine wpAnyH_done (by kernel_rfl) ?_ _
   refine NoPanic.normal ?_
   clear hHeld hS
   go_wp2_with fail
   exact bodyPost_ret (v := .int .u8 (outO (cmpB 3 x y))) (by simp [results, Tryz.results142, go_sem]) rfl ⟨rfl, K', HP.out.1.below ((Below.refl _ _).drew), HP.out.2.1, HP.out.2.2.1.drew, HP.out.2.2.2.trans (KeepT.of_below ((Below.refl _ _).drew))⟩
  ·have HE : Hid (cmpO 3 nums o = o) := by show cmpO 3 nums o = o; unfold cmpO; rw [if_neg ho]
   rw [HE.out]
   have hne : (o != 1) = true := by simpa using ho
   go_wp2_with fail
   exact bodyPost_ret (v := .int .u8 o) (by simp [results, Tryz.results142, go_sem]) rfl ⟨by rw [HE.out], K', HP.out⟩)
set_option maxRecDepth 100000 in
set_option maxHeartbeats 4000000 in
theorem z142_4 (m : Hp) (w0 : World) (lb : Nat) (p : Value) (B g d : Nat) (hC : SumC m w0 lb p B g d) (c : C) (t : List C) (names : List Nm) (nums : List Int) (o : Int) (rest : List C) (names' : List Nm) (K : Nat) (v : Value) (w : World) (bl bf : Nat) (hs : Sms m d 2 t names [] 1 nums o rest names') (h2 : o = 1 → ∃ x y, nums = [x, y]) (hb : Below w0.heap.size w0 w) (hL : Lk w w0.heap.size lb p B g names K) (hT : TermAt w0 v (c :: t)) (hW : ∀ x ∈ t, wfN (x.vn, x.vk)) (hK : K + t.length < 999999999) (hbl : w.heap[bl]? = some (.cells #[pv lb] 78 (0, 0))) (hbf : w.heap[bf]? = some (.cells #[.func (Fn.func 112) #[] #[]] 145 (0, 0))) :
  Calls Tryz.prog 142 #[v, pv bl, pv bf] w (GdPost w0 lb p B g (cmpO 4 nums o) names' (K + t.length) w) := by
 obtain ⟨b, ob, cap, pp, rfl, hcap, hcm, hpp, HTt⟩ := tail_at hT
 have H93 : Hid (∀ W, Below w.heap.size w W → Calls Tryz.prog 104 #[pv lb, .slice pp t.length (cap - 1), .int .i64 2] W (SumsPost w0 lb p B g nums o rest names' (K + t.length) W)) := fun W hWw => h93 m w0 lb p B g d hC 2 (by decide) t names nums o rest names' _ W K hs (hb.trans (hWw.mono hb.size)) (hL.below hWw) HTt.out hW hK
 have hge : (1 : Int) ≤ (t.length : Int) + 1 := by omega
 have HBf : Hid (w.heap[bf]? = some (.cells #[.func (Fn.func 112) #[] #[]] 145 (0, 0))) := hbf
 have H2 : Hid (o = 1 → ∃ x y, nums = [x, y]) := h2
 have c0 := cell0 hbl
 have c1 := cell0 hbf
 clear hC hs hb hL hT hW hbl hbf h2
 go_enter Tryz.func142, Tryz.ntmps142
 go_wp2_with fail
 go_region_with (go_at_call 104; refine (H93.out _ (Below.drew (Below.refl _ _))).mono ?_; rintro e w2 ⟨nv, rv, K', rfl, hI, hTr, hL2, hK2, hW2, hb2, hk2⟩)
 all_goals (
  have hk2' : KeepT w w2 := (KeepT.of_below (Below.drew (Below.refl _ _))).trans hk2
  have HP : Hid (Lk w2 w0.heap.size lb p B g names' K' ∧ K' ≤ K + t.length ∧ Below w0.heap.size w0 w2 ∧ KeepT w w2) := ⟨hL2, by omega, hb2, hk2'⟩
  have q1 : w2.cell? ⟨bf, 0, none⟩ = some (.func (Fn.func 112) #[] #[]) := cell0 (hk2'.2 _ _ _ _ HBf.out (by decide) (by decide))
  obtain ⟨na, nc, e1⟩ := hI.form
  obtain ⟨ra, rc, e2⟩ := hTr.form
  subst e1 e2
  have HI : Hid (IntsR w2 (.slice na nums.length nc) nums) := hI
  clear hI hTr hL2 hK2 hW2 hb2 hk2 hk2' c0 c1 H93 HBf
  by_cases ho : o = 1
  ·obtain ⟨x, y, rfl⟩ := H2.out ho
   subst ho
   have HE : Hid (cmpO 4 [x, y] 1 = outO (cmpB 4 x y)) := rfl
   rw [HE.out]
   obtain ⟨b3, o3, cp3, e3, c3, _⟩ := HI.out.at 0 (by simp)
   obtain ⟨b4, o4, cp4, e4, c4, _⟩ := HI.out.at 1 (by simp)
   simp only [Value.slice.injEq] at e3 e4
   obtain ⟨rfl, _, rfl⟩ := e3
   simp only [Option.some.injEq, Addr.mk.injEq] at e4
   obtain ⟨⟨rfl, rfl, _⟩, _, rfl⟩ := e4
   simp only [List.getElem_cons_zero, List.getElem_cons_succ, Nat.add_zero] at c3 c4
   have hS : CnS bf b3 o3 112 x y w2.drew := ⟨q1, c3, c4⟩
   clear H2 HE HI
   simp only [List.length_cons, List.length_nil, Nat.zero_add, Nat.reduceAdd]
   go_wp2_with fail
   refine wp_region_noPanic ?_
   refine wp_region_held_drew (S := fun w' => CnS bf b3 o3 112 x y w') (by kernel_rfl) hS (fun hHeld => ?_)
   refine wpAnyH_take (i := 0) (v := ?_) (by simp only [List.getElem?_toArray, List.getElem?_cons_zero]; rfl) (by kernel_rfl) (by kernel_rfl) (by kernel_rfl) (fun _ _ _ h => h) (Or.inl ⟨by rfl, ?_⟩) (by assumption) ?_
   rotate_left
   ·(intro w hSw; (try dsimp only at hSw); go_simp <;> with_reducible rfl)
   try simp only [Act.put, List.setIfInBounds_toArray, List.set_cons_zero, List.set_cons_succ]
   refine wpAnyH_take (i := 1) (v := ?_) (by simp only [List.getElem?_toArray, List.getElem?_cons_zero, List.getElem?_cons_succ]; rfl) (by kernel_rfl) (by kernel_rfl) (by kernel_rfl) (fun _ _ _ h => h) (Or.inl ⟨by rfl, ?_⟩) (by assumption) ?_
   rotate_left
   ·(intro w hSw; (try dsimp only at hSw); go_simp <;> with_reducible rfl)
   try simp only [Act.put, List.setIfInBounds_toArray, List.set_cons_zero, List.set_cons_succ]
   refine wpAnyH_take (i := 2) (v := ?_) (by simp only [List.getElem?_toArray, List.getElem?_cons_zero, List.getElem?_cons_succ]; rfl) (by kernel_rfl) (by kernel_rfl) (by kernel_rfl) (fun _ _ _ h => h) (Or.inl ⟨by rfl, ?_⟩) (by assumption) ?_
   rotate_left
   ·(intro w hSw; (try dsimp only at hSw); go_simp <;> with_reducible rfl)
   try simp only [Act.put, List.setIfInBounds_toArray, List.set_cons_zero, List.set_cons_succ]
   refine wpAnyH_take (i := 3) (v := ?_) (by simp only [List.getElem?_toArray, List.getElem?_cons_zero, List.getElem?_cons_succ]; rfl) (by kernel_rfl) (by kernel_rfl) (by kernel_rfl) (fun _ _ _ h => h) (Or.inl ⟨by rfl, ?_⟩) (by assumption) ?_
   rotate_left
   ·(intro w hSw; (try dsimp only at hSw); go_simp <;> with_reducible rfl)
   try simp only [Act.put, List.setIfInBounds_toArray, List.set_cons_zero, List.set_cons_succ]
   refine wpAnyH_take (i := 4) (v := ?_) (by simp only [List.getElem?_toArray, List.getElem?_cons_zero, List.getElem?_cons_succ]; rfl) (by kernel_rfl) (by kernel_rfl) (by kernel_rfl) (fun _ _ _ h => h) (Or.inl ⟨by rfl, ?_⟩) (by assumption) ?_
   rotate_left
   ·(intro w hSw; (try dsimp only at hSw); go_simp <;> with_reducible rfl)
   try simp only [Act.put, List.setIfInBounds_toArray, List.set_cons_zero, List.set_cons_succ]
   refine wpAnyH_take (i := 5) (v := ?_) (by simp only [List.getElem?_toArray, List.getElem?_cons_zero, List.getElem?_cons_succ]; rfl) (by kernel_rfl) (by kernel_rfl) (by kernel_rfl) (fun _ _ _ h => h) (Or.inl ⟨by rfl, ?_⟩) (by assumption) ?_
   rotate_left
   ·(intro w hSw; (try dsimp only at hSw); go_simp <;> with_reducible rfl)
   try simp only [Act.put, List.setIfInBounds_toArray, List.set_cons_zero, List.set_cons_succ]
   refine wpAnyH_take (i := 6) (v := ?_) (by simp only [List.getElem?_toArray, List.getElem?_cons_zero, List.getElem?_cons_succ]; rfl) (by kernel_rfl) (by kernel_rfl) (by kernel_rfl) (fun _ _ _ h => h) (Or.inl ⟨by rfl, ?_⟩) (by assumption) ?_
   rotate_left
   ·(intro w hSw; (try dsimp only at hSw); go_simp <;> with_reducible rfl)
   try simp only [Act.put, List.setIfInBounds_toArray, List.set_cons_zero, List.set_cons_succ]
   refine wpAnyH_ready (rs := [7]) (by kernel_rfl) (by simp) ?_
   refine AllReadyH.cons (by simp only [List.getElem?_toArray, List.getElem?_cons_zero, List.getElem?_cons_succ]; rfl) (fun K hK => ?_) AllReadyH.nil
   go_simp
   go_at_call 112
   refine (z112 x y _).mono ?_
   rintro e w5 ⟨rfl, hw5⟩
   obtain rfl := hw5
   refine hK.out _ _ ?_ (fun hHeld => ?_)
   ·exact (by assumption)
   clear hK K
   try simp only [Act.put, List.setIfInBounds_toArray, List.set_cons_zero, List.set_cons_succ]
   refine wpAnyH_ready (rs := [8]) (by kernel_rfl) (by simp) ?_
   refine AllReadyH.cons (by simp only [List.getElem?_toArray, List.getElem?_cons_zero, List.getElem?_cons_succ]; rfl) (fun K hK => ?_) AllReadyH.nil
   go_simp
   go_at_call 143
   refine (z143 (cmpB 4 x y) _).mono ?_
   rintro e w6 ⟨rfl, hw6⟩
   obtain rfl := hw6
   refine hK.out _ _ ?_ (fun hHeld => ?_)
   ·exact (by assumption)
   clear hK K
   try simp only [Act.put, List.setIfInBounds_toArray, List.set_cons_zero, List.set_cons_succ]
   refine wpAnyH_take (i := 9) (v := ?_) (by simp only [List.getElem?_toArray, List.getElem?_cons_zero, List.getElem?_cons_succ]; rfl) (by kernel_rfl) (by kernel_rfl) (by kernel_rfl) (fun _ _ _ h => h) (Or.inl ⟨by rfl, ?_⟩) (by assumption) ?_
   rotate_left
   ·(intro w hSw; (try dsimp only at hSw); go_simp <;> with_reducible rfl)
   try simp only [Act.put, List.setIfInBounds_toArray, List.set_cons_zero, List.set_cons_succ]
   refine wpAnyH_done (by kernel_rfl) ?_ _
   refine NoPanic.normal ?_
   clear hHeld hS
   go_wp2_with fail
   exact bodyPost_ret (v := .int .u8 (outO (cmpB 4 x y))) (by simp [results, Tryz.results142, go_sem]) rfl ⟨rfl, K', HP.out.1.below ((Below.refl _ _).drew), HP.out.2.1, HP.out.2.2.1.drew, HP.out.2.2.2.trans (KeepT.of_below ((Below.refl _ _).drew))⟩
  ·have HE : Hid (cmpO 4 nums o = o) := by show cmpO 4 nums o = o; unfold cmpO; rw [if_neg ho]
   rw [HE.out]
   have hne : (o != 1) = true := by simpa using ho
   go_wp2_with fail
   exact bodyPost_ret (v := .int .u8 o) (by simp [results, Tryz.results142, go_sem]) rfl ⟨by rw [HE.out], K', HP.out⟩)
set_option maxRecDepth 100000 in
set_option maxHeartbeats 4000000 in
theorem z142_5 (m : Hp) (w0 : World) (lb : Nat) (p : Value) (B g d : Nat) (hC : SumC m w0 lb p B g d) (c : C) (t : List C) (names : List Nm) (nums : List Int) (o : Int) (rest : List C) (names' : List Nm) (K : Nat) (v : Value) (w : World) (bl bf : Nat) (hs : Sms m d 2 t names [] 1 nums o rest names') (h2 : o = 1 → ∃ x y, nums = [x, y]) (hb : Below w0.heap.size w0 w) (hL : Lk w w0.heap.size lb p B g names K) (hT : TermAt w0 v (c :: t)) (hW : ∀ x ∈ t, wfN (x.vn, x.vk)) (hK : K + t.length < 999999999) (hbl : w.heap[bl]? = some (.cells #[pv lb] 78 (0, 0))) (hbf : w.heap[bf]? = some (.cells #[.func (Fn.func 113) #[] #[]] 145 (0, 0))) :
  Calls Tryz.prog 142 #[v, pv bl, pv bf] w (GdPost w0 lb p B g (cmpO 5 nums o) names' (K + t.length) w) := by
 obtain ⟨b, ob, cap, pp, rfl, hcap, hcm, hpp, HTt⟩ := tail_at hT
 have H93 : Hid (∀ W, Below w.heap.size w W → Calls Tryz.prog 104 #[pv lb, .slice pp t.length (cap - 1), .int .i64 2] W (SumsPost w0 lb p B g nums o rest names' (K + t.length) W)) := fun W hWw => h93 m w0 lb p B g d hC 2 (by decide) t names nums o rest names' _ W K hs (hb.trans (hWw.mono hb.size)) (hL.below hWw) HTt.out hW hK
 have hge : (1 : Int) ≤ (t.length : Int) + 1 := by omega
 have HBf : Hid (w.heap[bf]? = some (.cells #[.func (Fn.func 113) #[] #[]] 145 (0, 0))) := hbf
 have H2 : Hid (o = 1 → ∃ x y, nums = [x, y]) := h2
 have c0 := cell0 hbl
 have c1 := cell0 hbf
 clear hC hs hb hL hT hW hbl hbf h2
 go_enter Tryz.func142, Tryz.ntmps142
 go_wp2_with fail
 go_region_with (go_at_call 104; refine (H93.out _ (Below.drew (Below.refl _ _))).mono ?_; rintro e w2 ⟨nv, rv, K', rfl, hI, hTr, hL2, hK2, hW2, hb2, hk2⟩)
 all_goals (
  have hk2' : KeepT w w2 := (KeepT.of_below (Below.drew (Below.refl _ _))).trans hk2
  have HP : Hid (Lk w2 w0.heap.size lb p B g names' K' ∧ K' ≤ K + t.length ∧ Below w0.heap.size w0 w2 ∧ KeepT w w2) := ⟨hL2, by omega, hb2, hk2'⟩
  have q1 : w2.cell? ⟨bf, 0, none⟩ = some (.func (Fn.func 113) #[] #[]) := cell0 (hk2'.2 _ _ _ _ HBf.out (by decide) (by decide))
  obtain ⟨na, nc, e1⟩ := hI.form
  obtain ⟨ra, rc, e2⟩ := hTr.form
  subst e1 e2
  have HI : Hid (IntsR w2 (.slice na nums.length nc) nums) := hI
  clear hI hTr hL2 hK2 hW2 hb2 hk2 hk2' c0 c1 H93 HBf
  by_cases ho : o = 1
  ·obtain ⟨x, y, rfl⟩ := H2.out ho
   subst ho
   have HE : Hid (cmpO 5 [x, y] 1 = outO (cmpB 5 x y)) := rfl
   rw [HE.out]
   obtain ⟨b3, o3, cp3, e3, c3, _⟩ := HI.out.at 0 (by simp)
   obtain ⟨b4, o4, cp4, e4, c4, _⟩ := HI.out.at 1 (by simp)
   simp only [Value.slice.injEq] at e3 e4
   obtain ⟨rfl, _, rfl⟩ := e3
   simp only [Option.some.injEq, Addr.mk.injEq] at e4
   obtain ⟨⟨rfl, rfl, _⟩, _, rfl⟩ := e4
   simp only [List.getElem_cons_zero, List.getElem_cons_succ, Nat.add_zero] at c3 c4
   have hS : CnS bf b3 o3 113 x y w2.drew := ⟨q1, c3, c4⟩
   clear H2 HE HI
   simp only [List.length_cons, List.length_nil, Nat.zero_add, Nat.reduceAdd]
   go_wp2_with fail
   refine wp_region_noPanic ?_
   refine wp_region_held_drew (S := fun w' => CnS bf b3 o3 113 x y w') (by kernel_rfl) hS (fun hHeld => ?_)
   refine wpAnyH_take (i := 0) (v := ?_) (by simp only [List.getElem?_toArray, List.getElem?_cons_zero]; rfl) (by kernel_rfl) (by kernel_rfl) (by kernel_rfl) (fun _ _ _ h => h) (Or.inl ⟨by rfl, ?_⟩) (by assumption) ?_
   rotate_left
   ·(intro w hSw; (try dsimp only at hSw); go_simp <;> with_reducible rfl)
   try simp only [Act.put, List.setIfInBounds_toArray, List.set_cons_zero, List.set_cons_succ]
   refine wpAnyH_take (i := 1) (v := ?_) (by simp only [List.getElem?_toArray, List.getElem?_cons_zero, List.getElem?_cons_succ]; rfl) (by kernel_rfl) (by kernel_rfl) (by kernel_rfl) (fun _ _ _ h => h) (Or.inl ⟨by rfl, ?_⟩) (by assumption) ?_
   rotate_left
   ·(intro w hSw; (try dsimp only at hSw); go_simp <;> with_reducible rfl)
   try simp only [Act.put, List.setIfInBounds_toArray, List.set_cons_zero, List.set_cons_succ]
   refine wpAnyH_take (i := 2) (v := ?_) (by simp only [List.getElem?_toArray, List.getElem?_cons_zero, List.getElem?_cons_succ]; rfl) (by kernel_rfl) (by kernel_rfl) (by kernel_rfl) (fun _ _ _ h => h) (Or.inl ⟨by rfl, ?_⟩) (by assumption) ?_
   rotate_left
   ·(intro w hSw; (try dsimp only at hSw); go_simp <;> with_reducible rfl)
   try simp only [Act.put, List.setIfInBounds_toArray, List.set_cons_zero, List.set_cons_succ]
   refine wpAnyH_take (i := 3) (v := ?_) (by simp only [List.getElem?_toArray, List.getElem?_cons_zero, List.getElem?_cons_succ]; rfl) (by kernel_rfl) (by kernel_rfl) (by kernel_rfl) (fun _ _ _ h => h) (Or.inl ⟨by rfl, ?_⟩) (by assumption) ?_
   rotate_left
   ·(intro w hSw; (try dsimp only at hSw); go_simp <;> with_reducible rfl)
   try simp only [Act.put, List.setIfInBounds_toArray, List.set_cons_zero, List.set_cons_succ]
   refine wpAnyH_take (i := 4) (v := ?_) (by simp only [List.getElem?_toArray, List.getElem?_cons_zero, List.getElem?_cons_succ]; rfl) (by kernel_rfl) (by kernel_rfl) (by kernel_rfl) (fun _ _ _ h => h) (Or.inl ⟨by rfl, ?_⟩) (by assumption) ?_
   rotate_left
   ·(intro w hSw; (try dsimp only at hSw); go_simp <;> with_reducible rfl)
   try simp only [Act.put, List.setIfInBounds_toArray, List.set_cons_zero, List.set_cons_succ]
   refine wpAnyH_take (i := 5) (v := ?_) (by simp only [List.getElem?_toArray, List.getElem?_cons_zero, List.getElem?_cons_succ]; rfl) (by kernel_rfl) (by kernel_rfl) (by kernel_rfl) (fun _ _ _ h => h) (Or.inl ⟨by rfl, ?_⟩) (by assumption) ?_
   rotate_left
   ·(intro w hSw; (try dsimp only at hSw); go_simp <;> with_reducible rfl)
   try simp only [Act.put, List.setIfInBounds_toArray, List.set_cons_zero, List.set_cons_succ]
   refine wpAnyH_take (i := 6) (v := ?_) (by simp only [List.getElem?_toArray, List.getElem?_cons_zero, List.getElem?_cons_succ]; rfl) (by kernel_rfl) (by kernel_rfl) (by kernel_rfl) (fun _ _ _ h => h) (Or.inl ⟨by rfl, ?_⟩) (by assumption) ?_
   rotate_left
   ·(intro w hSw; (try dsimp only at hSw); go_simp <;> with_reducible rfl)
   try simp only [Act.put, List.setIfInBounds_toArray, List.set_cons_zero, List.set_cons_succ]
   refine wpAnyH_ready (rs := [7]) (by kernel_rfl) (by simp) ?_
   refine AllReadyH.cons (by simp only [List.getElem?_toArray, List.getElem?_cons_zero, List.getElem?_cons_succ]; rfl) (fun K hK => ?_) AllReadyH.nil
   go_simp
   go_at_call 113
   refine (z113 x y _).mono ?_
   rintro e w5 ⟨rfl, hw5⟩
   obtain rfl := hw5
   refine hK.out _ _ ?_ (fun hHeld => ?_)
   ·exact (by assumption)
   clear hK K
   try simp only [Act.put, List.setIfInBounds_toArray, List.set_cons_zero, List.set_cons_succ]
   refine wpAnyH_ready (rs := [8]) (by kernel_rfl) (by simp) ?_
   refine AllReadyH.cons (by simp only [List.getElem?_toArray, List.getElem?_cons_zero, List.getElem?_cons_succ]; rfl) (fun K hK => ?_) AllReadyH.nil
   go_simp
   go_at_call 143
   refine (z143 (cmpB 5 x y) _).mono ?_
   rintro e w6 ⟨rfl, hw6⟩
   obtain rfl := hw6
   refine hK.out _ _ ?_ (fun hHeld => ?_)
   ·exact (by assumption)
   clear hK K
   try simp only [Act.put, List.setIfInBounds_toArray, List.set_cons_zero, List.set_cons_succ]
   refine wpAnyH_take (i := 9) (v := ?_) (by simp only [List.getElem?_toArray, List.getElem?_cons_zero, List.getElem?_cons_succ]; rfl) (by kernel_rfl) (by kernel_rfl) (by kernel_rfl) (fun _ _ _ h => h) (Or.inl ⟨by rfl, ?_⟩) (by assumption) ?_
   rotate_left
   ·(intro w hSw; (try dsimp only at hSw); go_simp <;> with_reducible rfl)
   try simp only [Act.put, List.setIfInBounds_toArray, List.set_cons_zero, List.set_cons_succ]
   refine wpAnyH_done (by kernel_rfl) ?_ _
   refine NoPanic.normal ?_
   clear hHeld hS
   go_wp2_with fail
   exact bodyPost_ret (v := .int .u8 (outO (cmpB 5 x y))) (by simp [results, Tryz.results142, go_sem]) rfl ⟨rfl, K', HP.out.1.below ((Below.refl _ _).drew), HP.out.2.1, HP.out.2.2.1.drew, HP.out.2.2.2.trans (KeepT.of_below ((Below.refl _ _).drew))⟩
  ·have HE : Hid (cmpO 5 nums o = o) := by show cmpO 5 nums o = o; unfold cmpO; rw [if_neg ho]
   rw [HE.out]
   have hne : (o != 1) = true := by simpa using ho
   go_wp2_with fail
   exact bodyPost_ret (v := .int .u8 o) (by simp [results, Tryz.results142, go_sem]) rfl ⟨by rw [HE.out], K', HP.out⟩)
set_option maxRecDepth 100000 in
set_option maxHeartbeats 4000000 in
theorem z142_6 (m : Hp) (w0 : World) (lb : Nat) (p : Value) (B g d : Nat) (hC : SumC m w0 lb p B g d) (c : C) (t : List C) (names : List Nm) (nums : List Int) (o : Int) (rest : List C) (names' : List Nm) (K : Nat) (v : Value) (w : World) (bl bf : Nat) (hs : Sms m d 2 t names [] 1 nums o rest names') (h2 : o = 1 → ∃ x y, nums = [x, y]) (hb : Below w0.heap.size w0 w) (hL : Lk w w0.heap.size lb p B g names K) (hT : TermAt w0 v (c :: t)) (hW : ∀ x ∈ t, wfN (x.vn, x.vk)) (hK : K + t.length < 999999999) (hbl : w.heap[bl]? = some (.cells #[pv lb] 78 (0, 0))) (hbf : w.heap[bf]? = some (.cells #[.func (Fn.func 114) #[] #[]] 145 (0, 0))) :
  Calls Tryz.prog 142 #[v, pv bl, pv bf] w (GdPost w0 lb p B g (cmpO 6 nums o) names' (K + t.length) w) := by
 obtain ⟨b, ob, cap, pp, rfl, hcap, hcm, hpp, HTt⟩ := tail_at hT
 have H93 : Hid (∀ W, Below w.heap.size w W → Calls Tryz.prog 104 #[pv lb, .slice pp t.length (cap - 1), .int .i64 2] W (SumsPost w0 lb p B g nums o rest names' (K + t.length) W)) := fun W hWw => h93 m w0 lb p B g d hC 2 (by decide) t names nums o rest names' _ W K hs (hb.trans (hWw.mono hb.size)) (hL.below hWw) HTt.out hW hK
 have hge : (1 : Int) ≤ (t.length : Int) + 1 := by omega
 have HBf : Hid (w.heap[bf]? = some (.cells #[.func (Fn.func 114) #[] #[]] 145 (0, 0))) := hbf
 have H2 : Hid (o = 1 → ∃ x y, nums = [x, y]) := h2
 have c0 := cell0 hbl
 have c1 := cell0 hbf
 clear hC hs hb hL hT hW hbl hbf h2
 go_enter Tryz.func142, Tryz.ntmps142
 go_wp2_with fail
 go_region_with (go_at_call 104; refine (H93.out _ (Below.drew (Below.refl _ _))).mono ?_; rintro e w2 ⟨nv, rv, K', rfl, hI, hTr, hL2, hK2, hW2, hb2, hk2⟩)
 all_goals (
  have hk2' : KeepT w w2 := (KeepT.of_below (Below.drew (Below.refl _ _))).trans hk2
  have HP : Hid (Lk w2 w0.heap.size lb p B g names' K' ∧ K' ≤ K + t.length ∧ Below w0.heap.size w0 w2 ∧ KeepT w w2) := ⟨hL2, by omega, hb2, hk2'⟩
  have q1 : w2.cell? ⟨bf, 0, none⟩ = some (.func (Fn.func 114) #[] #[]) := cell0 (hk2'.2 _ _ _ _ HBf.out (by decide) (by decide))
  obtain ⟨na, nc, e1⟩ := hI.form
  obtain ⟨ra, rc, e2⟩ := hTr.form
  subst e1 e2
  have HI : Hid (IntsR w2 (.slice na nums.length nc) nums) := hI
  clear hI hTr hL2 hK2 hW2 hb2 hk2 hk2' c0 c1 H93 HBf
  by_cases ho : o = 1
  ·obtain ⟨x, y, rfl⟩ := H2.out ho
   subst ho
   have HE : Hid (cmpO 6 [x, y] 1 = outO (cmpB 6 x y)) := rfl
   rw [HE.out]
   obtain ⟨b3, o3, cp3, e3, c3, _⟩ := HI.out.at 0 (by simp)
   obtain ⟨b4, o4, cp4, e4, c4, _⟩ := HI.out.at 1 (by simp)
   simp only [Value.slice.injEq] at e3 e4
   obtain ⟨rfl, _, rfl⟩ := e3
   simp only [Option.some.injEq, Addr.mk.injEq] at e4
   obtain ⟨⟨rfl, rfl, _⟩, _, rfl⟩ := e4
   simp only [List.getElem_cons_zero, List.getElem_cons_succ, Nat.add_zero] at c3 c4
   have hS : CnS bf b3 o3 114 x y w2.drew := ⟨q1, c3, c4⟩
   clear H2 HE HI
   simp only [List.length_cons, List.length_nil, Nat.zero_add, Nat.reduceAdd]
   go_wp2_with fail
   refine wp_region_noPanic ?_
   refine wp_region_held_drew (S := fun w' => CnS bf b3 o3 114 x y w') (by kernel_rfl) hS (fun hHeld => ?_)
   refine wpAnyH_take (i := 0) (v := ?_) (by simp only [List.getElem?_toArray, List.getElem?_cons_zero]; rfl) (by kernel_rfl) (by kernel_rfl) (by kernel_rfl) (fun _ _ _ h => h) (Or.inl ⟨by rfl, ?_⟩) (by assumption) ?_
   rotate_left
   ·(intro w hSw; (try dsimp only at hSw); go_simp <;> with_reducible rfl)
   try simp only [Act.put, List.setIfInBounds_toArray, List.set_cons_zero, List.set_cons_succ]
   refine wpAnyH_take (i := 1) (v := ?_) (by simp only [List.getElem?_toArray, List.getElem?_cons_zero, List.getElem?_cons_succ]; rfl) (by kernel_rfl) (by kernel_rfl) (by kernel_rfl) (fun _ _ _ h => h) (Or.inl ⟨by rfl, ?_⟩) (by assumption) ?_
   rotate_left
   ·(intro w hSw; (try dsimp only at hSw); go_simp <;> with_reducible rfl)
   try simp only [Act.put, List.setIfInBounds_toArray, List.set_cons_zero, List.set_cons_succ]
   refine wpAnyH_take (i := 2) (v := ?_) (by simp only [List.getElem?_toArray, List.getElem?_cons_zero, List.getElem?_cons_succ]; rfl) (by kernel_rfl) (by kernel_rfl) (by kernel_rfl) (fun _ _ _ h => h) (Or.inl ⟨by rfl, ?_⟩) (by assumption) ?_
   rotate_left
   ·(intro w hSw; (try dsimp only at hSw); go_simp <;> with_reducible rfl)
   try simp only [Act.put, List.setIfInBounds_toArray, List.set_cons_zero, List.set_cons_succ]
   refine wpAnyH_take (i := 3) (v := ?_) (by simp only [List.getElem?_toArray, List.getElem?_cons_zero, List.getElem?_cons_succ]; rfl) (by kernel_rfl) (by kernel_rfl) (by kernel_rfl) (fun _ _ _ h => h) (Or.inl ⟨by rfl, ?_⟩) (by assumption) ?_
   rotate_left
   ·(intro w hSw; (try dsimp only at hSw); go_simp <;> with_reducible rfl)
   try simp only [Act.put, List.setIfInBounds_toArray, List.set_cons_zero, List.set_cons_succ]
   refine wpAnyH_take (i := 4) (v := ?_) (by simp only [List.getElem?_toArray, List.getElem?_cons_zero, List.getElem?_cons_succ]; rfl) (by kernel_rfl) (by kernel_rfl) (by kernel_rfl) (fun _ _ _ h => h) (Or.inl ⟨by rfl, ?_⟩) (by assumption) ?_
   rotate_left
   ·(intro w hSw; (try dsimp only at hSw); go_simp <;> with_reducible rfl)
   try simp only [Act.put, List.setIfInBounds_toArray, List.set_cons_zero, List.set_cons_succ]
   refine wpAnyH_take (i := 5) (v := ?_) (by simp only [List.getElem?_toArray, List.getElem?_cons_zero, List.getElem?_cons_succ]; rfl) (by kernel_rfl) (by kernel_rfl) (by kernel_rfl) (fun _ _ _ h => h) (Or.inl ⟨by rfl, ?_⟩) (by assumption) ?_
   rotate_left
   ·(intro w hSw; (try dsimp only at hSw); go_simp <;> with_reducible rfl)
   try simp only [Act.put, List.setIfInBounds_toArray, List.set_cons_zero, List.set_cons_succ]
   refine wpAnyH_take (i := 6) (v := ?_) (by simp only [List.getElem?_toArray, List.getElem?_cons_zero, List.getElem?_cons_succ]; rfl) (by kernel_rfl) (by kernel_rfl) (by kernel_rfl) (fun _ _ _ h => h) (Or.inl ⟨by rfl, ?_⟩) (by assumption) ?_
   rotate_left
   ·(intro w hSw; (try dsimp only at hSw); go_simp <;> with_reducible rfl)
   try simp only [Act.put, List.setIfInBounds_toArray, List.set_cons_zero, List.set_cons_succ]
   refine wpAnyH_ready (rs := [7]) (by kernel_rfl) (by simp) ?_
   refine AllReadyH.cons (by simp only [List.getElem?_toArray, List.getElem?_cons_zero, List.getElem?_cons_succ]; rfl) (fun K hK => ?_) AllReadyH.nil
   go_simp
   go_at_call 114
   refine (z114 x y _).mono ?_
   rintro e w5 ⟨rfl, hw5⟩
   obtain rfl := hw5
   refine hK.out _ _ ?_ (fun hHeld => ?_)
   ·exact (by assumption)
   clear hK K
   try simp only [Act.put, List.setIfInBounds_toArray, List.set_cons_zero, List.set_cons_succ]
   refine wpAnyH_ready (rs := [8]) (by kernel_rfl) (by simp) ?_
   refine AllReadyH.cons (by simp only [List.getElem?_toArray, List.getElem?_cons_zero, List.getElem?_cons_succ]; rfl) (fun K hK => ?_) AllReadyH.nil
   go_simp
   go_at_call 143
   refine (z143 (cmpB 6 x y) _).mono ?_
   rintro e w6 ⟨rfl, hw6⟩
   obtain rfl := hw6
   refine hK.out _ _ ?_ (fun hHeld => ?_)
   ·exact (by assumption)
   clear hK K
   try simp only [Act.put, List.setIfInBounds_toArray, List.set_cons_zero, List.set_cons_succ]
   refine wpAnyH_take (i := 9) (v := ?_) (by simp only [List.getElem?_toArray, List.getElem?_cons_zero, List.getElem?_cons_succ]; rfl) (by kernel_rfl) (by kernel_rfl) (by kernel_rfl) (fun _ _ _ h => h) (Or.inl ⟨by rfl, ?_⟩) (by assumption) ?_
   rotate_left
   ·(intro w hSw; (try dsimp only at hSw); go_simp <;> with_reducible rfl)
   try simp only [Act.put, List.setIfInBounds_toArray, List.set_cons_zero, List.set_cons_succ]
   refine wpAnyH_done (by kernel_rfl) ?_ _
   refine NoPanic.normal ?_
   clear hHeld hS
   go_wp2_with fail
   exact bodyPost_ret (v := .int .u8 (outO (cmpB 6 x y))) (by simp [results, Tryz.results142, go_sem]) rfl ⟨rfl, K', HP.out.1.below ((Below.refl _ _).drew), HP.out.2.1, HP.out.2.2.1.drew, HP.out.2.2.2.trans (KeepT.of_below ((Below.refl _ _).drew))⟩
  ·have HE : Hid (cmpO 6 nums o = o) := by show cmpO 6 nums o = o; unfold cmpO; rw [if_neg ho]
   rw [HE.out]
   have hne : (o != 1) = true := by simpa using ho
   go_wp2_with fail
   exact bodyPost_ret (v := .int .u8 o) (by simp [results, Tryz.results142, go_sem]) rfl ⟨by rw [HE.out], K', HP.out⟩)
end Go.Proofs.YtaehhophaaipdaaGreatDoor
