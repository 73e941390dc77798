/- Contracts of the order of names as a sort asks for it, of SortFunc at names, SortedFunc, maps.Keys, order.Keys. -/
import Derived.Test.YtljggjllijacjaaGreatDoorSKg
import Derived.Test.YtljggjllijacjaaGreatDoorKY2g
import Derived.Test.YtljggjllijacjaaGreatDoorHP2g
namespace Go.Proofs.YtljggjllijacjaaGreatDoor
open Go.RowKit Go.Sort
attribute [local go_sem ↓] Go.wp_at_zero Go.wp_at_succ
/-- Two names in blocks. -/
abbrev NgS (w2 : World) (b1 b2 : Nat) (x1 x2 y1 y2 : Int) (w' : World) : Prop :=
 w'.cell? ⟨b1, 0, none⟩ = some (.int .i64 x1) ∧ w'.cell? ⟨b1, 1, none⟩ = some (.int .i64 x2) ∧ w'.cell? ⟨b2, 0, none⟩ = some (.int .i64 y1) ∧ w'.cell? ⟨b2, 1, none⟩ = some (.int .i64 y2) ∧ Hid (Gr w2 w' ∧ b1 < w2.heap.size ∧ b2 < w2.heap.size)
theorem ngS_gr {w2 : World} {b1 b2 : Nat} {x1 x2 y1 y2 : Int} {w' : World} (h : NgS w2 b1 b2 x1 x2 y1 y2 w') : Gr w2 w' := h.2.2.2.2.out.1
theorem ngS_to {w2 : World} {b1 b2 : Nat} {x1 x2 y1 y2 : Int} {w' w'' : World} (h : NgS w2 b1 b2 x1 x2 y1 y2 w') (hb : Gr w2 w'') : NgS w2 b1 b2 x1 x2 y1 y2 w'' := by
 obtain ⟨h1, h2, h3, h4, h5⟩ := h
 have h9 := h5.out
 have t : ∀ q j u, q < w2.heap.size → w'.cell? ⟨q, j, none⟩ = some u → w''.cell? ⟨q, j, none⟩ = some u := fun q j u hq hu =>
  (hb.bel.cell (p := ⟨q, j, none⟩) hq).trans ((h9.1.bel.cell (p := ⟨q, j, none⟩) hq).symm.trans hu)
 exact ⟨t _ _ _ h9.2.1 h1, t _ _ _ h9.2.1 h2, t _ _ _ h9.2.2 h3, t _ _ _ h9.2.2 h4, hb, h9.2⟩
theorem ngS_drew {w2 : World} {b1 b2 : Nat} {x1 x2 y1 y2 : Int} {w' : World} (h : NgS w2 b1 b2 x1 x2 y1 y2 w') : NgS w2 b1 b2 x1 x2 y1 y2 w'.drew := ngS_to h (ngS_gr h).drew
theorem ngS_alloc {w2 : World} {b1 b2 : Nat} {x1 x2 y1 y2 : Int} {w' : World} (h : NgS w2 b1 b2 x1 x2 y1 y2 w') (ob : Obj) : NgS w2 b1 b2 x1 x2 y1 y2 (w'.alloc ob) := ngS_to h ((ngS_gr h).alloc ob)
set_option maxRecDepth 100000 in
set_option maxHeartbeats 2000000 in
theorem y46 (x1 x2 y1 y2 : Int) (w : World) : Calls Tryz.prog 78 #[.agg #[.int .i64 x1, .int .i64 x2], .agg #[.int .i64 y1, .int .i64 y2]] w fun e w' => e = .returned (.int .i64 (namesS x1 x2 y1 y2)) ∧ Gr w w' := by
 have hS0 : NgS ((w.alloc (.cells #[.int .i64 x1, .int .i64 x2] 32)).alloc (.cells #[.int .i64 y1, .int .i64 y2] 32)) w.heap.size (w.heap.size + 1) x1 x2 y1 y2 ((w.alloc (.cells #[.int .i64 x1, .int .i64 x2] 32)).alloc (.cells #[.int .i64 y1, .int .i64 y2] 32)) := by
  obtain ⟨h1, h2, h3, h4, h5⟩ := two_boxes w x1 x2 y1 y2
  exact ⟨h1, h2, h3, h4, Gr.refl _, h5.out.2⟩
 have HB0 : Hid (Gr w ((w.alloc (.cells #[.int .i64 x1, .int .i64 x2] 32)).alloc (.cells #[.int .i64 y1, .int .i64 y2] 32))) := ((Gr.refl w).alloc _).alloc _
 go_enter Tryz.func78, Tryz.ntmps78
 go_wp2_with fail
 generalize hW : (w.alloc (.cells #[.int .i64 x1, .int .i64 x2] 32)).alloc (.cells #[.int .i64 y1, .int .i64 y2] 32) = w2 at *
 clear hW
 refine wp_region_noPanic ?_
 refine wp_region_held_drew (S := fun w' => NgS w2 w.heap.size (w.heap.size + 1) x1 x2 y1 y2 w') (by kernel_rfl) (ngS_drew hS0) (fun hHeld => ?_)
 refine wpAnyH_take (i := 0) (v := ?_) (by simp only [List.getElem?_toArray, List.getElem?_cons_zero]; rfl) (by kernel_rfl) (by kernel_rfl) (by kernel_rfl) (fun _ _ _ h => h) (Or.inl ⟨by rfl, ?_⟩) (by assumption) ?_
 rotate_left
 ·(intro w hSw; (try dsimp only at hSw); go_simp <;> with_reducible rfl)
 try simp only [Act.put, List.setIfInBounds_toArray, List.set_cons_zero, List.set_cons_succ]
 refine wpAnyH_take (i := 1) (v := ?_) (by simp only [List.getElem?_toArray, List.getElem?_cons_zero, List.getElem?_cons_succ]; rfl) (by kernel_rfl) (by kernel_rfl) (by kernel_rfl) (fun _ _ _ h => h) (Or.inl ⟨by rfl, ?_⟩) (by assumption) ?_
 rotate_left
 ·(intro w hSw; (try dsimp only at hSw); go_simp <;> with_reducible rfl)
 try simp only [Act.put, List.setIfInBounds_toArray, List.set_cons_zero, List.set_cons_succ]
 refine wpAnyH_take (i := 2) (v := ?_) (by simp only [List.getElem?_toArray, List.getElem?_cons_zero, List.getElem?_cons_succ]; rfl) (by kernel_rfl) (by kernel_rfl) (by kernel_rfl) (fun _ _ _ h => h) (Or.inl ⟨by rfl, ?_⟩) (by assumption) ?_
 rotate_left
 ·(intro w hSw; (try dsimp only at hSw); go_simp <;> with_reducible rfl)
 try simp only [Act.put, List.setIfInBounds_toArray, List.set_cons_zero, List.set_cons_succ]
 refine wpAnyH_take (i := 3) (v := ?_) (by simp only [List.getElem?_toArray, List.getElem?_cons_zero, List.getElem?_cons_succ]; rfl) (by kernel_rfl) (by kernel_rfl) (by kernel_rfl) (fun _ _ _ h => h) (Or.inl ⟨by rfl, ?_⟩) (by assumption) ?_
 rotate_left
 ·(intro w hSw; (try dsimp only at hSw); go_simp <;> with_reducible rfl)
 try simp only [Act.put, List.setIfInBounds_toArray, List.set_cons_zero, List.set_cons_succ]
 refine wpAnyH_take (i := 5) (v := ?_) (by simp only [List.getElem?_toArray, List.getElem?_cons_zero, List.getElem?_cons_succ]; rfl) (by kernel_rfl) (by kernel_rfl) (by kernel_rfl) (fun _ _ _ h => h) (Or.inl ⟨by rfl, ?_⟩) (by assumption) ?_
 rotate_left
 ·(intro w hSw; (try dsimp only at hSw); go_simp <;> with_reducible rfl)
 try simp only [Act.put, List.setIfInBounds_toArray, List.set_cons_zero, List.set_cons_succ]
 refine wpAnyH_take (i := 6) (v := ?_) (by simp only [List.getElem?_toArray, List.getElem?_cons_zero, List.getElem?_cons_succ]; rfl) (by kernel_rfl) (by kernel_rfl) (by kernel_rfl) (fun _ _ _ h => h) (Or.inl ⟨by rfl, ?_⟩) (by assumption) ?_
 rotate_left
 ·(intro w hSw; (try dsimp only at hSw); go_simp <;> with_reducible rfl)
 try simp only [Act.put, List.setIfInBounds_toArray, List.set_cons_zero, List.set_cons_succ]
 refine wpAnyH_take (i := 7) (v := ?_) (by simp only [List.getElem?_toArray, List.getElem?_cons_zero, List.getElem?_cons_succ]; rfl) (by kernel_rfl) (by kernel_rfl) (by kernel_rfl) (fun _ _ _ h => h) (Or.inl ⟨by rfl, ?_⟩) (by assumption) ?_
 rotate_left
 ·(intro w hSw; (try dsimp only at hSw); go_simp <;> with_reducible rfl)
 try simp only [Act.put, List.setIfInBounds_toArray, List.set_cons_zero, List.set_cons_succ]
 refine wpAnyH_take (i := 8) (v := ?_) (by simp only [List.getElem?_toArray, List.getElem?_cons_zero, List.getElem?_cons_succ]; rfl) (by kernel_rfl) (by kernel_rfl) (by kernel_rfl) (fun _ _ _ h => h) (Or.inl ⟨by rfl, ?_⟩) (by assumption) ?_
 rotate_left
 ·(intro w hSw; (try dsimp only at hSw); go_simp <;> with_reducible rfl)
 try simp only [Act.put, List.setIfInBounds_toArray, List.set_cons_zero, List.set_cons_succ]
 refine wpAnyH_ready (rs := [4]) (by kernel_rfl) (by simp) ?_
 refine AllReadyH.cons (by simp only [List.getElem?_toArray, List.getElem?_cons_zero, List.getElem?_cons_succ]; rfl) (fun K hK => ?_) AllReadyH.nil
 go_simp
 go_at_call 101
 refine (h68 _ _ _).mono ?_
 rintro e w3 ⟨rfl, hw3⟩
 obtain rfl := hw3
 refine hK.out _ _ ?_ (fun hHeld => ?_)
 ·exact (by assumption)
 clear hK K
 try simp only [Act.put, List.setIfInBounds_toArray, List.set_cons_zero, List.set_cons_succ]
 refine wpAnyH_ready (rs := [9]) (by kernel_rfl) (by simp) ?_
 refine AllReadyH.cons (by simp only [List.getElem?_toArray, List.getElem?_cons_zero, List.getElem?_cons_succ]; rfl) (fun K hK => ?_) AllReadyH.nil
 go_simp
 go_at_call 101
 refine (h68 _ _ _).mono ?_
 rintro e w4 ⟨rfl, hw4⟩
 obtain rfl := hw4
 refine hK.out _ _ ?_ (fun hHeld => ?_)
 ·exact (by assumption)
 clear hK K
 try simp only [Act.put, List.setIfInBounds_toArray, List.set_cons_zero, List.set_cons_succ]
 refine wpAnyH_ready (rs := [10]) (by kernel_rfl) (by simp) ?_
 refine AllReadyH.cons (by simp only [List.getElem?_toArray, List.getElem?_cons_zero, List.getElem?_cons_succ]; rfl) (fun K hK => ?_) AllReadyH.nil
 go_simp
 refine hK.out _ _ ?_ (fun hHeld => ?_)
 ·exact ngS_alloc (by assumption) _
 clear hK K
 try simp only [Act.put, List.setIfInBounds_toArray, List.set_cons_zero, List.set_cons_succ]
 refine wpAnyH_ready (rs := [11]) (by kernel_rfl) (by simp) ?_
 refine AllReadyH.cons (by simp only [List.getElem?_toArray, List.getElem?_cons_zero, List.getElem?_cons_succ]; rfl) (fun K hK => ?_) AllReadyH.nil
 go_simp
 go_at_call 100
 refine (h67 (cmpI x1 y1) (cmpI x2 y2) w2.heap.size _ (by exact heap_alloc_new w2 _)).mono ?_
 rintro e w5 ⟨rfl, hw5⟩
 obtain rfl := hw5
 refine hK.out _ _ ?_ (fun hHeld => ?_)
 ·exact (by assumption)
 clear hK K
 try simp only [Act.put, List.setIfInBounds_toArray, List.set_cons_zero, List.set_cons_succ]
 refine wpAnyH_take (i := 12) (v := ?_) (by simp only [List.getElem?_toArray, List.getElem?_cons_zero, List.getElem?_cons_succ]; rfl) (by kernel_rfl) (by kernel_rfl) (by kernel_rfl) (fun _ _ _ h => h) (Or.inl ⟨by rfl, ?_⟩) (by assumption) ?_
 rotate_left
 ·(intro w hSw; (try dsimp only at hSw); go_simp <;> with_reducible rfl)
 try simp only [Act.put, List.setIfInBounds_toArray, List.set_cons_zero, List.set_cons_succ]
 refine wpAnyH_done (by kernel_rfl) ?_ _
 refine NoPanic.normal ?_
 have hbf := ngS_gr (w2 := w2) (by assumption)
 go_wp2_with fail
 go_ret
 exact ⟨rfl, HB0.out.trans hbf⟩
def cfN (x y : Nm) : Int := namesS x.1 x.2 y.1 y.2
def ltN (x y : Nm) : Prop := x.1 < y.1 ∨ (x.1 = y.1 ∧ x.2 < y.2)
theorem cmpI_cases (x y : Int) : (cmpI x y = -1 ∧ x < y) ∨ (cmpI x y = 0 ∧ x = y) ∨ (cmpI x y = 1 ∧ y < x) := by
 unfold cmpI
 by_cases h : x < y
 ·rw [if_pos h]; exact .inl ⟨rfl, h⟩
 ·rw [if_neg h]
  by_cases h2 : y < x
  ·rw [if_pos h2]; exact .inr (.inr ⟨rfl, h2⟩)
  ·rw [if_neg h2]; exact .inr (.inl ⟨rfl, by omega⟩)
theorem ltN_iff (x y : Nm) : cfN x y < 0 ↔ ltN x y := by
 unfold cfN namesS orI ltN
 rcases cmpI_cases x.1 y.1 with ⟨e1, h1⟩ | ⟨e1, h1⟩ | ⟨e1, h1⟩ <;> rcases cmpI_cases x.2 y.2 with ⟨e2, h2⟩ | ⟨e2, h2⟩ | ⟨e2, h2⟩ <;> simp only [e1, e2] <;> simp <;> omega
theorem ltNB_iff (x y : Nm) : ltOf cfN x y = true ↔ ltN x y := by unfold ltOf; rw [decide_eq_true_eq]; exact ltN_iff x y
theorem ltNB_not (x y : Nm) : ltOf cfN x y = false ↔ ¬ ltN x y := by rw [← ltNB_iff]; simp
theorem ltN_irr (x : Nm) : ¬ ltN x x := by unfold ltN; omega
theorem ltN_tr (x y z : Nm) (h1 : ltN x y) (h2 : ltN y z) : ltN x z := by unfold ltN at *; omega
theorem ltN_tri (x y : Nm) (h : ¬ ltN y x) (hk : x ≠ y) : ltN x y := by
 obtain ⟨x1, x2⟩ := x
 obtain ⟨y1, y2⟩ := y
 simp only [ltN, ne_eq, Prod.mk.injEq] at *
 omega
theorem swoN : SWO (ltOf cfN) where
 irrefl x := (ltNB_not x x).2 (ltN_irr x)
 trans x y z h1 h2 := (ltNB_iff x z).2 (ltN_tr x y z ((ltNB_iff x y).1 h1) ((ltNB_iff y z).1 h2))
 ntrans x y z h1 h2 := by
  rw [ltNB_not] at *
  unfold ltN at *
  omega
theorem cmpLays46 (blk off size : Nat) (w : World) : CmpLays Tryz.prog 78 #[] encM 2 cfN blk off size w := fun m os dk _ x y => by
 refine (y46 x.1 x.2 y.1 y.2 _).mono fun e w' ⟨h1, h2⟩ => ⟨h1, ?_⟩
 obtain ⟨q, os', h3⟩ := h2.eq
 exact ⟨q, os', h3⟩
theorem y70g (g cap : Nat) (cur : Array Value) (l : List Nm) (w : World) (hb : w.heap[g]? = some (.cells cur 32 (0, 0))) (ht : cur.toList.take (l.length * 2) = l.flatMap encM) (hsz : l.length < 4611686018427387904) :
  Calls Tryz.prog 106 #[.slice (some ⟨g, 0, none⟩) l.length cap, .func (.func 78) #[] #[]] w fun e w' => e = .returned (.tuple #[]) ∧ ∃ d' n os, PermIn 0 l.toArray.size l.toArray d' ∧ SortedIn (ltOf cfN) 0 l.toArray.size d' ∧ w' = sortWorldK encM 2 w g 0 n d' os := by
 have eg : ∀ args w, (callFunc 78 args).run Tryz.prog w = .ok (.enter 78 args) w := enters_of Tryz.func78 (by kernel_rfl) rfl
 have hcon := AnyQ.slices_SortFunc Tryz.sortN 2 Tryz.isAgg32 Tryz.sizeOf32 encM encM_len encM_one cfN swoN 78 #[] g 0 cap l.toArray w eg (cmpLays46 g 0 l.toArray.size w) (holdsK_of_row encM_len hb ht) (Array.getElem?_eq_some_iff.1 hb).1 (by simpa using hsz)
 change Calls Tryz.prog 106 _ _ _ at hcon
 simpa using hcon
set_option maxRecDepth 100000 in
theorem y107 (n : Nat) (hn : n ≤ 1) (w : World) : Calls Tryz.prog 139 #[.int .u64 (n : Int)] w fun e w' => (∃ k, e = .returned (.int .i64 k)) ∧ w' = w := by
 have hn : n = 0 ∨ n = 1 := by omega
 rcases hn with rfl | rfl
 ·go_enter Tryz.func139, Tryz.ntmps139
  go_wp2_with fail
  go_ret
  exact ⟨⟨_, rfl⟩, rfl⟩
 ·go_enter Tryz.func139, Tryz.ntmps139
  go_wp2_with fail
  go_ret
  exact ⟨⟨_, rfl⟩, rfl⟩
set_option maxRecDepth 100000 in
theorem y91 (n : Nat) (hn : n ≤ 1) (w : World) : Calls Tryz.prog 117 #[.int .u64 (n : Int)] w fun e w' => (∃ k, e = .returned (.int .i64 k)) ∧ w' = w := by
 have H107 : Calls Tryz.prog 139 #[.int .u64 (n : Int)] w fun e w' => ∃ k, e = .returned (.int .i64 k) ∧ w' = w := by
  refine (y107 n hn w).mono ?_
  rintro e w' ⟨⟨k, rfl⟩, rfl⟩
  exact ⟨k, rfl, rfl⟩
 go_enter Tryz.func117, Tryz.ntmps117
 go_wp2_with fail
 refine H107.mono ?_
 rintro e w' ⟨k, rfl, hw⟩
 obtain rfl := hw.symm
 go_wp2_with fail
 go_ret
 exact ⟨⟨_, rfl⟩, rfl⟩
set_option maxRecDepth 100000 in
theorem y98 (a : Option Addr) (n c : Nat) (hn : n ≤ 1) (v : Value) (w : World) : Calls Tryz.prog 130 #[.slice a n c, .int .i64 0, .int .i64 (n : Int), v] w fun e w' => e = .returned (.tuple #[]) ∧ w' = w := by
 have h1 : ¬ (1 : Int) < (n : Int) := by omega
 go_enter Tryz.func130, Tryz.ntmps130
 go_wp2_with fail
 refine wp_loop_rounds 1 ?_
 rw [rounds_succ]
 go_wp2_with fail
 go_end0
 exact ⟨rfl, rfl⟩
set_option maxRecDepth 100000 in
theorem y90 (a : Option Addr) (n c : Nat) (hn : n ≤ 1) (k : Int) (v : Value) (w : World) : Calls Tryz.prog 116 #[.slice a n c, .int .i64 0, .int .i64 (n : Int), .int .i64 k, v] w fun e w' => e = .returned (.tuple #[]) ∧ w' = w := by
 have h1 : (n : Int) ≤ 12 := by omega
 go_enter Tryz.func116, Tryz.ntmps116
 go_wp2_with fail
 refine wp_loop_rounds 1 ?_
 rw [rounds_succ]
 go_wp2_with fail
 refine (y98 a n c hn v w).mono ?_
 rintro e w' ⟨rfl, hw⟩
 obtain rfl := hw.symm
 go_wp2_with fail
 exact bodyPost_ret (v := .tuple #[]) (by simp [results, Tryz.results116, go_sem]) rfl ⟨rfl, rfl⟩
set_option maxRecDepth 100000 in
theorem y70 (a : Option Addr) (n c : Nat) (hn : n ≤ 1) (v : Value) (w : World) : Calls Tryz.prog 106 #[.slice a n c, v] w fun e w' => e = .returned (.tuple #[]) ∧ w' = w := by
 have H91 : Calls Tryz.prog 117 #[.int .u64 (n : Int)] w fun e w' => ∃ k, e = .returned (.int .i64 k) ∧ w' = w := by
  refine (y91 n hn w).mono ?_
  rintro e w' ⟨⟨k, rfl⟩, rfl⟩
  exact ⟨k, rfl, rfl⟩
 have hw0 : IntKind.u64.wrap (n : Int) = (n : Int) := by
  simp only [IntKind.wrap, IntKind.bits, IntKind.signed]; simp; omega
 go_enter Tryz.func106, Tryz.ntmps106
 go_wp2_with fail
 refine H91.mono ?_
 rintro e w' ⟨k, rfl, hw⟩
 obtain rfl := hw.symm
 go_wp2_with fail
 refine (y90 a n c hn k v w).mono ?_
 rintro e w' ⟨rfl, hw⟩
 obtain rfl := hw.symm
 go_wp2_with fail
 go_end0
 exact ⟨rfl, rfl⟩
/-- All keys of a map, rising. -/
structure UpK {H : Type} (D : DataW H) (xs : List Nm) : Prop where
 all : ∀ x, x ∈ xs ↔ wfN x ∧ Maps.has D (kLit x) = true
 up : xs.Pairwise ltN
theorem up_of {H : Type} {D : DataW H} {l : List Nm} {d' : Array Nm} (hp : PermIn 0 l.toArray.size l.toArray d') (hs : SortedIn (ltOf cfN) 0 l.toArray.size d') (hall : AllK D l) : UpK D d'.toList ∧ d'.size = l.length := by
 obtain ⟨h1, _, h3⟩ := hp
 have h4 : d'.toList.Perm l := by
  have e1 : d'.extract 0 l.toArray.size = d' := by rw [← h1]; simp
  have e2 : l.toArray.extract 0 l.toArray.size = l.toArray := by simp
  rw [e1, e2] at h3
  exact h3
 have hnd' : d'.toList.Nodup := h4.nodup_iff.2 hall.1
 refine ⟨⟨fun x => (h4.mem_iff).trans (hall.2 x), ?_⟩, by simpa using h1⟩
 rw [List.pairwise_iff_getElem]
 intro i j hi hj hij
 have hsz : d'.toList.length = l.toArray.size := by simpa using h1
 have h5 := hs i j (Nat.zero_le _) hij (by omega)
 have hi' : i < d'.size := by simpa using hi
 have hj' : j < d'.size := by simpa using hj
 rw [getElem!_pos d' i hi', getElem!_pos d' j hj', ltNB_not] at h5
 refine ltN_tri _ _ (by simpa using h5) fun e => ?_
 exact (List.pairwise_iff_getElem.1 hnd') i j hi hj hij e
/-- What order.Keys tells. -/
def KeysTo {H : Type} (D : DataW H) (nn : Nat) (w : World) (v : Value) (w' : World) : Prop := ∃ xs, (UpK D xs ∧ xs.length ≤ nn) ∧ (∃ a c, v = .slice a xs.length c) ∧ w'.ownsRow w.heap.size 32 2 v xs.length (xs.flatMap encM) ∧ Below w.heap.size w w'
theorem y70r {H : Type} {D : DataW H} (nn : Nat) (w wr : World) (u : Value) (h : ColTo D nn w u wr) (hnn : nn ≤ 4000000000000) :
  Calls Tryz.prog 106 #[u, .func (.func 78) #[] #[]] wr fun e w' => e = .returned (.tuple #[]) ∧ Hid (KeysTo D nn w u w') := by
 obtain ⟨l, ⟨hall, hlen⟩, ⟨a, c, rfl⟩, hrow, hB⟩ := h
 rcases hrow.2 with ⟨e, h0⟩ | ⟨g, cap, cur, e, h1, h2, h3, h4, h5, h6⟩
 ·simp only [Value.slice.injEq] at e
  obtain ⟨rfl, _, rfl⟩ := e
  obtain rfl : l = [] := List.length_eq_zero_iff.1 h0
  refine (y70 none 0 0 (by omega) _ wr).mono ?_
  rintro e w' ⟨rfl, rfl⟩
  exact ⟨rfl, [], ⟨⟨hall.2, List.Pairwise.nil⟩, Nat.zero_le _⟩, ⟨_, _, rfl⟩, hrow, hB⟩
 ·simp only [Value.slice.injEq] at e
  obtain ⟨rfl, _, rfl⟩ := e
  refine (y70g g c cur l wr h2 h6 (by omega)).mono ?_
  rintro e w' ⟨rfl, d', n, os, hp, hs, rfl⟩
  obtain ⟨hR, hl⟩ := up_of hp hs hall
  have hl' : d'.toList.length = l.length := by simpa using hl
  refine ⟨rfl, d'.toList, ⟨hR, by omega⟩, ⟨_, _, by rw [hl']⟩, ?_, ?_⟩
  ·have := ownsRow_sortedK (n := n) (os := os) encM_len (l := d'.toList) hl' h1 h2 h3 h4 h5
   rw [hl']
   simpa using this
  ·exact hB.grown (grownBy_sortedK (enc := encM) (k := 2) d') hB.size (fun j hj => by cases hj; exact h1)
set_option maxRecDepth 100000 in
theorem y47 {H : Type} {R : Value → Option (DataW H × List MemPlace)} (Bm b nn : Nat) (D : DataW H) (w : World) (hBm : Bm < w.heap.size) (hm : w.cell? ⟨Bm, 0, none⟩ = some (.map (some b))) (hown : w.ownsMap Tryz.prog 32 R b nn D) (hnn : nn ≤ 4000000000000) :
  Calls Tryz.prog 85 #[.func (.func 107) #[] #[.pointer (some ⟨Bm, 0, none⟩)], .func (.func 78) #[] #[]] w fun e w' => ∃ u, e = .returned u ∧ Hid (KeysTo D nn w u w') := by
 have H69 : Calls Tryz.prog 105 #[.func (.func 107) #[] #[.pointer (some ⟨Bm, 0, none⟩)]] w fun e w' => ∃ u, e = .returned u ∧ Hid (ColTo D nn w u w') := y69 Bm b nn D w hBm hm hown hnn
 have H70 : Hid (∀ wr u, ColTo D nn w u wr → Calls Tryz.prog 106 #[u, .func (.func 78) #[] #[]] wr fun e w' => e = .returned (.tuple #[]) ∧ Hid (KeysTo D nn w u w')) := fun wr u h => y70r nn w wr u h hnn
 clear hBm hm hown hnn
 go_enter Tryz.func85, Tryz.ntmps85
 go_wp2_with fail
 refine H69.mono ?_
 rintro e w1 ⟨u, rfl, H1⟩
 go_wp2_with fail
 refine (H70.out w1 u H1.out).mono ?_
 rintro e w2 ⟨rfl, H2⟩
 go_wp2_with fail
 go_ret
 exact ⟨u, rfl, H2⟩
set_option maxRecDepth 100000 in
theorem y48 (b : Option Nat) (w : World) : Calls Tryz.prog 86 #[.map b] w fun e w' => e = .returned (.func (.func 107) #[] #[.pointer (some ⟨w.heap.size, 0, none⟩)]) ∧ w' = w.alloc (.cells #[.map b] 97) := by
 go_enter Tryz.func86, Tryz.ntmps86
 go_wp2_with fail
 go_ret
 exact ⟨rfl, rfl⟩
set_option maxRecDepth 100000 in
theorem y31 {H : Type} {R : Value → Option (DataW H × List MemPlace)} (b nn : Nat) (D : DataW H) (w : World) (hown : w.ownsMap Tryz.prog 32 R b nn D) (hnn : nn ≤ 4000000000000) :
  Calls Tryz.prog 55 #[.map (some b)] w fun e w' => ∃ u, e = .returned u ∧ KeysTo D nn w u w' := by
 have hb : Below w.heap.size w (w.alloc (.cells #[.map (some b)] 97)) := (Below.refl _ w).alloc (Nat.le_refl _) _
 have hown' : (w.alloc (.cells #[.map (some b)] 97)).ownsMap Tryz.prog 32 R b nn D := by
  have hbl := hown.lt
  obtain ⟨es, clock, hc, Ft, hs, hD⟩ := hown
  exact ⟨es, clock, (hb.block b hbl).trans hc, Ft, hs, hD⟩
 have H47 : Calls Tryz.prog 85 #[.func (.func 107) #[] #[.pointer (some ⟨w.heap.size, 0, none⟩)], .func (.func 78) #[] #[]] (w.alloc (.cells #[.map (some b)] 97)) fun e w' => ∃ u, e = .returned u ∧ Hid (KeysTo D nn w u w') := by
  refine (y47 w.heap.size b nn D _ (by simp) (by rw [cell_of_row _ w.heap.size 0 _ 97 (0, 0) (heap_alloc_new w _)]; rfl) hown' hnn).mono ?_
  rintro e w' ⟨u, rfl, ⟨xs, h1, h2, h3, h4⟩⟩
  refine ⟨u, rfl, xs, h1, h2, ?_, hb.trans (h4.mono hb.size)⟩
  refine ⟨h3.1, ?_⟩
  rcases h3.2 with e | ⟨g, cap, cur, e, k1, k2⟩
  ·exact .inl e
  ·exact .inr ⟨g, cap, cur, e, Nat.le_trans hb.size k1, k2⟩
 have H48 := y48 (some b) w
 clear hown hown' hnn hb
 go_enter Tryz.func55, Tryz.ntmps55
 go_wp2_with fail
 refine H48.mono ?_
 rintro e w1 ⟨rfl, hw⟩
 obtain rfl := hw.symm
 go_wp2_with fail
 refine H47.mono ?_
 rintro e w2 ⟨u, rfl, H2⟩
 go_wp2_with fail
 go_ret
 exact ⟨u, rfl, H2.out⟩
end Go.Proofs.YtljggjllijacjaaGreatDoor
