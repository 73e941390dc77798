/- Contract of 'same': two tables that tell the same are told to be so. -/
import Derived.Test.YtdonclnjgopmbaaPL
namespace Go.Proofs.Ytdonclnjgopmbaa
open Go.RowKit
attribute [local go_sem ↓] Go.wp_at_zero Go.wp_at_succ
abbrev SmS (W u : World) (vb : Nat) (v1 v2 : Int) : Prop := u.cell? ⟨vb, 0, none⟩ = some (.int .i64 v1) ∧ u.cell? ⟨vb, 1, none⟩ = some (.int .i64 v2) ∧ Hid (Below W.heap.size W u)
theorem sm_get {W u : World} {vb : Nat} {v1 v2 : Int} (h : SmS W u vb v1 v2) : Below W.heap.size W u := h.2.2.out
set_option maxRecDepth 100000 in
set_option maxHeartbeats 8000000 in
theorem o20 (B tb rb wb n : Nat) (s : Nm → Sl) (m : Nm → List Int) (q : Nm → Bool) (G : Nat → Prop) (rt : Nat) (rs : List Rw) (ws : List Nm) (v : Nm) (w : World) (h : Tw w B tb rb wb n s m q G rt rs ws) (hk : Lk m q rs ws) (hv : wfN v) (hn : n ≤ 1000000) (hnr : rs.length ≤ 1000000) (hnw : ws.length ≤ 1000000) (hl : (m v).length ≤ 1000000) :
    Calls Try.prog 20 #[.pointer (some ⟨tb, 0, none⟩), .pointer (some ⟨rt, 0, none⟩), .agg #[.int .i64 v.1, .int .i64 v.2]] w fun e w' => e = .returned (.bool true) ∧ Below w.heap.size w w' := by
  obtain ⟨W, hW⟩ : ∃ W, w.alloc (.cells #[.int .i64 v.1, .int .i64 v.2] 28) = W := ⟨_, rfl⟩
  obtain ⟨vb, hvb⟩ : ∃ vb, w.heap.size = vb := ⟨_, rfl⟩
  have hbW : Below w.heap.size w W := by rw [← hW]; exact (Below.refl _ w).alloc (Nat.le_refl _) _
  have hc : W.heap[vb]? = some (.cells #[.int .i64 v.1, .int .i64 v.2] 28 (0, 0)) := by rw [← hW, ← hvb]; exact heap_alloc_new w _
  have hT := h.below hbW
  have hvl : vb < W.heap.size := (Array.getElem?_eq_some_iff.1 hc).1
  have hU1 : UpN (fun x => q x = true) ws := ⟨hk.wnt, hk.upw⟩
  have hU2 : UpN (fun x => m x ≠ []) (rs.map Rw.x) := ⟨hk.rows, List.pairwise_map.2 hk.up⟩
  have step : ∀ u u', Below W.heap.size W u → Below u.heap.size u u' → Below W.heap.size W u' := fun u u' h1 h2 => h1.trans (h2.mono h1.size)
  have TT : ∀ u, Below W.heap.size W u → Tw u B tb rb wb n s m q G rt rs ws := fun u hu => hT.below hu
  have K23 : Hid (∀ u, Below W.heap.size W u → Calls Try.prog 23 #[.pointer (some ⟨tb, 0, none⟩)] u fun e w' => ∃ a c, e = .returned (.slice a ws.length c) ∧ Hid (Ns w' a ws.length ws ∧ Below W.heap.size W w')) := fun u hu => by
    refine (o23 B tb rb wb n s m q u (TT u hu).tab hn).mono ?_
    rintro e w' ⟨z, rfl, xs, ⟨h1, _⟩, ⟨a, c, rfl⟩, h3, h4⟩
    have e1 := h1.like hU1
    subst e1
    exact ⟨a, c, rfl, ns_owns h3 rfl, step _ _ hu h4⟩
  have K33 : Hid (∀ u, Below W.heap.size W u → Calls Try.prog 33 #[.pointer (some ⟨rt, 0, none⟩)] u fun e w' => (∃ a c, e = .returned (.slice a ws.length c) ∧ Hid (Ns u a ws.length ws)) ∧ w' = u) := fun u hu => by
    refine (o33 G rt rs ws u (TT u hu).rf).mono ?_
    rintro e w' ⟨⟨a, c, rfl, h1⟩, rfl⟩
    exact ⟨⟨a, c, rfl, h1⟩, rfl⟩
  have K32 : Hid (∀ u a c b d (k : Nat) (xs : List Nm), Below W.heap.size W u → Ns u a k xs → Ns u b k xs → k ≤ 1000000 → Calls Try.prog 32 #[.slice a k c, .slice b k d] u fun e w' => e = .returned (.bool true) ∧ Hid (Below W.heap.size W w')) := fun u a c b d k xs hu h1 h2 hk => by
    refine (o32 a b k c k d xs xs u h1 h2 (by omega) (by omega)).mono ?_
    rintro e w' ⟨rfl, d, rfl⟩
    exact ⟨by simp [sameN], below_dN hu d⟩
  have K24 : Hid (∀ u, Below W.heap.size W u → Calls Try.prog 24 #[.pointer (some ⟨tb, 0, none⟩)] u fun e w' => ∃ a c, e = .returned (.slice a rs.length c) ∧ Hid (Ns w' a rs.length (rs.map Rw.x) ∧ Below W.heap.size W w')) := fun u hu => by
    refine (o24 B tb rb wb n s m q u (TT u hu).tab hn).mono ?_
    rintro e w' ⟨z, rfl, xs, ⟨h1, _⟩, ⟨a, c, rfl⟩, h3, h4⟩
    have e1 := h1.like hU2
    subst e1
    rw [List.length_map] at h3
    exact ⟨a, c, by rw [List.length_map], ns_owns h3 (by simp), step _ _ hu h4⟩
  have K34 : Hid (∀ u, Below W.heap.size W u → Calls Try.prog 34 #[.pointer (some ⟨rt, 0, none⟩)] u fun e w' => ∃ a c, e = .returned (.slice a rs.length c) ∧ Hid (Ns w' a rs.length (rs.map Rw.x) ∧ Below W.heap.size W w' ∧ Below u.heap.size u w')) := fun u hu => by
    refine (o34 G rt rs ws u (TT u hu).rf hnr).mono ?_
    rintro e w' ⟨a, c, rfl, h1, h2⟩
    exact ⟨a, c, rfl, h1, step _ _ hu h2, h2⟩
  have K22 : Hid (∀ u, Below W.heap.size W u → Calls Try.prog 22 #[.pointer (some ⟨tb, 0, none⟩), .agg #[.int .i64 v.1, .int .i64 v.2]] u fun e w' => ∃ g k, e = .returned (.slice (some ⟨g, 0, none⟩) k k) ∧ Hid (In w' (some ⟨g, 0, none⟩) k (m v) ∧ Below W.heap.size W w')) := fun u hu => by
    refine (o22 B tb rb wb n s m q v u (TT u hu).tab hv hl).mono ?_
    rintro e w' ⟨g, k, rfl, h1, h2⟩
    exact ⟨g, k, rfl, h1.in, step _ _ hu h2⟩
  have K35 : Hid (∀ u, Below W.heap.size W u → Calls Try.prog 35 #[.pointer (some ⟨rt, 0, none⟩), .agg #[.int .i64 v.1, .int .i64 v.2]] u fun e w' => ∃ a k c, e = .returned (.slice a k c) ∧ Hid (In w' a k (m v) ∧ Below W.heap.size W w' ∧ Below u.heap.size u w')) := fun u hu => by
    refine (o35 G rt rs ws v u (TT u hu).rf hk.up hnr).mono ?_
    rintro e w' ⟨a, k, c, rfl, h1, h2⟩
    rw [hk.row v hv] at h1
    exact ⟨a, k, c, rfl, h1, step _ _ hu h2, h2⟩
  have K13 : Hid (∀ u a c b d (k k' : Nat), Below W.heap.size W u → In u a k (m v) → In u b k' (m v) → Calls Try.prog 13 #[.slice a k c, .slice b k' d] u fun e w' => e = .returned (.bool true) ∧ Hid (Below W.heap.size W w')) := fun u a c b d k k' hu h1 h2 => by
    have l1 := h1.len
    have l2 := h2.len
    refine (o13 a b k c k' d (m v) (m v) u h1 h2 (by omega) (by omega)).mono ?_
    rintro e w' ⟨rfl, d, rfl⟩
    exact ⟨by simp [sameI], below_dN hu d⟩
  have HSM : Hid (∀ u, Below W.heap.size W u → SmS W u vb v.1 v.2) := fun u hu => ⟨(box_cells ((hu.block vb hvl).trans hc)).1, (box_cells ((hu.block vb hvl).trans hc)).2, hu⟩
  have HB : Hid (Below w.heap.size w W) := hbW
  clear h hk hv hn hl hbW hc hT hvl hU1 hU2 step TT
  obtain ⟨nw, hnw'⟩ : ∃ nw, ws.length = nw := ⟨_, rfl⟩
  obtain ⟨nr, hnr'⟩ : ∃ nr, rs.length = nr := ⟨_, rfl⟩
  rw [hnw'] at K23 K33 hnw
  rw [hnr'] at K24 K34 hnr
  clear hnw' hnr'
  obtain ⟨v1, v2⟩ := v
  simp only at hW K22 K35 K13 HSM
  have sm_of : ∀ {u : World}, Below W.heap.size W u → SmS W u vb v1 v2 := fun hu => HSM.out _ hu
  go_enter Try.func20, Try.ntmps20
  go_wp2_with fail
  refine wp_region_noPanic ?_
  refine wp_region_held_drew (S := fun u => SmS W u vb v1 v2) (by kernel_rfl) (sm_of (below_dN (Below.refl _ _) 1)) (fun hHeld => ?_)
  (refine wpAnyH_take (i := 0) (v := ?_) (by simp only [List.getElem?_toArray, List.getElem?_cons_zero]; rfl) (by kernel_rfl) (by kernel_rfl) (by kernel_rfl) (fun _ _ _ h => h) (Or.inl ⟨by rfl, ?_⟩) (by assumption) ?_; rotate_left; (· (intro w hSw; (try dsimp only at hSw); go_simp <;> with_reducible rfl)); try simp only [Act.put, List.setIfInBounds_toArray, List.set_cons_zero, List.set_cons_succ])
  (refine wpAnyH_take (i := 1) (v := ?_) (by simp only [List.getElem?_toArray, List.getElem?_cons_zero, List.getElem?_cons_succ]; rfl) (by kernel_rfl) (by kernel_rfl) (by kernel_rfl) (fun _ _ _ h => h) (Or.inl ⟨by rfl, ?_⟩) (by assumption) ?_; rotate_left; (· (intro w hSw; (try dsimp only at hSw); go_simp <;> with_reducible rfl)); try simp only [Act.put, List.setIfInBounds_toArray, List.set_cons_zero, List.set_cons_succ])
  (refine wpAnyH_take (i := 2) (v := ?_) (by simp only [List.getElem?_toArray, List.getElem?_cons_zero, List.getElem?_cons_succ]; rfl) (by kernel_rfl) (by kernel_rfl) (by kernel_rfl) (fun _ _ _ h => h) (Or.inl ⟨by rfl, ?_⟩) (by assumption) ?_; rotate_left; (· (intro w hSw; (try dsimp only at hSw); go_simp <;> with_reducible rfl)); try simp only [Act.put, List.setIfInBounds_toArray, List.set_cons_zero, List.set_cons_succ])
  (refine wpAnyH_take (i := 3) (v := ?_) (by simp only [List.getElem?_toArray, List.getElem?_cons_zero, List.getElem?_cons_succ]; rfl) (by kernel_rfl) (by kernel_rfl) (by kernel_rfl) (fun _ _ _ h => h) (Or.inl ⟨by rfl, ?_⟩) (by assumption) ?_; rotate_left; (· (intro w hSw; (try dsimp only at hSw); go_simp <;> with_reducible rfl)); try simp only [Act.put, List.setIfInBounds_toArray, List.set_cons_zero, List.set_cons_succ])
  (refine wpAnyH_take (i := 4) (v := ?_) (by simp only [List.getElem?_toArray, List.getElem?_cons_zero, List.getElem?_cons_succ]; rfl) (by kernel_rfl) (by kernel_rfl) (by kernel_rfl) (fun _ _ _ h => h) (Or.inl ⟨by rfl, ?_⟩) (by assumption) ?_; rotate_left; (· (intro w hSw; (try dsimp only at hSw); go_simp <;> with_reducible rfl)); try simp only [Act.put, List.setIfInBounds_toArray, List.set_cons_zero, List.set_cons_succ])
  (refine wpAnyH_take (i := 5) (v := ?_) (by simp only [List.getElem?_toArray, List.getElem?_cons_zero, List.getElem?_cons_succ]; rfl) (by kernel_rfl) (by kernel_rfl) (by kernel_rfl) (fun _ _ _ h => h) (Or.inl ⟨by rfl, ?_⟩) (by assumption) ?_; rotate_left; (· (intro w hSw; (try dsimp only at hSw); go_simp <;> with_reducible rfl)); try simp only [Act.put, List.setIfInBounds_toArray, List.set_cons_zero, List.set_cons_succ])
  (refine wpAnyH_take (i := 6) (v := ?_) (by simp only [List.getElem?_toArray, List.getElem?_cons_zero, List.getElem?_cons_succ]; rfl) (by kernel_rfl) (by kernel_rfl) (by kernel_rfl) (fun _ _ _ h => h) (Or.inl ⟨by rfl, ?_⟩) (by assumption) ?_; rotate_left; (· (intro w hSw; (try dsimp only at hSw); go_simp <;> with_reducible rfl)); try simp only [Act.put, List.setIfInBounds_toArray, List.set_cons_zero, List.set_cons_succ])
  (refine wpAnyH_take (i := 8) (v := ?_) (by simp only [List.getElem?_toArray, List.getElem?_cons_zero, List.getElem?_cons_succ]; rfl) (by kernel_rfl) (by kernel_rfl) (by kernel_rfl) (fun _ _ _ h => h) (Or.inl ⟨by rfl, ?_⟩) (by assumption) ?_; rotate_left; (· (intro w hSw; (try dsimp only at hSw); go_simp <;> with_reducible rfl)); try simp only [Act.put, List.setIfInBounds_toArray, List.set_cons_zero, List.set_cons_succ])
  refine wpAnyH_ready (rs := [7]) (by kernel_rfl) (by simp) ?_
  refine AllReadyH.cons (by simp only [List.getElem?_toArray, List.getElem?_cons_zero, List.getElem?_cons_succ]; rfl) (fun K hK => ?_) AllReadyH.nil
  go_simp
  go_at_call 23
  refine (K23.out _ (sm_get (by assumption))).mono ?_
  rintro e u1 ⟨a1, c1, rfl, H1⟩
  refine hK.out _ _ ?_ (fun hHeld => ?_)
  · exact sm_of H1.out.2
  clear hK K
  try simp only [Act.put, List.setIfInBounds_toArray, List.set_cons_zero, List.set_cons_succ]
  refine wpAnyH_ready (rs := [9]) (by kernel_rfl) (by simp) ?_
  refine AllReadyH.cons (by simp only [List.getElem?_toArray, List.getElem?_cons_zero, List.getElem?_cons_succ]; rfl) (fun K hK => ?_) AllReadyH.nil
  go_simp
  go_at_call 33
  refine (K33.out _ (sm_get (by assumption))).mono ?_
  rintro e u2 ⟨⟨a2, c2, rfl, H2⟩, rfl⟩
  refine hK.out _ _ ?_ (fun hHeld => ?_)
  · exact sm_of H1.out.2
  clear hK K
  try simp only [Act.put, List.setIfInBounds_toArray, List.set_cons_zero, List.set_cons_succ]
  refine wpAnyH_ready (rs := [10]) (by kernel_rfl) (by simp) ?_
  refine AllReadyH.cons (by simp only [List.getElem?_toArray, List.getElem?_cons_zero, List.getElem?_cons_succ]; rfl) (fun K hK => ?_) AllReadyH.nil
  go_simp
  go_at_call 32
  refine (K32.out _ _ _ _ _ nw ws (sm_get (by assumption)) H1.out.1 H2.out hnw).mono ?_
  rintro e u3 ⟨rfl, H3⟩
  refine hK.out _ _ ?_ (fun hHeld => ?_)
  · exact sm_of H3.out
  clear hK K
  try simp only [Act.put, List.setIfInBounds_toArray, List.set_cons_zero, List.set_cons_succ]
  (refine wpAnyH_take (i := 11) (v := ?_) (by simp only [List.getElem?_toArray, List.getElem?_cons_zero, List.getElem?_cons_succ]; rfl) (by kernel_rfl) (by kernel_rfl) (by kernel_rfl) (fun _ _ _ h => h) (Or.inl ⟨by rfl, ?_⟩) (by assumption) ?_; rotate_left; (· (intro w hSw; (try dsimp only at hSw); go_simp <;> with_reducible rfl)); try simp only [Act.put, List.setIfInBounds_toArray, List.set_cons_zero, List.set_cons_succ])
  (refine wpAnyH_take (i := 12) (v := ?_) (by simp only [List.getElem?_toArray, List.getElem?_cons_zero, List.getElem?_cons_succ]; rfl) (by kernel_rfl) (by kernel_rfl) (by kernel_rfl) (fun _ _ _ h => h) (Or.inl ⟨by rfl, ?_⟩) (by assumption) ?_; rotate_left; (· (intro w hSw; (try dsimp only at hSw); go_simp <;> with_reducible rfl)); try simp only [Act.put, List.setIfInBounds_toArray, List.set_cons_zero, List.set_cons_succ])
  (refine wpAnyH_take (i := 13) (v := ?_) (by simp only [List.getElem?_toArray, List.getElem?_cons_zero, List.getElem?_cons_succ]; rfl) (by kernel_rfl) (by kernel_rfl) (by kernel_rfl) (fun _ _ _ h => h) (Or.inl ⟨by rfl, ?_⟩) (by assumption) ?_; rotate_left; (· (intro w hSw; (try dsimp only at hSw); go_simp <;> with_reducible rfl)); try simp only [Act.put, List.setIfInBounds_toArray, List.set_cons_zero, List.set_cons_succ])
  (refine wpAnyH_take (i := 15) (v := ?_) (by simp only [List.getElem?_toArray, List.getElem?_cons_zero, List.getElem?_cons_succ]; rfl) (by kernel_rfl) (by kernel_rfl) (by kernel_rfl) (fun _ _ _ h => h) (Or.inl ⟨by rfl, ?_⟩) (by assumption) ?_; rotate_left; (· (intro w hSw; (try dsimp only at hSw); go_simp <;> with_reducible rfl)); try simp only [Act.put, List.setIfInBounds_toArray, List.set_cons_zero, List.set_cons_succ])
  refine wpAnyH_ready (rs := [14]) (by kernel_rfl) (by simp) ?_
  refine AllReadyH.cons (by simp only [List.getElem?_toArray, List.getElem?_cons_zero, List.getElem?_cons_succ]; rfl) (fun K hK => ?_) AllReadyH.nil
  go_simp
  go_at_call 24
  refine (K24.out _ (sm_get (by assumption))).mono ?_
  rintro e u4 ⟨a4, c4, rfl, H4⟩
  refine hK.out _ _ ?_ (fun hHeld => ?_)
  · exact sm_of H4.out.2
  clear hK K
  try simp only [Act.put, List.setIfInBounds_toArray, List.set_cons_zero, List.set_cons_succ]
  refine wpAnyH_ready (rs := [16]) (by kernel_rfl) (by simp) ?_
  refine AllReadyH.cons (by simp only [List.getElem?_toArray, List.getElem?_cons_zero, List.getElem?_cons_succ]; rfl) (fun K hK => ?_) AllReadyH.nil
  go_simp
  go_at_call 34
  refine (K34.out _ (sm_get (by assumption))).mono ?_
  rintro e u5 ⟨a5, c5, rfl, H5⟩
  refine hK.out _ _ ?_ (fun hHeld => ?_)
  · exact sm_of H5.out.2.1
  clear hK K
  try simp only [Act.put, List.setIfInBounds_toArray, List.set_cons_zero, List.set_cons_succ]
  refine wpAnyH_ready (rs := [17]) (by kernel_rfl) (by simp) ?_
  refine AllReadyH.cons (by simp only [List.getElem?_toArray, List.getElem?_cons_zero, List.getElem?_cons_succ]; rfl) (fun K hK => ?_) AllReadyH.nil
  go_simp
  go_at_call 32
  refine (K32.out _ _ _ _ _ nr (rs.map Rw.x) (sm_get (by assumption)) (H4.out.1.below H5.out.2.2) H5.out.1 hnr).mono ?_
  rintro e u6 ⟨rfl, H6⟩
  refine hK.out _ _ ?_ (fun hHeld => ?_)
  · exact sm_of H6.out
  clear hK K
  try simp only [Act.put, List.setIfInBounds_toArray, List.set_cons_zero, List.set_cons_succ]
  (refine wpAnyH_take (i := 18) (v := ?_) (by simp only [List.getElem?_toArray, List.getElem?_cons_zero, List.getElem?_cons_succ]; rfl) (by kernel_rfl) (by kernel_rfl) (by kernel_rfl) (fun _ _ _ h => h) (Or.inl ⟨by rfl, ?_⟩) (by assumption) ?_; rotate_left; (· (intro w hSw; (try dsimp only at hSw); go_simp <;> with_reducible rfl)); try simp only [Act.put, List.setIfInBounds_toArray, List.set_cons_zero, List.set_cons_succ])
  (refine wpAnyH_take (i := 19) (v := ?_) (by simp only [List.getElem?_toArray, List.getElem?_cons_zero, List.getElem?_cons_succ]; rfl) (by kernel_rfl) (by kernel_rfl) (by kernel_rfl) (fun _ _ _ h => h) (Or.inl ⟨by rfl, ?_⟩) (by assumption) ?_; rotate_left; (· (intro w hSw; (try dsimp only at hSw); go_simp <;> with_reducible rfl)); try simp only [Act.put, List.setIfInBounds_toArray, List.set_cons_zero, List.set_cons_succ])
  (refine wpAnyH_take (i := 20) (v := ?_) (by simp only [List.getElem?_toArray, List.getElem?_cons_zero, List.getElem?_cons_succ]; rfl) (by kernel_rfl) (by kernel_rfl) (by kernel_rfl) (fun _ _ _ h => h) (Or.inl ⟨by rfl, ?_⟩) (by assumption) ?_; rotate_left; (· (intro w hSw; (try dsimp only at hSw); go_simp <;> with_reducible rfl)); try simp only [Act.put, List.setIfInBounds_toArray, List.set_cons_zero, List.set_cons_succ])
  (refine wpAnyH_take (i := 21) (v := ?_) (by simp only [List.getElem?_toArray, List.getElem?_cons_zero, List.getElem?_cons_succ]; rfl) (by kernel_rfl) (by kernel_rfl) (by kernel_rfl) (fun _ _ _ h => h) (Or.inl ⟨by rfl, ?_⟩) (by assumption) ?_; rotate_left; (· (intro w hSw; (try dsimp only at hSw); go_simp <;> with_reducible rfl)); try simp only [Act.put, List.setIfInBounds_toArray, List.set_cons_zero, List.set_cons_succ])
  (refine wpAnyH_take (i := 23) (v := ?_) (by simp only [List.getElem?_toArray, List.getElem?_cons_zero, List.getElem?_cons_succ]; rfl) (by kernel_rfl) (by kernel_rfl) (by kernel_rfl) (fun _ _ _ h => h) (Or.inl ⟨by rfl, ?_⟩) (by assumption) ?_; rotate_left; (· (intro w hSw; (try dsimp only at hSw); go_simp <;> with_reducible rfl)); try simp only [Act.put, List.setIfInBounds_toArray, List.set_cons_zero, List.set_cons_succ])
  (refine wpAnyH_take (i := 24) (v := ?_) (by simp only [List.getElem?_toArray, List.getElem?_cons_zero, List.getElem?_cons_succ]; rfl) (by kernel_rfl) (by kernel_rfl) (by kernel_rfl) (fun _ _ _ h => h) (Or.inl ⟨by rfl, ?_⟩) (by assumption) ?_; rotate_left; (· (intro w hSw; (try dsimp only at hSw); go_simp <;> with_reducible rfl)); try simp only [Act.put, List.setIfInBounds_toArray, List.set_cons_zero, List.set_cons_succ])
  refine wpAnyH_ready (rs := [22]) (by kernel_rfl) (by simp) ?_
  refine AllReadyH.cons (by simp only [List.getElem?_toArray, List.getElem?_cons_zero, List.getElem?_cons_succ]; rfl) (fun K hK => ?_) AllReadyH.nil
  go_simp
  go_at_call 22
  refine (K22.out _ (sm_get (by assumption))).mono ?_
  rintro e u7 ⟨g7, n7, rfl, H7⟩
  refine hK.out _ _ ?_ (fun hHeld => ?_)
  · exact sm_of H7.out.2
  clear hK K
  try simp only [Act.put, List.setIfInBounds_toArray, List.set_cons_zero, List.set_cons_succ]
  refine wpAnyH_ready (rs := [25]) (by kernel_rfl) (by simp) ?_
  refine AllReadyH.cons (by simp only [List.getElem?_toArray, List.getElem?_cons_zero, List.getElem?_cons_succ]; rfl) (fun K hK => ?_) AllReadyH.nil
  go_simp
  go_at_call 35
  refine (K35.out _ (sm_get (by assumption))).mono ?_
  rintro e u8 ⟨a8, n8, c8, rfl, H8⟩
  refine hK.out _ _ ?_ (fun hHeld => ?_)
  · exact sm_of H8.out.2.1
  clear hK K
  try simp only [Act.put, List.setIfInBounds_toArray, List.set_cons_zero, List.set_cons_succ]
  refine wpAnyH_ready (rs := [26]) (by kernel_rfl) (by simp) ?_
  refine AllReadyH.cons (by simp only [List.getElem?_toArray, List.getElem?_cons_zero, List.getElem?_cons_succ]; rfl) (fun K hK => ?_) AllReadyH.nil
  go_simp
  go_at_call 13
  refine (K13.out _ _ _ _ _ _ _ (sm_get (by assumption)) (H7.out.1.below H8.out.2.2) H8.out.1).mono ?_
  rintro e u9 ⟨rfl, H9⟩
  refine hK.out _ _ ?_ (fun hHeld => ?_)
  · exact sm_of H9.out
  clear hK K
  try simp only [Act.put, List.setIfInBounds_toArray, List.set_cons_zero, List.set_cons_succ]
  (refine wpAnyH_take (i := 27) (v := ?_) (by simp only [List.getElem?_toArray, List.getElem?_cons_zero, List.getElem?_cons_succ]; rfl) (by kernel_rfl) (by kernel_rfl) (by kernel_rfl) (fun _ _ _ h => h) (Or.inl ⟨by rfl, ?_⟩) (by assumption) ?_; rotate_left; (· (intro w hSw; (try dsimp only at hSw); go_simp <;> with_reducible rfl)); try simp only [Act.put, List.setIfInBounds_toArray, List.set_cons_zero, List.set_cons_succ])
  (refine wpAnyH_take (i := 28) (v := ?_) (by simp only [List.getElem?_toArray, List.getElem?_cons_zero, List.getElem?_cons_succ]; rfl) (by kernel_rfl) (by kernel_rfl) (by kernel_rfl) (fun _ _ _ h => h) (Or.inl ⟨by rfl, ?_⟩) (by assumption) ?_; rotate_left; (· (intro w hSw; (try dsimp only at hSw); go_simp <;> with_reducible rfl)); try simp only [Act.put, List.setIfInBounds_toArray, List.set_cons_zero, List.set_cons_succ])
  refine wpAnyH_done (by kernel_rfl) ?_ _
  refine NoPanic.normal ?_
  have HF : Hid (Below W.heap.size W u9) := H9
  clear hHeld
  go_wp2_with fail
  go_ret
  exact ⟨rfl, HB.out.trans (HF.out.mono HB.out.size)⟩
end Go.Proofs.Ytdonclnjgopmbaa
