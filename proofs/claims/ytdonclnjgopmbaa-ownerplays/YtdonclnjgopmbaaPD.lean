/- Contracts of the reference's New, Wanted, Waiters, Asked. -/
import Derived.Test.YtdonclnjgopmbaaPC
import Derived.Test.YtdonclnjgopmbaaPA
namespace Go.Proofs.Ytdonclnjgopmbaa
open Go.RowKit
attribute [local go_sem ↓] Go.wp_at_zero Go.wp_at_succ
set_option maxRecDepth 100000 in
theorem o8 (w : World) : Calls Try.prog 8 #[] w fun e w' => e = .returned (.pointer (some ⟨w.heap.size, 0, none⟩)) ∧ RfAt w' (fun _ => False) w.heap.size [] [] ∧ Below w.heap.size w w' := by
  have HB : Hid (RfAt (w.alloc (.cells #[.slice none 0 0, .slice none 0 0] 50)) (fun _ => False) w.heap.size [] [] ∧ Below w.heap.size w (w.alloc (.cells #[.slice none 0 0, .slice none 0 0] 50))) :=
    ⟨⟨⟨none, 0, none, 0, heap_alloc_new w _, ⟨rfl, .inl rfl⟩, ⟨rfl, .inl rfl⟩, (fun g e => by cases e), (fun g e => by cases e), Nat.le_refl _, .inl ⟨rfl, rfl⟩⟩, (fun r hr => by cases hr), (fun h => h), by simp, fun g e => e.elim⟩, (Below.refl _ w).alloc (Nat.le_refl _) _⟩
  go_enter Try.func8, Try.ntmps8
  go_wp2_with fail
  go_ret
  exact ⟨rfl, HB.out⟩
set_option maxRecDepth 100000 in
theorem o33 (G : Nat → Prop) (rt : Nat) (rs : List Rw) (ws : List Nm) (w : World) (h : RfAt w G rt rs ws) :
    Calls Try.prog 33 #[.pointer (some ⟨rt, 0, none⟩)] w fun e w' => (∃ a c, e = .returned (.slice a ws.length c) ∧ Ns w a ws.length ws) ∧ w' = w := by
  obtain ⟨ra, rc, wa, wc, _, q1, _, hN⟩ := h.cells
  have HN : Hid (Ns w wa ws.length ws) := hN
  clear h hN
  go_enter Try.func33, Try.ntmps33
  go_wp2_with fail
  go_ret
  exact ⟨⟨wa, wc, rfl, HN.out⟩, rfl⟩
/-- Who waits, by the rows. -/
def rowL (rs : List Rw) (v : Nm) : List Int := match rs.find? (fun r => decide (r.x = v)) with
  | some r => r.l
  | none => []
theorem plcB_get : ∀ (rs : List Rw) (v : Nm), plcB rs v = true → ∃ r, rs[plcN rs v]? = some r ∧ r ∈ rs ∧ r.x = v ∧ rowL rs v = r.l
  | [], _, h => by simp [plcB] at h
  | r :: rs, v, h => by
    by_cases h1 : r.x = v
    · exact ⟨r, by simp [plcN, h1], by simp, h1, by simp [rowL, h1]⟩
    · cases h2 : lessB v.1 v.2 r.x.1 r.x.2
      · simp [plcB, h1, h2] at h
        obtain ⟨r', e1, e2, e3, e4⟩ := plcB_get rs v h
        exact ⟨r', by simpa [plcN, h1, h2] using e1, by simp [e2], e3, by rw [← e4]; simp [rowL, h1]⟩
      · simp [plcB, h1, h2] at h
/-- Rows by rising names. -/
def UpR (rs : List Rw) : Prop := rs.Pairwise fun a b => ltN a.x b.x
theorem plcB_none : ∀ (rs : List Rw) (v : Nm), UpR rs → plcB rs v = false → ∀ r ∈ rs, r.x ≠ v
  | [], _, _, _ => by simp
  | r :: rs, v, hu, h => by
    by_cases h1 : r.x = v
    · simp [plcB, h1] at h
    · have hp := List.pairwise_cons.1 hu
      intro r' hr'
      rcases List.mem_cons.1 hr' with rfl | hr'
      · exact h1
      · cases h2 : lessB v.1 v.2 r.x.1 r.x.2
        · simp [plcB, h1, h2] at h
          exact plcB_none rs v hp.2 h r' hr'
        · have h3 := (lessB_iff v r.x).1 h2
          rintro rfl
          exact ltN_irr _ (ltN_tr _ _ _ h3 (hp.1 r' hr'))
theorem rowL_none (rs : List Rw) (v : Nm) (h : ∀ r ∈ rs, r.x ≠ v) : rowL rs v = [] := by
  have : rs.find? (fun r => decide (r.x = v)) = none := by
    rw [List.find?_eq_none]
    intro r hr; simp [h r hr]
  simp [rowL, this]
set_option maxRecDepth 100000 in
set_option maxHeartbeats 1000000 in
theorem o35 (G : Nat → Prop) (rt : Nat) (rs : List Rw) (ws : List Nm) (v : Nm) (w : World) (h : RfAt w G rt rs ws) (hu : UpR rs) (hn : rs.length ≤ 1000000) :
    Calls Try.prog 35 #[.pointer (some ⟨rt, 0, none⟩), .agg #[.int .i64 v.1, .int .i64 v.2]] w fun e w' => ∃ a n c, e = .returned (.slice a n c) ∧ In w' a n (rowL rs v) ∧ Below w.heap.size w w' := by
  obtain ⟨W, hW⟩ : ∃ W, w.alloc (.cells #[.int .i64 v.1, .int .i64 v.2] 28) = W := ⟨_, rfl⟩
  obtain ⟨vb, hvb⟩ : ∃ vb, w.heap.size = vb := ⟨_, rfl⟩
  have hbW : Below w.heap.size w W := by rw [← hW]; exact (Below.refl _ w).alloc (Nat.le_refl _) _
  have hc : W.heap[vb]? = some (.cells #[.int .i64 v.1, .int .i64 v.2] 28 (0, 0)) := by rw [← hW, ← hvb]; exact heap_alloc_new w _
  obtain ⟨v0, v1⟩ := box_cells hc
  have H28 : Calls Try.prog 28 #[.pointer (some ⟨rt, 0, none⟩), .agg #[.int .i64 v.1, .int .i64 v.2]] W fun e w' => e = .returned (.tuple #[.int .i64 (plcN rs v : Nat), .bool (plcB rs v)]) ∧ Hid (RfAt w' G rt rs ws ∧ Below w.heap.size w w') := by
    refine (o28 G rt rs ws v W (h.below hbW) hn).mono ?_
    rintro e w' ⟨rfl, hb⟩
    exact ⟨rfl, (h.below hbW).below hb, hbW.trans (hb.mono hbW.size)⟩
  have hle := plcN_le rs v
  cases hB : plcB rs v
  · have HE : Hid (rowL rs v = []) := rowL_none rs v (plcB_none rs v hu hB)
    rw [hB] at H28
    generalize plcN rs v = p at *
    generalize rowL rs v = L at *
    clear h hbW hc hB hu
    obtain ⟨v1', v2'⟩ := v
    simp only at *
    go_enter Try.func35, Try.ntmps35
    go_wp2_with fail
    refine H28.mono ?_
    rintro e w1 ⟨rfl, H1⟩
    go_wp2_with fail
    go_ret
    exact ⟨none, 0, 0, rfl, ⟨by rw [HE.out]; rfl, .inl rfl⟩, H1.out.2⟩
  · obtain ⟨r, e1, e2, e3, e4⟩ := plcB_get rs v hB
    have HE : Hid (rowL rs v = r.l ∧ r ∈ rs) := ⟨e4, e2⟩
    obtain ⟨hp1, hp2⟩ := List.getElem?_eq_some_iff.1 e1
    rw [hB] at H28
    have HG : Hid (∀ u, RfAt u G rt rs ws → ∃ b o rc, u.cell? ⟨rt, 0, none⟩ = some (.slice (some ⟨b, o, none⟩) rs.length rc) ∧ u.cell? ⟨b, o + plcN rs v * 3 + 2, none⟩ = some (.slice r.s.a r.s.n r.s.c)) := fun u hu => by
      obtain ⟨ra, rc, wa, wc, q0, _, hR, _⟩ := hu.cells
      obtain ⟨b, o, hx, rfl, _, _, _, c2⟩ := hR.at hp1
      exact ⟨b, o, rc, q0, by rw [c2, hp2]⟩
    clear hp2 e1 e2 e3 e4
    have hp1' : ((plcN rs v : Nat) : Int) < (rs.length : Int) := by omega
    have hp0 : (0 : Int) ≤ ((plcN rs v : Nat) : Int) := by omega
    generalize plcN rs v = p at *
    generalize rowL rs v = L at *
    clear h hbW hc hB hu
    obtain ⟨v1', v2'⟩ := v
    simp only at *
    go_enter Try.func35, Try.ntmps35
    go_wp2_with fail
    refine H28.mono ?_
    rintro e w1 ⟨rfl, H1⟩
    obtain ⟨b, o, rc, q0, q2⟩ := HG.out w1 H1.out.1
    go_wp2_with fail
    go_ret
    exact ⟨r.s.a, r.s.n, r.s.c, rfl, by rw [HE.out.1]; exact (H1.out.1.lst r HE.out.2).1, H1.out.2⟩
end Go.Proofs.Ytdonclnjgopmbaa
