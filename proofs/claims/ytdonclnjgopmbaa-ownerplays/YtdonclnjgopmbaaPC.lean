/- The reference's table in memory; contracts of its New, place, Wanted, Waiters. -/
import Derived.Test.YtdonclnjgopmbaaPB
namespace Go.Proofs.Ytdonclnjgopmbaa
open Go.RowKit
attribute [local go_sem ↓] Go.wp_at_zero Go.wp_at_succ
/-- A row: a variable, the slice of those who wait, and who they are. -/
structure Rw where
  x : Nm
  s : Sl
  l : List Int
def encR (r : Rw) : List Value := [.int .i64 r.x.1, .int .i64 r.x.2, .slice r.s.a r.s.n r.s.c]
theorem encR_get : ∀ (l : List Rw) (i : Nat) (hi : i < l.length), (l.flatMap encR)[i * 3]? = some (.int .i64 l[i].x.1) ∧ (l.flatMap encR)[i * 3 + 1]? = some (.int .i64 l[i].x.2) ∧ (l.flatMap encR)[i * 3 + 2]? = some (.slice l[i].s.a l[i].s.n l[i].s.c)
  | d :: r, 0, _ => by simp [encR]
  | d :: r, i + 1, hi => by
    have h := encR_get r i (by simpa using hi)
    have e : (i + 1) * 3 = i * 3 + 3 := by omega
    simp only [List.flatMap_cons, encR, List.cons_append, List.nil_append, List.getElem_cons_succ, e]
    exact h
/-- Rows that can be read. -/
structure Rs (w : World) (a : Option Addr) (n : Nat) (rs : List Rw) : Prop where
  len : rs.length = n
  mem : n = 0 ∨ ∃ b o, a = some ⟨b, o, none⟩ ∧ b < w.heap.size ∧ w.rangeAt b o (rs.flatMap encR)
theorem Rs.keeps {w w' : World} {a : Option Addr} {n : Nat} {rs : List Rw} (h : Rs w a n rs) (hk : ∀ g, blk a = some g → w'.heap[g]? = w.heap[g]?) : Rs w' a n rs :=
  ⟨h.len, by
    rcases h.mem with e | ⟨b, o, e, hl, hr⟩
    · exact .inl e
    · subst e
      have hg := hk b rfl
      refine .inr ⟨b, o, rfl, ?_, fun j u hu => ?_⟩
      · rw [Array.getElem?_eq_getElem hl] at hg
        exact (Array.getElem?_eq_some_iff.1 hg).1
      · have := hr j u hu
        unfold World.cell? at this ⊢
        simp only [hg]
        exact this⟩
theorem Rs.at {w : World} {a : Option Addr} {n : Nat} {rs : List Rw} (h : Rs w a n rs) {k : Nat} (hk : k < n) : ∃ b o, ∃ (hx : k < rs.length), a = some ⟨b, o, none⟩ ∧ b < w.heap.size ∧ w.cell? ⟨b, o + k * 3, none⟩ = some (.int .i64 rs[k].x.1) ∧ w.cell? ⟨b, o + k * 3 + 1, none⟩ = some (.int .i64 rs[k].x.2) ∧ w.cell? ⟨b, o + k * 3 + 2, none⟩ = some (.slice rs[k].s.a rs[k].s.n rs[k].s.c) := by
  rcases h.mem with e | ⟨b, o, e, hl, hr⟩
  · omega
  · have hx : k < rs.length := by rw [h.len]; exact hk
    obtain ⟨p1, p2, p3⟩ := encR_get rs k hx
    exact ⟨b, o, hx, e, hl, hr _ _ p1, by have := hr _ _ p2; rwa [← Nat.add_assoc] at this, by have := hr _ _ p3; rwa [← Nat.add_assoc] at this⟩
/-- The reference's table; its blocks are G's. -/
structure RfAt (w : World) (G : Nat → Prop) (rt : Nat) (rs : List Rw) (ws : List Nm) : Prop where
  ex : ∃ ra rc wa wc, w.heap[rt]? = some (.cells #[.slice ra rs.length rc, .slice wa ws.length wc] 50 (0, 0)) ∧ Rs w ra rs.length rs ∧ Ns w wa ws.length ws ∧ (∀ g, blk ra = some g → G g) ∧ (∀ g, blk wa = some g → G g) ∧ rs.length ≤ rc ∧ ((ra = none ∧ rc = 0) ∨ ∃ b o, ra = some ⟨b, o, none⟩)
  lst : ∀ r ∈ rs, In w r.s.a r.s.n r.l ∧ (∀ g, blk r.s.a = some g → G g)
  grt : ¬ G rt
  rlt : rt < w.heap.size
  lt : ∀ g, G g → g < w.heap.size
theorem RfAt.keeps {w w' : World} {G : Nat → Prop} {rt : Nat} {rs : List Rw} {ws : List Nm} (h : RfAt w G rt rs ws) (hk : ∀ g, G g → w'.heap[g]? = w.heap[g]?) (hr : w'.heap[rt]? = w.heap[rt]?) (hs : w.heap.size ≤ w'.heap.size) : RfAt w' G rt rs ws := by
  obtain ⟨ra, rc, wa, wc, h1, h2, h3, h4, h5, h6⟩ := h.ex
  exact ⟨⟨ra, rc, wa, wc, hr.trans h1, h2.keeps fun g e => hk g (h4 g e), h3.keeps fun g e => hk g (h5 g e), h4, h5, h6⟩, fun r hr => ⟨(h.lst r hr).1.keeps fun g e => hk g ((h.lst r hr).2 g e), (h.lst r hr).2⟩, h.grt, Nat.lt_of_lt_of_le h.rlt hs, fun g e => Nat.lt_of_lt_of_le (h.lt g e) hs⟩
theorem RfAt.below {w w' : World} {G : Nat → Prop} {rt : Nat} {rs : List Rw} {ws : List Nm} (h : RfAt w G rt rs ws) (hb : Below w.heap.size w w') : RfAt w' G rt rs ws := h.keeps (fun g e => hb.block g (h.lt g e)) (hb.block rt h.rlt) hb.size
theorem RfAt.cells {w : World} {G : Nat → Prop} {rt : Nat} {rs : List Rw} {ws : List Nm} (h : RfAt w G rt rs ws) : ∃ ra rc wa wc, w.cell? ⟨rt, 0, none⟩ = some (.slice ra rs.length rc) ∧ w.cell? ⟨rt, 1, none⟩ = some (.slice wa ws.length wc) ∧ Rs w ra rs.length rs ∧ Ns w wa ws.length ws := by
  obtain ⟨ra, rc, wa, wc, h1, h2, h3, _⟩ := h.ex
  exact ⟨ra, rc, wa, wc, by rw [cell_of_row w rt 0 _ 50 (0, 0) h1]; rfl, by rw [cell_of_row w rt 1 _ 50 (0, 0) h1]; rfl, h2, h3⟩
/-- Where a variable stands, or would; and whether it stands there. -/
def plcN : List Rw → Nm → Nat
  | [], _ => 0
  | r :: rs, v => if r.x = v then 0 else if lessB v.1 v.2 r.x.1 r.x.2 = true then 0 else plcN rs v + 1
def plcB : List Rw → Nm → Bool
  | [], _ => false
  | r :: rs, v => if r.x = v then true else if lessB v.1 v.2 r.x.1 r.x.2 = true then false else plcB rs v
theorem plc_drop (rs : List Rw) (v : Nm) (k : Nat) (hk : k < rs.length) : (rs[k].x = v → plcN (rs.drop k) v = 0 ∧ plcB (rs.drop k) v = true) ∧ (rs[k].x ≠ v → lessB v.1 v.2 rs[k].x.1 rs[k].x.2 = true → plcN (rs.drop k) v = 0 ∧ plcB (rs.drop k) v = false) ∧
    (rs[k].x ≠ v → lessB v.1 v.2 rs[k].x.1 rs[k].x.2 = false → plcN (rs.drop k) v = plcN (rs.drop (k + 1)) v + 1 ∧ plcB (rs.drop k) v = plcB (rs.drop (k + 1)) v) := by
  have e : rs.drop k = rs[k] :: rs.drop (k + 1) := List.drop_eq_getElem_cons hk
  refine ⟨fun h => ?_, fun h h' => ?_, fun h h' => ?_⟩
  · rw [e]; simp [plcN, plcB, h]
  · rw [e]; simp [plcN, plcB, h, h']
  · rw [e]; simp [plcN, plcB, h, h']
theorem plcN_le : ∀ (rs : List Rw) (v : Nm), plcN rs v ≤ rs.length
  | [], _ => Nat.le_refl _
  | r :: rs, v => by
    have := plcN_le rs v
    simp only [plcN, List.length_cons]
    split
    · omega
    · split <;> omega
set_option maxRecDepth 100000 in
set_option maxHeartbeats 2000000 in
theorem o28 (G : Nat → Prop) (rt : Nat) (rs : List Rw) (ws : List Nm) (v : Nm) (w : World) (h : RfAt w G rt rs ws) (hn : rs.length ≤ 1000000) :
    Calls Try.prog 28 #[.pointer (some ⟨rt, 0, none⟩), .agg #[.int .i64 v.1, .int .i64 v.2]] w fun e w' => e = .returned (.tuple #[.int .i64 (plcN rs v : Nat), .bool (plcB rs v)]) ∧ Below w.heap.size w w' := by
  obtain ⟨W, hW⟩ : ∃ W, w.alloc (.cells #[.int .i64 v.1, .int .i64 v.2] 28) = W := ⟨_, rfl⟩
  obtain ⟨vb, hvb⟩ : ∃ vb, w.heap.size = vb := ⟨_, rfl⟩
  obtain ⟨n, hnn⟩ : ∃ n, rs.length = n := ⟨_, rfl⟩
  have hbW : Below w.heap.size w W := by rw [← hW]; exact (Below.refl _ w).alloc (Nat.le_refl _) _
  have hc : W.heap[vb]? = some (.cells #[.int .i64 v.1, .int .i64 v.2] 28 (0, 0)) := by rw [← hW, ← hvb]; exact heap_alloc_new w _
  have HX : Hid (RfAt W G rt rs ws ∧ Below w.heap.size w W ∧ rs.length = n ∧ W.heap[vb]? = some (.cells #[.int .i64 v.1, .int .i64 v.2] 28 (0, 0)) ∧ n ≤ 1000000) := ⟨h.below hbW, hbW, hnn, hc, hnn ▸ hn⟩
  have hn' : n ≤ 1000000 := hnn ▸ hn
  clear h hc hbW hn hnn
  obtain ⟨v1, v2⟩ := v
  simp only at hW
  go_enter Try.func28, Try.ntmps28
  go_wp2_with fail
  go_loopw [6] (fun i wr => ∃ k : Nat, k ≤ n ∧ i = .int .i64 k ∧ Hid (Below W.heap.size W wr ∧ plcN rs (v1, v2) = k + plcN (rs.drop k) (v1, v2) ∧ plcB rs (v1, v2) = plcB (rs.drop k) (v1, v2))) (fun i _ => n - (intOf i).toNat)
  case atStart => exact ⟨0, Nat.zero_le _, rfl, Below.refl _ _, by simp, by simp⟩
  case round =>
    clear hW hvb
    obtain ⟨k, hk, rfl, HK⟩ := hrel
    have hR : RfAt wr G rt rs ws := HX.out.1.below HK.out.1
    obtain ⟨ra, rc, wa, wc, q0, _, hRs, _⟩ := hR.cells
    rw [HX.out.2.2.1] at q0
    have hvl : vb < W.heap.size := (Array.getElem?_eq_some_iff.1 HX.out.2.2.2.1).1
    obtain ⟨v0, v1'⟩ := box_cells ((HK.out.1.block vb hvl).trans HX.out.2.2.2.1)
    by_cases hlt : k < n
    · have hlt1 : (k : Int) < (n : Int) := by omega
      have hk0 : (0 : Int) ≤ (k : Int) := by omega
      obtain ⟨b1, o1, hk1, rfl, _, c0, c1, c2⟩ := hRs.at (k := k) (by have := HX.out.2.2.1; omega)
      clear c2
      have HP : Hid _ := plc_drop rs (v1, v2) k hk1
      generalize rs[k].x = y at *
      obtain ⟨y1, y2⟩ := y
      simp only at c0 c1
      have HBn : Hid (Below w.heap.size w wr) := HX.out.2.1.trans (HK.out.1.mono HX.out.2.1.size)
      have H31 : Hid (∀ u, Below W.heap.size W u → Calls Try.prog 31 #[.agg #[.int .i64 v1, .int .i64 v2], .agg #[.int .i64 y1, .int .i64 y2]] u fun e w' => e = .returned (.bool (lessB v1 v2 y1 y2)) ∧ Hid (Below W.heap.size W w')) := fun u hu => by
        refine (o31 v1 v2 y1 y2 u).mono ?_
        rintro e w' ⟨rfl, hb⟩
        exact ⟨rfl, hu.trans (hb.mono hu.size)⟩
      clear hR hRs hk1 hvl
      by_cases hxy : y1 = v1 ∧ y2 = v2
      · obtain ⟨rfl, rfl⟩ := hxy
        obtain ⟨e1, e2⟩ := HP.out.1 rfl
        have HE : Hid (plcN rs (y1, y2) = k ∧ plcB rs (y1, y2) = true) := ⟨by rw [HK.out.2.1, e1]; rfl, by rw [HK.out.2.2, e2]⟩
        clear HP e1 e2
        go_wp2_with fail
        go_quiet (fail)
        go_wp2_with fail
        go_ret2
        refine ⟨by rw [HE.out.1, HE.out.2]; rfl, below_dN HBn.out _⟩
      · have hN := eqlN y1 y2 v1 v2
        rw [show (y1 == v1 && y2 == v2) = false by simpa using hxy] at hN
        have hne : ((y1, y2) : Nm) ≠ (v1, v2) := fun e => hxy (by simpa using e)
        cases hL : lessB v1 v2 y1 y2
        · obtain ⟨e1, e2⟩ := HP.out.2.2 hne hL
          rw [hL] at H31
          have HE : Hid (plcN rs (v1, v2) = (k + 1) + plcN (rs.drop (k + 1)) (v1, v2) ∧ plcB rs (v1, v2) = plcB (rs.drop (k + 1)) (v1, v2)) := ⟨by rw [HK.out.2.1, e1]; omega, by rw [HK.out.2.2, e2]⟩
          clear HP e1 e2 hne hL hxy
          go_wp2_with fail
          go_quiet (fail)
          go_wp2_with fail
          go_region_with (go_at_call 31; refine (H31.out _ (by first | exact below_dN (below_dN HK.out.1 _) _ | exact below_dN HK.out.1 _)).mono ?_; rintro e w1 ⟨rfl, HB1⟩)
          all_goals (
            go_wp2_with fail
            go_roundw
            case rel => exact ⟨k + 1, by omega, by go_num, by first | exact HB1.out | exact below_dN HB1.out _, HE.out.1, HE.out.2⟩
            case measure => simp [intOf]; omega)
        · obtain ⟨e1, e2⟩ := HP.out.2.1 hne hL
          rw [hL] at H31
          have HE : Hid (plcN rs (v1, v2) = k ∧ plcB rs (v1, v2) = false) := ⟨by rw [HK.out.2.1, e1]; rfl, by rw [HK.out.2.2, e2]⟩
          clear HP e1 e2 hne hL hxy
          go_wp2_with fail
          go_quiet (fail)
          go_wp2_with fail
          go_region_with (go_at_call 31; refine (H31.out _ (by first | exact below_dN (below_dN HK.out.1 _) _ | exact below_dN HK.out.1 _)).mono ?_; rintro e w1 ⟨rfl, HB1⟩)
          all_goals (
            go_wp2_with fail
            go_ret2
            exact ⟨by rw [HE.out.1, HE.out.2]; rfl, HX.out.2.1.trans ((by first | exact HB1.out | exact below_dN HB1.out _ : Below W.heap.size W _).mono HX.out.2.1.size)⟩)
    · have HE : Hid (plcN rs (v1, v2) = n ∧ plcB rs (v1, v2) = false) := by
        have e : rs.drop k = [] := List.drop_eq_nil_of_le (by have := HX.out.2.2.1; omega)
        refine ⟨?_, ?_⟩
        · rw [HK.out.2.1, e]; simp only [plcN]; omega
        · rw [HK.out.2.2, e]; rfl
      clear hR hRs
      go_wp2_with fail
      go_ret2
      exact ⟨by rw [HE.out.1, HE.out.2]; rfl, HX.out.2.1.trans (HK.out.1.mono HX.out.2.1.size)⟩
end Go.Proofs.Ytdonclnjgopmbaa
