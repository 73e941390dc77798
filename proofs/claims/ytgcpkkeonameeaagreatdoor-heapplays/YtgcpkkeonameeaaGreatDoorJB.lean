/- The reference's Bind; 'both', step by step; Value. -/
import Derived.Deep.Upon
import Derived.Test.YtgcpkkeonameeaaGreatDoorR3
import Derived.Test.YtgcpkkeonameeaaGreatDoorHB1
import Derived.Test.YtgcpkkeonameeaaGreatDoorJA
namespace Go.Proofs.YtgcpkkeonameeaaGreatDoor
open Go.RowKit
attribute [local go_sem ↓] Go.wp_at_zero Go.wp_at_succ
set_option maxRecDepth 100000 in
set_option maxHeartbeats 16000000 in
theorem i24_var (G : Nat → Prop) (rt : Nat) (bs : List Bn) (x : Nm) (l : List C) (v : Value) (w : World) (h : RfH w G rt bs) (hT : TermAt w v l) (hbt : l.length * 48 ≤ 140737488355328) (hn : bs.length ≤ 3518437208780) (he : ¬ (x.1 < 0 ∨ oneT ⟨4, ⟨#[]⟩, 0, x.1, x.2⟩ = [] ∨ globalB l = false)) (h70 : hasB bs x = false) (h0 : isVarL l = true → lessN (varL l) x = true) (hv : isVarL l = true) :
    Calls Tryz.prog 25 #[.pointer (some ⟨rt, 0, none⟩), .agg #[.int .i64 x.1, .int .i64 x.2], v] w fun e w' => e = .returned (.int .i64 (bindE (hpOf bs) x l)) ∧ BindR w G rt bs x l w' := by
  obtain ⟨i0, hi, hz, hs3, hby⟩ := infoB
  obtain ⟨j0, hj, hjz, hjs, hjb⟩ := info60
  obtain ⟨W, hW⟩ : ∃ W, w.alloc (.cells #[.int .i64 x.1, .int .i64 x.2] 24) = W := ⟨_, rfl⟩
  obtain ⟨vb, hvb⟩ : ∃ vb, w.heap.size = vb := ⟨_, rfl⟩
  have hbW : Below w.heap.size w W := by rw [← hW]; exact (Below.refl _ w).alloc (Nat.le_refl _) _
  have hc : W.heap[vb]? = some (.cells #[.int .i64 x.1, .int .i64 x.2] 24 (0, 0)) := by rw [← hW, ← hvb]; exact heap_alloc_new w _
  have hvl : vb < W.heap.size := (Array.getElem?_eq_some_iff.1 hc).1
  obtain ⟨v0, v1⟩ := box_cells hc
  obtain ⟨ra, rc, hblk, hRs, hG⟩ := (h.below hbW).ex
  obtain ⟨n, hnn⟩ : ∃ n, bs.length = n := ⟨_, rfl⟩
  rw [hnn] at hRs hblk hn
  have HS : Hid (∀ u, Below W.heap.size W u → u.cell? ⟨rt, 0, none⟩ = some (.slice ra n rc) ∧ u.frozen? ⟨rt, 0, none⟩ = false ∧ u.cell? ⟨vb, 0, none⟩ = some (.int .i64 x.1) ∧ u.cell? ⟨vb, 1, none⟩ = some (.int .i64 x.2) ∧ Bs u ra n bs) := fun u hu => by
    have hrl : rt < W.heap.size := (Array.getElem?_eq_some_iff.1 hblk).1
    have k1 := (hu.block rt hrl).trans hblk
    have k2 := box_cells ((hu.block vb hvl).trans hc)
    exact ⟨by rw [cell_of_row u rt 0 _ 48 (0, 0) k1]; rfl, frozen_of_row u rt 0 _ 48 k1, k2.1, k2.2, hRs.keeps fun g hg => hu.block g ((h.below hbW).lt g (hG g hg))⟩
  have H38 : Calls Tryz.prog 42 #[.agg #[.int .i64 x.1, .int .i64 x.2]] W fun e w' => ∃ a c, e = .returned (.slice a (oneT ⟨4, ⟨#[]⟩, 0, x.1, x.2⟩).length c) ∧ Hid (Below W.heap.size W w') := by
    refine (c19 x.1 x.2 W).mono ?_
    rintro e w' ⟨u, rfl, h1, h2⟩
    obtain ⟨a, c, e⟩ := h1.form
    exact ⟨a, c, by rw [e], h2⟩
  have H39 : Hid (∀ u, Below W.heap.size W u → Calls Tryz.prog 43 #[v] u fun e w' => e = .returned (.bool (globalB l)) ∧ Hid (Below W.heap.size W w')) := fun u hu => by
    refine (c37 l v u ((hT.below hbW).below hu)).mono ?_
    rintro e w' ⟨rfl, hb⟩
    exact ⟨by rw [global_same], hu.trans (hb.mono hu.size)⟩
  have H40 : Hid (∀ u, Below W.heap.size W u → Calls Tryz.prog 28 #[.pointer (some ⟨rt, 0, none⟩), .agg #[.int .i64 x.1, .int .i64 x.2]] u fun e w' => ∃ i : Int, e = .returned (.int .i64 i) ∧ Hid (decide (i ≥ 0) = hasB bs x) ∧ Hid (Below W.heap.size W w')) := fun u hu => by
    refine (i40 G rt bs x u ((h.below hbW).below hu) (by omega)).mono ?_
    rintro e w' ⟨i, rfl, h1, hb⟩
    exact ⟨i, rfl, h1, hu.trans (hb.mono hu.size)⟩
  have hk0 : (oneT ⟨4, ⟨#[]⟩, 0, x.1, x.2⟩).length = 1 := by
    have : oneT ⟨4, ⟨#[]⟩, 0, x.1, x.2⟩ ≠ [] := fun e => he (.inr (.inl e))
    unfold oneT at this ⊢
    split
    · rfl
    · next e => rw [if_neg e] at this; exact absurd rfl this
  have hx : ¬ x.1 < 0 := fun e => he (.inl e)
  have hgl : globalB l = true := by
    cases e : globalB l
    · exact absurd (.inr (.inr e)) he
    · rfl
  rw [hk0] at H38
  have hrl : rightB l = true := by unfold globalB at hgl; simp only [Bool.and_eq_true] at hgl; exact hgl.2
  have hl1 := right_len hrl
  obtain ⟨tb, to, tcap, rfl, hrg, htb⟩ : ∃ tb to tcap, v = .slice (some ⟨tb, to, none⟩) l.length tcap ∧ w.rangeAt tb to (flat l) ∧ tb < w.heap.size := by
    rcases hT.2 with ⟨e, _⟩ | ⟨b, o, cap, h1, _, _, h3, h4⟩
    · rw [e] at hl1; simp at hl1
    · exact ⟨b, o, cap, h1, h3, h4⟩
  have HTC : Hid (∀ u, Below W.heap.size W u → ∀ j z, (flat l)[j]? = some z → u.cell? ((⟨tb, to, none⟩ : Addr).add j) = some z) := fun u hu j z hz => by
    rw [Addr.add_mid]
    exact range_below hrg htb (hbW.trans (hu.mono hbW.size)) j z hz
  have HFL : Hid ((flat l).length = l.length * 5) := by show _ = _; rw [flat_length]; omega
  obtain ⟨ck, cn, cv, ct, cm, hcc⟩ : ∃ ck cn cv ct cm, l[0]'(by omega) = ⟨ck, ct, cm, cn, cv⟩ := ⟨_, _, _, _, _, rfl⟩
  have HCC : Hid (l[0]'(by omega) = ⟨ck, ct, cm, cn, cv⟩) := hcc
  clear hcc
  have HT0 : Hid (∀ u, Below W.heap.size W u → u.cell? ⟨tb, to, none⟩ = some (.int .u8 ck) ∧ u.cell? ⟨tb, to + 3, none⟩ = some (.int .i64 cn) ∧ u.cell? ⟨tb, to + 4, none⟩ = some (.int .i64 cv)) := fun u hu => by
    obtain ⟨z0, _, _, z3, z4⟩ := term_cells (range_below hrg htb (hbW.trans (hu.mono hbW.size))) 0 (by omega)
    rw [HCC.out] at z0 z3 z4
    exact ⟨by simpa using z0, by simpa using z3, by simpa using z4⟩
  have hlN : 0 < l.length := by omega
  have hl256 : l.length ≤ 256 := hl1.2
  have HV : Hid ((ck = 4 → isVarL l = true ∧ varL l = (cn, cv)) ∧ (ck ≠ 4 → isVarL l = false)) := by
    cases l with
    | nil => simp at hl1
    | cons c r =>
      have hcc := HCC.out
      simp only [List.getElem_cons_zero] at hcc
      refine ⟨fun e => ?_, fun e => ?_⟩
      · have hck : c.k = 4 := by rw [hcc]; exact e
        have := var_one hrl hck
        subst this
        exact ⟨by simp [isVarL, hck], by rw [hcc]; rfl⟩
      · have hck : c.k ≠ 4 := by rw [hcc]; exact e
        cases r with
        | nil => simp [isVarL, hck]
        | cons d t => rfl
  have H10 : Hid (∀ (y1 y2 : Int) (z u : World), Below z.heap.size z u → Calls Tryz.prog 44 #[.agg #[.int .i64 x.1, .int .i64 x.2], .agg #[.int .i64 y1, .int .i64 y2]] u fun e w' => e = .returned (.bool (lsB x.1 x.2 y1 y2)) ∧ Hid (Below z.heap.size z w')) := fun y1 y2 z u hu => by
    refine (i10 x.1 x.2 y1 y2 u).mono ?_
    rintro e w' ⟨rfl, hb⟩
    exact ⟨rfl, hu.trans (hb.mono hu.size)⟩
  have H10v : Hid (∀ (z u : World), Below z.heap.size z u → Calls Tryz.prog 44 #[.agg #[.int .i64 cn, .int .i64 cv], .agg #[.int .i64 x.1, .int .i64 x.2]] u fun e w' => e = .returned (.bool (lsB cn cv x.1 x.2)) ∧ Hid (Below z.heap.size z w')) := fun z u hu => by
    refine (i10 cn cv x.1 x.2 u).mono ?_
    rintro e w' ⟨rfl, hb⟩
    exact ⟨rfl, hu.trans (hb.mono hu.size)⟩
  have HL : Hid (RfH w G rt bs ∧ Below w.heap.size w W ∧ TermAt w (.slice (some ⟨tb, to, none⟩) l.length tcap) l ∧ bs.length = n ∧ bindE (hpOf bs) x l = 0) := ⟨h, hbW, hT, hnn, bindE_0 he h70 h0⟩
  have HBE : Hid (bindE (hpOf bs) x l = 0) := bindE_0 he h70 h0
  have hck : ck = 4 := by
    by_cases e : ck = 4
    · exact e
    · have := HV.out.2 e; rw [hv] at this; cases this
  have hls : lsB cn cv x.1 x.2 = true := by
    have h1 := h0 hv
    rw [(HV.out.1 hck).2] at h1
    exact (lsB_N (cn, cv) x).trans h1
  rw [hls] at H10v
  subst hck
  rw [h70] at H40
  clear hls h0 hv HV
  clear h hT hbt he hbW hc hvl hblk hRs hG hk0 hnn h70 hrl HCC hl1 hrg htb
  obtain ⟨x1, x2⟩ := x
  simp only at *
  go_enter Tryz.func25, Tryz.ntmps25
  go_wp2_with fail
  refine H38.mono ?_
  rintro e w1 ⟨a1, c1, rfl, HB1⟩
  clear v0 v1 H38
  obtain ⟨_, _, v0, v1, _⟩ := HS.out w1 HB1.out
  have H39' := H39.out w1 HB1.out
  rw [hgl] at H39'
  clear hgl
  go_wp2_with fail
  refine H39'.mono ?_
  rintro e w1b ⟨rfl, HB1b⟩
  clear v0 v1 H39'
  obtain ⟨_, _, v0, v1, _⟩ := HS.out w1b HB1b.out
  go_wp2_with fail
  refine (H40.out _ HB1b.out).mono ?_
  rintro e w2 ⟨i, rfl, HI, HB2⟩
  have hi0 : ¬ i ≥ 0 := of_decide_eq_false HI.out
  clear v0 v1 HI H39 H40
  go_wp2_with fail
  refine wp_region_noPanic ?_
  refine wp_region_held_drew (S := fun u => u.cell? ⟨tb, to, none⟩ = some (.int .u8 4) ∧ u.cell? ⟨tb, to + 3, none⟩ = some (.int .i64 cn) ∧ u.cell? ⟨tb, to + 4, none⟩ = some (.int .i64 cv) ∧ u.cell? ⟨vb, 0, none⟩ = some (.int .i64 x1) ∧ u.cell? ⟨vb, 1, none⟩ = some (.int .i64 x2)) (by kernel_rfl) ((by obtain ⟨_, _, z1, z2, _⟩ := HS.out _ (below_dN HB2.out 1); obtain ⟨d0, d1, d2⟩ := HT0.out _ (below_dN HB2.out 1); exact ⟨d0, d1, d2, z1, z2⟩)) (fun hHeld => ?_)
  (refine wpAnyH_take (i := 0) (v := ?_) (by simp only [List.getElem?_toArray, List.getElem?_cons_zero]; rfl) (by kernel_rfl) (by kernel_rfl) (by kernel_rfl) (fun _ _ _ h => h) (Or.inl ⟨by rfl, ?_⟩) (by assumption) ?_; rotate_left; (· (intro w hSw; (try dsimp only at hSw); go_simp <;> with_reducible rfl)); try simp only [Act.put, List.setIfInBounds_toArray, List.set_cons_zero, List.set_cons_succ])
  (refine wpAnyH_take (i := 1) (v := ?_) (by simp only [List.getElem?_toArray, List.getElem?_cons_zero, List.getElem?_cons_succ]; rfl) (by kernel_rfl) (by kernel_rfl) (by kernel_rfl) (fun _ _ _ h => h) (Or.inl ⟨by rfl, ?_⟩) (by assumption) ?_; rotate_left; (· (intro w hSw; (try dsimp only at hSw); go_simp <;> with_reducible rfl)); try simp only [Act.put, List.setIfInBounds_toArray, List.set_cons_zero, List.set_cons_succ])
  (refine wpAnyH_take (i := 2) (v := ?_) (by simp only [List.getElem?_toArray, List.getElem?_cons_zero, List.getElem?_cons_succ]; rfl) (by kernel_rfl) (by kernel_rfl) (by kernel_rfl) (fun _ _ _ h => h) (Or.inl ⟨by rfl, ?_⟩) (by assumption) ?_; rotate_left; (· (intro w hSw; (try dsimp only at hSw); go_simp <;> with_reducible rfl)); try simp only [Act.put, List.setIfInBounds_toArray, List.set_cons_zero, List.set_cons_succ])
  (refine wpAnyH_take (i := 3) (v := ?_) (by simp only [List.getElem?_toArray, List.getElem?_cons_zero, List.getElem?_cons_succ]; rfl) (by kernel_rfl) (by kernel_rfl) (by kernel_rfl) (fun _ _ _ h => h) (Or.inl ⟨by rfl, ?_⟩) (by assumption) ?_; rotate_left; (· (intro w hSw; (try dsimp only at hSw); go_simp <;> with_reducible rfl)); try simp only [Act.put, List.setIfInBounds_toArray, List.set_cons_zero, List.set_cons_succ])
  (refine wpAnyH_take (i := 4) (v := ?_) (by simp only [List.getElem?_toArray, List.getElem?_cons_zero, List.getElem?_cons_succ]; rfl) (by kernel_rfl) (by kernel_rfl) (by kernel_rfl) (fun _ _ _ h => h) (Or.inl ⟨by rfl, ?_⟩) (by assumption) ?_; rotate_left; (· (intro w hSw; (try dsimp only at hSw); go_simp <;> with_reducible rfl)); try simp only [Act.put, List.setIfInBounds_toArray, List.set_cons_zero, List.set_cons_succ])
  (refine wpAnyH_take (i := 5) (v := ?_) (by simp only [List.getElem?_toArray, List.getElem?_cons_zero, List.getElem?_cons_succ]; rfl) (by kernel_rfl) (by kernel_rfl) (by kernel_rfl) (fun _ _ _ h => h) (Or.inl ⟨by rfl, ?_⟩) (by assumption) ?_; rotate_left; (· (intro w hSw; (try dsimp only at hSw); go_simp <;> with_reducible rfl)); try simp only [Act.put, List.setIfInBounds_toArray, List.set_cons_zero, List.set_cons_succ])
  (refine wpAnyH_take (i := 6) (v := ?_) (by simp only [List.getElem?_toArray, List.getElem?_cons_zero, List.getElem?_cons_succ]; rfl) (by kernel_rfl) (by kernel_rfl) (by kernel_rfl) (fun _ _ _ h => h) (Or.inl ⟨by rfl, ?_⟩) (by assumption) ?_; rotate_left; (· (intro w hSw; (try dsimp only at hSw); go_simp <;> with_reducible rfl)); try simp only [Act.put, List.setIfInBounds_toArray, List.set_cons_zero, List.set_cons_succ])
  (refine wpAnyH_take (i := 7) (v := ?_) (by simp only [List.getElem?_toArray, List.getElem?_cons_zero, List.getElem?_cons_succ]; rfl) (by kernel_rfl) (by kernel_rfl) (by kernel_rfl) (fun _ _ _ h => h) (Or.inl ⟨by rfl, ?_⟩) (by assumption) ?_; rotate_left; (· (intro w hSw; (try dsimp only at hSw); go_simp <;> with_reducible rfl)); try simp only [Act.put, List.setIfInBounds_toArray, List.set_cons_zero, List.set_cons_succ])
  (refine wpAnyH_take (i := 8) (v := ?_) (by simp only [List.getElem?_toArray, List.getElem?_cons_zero, List.getElem?_cons_succ]; rfl) (by kernel_rfl) (by kernel_rfl) (by kernel_rfl) (fun _ _ _ h => h) (Or.inl ⟨by rfl, ?_⟩) (by assumption) ?_; rotate_left; (· (intro w hSw; (try dsimp only at hSw); go_simp <;> with_reducible rfl)); try simp only [Act.put, List.setIfInBounds_toArray, List.set_cons_zero, List.set_cons_succ])
  (refine wpAnyH_take (i := 9) (v := ?_) (by simp only [List.getElem?_toArray, List.getElem?_cons_zero, List.getElem?_cons_succ]; rfl) (by kernel_rfl) (by kernel_rfl) (by kernel_rfl) (fun _ _ _ h => h) (Or.inl ⟨by rfl, ?_⟩) (by assumption) ?_; rotate_left; (· (intro w hSw; (try dsimp only at hSw); go_simp <;> with_reducible rfl)); try simp only [Act.put, List.setIfInBounds_toArray, List.set_cons_zero, List.set_cons_succ])
  (refine wpAnyH_take (i := 10) (v := ?_) (by simp only [List.getElem?_toArray, List.getElem?_cons_zero, List.getElem?_cons_succ]; rfl) (by kernel_rfl) (by kernel_rfl) (by kernel_rfl) (fun _ _ _ h => h) (Or.inl ⟨by rfl, ?_⟩) (by assumption) ?_; rotate_left; (· (intro w hSw; (try dsimp only at hSw); go_simp <;> with_reducible rfl)); try simp only [Act.put, List.setIfInBounds_toArray, List.set_cons_zero, List.set_cons_succ])
  refine wpAnyH_ready (rs := [11]) (by kernel_rfl) (by simp) ?_
  refine AllReadyH.cons (by simp only [List.getElem?_toArray, List.getElem?_cons_zero, List.getElem?_cons_succ]; rfl) (fun K hK => ?_) AllReadyH.nil
  go_simp
  go_at_call 44
  refine (H10v.out w2 _ (by first | exact Below.refl _ _ | exact (Below.refl _ _).drew | exact below_dN (Below.refl _ _) _)).mono ?_
  rintro e w2b ⟨rfl, HB2b⟩
  refine hK.out _ _ ?_ (fun hHeld => ?_)
  · exact (by obtain ⟨_, _, z1, z2, _⟩ := HS.out w2b (HB2.out.trans (HB2b.out.mono HB2.out.size)); obtain ⟨d0, d1, d2⟩ := HT0.out w2b (HB2.out.trans (HB2b.out.mono HB2.out.size)); exact ⟨d0, d1, d2, z1, z2⟩)
  clear hK K
  try simp only [Act.put, List.setIfInBounds_toArray, List.set_cons_zero, List.set_cons_succ]
  (refine wpAnyH_take (i := 12) (v := ?_) (by simp only [List.getElem?_toArray, List.getElem?_cons_zero, List.getElem?_cons_succ]; rfl) (by kernel_rfl) (by kernel_rfl) (by kernel_rfl) (fun _ _ _ h => h) (Or.inl ⟨by rfl, ?_⟩) (by assumption) ?_; rotate_left; (· (intro w hSw; (try dsimp only at hSw); go_simp <;> with_reducible rfl)); try simp only [Act.put, List.setIfInBounds_toArray, List.set_cons_zero, List.set_cons_succ])
  (refine wpAnyH_take (i := 13) (v := ?_) (by simp only [List.getElem?_toArray, List.getElem?_cons_zero, List.getElem?_cons_succ]; rfl) (by kernel_rfl) (by kernel_rfl) (by kernel_rfl) (fun _ _ _ h => h) (Or.inl ⟨by rfl, ?_⟩) (by assumption) ?_; rotate_left; (· (intro w hSw; (try dsimp only at hSw); go_simp <;> with_reducible rfl)); try simp only [Act.put, List.setIfInBounds_toArray, List.set_cons_zero, List.set_cons_succ])
  (refine wpAnyH_take (i := 14) (v := ?_) (by simp only [List.getElem?_toArray, List.getElem?_cons_zero, List.getElem?_cons_succ]; rfl) (by kernel_rfl) (by kernel_rfl) (by kernel_rfl) (fun _ _ _ h => h) (Or.inl ⟨by rfl, ?_⟩) (by assumption) ?_; rotate_left; (· (intro w hSw; (try dsimp only at hSw); go_simp <;> with_reducible rfl)); try simp only [Act.put, List.setIfInBounds_toArray, List.set_cons_zero, List.set_cons_succ])
  refine wpAnyH_done (by kernel_rfl) ?_ _
  refine NoPanic.normal ?_
  clear hHeld
  have HBx : Hid (Below W.heap.size W w2b) := HB2.out.trans (HB2b.out.mono HB2.out.size)
  clear HB2 HB2b H10v
  go_wp2_with (at_builtin; refine wpList_append_own _ rfl _ _ 26 rfl w2b.heap.size 59 j0 zero60 5 48 Tryz.underlying26 hj hjz hjs hjb rfl (by decide) (.slice none 0 0) 0 [] rfl (World.ownsRow_nil _ _ _ _) ⟨tb, to, none⟩ l.length tcap (flat l) rfl HFL.out (HTC.out w2b HBx.out) (flat_one _) (by unfold maxLen; omega) (by omega) (Nat.le_refl _) ?_)
  intro ov w3 ho3 hg3 _
  obtain ⟨oa, oc, rfl, HOV⟩ : ∃ oa oc, ov = .slice oa l.length oc ∧ Hid (TermAt w3 (.slice oa l.length oc) l ∧ (∀ g, (Value.slice oa l.length oc).ownBlock = some g → w.heap.size ≤ g ∧ g < w3.heap.size) ∧ Below w2b.heap.size w2b w3) := by
    have ho3' : w3.ownsRow w2b.heap.size 59 5 ov l.length (flat l) := by simpa using ho3
    obtain ⟨oa, oc, e, h1, _⟩ := own_sl ho3'
    refine ⟨oa, oc, e, ?_⟩
    subst e
    have hb3 : Below w2b.heap.size w2b w3 := ⟨hg3.os, hg3.tape, hg3.output, hg3.size, fun k hk => hg3.block k hk (by simp [Value.ownBlock])⟩
    have hbw : Below w.heap.size w w2b := HL.out.2.1.trans (HBx.out.mono HL.out.2.1.size)
    refine ⟨ownT_term (base := w2b.heap.size) ho3' HL.out.2.2.1.1.1 HL.out.2.2.1.1.2, fun g hg => ?_, hb3⟩
    have hg' : bkA oa = some g := by
      cases oa with
      | none => cases hg
      | some ad => simpa [Value.ownBlock, bkA] using hg
    exact ⟨Nat.le_trans hbw.size (h1 g hg').1, (h1 g hg').2⟩
  clear ho3 hg3
  have HB3 : Hid (Below W.heap.size W w3) := HBx.out.trans (HOV.out.2.2.mono HBx.out.size)
  go_wp2_with fail
  go_loopw [7, 9, 10] (fun lv bv i wr => ∃ (k : Nat) (bb : Bool) (pre : List Bn), k ≤ n ∧ i = .int .i64 k ∧ bv = .bool bb ∧ Hid (WB (⟨(x1, x2), oa, l.length, oc, l⟩ : Bn) bs w3 wr lv k bb pre)) (fun _ _ i _ => n - (intOf i).toNat)
  case atStart => exact ⟨0, false, [], Nat.zero_le _, rfl, rfl, World.ownsRow_nil _ _ _ _, Below.refl _ _, by simp [restB], by simp⟩
  case round =>
    obtain ⟨k, bb, pre, hk, rfl, rfl, HK⟩ := hrel
    have HBk : Hid (Below W.heap.size W wr) := HB3.out.trans (HK.out.2.1.mono HB3.out.size)
    obtain ⟨q0, f0, v0, v1, hBs⟩ := HS.out wr HBk.out
    by_cases hlt : k < n
    · have hlt1 : (k : Int) < (n : Int) := by omega
      have hk0 : (0 : Int) ≤ (k : Int) := by omega
      obtain ⟨b1, o1, hk1, rfl, hbl, c0', c1', c2'⟩ := hBs.at hlt
      have HD : Hid _ := insB_drop (⟨(x1, x2), oa, l.length, oc, l⟩ : Bn) bs k hk1
      have HLS := H10.out bs[k].x.1 bs[k].x.2 wr
      have HC : Hid (∀ u, Below W.heap.size W u → u.cell? ⟨rt, 0, none⟩ = some (.slice (some ⟨b1, o1, none⟩) n rc) ∧ u.cell? ⟨b1, o1 + k * 3, none⟩ = some (.int .i64 bs[k].x.1) ∧ u.cell? ⟨b1, o1 + k * 3 + 1, none⟩ = some (.int .i64 bs[k].x.2) ∧ u.cell? ⟨b1, o1 + k * 3 + 2, none⟩ = some (.slice bs[k].a bs[k].n bs[k].c) ∧ u.cell? ⟨vb, 0, none⟩ = some (.int .i64 x1) ∧ u.cell? ⟨vb, 1, none⟩ = some (.int .i64 x2)) := fun u hu => by
        obtain ⟨z0, _, z1, z2, z3⟩ := HS.out u hu
        obtain ⟨b2, o2, _, e, _, d0, d1, d2⟩ := z3.at hlt
        cases e
        exact ⟨z0, d0, d1, d2, z1, z2⟩
      generalize bs[k] = q at *
      obtain ⟨⟨y1, y2⟩, qa, qn, qc, ql⟩ := q
      simp only at c0' c1' c2' HD HLS HC
      clear hk1 hBs hbl f0
      cases bb
      · have hpl : pre.length ≤ k := HK.out.2.2.2
        cases hLs : lsB x1 x2 y1 y2
        · rw [hLs] at HLS
          have HE : Hid (insB (⟨(x1, x2), oa, l.length, oc, l⟩ : Bn) bs = (pre ++ [(⟨(y1, y2), qa, qn, qc, ql⟩ : Bn)]) ++ restB false (⟨(x1, x2), oa, l.length, oc, l⟩ : Bn) (bs.drop (k + 1))) := by
            show _ = _
            rw [HK.out.2.2.1]; simp only [restB, Bool.false_eq_true, if_false, HD.out.2.1 hLs]; simp
          clear HD hLs
          go_wp2_with fail
          refine wp_region_noPanic ?_
          refine wp_region_held_drew (S := fun u => u.cell? ⟨rt, 0, none⟩ = some (.slice (some ⟨b1, o1, none⟩) n rc) ∧ u.cell? ⟨b1, o1 + k * 3, none⟩ = some (.int .i64 y1) ∧ u.cell? ⟨b1, o1 + k * 3 + 1, none⟩ = some (.int .i64 y2) ∧ u.cell? ⟨vb, 0, none⟩ = some (.int .i64 x1) ∧ u.cell? ⟨vb, 1, none⟩ = some (.int .i64 x2)) (by kernel_rfl) (⟨q0, c0', c1', v0, v1⟩) (fun hHeld => ?_)
          (refine wpAnyH_take (i := 0) (v := ?_) (by simp only [List.getElem?_toArray, List.getElem?_cons_zero]; rfl) (by kernel_rfl) (by kernel_rfl) (by kernel_rfl) (fun _ _ _ h => h) (Or.inl ⟨by rfl, ?_⟩) (by assumption) ?_; rotate_left; (· (intro w hSw; (try dsimp only at hSw); go_simp <;> with_reducible rfl)); try simp only [Act.put, List.setIfInBounds_toArray, List.set_cons_zero, List.set_cons_succ])
          (refine wpAnyH_take (i := 1) (v := ?_) (by simp only [List.getElem?_toArray, List.getElem?_cons_zero, List.getElem?_cons_succ]; rfl) (by kernel_rfl) (by kernel_rfl) (by kernel_rfl) (fun _ _ _ h => h) (Or.inl ⟨by rfl, ?_⟩) (by assumption) ?_; rotate_left; (· (intro w hSw; (try dsimp only at hSw); go_simp <;> with_reducible rfl)); try simp only [Act.put, List.setIfInBounds_toArray, List.set_cons_zero, List.set_cons_succ])
          (refine wpAnyH_take (i := 2) (v := ?_) (by simp only [List.getElem?_toArray, List.getElem?_cons_zero, List.getElem?_cons_succ]; rfl) (by kernel_rfl) (by kernel_rfl) (by kernel_rfl) (fun _ _ _ h => h) (Or.inl ⟨by rfl, ?_⟩) (by assumption) ?_; rotate_left; (· (intro w hSw; (try dsimp only at hSw); go_simp <;> with_reducible rfl)); try simp only [Act.put, List.setIfInBounds_toArray, List.set_cons_zero, List.set_cons_succ])
          (refine wpAnyH_take (i := 3) (v := ?_) (by simp only [List.getElem?_toArray, List.getElem?_cons_zero, List.getElem?_cons_succ]; rfl) (by kernel_rfl) (by kernel_rfl) (by kernel_rfl) (fun _ _ _ h => h) (Or.inl ⟨by rfl, ?_⟩) (by assumption) ?_; rotate_left; (· (intro w hSw; (try dsimp only at hSw); go_simp <;> with_reducible rfl)); try simp only [Act.put, List.setIfInBounds_toArray, List.set_cons_zero, List.set_cons_succ])
          (refine wpAnyH_take (i := 4) (v := ?_) (by simp only [List.getElem?_toArray, List.getElem?_cons_zero, List.getElem?_cons_succ]; rfl) (by kernel_rfl) (by kernel_rfl) (by kernel_rfl) (fun _ _ _ h => h) (Or.inl ⟨by rfl, ?_⟩) (by assumption) ?_; rotate_left; (· (intro w hSw; (try dsimp only at hSw); go_simp <;> with_reducible rfl)); try simp only [Act.put, List.setIfInBounds_toArray, List.set_cons_zero, List.set_cons_succ])
          (refine wpAnyH_take (i := 5) (v := ?_) (by simp only [List.getElem?_toArray, List.getElem?_cons_zero, List.getElem?_cons_succ]; rfl) (by kernel_rfl) (by kernel_rfl) (by kernel_rfl) (fun _ _ _ h => h) (Or.inl ⟨by rfl, ?_⟩) (by assumption) ?_; rotate_left; (· (intro w hSw; (try dsimp only at hSw); go_simp <;> with_reducible rfl)); try simp only [Act.put, List.setIfInBounds_toArray, List.set_cons_zero, List.set_cons_succ])
          (refine wpAnyH_take (i := 6) (v := ?_) (by simp only [List.getElem?_toArray, List.getElem?_cons_zero, List.getElem?_cons_succ]; rfl) (by kernel_rfl) (by kernel_rfl) (by kernel_rfl) (fun _ _ _ h => h) (Or.inl ⟨by rfl, ?_⟩) (by assumption) ?_; rotate_left; (· (intro w hSw; (try dsimp only at hSw); go_simp <;> with_reducible rfl)); try simp only [Act.put, List.setIfInBounds_toArray, List.set_cons_zero, List.set_cons_succ])
          (refine wpAnyH_take (i := 7) (v := ?_) (by simp only [List.getElem?_toArray, List.getElem?_cons_zero, List.getElem?_cons_succ]; rfl) (by kernel_rfl) (by kernel_rfl) (by kernel_rfl) (fun _ _ _ h => h) (Or.inl ⟨by rfl, ?_⟩) (by assumption) ?_; rotate_left; (· (intro w hSw; (try dsimp only at hSw); go_simp <;> with_reducible rfl)); try simp only [Act.put, List.setIfInBounds_toArray, List.set_cons_zero, List.set_cons_succ])
          (refine wpAnyH_take (i := 8) (v := ?_) (by simp only [List.getElem?_toArray, List.getElem?_cons_zero, List.getElem?_cons_succ]; rfl) (by kernel_rfl) (by kernel_rfl) (by kernel_rfl) (fun _ _ _ h => h) (Or.inl ⟨by rfl, ?_⟩) (by assumption) ?_; rotate_left; (· (intro w hSw; (try dsimp only at hSw); go_simp <;> with_reducible rfl)); try simp only [Act.put, List.setIfInBounds_toArray, List.set_cons_zero, List.set_cons_succ])
          (refine wpAnyH_take (i := 9) (v := ?_) (by simp only [List.getElem?_toArray, List.getElem?_cons_zero, List.getElem?_cons_succ]; rfl) (by kernel_rfl) (by kernel_rfl) (by kernel_rfl) (fun _ _ _ h => h) (Or.inl ⟨by rfl, ?_⟩) (by assumption) ?_; rotate_left; (· (intro w hSw; (try dsimp only at hSw); go_simp <;> with_reducible rfl)); try simp only [Act.put, List.setIfInBounds_toArray, List.set_cons_zero, List.set_cons_succ])
          (refine wpAnyH_take (i := 10) (v := ?_) (by simp only [List.getElem?_toArray, List.getElem?_cons_zero, List.getElem?_cons_succ]; rfl) (by kernel_rfl) (by kernel_rfl) (by kernel_rfl) (fun _ _ _ h => h) (Or.inl ⟨by rfl, ?_⟩) (by assumption) ?_; rotate_left; (· (intro w hSw; (try dsimp only at hSw); go_simp <;> with_reducible rfl)); try simp only [Act.put, List.setIfInBounds_toArray, List.set_cons_zero, List.set_cons_succ])
          (refine wpAnyH_take (i := 11) (v := ?_) (by simp only [List.getElem?_toArray, List.getElem?_cons_zero, List.getElem?_cons_succ]; rfl) (by kernel_rfl) (by kernel_rfl) (by kernel_rfl) (fun _ _ _ h => h) (Or.inl ⟨by rfl, ?_⟩) (by assumption) ?_; rotate_left; (· (intro w hSw; (try dsimp only at hSw); go_simp <;> with_reducible rfl)); try simp only [Act.put, List.setIfInBounds_toArray, List.set_cons_zero, List.set_cons_succ])
          refine wpAnyH_ready (rs := [12]) (by kernel_rfl) (by simp) ?_
          refine AllReadyH.cons (by simp only [List.getElem?_toArray, List.getElem?_cons_zero, List.getElem?_cons_succ]; rfl) (fun K hK => ?_) AllReadyH.nil
          go_simp
          go_at_call 44
          refine (HLS _ (by first | exact Below.refl _ _ | exact (Below.refl _ _).drew | exact below_dN (Below.refl _ _) _)).mono ?_
          rintro e w4 ⟨rfl, H4⟩
          refine hK.out _ _ ?_ (fun hHeld => ?_)
          · exact (by obtain ⟨z0, z1, z2, _, z4, z5⟩ := HC.out w4 (HBk.out.trans (H4.out.mono HBk.out.size)); exact ⟨z0, z1, z2, z4, z5⟩)
          clear hK K
          try simp only [Act.put, List.setIfInBounds_toArray, List.set_cons_zero, List.set_cons_succ]
          (refine wpAnyH_take (i := 13) (v := ?_) (by simp only [List.getElem?_toArray, List.getElem?_cons_zero, List.getElem?_cons_succ]; rfl) (by kernel_rfl) (by kernel_rfl) (by kernel_rfl) (fun _ _ _ h => h) (Or.inl ⟨by rfl, ?_⟩) (by assumption) ?_; rotate_left; (· (intro w hSw; (try dsimp only at hSw); go_simp <;> with_reducible rfl)); try simp only [Act.put, List.setIfInBounds_toArray, List.set_cons_zero, List.set_cons_succ])
          refine wpAnyH_done (by kernel_rfl) ?_ _
          refine NoPanic.normal ?_
          clear hHeld q0 v0 v1 c0' c1' c2'
          obtain ⟨q0, c0', c1', c2', v0, v1⟩ := HC.out w4 (HBk.out.trans (H4.out.mono HBk.out.size))
          have HW : Hid (WB (⟨(x1, x2), oa, l.length, oc, l⟩ : Bn) bs w3 (w4.alloc (.cells #[.int .i64 y1, .int .i64 y2, .slice qa qn qc] 55)) _ k false pre) := (HK.out.below H4.out).below ((Below.refl _ w4).alloc (Nat.le_refl _) _)
          go_wp2_with (at_builtin; refine wpList_append_own _ rfl _ _ 22 rfl w3.heap.size 55 i0 _ 3 40 Tryz.underlying22 hi hz hs3 hby rfl (by decide) _ _ _ rfl HW.out.1 ⟨w4.heap.size, 0, none⟩ 1 1 (encB (⟨(y1, y2), qa, qn, qc, ql⟩ : Bn)) rfl rfl (new_bn w4 (⟨(y1, y2), qa, qn, qc, ql⟩ : Bn)) (one_bn _) (by unfold maxLen; omega) (by omega) HW.out.2.1.size ?_)
          intro v' w' hown hgr _
          have HF : Hid (WB (⟨(x1, x2), oa, l.length, oc, l⟩ : Bn) bs w3 w' v' (k + 1) false (pre ++ [(⟨(y1, y2), qa, qn, qc, ql⟩ : Bn)])) := HW.out.more hown hgr HE.out (by simp only [cond]; omega)
          clear hown hgr
          go_wp2_with fail
          go_roundw
          case rel => exact ⟨k + 1, false, pre ++ [(⟨(y1, y2), qa, qn, qc, ql⟩ : Bn)], by omega, by go_num, rfl, HF⟩
          case measure => simp [intOf]; omega
        · rw [hLs] at HLS
          have HE : Hid (insB (⟨(x1, x2), oa, l.length, oc, l⟩ : Bn) bs = ((pre ++ [(⟨(x1, x2), oa, l.length, oc, l⟩ : Bn)]) ++ [(⟨(y1, y2), qa, qn, qc, ql⟩ : Bn)]) ++ restB true (⟨(x1, x2), oa, l.length, oc, l⟩ : Bn) (bs.drop (k + 1))) := by
            show _ = _
            rw [HK.out.2.2.1]; simp only [restB, Bool.false_eq_true, if_false, if_true, HD.out.1 hLs]; simp
          have HE0 : Hid (insB (⟨(x1, x2), oa, l.length, oc, l⟩ : Bn) bs = (pre ++ [(⟨(x1, x2), oa, l.length, oc, l⟩ : Bn)]) ++ restB true (⟨(x1, x2), oa, l.length, oc, l⟩ : Bn) (bs.drop k)) := by
            show _ = _
            have a1 := HD.out.1 hLs
            have a2 := HD.out.2.2
            rw [HK.out.2.2.1]
            simp only [restB, Bool.false_eq_true, if_false, if_true]
            rw [a1, a2]; simp
          clear HD hLs
          go_wp2_with fail
          refine wp_region_noPanic ?_
          refine wp_region_held_drew (S := fun u => u.cell? ⟨rt, 0, none⟩ = some (.slice (some ⟨b1, o1, none⟩) n rc) ∧ u.cell? ⟨b1, o1 + k * 3, none⟩ = some (.int .i64 y1) ∧ u.cell? ⟨b1, o1 + k * 3 + 1, none⟩ = some (.int .i64 y2) ∧ u.cell? ⟨vb, 0, none⟩ = some (.int .i64 x1) ∧ u.cell? ⟨vb, 1, none⟩ = some (.int .i64 x2)) (by kernel_rfl) (⟨q0, c0', c1', v0, v1⟩) (fun hHeld => ?_)
          (refine wpAnyH_take (i := 0) (v := ?_) (by simp only [List.getElem?_toArray, List.getElem?_cons_zero]; rfl) (by kernel_rfl) (by kernel_rfl) (by kernel_rfl) (fun _ _ _ h => h) (Or.inl ⟨by rfl, ?_⟩) (by assumption) ?_; rotate_left; (· (intro w hSw; (try dsimp only at hSw); go_simp <;> with_reducible rfl)); try simp only [Act.put, List.setIfInBounds_toArray, List.set_cons_zero, List.set_cons_succ])
          (refine wpAnyH_take (i := 1) (v := ?_) (by simp only [List.getElem?_toArray, List.getElem?_cons_zero, List.getElem?_cons_succ]; rfl) (by kernel_rfl) (by kernel_rfl) (by kernel_rfl) (fun _ _ _ h => h) (Or.inl ⟨by rfl, ?_⟩) (by assumption) ?_; rotate_left; (· (intro w hSw; (try dsimp only at hSw); go_simp <;> with_reducible rfl)); try simp only [Act.put, List.setIfInBounds_toArray, List.set_cons_zero, List.set_cons_succ])
          (refine wpAnyH_take (i := 2) (v := ?_) (by simp only [List.getElem?_toArray, List.getElem?_cons_zero, List.getElem?_cons_succ]; rfl) (by kernel_rfl) (by kernel_rfl) (by kernel_rfl) (fun _ _ _ h => h) (Or.inl ⟨by rfl, ?_⟩) (by assumption) ?_; rotate_left; (· (intro w hSw; (try dsimp only at hSw); go_simp <;> with_reducible rfl)); try simp only [Act.put, List.setIfInBounds_toArray, List.set_cons_zero, List.set_cons_succ])
          (refine wpAnyH_take (i := 3) (v := ?_) (by simp only [List.getElem?_toArray, List.getElem?_cons_zero, List.getElem?_cons_succ]; rfl) (by kernel_rfl) (by kernel_rfl) (by kernel_rfl) (fun _ _ _ h => h) (Or.inl ⟨by rfl, ?_⟩) (by assumption) ?_; rotate_left; (· (intro w hSw; (try dsimp only at hSw); go_simp <;> with_reducible rfl)); try simp only [Act.put, List.setIfInBounds_toArray, List.set_cons_zero, List.set_cons_succ])
          (refine wpAnyH_take (i := 4) (v := ?_) (by simp only [List.getElem?_toArray, List.getElem?_cons_zero, List.getElem?_cons_succ]; rfl) (by kernel_rfl) (by kernel_rfl) (by kernel_rfl) (fun _ _ _ h => h) (Or.inl ⟨by rfl, ?_⟩) (by assumption) ?_; rotate_left; (· (intro w hSw; (try dsimp only at hSw); go_simp <;> with_reducible rfl)); try simp only [Act.put, List.setIfInBounds_toArray, List.set_cons_zero, List.set_cons_succ])
          (refine wpAnyH_take (i := 5) (v := ?_) (by simp only [List.getElem?_toArray, List.getElem?_cons_zero, List.getElem?_cons_succ]; rfl) (by kernel_rfl) (by kernel_rfl) (by kernel_rfl) (fun _ _ _ h => h) (Or.inl ⟨by rfl, ?_⟩) (by assumption) ?_; rotate_left; (· (intro w hSw; (try dsimp only at hSw); go_simp <;> with_reducible rfl)); try simp only [Act.put, List.setIfInBounds_toArray, List.set_cons_zero, List.set_cons_succ])
          (refine wpAnyH_take (i := 6) (v := ?_) (by simp only [List.getElem?_toArray, List.getElem?_cons_zero, List.getElem?_cons_succ]; rfl) (by kernel_rfl) (by kernel_rfl) (by kernel_rfl) (fun _ _ _ h => h) (Or.inl ⟨by rfl, ?_⟩) (by assumption) ?_; rotate_left; (· (intro w hSw; (try dsimp only at hSw); go_simp <;> with_reducible rfl)); try simp only [Act.put, List.setIfInBounds_toArray, List.set_cons_zero, List.set_cons_succ])
          (refine wpAnyH_take (i := 7) (v := ?_) (by simp only [List.getElem?_toArray, List.getElem?_cons_zero, List.getElem?_cons_succ]; rfl) (by kernel_rfl) (by kernel_rfl) (by kernel_rfl) (fun _ _ _ h => h) (Or.inl ⟨by rfl, ?_⟩) (by assumption) ?_; rotate_left; (· (intro w hSw; (try dsimp only at hSw); go_simp <;> with_reducible rfl)); try simp only [Act.put, List.setIfInBounds_toArray, List.set_cons_zero, List.set_cons_succ])
          (refine wpAnyH_take (i := 8) (v := ?_) (by simp only [List.getElem?_toArray, List.getElem?_cons_zero, List.getElem?_cons_succ]; rfl) (by kernel_rfl) (by kernel_rfl) (by kernel_rfl) (fun _ _ _ h => h) (Or.inl ⟨by rfl, ?_⟩) (by assumption) ?_; rotate_left; (· (intro w hSw; (try dsimp only at hSw); go_simp <;> with_reducible rfl)); try simp only [Act.put, List.setIfInBounds_toArray, List.set_cons_zero, List.set_cons_succ])
          (refine wpAnyH_take (i := 9) (v := ?_) (by simp only [List.getElem?_toArray, List.getElem?_cons_zero, List.getElem?_cons_succ]; rfl) (by kernel_rfl) (by kernel_rfl) (by kernel_rfl) (fun _ _ _ h => h) (Or.inl ⟨by rfl, ?_⟩) (by assumption) ?_; rotate_left; (· (intro w hSw; (try dsimp only at hSw); go_simp <;> with_reducible rfl)); try simp only [Act.put, List.setIfInBounds_toArray, List.set_cons_zero, List.set_cons_succ])
          (refine wpAnyH_take (i := 10) (v := ?_) (by simp only [List.getElem?_toArray, List.getElem?_cons_zero, List.getElem?_cons_succ]; rfl) (by kernel_rfl) (by kernel_rfl) (by kernel_rfl) (fun _ _ _ h => h) (Or.inl ⟨by rfl, ?_⟩) (by assumption) ?_; rotate_left; (· (intro w hSw; (try dsimp only at hSw); go_simp <;> with_reducible rfl)); try simp only [Act.put, List.setIfInBounds_toArray, List.set_cons_zero, List.set_cons_succ])
          (refine wpAnyH_take (i := 11) (v := ?_) (by simp only [List.getElem?_toArray, List.getElem?_cons_zero, List.getElem?_cons_succ]; rfl) (by kernel_rfl) (by kernel_rfl) (by kernel_rfl) (fun _ _ _ h => h) (Or.inl ⟨by rfl, ?_⟩) (by assumption) ?_; rotate_left; (· (intro w hSw; (try dsimp only at hSw); go_simp <;> with_reducible rfl)); try simp only [Act.put, List.setIfInBounds_toArray, List.set_cons_zero, List.set_cons_succ])
          refine wpAnyH_ready (rs := [12]) (by kernel_rfl) (by simp) ?_
          refine AllReadyH.cons (by simp only [List.getElem?_toArray, List.getElem?_cons_zero, List.getElem?_cons_succ]; rfl) (fun K hK => ?_) AllReadyH.nil
          go_simp
          go_at_call 44
          refine (HLS _ (by first | exact Below.refl _ _ | exact (Below.refl _ _).drew | exact below_dN (Below.refl _ _) _)).mono ?_
          rintro e w4 ⟨rfl, H4⟩
          refine hK.out _ _ ?_ (fun hHeld => ?_)
          · exact (by obtain ⟨z0, z1, z2, _, z4, z5⟩ := HC.out w4 (HBk.out.trans (H4.out.mono HBk.out.size)); exact ⟨z0, z1, z2, z4, z5⟩)
          clear hK K
          try simp only [Act.put, List.setIfInBounds_toArray, List.set_cons_zero, List.set_cons_succ]
          (refine wpAnyH_take (i := 13) (v := ?_) (by simp only [List.getElem?_toArray, List.getElem?_cons_zero, List.getElem?_cons_succ]; rfl) (by kernel_rfl) (by kernel_rfl) (by kernel_rfl) (fun _ _ _ h => h) (Or.inl ⟨by rfl, ?_⟩) (by assumption) ?_; rotate_left; (· (intro w hSw; (try dsimp only at hSw); go_simp <;> with_reducible rfl)); try simp only [Act.put, List.setIfInBounds_toArray, List.set_cons_zero, List.set_cons_succ])
          refine wpAnyH_done (by kernel_rfl) ?_ _
          refine NoPanic.normal ?_
          clear hHeld q0 v0 v1 c0' c1' c2'
          obtain ⟨q0, c0', c1', c2', v0, v1⟩ := HC.out w4 (HBk.out.trans (H4.out.mono HBk.out.size))
          have HW : Hid (WB (⟨(x1, x2), oa, l.length, oc, l⟩ : Bn) bs w3 (w4.alloc (.cells #[.int .i64 x1, .int .i64 x2, .slice oa l.length oc] 55)) _ k false pre) := (HK.out.below H4.out).below ((Below.refl _ w4).alloc (Nat.le_refl _) _)
          go_wp2_with (at_builtin; refine wpList_append_own _ rfl _ _ 22 rfl w3.heap.size 55 i0 _ 3 40 Tryz.underlying22 hi hz hs3 hby rfl (by decide) _ _ _ rfl HW.out.1 ⟨w4.heap.size, 0, none⟩ 1 1 (encB (⟨(x1, x2), oa, l.length, oc, l⟩ : Bn)) rfl rfl (new_bn w4 (⟨(x1, x2), oa, l.length, oc, l⟩ : Bn)) (one_bn _) (by unfold maxLen; omega) (by omega) HW.out.2.1.size ?_)
          intro v' w' hown hgr _
          have HF : Hid (WB (⟨(x1, x2), oa, l.length, oc, l⟩ : Bn) bs w3 w' v' k true (pre ++ [(⟨(x1, x2), oa, l.length, oc, l⟩ : Bn)])) := HW.out.more hown hgr HE0.out (by simp only [cond]; omega)
          clear hown hgr q0 v0 v1 c0' c1' c2'
          obtain ⟨q0, c0', c1', c2', v0, v1⟩ := HC.out w' (HB3.out.trans (HF.out.2.1.mono HB3.out.size))
          have HW2 : Hid (WB (⟨(x1, x2), oa, l.length, oc, l⟩ : Bn) bs w3 (w'.alloc (.cells #[.int .i64 y1, .int .i64 y2, .slice qa qn qc] 55)) v' k true (pre ++ [(⟨(x1, x2), oa, l.length, oc, l⟩ : Bn)])) := HF.out.below ((Below.refl _ w').alloc (Nat.le_refl _) _)
          have HLp : Hid ((pre ++ [(⟨(x1, x2), oa, l.length, oc, l⟩ : Bn)]).length = pre.length + 1) := by show _ = _; simp
          go_wp2_with (at_builtin; refine wpList_append_own _ rfl _ _ 22 rfl w3.heap.size 55 i0 _ 3 40 Tryz.underlying22 hi hz hs3 hby rfl (by decide) _ (pre.length + 1) _ rfl (by have := HW2.out.1; rw [HLp.out] at this; exact this) ⟨w'.heap.size, 0, none⟩ 1 1 (encB (⟨(y1, y2), qa, qn, qc, ql⟩ : Bn)) rfl rfl (new_bn w' (⟨(y1, y2), qa, qn, qc, ql⟩ : Bn)) (one_bn _) (by unfold maxLen; omega) (by omega) HW2.out.2.1.size ?_)
          intro v2 w5 hown hgr _
          have HF2 : Hid (WB (⟨(x1, x2), oa, l.length, oc, l⟩ : Bn) bs w3 w5 v2 (k + 1) true ((pre ++ [(⟨(x1, x2), oa, l.length, oc, l⟩ : Bn)]) ++ [(⟨(y1, y2), qa, qn, qc, ql⟩ : Bn)])) := HW2.out.more (by rw [HLp.out]; simpa using hown) hgr HE.out (by rw [HLp.out]; simp only [cond]; omega)
          clear hown hgr
          go_wp2_with fail
          go_roundw
          case rel => exact ⟨k + 1, true, (pre ++ [(⟨(x1, x2), oa, l.length, oc, l⟩ : Bn)]) ++ [(⟨(y1, y2), qa, qn, qc, ql⟩ : Bn)], by omega, by go_num, rfl, HF2⟩
          case measure => simp [intOf]; omega
      · have HE : Hid (insB (⟨(x1, x2), oa, l.length, oc, l⟩ : Bn) bs = (pre ++ [(⟨(y1, y2), qa, qn, qc, ql⟩ : Bn)]) ++ restB true (⟨(x1, x2), oa, l.length, oc, l⟩ : Bn) (bs.drop (k + 1))) := by
          show _ = _
          have a2 := HD.out.2.2
          rw [HK.out.2.2.1]
          simp only [restB, if_true]
          rw [a2]; simp
        have hpl : pre.length ≤ k + 1 := HK.out.2.2.2
        clear HD HLS
        go_wp2_with fail
        refine wp_region_noPanic ?_
        refine wp_region_held_drew (S := fun u => u.cell? ⟨rt, 0, none⟩ = some (.slice (some ⟨b1, o1, none⟩) n rc) ∧ u.cell? ⟨b1, o1 + k * 3, none⟩ = some (.int .i64 y1) ∧ u.cell? ⟨b1, o1 + k * 3 + 1, none⟩ = some (.int .i64 y2) ∧ u.cell? ⟨vb, 0, none⟩ = some (.int .i64 x1) ∧ u.cell? ⟨vb, 1, none⟩ = some (.int .i64 x2)) (by kernel_rfl) (⟨q0, c0', c1', v0, v1⟩) (fun hHeld => ?_)
        (refine wpAnyH_take (i := 0) (v := ?_) (by simp only [List.getElem?_toArray, List.getElem?_cons_zero]; rfl) (by kernel_rfl) (by kernel_rfl) (by kernel_rfl) (fun _ _ _ h => h) (Or.inl ⟨by rfl, ?_⟩) (by assumption) ?_; rotate_left; (· (intro w hSw; (try dsimp only at hSw); go_simp <;> with_reducible rfl)); try simp only [Act.put, List.setIfInBounds_toArray, List.set_cons_zero, List.set_cons_succ])
        (refine wpAnyH_take (i := 1) (v := ?_) (by simp only [List.getElem?_toArray, List.getElem?_cons_zero, List.getElem?_cons_succ]; rfl) (by kernel_rfl) (by kernel_rfl) (by kernel_rfl) (fun _ _ _ h => h) (Or.inl ⟨by rfl, ?_⟩) (by assumption) ?_; rotate_left; (· (intro w hSw; (try dsimp only at hSw); go_simp <;> with_reducible rfl)); try simp only [Act.put, List.setIfInBounds_toArray, List.set_cons_zero, List.set_cons_succ])
        (refine wpAnyH_take (i := 2) (v := ?_) (by simp only [List.getElem?_toArray, List.getElem?_cons_zero, List.getElem?_cons_succ]; rfl) (by kernel_rfl) (by kernel_rfl) (by kernel_rfl) (fun _ _ _ h => h) (Or.inl ⟨by rfl, ?_⟩) (by assumption) ?_; rotate_left; (· (intro w hSw; (try dsimp only at hSw); go_simp <;> with_reducible rfl)); try simp only [Act.put, List.setIfInBounds_toArray, List.set_cons_zero, List.set_cons_succ])
        (refine wpAnyH_take (i := 3) (v := undef) (by simp only [List.getElem?_toArray, List.getElem?_cons_zero, List.getElem?_cons_succ]; rfl) (by kernel_rfl) (by kernel_rfl) (by kernel_rfl) (fun _ _ _ h => h) (Or.inr ⟨by rfl, rfl⟩) (by assumption) ?_; try simp only [Act.put, List.setIfInBounds_toArray, List.set_cons_zero, List.set_cons_succ])
        (refine wpAnyH_take (i := 4) (v := undef) (by simp only [List.getElem?_toArray, List.getElem?_cons_zero, List.getElem?_cons_succ]; rfl) (by kernel_rfl) (by kernel_rfl) (by kernel_rfl) (fun _ _ _ h => h) (Or.inr ⟨by rfl, rfl⟩) (by assumption) ?_; try simp only [Act.put, List.setIfInBounds_toArray, List.set_cons_zero, List.set_cons_succ])
        (refine wpAnyH_take (i := 5) (v := undef) (by simp only [List.getElem?_toArray, List.getElem?_cons_zero, List.getElem?_cons_succ]; rfl) (by kernel_rfl) (by kernel_rfl) (by kernel_rfl) (fun _ _ _ h => h) (Or.inr ⟨by rfl, rfl⟩) (by assumption) ?_; try simp only [Act.put, List.setIfInBounds_toArray, List.set_cons_zero, List.set_cons_succ])
        (refine wpAnyH_take (i := 6) (v := undef) (by simp only [List.getElem?_toArray, List.getElem?_cons_zero, List.getElem?_cons_succ]; rfl) (by kernel_rfl) (by kernel_rfl) (by kernel_rfl) (fun _ _ _ h => h) (Or.inr ⟨by rfl, rfl⟩) (by assumption) ?_; try simp only [Act.put, List.setIfInBounds_toArray, List.set_cons_zero, List.set_cons_succ])
        (refine wpAnyH_take (i := 7) (v := undef) (by simp only [List.getElem?_toArray, List.getElem?_cons_zero, List.getElem?_cons_succ]; rfl) (by kernel_rfl) (by kernel_rfl) (by kernel_rfl) (fun _ _ _ h => h) (Or.inr ⟨by rfl, rfl⟩) (by assumption) ?_; try simp only [Act.put, List.setIfInBounds_toArray, List.set_cons_zero, List.set_cons_succ])
        (refine wpAnyH_take (i := 8) (v := undef) (by simp only [List.getElem?_toArray, List.getElem?_cons_zero, List.getElem?_cons_succ]; rfl) (by kernel_rfl) (by kernel_rfl) (by kernel_rfl) (fun _ _ _ h => h) (Or.inr ⟨by rfl, rfl⟩) (by assumption) ?_; try simp only [Act.put, List.setIfInBounds_toArray, List.set_cons_zero, List.set_cons_succ])
        (refine wpAnyH_take (i := 9) (v := undef) (by simp only [List.getElem?_toArray, List.getElem?_cons_zero, List.getElem?_cons_succ]; rfl) (by kernel_rfl) (by kernel_rfl) (by kernel_rfl) (fun _ _ _ h => h) (Or.inr ⟨by rfl, rfl⟩) (by assumption) ?_; try simp only [Act.put, List.setIfInBounds_toArray, List.set_cons_zero, List.set_cons_succ])
        (refine wpAnyH_take (i := 10) (v := undef) (by simp only [List.getElem?_toArray, List.getElem?_cons_zero, List.getElem?_cons_succ]; rfl) (by kernel_rfl) (by kernel_rfl) (by kernel_rfl) (fun _ _ _ h => h) (Or.inr ⟨by rfl, rfl⟩) (by assumption) ?_; try simp only [Act.put, List.setIfInBounds_toArray, List.set_cons_zero, List.set_cons_succ])
        (refine wpAnyH_take (i := 11) (v := undef) (by simp only [List.getElem?_toArray, List.getElem?_cons_zero, List.getElem?_cons_succ]; rfl) (by kernel_rfl) (by kernel_rfl) (by kernel_rfl) (fun _ _ _ h => h) (Or.inr ⟨by rfl, rfl⟩) (by assumption) ?_; try simp only [Act.put, List.setIfInBounds_toArray, List.set_cons_zero, List.set_cons_succ])
        (refine wpAnyH_take (i := 12) (v := undef) (by simp only [List.getElem?_toArray, List.getElem?_cons_zero, List.getElem?_cons_succ]; rfl) (by kernel_rfl) (by kernel_rfl) (by kernel_rfl) (fun _ _ _ h => h) (Or.inr ⟨by rfl, rfl⟩) (by assumption) ?_; try simp only [Act.put, List.setIfInBounds_toArray, List.set_cons_zero, List.set_cons_succ])
        (refine wpAnyH_take (i := 13) (v := ?_) (by simp only [List.getElem?_toArray, List.getElem?_cons_zero, List.getElem?_cons_succ]; rfl) (by kernel_rfl) (by kernel_rfl) (by kernel_rfl) (fun _ _ _ h => h) (Or.inl ⟨by rfl, ?_⟩) (by assumption) ?_; rotate_left; (· (intro w hSw; (try dsimp only at hSw); go_simp <;> with_reducible rfl)); try simp only [Act.put, List.setIfInBounds_toArray, List.set_cons_zero, List.set_cons_succ])
        refine wpAnyH_done (by kernel_rfl) ?_ _
        refine NoPanic.normal ?_
        clear hHeld
        have HW : Hid (WB (⟨(x1, x2), oa, l.length, oc, l⟩ : Bn) bs w3 (wr.drew.alloc (.cells #[.int .i64 y1, .int .i64 y2, .slice qa qn qc] 55)) _ k true pre) := (HK.out.below ((Below.refl _ wr).drew)).below ((Below.refl _ _).alloc (Nat.le_refl _) _)
        go_wp2_with (at_builtin; refine wpList_append_own _ rfl _ _ 22 rfl w3.heap.size 55 i0 _ 3 40 Tryz.underlying22 hi hz hs3 hby rfl (by decide) _ _ _ rfl HW.out.1 ⟨wr.drew.heap.size, 0, none⟩ 1 1 (encB (⟨(y1, y2), qa, qn, qc, ql⟩ : Bn)) rfl rfl (new_bn wr.drew (⟨(y1, y2), qa, qn, qc, ql⟩ : Bn)) (one_bn _) (by unfold maxLen; omega) (by omega) HW.out.2.1.size ?_)
        intro v' w' hown hgr _
        have HF : Hid (WB (⟨(x1, x2), oa, l.length, oc, l⟩ : Bn) bs w3 w' v' (k + 1) true (pre ++ [(⟨(y1, y2), qa, qn, qc, ql⟩ : Bn)])) := HW.out.more hown hgr HE.out (by simp only [cond]; omega)
        clear hown hgr
        go_wp2_with fail
        go_roundw
        case rel => exact ⟨k + 1, true, pre ++ [(⟨(y1, y2), qa, qn, qc, ql⟩ : Bn)], by omega, by go_num, rfl, HF⟩
        case measure => simp [intOf]; omega
    · have hlt1 : ¬ (k : Int) < (n : Int) := by omega
      have hdr : bs.drop k = [] := by rw [List.drop_eq_nil_iff, HL.out.2.2.2.1]; omega
      have HDR : Hid (bs.drop k = []) := hdr
      have hbw3 : Below w.heap.size w w3 := HL.out.2.1.trans (HB3.out.mono HL.out.2.1.size)
      have HEnd : Hid (∀ w4 v4 pre4 k4, WB (⟨(x1, x2), oa, l.length, oc, l⟩ : Bn) bs w3 w4 v4 k4 true pre4 → bs.drop k4 = [] → ∃ a m c, v4 = .slice a m c ∧ BindR w G rt bs (x1, x2) l (w4.setCell ⟨rt, 0, none⟩ (.slice a m c))) := fun w4 v4 pre4 k4 hF hd =>
        bind_end HL.out.1 hbw3 hF hd HOV.out.1 (fun g hg => HOV.out.2.1 g hg) HL.out.2.2.2.2
      clear hdr hbw3 hBs
      cases bb
      · have hpl : pre.length ≤ k := HK.out.2.2.2
        have HE0 : Hid (insB (⟨(x1, x2), oa, l.length, oc, l⟩ : Bn) bs = (pre ++ [(⟨(x1, x2), oa, l.length, oc, l⟩ : Bn)]) ++ restB true (⟨(x1, x2), oa, l.length, oc, l⟩ : Bn) (bs.drop k)) := by
          show _ = _
          rw [HK.out.2.2.1, HDR.out]; simp [restB, insB]
        have HW : Hid (WB (⟨(x1, x2), oa, l.length, oc, l⟩ : Bn) bs w3 (wr.alloc (.cells #[.int .i64 x1, .int .i64 x2, .slice oa l.length oc] 55)) _ k false pre) := HK.out.below ((Below.refl _ wr).alloc (Nat.le_refl _) _)
        go_wp2_with (at_builtin; refine wpList_append_own _ rfl _ _ 22 rfl w3.heap.size 55 i0 _ 3 40 Tryz.underlying22 hi hz hs3 hby rfl (by decide) _ _ _ rfl HW.out.1 ⟨wr.heap.size, 0, none⟩ 1 1 (encB (⟨(x1, x2), oa, l.length, oc, l⟩ : Bn)) rfl rfl (new_bn wr (⟨(x1, x2), oa, l.length, oc, l⟩ : Bn)) (one_bn _) (by unfold maxLen; omega) (by omega) HW.out.2.1.size ?_)
        intro v' w' hown hgr _
        have HF : Hid (WB (⟨(x1, x2), oa, l.length, oc, l⟩ : Bn) bs w3 w' v' k true (pre ++ [(⟨(x1, x2), oa, l.length, oc, l⟩ : Bn)])) := HW.out.more hown hgr HE0.out (by simp only [cond]; omega)
        clear hown hgr q0 v0 v1 f0
        obtain ⟨q0, f0, v0, v1, hBs⟩ := HS.out w' (HB3.out.trans (HF.out.2.1.mono HB3.out.size))
        clear hBs
        obtain ⟨a', m', c', rfl, hE⟩ := HEnd.out w' v' _ k HF.out HDR.out
        have HEE : Hid _ := hE
        clear hE
        go_wp2_with fail
        go_ret
        exact ⟨by rw [HBE.out]; rfl, HEE.out⟩
      · obtain ⟨a', m', c', rfl, hE⟩ := HEnd.out wr _ _ k HK.out HDR.out
        have HEE : Hid _ := hE
        clear hE
        go_wp2_with fail
        go_ret
        exact ⟨by rw [HBE.out]; rfl, HEE.out⟩
set_option maxRecDepth 100000 in
set_option maxHeartbeats 16000000 in
theorem i24_not (G : Nat → Prop) (rt : Nat) (bs : List Bn) (x : Nm) (l : List C) (v : Value) (w : World) (h : RfH w G rt bs) (hT : TermAt w v l) (hbt : l.length * 48 ≤ 140737488355328) (hn : bs.length ≤ 3518437208780) (he : ¬ (x.1 < 0 ∨ oneT ⟨4, ⟨#[]⟩, 0, x.1, x.2⟩ = [] ∨ globalB l = false)) (h70 : hasB bs x = false) (hv : isVarL l = false) :
    Calls Tryz.prog 25 #[.pointer (some ⟨rt, 0, none⟩), .agg #[.int .i64 x.1, .int .i64 x.2], v] w fun e w' => e = .returned (.int .i64 (bindE (hpOf bs) x l)) ∧ BindR w G rt bs x l w' := by
  obtain ⟨i0, hi, hz, hs3, hby⟩ := infoB
  obtain ⟨j0, hj, hjz, hjs, hjb⟩ := info60
  obtain ⟨W, hW⟩ : ∃ W, w.alloc (.cells #[.int .i64 x.1, .int .i64 x.2] 24) = W := ⟨_, rfl⟩
  obtain ⟨vb, hvb⟩ : ∃ vb, w.heap.size = vb := ⟨_, rfl⟩
  have hbW : Below w.heap.size w W := by rw [← hW]; exact (Below.refl _ w).alloc (Nat.le_refl _) _
  have hc : W.heap[vb]? = some (.cells #[.int .i64 x.1, .int .i64 x.2] 24 (0, 0)) := by rw [← hW, ← hvb]; exact heap_alloc_new w _
  have hvl : vb < W.heap.size := (Array.getElem?_eq_some_iff.1 hc).1
  obtain ⟨v0, v1⟩ := box_cells hc
  obtain ⟨ra, rc, hblk, hRs, hG⟩ := (h.below hbW).ex
  obtain ⟨n, hnn⟩ : ∃ n, bs.length = n := ⟨_, rfl⟩
  rw [hnn] at hRs hblk hn
  have HS : Hid (∀ u, Below W.heap.size W u → u.cell? ⟨rt, 0, none⟩ = some (.slice ra n rc) ∧ u.frozen? ⟨rt, 0, none⟩ = false ∧ u.cell? ⟨vb, 0, none⟩ = some (.int .i64 x.1) ∧ u.cell? ⟨vb, 1, none⟩ = some (.int .i64 x.2) ∧ Bs u ra n bs) := fun u hu => by
    have hrl : rt < W.heap.size := (Array.getElem?_eq_some_iff.1 hblk).1
    have k1 := (hu.block rt hrl).trans hblk
    have k2 := box_cells ((hu.block vb hvl).trans hc)
    exact ⟨by rw [cell_of_row u rt 0 _ 48 (0, 0) k1]; rfl, frozen_of_row u rt 0 _ 48 k1, k2.1, k2.2, hRs.keeps fun g hg => hu.block g ((h.below hbW).lt g (hG g hg))⟩
  have H38 : Calls Tryz.prog 42 #[.agg #[.int .i64 x.1, .int .i64 x.2]] W fun e w' => ∃ a c, e = .returned (.slice a (oneT ⟨4, ⟨#[]⟩, 0, x.1, x.2⟩).length c) ∧ Hid (Below W.heap.size W w') := by
    refine (c19 x.1 x.2 W).mono ?_
    rintro e w' ⟨u, rfl, h1, h2⟩
    obtain ⟨a, c, e⟩ := h1.form
    exact ⟨a, c, by rw [e], h2⟩
  have H39 : Hid (∀ u, Below W.heap.size W u → Calls Tryz.prog 43 #[v] u fun e w' => e = .returned (.bool (globalB l)) ∧ Hid (Below W.heap.size W w')) := fun u hu => by
    refine (c37 l v u ((hT.below hbW).below hu)).mono ?_
    rintro e w' ⟨rfl, hb⟩
    exact ⟨by rw [global_same], hu.trans (hb.mono hu.size)⟩
  have H40 : Hid (∀ u, Below W.heap.size W u → Calls Tryz.prog 28 #[.pointer (some ⟨rt, 0, none⟩), .agg #[.int .i64 x.1, .int .i64 x.2]] u fun e w' => ∃ i : Int, e = .returned (.int .i64 i) ∧ Hid (decide (i ≥ 0) = hasB bs x) ∧ Hid (Below W.heap.size W w')) := fun u hu => by
    refine (i40 G rt bs x u ((h.below hbW).below hu) (by omega)).mono ?_
    rintro e w' ⟨i, rfl, h1, hb⟩
    exact ⟨i, rfl, h1, hu.trans (hb.mono hu.size)⟩
  have hk0 : (oneT ⟨4, ⟨#[]⟩, 0, x.1, x.2⟩).length = 1 := by
    have : oneT ⟨4, ⟨#[]⟩, 0, x.1, x.2⟩ ≠ [] := fun e => he (.inr (.inl e))
    unfold oneT at this ⊢
    split
    · rfl
    · next e => rw [if_neg e] at this; exact absurd rfl this
  have hx : ¬ x.1 < 0 := fun e => he (.inl e)
  have hgl : globalB l = true := by
    cases e : globalB l
    · exact absurd (.inr (.inr e)) he
    · rfl
  rw [hk0] at H38
  have hrl : rightB l = true := by unfold globalB at hgl; simp only [Bool.and_eq_true] at hgl; exact hgl.2
  have hl1 := right_len hrl
  obtain ⟨tb, to, tcap, rfl, hrg, htb⟩ : ∃ tb to tcap, v = .slice (some ⟨tb, to, none⟩) l.length tcap ∧ w.rangeAt tb to (flat l) ∧ tb < w.heap.size := by
    rcases hT.2 with ⟨e, _⟩ | ⟨b, o, cap, h1, _, _, h3, h4⟩
    · rw [e] at hl1; simp at hl1
    · exact ⟨b, o, cap, h1, h3, h4⟩
  have HTC : Hid (∀ u, Below W.heap.size W u → ∀ j z, (flat l)[j]? = some z → u.cell? ((⟨tb, to, none⟩ : Addr).add j) = some z) := fun u hu j z hz => by
    rw [Addr.add_mid]
    exact range_below hrg htb (hbW.trans (hu.mono hbW.size)) j z hz
  have HFL : Hid ((flat l).length = l.length * 5) := by show _ = _; rw [flat_length]; omega
  obtain ⟨ck, cn, cv, ct, cm, hcc⟩ : ∃ ck cn cv ct cm, l[0]'(by omega) = ⟨ck, ct, cm, cn, cv⟩ := ⟨_, _, _, _, _, rfl⟩
  have HCC : Hid (l[0]'(by omega) = ⟨ck, ct, cm, cn, cv⟩) := hcc
  clear hcc
  have HT0 : Hid (∀ u, Below W.heap.size W u → u.cell? ⟨tb, to, none⟩ = some (.int .u8 ck) ∧ u.cell? ⟨tb, to + 3, none⟩ = some (.int .i64 cn) ∧ u.cell? ⟨tb, to + 4, none⟩ = some (.int .i64 cv)) := fun u hu => by
    obtain ⟨z0, _, _, z3, z4⟩ := term_cells (range_below hrg htb (hbW.trans (hu.mono hbW.size))) 0 (by omega)
    rw [HCC.out] at z0 z3 z4
    exact ⟨by simpa using z0, by simpa using z3, by simpa using z4⟩
  have hlN : 0 < l.length := by omega
  have hl256 : l.length ≤ 256 := hl1.2
  have HV : Hid ((ck = 4 → isVarL l = true ∧ varL l = (cn, cv)) ∧ (ck ≠ 4 → isVarL l = false)) := by
    cases l with
    | nil => simp at hl1
    | cons c r =>
      have hcc := HCC.out
      simp only [List.getElem_cons_zero] at hcc
      refine ⟨fun e => ?_, fun e => ?_⟩
      · have hck : c.k = 4 := by rw [hcc]; exact e
        have := var_one hrl hck
        subst this
        exact ⟨by simp [isVarL, hck], by rw [hcc]; rfl⟩
      · have hck : c.k ≠ 4 := by rw [hcc]; exact e
        cases r with
        | nil => simp [isVarL, hck]
        | cons d t => rfl
  have H10 : Hid (∀ (y1 y2 : Int) (z u : World), Below z.heap.size z u → Calls Tryz.prog 44 #[.agg #[.int .i64 x.1, .int .i64 x.2], .agg #[.int .i64 y1, .int .i64 y2]] u fun e w' => e = .returned (.bool (lsB x.1 x.2 y1 y2)) ∧ Hid (Below z.heap.size z w')) := fun y1 y2 z u hu => by
    refine (i10 x.1 x.2 y1 y2 u).mono ?_
    rintro e w' ⟨rfl, hb⟩
    exact ⟨rfl, hu.trans (hb.mono hu.size)⟩
  have H10v : Hid (∀ (z u : World), Below z.heap.size z u → Calls Tryz.prog 44 #[.agg #[.int .i64 cn, .int .i64 cv], .agg #[.int .i64 x.1, .int .i64 x.2]] u fun e w' => e = .returned (.bool (lsB cn cv x.1 x.2)) ∧ Hid (Below z.heap.size z w')) := fun z u hu => by
    refine (i10 cn cv x.1 x.2 u).mono ?_
    rintro e w' ⟨rfl, hb⟩
    exact ⟨rfl, hu.trans (hb.mono hu.size)⟩
  have h0 : isVarL l = true → lessN (varL l) x = true := fun e => by rw [hv] at e; cases e
  have HL : Hid (RfH w G rt bs ∧ Below w.heap.size w W ∧ TermAt w (.slice (some ⟨tb, to, none⟩) l.length tcap) l ∧ bs.length = n ∧ bindE (hpOf bs) x l = 0) := ⟨h, hbW, hT, hnn, bindE_0 he h70 h0⟩
  have HBE : Hid (bindE (hpOf bs) x l = 0) := bindE_0 he h70 h0
  have hck : ¬ ck = 4 := fun e => by
    have := (HV.out.1 e).1; rw [hv] at this; cases this
  have hckb : (ck == 4) = false := by simpa using hck
  rw [h70] at H40
  clear h0 hv HV
  clear h hT hbt he hbW hc hvl hblk hRs hG hk0 hnn h70 hrl HCC hl1 hrg htb
  obtain ⟨x1, x2⟩ := x
  simp only at *
  go_enter Tryz.func25, Tryz.ntmps25
  go_wp2_with fail
  refine H38.mono ?_
  rintro e w1 ⟨a1, c1, rfl, HB1⟩
  clear v0 v1 H38
  obtain ⟨_, _, v0, v1, _⟩ := HS.out w1 HB1.out
  have H39' := H39.out w1 HB1.out
  rw [hgl] at H39'
  clear hgl
  go_wp2_with fail
  refine H39'.mono ?_
  rintro e w1b ⟨rfl, HB1b⟩
  clear v0 v1 H39'
  obtain ⟨_, _, v0, v1, _⟩ := HS.out w1b HB1b.out
  go_wp2_with fail
  refine (H40.out _ HB1b.out).mono ?_
  rintro e w2 ⟨i, rfl, HI, HB2⟩
  have hi0 : ¬ i ≥ 0 := of_decide_eq_false HI.out
  clear v0 v1 HI H39 H40
  go_wp2_with fail
  refine wp_region_noPanic ?_
  refine wp_region_held_drew (S := fun u => u.cell? ⟨tb, to, none⟩ = some (.int .u8 ck) ∧ u.cell? ⟨tb, to + 3, none⟩ = some (.int .i64 cn) ∧ u.cell? ⟨tb, to + 4, none⟩ = some (.int .i64 cv) ∧ u.cell? ⟨vb, 0, none⟩ = some (.int .i64 x1) ∧ u.cell? ⟨vb, 1, none⟩ = some (.int .i64 x2)) (by kernel_rfl) ((by obtain ⟨_, _, z1, z2, _⟩ := HS.out _ (below_dN HB2.out 1); obtain ⟨d0, d1, d2⟩ := HT0.out _ (below_dN HB2.out 1); exact ⟨d0, d1, d2, z1, z2⟩)) (fun hHeld => ?_)
  (refine wpAnyH_take (i := 0) (v := ?_) (by simp only [List.getElem?_toArray, List.getElem?_cons_zero]; rfl) (by kernel_rfl) (by kernel_rfl) (by kernel_rfl) (fun _ _ _ h => h) (Or.inl ⟨by rfl, ?_⟩) (by assumption) ?_; rotate_left; (· (intro w hSw; (try dsimp only at hSw); go_simp <;> with_reducible rfl)); try simp only [Act.put, List.setIfInBounds_toArray, List.set_cons_zero, List.set_cons_succ])
  (refine wpAnyH_take (i := 1) (v := ?_) (by simp only [List.getElem?_toArray, List.getElem?_cons_zero, List.getElem?_cons_succ]; rfl) (by kernel_rfl) (by kernel_rfl) (by kernel_rfl) (fun _ _ _ h => h) (Or.inl ⟨by rfl, ?_⟩) (by assumption) ?_; rotate_left; (· (intro w hSw; (try dsimp only at hSw); go_simp <;> with_reducible rfl)); try simp only [Act.put, List.setIfInBounds_toArray, List.set_cons_zero, List.set_cons_succ])
  (refine wpAnyH_take (i := 2) (v := ?_) (by simp only [List.getElem?_toArray, List.getElem?_cons_zero, List.getElem?_cons_succ]; rfl) (by kernel_rfl) (by kernel_rfl) (by kernel_rfl) (fun _ _ _ h => h) (Or.inl ⟨by rfl, ?_⟩) (by assumption) ?_; rotate_left; (· (intro w hSw; (try dsimp only at hSw); go_simp <;> with_reducible rfl)); try simp only [Act.put, List.setIfInBounds_toArray, List.set_cons_zero, List.set_cons_succ])
  (refine wpAnyH_take (i := 3) (v := ?_) (by simp only [List.getElem?_toArray, List.getElem?_cons_zero, List.getElem?_cons_succ]; rfl) (by kernel_rfl) (by kernel_rfl) (by kernel_rfl) (fun _ _ _ h => h) (Or.inl ⟨by rfl, ?_⟩) (by assumption) ?_; rotate_left; (· (intro w hSw; (try dsimp only at hSw); go_simp <;> with_reducible rfl)); try simp only [Act.put, List.setIfInBounds_toArray, List.set_cons_zero, List.set_cons_succ])
  (refine wpAnyH_take (i := 4) (v := ?_) (by simp only [List.getElem?_toArray, List.getElem?_cons_zero, List.getElem?_cons_succ]; rfl) (by kernel_rfl) (by kernel_rfl) (by kernel_rfl) (fun _ _ _ h => h) (Or.inl ⟨by rfl, ?_⟩) (by assumption) ?_; rotate_left; (· (intro w hSw; (try dsimp only at hSw); go_simp <;> with_reducible rfl)); try simp only [Act.put, List.setIfInBounds_toArray, List.set_cons_zero, List.set_cons_succ])
  (refine wpAnyH_take (i := 5) (v := ?_) (by simp only [List.getElem?_toArray, List.getElem?_cons_zero, List.getElem?_cons_succ]; rfl) (by kernel_rfl) (by kernel_rfl) (by kernel_rfl) (fun _ _ _ h => h) (Or.inl ⟨by rfl, ?_⟩) (by assumption) ?_; rotate_left; (· (intro w hSw; (try dsimp only at hSw); go_simp <;> with_reducible rfl)); try simp only [Act.put, List.setIfInBounds_toArray, List.set_cons_zero, List.set_cons_succ])
  (refine wpAnyH_take (i := 6) (v := undef) (by simp only [List.getElem?_toArray, List.getElem?_cons_zero, List.getElem?_cons_succ]; rfl) (by kernel_rfl) (by kernel_rfl) (by kernel_rfl) (fun _ _ _ h => h) (Or.inr ⟨by rfl, rfl⟩) (by assumption) ?_; try simp only [Act.put, List.setIfInBounds_toArray, List.set_cons_zero, List.set_cons_succ])
  (refine wpAnyH_take (i := 7) (v := undef) (by simp only [List.getElem?_toArray, List.getElem?_cons_zero, List.getElem?_cons_succ]; rfl) (by kernel_rfl) (by kernel_rfl) (by kernel_rfl) (fun _ _ _ h => h) (Or.inr ⟨by rfl, rfl⟩) (by assumption) ?_; try simp only [Act.put, List.setIfInBounds_toArray, List.set_cons_zero, List.set_cons_succ])
  (refine wpAnyH_take (i := 8) (v := undef) (by simp only [List.getElem?_toArray, List.getElem?_cons_zero, List.getElem?_cons_succ]; rfl) (by kernel_rfl) (by kernel_rfl) (by kernel_rfl) (fun _ _ _ h => h) (Or.inr ⟨by rfl, rfl⟩) (by assumption) ?_; try simp only [Act.put, List.setIfInBounds_toArray, List.set_cons_zero, List.set_cons_succ])
  (refine wpAnyH_take (i := 9) (v := undef) (by simp only [List.getElem?_toArray, List.getElem?_cons_zero, List.getElem?_cons_succ]; rfl) (by kernel_rfl) (by kernel_rfl) (by kernel_rfl) (fun _ _ _ h => h) (Or.inr ⟨by rfl, rfl⟩) (by assumption) ?_; try simp only [Act.put, List.setIfInBounds_toArray, List.set_cons_zero, List.set_cons_succ])
  (refine wpAnyH_take (i := 10) (v := undef) (by simp only [List.getElem?_toArray, List.getElem?_cons_zero, List.getElem?_cons_succ]; rfl) (by kernel_rfl) (by kernel_rfl) (by kernel_rfl) (fun _ _ _ h => h) (Or.inr ⟨by rfl, rfl⟩) (by assumption) ?_; try simp only [Act.put, List.setIfInBounds_toArray, List.set_cons_zero, List.set_cons_succ])
  (refine wpAnyH_take (i := 11) (v := undef) (by simp only [List.getElem?_toArray, List.getElem?_cons_zero, List.getElem?_cons_succ]; rfl) (by kernel_rfl) (by kernel_rfl) (by kernel_rfl) (fun _ _ _ h => h) (Or.inr ⟨by rfl, rfl⟩) (by assumption) ?_; try simp only [Act.put, List.setIfInBounds_toArray, List.set_cons_zero, List.set_cons_succ])
  (refine wpAnyH_take (i := 12) (v := undef) (by simp only [List.getElem?_toArray, List.getElem?_cons_zero, List.getElem?_cons_succ]; rfl) (by kernel_rfl) (by kernel_rfl) (by kernel_rfl) (fun _ _ _ h => h) (Or.inr ⟨by rfl, rfl⟩) (by assumption) ?_; try simp only [Act.put, List.setIfInBounds_toArray, List.set_cons_zero, List.set_cons_succ])
  (refine wpAnyH_take (i := 13) (v := ?_) (by simp only [List.getElem?_toArray, List.getElem?_cons_zero, List.getElem?_cons_succ]; rfl) (by kernel_rfl) (by kernel_rfl) (by kernel_rfl) (fun _ _ _ h => h) (Or.inl ⟨by rfl, ?_⟩) (by assumption) ?_; rotate_left; (· (intro w hSw; (try dsimp only at hSw); go_simp <;> with_reducible rfl)); try simp only [Act.put, List.setIfInBounds_toArray, List.set_cons_zero, List.set_cons_succ])
  (refine wpAnyH_take (i := 14) (v := ?_) (by simp only [List.getElem?_toArray, List.getElem?_cons_zero, List.getElem?_cons_succ]; rfl) (by kernel_rfl) (by kernel_rfl) (by kernel_rfl) (fun _ _ _ h => h) (Or.inl ⟨by rfl, ?_⟩) (by assumption) ?_; rotate_left; (· (intro w hSw; (try dsimp only at hSw); go_simp <;> with_reducible rfl)); try simp only [Act.put, List.setIfInBounds_toArray, List.set_cons_zero, List.set_cons_succ])
  refine wpAnyH_done (by kernel_rfl) ?_ _
  refine NoPanic.normal ?_
  clear hHeld
  obtain ⟨w2b, hw2b⟩ : ∃ u, w2.drew = u := ⟨_, rfl⟩
  have HBx : Hid (Below W.heap.size W w2b) := by rw [← hw2b]; exact HB2.out.drew
  rw [hw2b]
  clear HB2 H10v hw2b
  go_wp2_with (at_builtin; refine wpList_append_own _ rfl _ _ 26 rfl w2b.heap.size 59 j0 zero60 5 48 Tryz.underlying26 hj hjz hjs hjb rfl (by decide) (.slice none 0 0) 0 [] rfl (World.ownsRow_nil _ _ _ _) ⟨tb, to, none⟩ l.length tcap (flat l) rfl HFL.out (HTC.out w2b HBx.out) (flat_one _) (by unfold maxLen; omega) (by omega) (Nat.le_refl _) ?_)
  intro ov w3 ho3 hg3 _
  obtain ⟨oa, oc, rfl, HOV⟩ : ∃ oa oc, ov = .slice oa l.length oc ∧ Hid (TermAt w3 (.slice oa l.length oc) l ∧ (∀ g, (Value.slice oa l.length oc).ownBlock = some g → w.heap.size ≤ g ∧ g < w3.heap.size) ∧ Below w2b.heap.size w2b w3) := by
    have ho3' : w3.ownsRow w2b.heap.size 59 5 ov l.length (flat l) := by simpa using ho3
    obtain ⟨oa, oc, e, h1, _⟩ := own_sl ho3'
    refine ⟨oa, oc, e, ?_⟩
    subst e
    have hb3 : Below w2b.heap.size w2b w3 := ⟨hg3.os, hg3.tape, hg3.output, hg3.size, fun k hk => hg3.block k hk (by simp [Value.ownBlock])⟩
    have hbw : Below w.heap.size w w2b := HL.out.2.1.trans (HBx.out.mono HL.out.2.1.size)
    refine ⟨ownT_term (base := w2b.heap.size) ho3' HL.out.2.2.1.1.1 HL.out.2.2.1.1.2, fun g hg => ?_, hb3⟩
    have hg' : bkA oa = some g := by
      cases oa with
      | none => cases hg
      | some ad => simpa [Value.ownBlock, bkA] using hg
    exact ⟨Nat.le_trans hbw.size (h1 g hg').1, (h1 g hg').2⟩
  clear ho3 hg3
  have HB3 : Hid (Below W.heap.size W w3) := HBx.out.trans (HOV.out.2.2.mono HBx.out.size)
  go_wp2_with fail
  go_loopw [7, 9, 10] (fun lv bv i wr => ∃ (k : Nat) (bb : Bool) (pre : List Bn), k ≤ n ∧ i = .int .i64 k ∧ bv = .bool bb ∧ Hid (WB (⟨(x1, x2), oa, l.length, oc, l⟩ : Bn) bs w3 wr lv k bb pre)) (fun _ _ i _ => n - (intOf i).toNat)
  case atStart => exact ⟨0, false, [], Nat.zero_le _, rfl, rfl, World.ownsRow_nil _ _ _ _, Below.refl _ _, by simp [restB], by simp⟩
  case round =>
    obtain ⟨k, bb, pre, hk, rfl, rfl, HK⟩ := hrel
    have HBk : Hid (Below W.heap.size W wr) := HB3.out.trans (HK.out.2.1.mono HB3.out.size)
    obtain ⟨q0, f0, v0, v1, hBs⟩ := HS.out wr HBk.out
    by_cases hlt : k < n
    · have hlt1 : (k : Int) < (n : Int) := by omega
      have hk0 : (0 : Int) ≤ (k : Int) := by omega
      obtain ⟨b1, o1, hk1, rfl, hbl, c0', c1', c2'⟩ := hBs.at hlt
      have HD : Hid _ := insB_drop (⟨(x1, x2), oa, l.length, oc, l⟩ : Bn) bs k hk1
      have HLS := H10.out bs[k].x.1 bs[k].x.2 wr
      have HC : Hid (∀ u, Below W.heap.size W u → u.cell? ⟨rt, 0, none⟩ = some (.slice (some ⟨b1, o1, none⟩) n rc) ∧ u.cell? ⟨b1, o1 + k * 3, none⟩ = some (.int .i64 bs[k].x.1) ∧ u.cell? ⟨b1, o1 + k * 3 + 1, none⟩ = some (.int .i64 bs[k].x.2) ∧ u.cell? ⟨b1, o1 + k * 3 + 2, none⟩ = some (.slice bs[k].a bs[k].n bs[k].c) ∧ u.cell? ⟨vb, 0, none⟩ = some (.int .i64 x1) ∧ u.cell? ⟨vb, 1, none⟩ = some (.int .i64 x2)) := fun u hu => by
        obtain ⟨z0, _, z1, z2, z3⟩ := HS.out u hu
        obtain ⟨b2, o2, _, e, _, d0, d1, d2⟩ := z3.at hlt
        cases e
        exact ⟨z0, d0, d1, d2, z1, z2⟩
      generalize bs[k] = q at *
      obtain ⟨⟨y1, y2⟩, qa, qn, qc, ql⟩ := q
      simp only at c0' c1' c2' HD HLS HC
      clear hk1 hBs hbl f0
      cases bb
      · have hpl : pre.length ≤ k := HK.out.2.2.2
        cases hLs : lsB x1 x2 y1 y2
        · rw [hLs] at HLS
          have HE : Hid (insB (⟨(x1, x2), oa, l.length, oc, l⟩ : Bn) bs = (pre ++ [(⟨(y1, y2), qa, qn, qc, ql⟩ : Bn)]) ++ restB false (⟨(x1, x2), oa, l.length, oc, l⟩ : Bn) (bs.drop (k + 1))) := by
            show _ = _
            rw [HK.out.2.2.1]; simp only [restB, Bool.false_eq_true, if_false, HD.out.2.1 hLs]; simp
          clear HD hLs
          go_wp2_with fail
          refine wp_region_noPanic ?_
          refine wp_region_held_drew (S := fun u => u.cell? ⟨rt, 0, none⟩ = some (.slice (some ⟨b1, o1, none⟩) n rc) ∧ u.cell? ⟨b1, o1 + k * 3, none⟩ = some (.int .i64 y1) ∧ u.cell? ⟨b1, o1 + k * 3 + 1, none⟩ = some (.int .i64 y2) ∧ u.cell? ⟨vb, 0, none⟩ = some (.int .i64 x1) ∧ u.cell? ⟨vb, 1, none⟩ = some (.int .i64 x2)) (by kernel_rfl) (⟨q0, c0', c1', v0, v1⟩) (fun hHeld => ?_)
          (refine wpAnyH_take (i := 0) (v := ?_) (by simp only [List.getElem?_toArray, List.getElem?_cons_zero]; rfl) (by kernel_rfl) (by kernel_rfl) (by kernel_rfl) (fun _ _ _ h => h) (Or.inl ⟨by rfl, ?_⟩) (by assumption) ?_; rotate_left; (· (intro w hSw; (try dsimp only at hSw); go_simp <;> with_reducible rfl)); try simp only [Act.put, List.setIfInBounds_toArray, List.set_cons_zero, List.set_cons_succ])
          (refine wpAnyH_take (i := 1) (v := ?_) (by simp only [List.getElem?_toArray, List.getElem?_cons_zero, List.getElem?_cons_succ]; rfl) (by kernel_rfl) (by kernel_rfl) (by kernel_rfl) (fun _ _ _ h => h) (Or.inl ⟨by rfl, ?_⟩) (by assumption) ?_; rotate_left; (· (intro w hSw; (try dsimp only at hSw); go_simp <;> with_reducible rfl)); try simp only [Act.put, List.setIfInBounds_toArray, List.set_cons_zero, List.set_cons_succ])
          (refine wpAnyH_take (i := 2) (v := ?_) (by simp only [List.getElem?_toArray, List.getElem?_cons_zero, List.getElem?_cons_succ]; rfl) (by kernel_rfl) (by kernel_rfl) (by kernel_rfl) (fun _ _ _ h => h) (Or.inl ⟨by rfl, ?_⟩) (by assumption) ?_; rotate_left; (· (intro w hSw; (try dsimp only at hSw); go_simp <;> with_reducible rfl)); try simp only [Act.put, List.setIfInBounds_toArray, List.set_cons_zero, List.set_cons_succ])
          (refine wpAnyH_take (i := 3) (v := ?_) (by simp only [List.getElem?_toArray, List.getElem?_cons_zero, List.getElem?_cons_succ]; rfl) (by kernel_rfl) (by kernel_rfl) (by kernel_rfl) (fun _ _ _ h => h) (Or.inl ⟨by rfl, ?_⟩) (by assumption) ?_; rotate_left; (· (intro w hSw; (try dsimp only at hSw); go_simp <;> with_reducible rfl)); try simp only [Act.put, List.setIfInBounds_toArray, List.set_cons_zero, List.set_cons_succ])
          (refine wpAnyH_take (i := 4) (v := ?_) (by simp only [List.getElem?_toArray, List.getElem?_cons_zero, List.getElem?_cons_succ]; rfl) (by kernel_rfl) (by kernel_rfl) (by kernel_rfl) (fun _ _ _ h => h) (Or.inl ⟨by rfl, ?_⟩) (by assumption) ?_; rotate_left; (· (intro w hSw; (try dsimp only at hSw); go_simp <;> with_reducible rfl)); try simp only [Act.put, List.setIfInBounds_toArray, List.set_cons_zero, List.set_cons_succ])
          (refine wpAnyH_take (i := 5) (v := ?_) (by simp only [List.getElem?_toArray, List.getElem?_cons_zero, List.getElem?_cons_succ]; rfl) (by kernel_rfl) (by kernel_rfl) (by kernel_rfl) (fun _ _ _ h => h) (Or.inl ⟨by rfl, ?_⟩) (by assumption) ?_; rotate_left; (· (intro w hSw; (try dsimp only at hSw); go_simp <;> with_reducible rfl)); try simp only [Act.put, List.setIfInBounds_toArray, List.set_cons_zero, List.set_cons_succ])
          (refine wpAnyH_take (i := 6) (v := ?_) (by simp only [List.getElem?_toArray, List.getElem?_cons_zero, List.getElem?_cons_succ]; rfl) (by kernel_rfl) (by kernel_rfl) (by kernel_rfl) (fun _ _ _ h => h) (Or.inl ⟨by rfl, ?_⟩) (by assumption) ?_; rotate_left; (· (intro w hSw; (try dsimp only at hSw); go_simp <;> with_reducible rfl)); try simp only [Act.put, List.setIfInBounds_toArray, List.set_cons_zero, List.set_cons_succ])
          (refine wpAnyH_take (i := 7) (v := ?_) (by simp only [List.getElem?_toArray, List.getElem?_cons_zero, List.getElem?_cons_succ]; rfl) (by kernel_rfl) (by kernel_rfl) (by kernel_rfl) (fun _ _ _ h => h) (Or.inl ⟨by rfl, ?_⟩) (by assumption) ?_; rotate_left; (· (intro w hSw; (try dsimp only at hSw); go_simp <;> with_reducible rfl)); try simp only [Act.put, List.setIfInBounds_toArray, List.set_cons_zero, List.set_cons_succ])
          (refine wpAnyH_take (i := 8) (v := ?_) (by simp only [List.getElem?_toArray, List.getElem?_cons_zero, List.getElem?_cons_succ]; rfl) (by kernel_rfl) (by kernel_rfl) (by kernel_rfl) (fun _ _ _ h => h) (Or.inl ⟨by rfl, ?_⟩) (by assumption) ?_; rotate_left; (· (intro w hSw; (try dsimp only at hSw); go_simp <;> with_reducible rfl)); try simp only [Act.put, List.setIfInBounds_toArray, List.set_cons_zero, List.set_cons_succ])
          (refine wpAnyH_take (i := 9) (v := ?_) (by simp only [List.getElem?_toArray, List.getElem?_cons_zero, List.getElem?_cons_succ]; rfl) (by kernel_rfl) (by kernel_rfl) (by kernel_rfl) (fun _ _ _ h => h) (Or.inl ⟨by rfl, ?_⟩) (by assumption) ?_; rotate_left; (· (intro w hSw; (try dsimp only at hSw); go_simp <;> with_reducible rfl)); try simp only [Act.put, List.setIfInBounds_toArray, List.set_cons_zero, List.set_cons_succ])
          (refine wpAnyH_take (i := 10) (v := ?_) (by simp only [List.getElem?_toArray, List.getElem?_cons_zero, List.getElem?_cons_succ]; rfl) (by kernel_rfl) (by kernel_rfl) (by kernel_rfl) (fun _ _ _ h => h) (Or.inl ⟨by rfl, ?_⟩) (by assumption) ?_; rotate_left; (· (intro w hSw; (try dsimp only at hSw); go_simp <;> with_reducible rfl)); try simp only [Act.put, List.setIfInBounds_toArray, List.set_cons_zero, List.set_cons_succ])
          (refine wpAnyH_take (i := 11) (v := ?_) (by simp only [List.getElem?_toArray, List.getElem?_cons_zero, List.getElem?_cons_succ]; rfl) (by kernel_rfl) (by kernel_rfl) (by kernel_rfl) (fun _ _ _ h => h) (Or.inl ⟨by rfl, ?_⟩) (by assumption) ?_; rotate_left; (· (intro w hSw; (try dsimp only at hSw); go_simp <;> with_reducible rfl)); try simp only [Act.put, List.setIfInBounds_toArray, List.set_cons_zero, List.set_cons_succ])
          refine wpAnyH_ready (rs := [12]) (by kernel_rfl) (by simp) ?_
          refine AllReadyH.cons (by simp only [List.getElem?_toArray, List.getElem?_cons_zero, List.getElem?_cons_succ]; rfl) (fun K hK => ?_) AllReadyH.nil
          go_simp
          go_at_call 44
          refine (HLS _ (by first | exact Below.refl _ _ | exact (Below.refl _ _).drew | exact below_dN (Below.refl _ _) _)).mono ?_
          rintro e w4 ⟨rfl, H4⟩
          refine hK.out _ _ ?_ (fun hHeld => ?_)
          · exact (by obtain ⟨z0, z1, z2, _, z4, z5⟩ := HC.out w4 (HBk.out.trans (H4.out.mono HBk.out.size)); exact ⟨z0, z1, z2, z4, z5⟩)
          clear hK K
          try simp only [Act.put, List.setIfInBounds_toArray, List.set_cons_zero, List.set_cons_succ]
          (refine wpAnyH_take (i := 13) (v := ?_) (by simp only [List.getElem?_toArray, List.getElem?_cons_zero, List.getElem?_cons_succ]; rfl) (by kernel_rfl) (by kernel_rfl) (by kernel_rfl) (fun _ _ _ h => h) (Or.inl ⟨by rfl, ?_⟩) (by assumption) ?_; rotate_left; (· (intro w hSw; (try dsimp only at hSw); go_simp <;> with_reducible rfl)); try simp only [Act.put, List.setIfInBounds_toArray, List.set_cons_zero, List.set_cons_succ])
          refine wpAnyH_done (by kernel_rfl) ?_ _
          refine NoPanic.normal ?_
          clear hHeld q0 v0 v1 c0' c1' c2'
          obtain ⟨q0, c0', c1', c2', v0, v1⟩ := HC.out w4 (HBk.out.trans (H4.out.mono HBk.out.size))
          have HW : Hid (WB (⟨(x1, x2), oa, l.length, oc, l⟩ : Bn) bs w3 (w4.alloc (.cells #[.int .i64 y1, .int .i64 y2, .slice qa qn qc] 55)) _ k false pre) := (HK.out.below H4.out).below ((Below.refl _ w4).alloc (Nat.le_refl _) _)
          go_wp2_with (at_builtin; refine wpList_append_own _ rfl _ _ 22 rfl w3.heap.size 55 i0 _ 3 40 Tryz.underlying22 hi hz hs3 hby rfl (by decide) _ _ _ rfl HW.out.1 ⟨w4.heap.size, 0, none⟩ 1 1 (encB (⟨(y1, y2), qa, qn, qc, ql⟩ : Bn)) rfl rfl (new_bn w4 (⟨(y1, y2), qa, qn, qc, ql⟩ : Bn)) (one_bn _) (by unfold maxLen; omega) (by omega) HW.out.2.1.size ?_)
          intro v' w' hown hgr _
          have HF : Hid (WB (⟨(x1, x2), oa, l.length, oc, l⟩ : Bn) bs w3 w' v' (k + 1) false (pre ++ [(⟨(y1, y2), qa, qn, qc, ql⟩ : Bn)])) := HW.out.more hown hgr HE.out (by simp only [cond]; omega)
          clear hown hgr
          go_wp2_with fail
          go_roundw
          case rel => exact ⟨k + 1, false, pre ++ [(⟨(y1, y2), qa, qn, qc, ql⟩ : Bn)], by omega, by go_num, rfl, HF⟩
          case measure => simp [intOf]; omega
        · rw [hLs] at HLS
          have HE : Hid (insB (⟨(x1, x2), oa, l.length, oc, l⟩ : Bn) bs = ((pre ++ [(⟨(x1, x2), oa, l.length, oc, l⟩ : Bn)]) ++ [(⟨(y1, y2), qa, qn, qc, ql⟩ : Bn)]) ++ restB true (⟨(x1, x2), oa, l.length, oc, l⟩ : Bn) (bs.drop (k + 1))) := by
            show _ = _
            rw [HK.out.2.2.1]; simp only [restB, Bool.false_eq_true, if_false, if_true, HD.out.1 hLs]; simp
          have HE0 : Hid (insB (⟨(x1, x2), oa, l.length, oc, l⟩ : Bn) bs = (pre ++ [(⟨(x1, x2), oa, l.length, oc, l⟩ : Bn)]) ++ restB true (⟨(x1, x2), oa, l.length, oc, l⟩ : Bn) (bs.drop k)) := by
            show _ = _
            have a1 := HD.out.1 hLs
            have a2 := HD.out.2.2
            rw [HK.out.2.2.1]
            simp only [restB, Bool.false_eq_true, if_false, if_true]
            rw [a1, a2]; simp
          clear HD hLs
          go_wp2_with fail
          refine wp_region_noPanic ?_
          refine wp_region_held_drew (S := fun u => u.cell? ⟨rt, 0, none⟩ = some (.slice (some ⟨b1, o1, none⟩) n rc) ∧ u.cell? ⟨b1, o1 + k * 3, none⟩ = some (.int .i64 y1) ∧ u.cell? ⟨b1, o1 + k * 3 + 1, none⟩ = some (.int .i64 y2) ∧ u.cell? ⟨vb, 0, none⟩ = some (.int .i64 x1) ∧ u.cell? ⟨vb, 1, none⟩ = some (.int .i64 x2)) (by kernel_rfl) (⟨q0, c0', c1', v0, v1⟩) (fun hHeld => ?_)
          (refine wpAnyH_take (i := 0) (v := ?_) (by simp only [List.getElem?_toArray, List.getElem?_cons_zero]; rfl) (by kernel_rfl) (by kernel_rfl) (by kernel_rfl) (fun _ _ _ h => h) (Or.inl ⟨by rfl, ?_⟩) (by assumption) ?_; rotate_left; (· (intro w hSw; (try dsimp only at hSw); go_simp <;> with_reducible rfl)); try simp only [Act.put, List.setIfInBounds_toArray, List.set_cons_zero, List.set_cons_succ])
          (refine wpAnyH_take (i := 1) (v := ?_) (by simp only [List.getElem?_toArray, List.getElem?_cons_zero, List.getElem?_cons_succ]; rfl) (by kernel_rfl) (by kernel_rfl) (by kernel_rfl) (fun _ _ _ h => h) (Or.inl ⟨by rfl, ?_⟩) (by assumption) ?_; rotate_left; (· (intro w hSw; (try dsimp only at hSw); go_simp <;> with_reducible rfl)); try simp only [Act.put, List.setIfInBounds_toArray, List.set_cons_zero, List.set_cons_succ])
          (refine wpAnyH_take (i := 2) (v := ?_) (by simp only [List.getElem?_toArray, List.getElem?_cons_zero, List.getElem?_cons_succ]; rfl) (by kernel_rfl) (by kernel_rfl) (by kernel_rfl) (fun _ _ _ h => h) (Or.inl ⟨by rfl, ?_⟩) (by assumption) ?_; rotate_left; (· (intro w hSw; (try dsimp only at hSw); go_simp <;> with_reducible rfl)); try simp only [Act.put, List.setIfInBounds_toArray, List.set_cons_zero, List.set_cons_succ])
          (refine wpAnyH_take (i := 3) (v := ?_) (by simp only [List.getElem?_toArray, List.getElem?_cons_zero, List.getElem?_cons_succ]; rfl) (by kernel_rfl) (by kernel_rfl) (by kernel_rfl) (fun _ _ _ h => h) (Or.inl ⟨by rfl, ?_⟩) (by assumption) ?_; rotate_left; (· (intro w hSw; (try dsimp only at hSw); go_simp <;> with_reducible rfl)); try simp only [Act.put, List.setIfInBounds_toArray, List.set_cons_zero, List.set_cons_succ])
          (refine wpAnyH_take (i := 4) (v := ?_) (by simp only [List.getElem?_toArray, List.getElem?_cons_zero, List.getElem?_cons_succ]; rfl) (by kernel_rfl) (by kernel_rfl) (by kernel_rfl) (fun _ _ _ h => h) (Or.inl ⟨by rfl, ?_⟩) (by assumption) ?_; rotate_left; (· (intro w hSw; (try dsimp only at hSw); go_simp <;> with_reducible rfl)); try simp only [Act.put, List.setIfInBounds_toArray, List.set_cons_zero, List.set_cons_succ])
          (refine wpAnyH_take (i := 5) (v := ?_) (by simp only [List.getElem?_toArray, List.getElem?_cons_zero, List.getElem?_cons_succ]; rfl) (by kernel_rfl) (by kernel_rfl) (by kernel_rfl) (fun _ _ _ h => h) (Or.inl ⟨by rfl, ?_⟩) (by assumption) ?_; rotate_left; (· (intro w hSw; (try dsimp only at hSw); go_simp <;> with_reducible rfl)); try simp only [Act.put, List.setIfInBounds_toArray, List.set_cons_zero, List.set_cons_succ])
          (refine wpAnyH_take (i := 6) (v := ?_) (by simp only [List.getElem?_toArray, List.getElem?_cons_zero, List.getElem?_cons_succ]; rfl) (by kernel_rfl) (by kernel_rfl) (by kernel_rfl) (fun _ _ _ h => h) (Or.inl ⟨by rfl, ?_⟩) (by assumption) ?_; rotate_left; (· (intro w hSw; (try dsimp only at hSw); go_simp <;> with_reducible rfl)); try simp only [Act.put, List.setIfInBounds_toArray, List.set_cons_zero, List.set_cons_succ])
          (refine wpAnyH_take (i := 7) (v := ?_) (by simp only [List.getElem?_toArray, List.getElem?_cons_zero, List.getElem?_cons_succ]; rfl) (by kernel_rfl) (by kernel_rfl) (by kernel_rfl) (fun _ _ _ h => h) (Or.inl ⟨by rfl, ?_⟩) (by assumption) ?_; rotate_left; (· (intro w hSw; (try dsimp only at hSw); go_simp <;> with_reducible rfl)); try simp only [Act.put, List.setIfInBounds_toArray, List.set_cons_zero, List.set_cons_succ])
          (refine wpAnyH_take (i := 8) (v := ?_) (by simp only [List.getElem?_toArray, List.getElem?_cons_zero, List.getElem?_cons_succ]; rfl) (by kernel_rfl) (by kernel_rfl) (by kernel_rfl) (fun _ _ _ h => h) (Or.inl ⟨by rfl, ?_⟩) (by assumption) ?_; rotate_left; (· (intro w hSw; (try dsimp only at hSw); go_simp <;> with_reducible rfl)); try simp only [Act.put, List.setIfInBounds_toArray, List.set_cons_zero, List.set_cons_succ])
          (refine wpAnyH_take (i := 9) (v := ?_) (by simp only [List.getElem?_toArray, List.getElem?_cons_zero, List.getElem?_cons_succ]; rfl) (by kernel_rfl) (by kernel_rfl) (by kernel_rfl) (fun _ _ _ h => h) (Or.inl ⟨by rfl, ?_⟩) (by assumption) ?_; rotate_left; (· (intro w hSw; (try dsimp only at hSw); go_simp <;> with_reducible rfl)); try simp only [Act.put, List.setIfInBounds_toArray, List.set_cons_zero, List.set_cons_succ])
          (refine wpAnyH_take (i := 10) (v := ?_) (by simp only [List.getElem?_toArray, List.getElem?_cons_zero, List.getElem?_cons_succ]; rfl) (by kernel_rfl) (by kernel_rfl) (by kernel_rfl) (fun _ _ _ h => h) (Or.inl ⟨by rfl, ?_⟩) (by assumption) ?_; rotate_left; (· (intro w hSw; (try dsimp only at hSw); go_simp <;> with_reducible rfl)); try simp only [Act.put, List.setIfInBounds_toArray, List.set_cons_zero, List.set_cons_succ])
          (refine wpAnyH_take (i := 11) (v := ?_) (by simp only [List.getElem?_toArray, List.getElem?_cons_zero, List.getElem?_cons_succ]; rfl) (by kernel_rfl) (by kernel_rfl) (by kernel_rfl) (fun _ _ _ h => h) (Or.inl ⟨by rfl, ?_⟩) (by assumption) ?_; rotate_left; (· (intro w hSw; (try dsimp only at hSw); go_simp <;> with_reducible rfl)); try simp only [Act.put, List.setIfInBounds_toArray, List.set_cons_zero, List.set_cons_succ])
          refine wpAnyH_ready (rs := [12]) (by kernel_rfl) (by simp) ?_
          refine AllReadyH.cons (by simp only [List.getElem?_toArray, List.getElem?_cons_zero, List.getElem?_cons_succ]; rfl) (fun K hK => ?_) AllReadyH.nil
          go_simp
          go_at_call 44
          refine (HLS _ (by first | exact Below.refl _ _ | exact (Below.refl _ _).drew | exact below_dN (Below.refl _ _) _)).mono ?_
          rintro e w4 ⟨rfl, H4⟩
          refine hK.out _ _ ?_ (fun hHeld => ?_)
          · exact (by obtain ⟨z0, z1, z2, _, z4, z5⟩ := HC.out w4 (HBk.out.trans (H4.out.mono HBk.out.size)); exact ⟨z0, z1, z2, z4, z5⟩)
          clear hK K
          try simp only [Act.put, List.setIfInBounds_toArray, List.set_cons_zero, List.set_cons_succ]
          (refine wpAnyH_take (i := 13) (v := ?_) (by simp only [List.getElem?_toArray, List.getElem?_cons_zero, List.getElem?_cons_succ]; rfl) (by kernel_rfl) (by kernel_rfl) (by kernel_rfl) (fun _ _ _ h => h) (Or.inl ⟨by rfl, ?_⟩) (by assumption) ?_; rotate_left; (· (intro w hSw; (try dsimp only at hSw); go_simp <;> with_reducible rfl)); try simp only [Act.put, List.setIfInBounds_toArray, List.set_cons_zero, List.set_cons_succ])
          refine wpAnyH_done (by kernel_rfl) ?_ _
          refine NoPanic.normal ?_
          clear hHeld q0 v0 v1 c0' c1' c2'
          obtain ⟨q0, c0', c1', c2', v0, v1⟩ := HC.out w4 (HBk.out.trans (H4.out.mono HBk.out.size))
          have HW : Hid (WB (⟨(x1, x2), oa, l.length, oc, l⟩ : Bn) bs w3 (w4.alloc (.cells #[.int .i64 x1, .int .i64 x2, .slice oa l.length oc] 55)) _ k false pre) := (HK.out.below H4.out).below ((Below.refl _ w4).alloc (Nat.le_refl _) _)
          go_wp2_with (at_builtin; refine wpList_append_own _ rfl _ _ 22 rfl w3.heap.size 55 i0 _ 3 40 Tryz.underlying22 hi hz hs3 hby rfl (by decide) _ _ _ rfl HW.out.1 ⟨w4.heap.size, 0, none⟩ 1 1 (encB (⟨(x1, x2), oa, l.length, oc, l⟩ : Bn)) rfl rfl (new_bn w4 (⟨(x1, x2), oa, l.length, oc, l⟩ : Bn)) (one_bn _) (by unfold maxLen; omega) (by omega) HW.out.2.1.size ?_)
          intro v' w' hown hgr _
          have HF : Hid (WB (⟨(x1, x2), oa, l.length, oc, l⟩ : Bn) bs w3 w' v' k true (pre ++ [(⟨(x1, x2), oa, l.length, oc, l⟩ : Bn)])) := HW.out.more hown hgr HE0.out (by simp only [cond]; omega)
          clear hown hgr q0 v0 v1 c0' c1' c2'
          obtain ⟨q0, c0', c1', c2', v0, v1⟩ := HC.out w' (HB3.out.trans (HF.out.2.1.mono HB3.out.size))
          have HW2 : Hid (WB (⟨(x1, x2), oa, l.length, oc, l⟩ : Bn) bs w3 (w'.alloc (.cells #[.int .i64 y1, .int .i64 y2, .slice qa qn qc] 55)) v' k true (pre ++ [(⟨(x1, x2), oa, l.length, oc, l⟩ : Bn)])) := HF.out.below ((Below.refl _ w').alloc (Nat.le_refl _) _)
          have HLp : Hid ((pre ++ [(⟨(x1, x2), oa, l.length, oc, l⟩ : Bn)]).length = pre.length + 1) := by show _ = _; simp
          go_wp2_with (at_builtin; refine wpList_append_own _ rfl _ _ 22 rfl w3.heap.size 55 i0 _ 3 40 Tryz.underlying22 hi hz hs3 hby rfl (by decide) _ (pre.length + 1) _ rfl (by have := HW2.out.1; rw [HLp.out] at this; exact this) ⟨w'.heap.size, 0, none⟩ 1 1 (encB (⟨(y1, y2), qa, qn, qc, ql⟩ : Bn)) rfl rfl (new_bn w' (⟨(y1, y2), qa, qn, qc, ql⟩ : Bn)) (one_bn _) (by unfold maxLen; omega) (by omega) HW2.out.2.1.size ?_)
          intro v2 w5 hown hgr _
          have HF2 : Hid (WB (⟨(x1, x2), oa, l.length, oc, l⟩ : Bn) bs w3 w5 v2 (k + 1) true ((pre ++ [(⟨(x1, x2), oa, l.length, oc, l⟩ : Bn)]) ++ [(⟨(y1, y2), qa, qn, qc, ql⟩ : Bn)])) := HW2.out.more (by rw [HLp.out]; simpa using hown) hgr HE.out (by rw [HLp.out]; simp only [cond]; omega)
          clear hown hgr
          go_wp2_with fail
          go_roundw
          case rel => exact ⟨k + 1, true, (pre ++ [(⟨(x1, x2), oa, l.length, oc, l⟩ : Bn)]) ++ [(⟨(y1, y2), qa, qn, qc, ql⟩ : Bn)], by omega, by go_num, rfl, HF2⟩
          case measure => simp [intOf]; omega
      · have HE : Hid (insB (⟨(x1, x2), oa, l.length, oc, l⟩ : Bn) bs = (pre ++ [(⟨(y1, y2), qa, qn, qc, ql⟩ : Bn)]) ++ restB true (⟨(x1, x2), oa, l.length, oc, l⟩ : Bn) (bs.drop (k + 1))) := by
          show _ = _
          have a2 := HD.out.2.2
          rw [HK.out.2.2.1]
          simp only [restB, if_true]
          rw [a2]; simp
        have hpl : pre.length ≤ k + 1 := HK.out.2.2.2
        clear HD HLS
        go_wp2_with fail
        refine wp_region_noPanic ?_
        refine wp_region_held_drew (S := fun u => u.cell? ⟨rt, 0, none⟩ = some (.slice (some ⟨b1, o1, none⟩) n rc) ∧ u.cell? ⟨b1, o1 + k * 3, none⟩ = some (.int .i64 y1) ∧ u.cell? ⟨b1, o1 + k * 3 + 1, none⟩ = some (.int .i64 y2) ∧ u.cell? ⟨vb, 0, none⟩ = some (.int .i64 x1) ∧ u.cell? ⟨vb, 1, none⟩ = some (.int .i64 x2)) (by kernel_rfl) (⟨q0, c0', c1', v0, v1⟩) (fun hHeld => ?_)
        (refine wpAnyH_take (i := 0) (v := ?_) (by simp only [List.getElem?_toArray, List.getElem?_cons_zero]; rfl) (by kernel_rfl) (by kernel_rfl) (by kernel_rfl) (fun _ _ _ h => h) (Or.inl ⟨by rfl, ?_⟩) (by assumption) ?_; rotate_left; (· (intro w hSw; (try dsimp only at hSw); go_simp <;> with_reducible rfl)); try simp only [Act.put, List.setIfInBounds_toArray, List.set_cons_zero, List.set_cons_succ])
        (refine wpAnyH_take (i := 1) (v := ?_) (by simp only [List.getElem?_toArray, List.getElem?_cons_zero, List.getElem?_cons_succ]; rfl) (by kernel_rfl) (by kernel_rfl) (by kernel_rfl) (fun _ _ _ h => h) (Or.inl ⟨by rfl, ?_⟩) (by assumption) ?_; rotate_left; (· (intro w hSw; (try dsimp only at hSw); go_simp <;> with_reducible rfl)); try simp only [Act.put, List.setIfInBounds_toArray, List.set_cons_zero, List.set_cons_succ])
        (refine wpAnyH_take (i := 2) (v := ?_) (by simp only [List.getElem?_toArray, List.getElem?_cons_zero, List.getElem?_cons_succ]; rfl) (by kernel_rfl) (by kernel_rfl) (by kernel_rfl) (fun _ _ _ h => h) (Or.inl ⟨by rfl, ?_⟩) (by assumption) ?_; rotate_left; (· (intro w hSw; (try dsimp only at hSw); go_simp <;> with_reducible rfl)); try simp only [Act.put, List.setIfInBounds_toArray, List.set_cons_zero, List.set_cons_succ])
        (refine wpAnyH_take (i := 3) (v := undef) (by simp only [List.getElem?_toArray, List.getElem?_cons_zero, List.getElem?_cons_succ]; rfl) (by kernel_rfl) (by kernel_rfl) (by kernel_rfl) (fun _ _ _ h => h) (Or.inr ⟨by rfl, rfl⟩) (by assumption) ?_; try simp only [Act.put, List.setIfInBounds_toArray, List.set_cons_zero, List.set_cons_succ])
        (refine wpAnyH_take (i := 4) (v := undef) (by simp only [List.getElem?_toArray, List.getElem?_cons_zero, List.getElem?_cons_succ]; rfl) (by kernel_rfl) (by kernel_rfl) (by kernel_rfl) (fun _ _ _ h => h) (Or.inr ⟨by rfl, rfl⟩) (by assumption) ?_; try simp only [Act.put, List.setIfInBounds_toArray, List.set_cons_zero, List.set_cons_succ])
        (refine wpAnyH_take (i := 5) (v := undef) (by simp only [List.getElem?_toArray, List.getElem?_cons_zero, List.getElem?_cons_succ]; rfl) (by kernel_rfl) (by kernel_rfl) (by kernel_rfl) (fun _ _ _ h => h) (Or.inr ⟨by rfl, rfl⟩) (by assumption) ?_; try simp only [Act.put, List.setIfInBounds_toArray, List.set_cons_zero, List.set_cons_succ])
        (refine wpAnyH_take (i := 6) (v := undef) (by simp only [List.getElem?_toArray, List.getElem?_cons_zero, List.getElem?_cons_succ]; rfl) (by kernel_rfl) (by kernel_rfl) (by kernel_rfl) (fun _ _ _ h => h) (Or.inr ⟨by rfl, rfl⟩) (by assumption) ?_; try simp only [Act.put, List.setIfInBounds_toArray, List.set_cons_zero, List.set_cons_succ])
        (refine wpAnyH_take (i := 7) (v := undef) (by simp only [List.getElem?_toArray, List.getElem?_cons_zero, List.getElem?_cons_succ]; rfl) (by kernel_rfl) (by kernel_rfl) (by kernel_rfl) (fun _ _ _ h => h) (Or.inr ⟨by rfl, rfl⟩) (by assumption) ?_; try simp only [Act.put, List.setIfInBounds_toArray, List.set_cons_zero, List.set_cons_succ])
        (refine wpAnyH_take (i := 8) (v := undef) (by simp only [List.getElem?_toArray, List.getElem?_cons_zero, List.getElem?_cons_succ]; rfl) (by kernel_rfl) (by kernel_rfl) (by kernel_rfl) (fun _ _ _ h => h) (Or.inr ⟨by rfl, rfl⟩) (by assumption) ?_; try simp only [Act.put, List.setIfInBounds_toArray, List.set_cons_zero, List.set_cons_succ])
        (refine wpAnyH_take (i := 9) (v := undef) (by simp only [List.getElem?_toArray, List.getElem?_cons_zero, List.getElem?_cons_succ]; rfl) (by kernel_rfl) (by kernel_rfl) (by kernel_rfl) (fun _ _ _ h => h) (Or.inr ⟨by rfl, rfl⟩) (by assumption) ?_; try simp only [Act.put, List.setIfInBounds_toArray, List.set_cons_zero, List.set_cons_succ])
        (refine wpAnyH_take (i := 10) (v := undef) (by simp only [List.getElem?_toArray, List.getElem?_cons_zero, List.getElem?_cons_succ]; rfl) (by kernel_rfl) (by kernel_rfl) (by kernel_rfl) (fun _ _ _ h => h) (Or.inr ⟨by rfl, rfl⟩) (by assumption) ?_; try simp only [Act.put, List.setIfInBounds_toArray, List.set_cons_zero, List.set_cons_succ])
        (refine wpAnyH_take (i := 11) (v := undef) (by simp only [List.getElem?_toArray, List.getElem?_cons_zero, List.getElem?_cons_succ]; rfl) (by kernel_rfl) (by kernel_rfl) (by kernel_rfl) (fun _ _ _ h => h) (Or.inr ⟨by rfl, rfl⟩) (by assumption) ?_; try simp only [Act.put, List.setIfInBounds_toArray, List.set_cons_zero, List.set_cons_succ])
        (refine wpAnyH_take (i := 12) (v := undef) (by simp only [List.getElem?_toArray, List.getElem?_cons_zero, List.getElem?_cons_succ]; rfl) (by kernel_rfl) (by kernel_rfl) (by kernel_rfl) (fun _ _ _ h => h) (Or.inr ⟨by rfl, rfl⟩) (by assumption) ?_; try simp only [Act.put, List.setIfInBounds_toArray, List.set_cons_zero, List.set_cons_succ])
        (refine wpAnyH_take (i := 13) (v := ?_) (by simp only [List.getElem?_toArray, List.getElem?_cons_zero, List.getElem?_cons_succ]; rfl) (by kernel_rfl) (by kernel_rfl) (by kernel_rfl) (fun _ _ _ h => h) (Or.inl ⟨by rfl, ?_⟩) (by assumption) ?_; rotate_left; (· (intro w hSw; (try dsimp only at hSw); go_simp <;> with_reducible rfl)); try simp only [Act.put, List.setIfInBounds_toArray, List.set_cons_zero, List.set_cons_succ])
        refine wpAnyH_done (by kernel_rfl) ?_ _
        refine NoPanic.normal ?_
        clear hHeld
        have HW : Hid (WB (⟨(x1, x2), oa, l.length, oc, l⟩ : Bn) bs w3 (wr.drew.alloc (.cells #[.int .i64 y1, .int .i64 y2, .slice qa qn qc] 55)) _ k true pre) := (HK.out.below ((Below.refl _ wr).drew)).below ((Below.refl _ _).alloc (Nat.le_refl _) _)
        go_wp2_with (at_builtin; refine wpList_append_own _ rfl _ _ 22 rfl w3.heap.size 55 i0 _ 3 40 Tryz.underlying22 hi hz hs3 hby rfl (by decide) _ _ _ rfl HW.out.1 ⟨wr.drew.heap.size, 0, none⟩ 1 1 (encB (⟨(y1, y2), qa, qn, qc, ql⟩ : Bn)) rfl rfl (new_bn wr.drew (⟨(y1, y2), qa, qn, qc, ql⟩ : Bn)) (one_bn _) (by unfold maxLen; omega) (by omega) HW.out.2.1.size ?_)
        intro v' w' hown hgr _
        have HF : Hid (WB (⟨(x1, x2), oa, l.length, oc, l⟩ : Bn) bs w3 w' v' (k + 1) true (pre ++ [(⟨(y1, y2), qa, qn, qc, ql⟩ : Bn)])) := HW.out.more hown hgr HE.out (by simp only [cond]; omega)
        clear hown hgr
        go_wp2_with fail
        go_roundw
        case rel => exact ⟨k + 1, true, pre ++ [(⟨(y1, y2), qa, qn, qc, ql⟩ : Bn)], by omega, by go_num, rfl, HF⟩
        case measure => simp [intOf]; omega
    · have hlt1 : ¬ (k : Int) < (n : Int) := by omega
      have hdr : bs.drop k = [] := by rw [List.drop_eq_nil_iff, HL.out.2.2.2.1]; omega
      have HDR : Hid (bs.drop k = []) := hdr
      have hbw3 : Below w.heap.size w w3 := HL.out.2.1.trans (HB3.out.mono HL.out.2.1.size)
      have HEnd : Hid (∀ w4 v4 pre4 k4, WB (⟨(x1, x2), oa, l.length, oc, l⟩ : Bn) bs w3 w4 v4 k4 true pre4 → bs.drop k4 = [] → ∃ a m c, v4 = .slice a m c ∧ BindR w G rt bs (x1, x2) l (w4.setCell ⟨rt, 0, none⟩ (.slice a m c))) := fun w4 v4 pre4 k4 hF hd =>
        bind_end HL.out.1 hbw3 hF hd HOV.out.1 (fun g hg => HOV.out.2.1 g hg) HL.out.2.2.2.2
      clear hdr hbw3 hBs
      cases bb
      · have hpl : pre.length ≤ k := HK.out.2.2.2
        have HE0 : Hid (insB (⟨(x1, x2), oa, l.length, oc, l⟩ : Bn) bs = (pre ++ [(⟨(x1, x2), oa, l.length, oc, l⟩ : Bn)]) ++ restB true (⟨(x1, x2), oa, l.length, oc, l⟩ : Bn) (bs.drop k)) := by
          show _ = _
          rw [HK.out.2.2.1, HDR.out]; simp [restB, insB]
        have HW : Hid (WB (⟨(x1, x2), oa, l.length, oc, l⟩ : Bn) bs w3 (wr.alloc (.cells #[.int .i64 x1, .int .i64 x2, .slice oa l.length oc] 55)) _ k false pre) := HK.out.below ((Below.refl _ wr).alloc (Nat.le_refl _) _)
        go_wp2_with (at_builtin; refine wpList_append_own _ rfl _ _ 22 rfl w3.heap.size 55 i0 _ 3 40 Tryz.underlying22 hi hz hs3 hby rfl (by decide) _ _ _ rfl HW.out.1 ⟨wr.heap.size, 0, none⟩ 1 1 (encB (⟨(x1, x2), oa, l.length, oc, l⟩ : Bn)) rfl rfl (new_bn wr (⟨(x1, x2), oa, l.length, oc, l⟩ : Bn)) (one_bn _) (by unfold maxLen; omega) (by omega) HW.out.2.1.size ?_)
        intro v' w' hown hgr _
        have HF : Hid (WB (⟨(x1, x2), oa, l.length, oc, l⟩ : Bn) bs w3 w' v' k true (pre ++ [(⟨(x1, x2), oa, l.length, oc, l⟩ : Bn)])) := HW.out.more hown hgr HE0.out (by simp only [cond]; omega)
        clear hown hgr q0 v0 v1 f0
        obtain ⟨q0, f0, v0, v1, hBs⟩ := HS.out w' (HB3.out.trans (HF.out.2.1.mono HB3.out.size))
        clear hBs
        obtain ⟨a', m', c', rfl, hE⟩ := HEnd.out w' v' _ k HF.out HDR.out
        have HEE : Hid _ := hE
        clear hE
        go_wp2_with fail
        go_ret
        exact ⟨by rw [HBE.out]; rfl, HEE.out⟩
      · obtain ⟨a', m', c', rfl, hE⟩ := HEnd.out wr _ _ k HK.out HDR.out
        have HEE : Hid _ := hE
        clear hE
        go_wp2_with fail
        go_ret
        exact ⟨by rw [HBE.out]; rfl, HEE.out⟩
theorem i24 (G : Nat → Prop) (rt : Nat) (bs : List Bn) (x : Nm) (l : List C) (v : Value) (w : World) (h : RfH w G rt bs) (hT : TermAt w v l) (hby : l.length * 48 ≤ 140737488355328) (hn : bs.length ≤ 3518437208780) :
    Calls Tryz.prog 25 #[.pointer (some ⟨rt, 0, none⟩), .agg #[.int .i64 x.1, .int .i64 x.2], v] w fun e w' => e = .returned (.int .i64 (bindE (hpOf bs) x l)) ∧ BindR w G rt bs x l w' := by
  by_cases he : x.1 < 0 ∨ oneT ⟨4, ⟨#[]⟩, 0, x.1, x.2⟩ = [] ∨ globalB l = false
  · exact i24_six G rt bs x l v w h hT hby hn he
  · cases h70 : hasB bs x
    · cases hv : isVarL l
      · exact i24_not G rt bs x l v w h hT hby hn he h70 hv
      · cases hl : lessN (varL l) x
        · exact i24_71 G rt bs x l v w h hT hby hn he h70 ⟨hv, hl⟩
        · exact i24_var G rt bs x l v w h hT hby hn he h70 (fun _ => hl) hv
    · exact i24_70 G rt bs x l v w h hT hby hn he h70
section
variable {P : Program}
theorem wpList_append_any (w : World) {ops : Array Oper} {rest : List Oper} {o : Oper} {a : Act} {Q : Exit → Act → World → Prop} (hgd : o.guard = none) (s x : Operand) (t : TypeId)
    (ho : o.op = .call { callee := .builtin .append, args := #[s, x], argTypes := #[t, t] })
    (base : Nat) (e : TypeId) (i : TypeInfo) (z : Value) (size bytes : Nat) (ht : P.underlying t = some (.slice e)) (hi : P.info? e = some i) (hz : i.zero = some z)
    (hsize : i.size = size) (hby : i.bytes = bytes) (hzs : z.cells.size = size) (hsz : 0 < size)
    (v : Value) (n : Nat) (xs : List Value) (hs : a.eval s = v) (hown : w.ownsRow base e size v n xs)
    (ax : Option Addr) (m c : Nat) (news : List Value) (hx : a.eval x = .slice ax m c) (hl : news.length = m * size) (hnews : m = 0 ∨ ∃ ad, ax = some ad ∧ ∀ j u, news[j]? = some u → w.cell? (ad.add j) = some u) (h1 : ∀ u ∈ news, u.oneCell' = true)
    (h63 : n + m ≤ maxLen) (hbytes : (n + m) * bytes ≤ 140737488355328) (hbase : base ≤ w.heap.size)
    (h : ∀ a' c' w', w'.ownsRow base e size (.slice a' (n + m) c') (n + m) (xs ++ news) → w.grownBy w' v.ownBlock → wpList P ops Q rest (a.put o.dst (.slice a' (n + m) c')) w') : wpList P ops Q (o :: rest) a w := by
  have form : ∀ {w : World} {v : Value} {k : Nat} {ys : List Value}, w.ownsRow base e size v k ys → ∃ a' c', v = .slice a' k c' := fun {w v k ys} h => by
    rcases h.2 with ⟨h1, h2⟩ | ⟨g, cap, cur, h1, _⟩
    · exact ⟨none, 0, by rw [h1, h2]⟩
    · exact ⟨_, _, h1⟩
  cases ax with
  | some ad =>
    refine wpList_append_own w hgd s x t ho base e i z size bytes ht hi hz hsize hby hzs hsz v n xs hs hown ad m c news hx hl ?_ h1 h63 hbytes hbase fun v' w' h2 h3 _ => ?_
    · rcases hnews with e | ⟨ad', e, h2⟩
      · intro j u hu
        have : news = [] := List.eq_nil_of_length_eq_zero (by rw [hl, e, Nat.zero_mul])
        rw [this] at hu; simp at hu
      · cases e; exact h2
    · obtain ⟨a', c', rfl⟩ := form h2
      exact h a' c' w' h2 h3
  | none =>
    have hm : m = 0 := by
      rcases hnews with e | ⟨ad', e, _⟩
      · exact e
      · cases e
    subst hm
    obtain rfl : news = [] := List.eq_nil_of_length_eq_zero (by rw [hl, Nat.zero_mul])
    obtain ⟨a', c', rfl⟩ := form hown
    have hle : n ≤ c' := by
      rcases hown.2 with ⟨h1, h2⟩ | ⟨g, cap, cur, h1, _, _, h4, _⟩
      · cases h1; omega
      · cases h1; exact h4
    have hrun := run_append_nothing w t t o.type e i ht hi a' n c' hle (.slice none 0 c) (Src.ofNil w ht c)
    refine wpList_plain hgd fun K hK => ?_
    unfold Oper.wp execOp
    simp only [ho, resolve, invoke, builtin, Sem.run_bind, Sem.run_pure, Result.andThen_ok, List.map_toArray, List.map_cons, List.map_nil, hs, hx, hrun]
    exact hK _ _ (h a' c' w (by simpa using hown) ⟨rfl, rfl, rfl, Nat.le_refl _, fun _ _ _ => rfl⟩)
end
theorem HpAt.keeps {w w' : World} {hb M n : Nat} {D : DataW Value} {m : Hp} {V : Nat → Prop} (h : HpAt w hb M n D m) (hV : VB D V) (h1 : w'.heap[hb]? = w.heap[hb]?) (h2 : w'.heap[M]? = w.heap[M]?) (h3 : ∀ g, V g → w'.heap[g]? = w.heap[g]?) : HpAt w' hb M n D m := by
  refine ⟨h1.trans h.blk, ?_, h.no, fun x l hx hl => ?_, h.desc, h.wf⟩
  · obtain ⟨es, ck, k1, k2⟩ := h.map
    exact ⟨es, ck, h2.trans k1, k2⟩
  · obtain ⟨v, k1, k2⟩ := h.yes x l hx hl
    exact ⟨v, k1, k2.keeps fun g hg => h3 g (hV x v hx k1 g hg)⟩
/-- Bindings that are handed in. -/
structure BdRow (w : World) (a : Option Addr) (n : Nat) (bs : List Bn) : Prop where
  row : Bs w a n bs
  el : ∀ b ∈ bs, TermAt w b.v b.l ∧ wfN b.x ∧ (∀ c ∈ b.l, wfN (c.vn, c.vk)) ∧ b.l.length * 48 ≤ 140737488355328
/-- Both heaps behind k bindings: the same values. -/
structure Bo (wB w : World) (hb M rt k : Nat) (n : Nat) (D : DataW Value) (m : Hp) (V G : Nat → Prop) (bs : List Bn) : Prop where
  hp : HpAt w hb M n D m
  vb : VB D V
  rf : RfH w G rt bs
  eq : hpOf bs = m
  up : RisesH m
  nk : n ≤ k ∧ bs.length ≤ k
  bel : Below wB.heap.size wB w
  vlt : ∀ g, V g → g < w.heap.size ∧ g ≠ rt ∧ g ≠ M ∧ wB.heap.size ≤ g
  glt : ∀ g, G g → g ≠ hb ∧ g ≠ M ∧ wB.heap.size ≤ g
  low : wB.heap.size ≤ hb ∧ wB.heap.size ≤ M ∧ wB.heap.size ≤ rt ∧ rt ≠ hb ∧ rt ≠ M
  len : ∀ x l, lookH m x = some l → l.length * 48 ≤ 140737488355328 ∧ l ≠ [] ∧ rightB l = true
theorem Bo.hbM {wB w : World} {hb M rt k n : Nat} {D : DataW Value} {m : Hp} {V G : Nat → Prop} {bs : List Bn} (h : Bo wB w hb M rt k n D m V G bs) : hb ≠ M := fun e => by
  have h1 := h.hp.blk
  obtain ⟨es, ck, h2, _⟩ := h.hp.map
  rw [e, h2] at h1
  cases h1
theorem Bo.below {wB w w' : World} {hb M rt k n : Nat} {D : DataW Value} {m : Hp} {V G : Nat → Prop} {bs : List Bn} (h : Bo wB w hb M rt k n D m V G bs) (hw : Below w.heap.size w w') : Bo wB w' hb M rt k n D m V G bs :=
  ⟨h.hp.below hw, h.vb, h.rf.below hw, h.eq, h.up, h.nk, h.bel.trans (hw.mono h.bel.size), fun g hg => ⟨Nat.lt_of_lt_of_le (h.vlt g hg).1 hw.size, (h.vlt g hg).2⟩, h.glt, h.low, h.len⟩
/-- One block is written. -/
theorem Bo.wrote {wB w w' : World} {hb M rt k n : Nat} {D : DataW Value} {m : Hp} {V G : Nat → Prop} {bs : List Bn} {gt : Nat} (h : Bo wB w hb M rt k n D m V G bs) (hk : ∀ g, g ≠ gt → w'.heap[g]? = w.heap[g]?) (hs : w'.heap.size = w.heap.size) (ho : w'.os = w.os ∧ w'.tape = w.tape ∧ w'.output = w.output) (hV : ¬ V gt) (hG : ¬ G gt) (h1 : gt ≠ hb ∧ gt ≠ M ∧ gt ≠ rt) (hB : wB.heap.size ≤ gt) : Bo wB w' hb M rt k n D m V G bs :=
  ⟨h.hp.keeps h.vb (hk _ (Ne.symm h1.1)) (hk _ (Ne.symm h1.2.1)) (fun g hg => hk g fun e => hV (e ▸ hg)), h.vb, h.rf.keeps (fun g hg => hk g fun e => hG (e ▸ hg)) (hk _ (Ne.symm h1.2.2)) (by omega), h.eq, h.up, h.nk, ⟨ho.1.trans h.bel.os, ho.2.1.trans h.bel.tape, ho.2.2.trans h.bel.output, by rw [hs]; exact h.bel.size, fun j hj => (hk j (by omega)).trans (h.bel.block j hj)⟩, fun g hg => ⟨by rw [hs]; exact (h.vlt g hg).1, (h.vlt g hg).2⟩, h.glt, h.low, h.len⟩
theorem own_keeps {w w' : World} {B e s : Nat} {a : Option Addr} {n c : Nat} {xs : List Value} (h : w.ownsRow B e s (.slice a n c) n xs) (hk : ∀ g, bkA a = some g → w'.heap[g]? = w.heap[g]?) : w'.ownsRow B e s (.slice a n c) n xs := by
  refine ⟨h.1, ?_⟩
  rcases h.2 with hn | ⟨g, cap, cur, h1, h2, h3, h4⟩
  · exact .inl hn
  · refine .inr ⟨g, cap, cur, h1, h2, (hk g ?_).trans h3, h4⟩
    simp only [Value.slice.injEq] at h1
    rw [h1.1]; rfl
theorem vb_cut {w : World} {hb M n : Nat} {D : DataW Value} {m : Hp} {V : Nat → Prop} (h : HpAt w hb M n D m) (hm : ∀ x l, lookH m x = some l → l ≠ []) (hV : VB D V) : VB D (fun g => V g ∧ g < w.heap.size) := by
  intro x v hx hv g hg
  refine ⟨hV x v hx hv g hg, ?_⟩
  have hh := Maps.has_true_of_atKey hv
  cases e : lookH m x with
  | none => rw [h.no x hx e] at hh; cases hh
  | some l =>
    obtain ⟨v', k1, k2⟩ := h.yes x l hx e
    have e1 := (hv (.held (.bool true))).symm.trans (k1 (.held (.bool true)))
    cases e1
    exact k2.lt (hm x l e) hg
/-- In a round: both heaps, and a copy of the term between lo and hi. -/
structure Mi (wB : World) (hb M rt kk : Nat) (m : Hp) (G : Nat → Prop) (bs : List Bn) (lo hi : Nat) (l : List C) (ta : Option Addr) (tc : Nat) (u : World) : Prop where
  hp : ∃ n D V, HpAt u hb M n D m ∧ VB D V ∧ n ≤ kk ∧ ∀ g, V g → g < u.heap.size ∧ g ≠ rt ∧ g ≠ M ∧ wB.heap.size ≤ g ∧ (g < lo ∨ hi ≤ g)
  rf : RfH u G rt bs
  glt : ∀ g, G g → g ≠ hb ∧ g ≠ M ∧ wB.heap.size ≤ g ∧ (g < lo ∨ hi ≤ g)
  own : u.ownsRow lo 59 5 (.slice ta l.length tc) l.length (flat l)
  blk : ∀ g, bkA ta = some g → lo ≤ g ∧ g < hi
  hi : hi ≤ u.heap.size
  low : wB.heap.size ≤ hb ∧ wB.heap.size ≤ M ∧ wB.heap.size ≤ rt ∧ rt ≠ hb ∧ rt ≠ M ∧ hb < lo ∧ M < lo ∧ rt < lo ∧ wB.heap.size ≤ lo
  bel : Below wB.heap.size wB u
  len : ∀ x l, lookH m x = some l → l.length * 48 ≤ 140737488355328 ∧ l ≠ [] ∧ rightB l = true
  txt : l.length * 48 ≤ 140737488355328 ∧ ∀ c ∈ l, c.t.size ≤ maxLen
section
variable {wB u u' : World} {hb M rt kk lo hi : Nat} {m : Hp} {G : Nat → Prop} {bs : List Bn} {l : List C} {ta : Option Addr} {tc : Nat}
theorem Mi.below (h : Mi wB hb M rt kk m G bs lo hi l ta tc u) (hw : Below u.heap.size u u') : Mi wB hb M rt kk m G bs lo hi l ta tc u' := by
  obtain ⟨n, D, V, h1, h2, h3, h4⟩ := h.hp
  exact ⟨⟨n, D, V, h1.below hw, h2, h3, fun g hg => ⟨Nat.lt_of_lt_of_le (h4 g hg).1 hw.size, (h4 g hg).2⟩⟩, h.rf.below hw, h.glt, own_keeps h.own fun g hg => hw.block g (Nat.lt_of_lt_of_le (h.blk g hg).2 h.hi), h.blk, Nat.le_trans h.hi hw.size, h.low, h.bel.trans (hw.mono h.bel.size), h.len, h.txt⟩
theorem Mi.term (h : Mi wB hb M rt kk m G bs lo hi l ta tc u) : TermAt u (.slice ta l.length tc) l := ownT_term (base := lo) h.own (by have := h.txt.1; unfold maxLen; omega) h.txt.2
theorem len_bind {x : Nm} (h : ∀ x l, lookH m x = some l → l.length * 48 ≤ 140737488355328 ∧ l ≠ [] ∧ rightB l = true) (hl : l.length * 48 ≤ 140737488355328) : ∀ y l', lookH (bindH m x l) y = some l' → l'.length * 48 ≤ 140737488355328 ∧ l' ≠ [] ∧ rightB l' = true := fun y l' hy => by
  unfold bindH at hy
  split at hy
  · next e =>
    rw [look_ins m x y l (bind_zero e)] at hy
    split at hy
    · cases hy
      unfold bindE at e
      split at e
      · cases e
      · next e3 =>
        have hg : globalB l = true := by
          cases e4 : globalB l
          · exact absurd (.inr (.inr e4)) e3
          · rfl
        unfold globalB at hg
        simp only [Bool.and_eq_true] at hg
        refine ⟨hl, fun e2 => ?_, hg.2⟩
        have := (right_len hg.2).1
        rw [e2] at this
        simp at this
    · exact h y l' hy
  · exact h y l' hy
theorem mi_13 (x : Nm) (h : Mi wB hb M rt kk m G bs lo hi l ta tc u) (hx : wfN x) (hW : ∀ c ∈ l, wfN (c.vn, c.vk)) (hS : Signs wB) (hk : kk ≤ 4000000000000) :
    Calls Tryz.prog 24 #[.pointer (some ⟨hb, 0, none⟩), .agg #[.int .i64 x.1, .int .i64 x.2], .slice ta l.length tc] u fun e w' => e = .returned (.int .i64 (bindE m x l)) ∧ Mi wB hb M rt (kk + 1) (bindH m x l) G bs lo hi l ta tc w' := by
  obtain ⟨n, D, V, h1, h2, h3, h4⟩ := h.hp
  refine (h11 m hb M n D x l (.slice ta l.length tc) u h1 hx h.term hW (hS.below h.bel) (by have := h.txt.1; omega) (by unfold maxLen; omega)).mono ?_
  rintro e w' ⟨rfl, n', D', k1, k2, k3, k4⟩
  have hM : M < u.heap.size := by have := h.low; have := h.hi; have := h1.map.lt; omega
  have hlen := len_bind (x := x) h.len h.txt.1
  have ksz := k3.2.2.2.1
  refine ⟨rfl, ⟨n', D', _, k1, vb_cut k1 (fun x l hl => (hlen x l hl).2.1) (k4 V h2), by omega, fun g hg => ?_⟩, h.rf.keeps (fun g hg => k3.2.2.2.2 g (h.rf.lt g hg) (h.glt g hg).2.1) (k3.2.2.2.2 rt h.rf.rlt h.low.2.2.2.2.1) ksz, h.glt, own_keeps h.own fun g hg => k3.2.2.2.2 g (Nat.lt_of_lt_of_le (h.blk g hg).2 h.hi) (by have := h.blk g hg; have := h.low; omega), h.blk, Nat.le_trans h.hi ksz, h.low, h.bel.trans (k3.below h.low.2.1 h.bel.size), hlen, h.txt⟩
  obtain ⟨hg1 | hg1, hg2⟩ := hg
  · exact ⟨hg2, (h4 g hg1).2⟩
  · have := h.rf.rlt
    have := h.hi
    have := h.bel.size
    exact ⟨hg2, by omega, by omega, by omega, .inr (by omega)⟩
theorem mi_24 (x : Nm) (v : Value) (h : Mi wB hb M rt kk m G bs lo hi l ta tc u) (hT : TermAt u v l) (hn : bs.length ≤ 3518437208780) :
    Calls Tryz.prog 25 #[.pointer (some ⟨rt, 0, none⟩), .agg #[.int .i64 x.1, .int .i64 x.2], v] u fun e w' => e = .returned (.int .i64 (bindE (hpOf bs) x l)) ∧ ∃ G' bs', hpOf bs' = bindH (hpOf bs) x l ∧ bs'.length ≤ bs.length + 1 ∧ Mi wB hb M rt kk m G' bs' lo hi l ta tc w' := by
  obtain ⟨n, D, V, h1, h2, h3, h4⟩ := h.hp
  refine (i24 G rt bs x l v u h.rf hT (by have := h.txt.1; omega) hn).mono ?_
  rintro e w' ⟨rfl, bs', k1, k2, k3, k4⟩
  have hk : ∀ g, g < u.heap.size → g ≠ rt → w'.heap[g]? = u.heap[g]? := fun g h1 h2 => k4.block g h1 (by simpa using h2)
  have hhb : hb < u.heap.size := (Array.getElem?_eq_some_iff.1 h1.blk).1
  have ksz := k4.size
  refine ⟨rfl, _, bs', k1, k2, ⟨n, D, V, h1.keeps h2 (hk hb hhb (Ne.symm h.low.2.2.2.1)) (hk M h1.map.lt (Ne.symm h.low.2.2.2.2.1)) (fun g hg => hk g (h4 g hg).1 (h4 g hg).2.1), h2, h3, fun g hg => ⟨Nat.lt_of_lt_of_le (h4 g hg).1 ksz, (h4 g hg).2⟩⟩, k3, fun g hg => ?_, own_keeps h.own fun g hg => hk g (Nat.lt_of_lt_of_le (h.blk g hg).2 h.hi) (by have := h.blk g hg; have := h.low; omega), h.blk, Nat.le_trans h.hi ksz, h.low, h.bel.trans ⟨k4.os, k4.tape, k4.output, ksz, fun j hj => hk j (by have := h.bel.size; omega) (by have := h.low; omega)⟩, h.len, h.txt⟩
  rcases hg with hg | ⟨hg, _⟩
  · exact h.glt g hg
  · have := h.hi
    have := h.low
    have hM := h1.map.lt
    exact ⟨by omega, by omega, by omega, .inr (by omega)⟩
/-- The copy is written over. -/
structure Wt (wX wr : World) (ta : Option Addr) (n : Nat) : Prop where
  os : wr.os = wX.os ∧ wr.tape = wX.tape ∧ wr.output = wX.output
  size : wr.heap.size = wX.heap.size
  block : ∀ g, bkA ta ≠ some g → wr.heap[g]? = wX.heap[g]?
  row : n = 0 ∨ ∃ g cur, ta = some ⟨g, 0, none⟩ ∧ wr.heap[g]? = some (.cells cur 59 (0, 0)) ∧ n * 5 ≤ cur.size
theorem wt_of {w : World} {B : Nat} {n : Nat} {xs : List Value} (h : w.ownsRow B 59 5 (.slice ta n tc) n xs) : Wt w w ta n := by
  refine ⟨⟨rfl, rfl, rfl⟩, rfl, fun _ _ => rfl, ?_⟩
  rcases h.2 with ⟨_, e⟩ | ⟨g, cap, cur, e, h1, h2, h3, _, h4, _⟩
  · exact .inl e
  · simp only [Value.slice.injEq] at e
    exact .inr ⟨g, cur, e.1, h2, by rw [h4]; exact Nat.mul_le_mul_right 5 h3⟩
theorem Wt.at {wX wr : World} {n : Nat} (h : Wt wX wr ta n) {k : Nat} (hk : k < n) : ∃ g v, ta = some ⟨g, 0, none⟩ ∧ wr.cell? ⟨g, k * 5 + 2, none⟩ = some v ∧ wr.frozen? ⟨g, k * 5 + 2, none⟩ = false ∧ ∀ z, Wt wX (wr.setCell ⟨g, k * 5 + 2, none⟩ z) ta n := by
  rcases h.row with e | ⟨g, cur, e, h1, h2⟩
  · omega
  · have hj : k * 5 + 2 < cur.size := by omega
    refine ⟨g, cur[k * 5 + 2], e, ?_, frozen_of_row wr g _ _ 59 h1, fun z => ⟨h.os, by simpa using h.size, fun j hj => ?_, .inr ⟨g, _, e, heap_setCell_same wr g (k * 5 + 2) _ 59 z h1, by simpa using h2⟩⟩⟩
    · rw [cell_of_row wr g _ _ 59 (0, 0) h1, Array.getElem?_eq_getElem hj]
    · have hne : j ≠ g := fun e2 => hj (by rw [e, e2]; rfl)
      rw [heap_setCell_other wr ⟨g, k * 5 + 2, none⟩ j z hne]
      exact h.block j hj
theorem mi_end {wr : World} (h : Mi wB hb M rt kk m G bs lo hi l ta tc u) (hw : Wt u wr ta l.length) (he : hpOf bs = m) (hu : RisesH m) (hn : bs.length ≤ kk) : ∃ n D V G, Bo wB wr hb M rt kk n D m V G bs := by
  obtain ⟨n, D, V, h1, h2, h3, h4⟩ := h.hp
  have hlow := h.low
  have hk : ∀ g, (g < lo ∨ hi ≤ g) → wr.heap[g]? = u.heap[g]? := fun g hg => hw.block g fun e => by have := h.blk g e; omega
  have hsz := hw.size
  exact ⟨n, D, V, G, h1.keeps h2 (hk hb (.inl (by omega))) (hk M (.inl (by omega))) (fun g hg => hk g (h4 g hg).2.2.2.2), h2, h.rf.keeps (fun g hg => hk g (h.glt g hg).2.2.2) (hk rt (.inl (by omega))) (by omega), he, hu, ⟨h3, hn⟩, ⟨hw.os.1.trans h.bel.os, hw.os.2.1.trans h.bel.tape, hw.os.2.2.trans h.bel.output, by have := h.bel.size; omega, fun j hj => (hk j (.inl (by omega))).trans (h.bel.block j hj)⟩, fun g hg => ⟨by have := (h4 g hg).1; omega, (h4 g hg).2.1, (h4 g hg).2.2.1, (h4 g hg).2.2.2.1⟩, fun g hg => ⟨(h.glt g hg).1, (h.glt g hg).2.1, (h.glt g hg).2.2.1⟩, ⟨by omega, by omega, by omega, hlow.2.2.2.1, hlow.2.2.2.2.1⟩, h.len⟩
end
theorem mi_of {wB wr w2 : World} {hb M rt k n : Nat} {D : DataW Value} {m : Hp} {V G : Nat → Prop} {bs : List Bn} {l : List C} {ta : Option Addr} {tc : Nat} (h : Bo wB wr hb M rt k n D m V G bs) (ho : w2.ownsRow wr.heap.size 59 5 (.slice ta l.length tc) l.length (flat l)) (hg : Below wr.heap.size wr w2) (hl : l.length * 48 ≤ 140737488355328 ∧ ∀ c ∈ l, c.t.size ≤ maxLen) : Mi wB hb M rt k m G bs wr.heap.size w2.heap.size l ta tc w2 := by
  have h' := h.below hg
  obtain ⟨a, c, e, h1, _⟩ := own_sl ho
  simp only [Value.slice.injEq, true_and] at e
  obtain ⟨rfl, rfl⟩ := e
  have hhb : hb < wr.heap.size := (Array.getElem?_eq_some_iff.1 h.hp.blk).1
  have hM := h.hp.map.lt
  exact ⟨⟨n, D, V, h'.hp, h.vb, h.nk.1, fun g hg' => ⟨(h'.vlt g hg').1, (h.vlt g hg').2.1, (h.vlt g hg').2.2.1, (h.vlt g hg').2.2.2, .inl (h.vlt g hg').1⟩⟩, h'.rf, fun g hg' => ⟨(h.glt g hg').1, (h.glt g hg').2.1, (h.glt g hg').2.2, .inl (h.rf.lt g hg')⟩, ho, h1, Nat.le_refl _, ⟨h.low.1, h.low.2.1, h.low.2.2.1, h.low.2.2.2.1, h.low.2.2.2.2, hhb, hM, h.rf.rlt, h.bel.size⟩, h'.bel, h.len, hl⟩
/-- Behind 'both'. -/
def BoTo (wB w : World) (hb M rt k : Nat) : Prop := ∃ n D m V G bs, Bo wB w hb M rt k n D m V G bs
set_option maxRecDepth 100000 in
set_option maxHeartbeats 8000000 in
theorem i8 (a : Option Addr) (n c : Nat) (bs0 : List Bn) (w : World) (hA : BdRow w a n bs0) (hn : n ≤ 3518437208780) (hS : Signs w) :
    Calls Tryz.prog 4 #[.slice a n c] w fun e w' => ∃ hb M rt, e = .returned (.tuple #[.pointer (some ⟨hb, 0, none⟩), .pointer (some ⟨rt, 0, none⟩), .bool true]) ∧ BoTo w w' hb M rt n := by
  obtain ⟨j0, hj, hjz, hjs, hjb⟩ := info60
  have HV : Hid (BdRow w a n bs0 ∧ Signs w) := ⟨hA, hS⟩
  have H22 : Calls Tryz.prog 22 #[] w fun e w' => ∃ hb M, e = .returned (.pointer (some ⟨hb, 0, none⟩)) ∧ Hid (HpAt w' hb M 0 (.map []) [] ∧ Below w.heap.size w w' ∧ w.heap.size ≤ hb ∧ w.heap.size ≤ M) := by
    refine (h26 w).mono ?_
    rintro e w' ⟨rfl, h1, h2⟩
    exact ⟨_, _, rfl, h1, h2, by omega, Nat.le_refl _⟩
  clear hA hS
  go_enter Tryz.func4, Tryz.ntmps4
  go_wp2_with fail
  refine H22.mono ?_
  rintro e w1 ⟨hb, M, rfl, HI0⟩
  clear H22
  have H23 : Calls Tryz.prog 23 #[] w1 fun e w' => ∃ rt, e = .returned (.pointer (some ⟨rt, 0, none⟩)) ∧ Hid (BoTo w w' hb M rt 0) := by
    refine (i23 w1).mono ?_
    rintro e w' ⟨rfl, h1, h2⟩
    obtain ⟨t1, t2, t3, t4⟩ := HI0.out
    have hhb : hb < w1.heap.size := (Array.getElem?_eq_some_iff.1 t1.blk).1
    have hM := t1.map.lt
    have hs := t2.size
    refine ⟨_, rfl, 0, _, [], (fun _ => False), (fun _ => False), [], t1.below h2, fun x v hx hv g hg => ?_, h1, rfl, List.Pairwise.nil, ⟨Nat.le_refl _, Nat.le_refl _⟩, t2.trans (h2.mono t2.size), fun g hg => hg.elim, fun g hg => hg.elim, ⟨t3, t4, by omega, by omega, by omega⟩, fun x l hl => by cases hl⟩
    have e1 := Maps.has_true_of_atKey hv
    rw [t1.no x hx rfl] at e1
    cases e1
  go_wp2_with fail
  refine H23.mono ?_
  rintro e w1b ⟨rt, rfl, HT0⟩
  clear H23 HI0
  go_wp2_with fail
  go_loopw [7, 8, 9] (fun i _ _ wr => ∃ k : Nat, k ≤ n ∧ i = .int .i64 k ∧ Hid (BoTo w wr hb M rt k)) (fun i _ _ _ => n - (intOf i).toNat)
  case atStart => exact ⟨0, Nat.zero_le _, rfl, HT0⟩
  case round =>
    clear HT0
    obtain ⟨k, hk, rfl, HK⟩ := hrel
    by_cases hlt : k < n
    · have hltI : (k : Int) < (n : Int) := by omega
      have hk0 : (0 : Int) ≤ (k : Int) := by omega
      obtain ⟨n1, D, m, V, G, bs, HB⟩ : ∃ n1 D m V G bs, Hid (Bo w wr hb M rt k n1 D m V G bs) := HK.out
      clear HK
      obtain ⟨b, o, hx, rfl, hbl, c0, c1, c2⟩ := HV.out.1.row.at hlt
      obtain ⟨e1, e2, e3, e4⟩ := HV.out.1.el _ (List.getElem_mem hx)
      obtain ⟨q, hq⟩ : ∃ q, bs0[k] = q := ⟨_, rfl⟩
      rw [hq] at c0 c1 c2 e1 e2 e3 e4
      obtain ⟨⟨x1, x2⟩, la, ln, lc, ll⟩ := q
      simp only [Bn.v] at c0 c1 c2 e1 e2 e3 e4
      obtain rfl : ln = ll.length := by
        obtain ⟨a', c', e⟩ := e1.form
        simp only [Value.slice.injEq] at e
        exact e.2.1
      have HCL : Hid (∀ u, Below w.heap.size w u → u.cell? ⟨b, o + k * 3, none⟩ = some (.int .i64 x1) ∧ u.cell? ⟨b, o + k * 3 + 1, none⟩ = some (.int .i64 x2) ∧ u.cell? ⟨b, o + k * 3 + 2, none⟩ = some (.slice la ll.length lc)) := fun u hu => ⟨(hu.cell (p := ⟨b, o + k * 3, none⟩) hbl).trans c0, (hu.cell (p := ⟨b, o + k * 3 + 1, none⟩) hbl).trans c1, (hu.cell (p := ⟨b, o + k * 3 + 2, none⟩) hbl).trans c2⟩
      have HX : Hid (TermAt w (.slice la ll.length lc) ll ∧ wfN (x1, x2) ∧ (∀ c ∈ ll, wfN (c.vn, c.vk)) ∧ ll.length * 48 ≤ 140737488355328) := ⟨e1, e2, e3, e4⟩
      have hll : ll.length * 48 ≤ 140737488355328 := e4
      clear hx hbl c0 c1 c2 e1 e2 e3 e4 hq
      obtain ⟨p0, p1, p2⟩ := HCL.out wr HB.out.bel
      have HFL : Hid ((flat ll).length = ll.length * 5) := by show _ = _; rw [flat_length]; omega
      have HRD : Hid (ll.length = 0 ∨ ∃ ad, la = some ad ∧ ∀ j z, (flat ll)[j]? = some z → wr.cell? (ad.add j) = some z) := by
        rcases (HX.out.1.below HB.out.bel).2 with ⟨e, _⟩ | ⟨b', o', cap', e, _, _, h3, _⟩
        · exact .inl (by rw [e]; rfl)
        · simp only [Value.slice.injEq] at e
          exact .inr ⟨_, e.1, fun j z hz => by rw [Addr.add_mid]; exact h3 j z hz⟩
      go_wp2_with (at_builtin; refine wpList_append_any _ rfl _ _ 26 rfl wr.heap.size 59 j0 zero60 5 48 Tryz.underlying26 hj hjz hjs hjb rfl (by decide) (.slice none 0 0) 0 [] rfl (World.ownsRow_nil _ _ _ _) la ll.length lc (flat ll) rfl HFL.out HRD.out (flat_one _) (by unfold maxLen; omega) (by omega) (Nat.le_refl _) ?_)
      intro ta tc w2 ho2 hg2
      have HM2 : Hid (Mi w hb M rt k m G bs wr.heap.size w2.heap.size ll ta tc w2) := by
        have hb2 : Below wr.heap.size wr w2 := ⟨hg2.os, hg2.tape, hg2.output, hg2.size, fun j hj => hg2.block j hj (by simp [Value.ownBlock])⟩
        exact mi_of HB.out (by simpa using ho2) hb2 ⟨HX.out.2.2.2, HX.out.1.1.2⟩
      have HPL : Hid (hpOf bs = m ∧ RisesH m ∧ bs.length ≤ k) := ⟨HB.out.eq, HB.out.up, HB.out.nk.2⟩
      clear ho2 hg2 HRD p0 p1 p2 HB
      obtain ⟨p0, p1, p2⟩ := HCL.out w2 HM2.out.bel
      obtain ⟨ev, hev⟩ : ∃ ev, bindE m (x1, x2) ll = ev := ⟨_, rfl⟩
      have K13 : Hid (∀ u, Below w2.heap.size w2 u → Calls Tryz.prog 24 #[.pointer (some ⟨hb, 0, none⟩), .agg #[.int .i64 x1, .int .i64 x2], .slice ta ll.length tc] u fun e w' => e = .returned (.int .i64 ev) ∧ Hid (Mi w hb M rt (k + 1) (bindH m (x1, x2) ll) G bs wr.heap.size w2.heap.size ll ta tc w')) := fun u hu => by
        rw [← hev]
        exact mi_13 (x1, x2) (HM2.out.below hu) HX.out.2.1 HX.out.2.2.1 HV.out.2 (by omega)
      have K24 : Hid (∀ u, Hid (Mi w hb M rt (k + 1) (bindH m (x1, x2) ll) G bs wr.heap.size w2.heap.size ll ta tc u) → Calls Tryz.prog 25 #[.pointer (some ⟨rt, 0, none⟩), .agg #[.int .i64 x1, .int .i64 x2], .slice la ll.length lc] u fun e w' => e = .returned (.int .i64 ev) ∧ Hid (∃ G' bs', hpOf bs' = bindH m (x1, x2) ll ∧ bs'.length ≤ k + 1 ∧ Mi w hb M rt (k + 1) (bindH m (x1, x2) ll) G' bs' wr.heap.size w2.heap.size ll ta tc w')) := fun u hu => by
        have hl := HPL.out.2.2
        refine (mi_24 (x1, x2) (.slice la ll.length lc) hu.out (HX.out.1.below hu.out.bel) (by omega)).mono ?_
        rintro e w' ⟨rfl, G', bs', k1, k2, k3⟩
        rw [HPL.out.1] at k1
        exact ⟨by rw [HPL.out.1, hev], G', bs', k1, by omega, k3⟩
      have K15 : Hid (∀ u, Hid (∃ G' bs', hpOf bs' = bindH m (x1, x2) ll ∧ bs'.length ≤ k + 1 ∧ Mi w hb M rt (k + 1) (bindH m (x1, x2) ll) G' bs' wr.heap.size w2.heap.size ll ta tc u) → Calls Tryz.prog 10 #[.slice ta ll.length tc, .slice la ll.length lc] u fun e w' => e = .returned (.bool true) ∧ Hid (∃ G' bs', hpOf bs' = bindH m (x1, x2) ll ∧ bs'.length ≤ k + 1 ∧ Mi w hb M rt (k + 1) (bindH m (x1, x2) ll) G' bs' wr.heap.size w2.heap.size ll ta tc w')) := fun u hu => by
        obtain ⟨G', bs', k1, k2, k3⟩ := hu.out
        refine (c13 ll ll _ _ u k3.term (HX.out.1.below k3.bel)).mono ?_
        rintro e w' ⟨rfl, hb'⟩
        exact ⟨by rw [eqT_refl], G', bs', k1, k2, k3.below hb'⟩
      clear hev HM2
      go_wp2_with fail
      refine wp_region_noPanic ?_
      refine wp_region_held_drew (S := fun u => u.cell? ⟨b, o + k * 3, none⟩ = some (.int .i64 x1) ∧ u.cell? ⟨b, o + k * 3 + 1, none⟩ = some (.int .i64 x2) ∧ u.cell? ⟨b, o + k * 3 + 2, none⟩ = some (.slice la ll.length lc)) (by kernel_rfl) (⟨p0, p1, p2⟩) (fun hHeld => ?_)
      (refine wpAnyH_take (i := 0) (v := ?_) (by simp only [List.getElem?_toArray, List.getElem?_cons_zero]; rfl) (by kernel_rfl) (by kernel_rfl) (by kernel_rfl) (fun _ _ _ h => h) (Or.inl ⟨by rfl, ?_⟩) (by assumption) ?_; rotate_left; (· (intro w hSw; (try dsimp only at hSw); go_simp <;> with_reducible rfl)); try simp only [Act.put, List.setIfInBounds_toArray, List.set_cons_zero, List.set_cons_succ])
      (refine wpAnyH_take (i := 1) (v := ?_) (by simp only [List.getElem?_toArray, List.getElem?_cons_zero, List.getElem?_cons_succ]; rfl) (by kernel_rfl) (by kernel_rfl) (by kernel_rfl) (fun _ _ _ h => h) (Or.inl ⟨by rfl, ?_⟩) (by assumption) ?_; rotate_left; (· (intro w hSw; (try dsimp only at hSw); go_simp <;> with_reducible rfl)); try simp only [Act.put, List.setIfInBounds_toArray, List.set_cons_zero, List.set_cons_succ])
      (refine wpAnyH_take (i := 2) (v := ?_) (by simp only [List.getElem?_toArray, List.getElem?_cons_zero, List.getElem?_cons_succ]; rfl) (by kernel_rfl) (by kernel_rfl) (by kernel_rfl) (fun _ _ _ h => h) (Or.inl ⟨by rfl, ?_⟩) (by assumption) ?_; rotate_left; (· (intro w hSw; (try dsimp only at hSw); go_simp <;> with_reducible rfl)); try simp only [Act.put, List.setIfInBounds_toArray, List.set_cons_zero, List.set_cons_succ])
      (refine wpAnyH_take (i := 3) (v := ?_) (by simp only [List.getElem?_toArray, List.getElem?_cons_zero, List.getElem?_cons_succ]; rfl) (by kernel_rfl) (by kernel_rfl) (by kernel_rfl) (fun _ _ _ h => h) (Or.inl ⟨by rfl, ?_⟩) (by assumption) ?_; rotate_left; (· (intro w hSw; (try dsimp only at hSw); go_simp <;> with_reducible rfl)); try simp only [Act.put, List.setIfInBounds_toArray, List.set_cons_zero, List.set_cons_succ])
      (refine wpAnyH_take (i := 4) (v := ?_) (by simp only [List.getElem?_toArray, List.getElem?_cons_zero, List.getElem?_cons_succ]; rfl) (by kernel_rfl) (by kernel_rfl) (by kernel_rfl) (fun _ _ _ h => h) (Or.inl ⟨by rfl, ?_⟩) (by assumption) ?_; rotate_left; (· (intro w hSw; (try dsimp only at hSw); go_simp <;> with_reducible rfl)); try simp only [Act.put, List.setIfInBounds_toArray, List.set_cons_zero, List.set_cons_succ])
      (refine wpAnyH_take (i := 5) (v := ?_) (by simp only [List.getElem?_toArray, List.getElem?_cons_zero, List.getElem?_cons_succ]; rfl) (by kernel_rfl) (by kernel_rfl) (by kernel_rfl) (fun _ _ _ h => h) (Or.inl ⟨by rfl, ?_⟩) (by assumption) ?_; rotate_left; (· (intro w hSw; (try dsimp only at hSw); go_simp <;> with_reducible rfl)); try simp only [Act.put, List.setIfInBounds_toArray, List.set_cons_zero, List.set_cons_succ])
      (refine wpAnyH_take (i := 6) (v := ?_) (by simp only [List.getElem?_toArray, List.getElem?_cons_zero, List.getElem?_cons_succ]; rfl) (by kernel_rfl) (by kernel_rfl) (by kernel_rfl) (fun _ _ _ h => h) (Or.inl ⟨by rfl, ?_⟩) (by assumption) ?_; rotate_left; (· (intro w hSw; (try dsimp only at hSw); go_simp <;> with_reducible rfl)); try simp only [Act.put, List.setIfInBounds_toArray, List.set_cons_zero, List.set_cons_succ])
      (refine wpAnyH_take (i := 8) (v := ?_) (by simp only [List.getElem?_toArray, List.getElem?_cons_zero, List.getElem?_cons_succ]; rfl) (by kernel_rfl) (by kernel_rfl) (by kernel_rfl) (fun _ _ _ h => h) (Or.inl ⟨by rfl, ?_⟩) (by assumption) ?_; rotate_left; (· (intro w hSw; (try dsimp only at hSw); go_simp <;> with_reducible rfl)); try simp only [Act.put, List.setIfInBounds_toArray, List.set_cons_zero, List.set_cons_succ])
      (refine wpAnyH_take (i := 9) (v := ?_) (by simp only [List.getElem?_toArray, List.getElem?_cons_zero, List.getElem?_cons_succ]; rfl) (by kernel_rfl) (by kernel_rfl) (by kernel_rfl) (fun _ _ _ h => h) (Or.inl ⟨by rfl, ?_⟩) (by assumption) ?_; rotate_left; (· (intro w hSw; (try dsimp only at hSw); go_simp <;> with_reducible rfl)); try simp only [Act.put, List.setIfInBounds_toArray, List.set_cons_zero, List.set_cons_succ])
      (refine wpAnyH_take (i := 10) (v := ?_) (by simp only [List.getElem?_toArray, List.getElem?_cons_zero, List.getElem?_cons_succ]; rfl) (by kernel_rfl) (by kernel_rfl) (by kernel_rfl) (fun _ _ _ h => h) (Or.inl ⟨by rfl, ?_⟩) (by assumption) ?_; rotate_left; (· (intro w hSw; (try dsimp only at hSw); go_simp <;> with_reducible rfl)); try simp only [Act.put, List.setIfInBounds_toArray, List.set_cons_zero, List.set_cons_succ])
      (refine wpAnyH_take (i := 11) (v := ?_) (by simp only [List.getElem?_toArray, List.getElem?_cons_zero, List.getElem?_cons_succ]; rfl) (by kernel_rfl) (by kernel_rfl) (by kernel_rfl) (fun _ _ _ h => h) (Or.inl ⟨by rfl, ?_⟩) (by assumption) ?_; rotate_left; (· (intro w hSw; (try dsimp only at hSw); go_simp <;> with_reducible rfl)); try simp only [Act.put, List.setIfInBounds_toArray, List.set_cons_zero, List.set_cons_succ])
      (refine wpAnyH_take (i := 12) (v := ?_) (by simp only [List.getElem?_toArray, List.getElem?_cons_zero, List.getElem?_cons_succ]; rfl) (by kernel_rfl) (by kernel_rfl) (by kernel_rfl) (fun _ _ _ h => h) (Or.inl ⟨by rfl, ?_⟩) (by assumption) ?_; rotate_left; (· (intro w hSw; (try dsimp only at hSw); go_simp <;> with_reducible rfl)); try simp only [Act.put, List.setIfInBounds_toArray, List.set_cons_zero, List.set_cons_succ])
      (refine wpAnyH_take (i := 13) (v := ?_) (by simp only [List.getElem?_toArray, List.getElem?_cons_zero, List.getElem?_cons_succ]; rfl) (by kernel_rfl) (by kernel_rfl) (by kernel_rfl) (fun _ _ _ h => h) (Or.inl ⟨by rfl, ?_⟩) (by assumption) ?_; rotate_left; (· (intro w hSw; (try dsimp only at hSw); go_simp <;> with_reducible rfl)); try simp only [Act.put, List.setIfInBounds_toArray, List.set_cons_zero, List.set_cons_succ])
      (refine wpAnyH_take (i := 14) (v := ?_) (by simp only [List.getElem?_toArray, List.getElem?_cons_zero, List.getElem?_cons_succ]; rfl) (by kernel_rfl) (by kernel_rfl) (by kernel_rfl) (fun _ _ _ h => h) (Or.inl ⟨by rfl, ?_⟩) (by assumption) ?_; rotate_left; (· (intro w hSw; (try dsimp only at hSw); go_simp <;> with_reducible rfl)); try simp only [Act.put, List.setIfInBounds_toArray, List.set_cons_zero, List.set_cons_succ])
      (refine wpAnyH_take (i := 15) (v := ?_) (by simp only [List.getElem?_toArray, List.getElem?_cons_zero, List.getElem?_cons_succ]; rfl) (by kernel_rfl) (by kernel_rfl) (by kernel_rfl) (fun _ _ _ h => h) (Or.inl ⟨by rfl, ?_⟩) (by assumption) ?_; rotate_left; (· (intro w hSw; (try dsimp only at hSw); go_simp <;> with_reducible rfl)); try simp only [Act.put, List.setIfInBounds_toArray, List.set_cons_zero, List.set_cons_succ])
      (refine wpAnyH_take (i := 16) (v := ?_) (by simp only [List.getElem?_toArray, List.getElem?_cons_zero, List.getElem?_cons_succ]; rfl) (by kernel_rfl) (by kernel_rfl) (by kernel_rfl) (fun _ _ _ h => h) (Or.inl ⟨by rfl, ?_⟩) (by assumption) ?_; rotate_left; (· (intro w hSw; (try dsimp only at hSw); go_simp <;> with_reducible rfl)); try simp only [Act.put, List.setIfInBounds_toArray, List.set_cons_zero, List.set_cons_succ])
      (refine wpAnyH_take (i := 17) (v := ?_) (by simp only [List.getElem?_toArray, List.getElem?_cons_zero, List.getElem?_cons_succ]; rfl) (by kernel_rfl) (by kernel_rfl) (by kernel_rfl) (fun _ _ _ h => h) (Or.inl ⟨by rfl, ?_⟩) (by assumption) ?_; rotate_left; (· (intro w hSw; (try dsimp only at hSw); go_simp <;> with_reducible rfl)); try simp only [Act.put, List.setIfInBounds_toArray, List.set_cons_zero, List.set_cons_succ])
      (refine wpAnyH_take (i := 18) (v := ?_) (by simp only [List.getElem?_toArray, List.getElem?_cons_zero, List.getElem?_cons_succ]; rfl) (by kernel_rfl) (by kernel_rfl) (by kernel_rfl) (fun _ _ _ h => h) (Or.inl ⟨by rfl, ?_⟩) (by assumption) ?_; rotate_left; (· (intro w hSw; (try dsimp only at hSw); go_simp <;> with_reducible rfl)); try simp only [Act.put, List.setIfInBounds_toArray, List.set_cons_zero, List.set_cons_succ])
      refine wpAnyH_ready (rs := [7]) (by kernel_rfl) (by simp) ?_
      refine AllReadyH.cons (by simp only [List.getElem?_toArray, List.getElem?_cons_zero, List.getElem?_cons_succ]; rfl) (fun K hK => ?_) AllReadyH.nil
      go_simp
      go_at_call 24
      refine (K13.out _ (by first | exact Below.refl _ _ | exact (Below.refl _ _).drew | exact below_dN (Below.refl _ _) _)).mono ?_
      rintro e w4 ⟨rfl, H4⟩
      refine hK.out _ _ ?_ (fun hHeld => ?_)
      · exact HCL.out w4 H4.out.bel
      clear hK K
      try simp only [Act.put, List.setIfInBounds_toArray, List.set_cons_zero, List.set_cons_succ]
      refine wpAnyH_ready (rs := [19]) (by kernel_rfl) (by simp) ?_
      refine AllReadyH.cons (by simp only [List.getElem?_toArray, List.getElem?_cons_zero, List.getElem?_cons_succ]; rfl) (fun K hK => ?_) AllReadyH.nil
      go_simp
      go_at_call 25
      refine (K24.out _ H4).mono ?_
      rintro e w5 ⟨rfl, H5⟩
      refine hK.out _ _ ?_ (fun hHeld => ?_)
      · exact HCL.out w5 (by obtain ⟨_, _, _, _, h⟩ := H5.out; exact h.bel)
      clear hK K
      try simp only [Act.put, List.setIfInBounds_toArray, List.set_cons_zero, List.set_cons_succ]
      (refine wpAnyH_take (i := 20) (v := ?_) (by simp only [List.getElem?_toArray, List.getElem?_cons_zero, List.getElem?_cons_succ]; rfl) (by kernel_rfl) (by kernel_rfl) (by kernel_rfl) (fun _ _ _ h => h) (Or.inl ⟨by rfl, ?_⟩) (by assumption) ?_; rotate_left; (· (intro w hSw; (try dsimp only at hSw); go_simp <;> with_reducible rfl)); try simp only [Act.put, List.setIfInBounds_toArray, List.set_cons_zero, List.set_cons_succ])
      (refine wpAnyH_take (i := 21) (v := ?_) (by simp only [List.getElem?_toArray, List.getElem?_cons_zero, List.getElem?_cons_succ]; rfl) (by kernel_rfl) (by kernel_rfl) (by kernel_rfl) (fun _ _ _ h => h) (Or.inl ⟨by rfl, ?_⟩) (by assumption) ?_; rotate_left; (· (intro w hSw; (try dsimp only at hSw); go_simp <;> with_reducible rfl)); try simp only [Act.put, List.setIfInBounds_toArray, List.set_cons_zero, List.set_cons_succ])
      (refine wpAnyH_take (i := 22) (v := ?_) (by simp only [List.getElem?_toArray, List.getElem?_cons_zero, List.getElem?_cons_succ]; rfl) (by kernel_rfl) (by kernel_rfl) (by kernel_rfl) (fun _ _ _ h => h) (Or.inl ⟨by rfl, ?_⟩) (by assumption) ?_; rotate_left; (· (intro w hSw; (try dsimp only at hSw); go_simp <;> with_reducible rfl)); try simp only [Act.put, List.setIfInBounds_toArray, List.set_cons_zero, List.set_cons_succ])
      (refine wpAnyH_take (i := 23) (v := ?_) (by simp only [List.getElem?_toArray, List.getElem?_cons_zero, List.getElem?_cons_succ]; rfl) (by kernel_rfl) (by kernel_rfl) (by kernel_rfl) (fun _ _ _ h => h) (Or.inl ⟨by rfl, ?_⟩) (by assumption) ?_; rotate_left; (· (intro w hSw; (try dsimp only at hSw); go_simp <;> with_reducible rfl)); try simp only [Act.put, List.setIfInBounds_toArray, List.set_cons_zero, List.set_cons_succ])
      (refine wpAnyH_take (i := 24) (v := ?_) (by simp only [List.getElem?_toArray, List.getElem?_cons_zero, List.getElem?_cons_succ]; rfl) (by kernel_rfl) (by kernel_rfl) (by kernel_rfl) (fun _ _ _ h => h) (Or.inl ⟨by rfl, ?_⟩) (by assumption) ?_; rotate_left; (· (intro w hSw; (try dsimp only at hSw); go_simp <;> with_reducible rfl)); try simp only [Act.put, List.setIfInBounds_toArray, List.set_cons_zero, List.set_cons_succ])
      (refine wpAnyH_take (i := 25) (v := ?_) (by simp only [List.getElem?_toArray, List.getElem?_cons_zero, List.getElem?_cons_succ]; rfl) (by kernel_rfl) (by kernel_rfl) (by kernel_rfl) (fun _ _ _ h => h) (Or.inl ⟨by rfl, ?_⟩) (by assumption) ?_; rotate_left; (· (intro w hSw; (try dsimp only at hSw); go_simp <;> with_reducible rfl)); try simp only [Act.put, List.setIfInBounds_toArray, List.set_cons_zero, List.set_cons_succ])
      (refine wpAnyH_take (i := 26) (v := ?_) (by simp only [List.getElem?_toArray, List.getElem?_cons_zero, List.getElem?_cons_succ]; rfl) (by kernel_rfl) (by kernel_rfl) (by kernel_rfl) (fun _ _ _ h => h) (Or.inl ⟨by rfl, ?_⟩) (by assumption) ?_; rotate_left; (· (intro w hSw; (try dsimp only at hSw); go_simp <;> with_reducible rfl)); try simp only [Act.put, List.setIfInBounds_toArray, List.set_cons_zero, List.set_cons_succ])
      (refine wpAnyH_take (i := 27) (v := ?_) (by simp only [List.getElem?_toArray, List.getElem?_cons_zero, List.getElem?_cons_succ]; rfl) (by kernel_rfl) (by kernel_rfl) (by kernel_rfl) (fun _ _ _ h => h) (Or.inl ⟨by rfl, ?_⟩) (by assumption) ?_; rotate_left; (· (intro w hSw; (try dsimp only at hSw); go_simp <;> with_reducible rfl)); try simp only [Act.put, List.setIfInBounds_toArray, List.set_cons_zero, List.set_cons_succ])
      refine wpAnyH_ready (rs := [28]) (by kernel_rfl) (by simp) ?_
      refine AllReadyH.cons (by simp only [List.getElem?_toArray, List.getElem?_cons_zero, List.getElem?_cons_succ]; rfl) (fun K hK => ?_) AllReadyH.nil
      go_simp
      go_at_call 10
      refine (K15.out _ H5).mono ?_
      rintro e w6 ⟨rfl, H6⟩
      refine hK.out _ _ ?_ (fun hHeld => ?_)
      · exact HCL.out w6 (by obtain ⟨_, _, _, _, h⟩ := H6.out; exact h.bel)
      clear hK K
      try simp only [Act.put, List.setIfInBounds_toArray, List.set_cons_zero, List.set_cons_succ]
      (refine wpAnyH_take (i := 29) (v := ?_) (by simp only [List.getElem?_toArray, List.getElem?_cons_zero, List.getElem?_cons_succ]; rfl) (by kernel_rfl) (by kernel_rfl) (by kernel_rfl) (fun _ _ _ h => h) (Or.inl ⟨by rfl, ?_⟩) (by assumption) ?_; rotate_left; (· (intro w hSw; (try dsimp only at hSw); go_simp <;> with_reducible rfl)); try simp only [Act.put, List.setIfInBounds_toArray, List.set_cons_zero, List.set_cons_succ])
      (refine wpAnyH_take (i := 30) (v := ?_) (by simp only [List.getElem?_toArray, List.getElem?_cons_zero, List.getElem?_cons_succ]; rfl) (by kernel_rfl) (by kernel_rfl) (by kernel_rfl) (fun _ _ _ h => h) (Or.inl ⟨by rfl, ?_⟩) (by assumption) ?_; rotate_left; (· (intro w hSw; (try dsimp only at hSw); go_simp <;> with_reducible rfl)); try simp only [Act.put, List.setIfInBounds_toArray, List.set_cons_zero, List.set_cons_succ])
      refine wpAnyH_done (by kernel_rfl) ?_ _
      refine NoPanic.normal ?_
      clear hHeld H4 H5 K13 K24 K15 p0 p1 p2
      obtain ⟨G2, bs2, HE⟩ : ∃ G2 bs2, Hid (hpOf bs2 = bindH m (x1, x2) ll ∧ bs2.length ≤ k + 1 ∧ Mi w hb M rt (k + 1) (bindH m (x1, x2) ll) G2 bs2 wr.heap.size w2.heap.size ll ta tc w6) := H6.out
      clear H6
      have HW0 : Hid (Wt w6 w6 ta ll.length) := wt_of HE.out.2.2.own
      go_wp2_with fail
      go_loopw [9] (fun i wx => ∃ j : Nat, j ≤ ll.length ∧ i = .int .i64 j ∧ Hid (Wt w6 wx ta ll.length)) (fun i _ => ll.length - (intOf i).toNat)
      case atStart => exact ⟨0, Nat.zero_le _, rfl, HW0⟩
      case round =>
        clear HW0
        obtain ⟨j, hjj, rfl, HJ⟩ := hrel
        by_cases hjl : j < ll.length
        · have hjI : (j : Int) < (ll.length : Int) := by omega
          have hj0 : (0 : Int) ≤ (j : Int) := by omega
          obtain ⟨g, z, rfl, q0, q1, q2⟩ := HJ.out.at hjl
          have HN : Hid _ := q2 (.int .i64 99)
          clear q2
          go_wp2_with fail
          go_roundw
          case rel => exact ⟨j + 1, by omega, by go_num, HN⟩
          case measure => simp [intOf]; omega
        · have hjI : ¬ (j : Int) < (ll.length : Int) := by omega
          have HF : Hid (BoTo w wr hb M rt (k + 1)) := by
            obtain ⟨n2, D2, V2, G3, h⟩ := mi_end HE.out.2.2 HJ.out HE.out.1 (rises_bind HPL.out.2.1) HE.out.2.1
            exact ⟨n2, D2, _, V2, G3, bs2, h⟩
          go_wp2_with fail
          go_roundw
          case rel => exact ⟨k + 1, by omega, by go_num, HF⟩
          case measure => simp [intOf]; omega
    · have hltI : ¬ (k : Int) < (n : Int) := by omega
      obtain rfl : k = n := by omega
      go_wp2_with fail
      refine bodyPost_ret (v := .tuple #[.pointer (some ⟨hb, 0, none⟩), .pointer (some ⟨rt, 0, none⟩), .bool true]) (by simp [results, Tryz.results4, go_sem]) rfl ⟨hb, M, rt, rfl, HK.out⟩
set_option maxRecDepth 100000 in
set_option maxHeartbeats 4000000 in
theorem i14 (m : Hp) (hb M n : Nat) (D : DataW Value) (x : Nm) (l : List C) (w : World) (hH : HpAt w hb M n D m) (hx : wfN x) (hl : lookH m x = some l) (hby : l.length * 48 ≤ 140737488355328) :
    Calls Tryz.prog 5 #[.pointer (some ⟨hb, 0, none⟩), .agg #[.int .i64 x.1, .int .i64 x.2]] w fun e w' => ∃ a c, e = .returned (.tuple #[.slice a l.length c, .bool true]) ∧ Hid (TermAt w' (.slice a l.length c) l ∧ Below w.heap.size w w') := by
  obtain ⟨W, hW⟩ : ∃ W, w.alloc (.cells #[.int .i64 x.1, .int .i64 x.2] 24) = W := ⟨_, rfl⟩
  obtain ⟨vb, hvb⟩ : ∃ vb, w.heap.size = vb := ⟨_, rfl⟩
  have hbW : Below w.heap.size w W := by rw [← hW]; exact (Below.refl _ w).alloc (Nat.le_refl _) _
  have hc : W.heap[vb]? = some (.cells #[.int .i64 x.1, .int .i64 x.2] 24 (0, 0)) := by rw [← hW, ← hvb]; exact heap_alloc_new w _
  obtain ⟨v0, v1⟩ := box_cells hc
  have hvl : vb < W.heap.size := (Array.getElem?_eq_some_iff.1 hc).1
  have H30 : Calls Tryz.prog 26 #[.pointer (some ⟨hb, 0, none⟩), .agg #[.int .i64 x.1, .int .i64 x.2]] W fun e w' => e = .returned (.bool true) ∧ Hid (Below W.heap.size W w') := by
    refine (h21 m hb M n D x W (hH.below hbW) hx).mono ?_
    rintro e w' ⟨rfl, hb'⟩
    exact ⟨by rw [hl]; rfl, hb'⟩
  have HH : Hid (∀ u, Below W.heap.size W u → u.cell? ⟨hb, 0, none⟩ = some (.map (some M)) ∧ u.cell? ⟨vb, 0, none⟩ = some (.int .i64 x.1) ∧ u.cell? ⟨vb, 1, none⟩ = some (.int .i64 x.2) ∧ ∃ uv, (Instr.lookup 61 (.map (some M)) (.agg #[.int .i64 x.1, .int .i64 x.2]) false).run Tryz.prog u.drew = .ok uv u.drew ∧ Calls Tryz.prog 27 #[uv] u.drew fun e w' => ∃ a c, e = .returned (.slice a l.length c) ∧ Hid (TermAt w' (.slice a l.length c) l ∧ Below w.heap.size w w')) := fun u hu => by
    have h1 := (hH.below hbW).below hu
    have h2 := box_cells ((hu.block vb hvl).trans hc)
    have hd : Below u.heap.size u u.drew := (Below.refl _ u).drew
    have hhas : Maps.has D (kLit x) = true := by
      obtain ⟨v, k1, _⟩ := hH.yes x l hx hl
      exact Maps.has_true_of_atKey k1
    obtain ⟨uv, l', k1, k2, k3⟩ := (h1.below hd).look1 x hx hhas
    rw [hl] at k2
    cases k2
    refine ⟨h1.cell, h2.1, h2.2, uv, k1, ?_⟩
    refine (h22 l uv u.drew k3 hby).mono ?_
    rintro e w' ⟨u', rfl, q1, _, q3⟩
    obtain ⟨a, c, e⟩ := q1.form
    subst e
    have hbu : Below w.heap.size w u.drew := (hbW.trans (hu.mono hbW.size)).drew
    exact ⟨a, c, rfl, q1, hbu.trans (q3.mono hbu.size)⟩
  clear hH hl hbW hc hvl hx hby
  obtain ⟨x1, x2⟩ := x
  simp only at *
  go_enter Tryz.func5, Tryz.ntmps5
  go_wp2_with fail
  refine H30.mono ?_
  rintro e w1 ⟨rfl, HB1⟩
  clear H30 v0 v1
  obtain ⟨q0, v0, v1, uv, hlk, H25⟩ := HH.out w1 HB1.out
  go_wp2_with fail
  go_region_with (go_at_call 27; refine H25.mono ?_; rintro e w3 ⟨a3, c3, rfl, H3⟩)
  all_goals (
    go_wp2_with fail
    refine bodyPost_ret (v := .tuple #[.slice a3 l.length c3, .bool true]) (by simp [results, Tryz.results5, go_sem]) rfl ⟨a3, c3, rfl, H3⟩)
end Go.Proofs.YtgcpkkeonameeaaGreatDoor
