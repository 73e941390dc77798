/- Contract of the reference's Bind: what may be bound. -/
import Derived.Test.YtljggjllijacjaaGreatDoorQAg
import Derived.Test.YtljggjllijacjaaGreatDoorICg
namespace Go.Proofs.YtljggjllijacjaaGreatDoor
open Go.RowKit
attribute [local go_sem ↓] Go.wp_at_zero Go.wp_at_succ
set_option maxRecDepth 100000 in
set_option maxHeartbeats 16000000 in
theorem i24_var (G : Nat → Prop) (rt : Nat) (bs : List Bn) (x : Nm) (l : List C) (v : Value) (w : World) (h : RfH w G rt bs) (hT : TermAt w v l) (hbt : l.length * 48 ≤ 140737488355328) (hn : bs.length ≤ 3518437208780) (he : ¬ (x.1 < 0 ∨ oneT ⟨4, ⟨#[]⟩, 0, x.1, x.2⟩ = [] ∨ globalB l = false)) (h70 : hasB bs x = false) (h0 : isVarL l = true → lessN (varL l) x = true) (hv : isVarL l = true) :
  Calls Tryz.prog 35 #[.pointer (some ⟨rt, 0, none⟩), .agg #[.int .i64 x.1, .int .i64 x.2], v] w fun e w' => e = .returned (.int .i64 (bindE (hpOf bs) x l)) ∧ BindR w G rt bs x l w' := by
 obtain ⟨i0, hi, hz, hs3, hby⟩ := infoB
 obtain ⟨j0, hj, hjz, hjs, hjb⟩ := info60
 obtain ⟨W, hW⟩ : ∃ W, w.alloc (.cells #[.int .i64 x.1, .int .i64 x.2] 32) = W := ⟨_, rfl⟩
 obtain ⟨vb, hvb⟩ : ∃ vb, w.heap.size = vb := ⟨_, rfl⟩
 have hbW : Below w.heap.size w W := by rw [← hW]; exact (Below.refl _ w).alloc (Nat.le_refl _) _
 have hc : W.heap[vb]? = some (.cells #[.int .i64 x.1, .int .i64 x.2] 32 (0, 0)) := by rw [← hW, ← hvb]; exact heap_alloc_new w _
 have hvl : vb < W.heap.size := (Array.getElem?_eq_some_iff.1 hc).1
 obtain ⟨v0, v1⟩ := box_cells hc
 obtain ⟨ra, rc, hblk, hRs, hG⟩ := (h.below hbW).ex
 obtain ⟨n, hnn⟩ : ∃ n, bs.length = n := ⟨_, rfl⟩
 rw [hnn] at hRs hblk hn
 have HS : Hid (∀ u, Below W.heap.size W u → u.cell? ⟨rt, 0, none⟩ = some (.slice ra n rc) ∧ u.frozen? ⟨rt, 0, none⟩ = false ∧ u.cell? ⟨vb, 0, none⟩ = some (.int .i64 x.1) ∧ u.cell? ⟨vb, 1, none⟩ = some (.int .i64 x.2) ∧ Bs u ra n bs) := fun u hu => by
  have hrl : rt < W.heap.size := (Array.getElem?_eq_some_iff.1 hblk).1
  have k1 := (hu.block rt hrl).trans hblk
  have k2 := box_cells ((hu.block vb hvl).trans hc)
  exact ⟨by rw [cell_of_row u rt 0 _ 57 (0, 0) k1]; rfl, frozen_of_row u rt 0 _ 57 k1, k2.1, k2.2, hRs.keeps fun g hg => hu.block g ((h.below hbW).lt g (hG g hg))⟩
 have H38 : Calls Tryz.prog 72 #[.agg #[.int .i64 x.1, .int .i64 x.2]] W fun e w' => ∃ a c, e = .returned (.slice a (oneT ⟨4, ⟨#[]⟩, 0, x.1, x.2⟩).length c) ∧ Hid (Below W.heap.size W w') := by
  refine (c19 x.1 x.2 W).mono ?_
  rintro e w' ⟨u, rfl, h1, h2⟩
  obtain ⟨a, c, e⟩ := h1.form
  exact ⟨a, c, by rw [e], h2⟩
 have H39 : Hid (∀ u, Below W.heap.size W u → Calls Tryz.prog 44 #[v] u fun e w' => e = .returned (.bool (globalB l)) ∧ Hid (Below W.heap.size W w')) := fun u hu => by
  refine (c37 l v u ((hT.below hbW).below hu)).mono ?_
  rintro e w' ⟨rfl, hb⟩
  exact ⟨by rw [global_same], hu.trans (hb.mono hu.size)⟩
 have H40 : Hid (∀ u, Below W.heap.size W u → Calls Tryz.prog 73 #[.pointer (some ⟨rt, 0, none⟩), .agg #[.int .i64 x.1, .int .i64 x.2]] u fun e w' => ∃ i : Int, e = .returned (.int .i64 i) ∧ Hid (decide (i ≥ 0) = hasB bs x) ∧ Hid (Below W.heap.size W w')) := fun u hu => by
  refine (i40 G rt bs x u ((h.below hbW).below hu) (by omega)).mono ?_
  rintro e w' ⟨i, rfl, h1, hb⟩
  exact ⟨i, rfl, h1, hu.trans (hb.mono hu.size)⟩
 have hk0 : (oneT ⟨4, ⟨#[]⟩, 0, x.1, x.2⟩).length = 1 := by
  have : oneT ⟨4, ⟨#[]⟩, 0, x.1, x.2⟩ ≠ [] := fun e => he (.inr (.inl e))
  unfold oneT at this ⊢
  split
  ·rfl
  ·next e => rw [if_neg e] at this; exact absurd rfl this
 have hx : ¬ x.1 < 0 := fun e => he (.inl e)
 have hgl : globalB l = true := by
  cases e : globalB l
  ·exact absurd (.inr (.inr e)) he
  ·rfl
 rw [hk0] at H38
 have hrl : rightB l = true := by unfold globalB at hgl; simp only [Bool.and_eq_true] at hgl; exact hgl.2
 have hl1 := right_len hrl
 obtain ⟨tb, to, tcap, rfl, hrg, htb⟩ : ∃ tb to tcap, v = .slice (some ⟨tb, to, none⟩) l.length tcap ∧ w.rangeAt tb to (flat l) ∧ tb < w.heap.size := by
  rcases hT.2 with ⟨e, _⟩ | ⟨b, o, cap, h1, _, _, h3, h4⟩
  ·rw [e] at hl1; simp at hl1
  ·exact ⟨b, o, cap, h1, h3, h4⟩
 have HTC : Hid (∀ u, Below W.heap.size W u → ∀ j z, (flat l)[j]? = some z → u.cell? ((⟨tb, to, none⟩ : Addr).add j) = some z) := fun u hu j z hz => by
  rw [Addr.add_mid]
  exact range_below hrg htb (hbW.trans (hu.mono hbW.size)) j z hz
 have HFL : Hid ((flat l).length = l.length * 5) := by show _ = _; rw [flat_length]; omega
 obtain ⟨ck, cn, cv, ct, cm, hcc⟩ : ∃ ck cn cv ct cm, l[0]'(by omega) = ⟨ck, ct, cm, cn, cv⟩ := ⟨_, _, _, _, _, rfl⟩
 have HCC : Hid (l[0]'(by omega) = ⟨ck, ct, cm, cn, cv⟩) := hcc
 clear hcc
 have HT0 : Hid (∀ u, Below W.heap.size W u → u.cell? ⟨tb, to, none⟩ = some (.int .u8 ck) ∧ u.cell? ⟨tb, to + 3, none⟩ = some (.int .i64 cn) ∧ u.cell? ⟨tb, to + 4, none⟩ = some (.int .i64 cv)) := fun u hu => by
  obtain ⟨z0, _, _, z3, z4⟩ := term_cells (range_below hrg htb (hbW.trans (hu.mono hbW.size))) 0 (by omega)
  rw [HCC.out] at z0 z3 z4
  exact ⟨by simpa using z0, by simpa using z3, by simpa using z4⟩
 have hlN : 0 < l.length := by omega
 have hl256 : l.length ≤ 256 := hl1.2
 have HV : Hid ((ck = 4 → isVarL l = true ∧ varL l = (cn, cv)) ∧ (ck ≠ 4 → isVarL l = false)) := by
  cases l with
  | nil => simp at hl1
  | cons c r =>
   have hcc := HCC.out
   simp only [List.getElem_cons_zero] at hcc
   refine ⟨fun e => ?_, fun e => ?_⟩
   ·have hck : c.k = 4 := by rw [hcc]; exact e
    have := var_one hrl hck
    subst this
    exact ⟨by simp [isVarL, hck], by rw [hcc]; rfl⟩
   ·have hck : c.k ≠ 4 := by rw [hcc]; exact e
    cases r with
    | nil => simp [isVarL, hck]
    | cons d t => rfl
 have H10 : Hid (∀ (y1 y2 : Int) (z u : World), Below z.heap.size z u → Calls Tryz.prog 28 #[.agg #[.int .i64 x.1, .int .i64 x.2], .agg #[.int .i64 y1, .int .i64 y2]] u fun e w' => e = .returned (.bool (lsB x.1 x.2 y1 y2)) ∧ Hid (Below z.heap.size z w')) := fun y1 y2 z u hu => by
  refine (i10 x.1 x.2 y1 y2 u).mono ?_
  rintro e w' ⟨rfl, hb⟩
  exact ⟨rfl, hu.trans (hb.mono hu.size)⟩
 have H10v : Hid (∀ (z u : World), Below z.heap.size z u → Calls Tryz.prog 28 #[.agg #[.int .i64 cn, .int .i64 cv], .agg #[.int .i64 x.1, .int .i64 x.2]] u fun e w' => e = .returned (.bool (lsB cn cv x.1 x.2)) ∧ Hid (Below z.heap.size z w')) := fun z u hu => by
  refine (i10 cn cv x.1 x.2 u).mono ?_
  rintro e w' ⟨rfl, hb⟩
  exact ⟨rfl, hu.trans (hb.mono hu.size)⟩
 have HL : Hid (RfH w G rt bs ∧ Below w.heap.size w W ∧ TermAt w (.slice (some ⟨tb, to, none⟩) l.length tcap) l ∧ bs.length = n ∧ bindE (hpOf bs) x l = 0) := ⟨h, hbW, hT, hnn, bindE_0 he h70 h0⟩
 have HBE : Hid (bindE (hpOf bs) x l = 0) := bindE_0 he h70 h0
 have hck : ck = 4 := by
  by_cases e : ck = 4
  ·exact e
  ·have := HV.out.2 e; rw [hv] at this; cases this
 have hls : lsB cn cv x.1 x.2 = true := by
  have h1 := h0 hv
  rw [(HV.out.1 hck).2] at h1
  exact (lsB_N (cn, cv) x).trans h1
 rw [hls] at H10v
 subst hck
 rw [h70] at H40
 clear hls h0 hv HV
 clear h hT hbt he hbW hc hvl hblk hRs hG hk0 hnn h70 hrl HCC hl1 hrg htb
 obtain ⟨x1, x2⟩ := x
 simp only at *
 go_enter Tryz.func35, Tryz.ntmps35
 go_wp2_with fail
 refine H38.mono ?_
 rintro e w1 ⟨a1, c1, rfl, HB1⟩
 clear v0 v1 H38
 obtain ⟨_, _, v0, v1, _⟩ := HS.out w1 HB1.out
 have H39' := H39.out w1 HB1.out
 rw [hgl] at H39'
 clear hgl
 go_wp2_with fail
 refine H39'.mono ?_
 rintro e w1b ⟨rfl, HB1b⟩
 clear v0 v1 H39'
 obtain ⟨_, _, v0, v1, _⟩ := HS.out w1b HB1b.out
 go_wp2_with fail
 refine (H40.out _ HB1b.out).mono ?_
 rintro e w2 ⟨i, rfl, HI, HB2⟩
 have hi0 : ¬ i ≥ 0 := of_decide_eq_false HI.out
 clear v0 v1 HI H39 H40
 go_wp2_with fail
 refine wp_region_noPanic ?_
 refine wp_region_held_drew (S := fun u => u.cell? ⟨tb, to, none⟩ = some (.int .u8 4) ∧ u.cell? ⟨tb, to + 3, none⟩ = some (.int .i64 cn) ∧ u.cell? ⟨tb, to + 4, none⟩ = some (.int .i64 cv) ∧ u.cell? ⟨vb, 0, none⟩ = some (.int .i64 x1) ∧ u.cell? ⟨vb, 1, none⟩ = some (.int .i64 x2)) (by kernel_rfl) ((by obtain ⟨_, _, z1, z2, _⟩ := HS.out _ (below_dN HB2.out 1); obtain ⟨d0, d1, d2⟩ := HT0.out _ (below_dN HB2.out 1); exact ⟨d0, d1, d2, z1, z2⟩)) (fun hHeld => ?_)
 (refine wpAnyH_take (i := 0) (v := ?_) (by simp only [qA, qB]; rfl) (by kernel_rfl) (by kernel_rfl) (by kernel_rfl) (fun _ _ _ h => h) (Or.inl ⟨by rfl, ?_⟩) (by assumption) ?_; rotate_left; (· (intro w hSw; (try dsimp only at hSw); go_simp <;> with_reducible rfl)); try simp only [Act.put, qD, qE, qF])
 (refine wpAnyH_take (i := 1) (v := ?_) (by simp only [qA, qB, qC]; rfl) (by kernel_rfl) (by kernel_rfl) (by kernel_rfl) (fun _ _ _ h => h) (Or.inl ⟨by rfl, ?_⟩) (by assumption) ?_; rotate_left; (· (intro w hSw; (try dsimp only at hSw); go_simp <;> with_reducible rfl)); try simp only [Act.put, qD, qE, qF])
 (refine wpAnyH_take (i := 2) (v := ?_) (by simp only [qA, qB, qC]; rfl) (by kernel_rfl) (by kernel_rfl) (by kernel_rfl) (fun _ _ _ h => h) (Or.inl ⟨by rfl, ?_⟩) (by assumption) ?_; rotate_left; (· (intro w hSw; (try dsimp only at hSw); go_simp <;> with_reducible rfl)); try simp only [Act.put, qD, qE, qF])
 (refine wpAnyH_take (i := 3) (v := ?_) (by simp only [qA, qB, qC]; rfl) (by kernel_rfl) (by kernel_rfl) (by kernel_rfl) (fun _ _ _ h => h) (Or.inl ⟨by rfl, ?_⟩) (by assumption) ?_; rotate_left; (· (intro w hSw; (try dsimp only at hSw); go_simp <;> with_reducible rfl)); try simp only [Act.put, qD, qE, qF])
 (refine wpAnyH_take (i := 4) (v := ?_) (by simp only [qA, qB, qC]; rfl) (by kernel_rfl) (by kernel_rfl) (by kernel_rfl) (fun _ _ _ h => h) (Or.inl ⟨by rfl, ?_⟩) (by assumption) ?_; rotate_left; (· (intro w hSw; (try dsimp only at hSw); go_simp <;> with_reducible rfl)); try simp only [Act.put, qD, qE, qF])
 (refine wpAnyH_take (i := 5) (v := ?_) (by simp only [qA, qB, qC]; rfl) (by kernel_rfl) (by kernel_rfl) (by kernel_rfl) (fun _ _ _ h => h) (Or.inl ⟨by rfl, ?_⟩) (by assumption) ?_; rotate_left; (· (intro w hSw; (try dsimp only at hSw); go_simp <;> with_reducible rfl)); try simp only [Act.put, qD, qE, qF])
 (refine wpAnyH_take (i := 6) (v := ?_) (by simp only [qA, qB, qC]; rfl) (by kernel_rfl) (by kernel_rfl) (by kernel_rfl) (fun _ _ _ h => h) (Or.inl ⟨by rfl, ?_⟩) (by assumption) ?_; rotate_left; (· (intro w hSw; (try dsimp only at hSw); go_simp <;> with_reducible rfl)); try simp only [Act.put, qD, qE, qF])
 (refine wpAnyH_take (i := 7) (v := ?_) (by simp only [qA, qB, qC]; rfl) (by kernel_rfl) (by kernel_rfl) (by kernel_rfl) (fun _ _ _ h => h) (Or.inl ⟨by rfl, ?_⟩) (by assumption) ?_; rotate_left; (· (intro w hSw; (try dsimp only at hSw); go_simp <;> with_reducible rfl)); try simp only [Act.put, qD, qE, qF])
 (refine wpAnyH_take (i := 8) (v := ?_) (by simp only [qA, qB, qC]; rfl) (by kernel_rfl) (by kernel_rfl) (by kernel_rfl) (fun _ _ _ h => h) (Or.inl ⟨by rfl, ?_⟩) (by assumption) ?_; rotate_left; (· (intro w hSw; (try dsimp only at hSw); go_simp <;> with_reducible rfl)); try simp only [Act.put, qD, qE, qF])
 (refine wpAnyH_take (i := 9) (v := ?_) (by simp only [qA, qB, qC]; rfl) (by kernel_rfl) (by kernel_rfl) (by kernel_rfl) (fun _ _ _ h => h) (Or.inl ⟨by rfl, ?_⟩) (by assumption) ?_; rotate_left; (· (intro w hSw; (try dsimp only at hSw); go_simp <;> with_reducible rfl)); try simp only [Act.put, qD, qE, qF])
 (refine wpAnyH_take (i := 10) (v := ?_) (by simp only [qA, qB, qC]; rfl) (by kernel_rfl) (by kernel_rfl) (by kernel_rfl) (fun _ _ _ h => h) (Or.inl ⟨by rfl, ?_⟩) (by assumption) ?_; rotate_left; (· (intro w hSw; (try dsimp only at hSw); go_simp <;> with_reducible rfl)); try simp only [Act.put, qD, qE, qF])
 refine wpAnyH_ready (rs := [11]) (by kernel_rfl) (by simp) ?_
 refine AllReadyH.cons (by simp only [qA, qB, qC]; rfl) (fun K hK => ?_) AllReadyH.nil
 go_simp
 go_at_call 28
 refine (H10v.out w2 _ (by first | exact Below.refl _ _ | exact (Below.refl _ _).drew | exact below_dN (Below.refl _ _) _)).mono ?_
 rintro e w2b ⟨rfl, HB2b⟩
 refine hK.out _ _ ?_ (fun hHeld => ?_)
 ·exact (by obtain ⟨_, _, z1, z2, _⟩ := HS.out w2b (HB2.out.trans (HB2b.out.mono HB2.out.size)); obtain ⟨d0, d1, d2⟩ := HT0.out w2b (HB2.out.trans (HB2b.out.mono HB2.out.size)); exact ⟨d0, d1, d2, z1, z2⟩)
 clear hK K
 try simp only [Act.put, qD, qE, qF]
 (refine wpAnyH_take (i := 12) (v := ?_) (by simp only [qA, qB, qC]; rfl) (by kernel_rfl) (by kernel_rfl) (by kernel_rfl) (fun _ _ _ h => h) (Or.inl ⟨by rfl, ?_⟩) (by assumption) ?_; rotate_left; (· (intro w hSw; (try dsimp only at hSw); go_simp <;> with_reducible rfl)); try simp only [Act.put, qD, qE, qF])
 (refine wpAnyH_take (i := 13) (v := ?_) (by simp only [qA, qB, qC]; rfl) (by kernel_rfl) (by kernel_rfl) (by kernel_rfl) (fun _ _ _ h => h) (Or.inl ⟨by rfl, ?_⟩) (by assumption) ?_; rotate_left; (· (intro w hSw; (try dsimp only at hSw); go_simp <;> with_reducible rfl)); try simp only [Act.put, qD, qE, qF])
 (refine wpAnyH_take (i := 14) (v := ?_) (by simp only [qA, qB, qC]; rfl) (by kernel_rfl) (by kernel_rfl) (by kernel_rfl) (fun _ _ _ h => h) (Or.inl ⟨by rfl, ?_⟩) (by assumption) ?_; rotate_left; (· (intro w hSw; (try dsimp only at hSw); go_simp <;> with_reducible rfl)); try simp only [Act.put, qD, qE, qF])
 refine wpAnyH_done (by kernel_rfl) ?_ _
 refine NoPanic.normal ?_
 clear hHeld
 have HBx : Hid (Below W.heap.size W w2b) := HB2.out.trans (HB2b.out.mono HB2.out.size)
 clear HB2 HB2b H10v
 go_wp2_with (at_builtin; refine wpList_append_own _ rfl _ _ 24 rfl w2b.heap.size 78 j0 zero60 5 48 Tryz.underlying24 hj hjz hjs hjb rfl (by decide) (.slice none 0 0) 0 [] rfl (World.ownsRow_nil _ _ _ _) ⟨tb, to, none⟩ l.length tcap (flat l) rfl HFL.out (HTC.out w2b HBx.out) (flat_one _) (by unfold maxLen; omega) (by omega) (Nat.le_refl _) ?_)
 intro ov w3 ho3 hg3 _
 obtain ⟨oa, oc, rfl, HOV⟩ : ∃ oa oc, ov = .slice oa l.length oc ∧ Hid (TermAt w3 (.slice oa l.length oc) l ∧ (∀ g, (Value.slice oa l.length oc).ownBlock = some g → w.heap.size ≤ g ∧ g < w3.heap.size) ∧ Below w2b.heap.size w2b w3) := by
  have ho3' : w3.ownsRow w2b.heap.size 78 5 ov l.length (flat l) := by simpa using ho3
  obtain ⟨oa, oc, e, h1, _⟩ := own_sl ho3'
  refine ⟨oa, oc, e, ?_⟩
  subst e
  have hb3 : Below w2b.heap.size w2b w3 := ⟨hg3.os, hg3.tape, hg3.output, hg3.size, fun k hk => hg3.block k hk (by simp [Value.ownBlock])⟩
  have hbw : Below w.heap.size w w2b := HL.out.2.1.trans (HBx.out.mono HL.out.2.1.size)
  refine ⟨ownT_term (base := w2b.heap.size) ho3' HL.out.2.2.1.1.1 HL.out.2.2.1.1.2, fun g hg => ?_, hb3⟩
  have hg' : bkA oa = some g := by
   cases oa with
   | none => cases hg
   | some ad => simpa [Value.ownBlock, bkA] using hg
  exact ⟨Nat.le_trans hbw.size (h1 g hg').1, (h1 g hg').2⟩
 clear ho3 hg3
 have HB3 : Hid (Below W.heap.size W w3) := HBx.out.trans (HOV.out.2.2.mono HBx.out.size)
 go_wp2_with fail
 go_loopw [7, 9, 10] (fun lv bv i wr => ∃ (k : Nat) (bb : Bool) (pre : List Bn), k ≤ n ∧ i = .int .i64 k ∧ bv = .bool bb ∧ Hid (WB (⟨(x1, x2), oa, l.length, oc, l⟩ : Bn) bs w3 wr lv k bb pre)) (fun _ _ i _ => n - (intOf i).toNat)
 case atStart => exact ⟨0, false, [], Nat.zero_le _, rfl, rfl, World.ownsRow_nil _ _ _ _, Below.refl _ _, by simp [restB], by simp⟩
 case round =>
  obtain ⟨k, bb, pre, hk, rfl, rfl, HK⟩ := hrel
  have HBk : Hid (Below W.heap.size W wr) := HB3.out.trans (HK.out.2.1.mono HB3.out.size)
  obtain ⟨q0, f0, v0, v1, hBs⟩ := HS.out wr HBk.out
  by_cases hlt : k < n
  ·have hlt1 : (k : Int) < (n : Int) := by omega
   have hk0 : (0 : Int) ≤ (k : Int) := by omega
   obtain ⟨b1, o1, hk1, rfl, hbl, c0', c1', c2'⟩ := hBs.at hlt
   have HD : Hid _ := insB_drop (⟨(x1, x2), oa, l.length, oc, l⟩ : Bn) bs k hk1
   have HLS := H10.out bs[k].x.1 bs[k].x.2 wr
   have HC : Hid (∀ u, Below W.heap.size W u → u.cell? ⟨rt, 0, none⟩ = some (.slice (some ⟨b1, o1, none⟩) n rc) ∧ u.cell? ⟨b1, o1 + k * 3, none⟩ = some (.int .i64 bs[k].x.1) ∧ u.cell? ⟨b1, o1 + k * 3 + 1, none⟩ = some (.int .i64 bs[k].x.2) ∧ u.cell? ⟨b1, o1 + k * 3 + 2, none⟩ = some (.slice bs[k].a bs[k].n bs[k].c) ∧ u.cell? ⟨vb, 0, none⟩ = some (.int .i64 x1) ∧ u.cell? ⟨vb, 1, none⟩ = some (.int .i64 x2)) := fun u hu => by
    obtain ⟨z0, _, z1, z2, z3⟩ := HS.out u hu
    obtain ⟨b2, o2, _, e, _, d0, d1, d2⟩ := z3.at hlt
    cases e
    exact ⟨z0, d0, d1, d2, z1, z2⟩
   generalize bs[k] = q at *
   obtain ⟨⟨y1, y2⟩, qa, qn, qc, ql⟩ := q
   simp only at c0' c1' c2' HD HLS HC
   clear hk1 hBs hbl f0
   cases bb
   ·have hpl : pre.length ≤ k := HK.out.2.2.2
    cases hLs : lsB x1 x2 y1 y2
    ·rw [hLs] at HLS
     have HE : Hid (insB (⟨(x1, x2), oa, l.length, oc, l⟩ : Bn) bs = (pre ++ [(⟨(y1, y2), qa, qn, qc, ql⟩ : Bn)]) ++ restB false (⟨(x1, x2), oa, l.length, oc, l⟩ : Bn) (bs.drop (k + 1))) := by
      show _ = _
      rw [HK.out.2.2.1]; simp only [restB, Bool.false_eq_true, if_false, HD.out.2.1 hLs]; simp
     clear HD hLs
     go_wp2_with fail
     refine wp_region_noPanic ?_
     refine wp_region_held_drew (S := fun u => u.cell? ⟨rt, 0, none⟩ = some (.slice (some ⟨b1, o1, none⟩) n rc) ∧ u.cell? ⟨b1, o1 + k * 3, none⟩ = some (.int .i64 y1) ∧ u.cell? ⟨b1, o1 + k * 3 + 1, none⟩ = some (.int .i64 y2) ∧ u.cell? ⟨vb, 0, none⟩ = some (.int .i64 x1) ∧ u.cell? ⟨vb, 1, none⟩ = some (.int .i64 x2)) (by kernel_rfl) (⟨q0, c0', c1', v0, v1⟩) (fun hHeld => ?_)
     (refine wpAnyH_take (i := 0) (v := ?_) (by simp only [qA, qB]; rfl) (by kernel_rfl) (by kernel_rfl) (by kernel_rfl) (fun _ _ _ h => h) (Or.inl ⟨by rfl, ?_⟩) (by assumption) ?_; rotate_left; (· (intro w hSw; (try dsimp only at hSw); go_simp <;> with_reducible rfl)); try simp only [Act.put, qD, qE, qF])
     (refine wpAnyH_take (i := 1) (v := ?_) (by simp only [qA, qB, qC]; rfl) (by kernel_rfl) (by kernel_rfl) (by kernel_rfl) (fun _ _ _ h => h) (Or.inl ⟨by rfl, ?_⟩) (by assumption) ?_; rotate_left; (· (intro w hSw; (try dsimp only at hSw); go_simp <;> with_reducible rfl)); try simp only [Act.put, qD, qE, qF])
     (refine wpAnyH_take (i := 2) (v := ?_) (by simp only [qA, qB, qC]; rfl) (by kernel_rfl) (by kernel_rfl) (by kernel_rfl) (fun _ _ _ h => h) (Or.inl ⟨by rfl, ?_⟩) (by assumption) ?_; rotate_left; (· (intro w hSw; (try dsimp only at hSw); go_simp <;> with_reducible rfl)); try simp only [Act.put, qD, qE, qF])
     (refine wpAnyH_take (i := 3) (v := ?_) (by simp only [qA, qB, qC]; rfl) (by kernel_rfl) (by kernel_rfl) (by kernel_rfl) (fun _ _ _ h => h) (Or.inl ⟨by rfl, ?_⟩) (by assumption) ?_; rotate_left; (· (intro w hSw; (try dsimp only at hSw); go_simp <;> with_reducible rfl)); try simp only [Act.put, qD, qE, qF])
     (refine wpAnyH_take (i := 4) (v := ?_) (by simp only [qA, qB, qC]; rfl) (by kernel_rfl) (by kernel_rfl) (by kernel_rfl) (fun _ _ _ h => h) (Or.inl ⟨by rfl, ?_⟩) (by assumption) ?_; rotate_left; (· (intro w hSw; (try dsimp only at hSw); go_simp <;> with_reducible rfl)); try simp only [Act.put, qD, qE, qF])
     (refine wpAnyH_take (i := 5) (v := ?_) (by simp only [qA, qB, qC]; rfl) (by kernel_rfl) (by kernel_rfl) (by kernel_rfl) (fun _ _ _ h => h) (Or.inl ⟨by rfl, ?_⟩) (by assumption) ?_; rotate_left; (· (intro w hSw; (try dsimp only at hSw); go_simp <;> with_reducible rfl)); try simp only [Act.put, qD, qE, qF])
     (refine wpAnyH_take (i := 6) (v := ?_) (by simp only [qA, qB, qC]; rfl) (by kernel_rfl) (by kernel_rfl) (by kernel_rfl) (fun _ _ _ h => h) (Or.inl ⟨by rfl, ?_⟩) (by assumption) ?_; rotate_left; (· (intro w hSw; (try dsimp only at hSw); go_simp <;> with_reducible rfl)); try simp only [Act.put, qD, qE, qF])
     (refine wpAnyH_take (i := 7) (v := ?_) (by simp only [qA, qB, qC]; rfl) (by kernel_rfl) (by kernel_rfl) (by kernel_rfl) (fun _ _ _ h => h) (Or.inl ⟨by rfl, ?_⟩) (by assumption) ?_; rotate_left; (· (intro w hSw; (try dsimp only at hSw); go_simp <;> with_reducible rfl)); try simp only [Act.put, qD, qE, qF])
     (refine wpAnyH_take (i := 8) (v := ?_) (by simp only [qA, qB, qC]; rfl) (by kernel_rfl) (by kernel_rfl) (by kernel_rfl) (fun _ _ _ h => h) (Or.inl ⟨by rfl, ?_⟩) (by assumption) ?_; rotate_left; (· (intro w hSw; (try dsimp only at hSw); go_simp <;> with_reducible rfl)); try simp only [Act.put, qD, qE, qF])
     (refine wpAnyH_take (i := 9) (v := ?_) (by simp only [qA, qB, qC]; rfl) (by kernel_rfl) (by kernel_rfl) (by kernel_rfl) (fun _ _ _ h => h) (Or.inl ⟨by rfl, ?_⟩) (by assumption) ?_; rotate_left; (· (intro w hSw; (try dsimp only at hSw); go_simp <;> with_reducible rfl)); try simp only [Act.put, qD, qE, qF])
     (refine wpAnyH_take (i := 10) (v := ?_) (by simp only [qA, qB, qC]; rfl) (by kernel_rfl) (by kernel_rfl) (by kernel_rfl) (fun _ _ _ h => h) (Or.inl ⟨by rfl, ?_⟩) (by assumption) ?_; rotate_left; (· (intro w hSw; (try dsimp only at hSw); go_simp <;> with_reducible rfl)); try simp only [Act.put, qD, qE, qF])
     (refine wpAnyH_take (i := 11) (v := ?_) (by simp only [qA, qB, qC]; rfl) (by kernel_rfl) (by kernel_rfl) (by kernel_rfl) (fun _ _ _ h => h) (Or.inl ⟨by rfl, ?_⟩) (by assumption) ?_; rotate_left; (· (intro w hSw; (try dsimp only at hSw); go_simp <;> with_reducible rfl)); try simp only [Act.put, qD, qE, qF])
     refine wpAnyH_ready (rs := [12]) (by kernel_rfl) (by simp) ?_
     refine AllReadyH.cons (by simp only [qA, qB, qC]; rfl) (fun K hK => ?_) AllReadyH.nil
     go_simp
     go_at_call 28
     refine (HLS _ (by first | exact Below.refl _ _ | exact (Below.refl _ _).drew | exact below_dN (Below.refl _ _) _)).mono ?_
     rintro e w4 ⟨rfl, H4⟩
     refine hK.out _ _ ?_ (fun hHeld => ?_)
     ·exact (by obtain ⟨z0, z1, z2, _, z4, z5⟩ := HC.out w4 (HBk.out.trans (H4.out.mono HBk.out.size)); exact ⟨z0, z1, z2, z4, z5⟩)
     clear hK K
     try simp only [Act.put, qD, qE, qF]
     (refine wpAnyH_take (i := 13) (v := ?_) (by simp only [qA, qB, qC]; rfl) (by kernel_rfl) (by kernel_rfl) (by kernel_rfl) (fun _ _ _ h => h) (Or.inl ⟨by rfl, ?_⟩) (by assumption) ?_; rotate_left; (· (intro w hSw; (try dsimp only at hSw); go_simp <;> with_reducible rfl)); try simp only [Act.put, qD, qE, qF])
     refine wpAnyH_done (by kernel_rfl) ?_ _
     refine NoPanic.normal ?_
     clear hHeld q0 v0 v1 c0' c1' c2'
     obtain ⟨q0, c0', c1', c2', v0, v1⟩ := HC.out w4 (HBk.out.trans (H4.out.mono HBk.out.size))
     have HW : Hid (WB (⟨(x1, x2), oa, l.length, oc, l⟩ : Bn) bs w3 (w4.alloc (.cells #[.int .i64 y1, .int .i64 y2, .slice qa qn qc] 73)) _ k false pre) := (HK.out.below H4.out).below ((Below.refl _ w4).alloc (Nat.le_refl _) _)
     go_wp2_with (at_builtin; refine wpList_append_own _ rfl _ _ 22 rfl w3.heap.size 73 i0 _ 3 40 Tryz.underlying22 hi hz hs3 hby rfl (by decide) _ _ _ rfl HW.out.1 ⟨w4.heap.size, 0, none⟩ 1 1 (encB (⟨(y1, y2), qa, qn, qc, ql⟩ : Bn)) rfl rfl (new_bn w4 (⟨(y1, y2), qa, qn, qc, ql⟩ : Bn)) (one_bn _) (by unfold maxLen; omega) (by omega) HW.out.2.1.size ?_)
     intro v' w' hown hgr _
     have HF : Hid (WB (⟨(x1, x2), oa, l.length, oc, l⟩ : Bn) bs w3 w' v' (k + 1) false (pre ++ [(⟨(y1, y2), qa, qn, qc, ql⟩ : Bn)])) := HW.out.more hown hgr HE.out (by simp only [cond]; omega)
     clear hown hgr
     go_wp2_with fail
     go_roundw
     case rel => exact ⟨k + 1, false, pre ++ [(⟨(y1, y2), qa, qn, qc, ql⟩ : Bn)], by omega, by go_num, rfl, HF⟩
     case measure => simp [intOf]; omega
    ·rw [hLs] at HLS
     have HE : Hid (insB (⟨(x1, x2), oa, l.length, oc, l⟩ : Bn) bs = ((pre ++ [(⟨(x1, x2), oa, l.length, oc, l⟩ : Bn)]) ++ [(⟨(y1, y2), qa, qn, qc, ql⟩ : Bn)]) ++ restB true (⟨(x1, x2), oa, l.length, oc, l⟩ : Bn) (bs.drop (k + 1))) := by
      show _ = _
      rw [HK.out.2.2.1]; simp only [restB, Bool.false_eq_true, if_false, if_true, HD.out.1 hLs]; simp
     have HE0 : Hid (insB (⟨(x1, x2), oa, l.length, oc, l⟩ : Bn) bs = (pre ++ [(⟨(x1, x2), oa, l.length, oc, l⟩ : Bn)]) ++ restB true (⟨(x1, x2), oa, l.length, oc, l⟩ : Bn) (bs.drop k)) := by
      show _ = _
      have a1 := HD.out.1 hLs
      have a2 := HD.out.2.2
      rw [HK.out.2.2.1]
      simp only [restB, Bool.false_eq_true, if_false, if_true]
      rw [a1, a2]; simp
     clear HD hLs
     go_wp2_with fail
     refine wp_region_noPanic ?_
     refine wp_region_held_drew (S := fun u => u.cell? ⟨rt, 0, none⟩ = some (.slice (some ⟨b1, o1, none⟩) n rc) ∧ u.cell? ⟨b1, o1 + k * 3, none⟩ = some (.int .i64 y1) ∧ u.cell? ⟨b1, o1 + k * 3 + 1, none⟩ = some (.int .i64 y2) ∧ u.cell? ⟨vb, 0, none⟩ = some (.int .i64 x1) ∧ u.cell? ⟨vb, 1, none⟩ = some (.int .i64 x2)) (by kernel_rfl) (⟨q0, c0', c1', v0, v1⟩) (fun hHeld => ?_)
     (refine wpAnyH_take (i := 0) (v := ?_) (by simp only [qA, qB]; rfl) (by kernel_rfl) (by kernel_rfl) (by kernel_rfl) (fun _ _ _ h => h) (Or.inl ⟨by rfl, ?_⟩) (by assumption) ?_; rotate_left; (· (intro w hSw; (try dsimp only at hSw); go_simp <;> with_reducible rfl)); try simp only [Act.put, qD, qE, qF])
     (refine wpAnyH_take (i := 1) (v := ?_) (by simp only [qA, qB, qC]; rfl) (by kernel_rfl) (by kernel_rfl) (by kernel_rfl) (fun _ _ _ h => h) (Or.inl ⟨by rfl, ?_⟩) (by assumption) ?_; rotate_left; (· (intro w hSw; (try dsimp only at hSw); go_simp <;> with_reducible rfl)); try simp only [Act.put, qD, qE, qF])
     (refine wpAnyH_take (i := 2) (v := ?_) (by simp only [qA, qB, qC]; rfl) (by kernel_rfl) (by kernel_rfl) (by kernel_rfl) (fun _ _ _ h => h) (Or.inl ⟨by rfl, ?_⟩) (by assumption) ?_; rotate_left; (· (intro w hSw; (try dsimp only at hSw); go_simp <;> with_reducible rfl)); try simp only [Act.put, qD, qE, qF])
     (refine wpAnyH_take (i := 3) (v := ?_) (by simp only [qA, qB, qC]; rfl) (by kernel_rfl) (by kernel_rfl) (by kernel_rfl) (fun _ _ _ h => h) (Or.inl ⟨by rfl, ?_⟩) (by assumption) ?_; rotate_left; (· (intro w hSw; (try dsimp only at hSw); go_simp <;> with_reducible rfl)); try simp only [Act.put, qD, qE, qF])
     (refine wpAnyH_take (i := 4) (v := ?_) (by simp only [qA, qB, qC]; rfl) (by kernel_rfl) (by kernel_rfl) (by kernel_rfl) (fun _ _ _ h => h) (Or.inl ⟨by rfl, ?_⟩) (by assumption) ?_; rotate_left; (· (intro w hSw; (try dsimp only at hSw); go_simp <;> with_reducible rfl)); try simp only [Act.put, qD, qE, qF])
     (refine wpAnyH_take (i := 5) (v := ?_) (by simp only [qA, qB, qC]; rfl) (by kernel_rfl) (by kernel_rfl) (by kernel_rfl) (fun _ _ _ h => h) (Or.inl ⟨by rfl, ?_⟩) (by assumption) ?_; rotate_left; (· (intro w hSw; (try dsimp only at hSw); go_simp <;> with_reducible rfl)); try simp only [Act.put, qD, qE, qF])
     (refine wpAnyH_take (i := 6) (v := ?_) (by simp only [qA, qB, qC]; rfl) (by kernel_rfl) (by kernel_rfl) (by kernel_rfl) (fun _ _ _ h => h) (Or.inl ⟨by rfl, ?_⟩) (by assumption) ?_; rotate_left; (· (intro w hSw; (try dsimp only at hSw); go_simp <;> with_reducible rfl)); try simp only [Act.put, qD, qE, qF])
     (refine wpAnyH_take (i := 7) (v := ?_) (by simp only [qA, qB, qC]; rfl) (by kernel_rfl) (by kernel_rfl) (by kernel_rfl) (fun _ _ _ h => h) (Or.inl ⟨by rfl, ?_⟩) (by assumption) ?_; rotate_left; (· (intro w hSw; (try dsimp only at hSw); go_simp <;> with_reducible rfl)); try simp only [Act.put, qD, qE, qF])
     (refine wpAnyH_take (i := 8) (v := ?_) (by simp only [qA, qB, qC]; rfl) (by kernel_rfl) (by kernel_rfl) (by kernel_rfl) (fun _ _ _ h => h) (Or.inl ⟨by rfl, ?_⟩) (by assumption) ?_; rotate_left; (· (intro w hSw; (try dsimp only at hSw); go_simp <;> with_reducible rfl)); try simp only [Act.put, qD, qE, qF])
     (refine wpAnyH_take (i := 9) (v := ?_) (by simp only [qA, qB, qC]; rfl) (by kernel_rfl) (by kernel_rfl) (by kernel_rfl) (fun _ _ _ h => h) (Or.inl ⟨by rfl, ?_⟩) (by assumption) ?_; rotate_left; (· (intro w hSw; (try dsimp only at hSw); go_simp <;> with_reducible rfl)); try simp only [Act.put, qD, qE, qF])
     (refine wpAnyH_take (i := 10) (v := ?_) (by simp only [qA, qB, qC]; rfl) (by kernel_rfl) (by kernel_rfl) (by kernel_rfl) (fun _ _ _ h => h) (Or.inl ⟨by rfl, ?_⟩) (by assumption) ?_; rotate_left; (· (intro w hSw; (try dsimp only at hSw); go_simp <;> with_reducible rfl)); try simp only [Act.put, qD, qE, qF])
     (refine wpAnyH_take (i := 11) (v := ?_) (by simp only [qA, qB, qC]; rfl) (by kernel_rfl) (by kernel_rfl) (by kernel_rfl) (fun _ _ _ h => h) (Or.inl ⟨by rfl, ?_⟩) (by assumption) ?_; rotate_left; (· (intro w hSw; (try dsimp only at hSw); go_simp <;> with_reducible rfl)); try simp only [Act.put, qD, qE, qF])
     refine wpAnyH_ready (rs := [12]) (by kernel_rfl) (by simp) ?_
     refine AllReadyH.cons (by simp only [qA, qB, qC]; rfl) (fun K hK => ?_) AllReadyH.nil
     go_simp
     go_at_call 28
     refine (HLS _ (by first | exact Below.refl _ _ | exact (Below.refl _ _).drew | exact below_dN (Below.refl _ _) _)).mono ?_
     rintro e w4 ⟨rfl, H4⟩
     refine hK.out _ _ ?_ (fun hHeld => ?_)
     ·exact (by obtain ⟨z0, z1, z2, _, z4, z5⟩ := HC.out w4 (HBk.out.trans (H4.out.mono HBk.out.size)); exact ⟨z0, z1, z2, z4, z5⟩)
     clear hK K
     try simp only [Act.put, qD, qE, qF]
     (refine wpAnyH_take (i := 13) (v := ?_) (by simp only [qA, qB, qC]; rfl) (by kernel_rfl) (by kernel_rfl) (by kernel_rfl) (fun _ _ _ h => h) (Or.inl ⟨by rfl, ?_⟩) (by assumption) ?_; rotate_left; (· (intro w hSw; (try dsimp only at hSw); go_simp <;> with_reducible rfl)); try simp only [Act.put, qD, qE, qF])
     refine wpAnyH_done (by kernel_rfl) ?_ _
     refine NoPanic.normal ?_
     clear hHeld q0 v0 v1 c0' c1' c2'
     obtain ⟨q0, c0', c1', c2', v0, v1⟩ := HC.out w4 (HBk.out.trans (H4.out.mono HBk.out.size))
     have HW : Hid (WB (⟨(x1, x2), oa, l.length, oc, l⟩ : Bn) bs w3 (w4.alloc (.cells #[.int .i64 x1, .int .i64 x2, .slice oa l.length oc] 73)) _ k false pre) := (HK.out.below H4.out).below ((Below.refl _ w4).alloc (Nat.le_refl _) _)
     go_wp2_with (at_builtin; refine wpList_append_own _ rfl _ _ 22 rfl w3.heap.size 73 i0 _ 3 40 Tryz.underlying22 hi hz hs3 hby rfl (by decide) _ _ _ rfl HW.out.1 ⟨w4.heap.size, 0, none⟩ 1 1 (encB (⟨(x1, x2), oa, l.length, oc, l⟩ : Bn)) rfl rfl (new_bn w4 (⟨(x1, x2), oa, l.length, oc, l⟩ : Bn)) (one_bn _) (by unfold maxLen; omega) (by omega) HW.out.2.1.size ?_)
     intro v' w' hown hgr _
     have HF : Hid (WB (⟨(x1, x2), oa, l.length, oc, l⟩ : Bn) bs w3 w' v' k true (pre ++ [(⟨(x1, x2), oa, l.length, oc, l⟩ : Bn)])) := HW.out.more hown hgr HE0.out (by simp only [cond]; omega)
     clear hown hgr q0 v0 v1 c0' c1' c2'
     obtain ⟨q0, c0', c1', c2', v0, v1⟩ := HC.out w' (HB3.out.trans (HF.out.2.1.mono HB3.out.size))
     have HW2 : Hid (WB (⟨(x1, x2), oa, l.length, oc, l⟩ : Bn) bs w3 (w'.alloc (.cells #[.int .i64 y1, .int .i64 y2, .slice qa qn qc] 73)) v' k true (pre ++ [(⟨(x1, x2), oa, l.length, oc, l⟩ : Bn)])) := HF.out.below ((Below.refl _ w').alloc (Nat.le_refl _) _)
     have HLp : Hid ((pre ++ [(⟨(x1, x2), oa, l.length, oc, l⟩ : Bn)]).length = pre.length + 1) := by show _ = _; simp
     go_wp2_with (at_builtin; refine wpList_append_own _ rfl _ _ 22 rfl w3.heap.size 73 i0 _ 3 40 Tryz.underlying22 hi hz hs3 hby rfl (by decide) _ (pre.length + 1) _ rfl (by have := HW2.out.1; rw [HLp.out] at this; exact this) ⟨w'.heap.size, 0, none⟩ 1 1 (encB (⟨(y1, y2), qa, qn, qc, ql⟩ : Bn)) rfl rfl (new_bn w' (⟨(y1, y2), qa, qn, qc, ql⟩ : Bn)) (one_bn _) (by unfold maxLen; omega) (by omega) HW2.out.2.1.size ?_)
     intro v2 w5 hown hgr _
     have HF2 : Hid (WB (⟨(x1, x2), oa, l.length, oc, l⟩ : Bn) bs w3 w5 v2 (k + 1) true ((pre ++ [(⟨(x1, x2), oa, l.length, oc, l⟩ : Bn)]) ++ [(⟨(y1, y2), qa, qn, qc, ql⟩ : Bn)])) := HW2.out.more (by rw [HLp.out]; simpa using hown) hgr HE.out (by rw [HLp.out]; simp only [cond]; omega)
     clear hown hgr
     go_wp2_with fail
     go_roundw
     case rel => exact ⟨k + 1, true, (pre ++ [(⟨(x1, x2), oa, l.length, oc, l⟩ : Bn)]) ++ [(⟨(y1, y2), qa, qn, qc, ql⟩ : Bn)], by omega, by go_num, rfl, HF2⟩
     case measure => simp [intOf]; omega
   ·have HE : Hid (insB (⟨(x1, x2), oa, l.length, oc, l⟩ : Bn) bs = (pre ++ [(⟨(y1, y2), qa, qn, qc, ql⟩ : Bn)]) ++ restB true (⟨(x1, x2), oa, l.length, oc, l⟩ : Bn) (bs.drop (k + 1))) := by
     show _ = _
     have a2 := HD.out.2.2
     rw [HK.out.2.2.1]
     simp only [restB, if_true]
     rw [a2]; simp
    have hpl : pre.length ≤ k + 1 := HK.out.2.2.2
    clear HD HLS
    go_wp2_with fail
    refine wp_region_noPanic ?_
    refine wp_region_held_drew (S := fun u => u.cell? ⟨rt, 0, none⟩ = some (.slice (some ⟨b1, o1, none⟩) n rc) ∧ u.cell? ⟨b1, o1 + k * 3, none⟩ = some (.int .i64 y1) ∧ u.cell? ⟨b1, o1 + k * 3 + 1, none⟩ = some (.int .i64 y2) ∧ u.cell? ⟨vb, 0, none⟩ = some (.int .i64 x1) ∧ u.cell? ⟨vb, 1, none⟩ = some (.int .i64 x2)) (by kernel_rfl) (⟨q0, c0', c1', v0, v1⟩) (fun hHeld => ?_)
    (refine wpAnyH_take (i := 0) (v := ?_) (by simp only [qA, qB]; rfl) (by kernel_rfl) (by kernel_rfl) (by kernel_rfl) (fun _ _ _ h => h) (Or.inl ⟨by rfl, ?_⟩) (by assumption) ?_; rotate_left; (· (intro w hSw; (try dsimp only at hSw); go_simp <;> with_reducible rfl)); try simp only [Act.put, qD, qE, qF])
    (refine wpAnyH_take (i := 1) (v := ?_) (by simp only [qA, qB, qC]; rfl) (by kernel_rfl) (by kernel_rfl) (by kernel_rfl) (fun _ _ _ h => h) (Or.inl ⟨by rfl, ?_⟩) (by assumption) ?_; rotate_left; (· (intro w hSw; (try dsimp only at hSw); go_simp <;> with_reducible rfl)); try simp only [Act.put, qD, qE, qF])
    (refine wpAnyH_take (i := 2) (v := ?_) (by simp only [qA, qB, qC]; rfl) (by kernel_rfl) (by kernel_rfl) (by kernel_rfl) (fun _ _ _ h => h) (Or.inl ⟨by rfl, ?_⟩) (by assumption) ?_; rotate_left; (· (intro w hSw; (try dsimp only at hSw); go_simp <;> with_reducible rfl)); try simp only [Act.put, qD, qE, qF])
    (refine wpAnyH_take (i := 3) (v := undef) (by simp only [qA, qB, qC]; rfl) (by kernel_rfl) (by kernel_rfl) (by kernel_rfl) (fun _ _ _ h => h) (Or.inr ⟨by rfl, rfl⟩) (by assumption) ?_; try simp only [Act.put, qD, qE, qF])
    (refine wpAnyH_take (i := 4) (v := undef) (by simp only [qA, qB, qC]; rfl) (by kernel_rfl) (by kernel_rfl) (by kernel_rfl) (fun _ _ _ h => h) (Or.inr ⟨by rfl, rfl⟩) (by assumption) ?_; try simp only [Act.put, qD, qE, qF])
    (refine wpAnyH_take (i := 5) (v := undef) (by simp only [qA, qB, qC]; rfl) (by kernel_rfl) (by kernel_rfl) (by kernel_rfl) (fun _ _ _ h => h) (Or.inr ⟨by rfl, rfl⟩) (by assumption) ?_; try simp only [Act.put, qD, qE, qF])
    (refine wpAnyH_take (i := 6) (v := undef) (by simp only [qA, qB, qC]; rfl) (by kernel_rfl) (by kernel_rfl) (by kernel_rfl) (fun _ _ _ h => h) (Or.inr ⟨by rfl, rfl⟩) (by assumption) ?_; try simp only [Act.put, qD, qE, qF])
    (refine wpAnyH_take (i := 7) (v := undef) (by simp only [qA, qB, qC]; rfl) (by kernel_rfl) (by kernel_rfl) (by kernel_rfl) (fun _ _ _ h => h) (Or.inr ⟨by rfl, rfl⟩) (by assumption) ?_; try simp only [Act.put, qD, qE, qF])
    (refine wpAnyH_take (i := 8) (v := undef) (by simp only [qA, qB, qC]; rfl) (by kernel_rfl) (by kernel_rfl) (by kernel_rfl) (fun _ _ _ h => h) (Or.inr ⟨by rfl, rfl⟩) (by assumption) ?_; try simp only [Act.put, qD, qE, qF])
    (refine wpAnyH_take (i := 9) (v := undef) (by simp only [qA, qB, qC]; rfl) (by kernel_rfl) (by kernel_rfl) (by kernel_rfl) (fun _ _ _ h => h) (Or.inr ⟨by rfl, rfl⟩) (by assumption) ?_; try simp only [Act.put, qD, qE, qF])
    (refine wpAnyH_take (i := 10) (v := undef) (by simp only [qA, qB, qC]; rfl) (by kernel_rfl) (by kernel_rfl) (by kernel_rfl) (fun _ _ _ h => h) (Or.inr ⟨by rfl, rfl⟩) (by assumption) ?_; try simp only [Act.put, qD, qE, qF])
    (refine wpAnyH_take (i := 11) (v := undef) (by simp only [qA, qB, qC]; rfl) (by kernel_rfl) (by kernel_rfl) (by kernel_rfl) (fun _ _ _ h => h) (Or.inr ⟨by rfl, rfl⟩) (by assumption) ?_; try simp only [Act.put, qD, qE, qF])
    (refine wpAnyH_take (i := 12) (v := undef) (by simp only [qA, qB, qC]; rfl) (by kernel_rfl) (by kernel_rfl) (by kernel_rfl) (fun _ _ _ h => h) (Or.inr ⟨by rfl, rfl⟩) (by assumption) ?_; try simp only [Act.put, qD, qE, qF])
    (refine wpAnyH_take (i := 13) (v := ?_) (by simp only [qA, qB, qC]; rfl) (by kernel_rfl) (by kernel_rfl) (by kernel_rfl) (fun _ _ _ h => h) (Or.inl ⟨by rfl, ?_⟩) (by assumption) ?_; rotate_left; (· (intro w hSw; (try dsimp only at hSw); go_simp <;> with_reducible rfl)); try simp only [Act.put, qD, qE, qF])
    refine wpAnyH_done (by kernel_rfl) ?_ _
    refine NoPanic.normal ?_
    clear hHeld
    have HW : Hid (WB (⟨(x1, x2), oa, l.length, oc, l⟩ : Bn) bs w3 (wr.drew.alloc (.cells #[.int .i64 y1, .int .i64 y2, .slice qa qn qc] 73)) _ k true pre) := (HK.out.below ((Below.refl _ wr).drew)).below ((Below.refl _ _).alloc (Nat.le_refl _) _)
    go_wp2_with (at_builtin; refine wpList_append_own _ rfl _ _ 22 rfl w3.heap.size 73 i0 _ 3 40 Tryz.underlying22 hi hz hs3 hby rfl (by decide) _ _ _ rfl HW.out.1 ⟨wr.drew.heap.size, 0, none⟩ 1 1 (encB (⟨(y1, y2), qa, qn, qc, ql⟩ : Bn)) rfl rfl (new_bn wr.drew (⟨(y1, y2), qa, qn, qc, ql⟩ : Bn)) (one_bn _) (by unfold maxLen; omega) (by omega) HW.out.2.1.size ?_)
    intro v' w' hown hgr _
    have HF : Hid (WB (⟨(x1, x2), oa, l.length, oc, l⟩ : Bn) bs w3 w' v' (k + 1) true (pre ++ [(⟨(y1, y2), qa, qn, qc, ql⟩ : Bn)])) := HW.out.more hown hgr HE.out (by simp only [cond]; omega)
    clear hown hgr
    go_wp2_with fail
    go_roundw
    case rel => exact ⟨k + 1, true, pre ++ [(⟨(y1, y2), qa, qn, qc, ql⟩ : Bn)], by omega, by go_num, rfl, HF⟩
    case measure => simp [intOf]; omega
  ·have hlt1 : ¬ (k : Int) < (n : Int) := by omega
   have hdr : bs.drop k = [] := by rw [List.drop_eq_nil_iff, HL.out.2.2.2.1]; omega
   have HDR : Hid (bs.drop k = []) := hdr
   have hbw3 : Below w.heap.size w w3 := HL.out.2.1.trans (HB3.out.mono HL.out.2.1.size)
   have HEnd : Hid (∀ w4 v4 pre4 k4, WB (⟨(x1, x2), oa, l.length, oc, l⟩ : Bn) bs w3 w4 v4 k4 true pre4 → bs.drop k4 = [] → ∃ a m c, v4 = .slice a m c ∧ BindR w G rt bs (x1, x2) l (w4.setCell ⟨rt, 0, none⟩ (.slice a m c))) := fun w4 v4 pre4 k4 hF hd =>
    bind_end HL.out.1 hbw3 hF hd HOV.out.1 (fun g hg => HOV.out.2.1 g hg) HL.out.2.2.2.2
   clear hdr hbw3 hBs
   cases bb
   ·have hpl : pre.length ≤ k := HK.out.2.2.2
    have HE0 : Hid (insB (⟨(x1, x2), oa, l.length, oc, l⟩ : Bn) bs = (pre ++ [(⟨(x1, x2), oa, l.length, oc, l⟩ : Bn)]) ++ restB true (⟨(x1, x2), oa, l.length, oc, l⟩ : Bn) (bs.drop k)) := by
     show _ = _
     rw [HK.out.2.2.1, HDR.out]; simp [restB, insB]
    have HW : Hid (WB (⟨(x1, x2), oa, l.length, oc, l⟩ : Bn) bs w3 (wr.alloc (.cells #[.int .i64 x1, .int .i64 x2, .slice oa l.length oc] 73)) _ k false pre) := HK.out.below ((Below.refl _ wr).alloc (Nat.le_refl _) _)
    go_wp2_with (at_builtin; refine wpList_append_own _ rfl _ _ 22 rfl w3.heap.size 73 i0 _ 3 40 Tryz.underlying22 hi hz hs3 hby rfl (by decide) _ _ _ rfl HW.out.1 ⟨wr.heap.size, 0, none⟩ 1 1 (encB (⟨(x1, x2), oa, l.length, oc, l⟩ : Bn)) rfl rfl (new_bn wr (⟨(x1, x2), oa, l.length, oc, l⟩ : Bn)) (one_bn _) (by unfold maxLen; omega) (by omega) HW.out.2.1.size ?_)
    intro v' w' hown hgr _
    have HF : Hid (WB (⟨(x1, x2), oa, l.length, oc, l⟩ : Bn) bs w3 w' v' k true (pre ++ [(⟨(x1, x2), oa, l.length, oc, l⟩ : Bn)])) := HW.out.more hown hgr HE0.out (by simp only [cond]; omega)
    clear hown hgr q0 v0 v1 f0
    obtain ⟨q0, f0, v0, v1, hBs⟩ := HS.out w' (HB3.out.trans (HF.out.2.1.mono HB3.out.size))
    clear hBs
    obtain ⟨a', m', c', rfl, hE⟩ := HEnd.out w' v' _ k HF.out HDR.out
    have HEE : Hid _ := hE
    clear hE
    go_wp2_with fail
    go_ret
    exact ⟨by rw [HBE.out]; rfl, HEE.out⟩
   ·obtain ⟨a', m', c', rfl, hE⟩ := HEnd.out wr _ _ k HK.out HDR.out
    have HEE : Hid _ := hE
    clear hE
    go_wp2_with fail
    go_ret
    exact ⟨by rw [HBE.out]; rfl, HEE.out⟩
set_option maxRecDepth 100000 in
set_option maxHeartbeats 16000000 in
theorem i24_not (G : Nat → Prop) (rt : Nat) (bs : List Bn) (x : Nm) (l : List C) (v : Value) (w : World) (h : RfH w G rt bs) (hT : TermAt w v l) (hbt : l.length * 48 ≤ 140737488355328) (hn : bs.length ≤ 3518437208780) (he : ¬ (x.1 < 0 ∨ oneT ⟨4, ⟨#[]⟩, 0, x.1, x.2⟩ = [] ∨ globalB l = false)) (h70 : hasB bs x = false) (hv : isVarL l = false) :
  Calls Tryz.prog 35 #[.pointer (some ⟨rt, 0, none⟩), .agg #[.int .i64 x.1, .int .i64 x.2], v] w fun e w' => e = .returned (.int .i64 (bindE (hpOf bs) x l)) ∧ BindR w G rt bs x l w' := by
 obtain ⟨i0, hi, hz, hs3, hby⟩ := infoB
 obtain ⟨j0, hj, hjz, hjs, hjb⟩ := info60
 obtain ⟨W, hW⟩ : ∃ W, w.alloc (.cells #[.int .i64 x.1, .int .i64 x.2] 32) = W := ⟨_, rfl⟩
 obtain ⟨vb, hvb⟩ : ∃ vb, w.heap.size = vb := ⟨_, rfl⟩
 have hbW : Below w.heap.size w W := by rw [← hW]; exact (Below.refl _ w).alloc (Nat.le_refl _) _
 have hc : W.heap[vb]? = some (.cells #[.int .i64 x.1, .int .i64 x.2] 32 (0, 0)) := by rw [← hW, ← hvb]; exact heap_alloc_new w _
 have hvl : vb < W.heap.size := (Array.getElem?_eq_some_iff.1 hc).1
 obtain ⟨v0, v1⟩ := box_cells hc
 obtain ⟨ra, rc, hblk, hRs, hG⟩ := (h.below hbW).ex
 obtain ⟨n, hnn⟩ : ∃ n, bs.length = n := ⟨_, rfl⟩
 rw [hnn] at hRs hblk hn
 have HS : Hid (∀ u, Below W.heap.size W u → u.cell? ⟨rt, 0, none⟩ = some (.slice ra n rc) ∧ u.frozen? ⟨rt, 0, none⟩ = false ∧ u.cell? ⟨vb, 0, none⟩ = some (.int .i64 x.1) ∧ u.cell? ⟨vb, 1, none⟩ = some (.int .i64 x.2) ∧ Bs u ra n bs) := fun u hu => by
  have hrl : rt < W.heap.size := (Array.getElem?_eq_some_iff.1 hblk).1
  have k1 := (hu.block rt hrl).trans hblk
  have k2 := box_cells ((hu.block vb hvl).trans hc)
  exact ⟨by rw [cell_of_row u rt 0 _ 57 (0, 0) k1]; rfl, frozen_of_row u rt 0 _ 57 k1, k2.1, k2.2, hRs.keeps fun g hg => hu.block g ((h.below hbW).lt g (hG g hg))⟩
 have H38 : Calls Tryz.prog 72 #[.agg #[.int .i64 x.1, .int .i64 x.2]] W fun e w' => ∃ a c, e = .returned (.slice a (oneT ⟨4, ⟨#[]⟩, 0, x.1, x.2⟩).length c) ∧ Hid (Below W.heap.size W w') := by
  refine (c19 x.1 x.2 W).mono ?_
  rintro e w' ⟨u, rfl, h1, h2⟩
  obtain ⟨a, c, e⟩ := h1.form
  exact ⟨a, c, by rw [e], h2⟩
 have H39 : Hid (∀ u, Below W.heap.size W u → Calls Tryz.prog 44 #[v] u fun e w' => e = .returned (.bool (globalB l)) ∧ Hid (Below W.heap.size W w')) := fun u hu => by
  refine (c37 l v u ((hT.below hbW).below hu)).mono ?_
  rintro e w' ⟨rfl, hb⟩
  exact ⟨by rw [global_same], hu.trans (hb.mono hu.size)⟩
 have H40 : Hid (∀ u, Below W.heap.size W u → Calls Tryz.prog 73 #[.pointer (some ⟨rt, 0, none⟩), .agg #[.int .i64 x.1, .int .i64 x.2]] u fun e w' => ∃ i : Int, e = .returned (.int .i64 i) ∧ Hid (decide (i ≥ 0) = hasB bs x) ∧ Hid (Below W.heap.size W w')) := fun u hu => by
  refine (i40 G rt bs x u ((h.below hbW).below hu) (by omega)).mono ?_
  rintro e w' ⟨i, rfl, h1, hb⟩
  exact ⟨i, rfl, h1, hu.trans (hb.mono hu.size)⟩
 have hk0 : (oneT ⟨4, ⟨#[]⟩, 0, x.1, x.2⟩).length = 1 := by
  have : oneT ⟨4, ⟨#[]⟩, 0, x.1, x.2⟩ ≠ [] := fun e => he (.inr (.inl e))
  unfold oneT at this ⊢
  split
  ·rfl
  ·next e => rw [if_neg e] at this; exact absurd rfl this
 have hx : ¬ x.1 < 0 := fun e => he (.inl e)
 have hgl : globalB l = true := by
  cases e : globalB l
  ·exact absurd (.inr (.inr e)) he
  ·rfl
 rw [hk0] at H38
 have hrl : rightB l = true := by unfold globalB at hgl; simp only [Bool.and_eq_true] at hgl; exact hgl.2
 have hl1 := right_len hrl
 obtain ⟨tb, to, tcap, rfl, hrg, htb⟩ : ∃ tb to tcap, v = .slice (some ⟨tb, to, none⟩) l.length tcap ∧ w.rangeAt tb to (flat l) ∧ tb < w.heap.size := by
  rcases hT.2 with ⟨e, _⟩ | ⟨b, o, cap, h1, _, _, h3, h4⟩
  ·rw [e] at hl1; simp at hl1
  ·exact ⟨b, o, cap, h1, h3, h4⟩
 have HTC : Hid (∀ u, Below W.heap.size W u → ∀ j z, (flat l)[j]? = some z → u.cell? ((⟨tb, to, none⟩ : Addr).add j) = some z) := fun u hu j z hz => by
  rw [Addr.add_mid]
  exact range_below hrg htb (hbW.trans (hu.mono hbW.size)) j z hz
 have HFL : Hid ((flat l).length = l.length * 5) := by show _ = _; rw [flat_length]; omega
 obtain ⟨ck, cn, cv, ct, cm, hcc⟩ : ∃ ck cn cv ct cm, l[0]'(by omega) = ⟨ck, ct, cm, cn, cv⟩ := ⟨_, _, _, _, _, rfl⟩
 have HCC : Hid (l[0]'(by omega) = ⟨ck, ct, cm, cn, cv⟩) := hcc
 clear hcc
 have HT0 : Hid (∀ u, Below W.heap.size W u → u.cell? ⟨tb, to, none⟩ = some (.int .u8 ck) ∧ u.cell? ⟨tb, to + 3, none⟩ = some (.int .i64 cn) ∧ u.cell? ⟨tb, to + 4, none⟩ = some (.int .i64 cv)) := fun u hu => by
  obtain ⟨z0, _, _, z3, z4⟩ := term_cells (range_below hrg htb (hbW.trans (hu.mono hbW.size))) 0 (by omega)
  rw [HCC.out] at z0 z3 z4
  exact ⟨by simpa using z0, by simpa using z3, by simpa using z4⟩
 have hlN : 0 < l.length := by omega
 have hl256 : l.length ≤ 256 := hl1.2
 have HV : Hid ((ck = 4 → isVarL l = true ∧ varL l = (cn, cv)) ∧ (ck ≠ 4 → isVarL l = false)) := by
  cases l with
  | nil => simp at hl1
  | cons c r =>
   have hcc := HCC.out
   simp only [List.getElem_cons_zero] at hcc
   refine ⟨fun e => ?_, fun e => ?_⟩
   ·have hck : c.k = 4 := by rw [hcc]; exact e
    have := var_one hrl hck
    subst this
    exact ⟨by simp [isVarL, hck], by rw [hcc]; rfl⟩
   ·have hck : c.k ≠ 4 := by rw [hcc]; exact e
    cases r with
    | nil => simp [isVarL, hck]
    | cons d t => rfl
 have H10 : Hid (∀ (y1 y2 : Int) (z u : World), Below z.heap.size z u → Calls Tryz.prog 28 #[.agg #[.int .i64 x.1, .int .i64 x.2], .agg #[.int .i64 y1, .int .i64 y2]] u fun e w' => e = .returned (.bool (lsB x.1 x.2 y1 y2)) ∧ Hid (Below z.heap.size z w')) := fun y1 y2 z u hu => by
  refine (i10 x.1 x.2 y1 y2 u).mono ?_
  rintro e w' ⟨rfl, hb⟩
  exact ⟨rfl, hu.trans (hb.mono hu.size)⟩
 have H10v : Hid (∀ (z u : World), Below z.heap.size z u → Calls Tryz.prog 28 #[.agg #[.int .i64 cn, .int .i64 cv], .agg #[.int .i64 x.1, .int .i64 x.2]] u fun e w' => e = .returned (.bool (lsB cn cv x.1 x.2)) ∧ Hid (Below z.heap.size z w')) := fun z u hu => by
  refine (i10 cn cv x.1 x.2 u).mono ?_
  rintro e w' ⟨rfl, hb⟩
  exact ⟨rfl, hu.trans (hb.mono hu.size)⟩
 have h0 : isVarL l = true → lessN (varL l) x = true := fun e => by rw [hv] at e; cases e
 have HL : Hid (RfH w G rt bs ∧ Below w.heap.size w W ∧ TermAt w (.slice (some ⟨tb, to, none⟩) l.length tcap) l ∧ bs.length = n ∧ bindE (hpOf bs) x l = 0) := ⟨h, hbW, hT, hnn, bindE_0 he h70 h0⟩
 have HBE : Hid (bindE (hpOf bs) x l = 0) := bindE_0 he h70 h0
 have hck : ¬ ck = 4 := fun e => by
  have := (HV.out.1 e).1; rw [hv] at this; cases this
 have hckb : (ck == 4) = false := by simpa using hck
 rw [h70] at H40
 clear h0 hv HV
 clear h hT hbt he hbW hc hvl hblk hRs hG hk0 hnn h70 hrl HCC hl1 hrg htb
 obtain ⟨x1, x2⟩ := x
 simp only at *
 go_enter Tryz.func35, Tryz.ntmps35
 go_wp2_with fail
 refine H38.mono ?_
 rintro e w1 ⟨a1, c1, rfl, HB1⟩
 clear v0 v1 H38
 obtain ⟨_, _, v0, v1, _⟩ := HS.out w1 HB1.out
 have H39' := H39.out w1 HB1.out
 rw [hgl] at H39'
 clear hgl
 go_wp2_with fail
 refine H39'.mono ?_
 rintro e w1b ⟨rfl, HB1b⟩
 clear v0 v1 H39'
 obtain ⟨_, _, v0, v1, _⟩ := HS.out w1b HB1b.out
 go_wp2_with fail
 refine (H40.out _ HB1b.out).mono ?_
 rintro e w2 ⟨i, rfl, HI, HB2⟩
 have hi0 : ¬ i ≥ 0 := of_decide_eq_false HI.out
 clear v0 v1 HI H39 H40
 go_wp2_with fail
 refine wp_region_noPanic ?_
 refine wp_region_held_drew (S := fun u => u.cell? ⟨tb, to, none⟩ = some (.int .u8 ck) ∧ u.cell? ⟨tb, to + 3, none⟩ = some (.int .i64 cn) ∧ u.cell? ⟨tb, to + 4, none⟩ = some (.int .i64 cv) ∧ u.cell? ⟨vb, 0, none⟩ = some (.int .i64 x1) ∧ u.cell? ⟨vb, 1, none⟩ = some (.int .i64 x2)) (by kernel_rfl) ((by obtain ⟨_, _, z1, z2, _⟩ := HS.out _ (below_dN HB2.out 1); obtain ⟨d0, d1, d2⟩ := HT0.out _ (below_dN HB2.out 1); exact ⟨d0, d1, d2, z1, z2⟩)) (fun hHeld => ?_)
 (refine wpAnyH_take (i := 0) (v := ?_) (by simp only [qA, qB]; rfl) (by kernel_rfl) (by kernel_rfl) (by kernel_rfl) (fun _ _ _ h => h) (Or.inl ⟨by rfl, ?_⟩) (by assumption) ?_; rotate_left; (· (intro w hSw; (try dsimp only at hSw); go_simp <;> with_reducible rfl)); try simp only [Act.put, qD, qE, qF])
 (refine wpAnyH_take (i := 1) (v := ?_) (by simp only [qA, qB, qC]; rfl) (by kernel_rfl) (by kernel_rfl) (by kernel_rfl) (fun _ _ _ h => h) (Or.inl ⟨by rfl, ?_⟩) (by assumption) ?_; rotate_left; (· (intro w hSw; (try dsimp only at hSw); go_simp <;> with_reducible rfl)); try simp only [Act.put, qD, qE, qF])
 (refine wpAnyH_take (i := 2) (v := ?_) (by simp only [qA, qB, qC]; rfl) (by kernel_rfl) (by kernel_rfl) (by kernel_rfl) (fun _ _ _ h => h) (Or.inl ⟨by rfl, ?_⟩) (by assumption) ?_; rotate_left; (· (intro w hSw; (try dsimp only at hSw); go_simp <;> with_reducible rfl)); try simp only [Act.put, qD, qE, qF])
 (refine wpAnyH_take (i := 3) (v := ?_) (by simp only [qA, qB, qC]; rfl) (by kernel_rfl) (by kernel_rfl) (by kernel_rfl) (fun _ _ _ h => h) (Or.inl ⟨by rfl, ?_⟩) (by assumption) ?_; rotate_left; (· (intro w hSw; (try dsimp only at hSw); go_simp <;> with_reducible rfl)); try simp only [Act.put, qD, qE, qF])
 (refine wpAnyH_take (i := 4) (v := ?_) (by simp only [qA, qB, qC]; rfl) (by kernel_rfl) (by kernel_rfl) (by kernel_rfl) (fun _ _ _ h => h) (Or.inl ⟨by rfl, ?_⟩) (by assumption) ?_; rotate_left; (· (intro w hSw; (try dsimp only at hSw); go_simp <;> with_reducible rfl)); try simp only [Act.put, qD, qE, qF])
 (refine wpAnyH_take (i := 5) (v := ?_) (by simp only [qA, qB, qC]; rfl) (by kernel_rfl) (by kernel_rfl) (by kernel_rfl) (fun _ _ _ h => h) (Or.inl ⟨by rfl, ?_⟩) (by assumption) ?_; rotate_left; (· (intro w hSw; (try dsimp only at hSw); go_simp <;> with_reducible rfl)); try simp only [Act.put, qD, qE, qF])
 (refine wpAnyH_take (i := 6) (v := undef) (by simp only [qA, qB, qC]; rfl) (by kernel_rfl) (by kernel_rfl) (by kernel_rfl) (fun _ _ _ h => h) (Or.inr ⟨by rfl, rfl⟩) (by assumption) ?_; try simp only [Act.put, qD, qE, qF])
 (refine wpAnyH_take (i := 7) (v := undef) (by simp only [qA, qB, qC]; rfl) (by kernel_rfl) (by kernel_rfl) (by kernel_rfl) (fun _ _ _ h => h) (Or.inr ⟨by rfl, rfl⟩) (by assumption) ?_; try simp only [Act.put, qD, qE, qF])
 (refine wpAnyH_take (i := 8) (v := undef) (by simp only [qA, qB, qC]; rfl) (by kernel_rfl) (by kernel_rfl) (by kernel_rfl) (fun _ _ _ h => h) (Or.inr ⟨by rfl, rfl⟩) (by assumption) ?_; try simp only [Act.put, qD, qE, qF])
 (refine wpAnyH_take (i := 9) (v := undef) (by simp only [qA, qB, qC]; rfl) (by kernel_rfl) (by kernel_rfl) (by kernel_rfl) (fun _ _ _ h => h) (Or.inr ⟨by rfl, rfl⟩) (by assumption) ?_; try simp only [Act.put, qD, qE, qF])
 (refine wpAnyH_take (i := 10) (v := undef) (by simp only [qA, qB, qC]; rfl) (by kernel_rfl) (by kernel_rfl) (by kernel_rfl) (fun _ _ _ h => h) (Or.inr ⟨by rfl, rfl⟩) (by assumption) ?_; try simp only [Act.put, qD, qE, qF])
 (refine wpAnyH_take (i := 11) (v := undef) (by simp only [qA, qB, qC]; rfl) (by kernel_rfl) (by kernel_rfl) (by kernel_rfl) (fun _ _ _ h => h) (Or.inr ⟨by rfl, rfl⟩) (by assumption) ?_; try simp only [Act.put, qD, qE, qF])
 (refine wpAnyH_take (i := 12) (v := undef) (by simp only [qA, qB, qC]; rfl) (by kernel_rfl) (by kernel_rfl) (by kernel_rfl) (fun _ _ _ h => h) (Or.inr ⟨by rfl, rfl⟩) (by assumption) ?_; try simp only [Act.put, qD, qE, qF])
 (refine wpAnyH_take (i := 13) (v := ?_) (by simp only [qA, qB, qC]; rfl) (by kernel_rfl) (by kernel_rfl) (by kernel_rfl) (fun _ _ _ h => h) (Or.inl ⟨by rfl, ?_⟩) (by assumption) ?_; rotate_left; (· (intro w hSw; (try dsimp only at hSw); go_simp <;> with_reducible rfl)); try simp only [Act.put, qD, qE, qF])
 (refine wpAnyH_take (i := 14) (v := ?_) (by simp only [qA, qB, qC]; rfl) (by kernel_rfl) (by kernel_rfl) (by kernel_rfl) (fun _ _ _ h => h) (Or.inl ⟨by rfl, ?_⟩) (by assumption) ?_; rotate_left; (· (intro w hSw; (try dsimp only at hSw); go_simp <;> with_reducible rfl)); try simp only [Act.put, qD, qE, qF])
 refine wpAnyH_done (by kernel_rfl) ?_ _
 refine NoPanic.normal ?_
 clear hHeld
 obtain ⟨w2b, hw2b⟩ : ∃ u, w2.drew = u := ⟨_, rfl⟩
 have HBx : Hid (Below W.heap.size W w2b) := by rw [← hw2b]; exact HB2.out.drew
 rw [hw2b]
 clear HB2 H10v hw2b
 go_wp2_with (at_builtin; refine wpList_append_own _ rfl _ _ 24 rfl w2b.heap.size 78 j0 zero60 5 48 Tryz.underlying24 hj hjz hjs hjb rfl (by decide) (.slice none 0 0) 0 [] rfl (World.ownsRow_nil _ _ _ _) ⟨tb, to, none⟩ l.length tcap (flat l) rfl HFL.out (HTC.out w2b HBx.out) (flat_one _) (by unfold maxLen; omega) (by omega) (Nat.le_refl _) ?_)
 intro ov w3 ho3 hg3 _
 obtain ⟨oa, oc, rfl, HOV⟩ : ∃ oa oc, ov = .slice oa l.length oc ∧ Hid (TermAt w3 (.slice oa l.length oc) l ∧ (∀ g, (Value.slice oa l.length oc).ownBlock = some g → w.heap.size ≤ g ∧ g < w3.heap.size) ∧ Below w2b.heap.size w2b w3) := by
  have ho3' : w3.ownsRow w2b.heap.size 78 5 ov l.length (flat l) := by simpa using ho3
  obtain ⟨oa, oc, e, h1, _⟩ := own_sl ho3'
  refine ⟨oa, oc, e, ?_⟩
  subst e
  have hb3 : Below w2b.heap.size w2b w3 := ⟨hg3.os, hg3.tape, hg3.output, hg3.size, fun k hk => hg3.block k hk (by simp [Value.ownBlock])⟩
  have hbw : Below w.heap.size w w2b := HL.out.2.1.trans (HBx.out.mono HL.out.2.1.size)
  refine ⟨ownT_term (base := w2b.heap.size) ho3' HL.out.2.2.1.1.1 HL.out.2.2.1.1.2, fun g hg => ?_, hb3⟩
  have hg' : bkA oa = some g := by
   cases oa with
   | none => cases hg
   | some ad => simpa [Value.ownBlock, bkA] using hg
  exact ⟨Nat.le_trans hbw.size (h1 g hg').1, (h1 g hg').2⟩
 clear ho3 hg3
 have HB3 : Hid (Below W.heap.size W w3) := HBx.out.trans (HOV.out.2.2.mono HBx.out.size)
 go_wp2_with fail
 go_loopw [7, 9, 10] (fun lv bv i wr => ∃ (k : Nat) (bb : Bool) (pre : List Bn), k ≤ n ∧ i = .int .i64 k ∧ bv = .bool bb ∧ Hid (WB (⟨(x1, x2), oa, l.length, oc, l⟩ : Bn) bs w3 wr lv k bb pre)) (fun _ _ i _ => n - (intOf i).toNat)
 case atStart => exact ⟨0, false, [], Nat.zero_le _, rfl, rfl, World.ownsRow_nil _ _ _ _, Below.refl _ _, by simp [restB], by simp⟩
 case round =>
  obtain ⟨k, bb, pre, hk, rfl, rfl, HK⟩ := hrel
  have HBk : Hid (Below W.heap.size W wr) := HB3.out.trans (HK.out.2.1.mono HB3.out.size)
  obtain ⟨q0, f0, v0, v1, hBs⟩ := HS.out wr HBk.out
  by_cases hlt : k < n
  ·have hlt1 : (k : Int) < (n : Int) := by omega
   have hk0 : (0 : Int) ≤ (k : Int) := by omega
   obtain ⟨b1, o1, hk1, rfl, hbl, c0', c1', c2'⟩ := hBs.at hlt
   have HD : Hid _ := insB_drop (⟨(x1, x2), oa, l.length, oc, l⟩ : Bn) bs k hk1
   have HLS := H10.out bs[k].x.1 bs[k].x.2 wr
   have HC : Hid (∀ u, Below W.heap.size W u → u.cell? ⟨rt, 0, none⟩ = some (.slice (some ⟨b1, o1, none⟩) n rc) ∧ u.cell? ⟨b1, o1 + k * 3, none⟩ = some (.int .i64 bs[k].x.1) ∧ u.cell? ⟨b1, o1 + k * 3 + 1, none⟩ = some (.int .i64 bs[k].x.2) ∧ u.cell? ⟨b1, o1 + k * 3 + 2, none⟩ = some (.slice bs[k].a bs[k].n bs[k].c) ∧ u.cell? ⟨vb, 0, none⟩ = some (.int .i64 x1) ∧ u.cell? ⟨vb, 1, none⟩ = some (.int .i64 x2)) := fun u hu => by
    obtain ⟨z0, _, z1, z2, z3⟩ := HS.out u hu
    obtain ⟨b2, o2, _, e, _, d0, d1, d2⟩ := z3.at hlt
    cases e
    exact ⟨z0, d0, d1, d2, z1, z2⟩
   generalize bs[k] = q at *
   obtain ⟨⟨y1, y2⟩, qa, qn, qc, ql⟩ := q
   simp only at c0' c1' c2' HD HLS HC
   clear hk1 hBs hbl f0
   cases bb
   ·have hpl : pre.length ≤ k := HK.out.2.2.2
    cases hLs : lsB x1 x2 y1 y2
    ·rw [hLs] at HLS
     have HE : Hid (insB (⟨(x1, x2), oa, l.length, oc, l⟩ : Bn) bs = (pre ++ [(⟨(y1, y2), qa, qn, qc, ql⟩ : Bn)]) ++ restB false (⟨(x1, x2), oa, l.length, oc, l⟩ : Bn) (bs.drop (k + 1))) := by
      show _ = _
      rw [HK.out.2.2.1]; simp only [restB, Bool.false_eq_true, if_false, HD.out.2.1 hLs]; simp
     clear HD hLs
     go_wp2_with fail
     refine wp_region_noPanic ?_
     refine wp_region_held_drew (S := fun u => u.cell? ⟨rt, 0, none⟩ = some (.slice (some ⟨b1, o1, none⟩) n rc) ∧ u.cell? ⟨b1, o1 + k * 3, none⟩ = some (.int .i64 y1) ∧ u.cell? ⟨b1, o1 + k * 3 + 1, none⟩ = some (.int .i64 y2) ∧ u.cell? ⟨vb, 0, none⟩ = some (.int .i64 x1) ∧ u.cell? ⟨vb, 1, none⟩ = some (.int .i64 x2)) (by kernel_rfl) (⟨q0, c0', c1', v0, v1⟩) (fun hHeld => ?_)
     (refine wpAnyH_take (i := 0) (v := ?_) (by simp only [qA, qB]; rfl) (by kernel_rfl) (by kernel_rfl) (by kernel_rfl) (fun _ _ _ h => h) (Or.inl ⟨by rfl, ?_⟩) (by assumption) ?_; rotate_left; (· (intro w hSw; (try dsimp only at hSw); go_simp <;> with_reducible rfl)); try simp only [Act.put, qD, qE, qF])
     (refine wpAnyH_take (i := 1) (v := ?_) (by simp only [qA, qB, qC]; rfl) (by kernel_rfl) (by kernel_rfl) (by kernel_rfl) (fun _ _ _ h => h) (Or.inl ⟨by rfl, ?_⟩) (by assumption) ?_; rotate_left; (· (intro w hSw; (try dsimp only at hSw); go_simp <;> with_reducible rfl)); try simp only [Act.put, qD, qE, qF])
     (refine wpAnyH_take (i := 2) (v := ?_) (by simp only [qA, qB, qC]; rfl) (by kernel_rfl) (by kernel_rfl) (by kernel_rfl) (fun _ _ _ h => h) (Or.inl ⟨by rfl, ?_⟩) (by assumption) ?_; rotate_left; (· (intro w hSw; (try dsimp only at hSw); go_simp <;> with_reducible rfl)); try simp only [Act.put, qD, qE, qF])
     (refine wpAnyH_take (i := 3) (v := ?_) (by simp only [qA, qB, qC]; rfl) (by kernel_rfl) (by kernel_rfl) (by kernel_rfl) (fun _ _ _ h => h) (Or.inl ⟨by rfl, ?_⟩) (by assumption) ?_; rotate_left; (· (intro w hSw; (try dsimp only at hSw); go_simp <;> with_reducible rfl)); try simp only [Act.put, qD, qE, qF])
     (refine wpAnyH_take (i := 4) (v := ?_) (by simp only [qA, qB, qC]; rfl) (by kernel_rfl) (by kernel_rfl) (by kernel_rfl) (fun _ _ _ h => h) (Or.inl ⟨by rfl, ?_⟩) (by assumption) ?_; rotate_left; (· (intro w hSw; (try dsimp only at hSw); go_simp <;> with_reducible rfl)); try simp only [Act.put, qD, qE, qF])
     (refine wpAnyH_take (i := 5) (v := ?_) (by simp only [qA, qB, qC]; rfl) (by kernel_rfl) (by kernel_rfl) (by kernel_rfl) (fun _ _ _ h => h) (Or.inl ⟨by rfl, ?_⟩) (by assumption) ?_; rotate_left; (· (intro w hSw; (try dsimp only at hSw); go_simp <;> with_reducible rfl)); try simp only [Act.put, qD, qE, qF])
     (refine wpAnyH_take (i := 6) (v := ?_) (by simp only [qA, qB, qC]; rfl) (by kernel_rfl) (by kernel_rfl) (by kernel_rfl) (fun _ _ _ h => h) (Or.inl ⟨by rfl, ?_⟩) (by assumption) ?_; rotate_left; (· (intro w hSw; (try dsimp only at hSw); go_simp <;> with_reducible rfl)); try simp only [Act.put, qD, qE, qF])
     (refine wpAnyH_take (i := 7) (v := ?_) (by simp only [qA, qB, qC]; rfl) (by kernel_rfl) (by kernel_rfl) (by kernel_rfl) (fun _ _ _ h => h) (Or.inl ⟨by rfl, ?_⟩) (by assumption) ?_; rotate_left; (· (intro w hSw; (try dsimp only at hSw); go_simp <;> with_reducible rfl)); try simp only [Act.put, qD, qE, qF])
     (refine wpAnyH_take (i := 8) (v := ?_) (by simp only [qA, qB, qC]; rfl) (by kernel_rfl) (by kernel_rfl) (by kernel_rfl) (fun _ _ _ h => h) (Or.inl ⟨by rfl, ?_⟩) (by assumption) ?_; rotate_left; (· (intro w hSw; (try dsimp only at hSw); go_simp <;> with_reducible rfl)); try simp only [Act.put, qD, qE, qF])
     (refine wpAnyH_take (i := 9) (v := ?_) (by simp only [qA, qB, qC]; rfl) (by kernel_rfl) (by kernel_rfl) (by kernel_rfl) (fun _ _ _ h => h) (Or.inl ⟨by rfl, ?_⟩) (by assumption) ?_; rotate_left; (· (intro w hSw; (try dsimp only at hSw); go_simp <;> with_reducible rfl)); try simp only [Act.put, qD, qE, qF])
     (refine wpAnyH_take (i := 10) (v := ?_) (by simp only [qA, qB, qC]; rfl) (by kernel_rfl) (by kernel_rfl) (by kernel_rfl) (fun _ _ _ h => h) (Or.inl ⟨by rfl, ?_⟩) (by assumption) ?_; rotate_left; (· (intro w hSw; (try dsimp only at hSw); go_simp <;> with_reducible rfl)); try simp only [Act.put, qD, qE, qF])
     (refine wpAnyH_take (i := 11) (v := ?_) (by simp only [qA, qB, qC]; rfl) (by kernel_rfl) (by kernel_rfl) (by kernel_rfl) (fun _ _ _ h => h) (Or.inl ⟨by rfl, ?_⟩) (by assumption) ?_; rotate_left; (· (intro w hSw; (try dsimp only at hSw); go_simp <;> with_reducible rfl)); try simp only [Act.put, qD, qE, qF])
     refine wpAnyH_ready (rs := [12]) (by kernel_rfl) (by simp) ?_
     refine AllReadyH.cons (by simp only [qA, qB, qC]; rfl) (fun K hK => ?_) AllReadyH.nil
     go_simp
     go_at_call 28
     refine (HLS _ (by first | exact Below.refl _ _ | exact (Below.refl _ _).drew | exact below_dN (Below.refl _ _) _)).mono ?_
     rintro e w4 ⟨rfl, H4⟩
     refine hK.out _ _ ?_ (fun hHeld => ?_)
     ·exact (by obtain ⟨z0, z1, z2, _, z4, z5⟩ := HC.out w4 (HBk.out.trans (H4.out.mono HBk.out.size)); exact ⟨z0, z1, z2, z4, z5⟩)
     clear hK K
     try simp only [Act.put, qD, qE, qF]
     (refine wpAnyH_take (i := 13) (v := ?_) (by simp only [qA, qB, qC]; rfl) (by kernel_rfl) (by kernel_rfl) (by kernel_rfl) (fun _ _ _ h => h) (Or.inl ⟨by rfl, ?_⟩) (by assumption) ?_; rotate_left; (· (intro w hSw; (try dsimp only at hSw); go_simp <;> with_reducible rfl)); try simp only [Act.put, qD, qE, qF])
     refine wpAnyH_done (by kernel_rfl) ?_ _
     refine NoPanic.normal ?_
     clear hHeld q0 v0 v1 c0' c1' c2'
     obtain ⟨q0, c0', c1', c2', v0, v1⟩ := HC.out w4 (HBk.out.trans (H4.out.mono HBk.out.size))
     have HW : Hid (WB (⟨(x1, x2), oa, l.length, oc, l⟩ : Bn) bs w3 (w4.alloc (.cells #[.int .i64 y1, .int .i64 y2, .slice qa qn qc] 73)) _ k false pre) := (HK.out.below H4.out).below ((Below.refl _ w4).alloc (Nat.le_refl _) _)
     go_wp2_with (at_builtin; refine wpList_append_own _ rfl _ _ 22 rfl w3.heap.size 73 i0 _ 3 40 Tryz.underlying22 hi hz hs3 hby rfl (by decide) _ _ _ rfl HW.out.1 ⟨w4.heap.size, 0, none⟩ 1 1 (encB (⟨(y1, y2), qa, qn, qc, ql⟩ : Bn)) rfl rfl (new_bn w4 (⟨(y1, y2), qa, qn, qc, ql⟩ : Bn)) (one_bn _) (by unfold maxLen; omega) (by omega) HW.out.2.1.size ?_)
     intro v' w' hown hgr _
     have HF : Hid (WB (⟨(x1, x2), oa, l.length, oc, l⟩ : Bn) bs w3 w' v' (k + 1) false (pre ++ [(⟨(y1, y2), qa, qn, qc, ql⟩ : Bn)])) := HW.out.more hown hgr HE.out (by simp only [cond]; omega)
     clear hown hgr
     go_wp2_with fail
     go_roundw
     case rel => exact ⟨k + 1, false, pre ++ [(⟨(y1, y2), qa, qn, qc, ql⟩ : Bn)], by omega, by go_num, rfl, HF⟩
     case measure => simp [intOf]; omega
    ·rw [hLs] at HLS
     have HE : Hid (insB (⟨(x1, x2), oa, l.length, oc, l⟩ : Bn) bs = ((pre ++ [(⟨(x1, x2), oa, l.length, oc, l⟩ : Bn)]) ++ [(⟨(y1, y2), qa, qn, qc, ql⟩ : Bn)]) ++ restB true (⟨(x1, x2), oa, l.length, oc, l⟩ : Bn) (bs.drop (k + 1))) := by
      show _ = _
      rw [HK.out.2.2.1]; simp only [restB, Bool.false_eq_true, if_false, if_true, HD.out.1 hLs]; simp
     have HE0 : Hid (insB (⟨(x1, x2), oa, l.length, oc, l⟩ : Bn) bs = (pre ++ [(⟨(x1, x2), oa, l.length, oc, l⟩ : Bn)]) ++ restB true (⟨(x1, x2), oa, l.length, oc, l⟩ : Bn) (bs.drop k)) := by
      show _ = _
      have a1 := HD.out.1 hLs
      have a2 := HD.out.2.2
      rw [HK.out.2.2.1]
      simp only [restB, Bool.false_eq_true, if_false, if_true]
      rw [a1, a2]; simp
     clear HD hLs
     go_wp2_with fail
     refine wp_region_noPanic ?_
     refine wp_region_held_drew (S := fun u => u.cell? ⟨rt, 0, none⟩ = some (.slice (some ⟨b1, o1, none⟩) n rc) ∧ u.cell? ⟨b1, o1 + k * 3, none⟩ = some (.int .i64 y1) ∧ u.cell? ⟨b1, o1 + k * 3 + 1, none⟩ = some (.int .i64 y2) ∧ u.cell? ⟨vb, 0, none⟩ = some (.int .i64 x1) ∧ u.cell? ⟨vb, 1, none⟩ = some (.int .i64 x2)) (by kernel_rfl) (⟨q0, c0', c1', v0, v1⟩) (fun hHeld => ?_)
     (refine wpAnyH_take (i := 0) (v := ?_) (by simp only [qA, qB]; rfl) (by kernel_rfl) (by kernel_rfl) (by kernel_rfl) (fun _ _ _ h => h) (Or.inl ⟨by rfl, ?_⟩) (by assumption) ?_; rotate_left; (· (intro w hSw; (try dsimp only at hSw); go_simp <;> with_reducible rfl)); try simp only [Act.put, qD, qE, qF])
     (refine wpAnyH_take (i := 1) (v := ?_) (by simp only [qA, qB, qC]; rfl) (by kernel_rfl) (by kernel_rfl) (by kernel_rfl) (fun _ _ _ h => h) (Or.inl ⟨by rfl, ?_⟩) (by assumption) ?_; rotate_left; (· (intro w hSw; (try dsimp only at hSw); go_simp <;> with_reducible rfl)); try simp only [Act.put, qD, qE, qF])
     (refine wpAnyH_take (i := 2) (v := ?_) (by simp only [qA, qB, qC]; rfl) (by kernel_rfl) (by kernel_rfl) (by kernel_rfl) (fun _ _ _ h => h) (Or.inl ⟨by rfl, ?_⟩) (by assumption) ?_; rotate_left; (· (intro w hSw; (try dsimp only at hSw); go_simp <;> with_reducible rfl)); try simp only [Act.put, qD, qE, qF])
     (refine wpAnyH_take (i := 3) (v := ?_) (by simp only [qA, qB, qC]; rfl) (by kernel_rfl) (by kernel_rfl) (by kernel_rfl) (fun _ _ _ h => h) (Or.inl ⟨by rfl, ?_⟩) (by assumption) ?_; rotate_left; (· (intro w hSw; (try dsimp only at hSw); go_simp <;> with_reducible rfl)); try simp only [Act.put, qD, qE, qF])
     (refine wpAnyH_take (i := 4) (v := ?_) (by simp only [qA, qB, qC]; rfl) (by kernel_rfl) (by kernel_rfl) (by kernel_rfl) (fun _ _ _ h => h) (Or.inl ⟨by rfl, ?_⟩) (by assumption) ?_; rotate_left; (· (intro w hSw; (try dsimp only at hSw); go_simp <;> with_reducible rfl)); try simp only [Act.put, qD, qE, qF])
     (refine wpAnyH_take (i := 5) (v := ?_) (by simp only [qA, qB, qC]; rfl) (by kernel_rfl) (by kernel_rfl) (by kernel_rfl) (fun _ _ _ h => h) (Or.inl ⟨by rfl, ?_⟩) (by assumption) ?_; rotate_left; (· (intro w hSw; (try dsimp only at hSw); go_simp <;> with_reducible rfl)); try simp only [Act.put, qD, qE, qF])
     (refine wpAnyH_take (i := 6) (v := ?_) (by simp only [qA, qB, qC]; rfl) (by kernel_rfl) (by kernel_rfl) (by kernel_rfl) (fun _ _ _ h => h) (Or.inl ⟨by rfl, ?_⟩) (by assumption) ?_; rotate_left; (· (intro w hSw; (try dsimp only at hSw); go_simp <;> with_reducible rfl)); try simp only [Act.put, qD, qE, qF])
     (refine wpAnyH_take (i := 7) (v := ?_) (by simp only [qA, qB, qC]; rfl) (by kernel_rfl) (by kernel_rfl) (by kernel_rfl) (fun _ _ _ h => h) (Or.inl ⟨by rfl, ?_⟩) (by assumption) ?_; rotate_left; (· (intro w hSw; (try dsimp only at hSw); go_simp <;> with_reducible rfl)); try simp only [Act.put, qD, qE, qF])
     (refine wpAnyH_take (i := 8) (v := ?_) (by simp only [qA, qB, qC]; rfl) (by kernel_rfl) (by kernel_rfl) (by kernel_rfl) (fun _ _ _ h => h) (Or.inl ⟨by rfl, ?_⟩) (by assumption) ?_; rotate_left; (· (intro w hSw; (try dsimp only at hSw); go_simp <;> with_reducible rfl)); try simp only [Act.put, qD, qE, qF])
     (refine wpAnyH_take (i := 9) (v := ?_) (by simp only [qA, qB, qC]; rfl) (by kernel_rfl) (by kernel_rfl) (by kernel_rfl) (fun _ _ _ h => h) (Or.inl ⟨by rfl, ?_⟩) (by assumption) ?_; rotate_left; (· (intro w hSw; (try dsimp only at hSw); go_simp <;> with_reducible rfl)); try simp only [Act.put, qD, qE, qF])
     (refine wpAnyH_take (i := 10) (v := ?_) (by simp only [qA, qB, qC]; rfl) (by kernel_rfl) (by kernel_rfl) (by kernel_rfl) (fun _ _ _ h => h) (Or.inl ⟨by rfl, ?_⟩) (by assumption) ?_; rotate_left; (· (intro w hSw; (try dsimp only at hSw); go_simp <;> with_reducible rfl)); try simp only [Act.put, qD, qE, qF])
     (refine wpAnyH_take (i := 11) (v := ?_) (by simp only [qA, qB, qC]; rfl) (by kernel_rfl) (by kernel_rfl) (by kernel_rfl) (fun _ _ _ h => h) (Or.inl ⟨by rfl, ?_⟩) (by assumption) ?_; rotate_left; (· (intro w hSw; (try dsimp only at hSw); go_simp <;> with_reducible rfl)); try simp only [Act.put, qD, qE, qF])
     refine wpAnyH_ready (rs := [12]) (by kernel_rfl) (by simp) ?_
     refine AllReadyH.cons (by simp only [qA, qB, qC]; rfl) (fun K hK => ?_) AllReadyH.nil
     go_simp
     go_at_call 28
     refine (HLS _ (by first | exact Below.refl _ _ | exact (Below.refl _ _).drew | exact below_dN (Below.refl _ _) _)).mono ?_
     rintro e w4 ⟨rfl, H4⟩
     refine hK.out _ _ ?_ (fun hHeld => ?_)
     ·exact (by obtain ⟨z0, z1, z2, _, z4, z5⟩ := HC.out w4 (HBk.out.trans (H4.out.mono HBk.out.size)); exact ⟨z0, z1, z2, z4, z5⟩)
     clear hK K
     try simp only [Act.put, qD, qE, qF]
     (refine wpAnyH_take (i := 13) (v := ?_) (by simp only [qA, qB, qC]; rfl) (by kernel_rfl) (by kernel_rfl) (by kernel_rfl) (fun _ _ _ h => h) (Or.inl ⟨by rfl, ?_⟩) (by assumption) ?_; rotate_left; (· (intro w hSw; (try dsimp only at hSw); go_simp <;> with_reducible rfl)); try simp only [Act.put, qD, qE, qF])
     refine wpAnyH_done (by kernel_rfl) ?_ _
     refine NoPanic.normal ?_
     clear hHeld q0 v0 v1 c0' c1' c2'
     obtain ⟨q0, c0', c1', c2', v0, v1⟩ := HC.out w4 (HBk.out.trans (H4.out.mono HBk.out.size))
     have HW : Hid (WB (⟨(x1, x2), oa, l.length, oc, l⟩ : Bn) bs w3 (w4.alloc (.cells #[.int .i64 x1, .int .i64 x2, .slice oa l.length oc] 73)) _ k false pre) := (HK.out.below H4.out).below ((Below.refl _ w4).alloc (Nat.le_refl _) _)
     go_wp2_with (at_builtin; refine wpList_append_own _ rfl _ _ 22 rfl w3.heap.size 73 i0 _ 3 40 Tryz.underlying22 hi hz hs3 hby rfl (by decide) _ _ _ rfl HW.out.1 ⟨w4.heap.size, 0, none⟩ 1 1 (encB (⟨(x1, x2), oa, l.length, oc, l⟩ : Bn)) rfl rfl (new_bn w4 (⟨(x1, x2), oa, l.length, oc, l⟩ : Bn)) (one_bn _) (by unfold maxLen; omega) (by omega) HW.out.2.1.size ?_)
     intro v' w' hown hgr _
     have HF : Hid (WB (⟨(x1, x2), oa, l.length, oc, l⟩ : Bn) bs w3 w' v' k true (pre ++ [(⟨(x1, x2), oa, l.length, oc, l⟩ : Bn)])) := HW.out.more hown hgr HE0.out (by simp only [cond]; omega)
     clear hown hgr q0 v0 v1 c0' c1' c2'
     obtain ⟨q0, c0', c1', c2', v0, v1⟩ := HC.out w' (HB3.out.trans (HF.out.2.1.mono HB3.out.size))
     have HW2 : Hid (WB (⟨(x1, x2), oa, l.length, oc, l⟩ : Bn) bs w3 (w'.alloc (.cells #[.int .i64 y1, .int .i64 y2, .slice qa qn qc] 73)) v' k true (pre ++ [(⟨(x1, x2), oa, l.length, oc, l⟩ : Bn)])) := HF.out.below ((Below.refl _ w').alloc (Nat.le_refl _) _)
     have HLp : Hid ((pre ++ [(⟨(x1, x2), oa, l.length, oc, l⟩ : Bn)]).length = pre.length + 1) := by show _ = _; simp
     go_wp2_with (at_builtin; refine wpList_append_own _ rfl _ _ 22 rfl w3.heap.size 73 i0 _ 3 40 Tryz.underlying22 hi hz hs3 hby rfl (by decide) _ (pre.length + 1) _ rfl (by have := HW2.out.1; rw [HLp.out] at this; exact this) ⟨w'.heap.size, 0, none⟩ 1 1 (encB (⟨(y1, y2), qa, qn, qc, ql⟩ : Bn)) rfl rfl (new_bn w' (⟨(y1, y2), qa, qn, qc, ql⟩ : Bn)) (one_bn _) (by unfold maxLen; omega) (by omega) HW2.out.2.1.size ?_)
     intro v2 w5 hown hgr _
     have HF2 : Hid (WB (⟨(x1, x2), oa, l.length, oc, l⟩ : Bn) bs w3 w5 v2 (k + 1) true ((pre ++ [(⟨(x1, x2), oa, l.length, oc, l⟩ : Bn)]) ++ [(⟨(y1, y2), qa, qn, qc, ql⟩ : Bn)])) := HW2.out.more (by rw [HLp.out]; simpa using hown) hgr HE.out (by rw [HLp.out]; simp only [cond]; omega)
     clear hown hgr
     go_wp2_with fail
     go_roundw
     case rel => exact ⟨k + 1, true, (pre ++ [(⟨(x1, x2), oa, l.length, oc, l⟩ : Bn)]) ++ [(⟨(y1, y2), qa, qn, qc, ql⟩ : Bn)], by omega, by go_num, rfl, HF2⟩
     case measure => simp [intOf]; omega
   ·have HE : Hid (insB (⟨(x1, x2), oa, l.length, oc, l⟩ : Bn) bs = (pre ++ [(⟨(y1, y2), qa, qn, qc, ql⟩ : Bn)]) ++ restB true (⟨(x1, x2), oa, l.length, oc, l⟩ : Bn) (bs.drop (k + 1))) := by
     show _ = _
     have a2 := HD.out.2.2
     rw [HK.out.2.2.1]
     simp only [restB, if_true]
     rw [a2]; simp
    have hpl : pre.length ≤ k + 1 := HK.out.2.2.2
    clear HD HLS
    go_wp2_with fail
    refine wp_region_noPanic ?_
    refine wp_region_held_drew (S := fun u => u.cell? ⟨rt, 0, none⟩ = some (.slice (some ⟨b1, o1, none⟩) n rc) ∧ u.cell? ⟨b1, o1 + k * 3, none⟩ = some (.int .i64 y1) ∧ u.cell? ⟨b1, o1 + k * 3 + 1, none⟩ = some (.int .i64 y2) ∧ u.cell? ⟨vb, 0, none⟩ = some (.int .i64 x1) ∧ u.cell? ⟨vb, 1, none⟩ = some (.int .i64 x2)) (by kernel_rfl) (⟨q0, c0', c1', v0, v1⟩) (fun hHeld => ?_)
    (refine wpAnyH_take (i := 0) (v := ?_) (by simp only [qA, qB]; rfl) (by kernel_rfl) (by kernel_rfl) (by kernel_rfl) (fun _ _ _ h => h) (Or.inl ⟨by rfl, ?_⟩) (by assumption) ?_; rotate_left; (· (intro w hSw; (try dsimp only at hSw); go_simp <;> with_reducible rfl)); try simp only [Act.put, qD, qE, qF])
    (refine wpAnyH_take (i := 1) (v := ?_) (by simp only [qA, qB, qC]; rfl) (by kernel_rfl) (by kernel_rfl) (by kernel_rfl) (fun _ _ _ h => h) (Or.inl ⟨by rfl, ?_⟩) (by assumption) ?_; rotate_left; (· (intro w hSw; (try dsimp only at hSw); go_simp <;> with_reducible rfl)); try simp only [Act.put, qD, qE, qF])
    (refine wpAnyH_take (i := 2) (v := ?_) (by simp only [qA, qB, qC]; rfl) (by kernel_rfl) (by kernel_rfl) (by kernel_rfl) (fun _ _ _ h => h) (Or.inl ⟨by rfl, ?_⟩) (by assumption) ?_; rotate_left; (· (intro w hSw; (try dsimp only at hSw); go_simp <;> with_reducible rfl)); try simp only [Act.put, qD, qE, qF])
    (refine wpAnyH_take (i := 3) (v := undef) (by simp only [qA, qB, qC]; rfl) (by kernel_rfl) (by kernel_rfl) (by kernel_rfl) (fun _ _ _ h => h) (Or.inr ⟨by rfl, rfl⟩) (by assumption) ?_; try simp only [Act.put, qD, qE, qF])
    (refine wpAnyH_take (i := 4) (v := undef) (by simp only [qA, qB, qC]; rfl) (by kernel_rfl) (by kernel_rfl) (by kernel_rfl) (fun _ _ _ h => h) (Or.inr ⟨by rfl, rfl⟩) (by assumption) ?_; try simp only [Act.put, qD, qE, qF])
    (refine wpAnyH_take (i := 5) (v := undef) (by simp only [qA, qB, qC]; rfl) (by kernel_rfl) (by kernel_rfl) (by kernel_rfl) (fun _ _ _ h => h) (Or.inr ⟨by rfl, rfl⟩) (by assumption) ?_; try simp only [Act.put, qD, qE, qF])
    (refine wpAnyH_take (i := 6) (v := undef) (by simp only [qA, qB, qC]; rfl) (by kernel_rfl) (by kernel_rfl) (by kernel_rfl) (fun _ _ _ h => h) (Or.inr ⟨by rfl, rfl⟩) (by assumption) ?_; try simp only [Act.put, qD, qE, qF])
    (refine wpAnyH_take (i := 7) (v := undef) (by simp only [qA, qB, qC]; rfl) (by kernel_rfl) (by kernel_rfl) (by kernel_rfl) (fun _ _ _ h => h) (Or.inr ⟨by rfl, rfl⟩) (by assumption) ?_; try simp only [Act.put, qD, qE, qF])
    (refine wpAnyH_take (i := 8) (v := undef) (by simp only [qA, qB, qC]; rfl) (by kernel_rfl) (by kernel_rfl) (by kernel_rfl) (fun _ _ _ h => h) (Or.inr ⟨by rfl, rfl⟩) (by assumption) ?_; try simp only [Act.put, qD, qE, qF])
    (refine wpAnyH_take (i := 9) (v := undef) (by simp only [qA, qB, qC]; rfl) (by kernel_rfl) (by kernel_rfl) (by kernel_rfl) (fun _ _ _ h => h) (Or.inr ⟨by rfl, rfl⟩) (by assumption) ?_; try simp only [Act.put, qD, qE, qF])
    (refine wpAnyH_take (i := 10) (v := undef) (by simp only [qA, qB, qC]; rfl) (by kernel_rfl) (by kernel_rfl) (by kernel_rfl) (fun _ _ _ h => h) (Or.inr ⟨by rfl, rfl⟩) (by assumption) ?_; try simp only [Act.put, qD, qE, qF])
    (refine wpAnyH_take (i := 11) (v := undef) (by simp only [qA, qB, qC]; rfl) (by kernel_rfl) (by kernel_rfl) (by kernel_rfl) (fun _ _ _ h => h) (Or.inr ⟨by rfl, rfl⟩) (by assumption) ?_; try simp only [Act.put, qD, qE, qF])
    (refine wpAnyH_take (i := 12) (v := undef) (by simp only [qA, qB, qC]; rfl) (by kernel_rfl) (by kernel_rfl) (by kernel_rfl) (fun _ _ _ h => h) (Or.inr ⟨by rfl, rfl⟩) (by assumption) ?_; try simp only [Act.put, qD, qE, qF])
    (refine wpAnyH_take (i := 13) (v := ?_) (by simp only [qA, qB, qC]; rfl) (by kernel_rfl) (by kernel_rfl) (by kernel_rfl) (fun _ _ _ h => h) (Or.inl ⟨by rfl, ?_⟩) (by assumption) ?_; rotate_left; (· (intro w hSw; (try dsimp only at hSw); go_simp <;> with_reducible rfl)); try simp only [Act.put, qD, qE, qF])
    refine wpAnyH_done (by kernel_rfl) ?_ _
    refine NoPanic.normal ?_
    clear hHeld
    have HW : Hid (WB (⟨(x1, x2), oa, l.length, oc, l⟩ : Bn) bs w3 (wr.drew.alloc (.cells #[.int .i64 y1, .int .i64 y2, .slice qa qn qc] 73)) _ k true pre) := (HK.out.below ((Below.refl _ wr).drew)).below ((Below.refl _ _).alloc (Nat.le_refl _) _)
    go_wp2_with (at_builtin; refine wpList_append_own _ rfl _ _ 22 rfl w3.heap.size 73 i0 _ 3 40 Tryz.underlying22 hi hz hs3 hby rfl (by decide) _ _ _ rfl HW.out.1 ⟨wr.drew.heap.size, 0, none⟩ 1 1 (encB (⟨(y1, y2), qa, qn, qc, ql⟩ : Bn)) rfl rfl (new_bn wr.drew (⟨(y1, y2), qa, qn, qc, ql⟩ : Bn)) (one_bn _) (by unfold maxLen; omega) (by omega) HW.out.2.1.size ?_)
    intro v' w' hown hgr _
    have HF : Hid (WB (⟨(x1, x2), oa, l.length, oc, l⟩ : Bn) bs w3 w' v' (k + 1) true (pre ++ [(⟨(y1, y2), qa, qn, qc, ql⟩ : Bn)])) := HW.out.more hown hgr HE.out (by simp only [cond]; omega)
    clear hown hgr
    go_wp2_with fail
    go_roundw
    case rel => exact ⟨k + 1, true, pre ++ [(⟨(y1, y2), qa, qn, qc, ql⟩ : Bn)], by omega, by go_num, rfl, HF⟩
    case measure => simp [intOf]; omega
  ·have hlt1 : ¬ (k : Int) < (n : Int) := by omega
   have hdr : bs.drop k = [] := by rw [List.drop_eq_nil_iff, HL.out.2.2.2.1]; omega
   have HDR : Hid (bs.drop k = []) := hdr
   have hbw3 : Below w.heap.size w w3 := HL.out.2.1.trans (HB3.out.mono HL.out.2.1.size)
   have HEnd : Hid (∀ w4 v4 pre4 k4, WB (⟨(x1, x2), oa, l.length, oc, l⟩ : Bn) bs w3 w4 v4 k4 true pre4 → bs.drop k4 = [] → ∃ a m c, v4 = .slice a m c ∧ BindR w G rt bs (x1, x2) l (w4.setCell ⟨rt, 0, none⟩ (.slice a m c))) := fun w4 v4 pre4 k4 hF hd =>
    bind_end HL.out.1 hbw3 hF hd HOV.out.1 (fun g hg => HOV.out.2.1 g hg) HL.out.2.2.2.2
   clear hdr hbw3 hBs
   cases bb
   ·have hpl : pre.length ≤ k := HK.out.2.2.2
    have HE0 : Hid (insB (⟨(x1, x2), oa, l.length, oc, l⟩ : Bn) bs = (pre ++ [(⟨(x1, x2), oa, l.length, oc, l⟩ : Bn)]) ++ restB true (⟨(x1, x2), oa, l.length, oc, l⟩ : Bn) (bs.drop k)) := by
     show _ = _
     rw [HK.out.2.2.1, HDR.out]; simp [restB, insB]
    have HW : Hid (WB (⟨(x1, x2), oa, l.length, oc, l⟩ : Bn) bs w3 (wr.alloc (.cells #[.int .i64 x1, .int .i64 x2, .slice oa l.length oc] 73)) _ k false pre) := HK.out.below ((Below.refl _ wr).alloc (Nat.le_refl _) _)
    go_wp2_with (at_builtin; refine wpList_append_own _ rfl _ _ 22 rfl w3.heap.size 73 i0 _ 3 40 Tryz.underlying22 hi hz hs3 hby rfl (by decide) _ _ _ rfl HW.out.1 ⟨wr.heap.size, 0, none⟩ 1 1 (encB (⟨(x1, x2), oa, l.length, oc, l⟩ : Bn)) rfl rfl (new_bn wr (⟨(x1, x2), oa, l.length, oc, l⟩ : Bn)) (one_bn _) (by unfold maxLen; omega) (by omega) HW.out.2.1.size ?_)
    intro v' w' hown hgr _
    have HF : Hid (WB (⟨(x1, x2), oa, l.length, oc, l⟩ : Bn) bs w3 w' v' k true (pre ++ [(⟨(x1, x2), oa, l.length, oc, l⟩ : Bn)])) := HW.out.more hown hgr HE0.out (by simp only [cond]; omega)
    clear hown hgr q0 v0 v1 f0
    obtain ⟨q0, f0, v0, v1, hBs⟩ := HS.out w' (HB3.out.trans (HF.out.2.1.mono HB3.out.size))
    clear hBs
    obtain ⟨a', m', c', rfl, hE⟩ := HEnd.out w' v' _ k HF.out HDR.out
    have HEE : Hid _ := hE
    clear hE
    go_wp2_with fail
    go_ret
    exact ⟨by rw [HBE.out]; rfl, HEE.out⟩
   ·obtain ⟨a', m', c', rfl, hE⟩ := HEnd.out wr _ _ k HK.out HDR.out
    have HEE : Hid _ := hE
    clear hE
    go_wp2_with fail
    go_ret
    exact ⟨by rw [HBE.out]; rfl, HEE.out⟩
end Go.Proofs.YtljggjllijacjaaGreatDoor
