/- The reference's place, Value, Chain and Deref. -/
import Derived.Test.YtljggjllijacjaaGreatDoorIKg
namespace Go.Proofs.YtljggjllijacjaaGreatDoor
open Go.RowKit
attribute [local go_sem ↓] Go.wp_at_zero Go.wp_at_succ
/-- Where a name stands. -/
def PlR (bs : List Bn) (v : Nm) (i : Int) : Prop := (i = -1 ∧ hasB bs v = false) ∨ ∃ k : Nat, i = (k : Int) ∧ ∃ hk : k < bs.length, bs[k].x = v
set_option maxRecDepth 100000 in
set_option maxHeartbeats 4000000 in
theorem i40p (G : Nat → Prop) (rt : Nat) (bs : List Bn) (v : Nm) (w : World) (h : RfH w G rt bs) (hn : bs.length ≤ 4000000000000) :
  Calls Tryz.prog 73 #[.pointer (some ⟨rt, 0, none⟩), .agg #[.int .i64 v.1, .int .i64 v.2]] w fun e w' => ∃ i : Int, e = .returned (.int .i64 i) ∧ PlR bs v i ∧ Below w.heap.size w w' := by
 obtain ⟨W, hW⟩ : ∃ W, w.alloc (.cells #[.int .i64 v.1, .int .i64 v.2] 32) = W := ⟨_, rfl⟩
 obtain ⟨vb, hvb⟩ : ∃ vb, w.heap.size = vb := ⟨_, rfl⟩
 obtain ⟨n, hnn⟩ : ∃ n, bs.length = n := ⟨_, rfl⟩
 have hbW : Below w.heap.size w W := by rw [← hW]; exact (Below.refl _ w).alloc (Nat.le_refl _) _
 have hc : W.heap[vb]? = some (.cells #[.int .i64 v.1, .int .i64 v.2] 32 (0, 0)) := by rw [← hW, ← hvb]; exact heap_alloc_new w _
 have HX : Hid (RfH W G rt bs ∧ Below w.heap.size w W ∧ bs.length = n ∧ W.heap[vb]? = some (.cells #[.int .i64 v.1, .int .i64 v.2] 32 (0, 0)) ∧ n ≤ 4000000000000) := ⟨h.below hbW, hbW, hnn, hc, hnn ▸ hn⟩
 have hn' : n ≤ 4000000000000 := hnn ▸ hn
 clear h hc hbW hn hnn
 obtain ⟨v1, v2⟩ := v
 simp only at hW
 go_enter Tryz.func73, Tryz.ntmps73
 go_wp2_with fail
 go_loopw [5] (fun i wr => ∃ k : Nat, k ≤ n ∧ i = .int .i64 k ∧ Hid (Below W.heap.size W wr ∧ hasB bs (v1, v2) = hasB (bs.drop k) (v1, v2))) (fun i _ => n - (intOf i).toNat)
 case atStart => exact ⟨0, Nat.zero_le _, rfl, Below.refl _ _, by simp⟩
 case round =>
  clear hW hvb
  obtain ⟨k, hk, rfl, HK⟩ := hrel
  have hR : RfH wr G rt bs := HX.out.1.below HK.out.1
  obtain ⟨ra, rc, k1, hRs, _⟩ := hR.ex
  have q0 : wr.cell? ⟨rt, 0, none⟩ = some (.slice ra bs.length rc) := by rw [cell_of_row wr rt 0 _ 57 (0, 0) k1]; rfl
  rw [HX.out.2.2.1] at q0
  have hvl : vb < W.heap.size := (Array.getElem?_eq_some_iff.1 HX.out.2.2.2.1).1
  obtain ⟨v0, v1'⟩ := box_cells ((HK.out.1.block vb hvl).trans HX.out.2.2.2.1)
  have HBn : Hid (Below w.heap.size w wr) := HX.out.2.1.trans (HK.out.1.mono HX.out.2.1.size)
  by_cases hlt : k < n
  ·have hlt1 : (k : Int) < (n : Int) := by omega
   have hk0 : (0 : Int) ≤ (k : Int) := by omega
   obtain ⟨b1, o1, hk1, rfl, _, c0, c1, c2⟩ := hRs.at (k := k) (by have := HX.out.2.2.1; omega)
   clear c2
   have HP : Hid _ := hasB_drop bs (v1, v2) k hk1
   have HF : Hid (∀ z, bs[k].x = z → PlR bs z k) := fun z e => .inr ⟨k, rfl, hk1, e⟩
   generalize bs[k].x = y at *
   obtain ⟨y1, y2⟩ := y
   simp only at c0 c1
   clear hR hRs hk1 hvl k1
   by_cases hxy : y1 = v1 ∧ y2 = v2
   ·obtain ⟨rfl, rfl⟩ := hxy
    clear HP
    go_wp2_with fail
    go_quiet (fail)
    go_wp2_with fail
    go_ret
    exact ⟨(k : Int), rfl, HF.out _ rfl, below_dN HBn.out _⟩
   ·have hN := eqlN y1 y2 v1 v2
    rw [show (y1 == v1 && y2 == v2) = false by simpa using hxy] at hN
    have hne : ((y1, y2) : Nm) ≠ (v1, v2) := fun e => hxy (by simpa using e)
    have HE : Hid (hasB bs (v1, v2) = hasB (bs.drop (k + 1)) (v1, v2)) := by show _ = _; rw [HK.out.2, HP.out.2 hne]
    clear HP hne hxy
    go_wp2_with fail
    go_quiet (fail)
    go_wp2_with fail
    go_roundw
    case rel => exact ⟨k + 1, by omega, by go_num, below_dN HK.out.1 _, HE.out⟩
    case measure => simp [intOf]; omega
  ·have hlt1 : ¬ (k : Int) < (n : Int) := by omega
   have HE : Hid (hasB bs (v1, v2) = false) := by
    show _ = _
    rw [HK.out.2, List.drop_of_length_le (by have := HX.out.2.2.1; omega)]
    rfl
   clear hRs k1 hR
   go_wp2_with fail
   go_ret
   exact ⟨-1, rfl, .inl ⟨rfl, HE.out⟩, HBn.out⟩
/-- What the reference's Value tells. -/
def VlR (bs : List Bn) (x : Nm) (e : Ending) : Prop := (e = .returned (.tuple #[.slice none 0 0, .bool false]) ∧ lookH (hpOf bs) x = none) ∨ ∃ b ∈ bs, b.x = x ∧ e = .returned (.tuple #[.slice b.a b.n b.c, .bool true])
set_option maxRecDepth 100000 in
set_option maxHeartbeats 4000000 in
theorem z6 (G : Nat → Prop) (rt : Nat) (bs : List Bn) (x : Nm) (w : World) (h : RfH w G rt bs) (hn : bs.length ≤ 4000000000000) :
  Calls Tryz.prog 104 #[.pointer (some ⟨rt, 0, none⟩), .agg #[.int .i64 x.1, .int .i64 x.2]] w fun e w' => VlR bs x e ∧ Below w.heap.size w w' := by
 obtain ⟨W, hW⟩ : ∃ W, w.alloc (.cells #[.int .i64 x.1, .int .i64 x.2] 32) = W := ⟨_, rfl⟩
 obtain ⟨vb, hvb⟩ : ∃ vb, w.heap.size = vb := ⟨_, rfl⟩
 have hbW : Below w.heap.size w W := by rw [← hW]; exact (Below.refl _ w).alloc (Nat.le_refl _) _
 have hc : W.heap[vb]? = some (.cells #[.int .i64 x.1, .int .i64 x.2] 32 (0, 0)) := by rw [← hW, ← hvb]; exact heap_alloc_new w _
 obtain ⟨v0, v1⟩ := box_cells hc
 have H28 : Calls Tryz.prog 73 #[.pointer (some ⟨rt, 0, none⟩), .agg #[.int .i64 x.1, .int .i64 x.2]] W fun e w' => ∃ i : Int, e = .returned (.int .i64 i) ∧ Hid (PlR bs x i ∧ RfH w' G rt bs ∧ Below w.heap.size w w') := by
  refine (i40p G rt bs x W (h.below hbW) hn).mono ?_
  rintro e w' ⟨i, rfl, h1, h2⟩
  exact ⟨i, rfl, h1, (h.below hbW).below h2, hbW.trans (h2.mono hbW.size)⟩
 clear h hbW hc
 obtain ⟨x1, x2⟩ := x
 simp only at *
 go_enter Tryz.func104, Tryz.ntmps104
 go_wp2_with fail
 refine H28.mono ?_
 rintro e w1 ⟨i, rfl, H1⟩
 clear H28 v0 v1
 by_cases hi : i < 0
 ·have HE : Hid (lookH (hpOf bs) (x1, x2) = none ∧ Below w.heap.size w w1) := by
   rcases H1.out.1 with ⟨_, h⟩ | ⟨k, e, _⟩
   ·refine ⟨?_, H1.out.2.2⟩
    unfold hasB at h
    simpa using h
   ·omega
  go_wp2_with fail
  refine bodyPost_ret (v := .tuple #[.slice none 0 0, .bool false]) (by simp [results, Tryz.results104, go_sem]) rfl ⟨.inl ⟨rfl, HE.out.1⟩, HE.out.2⟩
 ·obtain ⟨k, rfl, b, o, la, ln, lc, ra, rc, c0, hlt, rfl, c2, HE⟩ : ∃ k : Nat, i = (k : Int) ∧ ∃ b o la ln lc ra rc, w1.cell? ⟨rt, 0, none⟩ = some (.slice ra bs.length rc) ∧ (k : Int) < (bs.length : Int) ∧ ra = some ⟨b, o, none⟩ ∧ w1.cell? ⟨b, o + k * 3 + 2, none⟩ = some (.slice la ln lc) ∧ Hid ((∃ q ∈ bs, q.x = (x1, x2) ∧ q.a = la ∧ q.n = ln ∧ q.c = lc) ∧ Below w.heap.size w w1) := by
   rcases H1.out.1 with ⟨e, _⟩ | ⟨k, e, hk, hx⟩
   ·omega
   ·obtain ⟨ra, rc, h1, h2, _⟩ := H1.out.2.1.ex
    obtain ⟨b, o, hx2, e2, _, _, _, c2⟩ := h2.at hk
    exact ⟨k, e, b, o, _, _, _, ra, rc, by rw [cell_of_row w1 rt 0 _ 57 (0, 0) h1]; rfl, by omega, e2, c2, ⟨bs[k], List.getElem_mem hk, hx, rfl, rfl, rfl⟩, H1.out.2.2⟩
  clear H1
  have hk0 : (0 : Int) ≤ (k : Int) := by omega
  go_wp2_with fail
  refine bodyPost_ret (v := .tuple #[.slice la ln lc, .bool true]) (by simp [results, Tryz.results104, go_sem]) rfl ?_
  obtain ⟨⟨q, hq, e1, rfl, rfl, rfl⟩, h2⟩ := HE.out
  exact ⟨.inr ⟨q, hq, e1, rfl⟩, h2⟩
theorem links_fol {m : Hp} : ∀ {L : List (List C)} {t : List C}, Links m L → L.head? = some t → Fol m t (lastT L)
 | [], t, _, h => by cases h
 | [a], t, _, h => by
  cases h
  exact .here _
 | a :: b :: r, t, hL, h => by
  cases h
  exact .step hL.1 (links_fol (L := b :: r) hL.2 rfl)
/-- In a round of the reference's Chain. -/
structure Rc (w wr : World) (m : Hp) (t : List C) (z v : Value) (L : List (List C)) (vs : List Value) : Prop where
 own : wr.ownsRow w.heap.size 24 1 v L.length vs
 el : ∀ (i : Nat) (y : Value) (l : List C), vs[i]? = some y → L[i]? = some l → TermAt w y l
 len : vs.length = L.length
 lk : Links m L
 hd : L.head? = some t
 ls : TermAt w z (lastT L)
 wf : ∀ c ∈ lastT L, wfN (c.vn, c.vk)
 rk : rankH m (lastT L) + L.length ≤ m.length + 1
 bel : Below w.heap.size w wr
/-- What the reference's Chain tells. -/
def RcTo (w : World) (m : Hp) (t : List C) (v : Value) (w' : World) : Prop := ∃ L vs, w'.ownsRow w.heap.size 24 1 v L.length vs ∧ (∀ (i : Nat) (y : Value) (l : List C), vs[i]? = some y → L[i]? = some l → TermAt w y l) ∧ vs.length = L.length ∧ Links m L ∧ L.head? = some t ∧ nextH m (lastT L) = none ∧ L.length ≤ m.length + 1 ∧ Below w.heap.size w w'
set_option maxRecDepth 100000 in
set_option maxHeartbeats 4000000 in
theorem z13 (G : Nat → Prop) (rt : Nat) (bs : List Bn) (t : List C) (v : Value) (w : World) (h : RfH w G rt bs) (hup : RisesH (hpOf bs)) (hD : DescH (hpOf bs)) (hwf : ∀ x l, lookH (hpOf bs) x = some l → wfN x ∧ ∀ c ∈ l, wfN (c.vn, c.vk)) (hn : bs.length ≤ 3518437208780) (hT : TermAt w v t) (hW : ∀ c ∈ t, wfN (c.vn, c.vk)) (hne : t ≠ []) :
  Calls Tryz.prog 81 #[.pointer (some ⟨rt, 0, none⟩), v] w fun e w' => ∃ a k c, e = .returned (.slice a k c) ∧ Hid (RcTo w (hpOf bs) t (.slice a k c) w') := by
 obtain ⟨i0, hi, hz, hs1, hby1⟩ := infoT
 obtain ⟨va, vc, hvf⟩ := hT.form
 subst hvf
 have hl0 : t.length ≠ 0 := fun e => hne (List.eq_nil_of_length_eq_zero e)
 have hl1 : ((t.length : Int) == 0) = false := by
  rw [beq_eq_false_iff_ne]
  omega
 have HX : Hid (RfH w G rt bs ∧ RisesH (hpOf bs) ∧ DescH (hpOf bs) ∧ (∀ x l, lookH (hpOf bs) x = some l → wfN x ∧ ∀ c ∈ l, wfN (c.vn, c.vk)) ∧ bs.length ≤ 3518437208780 ∧ (hpOf bs).length = bs.length) := ⟨h, hup, hD, hwf, hn, by simp [hpOf]⟩
 have HI0 : Hid (Rc w (w.alloc (.cells #[.slice va t.length vc] 24)) (hpOf bs) t (.slice va t.length vc) (.slice (some ⟨w.heap.size, 0, none⟩) 1 1) [t] [.slice va t.length vc]) := by
  refine ⟨⟨rfl, .inr ⟨w.heap.size, 1, _, rfl, Nat.le_refl _, heap_alloc_new w _, Nat.le_refl _, by unfold maxLen; omega, rfl, rfl⟩⟩, fun i y l hy hl => ?_, rfl, trivial, rfl, hT, hW, ?_, (Below.refl _ w).alloc (Nat.le_refl _) _⟩
  ·cases i with
   | zero => simp at hy hl; subst hy hl; exact hT
   | succ i => simp at hy
  ·have := rank_le (hpOf bs) t
   simp only [lastT, List.length_singleton]
   omega
 clear h hup hD hwf hT hW
 go_enter Tryz.func81, Tryz.ntmps81
 go_wp2_with fail
 go_loopw [1, 5] (fun zv lv wr => ∃ (L : List (List C)) (vs : List Value) (la : Option Addr) (lc : Nat) (xa : Option Addr) (xn xc k : Nat), zv = .slice xa xn xc ∧ lv = .slice la k lc ∧ k ≤ 3518437208781 ∧ Hid (Rc w wr (hpOf bs) t zv lv L vs ∧ L.length = k)) (fun _ lv _ => bs.length + 2 - lenV lv)
 case atStart => exact ⟨[t], _, _, _, _, _, _, 1, rfl, rfl, by omega, HI0.out, rfl⟩
 case round =>
  clear HI0
  obtain ⟨L, vs, la, lc, xa, xn, xc, k, rfl, rfl, hk, HK⟩ := hrel
  obtain ⟨lt, hlt⟩ : ∃ lt, lastT L = lt := ⟨_, rfl⟩
  have HL : Hid (lastT L = lt) := hlt
  obtain rfl : xn = lt.length := by
   obtain ⟨a', c', e⟩ := HK.out.1.ls.form
   simp only [Value.slice.injEq] at e
   rw [← hlt]
   exact e.2.1
  clear hlt
  by_cases h1 : lt.length = 1
  ·have h1I : (lt.length : Int) = 1 := by omega
   obtain ⟨c, rfl⟩ : ∃ c, lt = [c] := List.length_eq_one_iff.1 h1
   simp only [List.length_singleton] at h1I
   obtain ⟨vb, vo, rfl, q0, q3, q4⟩ : ∃ vb vo, xa = some ⟨vb, vo, none⟩ ∧ wr.cell? ⟨vb, vo, none⟩ = some (.int .u8 c.k) ∧ wr.cell? ⟨vb, vo + 3, none⟩ = some (.int .i64 c.vn) ∧ wr.cell? ⟨vb, vo + 4, none⟩ = some (.int .i64 c.vk) := by
    have h2 := HK.out.1.ls
    rw [HL.out] at h2
    obtain ⟨_, ⟨e, _⟩ | ⟨vb, vo, cap, e, _, _, h5, _⟩⟩ := h2.below HK.out.1.bel
    ·cases e
    ·simp only [Value.slice.injEq] at e
     obtain ⟨rfl, _, _⟩ := e
     have := term_cells h5 0 (by simp)
     simp only [Nat.zero_mul, Nat.add_zero, List.getElem_cons_zero] at this
     exact ⟨vb, vo, rfl, this.1, this.2.2.2.1, this.2.2.2.2⟩
   by_cases hk4 : c.k = 4
   ·have HV : Hid (isVarL [c] = true) := by show _ = _; simp [isVarL, hk4]
    rw [hk4] at q0
    have H6 : Calls Tryz.prog 104 #[.pointer (some ⟨rt, 0, none⟩), .agg #[.int .i64 c.vn, .int .i64 c.vk]] wr fun e w' => VlR bs (c.vn, c.vk) e ∧ Hid (Below wr.heap.size wr w') := z6 G rt bs (c.vn, c.vk) wr (HX.out.1.below HK.out.1.bel) (by omega)
    clear h1
    go_wp2_with fail
    refine H6.mono ?_
    rintro e w2 ⟨⟨rfl, hnone⟩ | ⟨b, hbm, hbx, rfl⟩, H2⟩
    ·have HE : Hid (RcTo w (hpOf bs) t (.slice la k lc) w2) := by
      obtain ⟨q1, q2⟩ := HK.out
      subst q2
      refine ⟨L, vs, owns_below' q1.own H2.out, q1.el, q1.len, q1.lk, q1.hd, ?_, by have := q1.rk; omega, q1.bel.trans (H2.out.mono q1.bel.size)⟩
      rw [HL.out]
      unfold nextH
      rw [if_pos HV.out]
      exact hnone
     clear hnone H6
     go_wp2_with fail
     go_ret
     exact ⟨la, k, lc, rfl, HE⟩
    ·have hlk : lookH (hpOf bs) (c.vn, c.vk) = some b.l := by
      rw [← hbx]
      exact (look_mem_iff _ HX.out.2.1 _ _).2 (List.mem_map.2 ⟨b, hbm, rfl⟩)
     have hnx : nextH (hpOf bs) (lastT L) = some b.l := by
      rw [HL.out]
      unfold nextH
      rw [if_pos HV.out]
      exact hlk
     have hrk : k ≤ bs.length := by
      have h2 := HK.out.1.rk
      have h3 := rank_falls HX.out.2.2.1 hnx
      have h4 := HX.out.2.2.2.2.2
      have h5 := HK.out.2
      omega
     have HB : Hid (TermAt w (.slice b.a b.n b.c) b.l ∧ nextH (hpOf bs) (lastT L) = some b.l ∧ (∀ c ∈ b.l, wfN (c.vn, c.vk)) ∧ Below w.heap.size w (w2.alloc (.cells #[.slice b.a b.n b.c] 24)) ∧ (w2.alloc (.cells #[.slice b.a b.n b.c] 24)).ownsRow w.heap.size 24 1 (.slice la k lc) k vs) := by
      have hb2 : Below wr.heap.size wr (w2.alloc (.cells #[.slice b.a b.n b.c] 24)) := H2.out.alloc H2.out.size _
      refine ⟨(HX.out.1.lst b hbm).1, hnx, (HX.out.2.2.2.1 _ _ hlk).2, HK.out.1.bel.trans (hb2.mono HK.out.1.bel.size), ?_⟩
      have := owns_below' HK.out.1.own hb2
      rw [HK.out.2] at this
      exact this
     have hbs : bs.length ≤ 3518437208780 := HX.out.2.2.2.2.1
     obtain ⟨ba, hba⟩ : ∃ ba, b.a = ba := ⟨_, rfl⟩
     obtain ⟨bn, hbn⟩ : ∃ bn, b.n = bn := ⟨_, rfl⟩
     obtain ⟨bc, hbc⟩ : ∃ bc, b.c = bc := ⟨_, rfl⟩
     obtain ⟨bl, hbl⟩ : ∃ bl, b.l = bl := ⟨_, rfl⟩
     rw [hba, hbn, hbc, hbl] at HB
     rw [hba, hbn, hbc]
     clear hlk hnx hbm hbx H6 H2 hba hbn hbc hbl q0 q3 q4
     go_wp2_with (at_builtin; refine wpList_append_own _ rfl _ _ 33 rfl w.heap.size 24 i0 _ 1 24 Tryz.underlying33 hi hz hs1 hby1 rfl (by decide) _ _ _ rfl HB.out.2.2.2.2 ⟨w2.heap.size, 0, none⟩ 1 1 [.slice ba bn bc] rfl rfl (fun j u hu => by rw [Addr.add_mid, Nat.zero_add, cell_of_row _ w2.heap.size j _ 24 (0, 0) (heap_alloc_new w2 _)]; simpa using hu) (fun u hu => by simp at hu; subst hu; rfl) (by unfold maxLen; omega) (by omega) HB.out.2.2.2.1.size ?_)
     intro v' w4 hown hgr _
     obtain ⟨k1, hk1⟩ : ∃ k1, k + 1 = k1 := ⟨_, rfl⟩
     obtain ⟨la', lc', rfl, HF⟩ : ∃ la' lc', v' = .slice la' k1 lc' ∧ Hid (Rc w w4 (hpOf bs) t (.slice ba bn bc) (.slice la' k1 lc') (L ++ [bl]) (vs ++ [.slice ba bn bc]) ∧ (L ++ [bl]).length = k1) := by
      obtain ⟨a', c', e, _⟩ := own_sl hown
      subst e
      obtain ⟨g1, g2⟩ := HK.out
      have e1 : (L ++ [bl]).length = k1 := by simp; omega
      refine ⟨a', c', by rw [hk1], ⟨?_, fun i y l hy hl => ?_, by simp [g1.len], links_snoc g1.lk (fun e => by have := g1.hd; rw [e] at this; cases this) HB.out.2.1, ?_, ?_, ?_, ?_, ?_⟩, e1⟩
      ·rw [e1, ← hk1]
       exact hown
      ·by_cases hlt : i < vs.length
       ·rw [List.getElem?_append_left hlt] at hy
        rw [List.getElem?_append_left (by rw [← g1.len]; exact hlt)] at hl
        exact g1.el i y l hy hl
       ·have e : i = vs.length := by
         have := (List.getElem?_eq_some_iff.1 hy).1
         simp at this
         omega
        subst e
        rw [List.getElem?_append_right (Nat.le_refl _)] at hy
        rw [g1.len, List.getElem?_append_right (Nat.le_refl _)] at hl
        simp at hy hl
        subst hy hl
        exact HB.out.1
      ·have := g1.hd
       cases hL : L with
       | nil => rw [hL] at this; cases this
       | cons x y => rw [hL] at this; simpa using this
      ·rw [lastT_snoc]
       exact HB.out.1
      ·rw [lastT_snoc]
       exact HB.out.2.2.1
      ·rw [lastT_snoc]
       have h2 := g1.rk
       have h3 := rank_falls HX.out.2.2.1 HB.out.2.1
       simp
       omega
      ·exact HB.out.2.2.2.1.grown hgr HB.out.2.2.2.1.size (fun g hg => (HB.out.2.2.2.2.lt g hg).1)
     clear hown hgr HB HK HL HV
     go_wp2_with fail
     go_roundw
     case rel => exact ⟨L ++ [bl], vs ++ [.slice ba bn bc], la', lc', ba, bn, bc, k1, rfl, rfl, by omega, HF⟩
     case measure => simp [lenV]; omega
   ·have HE : Hid (RcTo w (hpOf bs) t (.slice la k lc) wr) := by
     obtain ⟨q1, q2⟩ := HK.out
     subst q2
     refine ⟨L, vs, q1.own, q1.el, q1.len, q1.lk, q1.hd, ?_, by have := q1.rk; omega, q1.bel⟩
     rw [HL.out]
     unfold nextH
     rw [if_neg (by simp [isVarL, hk4])]
    clear h1
    go_wp2_with fail
    go_ret
    exact ⟨la, k, lc, rfl, HE⟩
  ·have h1I : ¬ (lt.length : Int) = 1 := by omega
   have HE : Hid (RcTo w (hpOf bs) t (.slice la k lc) wr) := by
    obtain ⟨q1, q2⟩ := HK.out
    subst q2
    refine ⟨L, vs, q1.own, q1.el, q1.len, q1.lk, q1.hd, ?_, by have := q1.rk; omega, q1.bel⟩
    rw [HL.out]
    unfold nextH
    rw [if_neg ?_]
    intro h
    match lt, h, h1 with
    | [c], _, h1 => exact h1 rfl
   go_wp2_with fail
   go_ret
   exact ⟨la, k, lc, rfl, HE⟩
theorem lastT_at {L : List (List C)} : ∀ (_ : L ≠ []), L[L.length - 1]? = some (lastT L) := by
 induction L with
 | nil => intro h; exact absurd rfl h
 | cons a r ih =>
  intro _
  cases r with
  | nil => rfl
  | cons b s =>
   have := ih (by simp)
   simp only [List.length_cons, Nat.add_sub_cancel] at this ⊢
   simpa [lastT] using this
set_option maxRecDepth 100000 in
set_option maxHeartbeats 4000000 in
theorem z15 (G : Nat → Prop) (rt : Nat) (bs : List Bn) (t : List C) (v : Value) (w : World) (h : RfH w G rt bs) (hup : RisesH (hpOf bs)) (hD : DescH (hpOf bs)) (hwf : ∀ x l, lookH (hpOf bs) x = some l → wfN x ∧ ∀ c ∈ l, wfN (c.vn, c.vk)) (hn : bs.length ≤ 3518437208780) (hT : TermAt w v t) (hW : ∀ c ∈ t, wfN (c.vn, c.vk)) (hne : t ≠ []) :
  Calls Tryz.prog 45 #[.pointer (some ⟨rt, 0, none⟩), v] w fun e w' => ∃ a k c l', e = .returned (.slice a k c) ∧ Hid (TermAt w (.slice a k c) l' ∧ k = l'.length ∧ IsFol (hpOf bs) t l' ∧ Below w.heap.size w w') := by
 obtain ⟨va, vc, hvf⟩ := hT.form
 subst hvf
 have H13 := z13 G rt bs t _ w h hup hD hwf hn hT hW hne
 have HM : Hid ((hpOf bs).length ≤ 3518437208780) := by
  show _ ≤ _
  simpa [hpOf] using hn
 clear h hup hD hwf hT hW
 go_enter Tryz.func45, Tryz.ntmps45
 go_wp2_with fail
 refine H13.mono ?_
 rintro e w1 ⟨a, k, c, rfl, H1⟩
 clear H13
 obtain ⟨j, g, o, za, zn, zc, l', hj, rfl, rfl, c0, HE⟩ : ∃ (j g o : Nat) (za : Option Addr) (zn zc : Nat) (l' : List C), j ≤ 3518437208781 ∧ k = j + 1 ∧ a = some ⟨g, o, none⟩ ∧ w1.cell? ⟨g, o + j, none⟩ = some (.slice za zn zc) ∧ Hid (TermAt w (.slice za zn zc) l' ∧ zn = l'.length ∧ IsFol (hpOf bs) t l' ∧ Below w.heap.size w w1) := by
  obtain ⟨L, vs, h1, h2, h3, h4, h5, h6, h7, h8⟩ := H1.out
  have hL : L ≠ [] := fun e => by rw [e] at h5; cases h5
  have hll : 1 ≤ L.length := by
   cases L with
   | nil => exact absurd rfl hL
   | cons x y => simp
  obtain ⟨a', c', e', _, hr⟩ := own_sl h1
  simp only [Value.slice.injEq] at e'
  obtain ⟨rfl, rfl, rfl⟩ := e'
  rcases hr with hr | ⟨g, o, rfl, _, hrg⟩
  ·omega
  have hz : vs[L.length - 1]? = some vs[L.length - 1] := List.getElem?_eq_getElem (by omega)
  have ht := h2 _ _ _ hz (lastT_at hL)
  obtain ⟨za, zc, hf⟩ := ht.form
  have hc0 := hrg _ _ hz
  rw [hf] at ht hc0
  exact ⟨L.length - 1, g, o, za, _, zc, lastT L, by have := HM.out; omega, by omega, rfl, hc0, ht, rfl, ⟨links_fol h4 h5, h6⟩, h8⟩
 clear H1
 have hj0 : ¬ ((j : Int) + 1 = 0) := by omega
 have hj1 : IntKind.i64.wrap ((j : Int) + 1 - 1) = (j : Int) := by rw [IntKind.wrap_i64]; omega
 have hj2 : (0 : Int) ≤ (j : Int) := by omega
 have hj3 : (j : Int) < (j : Int) + 1 := by omega
 go_wp2_with fail
 go_ret
 exact ⟨za, zn, zc, l', rfl, HE⟩
end Go.Proofs.YtljggjllijacjaaGreatDoor
