/- The reference's Value, Chain, Deref, Resolve, Fork, Drop; the program's Fork and Drop; the statement that each call of a heap is as the document says. -/
import Derived.Maps.Views
import Derived.Shelf.SlMaps.Clone
import Derived.Maps.AppendAt
import Derived.Test.YtgcpkkeonameeaaGreatDoorJH
namespace Go.Proofs.YtgcpkkeonameeaaGreatDoor
open Go.RowKit
attribute [local go_sem ↓] Go.wp_at_zero Go.wp_at_succ
/-- Where a name stands. -/
def PlR (bs : List Bn) (v : Nm) (i : Int) : Prop := (i = -1 ∧ hasB bs v = false) ∨ ∃ k : Nat, i = (k : Int) ∧ ∃ hk : k < bs.length, bs[k].x = v
set_option maxRecDepth 100000 in
set_option maxHeartbeats 4000000 in
theorem i40p (G : Nat → Prop) (rt : Nat) (bs : List Bn) (v : Nm) (w : World) (h : RfH w G rt bs) (hn : bs.length ≤ 4000000000000) :
    Calls Tryz.prog 28 #[.pointer (some ⟨rt, 0, none⟩), .agg #[.int .i64 v.1, .int .i64 v.2]] w fun e w' => ∃ i : Int, e = .returned (.int .i64 i) ∧ PlR bs v i ∧ Below w.heap.size w w' := by
  obtain ⟨W, hW⟩ : ∃ W, w.alloc (.cells #[.int .i64 v.1, .int .i64 v.2] 24) = W := ⟨_, rfl⟩
  obtain ⟨vb, hvb⟩ : ∃ vb, w.heap.size = vb := ⟨_, rfl⟩
  obtain ⟨n, hnn⟩ : ∃ n, bs.length = n := ⟨_, rfl⟩
  have hbW : Below w.heap.size w W := by rw [← hW]; exact (Below.refl _ w).alloc (Nat.le_refl _) _
  have hc : W.heap[vb]? = some (.cells #[.int .i64 v.1, .int .i64 v.2] 24 (0, 0)) := by rw [← hW, ← hvb]; exact heap_alloc_new w _
  have HX : Hid (RfH W G rt bs ∧ Below w.heap.size w W ∧ bs.length = n ∧ W.heap[vb]? = some (.cells #[.int .i64 v.1, .int .i64 v.2] 24 (0, 0)) ∧ n ≤ 4000000000000) := ⟨h.below hbW, hbW, hnn, hc, hnn ▸ hn⟩
  have hn' : n ≤ 4000000000000 := hnn ▸ hn
  clear h hc hbW hn hnn
  obtain ⟨v1, v2⟩ := v
  simp only at hW
  go_enter Tryz.func28, Tryz.ntmps28
  go_wp2_with fail
  go_loopw [5] (fun i wr => ∃ k : Nat, k ≤ n ∧ i = .int .i64 k ∧ Hid (Below W.heap.size W wr ∧ hasB bs (v1, v2) = hasB (bs.drop k) (v1, v2))) (fun i _ => n - (intOf i).toNat)
  case atStart => exact ⟨0, Nat.zero_le _, rfl, Below.refl _ _, by simp⟩
  case round =>
    clear hW hvb
    obtain ⟨k, hk, rfl, HK⟩ := hrel
    have hR : RfH wr G rt bs := HX.out.1.below HK.out.1
    obtain ⟨ra, rc, k1, hRs, _⟩ := hR.ex
    have q0 : wr.cell? ⟨rt, 0, none⟩ = some (.slice ra bs.length rc) := by rw [cell_of_row wr rt 0 _ 48 (0, 0) k1]; rfl
    rw [HX.out.2.2.1] at q0
    have hvl : vb < W.heap.size := (Array.getElem?_eq_some_iff.1 HX.out.2.2.2.1).1
    obtain ⟨v0, v1'⟩ := box_cells ((HK.out.1.block vb hvl).trans HX.out.2.2.2.1)
    have HBn : Hid (Below w.heap.size w wr) := HX.out.2.1.trans (HK.out.1.mono HX.out.2.1.size)
    by_cases hlt : k < n
    · have hlt1 : (k : Int) < (n : Int) := by omega
      have hk0 : (0 : Int) ≤ (k : Int) := by omega
      obtain ⟨b1, o1, hk1, rfl, _, c0, c1, c2⟩ := hRs.at (k := k) (by have := HX.out.2.2.1; omega)
      clear c2
      have HP : Hid _ := hasB_drop bs (v1, v2) k hk1
      have HF : Hid (∀ z, bs[k].x = z → PlR bs z k) := fun z e => .inr ⟨k, rfl, hk1, e⟩
      generalize bs[k].x = y at *
      obtain ⟨y1, y2⟩ := y
      simp only at c0 c1
      clear hR hRs hk1 hvl k1
      by_cases hxy : y1 = v1 ∧ y2 = v2
      · obtain ⟨rfl, rfl⟩ := hxy
        clear HP
        go_wp2_with fail
        go_quiet (fail)
        go_wp2_with fail
        go_ret
        exact ⟨(k : Int), rfl, HF.out _ rfl, below_dN HBn.out _⟩
      · have hN := eqlN y1 y2 v1 v2
        rw [show (y1 == v1 && y2 == v2) = false by simpa using hxy] at hN
        have hne : ((y1, y2) : Nm) ≠ (v1, v2) := fun e => hxy (by simpa using e)
        have HE : Hid (hasB bs (v1, v2) = hasB (bs.drop (k + 1)) (v1, v2)) := by show _ = _; rw [HK.out.2, HP.out.2 hne]
        clear HP hne hxy
        go_wp2_with fail
        go_quiet (fail)
        go_wp2_with fail
        go_roundw
        case rel => exact ⟨k + 1, by omega, by go_num, below_dN HK.out.1 _, HE.out⟩
        case measure => simp [intOf]; omega
    · have hlt1 : ¬ (k : Int) < (n : Int) := by omega
      have HE : Hid (hasB bs (v1, v2) = false) := by
        show _ = _
        rw [HK.out.2, List.drop_of_length_le (by have := HX.out.2.2.1; omega)]
        rfl
      clear hRs k1 hR
      go_wp2_with fail
      go_ret
      exact ⟨-1, rfl, .inl ⟨rfl, HE.out⟩, HBn.out⟩
/-- What the reference's Value tells. -/
def VlR (bs : List Bn) (x : Nm) (e : Ending) : Prop := (e = .returned (.tuple #[.slice none 0 0, .bool false]) ∧ lookH (hpOf bs) x = none) ∨ ∃ b ∈ bs, b.x = x ∧ e = .returned (.tuple #[.slice b.a b.n b.c, .bool true])
set_option maxRecDepth 100000 in
set_option maxHeartbeats 4000000 in
theorem z6 (G : Nat → Prop) (rt : Nat) (bs : List Bn) (x : Nm) (w : World) (h : RfH w G rt bs) (hn : bs.length ≤ 4000000000000) :
    Calls Tryz.prog 6 #[.pointer (some ⟨rt, 0, none⟩), .agg #[.int .i64 x.1, .int .i64 x.2]] w fun e w' => VlR bs x e ∧ Below w.heap.size w w' := by
  obtain ⟨W, hW⟩ : ∃ W, w.alloc (.cells #[.int .i64 x.1, .int .i64 x.2] 24) = W := ⟨_, rfl⟩
  obtain ⟨vb, hvb⟩ : ∃ vb, w.heap.size = vb := ⟨_, rfl⟩
  have hbW : Below w.heap.size w W := by rw [← hW]; exact (Below.refl _ w).alloc (Nat.le_refl _) _
  have hc : W.heap[vb]? = some (.cells #[.int .i64 x.1, .int .i64 x.2] 24 (0, 0)) := by rw [← hW, ← hvb]; exact heap_alloc_new w _
  obtain ⟨v0, v1⟩ := box_cells hc
  have H28 : Calls Tryz.prog 28 #[.pointer (some ⟨rt, 0, none⟩), .agg #[.int .i64 x.1, .int .i64 x.2]] W fun e w' => ∃ i : Int, e = .returned (.int .i64 i) ∧ Hid (PlR bs x i ∧ RfH w' G rt bs ∧ Below w.heap.size w w') := by
    refine (i40p G rt bs x W (h.below hbW) hn).mono ?_
    rintro e w' ⟨i, rfl, h1, h2⟩
    exact ⟨i, rfl, h1, (h.below hbW).below h2, hbW.trans (h2.mono hbW.size)⟩
  clear h hbW hc
  obtain ⟨x1, x2⟩ := x
  simp only at *
  go_enter Tryz.func6, Tryz.ntmps6
  go_wp2_with fail
  refine H28.mono ?_
  rintro e w1 ⟨i, rfl, H1⟩
  clear H28 v0 v1
  by_cases hi : i < 0
  · have HE : Hid (lookH (hpOf bs) (x1, x2) = none ∧ Below w.heap.size w w1) := by
      rcases H1.out.1 with ⟨_, h⟩ | ⟨k, e, _⟩
      · refine ⟨?_, H1.out.2.2⟩
        unfold hasB at h
        simpa using h
      · omega
    go_wp2_with fail
    refine bodyPost_ret (v := .tuple #[.slice none 0 0, .bool false]) (by simp [results, Tryz.results6, go_sem]) rfl ⟨.inl ⟨rfl, HE.out.1⟩, HE.out.2⟩
  · obtain ⟨k, rfl, b, o, la, ln, lc, ra, rc, c0, hlt, rfl, c2, HE⟩ : ∃ k : Nat, i = (k : Int) ∧ ∃ b o la ln lc ra rc, w1.cell? ⟨rt, 0, none⟩ = some (.slice ra bs.length rc) ∧ (k : Int) < (bs.length : Int) ∧ ra = some ⟨b, o, none⟩ ∧ w1.cell? ⟨b, o + k * 3 + 2, none⟩ = some (.slice la ln lc) ∧ Hid ((∃ q ∈ bs, q.x = (x1, x2) ∧ q.a = la ∧ q.n = ln ∧ q.c = lc) ∧ Below w.heap.size w w1) := by
      rcases H1.out.1 with ⟨e, _⟩ | ⟨k, e, hk, hx⟩
      · omega
      · obtain ⟨ra, rc, h1, h2, _⟩ := H1.out.2.1.ex
        obtain ⟨b, o, hx2, e2, _, _, _, c2⟩ := h2.at hk
        exact ⟨k, e, b, o, _, _, _, ra, rc, by rw [cell_of_row w1 rt 0 _ 48 (0, 0) h1]; rfl, by omega, e2, c2, ⟨bs[k], List.getElem_mem hk, hx, rfl, rfl, rfl⟩, H1.out.2.2⟩
    clear H1
    have hk0 : (0 : Int) ≤ (k : Int) := by omega
    go_wp2_with fail
    refine bodyPost_ret (v := .tuple #[.slice la ln lc, .bool true]) (by simp [results, Tryz.results6, go_sem]) rfl ?_
    obtain ⟨⟨q, hq, e1, rfl, rfl, rfl⟩, h2⟩ := HE.out
    exact ⟨.inr ⟨q, hq, e1, rfl⟩, h2⟩
theorem links_fol {m : Hp} : ∀ {L : List (List C)} {t : List C}, Links m L → L.head? = some t → Fol m t (lastT L)
  | [], t, _, h => by cases h
  | [a], t, _, h => by
    cases h
    exact .here _
  | a :: b :: r, t, hL, h => by
    cases h
    exact .step hL.1 (links_fol (L := b :: r) hL.2 rfl)
theorem links_uniq {m : Hp} : ∀ {L L' : List (List C)}, Links m L → Links m L' → L.head? = L'.head? → L ≠ [] → nextH m (lastT L) = none → nextH m (lastT L') = none → L = L'
  | [], _, _, _, _, h, _, _ => absurd rfl h
  | [a], [], _, _, h, _, _, _ => by cases h
  | [a], [b], _, _, h, _, _, _ => by cases h; rfl
  | [a], b :: c :: r, _, hL', h, _, h1, _ => by
    cases h
    have h2 := hL'.1
    have h3 : nextH m a = none := h1
    rw [h3] at h2
    cases h2
  | a :: b :: r, [], _, _, h, _, _, _ => by cases h
  | a :: b :: r, [c], hL, _, h, _, _, h1 => by
    cases h
    have h2 := hL.1
    have h3 : nextH m a = none := h1
    rw [h3] at h2
    cases h2
  | a :: b :: r, c :: d :: s, hL, hL', h, _, h1, h2 => by
    cases h
    have e := hL.1.symm.trans hL'.1
    cases e
    have := links_uniq (L := b :: r) (L' := b :: s) hL.2 hL'.2 rfl (by simp) h1 h2
    rw [this]
/-- In a round of the reference's Chain. -/
structure Rc (w wr : World) (m : Hp) (t : List C) (z v : Value) (L : List (List C)) (vs : List Value) : Prop where
  own : wr.ownsRow w.heap.size 26 1 v L.length vs
  el : ∀ (i : Nat) (y : Value) (l : List C), vs[i]? = some y → L[i]? = some l → TermAt w y l
  len : vs.length = L.length
  lk : Links m L
  hd : L.head? = some t
  ls : TermAt w z (lastT L)
  wf : ∀ c ∈ lastT L, wfN (c.vn, c.vk)
  rk : rankH m (lastT L) + L.length ≤ m.length + 1
  bel : Below w.heap.size w wr
/-- What the reference's Chain tells. -/
def RcTo (w : World) (m : Hp) (t : List C) (v : Value) (w' : World) : Prop := ∃ L vs, w'.ownsRow w.heap.size 26 1 v L.length vs ∧ (∀ (i : Nat) (y : Value) (l : List C), vs[i]? = some y → L[i]? = some l → TermAt w y l) ∧ vs.length = L.length ∧ Links m L ∧ L.head? = some t ∧ nextH m (lastT L) = none ∧ L.length ≤ m.length + 1 ∧ Below w.heap.size w w'
set_option maxRecDepth 100000 in
set_option maxHeartbeats 4000000 in
theorem z13 (G : Nat → Prop) (rt : Nat) (bs : List Bn) (t : List C) (v : Value) (w : World) (h : RfH w G rt bs) (hup : RisesH (hpOf bs)) (hD : DescH (hpOf bs)) (hwf : ∀ x l, lookH (hpOf bs) x = some l → wfN x ∧ ∀ c ∈ l, wfN (c.vn, c.vk)) (hn : bs.length ≤ 3518437208780) (hT : TermAt w v t) (hW : ∀ c ∈ t, wfN (c.vn, c.vk)) (hne : t ≠ []) :
    Calls Tryz.prog 13 #[.pointer (some ⟨rt, 0, none⟩), v] w fun e w' => ∃ a k c, e = .returned (.slice a k c) ∧ Hid (RcTo w (hpOf bs) t (.slice a k c) w') := by
  obtain ⟨i0, hi, hz, hs1, hby1⟩ := infoT
  obtain ⟨va, vc, hvf⟩ := hT.form
  subst hvf
  have hl0 : t.length ≠ 0 := fun e => hne (List.eq_nil_of_length_eq_zero e)
  have hl1 : ((t.length : Int) == 0) = false := by
    rw [beq_eq_false_iff_ne]
    omega
  have HX : Hid (RfH w G rt bs ∧ RisesH (hpOf bs) ∧ DescH (hpOf bs) ∧ (∀ x l, lookH (hpOf bs) x = some l → wfN x ∧ ∀ c ∈ l, wfN (c.vn, c.vk)) ∧ bs.length ≤ 3518437208780 ∧ (hpOf bs).length = bs.length) := ⟨h, hup, hD, hwf, hn, by simp [hpOf]⟩
  have HI0 : Hid (Rc w (w.alloc (.cells #[.slice va t.length vc] 26)) (hpOf bs) t (.slice va t.length vc) (.slice (some ⟨w.heap.size, 0, none⟩) 1 1) [t] [.slice va t.length vc]) := by
    refine ⟨⟨rfl, .inr ⟨w.heap.size, 1, _, rfl, Nat.le_refl _, heap_alloc_new w _, Nat.le_refl _, by unfold maxLen; omega, rfl, rfl⟩⟩, fun i y l hy hl => ?_, rfl, trivial, rfl, hT, hW, ?_, (Below.refl _ w).alloc (Nat.le_refl _) _⟩
    · cases i with
      | zero => simp at hy hl; subst hy hl; exact hT
      | succ i => simp at hy
    · have := rank_le (hpOf bs) t
      simp only [lastT, List.length_singleton]
      omega
  clear h hup hD hwf hT hW
  go_enter Tryz.func13, Tryz.ntmps13
  go_wp2_with fail
  go_loopw [1, 5] (fun zv lv wr => ∃ (L : List (List C)) (vs : List Value) (la : Option Addr) (lc : Nat) (xa : Option Addr) (xn xc k : Nat), zv = .slice xa xn xc ∧ lv = .slice la k lc ∧ k ≤ 3518437208781 ∧ Hid (Rc w wr (hpOf bs) t zv lv L vs ∧ L.length = k)) (fun _ lv _ => bs.length + 2 - lenV lv)
  case atStart => exact ⟨[t], _, _, _, _, _, _, 1, rfl, rfl, by omega, HI0.out, rfl⟩
  case round =>
    clear HI0
    obtain ⟨L, vs, la, lc, xa, xn, xc, k, rfl, rfl, hk, HK⟩ := hrel
    obtain ⟨lt, hlt⟩ : ∃ lt, lastT L = lt := ⟨_, rfl⟩
    have HL : Hid (lastT L = lt) := hlt
    obtain rfl : xn = lt.length := by
      obtain ⟨a', c', e⟩ := HK.out.1.ls.form
      simp only [Value.slice.injEq] at e
      rw [← hlt]
      exact e.2.1
    clear hlt
    by_cases h1 : lt.length = 1
    · have h1I : (lt.length : Int) = 1 := by omega
      obtain ⟨c, rfl⟩ : ∃ c, lt = [c] := List.length_eq_one_iff.1 h1
      simp only [List.length_singleton] at h1I
      obtain ⟨vb, vo, rfl, q0, q3, q4⟩ : ∃ vb vo, xa = some ⟨vb, vo, none⟩ ∧ wr.cell? ⟨vb, vo, none⟩ = some (.int .u8 c.k) ∧ wr.cell? ⟨vb, vo + 3, none⟩ = some (.int .i64 c.vn) ∧ wr.cell? ⟨vb, vo + 4, none⟩ = some (.int .i64 c.vk) := by
        have h2 := HK.out.1.ls
        rw [HL.out] at h2
        obtain ⟨_, ⟨e, _⟩ | ⟨vb, vo, cap, e, _, _, h5, _⟩⟩ := h2.below HK.out.1.bel
        · cases e
        · simp only [Value.slice.injEq] at e
          obtain ⟨rfl, _, _⟩ := e
          have := term_cells h5 0 (by simp)
          simp only [Nat.zero_mul, Nat.add_zero, List.getElem_cons_zero] at this
          exact ⟨vb, vo, rfl, this.1, this.2.2.2.1, this.2.2.2.2⟩
      by_cases hk4 : c.k = 4
      · have HV : Hid (isVarL [c] = true) := by show _ = _; simp [isVarL, hk4]
        rw [hk4] at q0
        have H6 : Calls Tryz.prog 6 #[.pointer (some ⟨rt, 0, none⟩), .agg #[.int .i64 c.vn, .int .i64 c.vk]] wr fun e w' => VlR bs (c.vn, c.vk) e ∧ Hid (Below wr.heap.size wr w') := z6 G rt bs (c.vn, c.vk) wr (HX.out.1.below HK.out.1.bel) (by omega)
        clear h1
        go_wp2_with fail
        refine H6.mono ?_
        rintro e w2 ⟨⟨rfl, hnone⟩ | ⟨b, hbm, hbx, rfl⟩, H2⟩
        · have HE : Hid (RcTo w (hpOf bs) t (.slice la k lc) w2) := by
            obtain ⟨q1, q2⟩ := HK.out
            subst q2
            refine ⟨L, vs, owns_below' q1.own H2.out, q1.el, q1.len, q1.lk, q1.hd, ?_, by have := q1.rk; omega, q1.bel.trans (H2.out.mono q1.bel.size)⟩
            rw [HL.out]
            unfold nextH
            rw [if_pos HV.out]
            exact hnone
          clear hnone H6
          go_wp2_with fail
          go_ret
          exact ⟨la, k, lc, rfl, HE⟩
        · have hlk : lookH (hpOf bs) (c.vn, c.vk) = some b.l := by
            rw [← hbx]
            exact (look_mem_iff _ HX.out.2.1 _ _).2 (List.mem_map.2 ⟨b, hbm, rfl⟩)
          have hnx : nextH (hpOf bs) (lastT L) = some b.l := by
            rw [HL.out]
            unfold nextH
            rw [if_pos HV.out]
            exact hlk
          have hrk : k ≤ bs.length := by
            have h2 := HK.out.1.rk
            have h3 := rank_falls HX.out.2.2.1 hnx
            have h4 := HX.out.2.2.2.2.2
            have h5 := HK.out.2
            omega
          have HB : Hid (TermAt w (.slice b.a b.n b.c) b.l ∧ nextH (hpOf bs) (lastT L) = some b.l ∧ (∀ c ∈ b.l, wfN (c.vn, c.vk)) ∧ Below w.heap.size w (w2.alloc (.cells #[.slice b.a b.n b.c] 26)) ∧ (w2.alloc (.cells #[.slice b.a b.n b.c] 26)).ownsRow w.heap.size 26 1 (.slice la k lc) k vs) := by
            have hb2 : Below wr.heap.size wr (w2.alloc (.cells #[.slice b.a b.n b.c] 26)) := H2.out.alloc H2.out.size _
            refine ⟨(HX.out.1.lst b hbm).1, hnx, (HX.out.2.2.2.1 _ _ hlk).2, HK.out.1.bel.trans (hb2.mono HK.out.1.bel.size), ?_⟩
            have := owns_below' HK.out.1.own hb2
            rw [HK.out.2] at this
            exact this
          have hbs : bs.length ≤ 3518437208780 := HX.out.2.2.2.2.1
          obtain ⟨ba, hba⟩ : ∃ ba, b.a = ba := ⟨_, rfl⟩
          obtain ⟨bn, hbn⟩ : ∃ bn, b.n = bn := ⟨_, rfl⟩
          obtain ⟨bc, hbc⟩ : ∃ bc, b.c = bc := ⟨_, rfl⟩
          obtain ⟨bl, hbl⟩ : ∃ bl, b.l = bl := ⟨_, rfl⟩
          rw [hba, hbn, hbc, hbl] at HB
          rw [hba, hbn, hbc]
          clear hlk hnx hbm hbx H6 H2 hba hbn hbc hbl q0 q3 q4
          go_wp2_with (at_builtin; refine wpList_append_own _ rfl _ _ 42 rfl w.heap.size 26 i0 _ 1 24 Tryz.underlying42 hi hz hs1 hby1 rfl (by decide) _ _ _ rfl HB.out.2.2.2.2 ⟨w2.heap.size, 0, none⟩ 1 1 [.slice ba bn bc] rfl rfl (fun j u hu => by rw [Addr.add_mid, Nat.zero_add, cell_of_row _ w2.heap.size j _ 26 (0, 0) (heap_alloc_new w2 _)]; simpa using hu) (fun u hu => by simp at hu; subst hu; rfl) (by unfold maxLen; omega) (by omega) HB.out.2.2.2.1.size ?_)
          intro v' w4 hown hgr _
          obtain ⟨k1, hk1⟩ : ∃ k1, k + 1 = k1 := ⟨_, rfl⟩
          obtain ⟨la', lc', rfl, HF⟩ : ∃ la' lc', v' = .slice la' k1 lc' ∧ Hid (Rc w w4 (hpOf bs) t (.slice ba bn bc) (.slice la' k1 lc') (L ++ [bl]) (vs ++ [.slice ba bn bc]) ∧ (L ++ [bl]).length = k1) := by
            obtain ⟨a', c', e, _⟩ := own_sl hown
            subst e
            obtain ⟨g1, g2⟩ := HK.out
            have e1 : (L ++ [bl]).length = k1 := by simp; omega
            refine ⟨a', c', by rw [hk1], ⟨?_, fun i y l hy hl => ?_, by simp [g1.len], links_snoc g1.lk (fun e => by have := g1.hd; rw [e] at this; cases this) HB.out.2.1, ?_, ?_, ?_, ?_, ?_⟩, e1⟩
            · rw [e1, ← hk1]
              exact hown
            · by_cases hlt : i < vs.length
              · rw [List.getElem?_append_left hlt] at hy
                rw [List.getElem?_append_left (by rw [← g1.len]; exact hlt)] at hl
                exact g1.el i y l hy hl
              · have e : i = vs.length := by
                  have := (List.getElem?_eq_some_iff.1 hy).1
                  simp at this
                  omega
                subst e
                rw [List.getElem?_append_right (Nat.le_refl _)] at hy
                rw [g1.len, List.getElem?_append_right (Nat.le_refl _)] at hl
                simp at hy hl
                subst hy hl
                exact HB.out.1
            · have := g1.hd
              cases hL : L with
              | nil => rw [hL] at this; cases this
              | cons x y => rw [hL] at this; simpa using this
            · rw [lastT_snoc]
              exact HB.out.1
            · rw [lastT_snoc]
              exact HB.out.2.2.1
            · rw [lastT_snoc]
              have h2 := g1.rk
              have h3 := rank_falls HX.out.2.2.1 HB.out.2.1
              simp
              omega
            · exact HB.out.2.2.2.1.grown hgr HB.out.2.2.2.1.size (fun g hg => (HB.out.2.2.2.2.lt g hg).1)
          clear hown hgr HB HK HL HV
          go_wp2_with fail
          go_roundw
          case rel => exact ⟨L ++ [bl], vs ++ [.slice ba bn bc], la', lc', ba, bn, bc, k1, rfl, rfl, by omega, HF⟩
          case measure => simp [lenV]; omega
      · have HE : Hid (RcTo w (hpOf bs) t (.slice la k lc) wr) := by
          obtain ⟨q1, q2⟩ := HK.out
          subst q2
          refine ⟨L, vs, q1.own, q1.el, q1.len, q1.lk, q1.hd, ?_, by have := q1.rk; omega, q1.bel⟩
          rw [HL.out]
          unfold nextH
          rw [if_neg (by simp [isVarL, hk4])]
        clear h1
        go_wp2_with fail
        go_ret
        exact ⟨la, k, lc, rfl, HE⟩
    · have h1I : ¬ (lt.length : Int) = 1 := by omega
      have HE : Hid (RcTo w (hpOf bs) t (.slice la k lc) wr) := by
        obtain ⟨q1, q2⟩ := HK.out
        subst q2
        refine ⟨L, vs, q1.own, q1.el, q1.len, q1.lk, q1.hd, ?_, by have := q1.rk; omega, q1.bel⟩
        rw [HL.out]
        unfold nextH
        rw [if_neg ?_]
        intro h
        match lt, h, h1 with
        | [c], _, h1 => exact h1 rfl
      go_wp2_with fail
      go_ret
      exact ⟨la, k, lc, rfl, HE⟩
theorem lastT_at {L : List (List C)} : ∀ (_ : L ≠ []), L[L.length - 1]? = some (lastT L) := by
  induction L with
  | nil => intro h; exact absurd rfl h
  | cons a r ih =>
    intro _
    cases r with
    | nil => rfl
    | cons b s =>
      have := ih (by simp)
      simp only [List.length_cons, Nat.add_sub_cancel] at this ⊢
      simpa [lastT] using this
set_option maxRecDepth 100000 in
set_option maxHeartbeats 4000000 in
theorem z15 (G : Nat → Prop) (rt : Nat) (bs : List Bn) (t : List C) (v : Value) (w : World) (h : RfH w G rt bs) (hup : RisesH (hpOf bs)) (hD : DescH (hpOf bs)) (hwf : ∀ x l, lookH (hpOf bs) x = some l → wfN x ∧ ∀ c ∈ l, wfN (c.vn, c.vk)) (hn : bs.length ≤ 3518437208780) (hT : TermAt w v t) (hW : ∀ c ∈ t, wfN (c.vn, c.vk)) (hne : t ≠ []) :
    Calls Tryz.prog 15 #[.pointer (some ⟨rt, 0, none⟩), v] w fun e w' => ∃ a k c l', e = .returned (.slice a k c) ∧ Hid (TermAt w (.slice a k c) l' ∧ k = l'.length ∧ IsFol (hpOf bs) t l' ∧ Below w.heap.size w w') := by
  obtain ⟨va, vc, hvf⟩ := hT.form
  subst hvf
  have H13 := z13 G rt bs t _ w h hup hD hwf hn hT hW hne
  have HM : Hid ((hpOf bs).length ≤ 3518437208780) := by
    show _ ≤ _
    simpa [hpOf] using hn
  clear h hup hD hwf hT hW
  go_enter Tryz.func15, Tryz.ntmps15
  go_wp2_with fail
  refine H13.mono ?_
  rintro e w1 ⟨a, k, c, rfl, H1⟩
  clear H13
  obtain ⟨j, g, o, za, zn, zc, l', hj, rfl, rfl, c0, HE⟩ : ∃ (j g o : Nat) (za : Option Addr) (zn zc : Nat) (l' : List C), j ≤ 3518437208781 ∧ k = j + 1 ∧ a = some ⟨g, o, none⟩ ∧ w1.cell? ⟨g, o + j, none⟩ = some (.slice za zn zc) ∧ Hid (TermAt w (.slice za zn zc) l' ∧ zn = l'.length ∧ IsFol (hpOf bs) t l' ∧ Below w.heap.size w w1) := by
    obtain ⟨L, vs, h1, h2, h3, h4, h5, h6, h7, h8⟩ := H1.out
    have hL : L ≠ [] := fun e => by rw [e] at h5; cases h5
    have hll : 1 ≤ L.length := by
      cases L with
      | nil => exact absurd rfl hL
      | cons x y => simp
    obtain ⟨a', c', e', _, hr⟩ := own_sl h1
    simp only [Value.slice.injEq] at e'
    obtain ⟨rfl, rfl, rfl⟩ := e'
    rcases hr with hr | ⟨g, o, rfl, _, hrg⟩
    · omega
    have hz : vs[L.length - 1]? = some vs[L.length - 1] := List.getElem?_eq_getElem (by omega)
    have ht := h2 _ _ _ hz (lastT_at hL)
    obtain ⟨za, zc, hf⟩ := ht.form
    have hc0 := hrg _ _ hz
    rw [hf] at ht hc0
    exact ⟨L.length - 1, g, o, za, _, zc, lastT L, by have := HM.out; omega, by omega, rfl, hc0, ht, rfl, ⟨links_fol h4 h5, h6⟩, h8⟩
  clear H1
  have hj0 : ¬ ((j : Int) + 1 = 0) := by omega
  have hj1 : IntKind.i64.wrap ((j : Int) + 1 - 1) = (j : Int) := by rw [IntKind.wrap_i64]; omega
  have hj2 : (0 : Int) ≤ (j : Int) := by omega
  have hj3 : (j : Int) < (j : Int) + 1 := by omega
  go_wp2_with fail
  go_ret
  exact ⟨za, zn, zc, l', rfl, HE⟩
theorem long_ex2 {m : Hp} {t : List C} {k : Nat} (hk : k < t.length) {o : List C} {n : Nat} (h : Ex m (t.take k) o) (hn : ∀ x, Ex m [t[k]] x → n < (o ++ x).length) : ∀ o', Ex m t o' → n < o'.length := by
  intro o' ho
  have e : t = t.take k ++ ([t[k]] ++ t.drop (k + 1)) := by
    rw [← List.append_assoc, ← List.take_succ_eq_append_getElem hk, List.take_append_drop]
  rw [e] at ho
  obtain ⟨p, q, rfl, h1, h2⟩ := ho.split
  obtain ⟨q1, q2, rfl, h3, h4⟩ := h2.split
  have := h1.uniq h
  subst this
  have := hn q1 h3
  simp only [List.length_append] at this ⊢
  omega
/-- In a round. -/
structure RvS (w wr : World) (m : Hp) (most F deep : Nat) (t : List C) (k : Nat) (fa : Option Addr) (fc : Nat) (acc : List C) : Prop where
  own : wr.ownsRow w.heap.size 59 5 (.slice fa acc.length fc) acc.length (flat acc)
  bel : Below w.heap.size w wr
  le : acc.length ≤ most
  tx : ∀ c ∈ acc, c.t.size ≤ maxLen ∧ wfN (c.vn, c.vk)
  ex : Ex m (t.take k) acc
  fu : most - acc.length < F ∨ (most - acc.length < F + 1 ∧ Nv t ∧ k = 0)
  dp : deep + (most - acc.length) ≤ 256 ∨ (deep + (most - acc.length) ≤ 257 ∧ Nv t ∧ k = 0)
theorem RvS.more {w wr w' : World} {m : Hp} {most F deep : Nat} {t : List C} {k : Nat} {fa fa' : Option Addr} {fc fc' : Nat} {acc x : List C} (h : RvS w wr m most F deep t k fa fc acc) (hk : k < t.length) (ho : w'.ownsRow w.heap.size 59 5 (.slice fa' (acc ++ x).length fc') (acc ++ x).length (flat (acc ++ x))) (hb : Below w.heap.size w w') (hl : (acc ++ x).length ≤ most) (hx : Ex m [t[k]] x) (h1 : 1 ≤ x.length) (ht : ∀ c ∈ x, c.t.size ≤ maxLen ∧ wfN (c.vn, c.vk)) : RvS w w' m most F deep t (k + 1) fa' fc' (acc ++ x) := by
  refine ⟨ho, hb, hl, fun c hc => ?_, take_ex hk h.ex hx, ?_, ?_⟩
  · rcases List.mem_append.1 hc with hc | hc
    · exact h.tx c hc
    · exact ht c hc
  · simp only [List.length_append] at hl ⊢
    rcases h.fu with h | ⟨h, _⟩
    · exact .inl (by omega)
    · exact .inl (by omega)
  · simp only [List.length_append] at hl ⊢
    rcases h.dp with h | ⟨h, _⟩
    · exact .inl (by omega)
    · exact .inl (by omega)
/-- What resolved tells. -/
def RvP (w : World) (m : Hp) (t : List C) (most : Nat) (e : Ending) (w' : World) : Prop :=
  (e = .returned (.tuple #[.slice none 0 0, .bool false]) ∧ Below w.heap.size w w' ∧ ∀ o, Ex m t o → most < o.length) ∨
    ∃ (o : List C) (fa : Option Addr) (fc : Nat), e = .returned (.tuple #[.slice fa o.length fc, .bool true]) ∧ Ex m t o ∧ o.length ≤ most ∧ w'.ownsRow w.heap.size 59 5 (.slice fa o.length fc) o.length (flat o) ∧ Below w.heap.size w w' ∧ ∀ c ∈ o, c.t.size ≤ maxLen ∧ wfN (c.vn, c.vk)
/-- The reference's heap, and what its values are. -/
structure Rg (w : World) (G : Nat → Prop) (rt : Nat) (bs : List Bn) : Prop where
  rf : RfH w G rt bs
  up : RisesH (hpOf bs)
  de : DescH (hpOf bs)
  wf : ∀ x l, lookH (hpOf bs) x = some l → wfN x ∧ ∀ c ∈ l, wfN (c.vn, c.vk)
  rg : RgH (hpOf bs)
  n : bs.length ≤ 3518437208780
theorem Rg.below {w w' : World} {G : Nat → Prop} {rt : Nat} {bs : List Bn} (h : Rg w G rt bs) (hb : Below w.heap.size w w') : Rg w' G rt bs := ⟨h.rf.below hb, h.up, h.de, h.wf, h.rg, h.n⟩
theorem fol_wf {m : Hp} (hw : ∀ x l, lookH m x = some l → wfN x ∧ ∀ c ∈ l, wfN (c.vn, c.vk)) {l l' : List C} (h : Fol m l l') (hl : ∀ c ∈ l, wfN (c.vn, c.vk)) : ∀ c ∈ l', wfN (c.vn, c.vk) := by
  induction h with
  | here => exact hl
  | step h _ ih =>
    refine ih ?_
    unfold nextH at h
    split at h
    · exact (hw _ _ h).2
    · cases h
theorem fol_step {m : Hp} {c : C} {l l' : List C} (hv : isVarL [c] = true) (hl : lookH m (c.vn, c.vk) = some l) (h : IsFol m l l') : IsFol m [c] l' :=
  ⟨.step (by unfold nextH; rw [if_pos hv]; exact hl) h.1, h.2⟩
set_option maxRecDepth 100000 in
set_option maxHeartbeats 8000000 in
theorem z32_step (G : Nat → Prop) (rt : Nat) (bs : List Bn) (F : Nat)
    (hN : ∀ (t : List C) (v : Value) (most deep : Nat) (w : World), Rg w G rt bs → TermAt w v t → (∀ c ∈ t, wfN (c.vn, c.vk)) → most < F → Nv t → deep + most ≤ 257 → Calls Tryz.prog 32 #[.pointer (some ⟨rt, 0, none⟩), v, .int .i64 most, .int .i64 deep] w fun e w' => RvP w (hpOf bs) t most e w')
    (t : List C) (v : Value) (most deep : Nat) (w : World) (hR : Rg w G rt bs) (hT : TermAt w v t) (hW : ∀ c ∈ t, wfN (c.vn, c.vk)) (hF : most < F ∨ (most < F + 1 ∧ Nv t)) (hd : deep + most ≤ 256 ∨ (deep + most ≤ 257 ∧ Nv t)) :
    Calls Tryz.prog 32 #[.pointer (some ⟨rt, 0, none⟩), v, .int .i64 most, .int .i64 deep] w fun e w' => RvP w (hpOf bs) t most e w' := by
  obtain ⟨i0, hi, hz, hs5, hby⟩ := info60
  have HH : Hid (Rg w G rt bs ∧ TermAt w v t ∧ ∀ c ∈ t, wfN (c.vn, c.vk)) := ⟨hR, hT, hW⟩
  have HN : Hid _ := hN
  have HS0 : Hid (RvS w w (hpOf bs) most F deep t 0 none 0 []) := by
    refine ⟨World.ownsRow_nil _ _ _ _, Below.refl _ _, by simp, fun c hc => (by cases hc), .nil, ?_, ?_⟩
    · rcases hF with h | ⟨h1, h2⟩
      · exact .inl (by simpa using h)
      · exact .inr ⟨by simpa using h1, h2, rfl⟩
    · rcases hd with h | ⟨h1, h2⟩
      · exact .inl (by simpa using h)
      · exact .inr ⟨by simpa using h1, h2, rfl⟩
  have hd300 : ¬ (300 : Int) < (deep : Int) := by
    rcases hd with h | ⟨h, _⟩ <;> omega
  have hmd : most ≤ 257 ∧ deep ≤ 257 := by
    rcases hd with h | ⟨h, _⟩ <;> omega
  obtain ⟨hm257, hd257⟩ := hmd
  obtain ⟨va, vc, hvf⟩ := hT.form
  subst hvf
  have htl : t.length ≤ 9223372036854775807 := hT.1.1
  clear hR hN hT hW hF hd
  go_enter Tryz.func32, Tryz.ntmps32
  go_wp2_with fail
  go_loopw [10, 11] (fun sl si wr => ∃ (k : Nat) (fa : Option Addr) (fc an : Nat), k ≤ t.length ∧ an ≤ most ∧ sl = .slice fa an fc ∧ si = .int .i64 k ∧ Hid (∃ acc, RvS w wr (hpOf bs) most F deep t k fa fc acc ∧ acc.length = an)) (fun _ si _ => t.length - (intOf si).toNat)
  case atStart => exact ⟨0, none, 0, 0, Nat.zero_le _, Nat.zero_le _, rfl, rfl, [], HS0.out, rfl⟩
  case round =>
    clear HS0
    obtain ⟨k, fa, fc, an, hk, han, rfl, rfl, HK'⟩ := hrel
    obtain ⟨acc, HK⟩ : ∃ acc, Hid (RvS w wr (hpOf bs) most F deep t k fa fc acc ∧ acc.length = an) := HK'.out
    clear HK'
    have hal : acc.length = an := HK.out.2
    by_cases hlt : k < t.length
    · have hltI : (k : Int) < (t.length : Int) := by omega
      have hk0 : (0 : Int) ≤ (k : Int) := by omega
      obtain ⟨x, hx⟩ : ∃ x, t[k] = x := ⟨_, rfl⟩
      obtain ⟨b, o, rfl, hcl, HXT⟩ : ∃ b o, va = some ⟨b, o, none⟩ ∧ (∀ u, Below wr.heap.size wr u → u.cell? ⟨b, o + k * 5, none⟩ = some (.int .u8 x.k) ∧ u.cell? ⟨b, o + k * 5 + 1, none⟩ = some (.string x.t) ∧ u.cell? ⟨b, o + k * 5 + 2, none⟩ = some (.int .i64 x.n) ∧ u.cell? ⟨b, o + k * 5 + 3, none⟩ = some (.int .i64 x.vn) ∧ u.cell? ⟨b, o + k * 5 + 4, none⟩ = some (.int .i64 x.vk)) ∧ Hid (x.t.size ≤ maxLen ∧ wfN (x.vn, x.vk)) := by
        obtain ⟨⟨h1, h2⟩, ⟨e, _⟩ | ⟨b, o, cap, e, h3, h4, h5, h6⟩⟩ := HH.out.2.1
        · rw [e] at hlt
          simp at hlt
        · simp only [Value.slice.injEq, true_and] at e
          obtain ⟨rfl, rfl⟩ := e
          refine ⟨b, o, rfl, fun u hu => ?_, h2 _ (hx ▸ List.getElem_mem hlt), HH.out.2.2 _ (hx ▸ List.getElem_mem hlt)⟩
          have hbu : Below w.heap.size w u := HK.out.1.bel.trans (hu.mono HK.out.1.bel.size)
          have := term_cells (range_below h5 h6 hbu) k hlt
          rw [hx] at this
          exact this
      have HCL : Hid _ := hcl
      obtain ⟨q0, q1, q2, q3, q4⟩ := hcl wr (Below.refl _ _)
      clear hcl
      by_cases hk4 : x.k = 4
      · have HV : Hid (isVarL [x] = true) := by show _ = _; simp [isVarL, hk4]
        have H6 : Calls Tryz.prog 6 #[.pointer (some ⟨rt, 0, none⟩), .agg #[.int .i64 x.vn, .int .i64 x.vk]] wr fun e w' => VlR bs (x.vn, x.vk) e ∧ Hid (Below wr.heap.size wr w') := z6 G rt bs (x.vn, x.vk) wr (HH.out.1.rf.below HK.out.1.bel) (by have := HH.out.1.n; omega)
        have q0' := q0
        rw [hk4] at q0
        clear q0'
        go_wp2_with fail
        refine H6.mono ?_
        rintro e w2 ⟨⟨rfl, hnone⟩ | ⟨b2, hbm, hbx, rfl⟩, H2⟩
        · have HX : Hid (Ex (hpOf bs) [t[k]] [x] ∧ (∀ c ∈ [x], c.t.size ≤ maxLen ∧ wfN (c.vn, c.vk)) ∧ 1 ≤ [x].length) := by
            refine ⟨?_, fun c hc => by simp at hc; subst hc; exact HXT.out, by simp⟩
            rw [hx]
            exact one_ex ⟨.here _, by unfold nextH; rw [if_pos HV.out]; exact hnone⟩
          have HOA : Hid ((w2.alloc (.cells #[.int .u8 x.k, .string x.t, .int .i64 x.n, .int .i64 x.vn, .int .i64 x.vk] 59)).ownsRow w.heap.size 59 5 (.slice fa an fc) an (flat acc) ∧ Below w.heap.size w (w2.alloc (.cells #[.int .u8 x.k, .string x.t, .int .i64 x.n, .int .i64 x.vn, .int .i64 x.vk] 59))) := by
            have hb2 : Below wr.heap.size wr (w2.alloc (.cells #[.int .u8 x.k, .string x.t, .int .i64 x.n, .int .i64 x.vn, .int .i64 x.vk] 59)) := H2.out.alloc H2.out.size _
            have := owns_below' HK.out.1.own hb2
            rw [hal] at this
            exact ⟨this, HK.out.1.bel.trans (hb2.mono HK.out.1.bel.size)⟩
          clear q0 q1 q2 q3 q4 hnone H6
          obtain ⟨q0, q1, q2, q3, q4⟩ := HCL.out w2 H2.out
          clear H2 HV HCL hk4
          go_wp2_with (at_builtin; refine wpList_append_own _ rfl _ _ 26 rfl w.heap.size 59 i0 zero60 5 48 Tryz.underlying26 hi hz hs5 hby rfl (by decide) _ an (flat acc) rfl HOA.out.1 ⟨w2.heap.size, 0, none⟩ 1 1 (flat [x]) rfl rfl (news_new w2 x) (flat_one _) (by unfold maxLen; omega) (by omega) HOA.out.2.size ?_)
          intro v' w4 hown hgr _
          obtain ⟨an1, han1⟩ : ∃ an1, (acc ++ [x]).length = an1 := ⟨_, rfl⟩
          obtain ⟨fa', fc', rfl, HF⟩ : ∃ fa' fc', v' = .slice fa' an1 fc' ∧ Hid (w4.ownsRow w.heap.size 59 5 (.slice fa' (acc ++ [x]).length fc') (acc ++ [x]).length (flat (acc ++ [x])) ∧ Below w.heap.size w w4) := by
            obtain ⟨a', c', e, _⟩ := own_sl hown
            subst e
            have e1 : (acc ++ [x]).length = an + ([x] : List C).length := by simp [hal]
            refine ⟨a', c', by rw [← han1, e1]; rfl, ?_, HOA.out.2.grown hgr HOA.out.2.size (fun g hg => (HOA.out.1.lt g hg).1)⟩
            rw [e1, flat_append]
            exact hown
          clear hown hgr
          by_cases hle : an1 ≤ most
          · have hleI : ¬ (most : Int) < (an1 : Int) := by omega
            have HE : Hid (RvS w w4 (hpOf bs) most F deep t (k + 1) fa' fc' (acc ++ [x]) ∧ (acc ++ [x]).length = an1) := ⟨HK.out.1.more hlt HF.out.1 HF.out.2 (by omega) HX.out.1 HX.out.2.2 HX.out.2.1, han1⟩
            clear HF HOA HK HX
            go_wp2_with fail
            go_roundw
            case rel => exact ⟨k + 1, fa', fc', an1, by omega, hle, rfl, by go_num, acc ++ [x], HE.out⟩
            case measure => simp [intOf]; omega
          · have hleI : (most : Int) < (an1 : Int) := by omega
            have HE : Hid (Below w.heap.size w w4 ∧ ∀ o, Ex (hpOf bs) t o → most < o.length) := ⟨HF.out.2, long_ex2 hlt HK.out.1.ex (fun y hy => by rw [hy.uniq HX.out.1, han1]; omega)⟩
            clear HF HOA HK HX
            go_wp2_with fail
            refine bodyPost_ret (v := .tuple #[.slice none 0 0, .bool false]) (by simp [results, Tryz.results32, go_sem]) rfl ?_
            exact .inl ⟨rfl, HE.out.1, HE.out.2⟩

        · have hlk : lookH (hpOf bs) (x.vn, x.vk) = some b2.l := by
            rw [← hbx]
            exact (look_mem_iff _ HH.out.1.up _ _).2 (List.mem_map.2 ⟨b2, hbm, rfl⟩)
          have hb2w : Below w.heap.size w w2 := HK.out.1.bel.trans (H2.out.mono HK.out.1.bel.size)
          have H15 : Calls Tryz.prog 15 #[.pointer (some ⟨rt, 0, none⟩), .slice b2.a b2.n b2.c] w2 fun e w' => ∃ a k c l', e = .returned (.slice a k c) ∧ Hid (TermAt w2 (.slice a k c) l' ∧ k = l'.length ∧ IsFol (hpOf bs) [x] l' ∧ (∀ c ∈ l', wfN (c.vn, c.vk)) ∧ Below w2.heap.size w2 w') := by
            have hg := HH.out.1.below hb2w
            refine (z15 G rt bs b2.l _ w2 hg.rf hg.up hg.de hg.wf hg.n (hg.rf.lst b2 hbm).1 (hg.wf _ _ hlk).2 (hg.rg _ _ hlk).1).mono ?_
            rintro e w' ⟨a, k, c, l', rfl, k1, k2, k3, k4⟩
            exact ⟨a, k, c, l', rfl, k1, k2, fol_step HV.out hlk k3, fol_wf hg.wf k3.1 (hg.wf _ _ hlk).2, k4⟩
          have HW2 : Hid (Below wr.heap.size wr w2 ∧ Below w.heap.size w w2) := ⟨H2.out, hb2w⟩
          clear q0 q1 q2 q3 q4 H6 H2 hb2w hlk hbm hbx HCL
          generalize b2.a = ya at *
          generalize b2.n = yn at *
          generalize b2.c = yc at *
          go_wp2_with fail
          refine H15.mono ?_
          rintro e w3 ⟨a3, n3, c3, l', rfl, H3⟩
          clear H15
          obtain rfl : n3 = l'.length := H3.out.2.1
          have HW3 : Hid (Below wr.heap.size wr w3 ∧ Below w.heap.size w w3) := by
            obtain ⟨h1, h2⟩ := HW2.out
            have h3 := H3.out.2.2.2.2
            exact ⟨h1.trans (h3.mono h1.size), h2.trans (h3.mono h2.size)⟩
          have HT3 : Hid (TermAt w3 (.slice a3 l'.length c3) l' ∧ IsFol (hpOf bs) [x] l' ∧ ∀ c ∈ l', wfN (c.vn, c.vk)) := ⟨H3.out.1.below H3.out.2.2.2.2, H3.out.2.2.1, H3.out.2.2.2.1⟩
          clear H3 HW2 HV
          by_cases hl1 : l'.length = 1
          · obtain ⟨y, rfl⟩ : ∃ y, l' = [y] := List.length_eq_one_iff.1 hl1
            have HX : Hid (Ex (hpOf bs) [t[k]] [y] ∧ (∀ c ∈ [y], c.t.size ≤ maxLen ∧ wfN (c.vn, c.vk)) ∧ 1 ≤ [y].length) := by
              refine ⟨?_, fun c hc => ⟨HT3.out.1.1.2 c hc, HT3.out.2.2 c hc⟩, by simp⟩
              rw [hx]
              exact one_ex HT3.out.2.1
            have HOA : Hid (w3.ownsRow w.heap.size 59 5 (.slice fa an fc) an (flat acc) ∧ Below w.heap.size w w3) := by
              have := owns_below' HK.out.1.own HW3.out.1
              rw [hal] at this
              exact ⟨this, HW3.out.2⟩
            obtain ⟨vb, vo, rfl, HCE⟩ : ∃ vb vo, a3 = some ⟨vb, vo, none⟩ ∧ Hid (∀ j u, (flat [y])[j]? = some u → w3.cell? ((⟨vb, vo, none⟩ : Addr).add j) = some u) := by
              obtain ⟨_, ⟨e, _⟩ | ⟨vb, vo, cap, e, _, _, h5, _⟩⟩ := HT3.out.1
              · cases e
              · simp only [Value.slice.injEq] at e
                obtain ⟨rfl, _, _⟩ := e
                exact ⟨vb, vo, rfl, fun j u hu => by rw [Addr.add_mid]; exact h5 j u hu⟩
            clear HT3 HW3
            simp only [List.length_singleton]
            go_wp2_with (at_builtin; refine wpList_append_own _ rfl _ _ 26 rfl w.heap.size 59 i0 zero60 5 48 Tryz.underlying26 hi hz hs5 hby rfl (by decide) _ an (flat acc) rfl HOA.out.1 ⟨vb, vo, none⟩ 1 c3 (flat [y]) rfl rfl HCE.out (flat_one _) (by unfold maxLen; omega) (by omega) HOA.out.2.size ?_)
            intro v' w4 hown hgr _
            obtain ⟨an1, han1⟩ : ∃ an1, (acc ++ [y]).length = an1 := ⟨_, rfl⟩
            obtain ⟨fa', fc', rfl, HF⟩ : ∃ fa' fc', v' = .slice fa' an1 fc' ∧ Hid (w4.ownsRow w.heap.size 59 5 (.slice fa' (acc ++ [y]).length fc') (acc ++ [y]).length (flat (acc ++ [y])) ∧ Below w.heap.size w w4) := by
              obtain ⟨a', c', e, _⟩ := own_sl hown
              subst e
              have e1 : (acc ++ [y]).length = an + ([y] : List C).length := by simp [hal]
              refine ⟨a', c', by rw [← han1, e1]; rfl, ?_, HOA.out.2.grown hgr HOA.out.2.size (fun g hg => (HOA.out.1.lt g hg).1)⟩
              rw [e1, flat_append]
              exact hown
            clear hown hgr
            by_cases hle : an1 ≤ most
            · have hleI : ¬ (most : Int) < (an1 : Int) := by omega
              have HE : Hid (RvS w w4 (hpOf bs) most F deep t (k + 1) fa' fc' (acc ++ [y]) ∧ (acc ++ [y]).length = an1) := ⟨HK.out.1.more hlt HF.out.1 HF.out.2 (by omega) HX.out.1 HX.out.2.2 HX.out.2.1, han1⟩
              clear HF HOA HK HX
              go_wp2_with fail
              go_roundw
              case rel => exact ⟨k + 1, fa', fc', an1, by omega, hle, rfl, by go_num, acc ++ [y], HE.out⟩
              case measure => simp [intOf]; omega
            · have hleI : (most : Int) < (an1 : Int) := by omega
              have HE : Hid (Below w.heap.size w w4 ∧ ∀ o, Ex (hpOf bs) t o → most < o.length) := ⟨HF.out.2, long_ex2 hlt HK.out.1.ex (fun y hy => by rw [hy.uniq HX.out.1, han1]; omega)⟩
              clear HF HOA HK HX
              go_wp2_with fail
              refine bodyPost_ret (v := .tuple #[.slice none 0 0, .bool false]) (by simp [results, Tryz.results32, go_sem]) rfl ?_
              exact .inl ⟨rfl, HE.out.1, HE.out.2⟩
          · have hl1I : ¬ (l'.length : Int) = 1 := by omega
            obtain ⟨q, hq⟩ : ∃ q, most - an = q := ⟨_, rfl⟩
            have hqw : IntKind.i64.wrap ((most : Int) - (an : Int)) = (q : Int) := by rw [IntKind.wrap_i64]; omega
            obtain ⟨d1, hd1⟩ : ∃ d1, deep + 1 = d1 := ⟨_, rfl⟩
            have hdw : IntKind.i64.wrap ((deep : Int) + 1) = (d1 : Int) := by rw [IntKind.wrap_i64]; omega
            have HNV : Hid (x.k = 4 ∧ Nv l') := nv_fol HH.out.1.rg HT3.out.2.1 hl1
            have H32 : Calls Tryz.prog 32 #[.pointer (some ⟨rt, 0, none⟩), .slice a3 l'.length c3, .int .i64 q, .int .i64 d1] w3 fun e w' => RvP w3 (hpOf bs) l' q e w' := by
              have hno : ¬ (Nv t ∧ k = 0) := by
                rintro ⟨⟨c, r, e, hc⟩, e2⟩
                subst e2
                subst e
                simp only [List.getElem_cons_zero] at hx
                rw [hx] at hc
                exact hc hk4
              refine HN.out l' _ q d1 w3 (HH.out.1.below HW3.out.2) HT3.out.1 HT3.out.2.2 ?_ HNV.out.2 ?_
              · rcases HK.out.1.fu with h | ⟨_, h⟩
                · omega
                · exact absurd h hno
              · rcases HK.out.1.dp with h | ⟨_, h⟩
                · omega
                · exact absurd h hno
            go_wp2_with fail
            refine H32.mono ?_
            rintro e w5 (⟨rfl, hb5, hf⟩ | ⟨o1, fa1, fc1, rfl, hxx, hle1, hO, hb5, htx⟩)
            · have HE : Hid (Below w.heap.size w w5 ∧ ∀ o, Ex (hpOf bs) t o → most < o.length) := by
                refine ⟨HW3.out.2.trans (hb5.mono HW3.out.2.size), long_ex2 hlt HK.out.1.ex (fun y hy => ?_)⟩
                rw [hx] at hy
                have := hf y (more_inv hy HT3.out.2.1 hl1)
                simp only [List.length_append]
                omega
              clear hb5 hf H32 HK HT3 HW3
              go_wp2_with fail
              refine bodyPost_ret (v := .tuple #[.slice none 0 0, .bool false]) (by simp [results, Tryz.results32, go_sem]) rfl ?_
              exact .inl ⟨rfl, HE.out.1, HE.out.2⟩
            · have hlen1 : 1 ≤ o1.length := by
                obtain ⟨c, r, e, _⟩ := HNV.out.2
                have := hxx.len HH.out.1.rg
                rw [e] at this
                simp at this
                omega
              have HX : Hid (Ex (hpOf bs) [t[k]] o1 ∧ (∀ c ∈ o1, c.t.size ≤ maxLen ∧ wfN (c.vn, c.vk)) ∧ 1 ≤ o1.length) := by
                refine ⟨?_, htx, hlen1⟩
                rw [hx]
                exact more_ex HT3.out.2.1 hl1 hxx
              have HOA : Hid (w5.ownsRow w.heap.size 59 5 (.slice fa an fc) an (flat acc) ∧ Below w.heap.size w w5) := by
                have hb : Below wr.heap.size wr w5 := HW3.out.1.trans (hb5.mono HW3.out.1.size)
                have := owns_below' HK.out.1.own hb
                rw [hal] at this
                exact ⟨this, HW3.out.2.trans (hb5.mono HW3.out.2.size)⟩
              obtain ⟨vb, vo, rfl, HCE⟩ : ∃ vb vo, fa1 = some ⟨vb, vo, none⟩ ∧ Hid (∀ j u, (flat o1)[j]? = some u → w5.cell? ((⟨vb, vo, none⟩ : Addr).add j) = some u) := by
                obtain ⟨a', c', e', _, hr⟩ := own_sl hO
                simp only [Value.slice.injEq, true_and] at e'
                obtain ⟨rfl, rfl⟩ := e'
                rcases hr with hr | ⟨vb, vo, rfl, _, h5⟩
                · omega
                · exact ⟨vb, vo, rfl, fun j u hu => by rw [Addr.add_mid]; exact h5 j u hu⟩
              obtain ⟨m1, hm1⟩ : ∃ m1, o1.length = m1 := ⟨_, rfl⟩
              have HM1 : Hid (o1.length = m1) := hm1
              rw [hm1] at hle1 hlen1
              rw [hm1]
              clear hxx hO hb5 htx H32 HT3 HW3 HNV hm1
              go_wp2_with (at_builtin; refine wpList_append_own _ rfl _ _ 26 rfl w.heap.size 59 i0 zero60 5 48 Tryz.underlying26 hi hz hs5 hby rfl (by decide) _ an (flat acc) rfl HOA.out.1 ⟨vb, vo, none⟩ m1 fc1 (flat o1) rfl (by rw [flat_len, HM1.out]) HCE.out (flat_one _) (by unfold maxLen; omega) (by omega) HOA.out.2.size ?_)
              intro v' w4 hown hgr _
              obtain ⟨an1, han1⟩ : ∃ an1, (acc ++ o1).length = an1 := ⟨_, rfl⟩
              obtain ⟨fa', fc', rfl, HF⟩ : ∃ fa' fc', v' = .slice fa' an1 fc' ∧ Hid (w4.ownsRow w.heap.size 59 5 (.slice fa' (acc ++ o1).length fc') (acc ++ o1).length (flat (acc ++ o1)) ∧ Below w.heap.size w w4) := by
                obtain ⟨a', c', e, _⟩ := own_sl hown
                subst e
                have e1 : (acc ++ o1).length = an + (o1 : List C).length := by simp [hal]
                refine ⟨a', c', by rw [← han1, e1, HM1.out], ?_, HOA.out.2.grown hgr HOA.out.2.size (fun g hg => (HOA.out.1.lt g hg).1)⟩
                rw [e1, flat_append, HM1.out]
                exact hown
              clear hown hgr
              by_cases hle : an1 ≤ most
              · have hleI : ¬ (most : Int) < (an1 : Int) := by omega
                have HE : Hid (RvS w w4 (hpOf bs) most F deep t (k + 1) fa' fc' (acc ++ o1) ∧ (acc ++ o1).length = an1) := ⟨HK.out.1.more hlt HF.out.1 HF.out.2 (by omega) HX.out.1 HX.out.2.2 HX.out.2.1, han1⟩
                clear HF HOA HK HX
                go_wp2_with fail
                go_roundw
                case rel => exact ⟨k + 1, fa', fc', an1, by omega, hle, rfl, by go_num, acc ++ o1, HE.out⟩
                case measure => simp [intOf]; omega
              · have hleI : (most : Int) < (an1 : Int) := by omega
                have HE : Hid (Below w.heap.size w w4 ∧ ∀ o, Ex (hpOf bs) t o → most < o.length) := ⟨HF.out.2, long_ex2 hlt HK.out.1.ex (fun y hy => by rw [hy.uniq HX.out.1, han1]; omega)⟩
                clear HF HOA HK HX
                go_wp2_with fail
                refine bodyPost_ret (v := .tuple #[.slice none 0 0, .bool false]) (by simp [results, Tryz.results32, go_sem]) rfl ?_
                exact .inl ⟨rfl, HE.out.1, HE.out.2⟩
      · have HX : Hid (Ex (hpOf bs) [t[k]] [x] ∧ (∀ c ∈ [x], c.t.size ≤ maxLen ∧ wfN (c.vn, c.vk)) ∧ 1 ≤ [x].length) := by
          refine ⟨?_, fun c hc => by simp at hc; subst hc; exact HXT.out, by simp⟩
          rw [hx]
          exact one_ex ⟨.here _, by unfold nextH; rw [if_neg (by simp [isVarL, hk4])]⟩
        have HOA : Hid ((wr.alloc (.cells #[.int .u8 x.k, .string x.t, .int .i64 x.n, .int .i64 x.vn, .int .i64 x.vk] 59)).ownsRow w.heap.size 59 5 (.slice fa an fc) an (flat acc) ∧ Below w.heap.size w (wr.alloc (.cells #[.int .u8 x.k, .string x.t, .int .i64 x.n, .int .i64 x.vn, .int .i64 x.vk] 59))) := by
          have hb2 : Below wr.heap.size wr (wr.alloc (.cells #[.int .u8 x.k, .string x.t, .int .i64 x.n, .int .i64 x.vn, .int .i64 x.vk] 59)) := (Below.refl _ wr).alloc (Nat.le_refl _) _
          have := owns_below' HK.out.1.own hb2
          rw [hal] at this
          exact ⟨this, HK.out.1.bel.trans (hb2.mono HK.out.1.bel.size)⟩
        clear HCL
        go_wp2_with (at_builtin; refine wpList_append_own _ rfl _ _ 26 rfl w.heap.size 59 i0 zero60 5 48 Tryz.underlying26 hi hz hs5 hby rfl (by decide) _ an (flat acc) rfl HOA.out.1 ⟨wr.heap.size, 0, none⟩ 1 1 (flat [x]) rfl rfl (news_new wr x) (flat_one _) (by unfold maxLen; omega) (by omega) HOA.out.2.size ?_)
        intro v' w4 hown hgr _
        obtain ⟨an1, han1⟩ : ∃ an1, (acc ++ [x]).length = an1 := ⟨_, rfl⟩
        obtain ⟨fa', fc', rfl, HF⟩ : ∃ fa' fc', v' = .slice fa' an1 fc' ∧ Hid (w4.ownsRow w.heap.size 59 5 (.slice fa' (acc ++ [x]).length fc') (acc ++ [x]).length (flat (acc ++ [x])) ∧ Below w.heap.size w w4) := by
          obtain ⟨a', c', e, _⟩ := own_sl hown
          subst e
          have e1 : (acc ++ [x]).length = an + ([x] : List C).length := by simp [hal]
          refine ⟨a', c', by rw [← han1, e1]; rfl, ?_, HOA.out.2.grown hgr HOA.out.2.size (fun g hg => (HOA.out.1.lt g hg).1)⟩
          rw [e1, flat_append]
          exact hown
        clear hown hgr
        by_cases hle : an1 ≤ most
        · have hleI : ¬ (most : Int) < (an1 : Int) := by omega
          have HE : Hid (RvS w w4 (hpOf bs) most F deep t (k + 1) fa' fc' (acc ++ [x]) ∧ (acc ++ [x]).length = an1) := ⟨HK.out.1.more hlt HF.out.1 HF.out.2 (by omega) HX.out.1 HX.out.2.2 HX.out.2.1, han1⟩
          clear HF HOA HK HX
          go_wp2_with fail
          go_roundw
          case rel => exact ⟨k + 1, fa', fc', an1, by omega, hle, rfl, by go_num, acc ++ [x], HE.out⟩
          case measure => simp [intOf]; omega
        · have hleI : (most : Int) < (an1 : Int) := by omega
          have HE : Hid (Below w.heap.size w w4 ∧ ∀ o, Ex (hpOf bs) t o → most < o.length) := ⟨HF.out.2, long_ex2 hlt HK.out.1.ex (fun y hy => by rw [hy.uniq HX.out.1, han1]; omega)⟩
          clear HF HOA HK HX
          go_wp2_with fail
          refine bodyPost_ret (v := .tuple #[.slice none 0 0, .bool false]) (by simp [results, Tryz.results32, go_sem]) rfl ?_
          exact .inl ⟨rfl, HE.out.1, HE.out.2⟩

    · have hltI : ¬ (k : Int) < (t.length : Int) := by omega
      have HE : Hid (∃ o, o = acc ∧ Ex (hpOf bs) t o ∧ RvS w wr (hpOf bs) most F deep t k fa fc acc) := by
        have h2 := HK.out.1.ex
        rw [List.take_of_length_le (by omega)] at h2
        exact ⟨acc, rfl, h2, HK.out.1⟩
      go_wp2_with fail
      refine bodyPost_ret (v := .tuple #[.slice fa an fc, .bool true]) (by simp [results, Tryz.results32, go_sem]) rfl ?_
      obtain ⟨o, rfl, h1, h2⟩ := HE.out
      exact .inr ⟨o, fa, fc, by rw [hal], h1, h2.le, h2.own, h2.bel, h2.tx⟩
/-- resolved, of any term. -/
theorem z32 (G : Nat → Prop) (rt : Nat) (bs : List Bn) : ∀ (F : Nat) (t : List C) (v : Value) (most deep : Nat) (w : World), Rg w G rt bs → TermAt w v t → (∀ c ∈ t, wfN (c.vn, c.vk)) → (most < F ∨ (most < F + 1 ∧ Nv t)) → (deep + most ≤ 256 ∨ (deep + most ≤ 257 ∧ Nv t)) → Calls Tryz.prog 32 #[.pointer (some ⟨rt, 0, none⟩), v, .int .i64 most, .int .i64 deep] w fun e w' => RvP w (hpOf bs) t most e w'
  | 0, t, v, most, deep, w, hR, hT, hW, hF, hd => z32_step G rt bs 0 (fun _ _ _ _ _ _ _ _ h => by omega) t v most deep w hR hT hW hF hd
  | F + 1, t, v, most, deep, w, hR, hT, hW, hF, hd => z32_step G rt bs (F + 1) (fun t v most deep w hR hT hW h hv hd => z32 G rt bs F t v most deep w hR hT hW (.inr ⟨h, hv⟩) (.inr ⟨hd, hv⟩)) t v most deep w hR hT hW hF hd
def delH (m : Hp) (x : Nm) : Hp := m.filter fun p => !(p.1 == x)
def dropH (m : Hp) (xs : List Nm) : Hp := xs.foldl delH m
theorem look_filter {m : Hp} {q : Nm → Bool} {y : Nm} (hq : q y = true) : lookH (m.filter fun p => q p.1) y = lookH m y := by
  induction m with
  | nil => rfl
  | cons p r ih =>
    unfold lookH at ih ⊢
    by_cases h : p.1 = y
    · have h1 : (p.1 == y) = true := by simpa using h
      rw [List.filter_cons, if_pos (by rw [h]; exact hq)]
      simp [h1]
    · have h1 : (p.1 == y) = false := by simpa using h
      rw [List.filter_cons]
      split
      · simp only [List.find?_cons, h1]
        exact ih
      · simp only [List.find?_cons, h1]
        exact ih
theorem look_filter_no {m : Hp} {q : Nm → Bool} {y : Nm} (hq : q y = false) : lookH (m.filter fun p => q p.1) y = none := by
  induction m with
  | nil => rfl
  | cons p r ih =>
    rw [List.filter_cons]
    split
    · next h =>
      have h1 : (p.1 == y) = false := by
        simp only [beq_eq_false_iff_ne]
        intro e
        rw [e, hq] at h
        cases h
      unfold lookH at ih ⊢
      simp only [List.find?_cons, h1]
      exact ih
    · exact ih
theorem look_del (m : Hp) (x y : Nm) : lookH (delH m x) y = if y = x then none else lookH m y := by
  unfold delH
  split
  · next e =>
    subst e
    exact look_filter_no (q := fun z => !(z == y)) (by simp)
  · next e => exact look_filter (q := fun z => !(z == x)) (by simpa using e)
theorem dropH_eq (m : Hp) : ∀ xs : List Nm, dropH m xs = m.filter fun p => !hasN xs p.1 := fun xs => by
  unfold dropH
  induction xs generalizing m with
  | nil => exact (List.filter_eq_self.2 (by simp [hasN])).symm
  | cons x r ih =>
    rw [List.foldl_cons, ih]
    unfold delH
    rw [List.filter_filter]
    congr 1
    funext p
    have e : hasN (x :: r) p.1 = (p.1 == x || hasN r p.1) := by
      rw [Bool.eq_iff_iff, hasN_iff, Bool.or_eq_true, hasN_iff, beq_iff_eq, List.mem_cons]
    rw [e]
    cases (p.1 == x) <;> cases hasN r p.1 <;> rfl
theorem drop_snoc (m : Hp) (xs : List Nm) (x : Nm) : dropH m (xs ++ [x]) = delH (dropH m xs) x := by simp [dropH]
/-- Behind Drop. -/
def DrP (w : World) (hb M n : Nat) (D : DataW Value) (m : Hp) (xs : List Nm) (w' : World) : Prop := ∃ D', HpAt w' hb M n D' (dropH m xs) ∧ KeepsBut M w w' ∧ ∀ V, VB D V → VB D' V
theorem vb_del {D : DataW Value} {V : Nat → Prop} {x : Nm} (hx : wfN x) (hV : VB D V) : VB (D.del (kLit x)) V := by
  intro y v hy h g hg
  by_cases e : y = x
  · subst e
    have h1 := h (.held (.bool true))
    have h2 := h (.held (.bool false))
    rw [Maps.atKey_del_same] at h1 h2
    cases h1
    cases h2
  · exact hV y v hy (fun z => by have := h z; rw [Maps.atKey_del_other fun e' => e (kLit_inj hy hx e')] at this; exact this) g hg
/-- Behind a delete. -/
theorem HpAt.del {w : World} {hb M n : Nat} {D : DataW Value} {m : Hp} {x : Nm} (h : HpAt w hb M n D m) (hx : wfN x) : ∃ w', (Builtin.delete_ #[61, 24] 0 #[.map (some M), .agg #[.int .i64 x.1, .int .i64 x.2]]).run Tryz.prog w = .ok (.tuple #[]) w' ∧ HpAt w' hb M n (D.del (kLit x)) (delH m x) ∧ w.mapTurned w' M := by
  obtain ⟨w', r1, r2, r3⟩ := h.map.drop keyed23 Tryz.underlying61 (key23 x hx) 0
  have hg := r3.grown
  have hne : hb ≠ M := fun e => by
    obtain ⟨es, ck, h2, _⟩ := h.map
    have h1 := h.blk
    rw [e, h2] at h1
    cases h1
  refine ⟨w', r1, ⟨(hg.block hb (Array.getElem?_eq_some_iff.1 h.blk).1 (by simpa using hne)).trans h.blk, r2, fun y hy hl => ?_, fun y l hy hl => ?_, fun y l hl hv => ?_, fun y l hl => ?_⟩, r3⟩
  · rw [look_del] at hl
    split at hl
    · next e => subst e; exact Maps.has_del_same
    · next e =>
      rw [Maps.has_del_other fun e' => e (kLit_inj hy hx e')]
      exact h.no y hy hl
  · rw [look_del] at hl
    split at hl
    · cases hl
    · next e =>
      obtain ⟨v, k1, k2⟩ := h.yes y l hy hl
      exact ⟨v, fun z => by rw [Maps.atKey_del_other fun e' => e (kLit_inj hy hx e')]; exact k1 z, k2.turned r3⟩
  · rw [look_del] at hl
    split at hl
    · cases hl
    · exact h.desc y l hl hv
  · rw [look_del] at hl
    split at hl
    · cases hl
    · exact h.wf y l hl
set_option maxRecDepth 100000 in
set_option maxHeartbeats 4000000 in
theorem z20 (m : Hp) (hb M n : Nat) (D : DataW Value) (xs : List Nm) (v : Value) (w : World) (hH : HpAt w hb M n D m) (hN : NamesAt w v xs) (hW : ∀ x ∈ xs, wfN x) (hM : xs ≠ [] → ∀ g, v.ownBlock = some g → g ≠ M) :
    Calls Tryz.prog 20 #[.pointer (some ⟨hb, 0, none⟩), v] w fun e w' => e = .returned (.tuple #[]) ∧ Hid (DrP w hb M n D m xs w') := by
  obtain ⟨va, vc, hvf⟩ := hN.form
  subst hvf
  have hxl : xs.length ≤ 9223372036854775807 := hN.1
  have HX : Hid (NamesAt w (.slice va xs.length vc) xs ∧ (∀ x ∈ xs, wfN x) ∧ (xs ≠ [] → ∀ g, (Value.slice va xs.length vc).ownBlock = some g → g ≠ M)) := ⟨hN, hW, hM⟩
  have HI0 : Hid (DrP w hb M n D m (xs.take 0) w) := ⟨D, hH, KeepsBut.of_below (Below.refl _ _), fun V h => h⟩
  clear hH hN hW hM
  go_enter Tryz.func20, Tryz.ntmps20
  go_wp2_with fail
  go_loopw [10] (fun i wr => ∃ k : Nat, k ≤ xs.length ∧ i = .int .i64 k ∧ Hid (DrP w hb M n D m (xs.take k) wr)) (fun i _ => xs.length - (intOf i).toNat)
  case atStart => exact ⟨0, Nat.zero_le _, rfl, HI0⟩
  case round =>
    clear HI0
    obtain ⟨k, hk, rfl, HK'⟩ := hrel
    obtain ⟨D', HK⟩ : ∃ D', Hid (HpAt wr hb M n D' (dropH m (xs.take k)) ∧ KeepsBut M w wr ∧ ∀ V, VB D V → VB D' V) := HK'.out
    clear HK'
    by_cases hlt : k < xs.length
    · have hltI : (k : Int) < (xs.length : Int) := by omega
      have hk0 : (0 : Int) ≤ (k : Int) := by omega
      obtain ⟨b, o, y1, y2, rfl, c0, c1, HD⟩ : ∃ b o y1 y2, va = some ⟨b, o, none⟩ ∧ wr.cell? ⟨b, o + k * 2, none⟩ = some (.int .i64 y1) ∧ wr.cell? ⟨b, o + k * 2 + 1, none⟩ = some (.int .i64 y2) ∧ Hid (xs.take (k + 1) = xs.take k ++ [(y1, y2)] ∧ wfN (y1, y2)) := by
        obtain ⟨_, ⟨e, _⟩ | ⟨b, o, cap, e, hr, hb4⟩⟩ := HX.out.1
        · rw [e] at hlt
          simp at hlt
        · simp only [Value.slice.injEq] at e
          obtain ⟨rfl, _, _⟩ := e
          obtain ⟨p0, p1⟩ := name_cells hr k hlt
          have hne := HX.out.2.2 (fun e => by rw [e] at hlt; simp at hlt) b rfl
          have kp : ∀ (j : Nat) (z : Value), w.cell? ⟨b, j, none⟩ = some z → wr.cell? ⟨b, j, none⟩ = some z := fun j z hz => by
            rw [← hz]
            unfold World.cell?
            simp only [HK.out.2.1.2.2.2.2 b hb4 hne]
          exact ⟨b, o, xs[k].1, xs[k].2, rfl, kp _ _ p0, kp _ _ p1, List.take_succ_eq_append_getElem hlt, HX.out.2.1 _ (List.getElem_mem hlt)⟩
      obtain ⟨U, hU⟩ : ∃ U, wr.alloc (.cells #[.int .i64 0, .int .i64 0] 24) = U := ⟨_, rfl⟩
      obtain ⟨vb, hvb⟩ : ∃ vb, wr.heap.size = vb := ⟨_, rfl⟩
      obtain ⟨⟨d0, d1, f0, f1⟩, hVV⟩ := stored23 (x := .int .i64 y1) (y := .int .i64 y2) hU hvb
      obtain ⟨V, hV⟩ : ∃ V, (U.setCell ⟨vb, 0, none⟩ (.int .i64 y1)).setCell ⟨vb, 1, none⟩ (.int .i64 y2) = V := ⟨_, rfl⟩
      obtain ⟨hb1, hb2⟩ := hVV V hV
      have h2 := (HK.out.1.below hb1).below ((Below.refl V.heap.size V).drew)
      obtain ⟨w2, hrun, hm2, ht2⟩ := h2.del HD.out.2
      have HF : Hid (DrP w hb M n D m (xs.take (k + 1)) w2) := by
        refine ⟨_, by rw [HD.out.1, drop_snoc]; exact hm2, ?_, fun V h => vb_del HD.out.2 (HK.out.2.2 V h)⟩
        have k1 := HK.out.2.1
        have k2 : KeepsBut M wr w2 := keeps_put (hb1.drew) ht2
        exact ⟨k2.1.trans k1.1, k2.2.1.trans k1.2.1, k2.2.2.1.trans k1.2.2.1, Nat.le_trans k1.2.2.2.1 k2.2.2.2.1, fun j hj hne => (k2.2.2.2.2 j (Nat.lt_of_lt_of_le hj k1.2.2.2.1) hne).trans (k1.2.2.2.2 j hj hne)⟩
      have hp := (HK.out.1.below hb1).cell
      obtain ⟨u0, u1⟩ := box_cells hb2
      clear hVV hb1 hb2 h2 hm2 ht2 HK HD
      go_wp2_with fail
      go_region
      go_wp2_with fail
      go_roundw
      case rel => exact ⟨k + 1, by omega, by go_num, HF⟩
      case measure => simp [intOf]; omega
    · have hltI : ¬ (k : Int) < (xs.length : Int) := by omega
      have HF : Hid (DrP w hb M n D m xs wr) := by
        have := HK.out
        rw [List.take_of_length_le (by omega)] at this
        exact ⟨D', this⟩
      go_wp2_with fail
      exact bodyPost_end (v := .tuple #[]) (by simp [results, Tryz.results20, go_sem]) rfl ⟨rfl, HF⟩
set_option maxRecDepth 100000 in
set_option maxHeartbeats 2000000 in
theorem z36 (b : Nat) (es : Array MapEntry) (ck : Nat) (w : World) (hb : w.heap[b]? = some (.map es ck)) :
    Calls Tryz.prog 36 #[.map (some b)] w fun e w' => e = .returned (.map (some w.heap.size)) ∧ w' = w.alloc (.map es ck) := by
  have hq := fun w => run_eql_map_nil_sl (P := Tryz.prog) w 61 _ _ (some b) Tryz.underlying61
  go_enter Tryz.func36, Tryz.ntmps36
  go_wp2
  rw [run_callFunc_extern Tryz.func52 (by kernel_rfl) (by kernel_rfl) (by kernel_rfl) (e := Extern.MapsClone.clone) (by kernel_rfl), run_maps_clone_sl w 61 hb]
  simp only [Result.andThen]
  rw [Oper.upon_value]
  go_wp2
  rw [run_typeAssert_map_sl _ 61 20 _ _ _ Tryz.underlying61]
  simp only [Result.andThen]
  rw [Oper.upon_value]
  go_wp2
  go_ret
  exact ⟨rfl, rfl⟩
set_option maxRecDepth 100000 in
set_option maxHeartbeats 2000000 in
theorem z18 (m : Hp) (hb M n : Nat) (D : DataW Value) (w : World) (hH : HpAt w hb M n D m) :
    Calls Tryz.prog 18 #[.pointer (some ⟨hb, 0, none⟩)] w fun e w' => ∃ hb2 M2, e = .returned (.pointer (some ⟨hb2, 0, none⟩)) ∧ Hid (HpAt w' hb2 M2 n D m ∧ Below w.heap.size w w' ∧ w.heap.size ≤ hb2 ∧ w.heap.size ≤ M2) := by
  obtain ⟨es, ck, k1, k2⟩ := hH.map
  obtain ⟨W, hW⟩ : ∃ W, w.alloc (.map es ck) = W := ⟨_, rfl⟩
  have hbW : Below w.heap.size w W := by rw [← hW]; exact (Below.refl _ _).alloc (Nat.le_refl _) _
  have hMW : W.heap[w.heap.size]? = some (.map es ck) := by rw [← hW]; exact heap_alloc_new w _
  have hsz : W.heap.size = w.heap.size + 1 := by rw [← hW]; simp
  have H36 : Calls Tryz.prog 36 #[.map (some M)] w fun e w' => e = .returned (.map (some w.heap.size)) ∧ w' = W := by
    rw [← hW]
    exact z36 M es ck w k1
  have c0 := hH.cell
  have HF : Hid (HpAt (W.alloc (.cells #[.map (some w.heap.size)] 63)) W.heap.size w.heap.size n D m ∧ Below w.heap.size w (W.alloc (.cells #[.map (some w.heap.size)] 63)) ∧ w.heap.size ≤ W.heap.size ∧ w.heap.size ≤ w.heap.size) := by
    have hb2 : Below w.heap.size w (W.alloc (.cells #[.map (some w.heap.size)] 63)) := hbW.alloc hbW.size _
    have hb3 : Below W.heap.size W (W.alloc (.cells #[.map (some w.heap.size)] 63)) := (Below.refl _ W).alloc (Nat.le_refl _) _
    refine ⟨⟨heap_alloc_new W _, ⟨es, ck, (hb3.block _ (by omega)).trans hMW, k2⟩, hH.no, fun x l hx hl => ?_, hH.desc, hH.wf⟩, hb2, by omega, Nat.le_refl _⟩
    obtain ⟨v, q1, q2⟩ := hH.yes x l hx hl
    exact ⟨v, q1, q2.below hb2⟩
  rw [hsz] at HF
  clear hH hbW hMW k1 k2
  go_enter Tryz.func18, Tryz.ntmps18
  go_wp2_with fail
  refine H36.mono ?_
  rintro e w1 ⟨rfl, rfl⟩
  clear H36 c0
  go_wp2_with fail
  go_ret
  exact ⟨_, _, rfl, HF⟩
/-- Appending to nil. -/
theorem ap_nil {P : Program} (w : World) (t ty e : TypeId) (i : TypeInfo) (z : Value) (size bytes : Nat) (ht : P.underlying t = some (.slice e)) (hi : P.info? e = some i) (hz : i.zero = some z)
    (hsize : i.size = size) (hby : i.bytes = bytes) (hzs : z.cells.size = size) (hsz : 0 < size) (ax : Option Addr) (m c : Nat) (news : List Value) (hl : news.length = m * size) (hnews : m = 0 ∨ ∃ ad, ax = some ad ∧ ∀ j u, news[j]? = some u → w.cell? (ad.add j) = some u) (h1 : ∀ u ∈ news, u.oneCell' = true)
    (h63 : m ≤ maxLen) (hbytes : m * bytes ≤ 140737488355328) :
    ∃ a' c' w', (Builtin.append_ #[t, t] ty #[.slice none 0 0, .slice ax m c]).run P w = .ok (.slice a' m c') w' ∧ w'.ownsRow w.heap.size e size (.slice a' m c') m news ∧ w.grownBy w' none := by
  cases ax with
  | some ad =>
    obtain ⟨v', w', r1, r2, r3, _⟩ := run_append_own_at w w.heap.size t ty e i z size bytes ht hi hz hsize hby hzs hsz (.slice none 0 0) 0 [] (World.ownsRow_nil _ _ _ _) ad m c news hl (by
      rcases hnews with e | ⟨ad', e, h2⟩
      · intro j u hu
        have : news = [] := List.eq_nil_of_length_eq_zero (by rw [hl, e, Nat.zero_mul])
        rw [this] at hu; simp at hu
      · cases e; exact h2) h1 (by simpa using h63) (by simpa using hbytes) (Nat.le_refl _)
    rw [Nat.zero_add] at r2
    obtain ⟨a', c', rfl⟩ := owns_form r2
    exact ⟨a', c', w', r1, by simpa using r2, r3⟩
  | none =>
    have hm : m = 0 := by
      rcases hnews with e | ⟨ad', e, _⟩
      · exact e
      · cases e
    subst hm
    obtain rfl : news = [] := List.eq_nil_of_length_eq_zero (by rw [hl, Nat.zero_mul])
    exact ⟨none, 0, w, run_append_nothing w t t ty e i ht hi none 0 0 (Nat.le_refl _) (.slice none 0 c) (Src.ofNil w ht c), World.ownsRow_nil _ _ _ _, ⟨rfl, rfl, rfl, Nat.le_refl _, fun _ _ _ => rfl⟩⟩
theorem grown_none {w w' : World} (h : w.grownBy w' none) : Below w.heap.size w w' := ⟨h.os, h.tape, h.output, h.size, fun k hk => h.block k hk (by simp)⟩
theorem step_append_eq {P : Program} {w w' : World} {ops : Array Oper} {o : Oper} {act : Act} {K : Act → World → Prop} {Q : Exit → Act → World → Prop} {E : Prop} (hgd : o.guard = none) (s x : Operand) (t : TypeId)
    (ho : o.op = .call { callee := .builtin .append, args := #[s, x], argTypes := #[t, t] }) (v1 v2 u : Value) (hs : act.eval s = v1) (hx : act.eval x = v2) (hrun : (Builtin.append_ #[t, t] o.type #[v1, v2]).run P w = .ok u w') (hK : K (act.put o.dst u) w') :
    if Region.wanted o (yielded ops act.tmps) = true then Oper.wp P o act w K Q else E := by
  have hw : Region.wanted o (yielded ops act.tmps) = true := by simp [Region.wanted, hgd]
  rw [if_pos hw]
  unfold Oper.wp execOp
  simp only [ho, resolve, invoke, builtin, Sem.run_bind, Sem.run_pure, Result.andThen_ok, List.map_toArray, List.map_cons, List.map_nil, hs, hx, hrun]
  exact hK
theorem encB_one (l : List Bn) : ∀ u ∈ l.flatMap encB, u.oneCell' = true := fun u hu => by
  obtain ⟨x, _, hx⟩ := List.mem_flatMap.1 hu
  exact one_bn x u hx
theorem Bs.all {w : World} {a : Option Addr} {n : Nat} {bs : List Bn} (h : Bs w a n bs) : n = 0 ∨ ∃ ad, a = some ad ∧ ∀ j u, (bs.flatMap encB)[j]? = some u → w.cell? (ad.add j) = some u := by
  rcases h.mem with e | ⟨b, o, e, _, hr⟩
  · exact .inl e
  · exact .inr ⟨_, e, fun j u hu => by rw [Addr.add_mid]; exact hr j u hu⟩
set_option maxRecDepth 100000 in
set_option maxHeartbeats 4000000 in
theorem z19 (G : Nat → Prop) (rt : Nat) (bs : List Bn) (w : World) (h : RfH w G rt bs) (hn : bs.length ≤ 3518437208780) :
    Calls Tryz.prog 19 #[.pointer (some ⟨rt, 0, none⟩)] w fun e w' => ∃ fb G', e = .returned (.pointer (some ⟨fb, 0, none⟩)) ∧ Hid (RfH w' G' fb bs ∧ Below w.heap.size w w' ∧ w.heap.size ≤ fb ∧ ∀ g, G' g → G g ∨ w.heap.size ≤ g) := by
  obtain ⟨i0, hi, hz, hs3, hby⟩ := info66
  obtain ⟨W, hW⟩ : ∃ W, w.alloc (.cells #[.slice none 0 0] 48) = W := ⟨_, rfl⟩
  obtain ⟨fb, hfb⟩ : ∃ fb, w.heap.size = fb := ⟨_, rfl⟩
  have hbW : Below w.heap.size w W := by rw [← hW]; exact (Below.refl _ w).alloc (Nat.le_refl _) _
  have hc : W.heap[fb]? = some (.cells #[.slice none 0 0] 48 (0, 0)) := by rw [← hW, ← hfb]; exact heap_alloc_new w _
  obtain ⟨ra, rc, k1, k2, k4⟩ := h.ex
  obtain ⟨n, hnn⟩ : ∃ n, bs.length = n := ⟨_, rfl⟩
  rw [hnn] at k1 k2 hn
  have b1 : Below w.heap.size w W.drew := hbW.drew
  have r1 : Bs W.drew ra n bs := k2.keeps fun g e => b1.block g (h.lt g (k4 g e))
  obtain ⟨a1, c1, w1, e1, o1, g1⟩ := ap_nil (P := Tryz.prog) W.drew 22 22 55 i0 _ 3 40 Tryz.underlying22 hi hz hs3 hby rfl (by decide) ra n rc (bs.flatMap encB) (by rw [encB_len, hnn]) r1.all (encB_one _) (by unfold maxLen; omega) (by omega)
  have b2 : Below W.heap.size W w1 := ((Below.refl W.heap.size W).drew).trans (grown_none g1)
  have hc1 : w1.heap[fb]? = some (.cells #[.slice none 0 0] 48 (0, 0)) := (b2.block fb (Array.getElem?_eq_some_iff.1 hc).1).trans hc
  have hc2 := heap_setCell_same w1 fb 0 _ 48 (.slice a1 n c1) hc1
  have HEnd : Hid (RfH (w1.setCell ⟨fb, 0, none⟩ (.slice a1 n c1)) (fun g => (G g ∨ w.heap.size ≤ g) ∧ g ≠ fb ∧ g < w1.heap.size) fb bs ∧ Below w.heap.size w (w1.setCell ⟨fb, 0, none⟩ (.slice a1 n c1)) ∧ w.heap.size ≤ fb ∧ ∀ g, ((G g ∨ w.heap.size ≤ g) ∧ g ≠ fb ∧ g < w1.heap.size) → G g ∨ w.heap.size ≤ g) := by
    have bF : Below w.heap.size w (w1.setCell ⟨fb, 0, none⟩ (.slice a1 n c1)) := (hbW.trans (b2.mono hbW.size)).setCell (p := ⟨fb, 0, none⟩) (by simp [hfb]) _
    have hWs : W.heap.size = fb + 1 := by rw [← hW, ← hfb]; simp
    obtain ⟨a', c', e', q1, q2⟩ := own_sl o1
    simp only [Value.slice.injEq, true_and] at e'
    obtain ⟨rfl, rfl⟩ := e'
    have q1' : ∀ g, bkA a1 = some g → fb < g ∧ g < w1.heap.size := fun g e => ⟨by have := (q1 g e).1; simp at this; omega, (q1 g e).2⟩
    refine ⟨⟨⟨a1, c1, by rw [hnn]; exact hc2, ?_, fun g e => ?_⟩, fun r hr => ⟨(h.lst r hr).1.keeps fun g e => bF.block g (h.lt g ((h.lst r hr).2 g e)), fun g e => ?_⟩, fun e => e.2.1 rfl, (Array.getElem?_eq_some_iff.1 hc2).1, fun g e => by simpa using e.2.2⟩, bF, by omega, fun g e => e.1⟩
    · rw [hnn]
      have : Bs w1 a1 n bs := ⟨hnn, q2⟩
      exact this.keeps fun g e => heap_setCell_other _ _ _ _ (by have := q1' g e; simp; omega)
    · have := q1' g e
      exact ⟨.inr (by omega), by omega, this.2⟩
    · have h1 := (h.lst r hr).2 g e
      have h2 := h.lt g h1
      have h3 := b2.size
      exact ⟨.inl h1, by omega, by omega⟩
  have t0 : W.cell? ⟨rt, 0, none⟩ = some (.slice ra n rc) := by rw [cell_of_row W rt 0 _ 48 (0, 0) ((hbW.block rt h.rlt).trans k1)]; rfl
  have f0 : W.cell? ⟨fb, 0, none⟩ = some (.slice none 0 0) := by rw [cell_of_row W fb 0 _ 48 (0, 0) hc]; rfl
  have f1 : w1.cell? ⟨fb, 0, none⟩ = some (.slice none 0 0) := by rw [cell_of_row w1 fb 0 _ 48 (0, 0) hc1]; rfl
  have z1 := frozen_of_row w1 fb 0 _ 48 hc1
  clear h hc hc1 hc2 hbW b1 b2 r1 g1 o1 k1 k2 k4 hnn
  go_enter Tryz.func19, Tryz.ntmps19
  go_wp2_with fail
  go_region_law (refine step_append_eq (by rfl) _ _ 22 (by rfl) _ _ _ (by rfl) (by rfl) e1 ?_)
  all_goals (
    go_wp2_with fail
    go_ret
    exact ⟨fb, _, rfl, HEnd⟩)
/-- Rows of terms that can be read. -/
structure Tn (w : World) (a : Option Addr) (n : Nat) (L : List (List C)) (vs : List Value) : Prop where
  len : vs.length = n
  len2 : L.length = n
  mem : n = 0 ∨ ∃ b o, a = some ⟨b, o, none⟩ ∧ b < w.heap.size ∧ w.rangeAt b o vs
  el : ∀ (i : Nat) (z : Value) (l : List C), vs[i]? = some z → L[i]? = some l → TermAt w z l
theorem Tn.below {w w' : World} {a : Option Addr} {n : Nat} {L : List (List C)} {vs : List Value} (h : Tn w a n L vs) (hb : Below w.heap.size w w') : Tn w' a n L vs := by
  refine ⟨h.len, h.len2, ?_, fun i z l hz hl => (h.el i z l hz hl).below hb⟩
  rcases h.mem with e | ⟨b, o, e, h1, h2⟩
  · exact .inl e
  · exact .inr ⟨b, o, e, Nat.lt_of_lt_of_le h1 hb.size, range_below h2 h1 hb⟩
theorem Tn.at {w : World} {a : Option Addr} {n : Nat} {L : List (List C)} {vs : List Value} (h : Tn w a n L vs) {k : Nat} (hk : k < n) : ∃ b o la lc l, a = some ⟨b, o, none⟩ ∧ L[k]? = some l ∧ w.cell? ⟨b, o + k, none⟩ = some (.slice la (List.length (α := C) l) lc) ∧ TermAt w (.slice la l.length lc) l ∧ b < w.heap.size := by
  rcases h.mem with e | ⟨b, o, e, h1, h2⟩
  · omega
  · have hk1 : k < vs.length := by have := h.len; omega
    have hk2 : k < L.length := by have := h.len2; omega
    have hz : vs[k]? = some vs[k] := List.getElem?_eq_getElem hk1
    have hl : L[k]? = some L[k] := List.getElem?_eq_getElem hk2
    have ht := h.el k _ _ hz hl
    obtain ⟨la, lc, hf⟩ := ht.form
    have hc := h2 _ _ hz
    rw [hf] at ht hc
    exact ⟨b, o, la, lc, L[k], e, hl, hc, ht, h1⟩
set_option maxRecDepth 100000 in
set_option maxHeartbeats 4000000 in
theorem z11 (a a' : Option Addr) (n c c' : Nat) (L : List (List C)) (vs vs' : List Value) (w : World) (h : Tn w a n L vs) (h' : Tn w a' n L vs') (hn : n ≤ 4000000000000) :
    Calls Tryz.prog 11 #[.slice a n c, .slice a' n c'] w fun e w' => e = .returned (.bool true) ∧ Below w.heap.size w w' := by
  have HH : Hid (Tn w a n L vs ∧ Tn w a' n L vs') := ⟨h, h'⟩
  clear h h'
  go_enter Tryz.func11, Tryz.ntmps11
  go_wp2_with fail
  go_loopw [5] (fun i wr => ∃ k : Nat, k ≤ n ∧ i = .int .i64 k ∧ Hid (Below w.heap.size w wr)) (fun i _ => n - (intOf i).toNat)
  case atStart => exact ⟨0, Nat.zero_le _, rfl, Below.refl _ _⟩
  case round =>
    obtain ⟨k, hk, rfl, HK⟩ := hrel
    by_cases hlt : k < n
    · have hltI : (k : Int) < (n : Int) := by omega
      have hk0 : (0 : Int) ≤ (k : Int) := by omega
      obtain ⟨b, o, b', o', la, lc, la', lc', ll, rfl, rfl, HC, K15⟩ : ∃ b o b' o' la lc la' lc' ll, a = some ⟨b, o, none⟩ ∧ a' = some ⟨b', o', none⟩ ∧ Hid (∀ u, Below wr.heap.size wr u → (fun u => u.cell? ⟨b, o + k, none⟩ = some (.slice la ll.length lc) ∧ u.cell? ⟨b', o' + k, none⟩ = some (.slice la' ll.length lc')) u) ∧ Hid (∀ u, Below wr.heap.size wr u → Calls Tryz.prog 10 #[.slice la (List.length (α := C) ll) lc, .slice la' ll.length lc'] u fun e w' => e = .returned (.bool true) ∧ Hid (Below wr.heap.size wr w')) := by
        obtain ⟨b, o, la, lc, l, e1, hl, c0, t0, hb⟩ := (HH.out.1.below HK.out).at hlt
        obtain ⟨b', o', la', lc', l', e1', hl', c0', t0', hb'⟩ := (HH.out.2.below HK.out).at hlt
        rw [hl] at hl'
        cases hl'
        refine ⟨b, o, b', o', la, lc, la', lc', l, e1, e1', fun u hu => ⟨(hu.cell (p := ⟨b, o + k, none⟩) hb).trans c0, (hu.cell (p := ⟨b', o' + k, none⟩) hb').trans c0'⟩, fun u hu => ?_⟩
        refine (c13 l l _ _ u (t0.below hu) (t0'.below hu)).mono ?_
        rintro e w' ⟨rfl, hb2⟩
        exact ⟨by rw [eqT_refl], hu.trans (hb2.mono hu.size)⟩
      go_wp2_with fail
      refine wp_region_noPanic ?_
      refine wp_region_held_drew (S := fun u => u.cell? ⟨b, o + k, none⟩ = some (.slice la ll.length lc) ∧ u.cell? ⟨b', o' + k, none⟩ = some (.slice la' ll.length lc')) (by kernel_rfl) (HC.out _ (Below.refl _ _).drew) (fun hHeld => ?_)
      (refine wpAnyH_take (i := 0) (v := ?_) (by simp only [List.getElem?_toArray, List.getElem?_cons_zero]; rfl) (by kernel_rfl) (by kernel_rfl) (by kernel_rfl) (fun _ _ _ h => h) (Or.inl ⟨by rfl, ?_⟩) (by assumption) ?_; rotate_left; (· (intro w hSw; (try dsimp only at hSw); go_simp <;> with_reducible rfl)); try simp only [Act.put, List.setIfInBounds_toArray, List.set_cons_zero, List.set_cons_succ])
      (refine wpAnyH_take (i := 1) (v := ?_) (by simp only [List.getElem?_toArray, List.getElem?_cons_zero, List.getElem?_cons_succ]; rfl) (by kernel_rfl) (by kernel_rfl) (by kernel_rfl) (fun _ _ _ h => h) (Or.inl ⟨by rfl, ?_⟩) (by assumption) ?_; rotate_left; (· (intro w hSw; (try dsimp only at hSw); go_simp <;> with_reducible rfl)); try simp only [Act.put, List.setIfInBounds_toArray, List.set_cons_zero, List.set_cons_succ])
      (refine wpAnyH_take (i := 2) (v := ?_) (by simp only [List.getElem?_toArray, List.getElem?_cons_zero, List.getElem?_cons_succ]; rfl) (by kernel_rfl) (by kernel_rfl) (by kernel_rfl) (fun _ _ _ h => h) (Or.inl ⟨by rfl, ?_⟩) (by assumption) ?_; rotate_left; (· (intro w hSw; (try dsimp only at hSw); go_simp <;> with_reducible rfl)); try simp only [Act.put, List.setIfInBounds_toArray, List.set_cons_zero, List.set_cons_succ])
      (refine wpAnyH_take (i := 3) (v := ?_) (by simp only [List.getElem?_toArray, List.getElem?_cons_zero, List.getElem?_cons_succ]; rfl) (by kernel_rfl) (by kernel_rfl) (by kernel_rfl) (fun _ _ _ h => h) (Or.inl ⟨by rfl, ?_⟩) (by assumption) ?_; rotate_left; (· (intro w hSw; (try dsimp only at hSw); go_simp <;> with_reducible rfl)); try simp only [Act.put, List.setIfInBounds_toArray, List.set_cons_zero, List.set_cons_succ])
      (refine wpAnyH_take (i := 4) (v := ?_) (by simp only [List.getElem?_toArray, List.getElem?_cons_zero, List.getElem?_cons_succ]; rfl) (by kernel_rfl) (by kernel_rfl) (by kernel_rfl) (fun _ _ _ h => h) (Or.inl ⟨by rfl, ?_⟩) (by assumption) ?_; rotate_left; (· (intro w hSw; (try dsimp only at hSw); go_simp <;> with_reducible rfl)); try simp only [Act.put, List.setIfInBounds_toArray, List.set_cons_zero, List.set_cons_succ])
      (refine wpAnyH_take (i := 5) (v := ?_) (by simp only [List.getElem?_toArray, List.getElem?_cons_zero, List.getElem?_cons_succ]; rfl) (by kernel_rfl) (by kernel_rfl) (by kernel_rfl) (fun _ _ _ h => h) (Or.inl ⟨by rfl, ?_⟩) (by assumption) ?_; rotate_left; (· (intro w hSw; (try dsimp only at hSw); go_simp <;> with_reducible rfl)); try simp only [Act.put, List.setIfInBounds_toArray, List.set_cons_zero, List.set_cons_succ])
      (refine wpAnyH_take (i := 6) (v := ?_) (by simp only [List.getElem?_toArray, List.getElem?_cons_zero, List.getElem?_cons_succ]; rfl) (by kernel_rfl) (by kernel_rfl) (by kernel_rfl) (fun _ _ _ h => h) (Or.inl ⟨by rfl, ?_⟩) (by assumption) ?_; rotate_left; (· (intro w hSw; (try dsimp only at hSw); go_simp <;> with_reducible rfl)); try simp only [Act.put, List.setIfInBounds_toArray, List.set_cons_zero, List.set_cons_succ])
      (refine wpAnyH_take (i := 7) (v := ?_) (by simp only [List.getElem?_toArray, List.getElem?_cons_zero, List.getElem?_cons_succ]; rfl) (by kernel_rfl) (by kernel_rfl) (by kernel_rfl) (fun _ _ _ h => h) (Or.inl ⟨by rfl, ?_⟩) (by assumption) ?_; rotate_left; (· (intro w hSw; (try dsimp only at hSw); go_simp <;> with_reducible rfl)); try simp only [Act.put, List.setIfInBounds_toArray, List.set_cons_zero, List.set_cons_succ])
      refine wpAnyH_ready (rs := [8]) (by kernel_rfl) (by simp) ?_
      refine AllReadyH.cons (by simp only [List.getElem?_toArray, List.getElem?_cons_zero, List.getElem?_cons_succ]; rfl) (fun K hK => ?_) AllReadyH.nil
      go_simp
      go_at_call 10
      refine (K15.out _ (by first | exact Below.refl _ _ | exact (Below.refl _ _).drew)).mono ?_
      rintro e w3 ⟨rfl, H3⟩
      refine hK.out _ _ ?_ (fun hHeld => ?_)
      · exact HC.out w3 H3.out
      clear hK K
      try simp only [Act.put, List.setIfInBounds_toArray, List.set_cons_zero, List.set_cons_succ]
      (refine wpAnyH_take (i := 9) (v := ?_) (by simp only [List.getElem?_toArray, List.getElem?_cons_zero, List.getElem?_cons_succ]; rfl) (by kernel_rfl) (by kernel_rfl) (by kernel_rfl) (fun _ _ _ h => h) (Or.inl ⟨by rfl, ?_⟩) (by assumption) ?_; rotate_left; (· (intro w hSw; (try dsimp only at hSw); go_simp <;> with_reducible rfl)); try simp only [Act.put, List.setIfInBounds_toArray, List.set_cons_zero, List.set_cons_succ])
      refine wpAnyH_done (by kernel_rfl) ?_ _
      refine NoPanic.normal ?_
      clear hHeld K15 HC
      have HE : Hid (Below w.heap.size w w3) := HK.out.trans (H3.out.mono HK.out.size)
      go_wp2_with fail
      go_roundw
      case rel => exact ⟨k + 1, by omega, by go_num, HE⟩
      case measure => simp [intOf]; omega
    · have hltI : ¬ (k : Int) < (n : Int) := by omega
      go_wp2_with fail
      go_ret
      exact ⟨rfl, HK.out⟩
/-- What is kept. -/
def keptB (xs : List Nm) (bs : List Bn) : List Bn := bs.filter fun b => !hasN xs b.x
theorem kept_hp (xs : List Nm) (bs : List Bn) : hpOf (keptB xs bs) = (hpOf bs).filter fun p => !hasN xs p.1 := by
  unfold hpOf keptB
  rw [List.filter_map]
  rfl
set_option maxRecDepth 100000 in
set_option maxHeartbeats 4000000 in
theorem z21 (G : Nat → Prop) (rt : Nat) (bs : List Bn) (xs : List Nm) (v : Value) (w : World) (h : RfH w G rt bs) (hN : NamesAt w v xs) (hn : bs.length ≤ 3518437208780) :
    Calls Tryz.prog 21 #[.pointer (some ⟨rt, 0, none⟩), v] w fun e w' => e = .returned (.tuple #[]) ∧ Hid (∃ G', RfH w' G' rt (keptB xs bs) ∧ KeepsBut rt w w' ∧ ∀ g, G' g → G g ∨ w.heap.size ≤ g) := by
  obtain ⟨i0, hi, hz, hs3, hby⟩ := info66
  obtain ⟨va, vc, hvf⟩ := hN.form
  subst hvf
  have HX : Hid (RfH w G rt bs ∧ NamesAt w (.slice va xs.length vc) xs) := ⟨h, hN⟩
  obtain ⟨ra, rc, n, HR, hnn⟩ : ∃ ra rc n, Hid (∀ u, Below w.heap.size w u → u.heap[rt]? = some (.cells #[.slice ra n rc] 48 (0, 0)) ∧ u.cell? ⟨rt, 0, none⟩ = some (.slice ra n rc) ∧ Bs u ra n bs) ∧ bs.length = n := by
    obtain ⟨ra, rc, k1, k2, k4⟩ := h.ex
    refine ⟨ra, rc, bs.length, fun u hu => ?_, rfl⟩
    have h1 := (hu.block rt h.rlt).trans k1
    exact ⟨h1, by rw [cell_of_row u rt 0 _ 48 (0, 0) h1]; rfl, k2.keeps fun g e => hu.block g (h.lt g (k4 g e))⟩
  have HL : Hid (bs.length = n) := hnn
  rw [hnn] at hn
  clear h hN hnn
  go_enter Tryz.func21, Tryz.ntmps21
  go_wp2_with fail
  go_loopw [4, 5] (fun lv i wr => ∃ (k : Nat) (la : Option Addr) (lc ln : Nat), k ≤ n ∧ ln ≤ k ∧ lv = .slice la ln lc ∧ i = .int .i64 k ∧ Hid (wr.ownsRow w.heap.size 55 3 (.slice la ln lc) ln ((keptB xs (bs.take k)).flatMap encB) ∧ (keptB xs (bs.take k)).length = ln ∧ Below w.heap.size w wr)) (fun _ i _ => n - (intOf i).toNat)
  case atStart => exact ⟨0, none, 0, 0, Nat.zero_le _, Nat.zero_le _, rfl, rfl, World.ownsRow_nil _ _ _ _, rfl, Below.refl _ _⟩
  case round =>
    obtain ⟨k, la, lc, ln, hk, hln, rfl, rfl, HK⟩ := hrel
    obtain ⟨_, c0, hBs⟩ := HR.out wr HK.out.2.2
    by_cases hlt : k < n
    · have hltI : (k : Int) < (n : Int) := by omega
      have hk0 : (0 : Int) ≤ (k : Int) := by omega
      obtain ⟨b1, o1, hk1, rfl, hbl, p0, p1, p2⟩ := hBs.at hlt
      have HTK : Hid (keptB xs (bs.take (k + 1)) = keptB xs (bs.take k) ++ (if hasN xs bs[k].x then [] else [bs[k]])) := by
        show _ = _
        rw [List.take_succ_eq_append_getElem hk1]
        unfold keptB
        rw [List.filter_append]
        congr 1
        cases hh : hasN xs bs[k].x <;> simp [hh]
      generalize bs[k] = q at *
      obtain ⟨⟨x1, x2⟩, qa, qn, qc, ql⟩ := q
      simp only at p0 p1 p2
      have H37 : Calls Tryz.prog 37 #[.slice va xs.length vc, .agg #[.int .i64 x1, .int .i64 x2]] wr fun e w' => e = .returned (.bool (hasN xs (x1, x2))) ∧ Hid (Below wr.heap.size wr w') := c43 xs _ (x1, x2) wr (HX.out.2.below HK.out.2.2)
      have HC : Hid (∀ u, Below wr.heap.size wr u → u.cell? ⟨rt, 0, none⟩ = some (.slice (some ⟨b1, o1, none⟩) n rc) ∧ u.cell? ⟨b1, o1 + k * 3, none⟩ = some (.int .i64 x1) ∧ u.cell? ⟨b1, o1 + k * 3 + 1, none⟩ = some (.int .i64 x2) ∧ u.cell? ⟨b1, o1 + k * 3 + 2, none⟩ = some (.slice qa qn qc)) := fun u hu =>
        ⟨(HR.out u (HK.out.2.2.trans (hu.mono HK.out.2.2.size))).2.1, (hu.cell (p := ⟨b1, o1 + k * 3, none⟩) hbl).trans p0, (hu.cell (p := ⟨b1, o1 + k * 3 + 1, none⟩) hbl).trans p1, (hu.cell (p := ⟨b1, o1 + k * 3 + 2, none⟩) hbl).trans p2⟩
      clear hBs hbl hk1
      cases hh : hasN xs (x1, x2)
      · rw [hh] at H37
        have HT2 : Hid (keptB xs (bs.take (k + 1)) = keptB xs (bs.take k) ++ [(⟨(x1, x2), qa, qn, qc, ql⟩ : Bn)]) := by
          have := HTK.out
          simp only [hh] at this
          exact this
        clear hh HTK
        go_wp2_with fail
        refine H37.mono ?_
        rintro e w2 ⟨rfl, H2⟩
        clear H37 c0 p0 p1 p2
        obtain ⟨c0, p0, p1, p2⟩ := HC.out w2 H2.out
        have HA : Hid ((w2.alloc (.cells #[.int .i64 x1, .int .i64 x2, .slice qa qn qc] 55)).ownsRow w.heap.size 55 3 (.slice la ln lc) ln ((keptB xs (bs.take k)).flatMap encB) ∧ Below w.heap.size w (w2.alloc (.cells #[.int .i64 x1, .int .i64 x2, .slice qa qn qc] 55))) := by
          have hb2 : Below wr.heap.size wr (w2.alloc (.cells #[.int .i64 x1, .int .i64 x2, .slice qa qn qc] 55)) := H2.out.alloc H2.out.size _
          exact ⟨owns_below' HK.out.1 hb2, HK.out.2.2.trans (hb2.mono HK.out.2.2.size)⟩
        have HKL : Hid ((keptB xs (bs.take k)).length = ln) := HK.out.2.1
        clear H2 HK HC
        go_wp2_with (at_builtin; refine wpList_append_own _ rfl _ _ 22 rfl w.heap.size 55 i0 _ 3 40 Tryz.underlying22 hi hz hs3 hby rfl (by decide) _ _ _ rfl HA.out.1 ⟨w2.heap.size, 0, none⟩ 1 1 (encB ⟨(x1, x2), qa, qn, qc, ql⟩) rfl rfl (new_bn w2 ⟨(x1, x2), qa, qn, qc, ql⟩) (one_bn _) (by unfold maxLen; omega) (by omega) HA.out.2.size ?_)
        intro v' w4 hown hgr _
        obtain ⟨l1, hl1⟩ : ∃ l1, ln + 1 = l1 := ⟨_, rfl⟩
        obtain ⟨la', lc', rfl, HF⟩ : ∃ la' lc', v' = .slice la' l1 lc' ∧ Hid (w4.ownsRow w.heap.size 55 3 (.slice la' l1 lc') l1 ((keptB xs (bs.take (k + 1))).flatMap encB) ∧ (keptB xs (bs.take (k + 1))).length = l1 ∧ Below w.heap.size w w4) := by
          obtain ⟨a', c', e, _⟩ := own_sl hown
          subst e
          refine ⟨a', c', by rw [hl1], ?_, by rw [HT2.out, List.length_append, HKL.out]; exact hl1, HA.out.2.grown hgr HA.out.2.size (fun g hg => (HA.out.1.lt g hg).1)⟩
          rw [HT2.out, List.flatMap_append, ← hl1]
          simpa using hown
        clear hown hgr HA HKL HT2 c0 p0 p1 p2
        go_wp2_with fail
        go_roundw
        case rel => exact ⟨k + 1, la', lc', l1, by omega, by omega, rfl, by go_num, HF.out⟩
        case measure => simp [intOf]; omega
      · rw [hh] at H37
        have HT2 : Hid (keptB xs (bs.take (k + 1)) = keptB xs (bs.take k)) := by
          have := HTK.out
          simp only [hh, if_true, List.append_nil] at this
          exact this
        clear hh HTK
        go_wp2_with fail
        refine H37.mono ?_
        rintro e w2 ⟨rfl, H2⟩
        have HF : Hid (w2.ownsRow w.heap.size 55 3 (.slice la ln lc) ln ((keptB xs (bs.take (k + 1))).flatMap encB) ∧ (keptB xs (bs.take (k + 1))).length = ln ∧ Below w.heap.size w w2) := by
          show _ ∧ _ ∧ _
          rw [HT2.out]
          exact ⟨owns_below' HK.out.1 H2.out, HK.out.2.1, HK.out.2.2.trans (H2.out.mono HK.out.2.2.size)⟩
        clear H37 c0 p0 p1 p2 H2 HK HC HT2
        go_wp2_with fail
        go_roundw
        case rel => exact ⟨k + 1, la, lc, ln, by omega, by omega, rfl, by go_num, HF.out⟩
        case measure => simp [intOf]; omega
    · have hltI : ¬ (k : Int) < (n : Int) := by omega
      obtain ⟨hblk, _, _⟩ := HR.out wr HK.out.2.2
      have f0 := frozen_of_row wr rt 0 _ 48 hblk
      have hc2 := heap_setCell_same wr rt 0 _ 48 (.slice la ln lc) hblk
      have HE : Hid (∃ G', RfH (wr.setCell ⟨rt, 0, none⟩ (.slice la ln lc)) G' rt (keptB xs bs) ∧ KeepsBut rt w (wr.setCell ⟨rt, 0, none⟩ (.slice la ln lc)) ∧ ∀ g, G' g → G g ∨ w.heap.size ≤ g) := by
        obtain ⟨h1, h2, h3⟩ := HK.out
        rw [List.take_of_length_le (by have := HL.out; omega)] at h1 h2
        obtain ⟨a', c', e', q1, q2⟩ := own_sl h1
        simp only [Value.slice.injEq, true_and] at e'
        obtain ⟨rfl, rfl⟩ := e'
        have hrf := HX.out.1
        have ho : ∀ g, g ≠ rt → (wr.setCell ⟨rt, 0, none⟩ (.slice la ln lc)).heap[g]? = wr.heap[g]? := fun g hg => heap_setCell_other _ _ _ _ hg
        refine ⟨fun g => (G g ∨ (w.heap.size ≤ g ∧ g < wr.heap.size)) , ⟨⟨la, lc, by rw [h2]; exact hc2, ?_, fun g e => .inr (q1 g e)⟩, fun b hb => ⟨?_, fun g e => .inl ((hrf.lst b (List.mem_filter.1 hb).1).2 g e)⟩, ?_, (Array.getElem?_eq_some_iff.1 hc2).1, ?_⟩, ⟨?_, ?_, ?_, ?_, fun j hj hne => (ho j hne).trans (h3.block j hj)⟩, fun g e => e.imp_right (·.1)⟩
        · rw [h2]
          have : Bs wr la ln (keptB xs bs) := ⟨h2, q2⟩
          exact this.keeps fun g e => ho g (by have := (q1 g e).1; have := hrf.rlt; omega)
        · refine ((hrf.lst b (List.mem_filter.1 hb).1).1.below h3).keeps fun g e => ho g fun e2 => hrf.grt ?_
          rw [← e2]
          exact (hrf.lst b (List.mem_filter.1 hb).1).2 g e
        · rintro (e | ⟨e, _⟩)
          · exact hrf.grt e
          · have := hrf.rlt
            omega
        · rintro g (e | ⟨_, e⟩)
          · have := hrf.lt g e
            have := h3.size
            simp
            omega
          · simpa using e
        · exact h3.os
        · exact h3.tape
        · exact h3.output
        · simpa using h3.size
      clear hBs HK hblk hc2
      go_wp2_with fail
      exact bodyPost_end (v := .tuple #[]) (by simp [results, Tryz.results21, go_sem]) rfl ⟨rfl, HE⟩
/-- What Resolve tells, just so. -/
def ResE (w : World) (m : Hp) (t : List C) (e : Ending) (w' : World) : Prop :=
  (rightB t = false ∧ e = .returned (.tuple #[.slice none 0 0, .int .i64 6]) ∧ Below w.heap.size w w') ∨ (rightB t = true ∧ e = .returned (.tuple #[.slice none 0 0, .int .i64 5]) ∧ Below w.heap.size w w' ∧ ∀ o, Ex m t o → 256 < o.length) ∨
    (rightB t = true ∧ ∃ (o : List C) (fa : Option Addr) (fc : Nat), e = .returned (.tuple #[.slice fa o.length fc, .int .i64 0]) ∧ Ex m t o ∧ TermAt w' (.slice fa o.length fc) o ∧ o.length ≤ 256 ∧ Below w.heap.size w w')
set_option maxRecDepth 100000 in
set_option maxHeartbeats 4000000 in
theorem i16e (m : Hp) (hb M n : Nat) (D : DataW Value) (t : List C) (v : Value) (w : World) (hH : HpAt w hb M n D m) (hR : RgH m) (hT : TermAt w v t) (hW : ∀ c ∈ t, wfN (c.vn, c.vk)) (hS : Signs w) :
    Calls Tryz.prog 7 #[.pointer (some ⟨hb, 0, none⟩), v] w fun e w' => ResE w m t e w' := by
  have H33 : Calls Tryz.prog 29 #[v] w fun e w' => e = .returned (.bool (rightB t)) ∧ Hid (Below w.heap.size w w') := c22 t v w hT hS
  have K34 : Hid (∀ u, Below w.heap.size w u → Calls Tryz.prog 30 #[.pointer (some ⟨hb, 0, none⟩), .slice none 0 0, v] u fun e w' => FlP w m [] t e w') := fun u hu =>
    i34 m hb M n D w hH hR 257 [] t v none 0 u ⟨World.ownsRow_nil _ _ _ _, hu, by simp, fun c hc => by cases hc⟩ hT hW (.inl (by simp))
  obtain ⟨va, vc, hvf⟩ := hT.form
  subst hvf
  clear hH hR hT hW hS
  cases hr : rightB t
  · rw [hr] at H33
    go_enter Tryz.func7, Tryz.ntmps7
    go_wp2_with fail
    refine H33.mono ?_
    rintro e w1 ⟨rfl, H1⟩
    clear H33
    go_wp2_with fail
    refine bodyPost_ret (v := .tuple #[.slice none 0 0, .int .i64 6]) (by simp [results, Tryz.results7, go_sem]) rfl ?_
    exact .inl ⟨hr, rfl, H1.out⟩
  · rw [hr] at H33
    go_enter Tryz.func7, Tryz.ntmps7
    go_wp2_with fail
    refine H33.mono ?_
    rintro e w1 ⟨rfl, H1⟩
    clear H33
    go_wp2_with fail
    refine (K34.out w1 H1.out).mono ?_
    rintro e w2 (⟨rfl, hb2, hf⟩ | ⟨o, fa, fc, rfl, hx, hO⟩)
    · have HE : Hid (Below w.heap.size w w2 ∧ ∀ o, Ex m t o → 256 < o.length) := ⟨hb2, fun o ho => by have := hf o ho; simpa using this⟩
      clear hb2 hf
      go_wp2_with fail
      refine bodyPost_ret (v := .tuple #[.slice none 0 0, .int .i64 5]) (by simp [results, Tryz.results7, go_sem]) rfl ?_
      exact .inr (.inl ⟨hr, rfl, HE.out.1, HE.out.2⟩)
    · have HE : Hid (Ex m t o ∧ FlO w w2 fa fc o) := ⟨hx, by simpa using hO⟩
      simp only [List.nil_append]
      clear hx hO
      go_wp2_with fail
      refine bodyPost_ret (v := .tuple #[.slice fa o.length fc, .int .i64 0]) (by simp [results, Tryz.results7, go_sem]) rfl ?_
      exact .inr (.inr ⟨hr, o, fa, fc, rfl, HE.out.1, HE.out.2.term, HE.out.2.le, HE.out.2.bel⟩)
set_option maxRecDepth 100000 in
set_option maxHeartbeats 4000000 in
theorem z8 (G : Nat → Prop) (rt : Nat) (bs : List Bn) (t : List C) (v : Value) (w : World) (hR : Rg w G rt bs) (hT : TermAt w v t) (hW : ∀ c ∈ t, wfN (c.vn, c.vk)) :
    Calls Tryz.prog 8 #[.pointer (some ⟨rt, 0, none⟩), v] w fun e w' => ResE w (hpOf bs) t e w' := by
  have H33 : Calls Tryz.prog 31 #[v] w fun e w' => e = .returned (.bool (rightB t)) ∧ Hid (Below w.heap.size w w') := c23 t v w hT
  have K34 : Hid (∀ u, Below w.heap.size w u → Calls Tryz.prog 32 #[.pointer (some ⟨rt, 0, none⟩), v, .int .i64 256, .int .i64 0] u fun e w' => RvP u (hpOf bs) t 256 e w') := fun u hu =>
    z32 G rt bs 257 t v 256 0 u (hR.below hu) (hT.below hu) hW (.inl (by omega)) (.inl (by omega))
  obtain ⟨va, vc, hvf⟩ := hT.form
  subst hvf
  clear hR hT hW
  cases hr : rightB t
  · rw [hr] at H33
    go_enter Tryz.func8, Tryz.ntmps8
    go_wp2_with fail
    refine H33.mono ?_
    rintro e w1 ⟨rfl, H1⟩
    clear H33
    go_wp2_with fail
    refine bodyPost_ret (v := .tuple #[.slice none 0 0, .int .i64 6]) (by simp [results, Tryz.results8, go_sem]) rfl ?_
    exact .inl ⟨hr, rfl, H1.out⟩
  · rw [hr] at H33
    go_enter Tryz.func8, Tryz.ntmps8
    go_wp2_with fail
    refine H33.mono ?_
    rintro e w1 ⟨rfl, H1⟩
    clear H33
    go_wp2_with fail
    refine (K34.out w1 H1.out).mono ?_
    rintro e w2 (⟨rfl, hb2, hf⟩ | ⟨o, fa, fc, rfl, hx, hle, hO, hb2, htx⟩)
    · have HE : Hid (Below w.heap.size w w2 ∧ ∀ o, Ex (hpOf bs) t o → 256 < o.length) := ⟨H1.out.trans (hb2.mono H1.out.size), hf⟩
      clear hb2 hf
      go_wp2_with fail
      refine bodyPost_ret (v := .tuple #[.slice none 0 0, .int .i64 5]) (by simp [results, Tryz.results8, go_sem]) rfl ?_
      exact .inr (.inl ⟨hr, rfl, HE.out.1, HE.out.2⟩)
    · have HE : Hid (Ex (hpOf bs) t o ∧ TermAt w2 (.slice fa o.length fc) o ∧ o.length ≤ 256 ∧ Below w.heap.size w w2) := ⟨hx, termAt_of_owns hO (by unfold maxLen; omega) fun c hc => (htx c hc).1, hle, H1.out.trans (hb2.mono H1.out.size)⟩
      clear hx hO hle hb2 htx
      go_wp2_with fail
      refine bodyPost_ret (v := .tuple #[.slice fa o.length fc, .int .i64 0]) (by simp [results, Tryz.results8, go_sem]) rfl ?_
      exact .inr (.inr ⟨hr, o, fa, fc, rfl, HE.out.1, HE.out.2.1, HE.out.2.2.1, HE.out.2.2.2⟩)
/-- What Value tells of a variable: a term and whether there is one. -/
def VaE (w : World) (m : Hp) (x : Nm) (e : Ending) (w' : World) : Prop := ∃ (a : Option Addr) (c : Nat) (l : List C), e = .returned (.tuple #[.slice a l.length c, .bool (lookH m x).isSome]) ∧ l = (lookH m x).getD [] ∧ TermAt w' (.slice a l.length c) l ∧ Below w.heap.size w w'
theorem nil_term (w : World) : TermAt w (.slice none 0 0) [] := ⟨⟨by simp, fun c hc => by cases hc⟩, .inl ⟨rfl, none, rfl⟩⟩
theorem i5e (m : Hp) (hb M n : Nat) (D : DataW Value) (x : Nm) (w : World) (hH : HpAt w hb M n D m) (hx : wfN x) (hby : ∀ x l, lookH m x = some l → l.length * 48 ≤ 140737488355328) :
    Calls Tryz.prog 5 #[.pointer (some ⟨hb, 0, none⟩), .agg #[.int .i64 x.1, .int .i64 x.2]] w fun e w' => VaE w m x e w' := by
  cases hl : lookH m x with
  | none =>
    refine (i14n m hb M n D x w hH hx hl).mono ?_
    rintro e w' ⟨rfl, h⟩
    exact ⟨none, 0, [], by rw [hl]; rfl, by rw [hl]; rfl, nil_term _, h.out⟩
  | some l =>
    refine (i14 m hb M n D x l w hH hx hl (hby x l hl)).mono ?_
    rintro e w' ⟨a, c, rfl, h⟩
    exact ⟨a, c, l, by rw [hl]; rfl, by rw [hl]; rfl, h.out.1, h.out.2⟩
theorem z6e (G : Nat → Prop) (rt : Nat) (bs : List Bn) (x : Nm) (w : World) (h : Rg w G rt bs) :
    Calls Tryz.prog 6 #[.pointer (some ⟨rt, 0, none⟩), .agg #[.int .i64 x.1, .int .i64 x.2]] w fun e w' => VaE w (hpOf bs) x e w' := by
  refine (z6 G rt bs x w h.rf (by have := h.n; omega)).mono ?_
  rintro e w' ⟨⟨rfl, hn⟩ | ⟨b, hb, hx, rfl⟩, h2⟩
  · exact ⟨none, 0, [], by rw [hn]; rfl, by rw [hn]; rfl, nil_term _, h2⟩
  · have hl : lookH (hpOf bs) x = some b.l := by
      rw [← hx]
      exact (look_mem_iff _ h.up _ _).2 (List.mem_map.2 ⟨b, hb, rfl⟩)
    have ht := (h.rf.lst b hb).1
    obtain ⟨a', c', e⟩ := ht.form
    have hn : b.n = b.l.length := by
      simp only [Bn.v, Value.slice.injEq] at e
      exact e.2.1
    simp only [Bn.v] at ht
    rw [hn] at ht ⊢
    exact ⟨b.a, b.c, b.l, by rw [hl]; rfl, by rw [hl]; rfl, ht.below h2, h2⟩
/-- What Chain tells, of the program or of the reference. -/
def ChE (w : World) (m : Hp) (t : List C) (e : Ending) (w' : World) : Prop := ∃ (a : Option Addr) (c : Nat) (L : List (List C)) (vs : List Value), e = .returned (.slice a L.length c) ∧ (t = [] ∧ L = [] ∨ t ≠ [] ∧ Links m L ∧ L.head? = some t ∧ nextH m (lastT L) = none) ∧ L.length ≤ m.length + 1 ∧ Tn w' a L.length L vs ∧ Below w.heap.size w w'
theorem ch_same {m : Hp} {t : List C} {L L' : List (List C)} (h : t = [] ∧ L = [] ∨ t ≠ [] ∧ Links m L ∧ L.head? = some t ∧ nextH m (lastT L) = none) (h' : t = [] ∧ L' = [] ∨ t ≠ [] ∧ Links m L' ∧ L'.head? = some t ∧ nextH m (lastT L') = none) : L = L' := by
  rcases h with ⟨e, rfl⟩ | ⟨e, h1, h2, h3⟩
  · rcases h' with ⟨_, rfl⟩ | ⟨e', _⟩
    · rfl
    · exact absurd e e'
  · rcases h' with ⟨e', rfl⟩ | ⟨_, k1, k2, k3⟩
    · exact absurd e' e
    · exact links_uniq h1 k1 (by rw [h2, k2]) (fun e => by rw [e] at h2; cases h2) h3 k3
theorem tn_nil (w : World) : Tn w none 0 [] [] := ⟨rfl, rfl, .inl rfl, fun i z l hz => by simp at hz⟩
set_option maxRecDepth 100000 in
theorem i12e (m : Hp) (hb M n : Nat) (D : DataW Value) (t : List C) (va : Option Addr) (vc : Nat) (w : World) (hH : HpAt w hb M n D m) (hT : TermAt w (.slice va t.length vc) t) (hW : ∀ c ∈ t, wfN (c.vn, c.vk)) (hby : t.length * 48 ≤ 140737488355328) (hbm : ∀ x l, lookH m x = some l → l.length * 48 ≤ 140737488355328) (hm : m.length ≤ 4000000000000) :
    Calls Tryz.prog 12 #[.pointer (some ⟨hb, 0, none⟩), .slice va t.length vc] w fun e w' => ChE w m t e w' := by
  cases t with
  | nil =>
    clear hT hH hW hby hbm hm
    simp only [List.length_nil]
    go_enter Tryz.func12, Tryz.ntmps12
    go_wp2_with fail
    go_ret
    exact ⟨none, 0, [], [], rfl, .inl ⟨rfl, rfl⟩, by simp, tn_nil _, Below.refl _ _⟩
  | cons c r =>
    refine (i9 m hb M n D (c :: r) _ w hH hT hW (by simp) hby hbm hm).mono ?_
    rintro e w' ⟨u, rfl, L, vs, h1, h2, h3, h4, h5, h6⟩
    obtain ⟨la, lc, rfl, k1, k2⟩ := own_sl h1.own
    refine ⟨la, lc, L, vs, rfl, .inr ⟨by simp, h2, h3, h4⟩, h5, ⟨h1.len, rfl, k2, fun i z l hz hl => (h1.el i z l hz hl).1⟩, h6⟩
set_option maxRecDepth 100000 in
theorem z13n (rt : Nat) (va : Option Addr) (vc : Nat) (w : World) : Calls Tryz.prog 13 #[.pointer (some ⟨rt, 0, none⟩), .slice va 0 vc] w fun e w' => e = .returned (.slice none 0 0) ∧ Below w.heap.size w w' := by
  go_enter Tryz.func13, Tryz.ntmps13
  go_wp2_with fail
  go_ret
  exact ⟨rfl, Below.refl _ _⟩
set_option maxRecDepth 100000 in
theorem z13e (G : Nat → Prop) (rt : Nat) (bs : List Bn) (t : List C) (va : Option Addr) (vc : Nat) (w : World) (h : Rg w G rt bs) (hT : TermAt w (.slice va t.length vc) t) (hW : ∀ c ∈ t, wfN (c.vn, c.vk)) :
    Calls Tryz.prog 13 #[.pointer (some ⟨rt, 0, none⟩), .slice va t.length vc] w fun e w' => ChE w (hpOf bs) t e w' := by
  cases t with
  | nil =>
    refine (z13n rt va vc w).mono ?_
    rintro e w' ⟨rfl, h1⟩
    exact ⟨none, 0, [], [], rfl, .inl ⟨rfl, rfl⟩, by simp, tn_nil _, h1⟩
  | cons c r =>
    refine (z13 G rt bs (c :: r) _ w h.rf h.up h.de h.wf h.n hT hW (by simp)).mono ?_
    rintro e w' ⟨a, k, cc, rfl, L, vs, h1, h2, h3, h4, h5, h6, h7, h8⟩
    obtain ⟨la, lc, e', k1, k2⟩ := own_sl h1
    simp only [Value.slice.injEq] at e'
    obtain ⟨rfl, rfl, rfl⟩ := e'
    exact ⟨_, _, L, vs, rfl, .inr ⟨by simp, h4, h5, h6⟩, h7, ⟨h3, rfl, k2, fun i z l hz hl => (h2 i z l hz hl).below h8⟩, h8⟩
/-- What Deref tells. -/
def DeE (w : World) (m : Hp) (t : List C) (e : Ending) (w' : World) : Prop := ∃ (a : Option Addr) (c : Nat) (l : List C), e = .returned (.slice a l.length c) ∧ IsFol m t l ∧ TermAt w' (.slice a l.length c) l ∧ Below w.heap.size w w'
theorem i14d (m : Hp) (hb M n : Nat) (D : DataW Value) (t : List C) (v : Value) (w : World) (hH : HpAt w hb M n D m) (hT : TermAt w v t) (hW : ∀ c ∈ t, wfN (c.vn, c.vk)) (hby : t.length * 48 ≤ 140737488355328) (hbm : ∀ x l, lookH m x = some l → l.length * 48 ≤ 140737488355328) :
    Calls Tryz.prog 14 #[.pointer (some ⟨hb, 0, none⟩), v] w fun e w' => DeE w m t e w' := by
  refine (h15 m _ t v w (.inr ⟨hb, M, n, D, rfl, hH⟩) hT hW hby hbm).mono ?_
  rintro e w' ⟨u, l', rfl, h1, h2, _, h3⟩
  obtain ⟨a, c, rfl⟩ := h1.form
  exact ⟨a, c, l', rfl, h2, h1, h3⟩
set_option maxRecDepth 100000 in
theorem z15e (G : Nat → Prop) (rt : Nat) (bs : List Bn) (t : List C) (va : Option Addr) (vc : Nat) (w : World) (h : Rg w G rt bs) (hT : TermAt w (.slice va t.length vc) t) (hW : ∀ c ∈ t, wfN (c.vn, c.vk)) :
    Calls Tryz.prog 15 #[.pointer (some ⟨rt, 0, none⟩), .slice va t.length vc] w fun e w' => DeE w (hpOf bs) t e w' := by
  cases t with
  | nil =>
    have H13 : Calls Tryz.prog 13 #[.pointer (some ⟨rt, 0, none⟩), .slice va 0 vc] w fun e w' => e = .returned (.slice none 0 0) ∧ Hid (Below w.heap.size w w') := z13n rt va vc w
    clear hT h hW
    simp only [List.length_nil]
    go_enter Tryz.func15, Tryz.ntmps15
    go_wp2_with fail
    refine H13.mono ?_
    rintro e w1 ⟨rfl, H1⟩
    clear H13
    go_wp2_with fail
    go_ret
    exact ⟨none, 0, [], rfl, ⟨.here _, rfl⟩, nil_term _, H1.out⟩
  | cons c r =>
    refine (z15 G rt bs (c :: r) _ w h.rf h.up h.de h.wf h.n hT hW (by simp)).mono ?_
    rintro e w' ⟨a, k, cc, l', rfl, h1, rfl, h2, h3⟩
    exact ⟨a, cc, l', rfl, h2, h1.below h3, h3⟩
/-- What is resolved: the error and the cells. -/
def RsV (m : Hp) (t : List C) (ev : Int) (l : List C) : Prop := (rightB t = false ∧ ev = 6 ∧ l = []) ∨ (rightB t = true ∧ ev = 5 ∧ l = [] ∧ ∀ o, Ex m t o → 256 < o.length) ∨ (rightB t = true ∧ ev = 0 ∧ Ex m t l ∧ l.length ≤ 256)
theorem rsv_uniq {m : Hp} {t : List C} {ev ev' : Int} {l l' : List C} (h : RsV m t ev l) (h' : RsV m t ev' l') : ev = ev' ∧ l = l' := by
  rcases h with ⟨h1, rfl, rfl⟩ | ⟨h1, rfl, rfl, h2⟩ | ⟨h1, rfl, h2, h3⟩ <;> rcases h' with ⟨k1, rfl, rfl⟩ | ⟨k1, rfl, rfl, k2⟩ | ⟨k1, rfl, k2, k3⟩
  all_goals first
    | exact ⟨rfl, rfl⟩
    | (rw [h1] at k1; cases k1; done)
    | (have := h2 _ k2; omega)
    | (have := k2 _ h2; omega)
    | exact ⟨rfl, h2.uniq k2⟩
theorem rsv_of {w : World} {m : Hp} {t : List C} {e : Ending} {w' : World} (h : ResE w m t e w') : ∃ (ev : Int) (l : List C) (a : Option Addr) (c : Nat), e = .returned (.tuple #[.slice a l.length c, .int .i64 ev]) ∧ Hid (RsV m t ev l ∧ TermAt w' (.slice a l.length c) l ∧ Below w.heap.size w w') := by
  rcases h with ⟨h1, rfl, h2⟩ | ⟨h1, rfl, h2, h3⟩ | ⟨h1, o, fa, fc, rfl, h2, h3, h4, h5⟩
  · exact ⟨6, [], none, 0, rfl, .inl ⟨h1, rfl, rfl⟩, nil_term _, h2⟩
  · exact ⟨5, [], none, 0, rfl, .inr (.inl ⟨h1, rfl, rfl, h3⟩), nil_term _, h2⟩
  · exact ⟨0, o, fa, fc, rfl, .inr (.inr ⟨h1, rfl, h2, h4⟩), h3, h5⟩
theorem Bs.below {w w' : World} {a : Option Addr} {n : Nat} {bs : List Bn} (h : Bs w a n bs) (hb : Below w.heap.size w w') : Bs w' a n bs := by
  refine ⟨h.len, ?_⟩
  rcases h.mem with e | ⟨b, o, e, h1, h2⟩
  · exact .inl e
  · exact .inr ⟨b, o, e, Nat.lt_of_lt_of_le h1 hb.size, range_below h2 h1 hb⟩
theorem BdRow.below {w w' : World} {a : Option Addr} {n : Nat} {bs : List Bn} (h : BdRow w a n bs) (hb : Below w.heap.size w w') : BdRow w' a n bs :=
  ⟨h.row.below hb, fun b hbm => ⟨(h.el b hbm).1.below hb, (h.el b hbm).2⟩⟩
theorem Bo.rg {wB w : World} {hb M rt k n : Nat} {D : DataW Value} {V G : Nat → Prop} {bs : List Bn} (h : Bo wB w hb M rt k n D (hpOf bs) V G bs) (hk : k ≤ 3518437208780) : Rg w G rt bs :=
  ⟨h.rf, h.up, h.hp.desc, h.hp.wf, fun x l hl => (h.len x l hl).2, by have := h.nk.2; omega⟩
theorem names_lt {w : World} {v : Value} {l : List Nm} (h : NamesAt w v l) (hne : l ≠ []) (g : Nat) (hg : v.ownBlock = some g) : g < w.heap.size := by
  obtain ⟨_, ⟨e, _⟩ | ⟨b, o, cap, rfl, _, h4⟩⟩ := h
  · exact absurd e hne
  · simp only [Value.ownBlock, Option.some.injEq] at hg
    subst hg
    exact h4
theorem names_keep {w w' : World} {v : Value} {l : List Nm} (h : NamesAt w v l) (hk : ∀ g, v.ownBlock = some g → g < w.heap.size → w'.heap[g]? = w.heap[g]?) : NamesAt w' v l := by
  obtain ⟨h0, h⟩ := h
  refine ⟨h0, ?_⟩
  rcases h with h | ⟨b, o, cap, rfl, h3, h4⟩
  · exact .inl h
  · have hg := hk b rfl h4
    refine .inr ⟨b, o, cap, rfl, fun j u hu => ?_, ?_⟩
    · rw [← h3 j u hu]
      unfold World.cell?
      simp only [hg]
    · rw [Array.getElem?_eq_getElem h4] at hg
      exact (Array.getElem?_eq_some_iff.1 hg).1
/-- Behind the reference's Drop. -/
def RdP (w : World) (G : Nat → Prop) (rt : Nat) (bs : List Bn) (xs : List Nm) (w' : World) : Prop := ∃ G', RfH w' G' rt (keptB xs bs) ∧ KeepsBut rt w w' ∧ ∀ g, G' g → G g ∨ w.heap.size ≤ g
def ChQ (m : Hp) (t : List C) (L : List (List C)) : Prop := (t = [] ∧ L = [] ∨ t ≠ [] ∧ Links m L ∧ L.head? = some t ∧ nextH m (lastT L) = none) ∧ L.length ≤ m.length + 1
/-- Bindings of the program are those of the reference. -/
theorem same_bd {hb M n rt : Nat} {D : DataW Value} {m : Hp} {G : Nat → Prop} {bs : List Bn} {w u : World} {ra : Option Addr} {rc : Nat} (hH : HpAt w hb M n D m) (hn : n ≤ 3518437208780) (hup : RisesH m) (hbm : ∀ x l, lookH m x = some l → l.length * 48 ≤ 140737488355328) (hR : RfH w G rt bs) (he : hpOf bs = m) (hc : w.heap[rt]? = some (.cells #[.slice ra bs.length rc] 48 (0, 0))) (hl : bs.length ≤ 4000000000000) (hu : Below w.heap.size w u) :
    Calls Tryz.prog 17 #[.pointer (some ⟨hb, 0, none⟩)] u fun e w' => ∃ aB cB, e = .returned (.slice aB bs.length cB) ∧ Hid ((Calls Tryz.prog 16 #[.slice aB bs.length cB, .slice ra bs.length rc] w' fun e w2 => e = .returned (.bool true) ∧ Below w'.heap.size w' w2) ∧ Below w.heap.size w w') := by
  refine (h12b m hb M n D u (hH.below hu) hn hup hbm).mono ?_
  rintro e w' ⟨aB, kB, cB, rfl, bsB, k1, k2, k3, k4, k5⟩
  have hw' : Below w.heap.size w w' := hu.trans (k5.mono hu.size)
  have e1 := k2.len
  have e2 : bsB.length = bs.length := by
    have := congrArg List.length (k1.trans he.symm)
    simpa [hpOf] using this
  obtain rfl : kB = bs.length := by omega
  obtain ⟨ra', rc', h1, h2, h3⟩ := hR.ex
  rw [hc] at h1
  simp only [Option.some.injEq, Obj.cells.injEq, Array.mk.injEq, List.cons.injEq, Value.slice.injEq, true_and, and_true] at h1
  obtain ⟨rfl, rfl⟩ := h1
  refine ⟨aB, cB, rfl, ?_, hw'⟩
  exact i21 aB ra bs.length cB rc bsB bs w' k2 (h2.keeps fun g hg => hw'.block g (hR.lt g (h3 g hg))) (fun b hb => (k4 b hb).1) (fun b hb => (hR.lst b hb).1.below hw') (k1.trans he.symm) hl
set_option maxRecDepth 100000 in
set_option maxHeartbeats 16000000 in
theorem z3 (a : Option Addr) (n c : Nat) (bs0 : List Bn) (x : Nm) (t : List C) (ta : Option Addr) (tc : Nat) (xs : List Nm) (da : Option Addr) (dc : Nat) (w : World) (hA : BdRow w a n bs0) (hx : wfN x) (hT : TermAt w (.slice ta t.length tc) t) (hW : ∀ c ∈ t, wfN (c.vn, c.vk)) (hby : t.length * 48 ≤ 140737488355328) (hN : NamesAt w (.slice da xs.length dc) xs) (hWx : ∀ x ∈ xs, wfN x) (hn : n ≤ 3518437208780) (hS : Signs w) :
    Calls Tryz.prog 3 #[.slice a n c, .agg #[.int .i64 x.1, .int .i64 x.2], .agg #[.slice ta t.length tc, .slice da xs.length dc]] w fun e w' => e = .returned (.bool true) ∧ Below w.heap.size w w' := by
  obtain ⟨x1, x2⟩ := x
  simp only
  obtain ⟨W1, hW1⟩ : ∃ W1, w.alloc (.cells #[.int .i64 x1, .int .i64 x2] 24) = W1 := ⟨_, rfl⟩
  obtain ⟨W, hWW⟩ : ∃ W, W1.alloc (.cells #[.slice ta t.length tc, .slice da xs.length dc] 29) = W := ⟨_, rfl⟩
  obtain ⟨vb, hvb⟩ : ∃ vb, w.heap.size = vb := ⟨_, rfl⟩
  obtain ⟨xb, hxb⟩ : ∃ xb, W1.heap.size = xb := ⟨_, rfl⟩
  have b1 : Below w.heap.size w W1 := by rw [← hW1]; exact (Below.refl _ w).alloc (Nat.le_refl _) _
  have b2 : Below W1.heap.size W1 W := by rw [← hWW]; exact (Below.refl _ W1).alloc (Nat.le_refl _) _
  have bW : Below w.heap.size w W := b1.trans (b2.mono b1.size)
  have k1 : W1.heap[vb]? = some (.cells #[.int .i64 x1, .int .i64 x2] 24 (0, 0)) := by rw [← hW1, ← hvb]; exact heap_alloc_new w _
  have k2 : W.heap[xb]? = some (.cells #[.slice ta t.length tc, .slice da xs.length dc] 29 (0, 0)) := by rw [← hWW, ← hxb]; exact heap_alloc_new W1 _
  have k1' := (b2.block vb (Array.getElem?_eq_some_iff.1 k1).1).trans k1
  have hA' : BdRow W a n bs0 := BdRow.below hA bW
  have HV : Hid (TermAt W (.slice ta t.length tc) t ∧ (∀ c ∈ t, wfN (c.vn, c.vk)) ∧ t.length * 48 ≤ 140737488355328 ∧ NamesAt W (.slice da xs.length dc) xs ∧ (∀ x ∈ xs, wfN x) ∧ Signs W ∧ (xs ≠ [] → ∀ g, (Value.slice da xs.length dc).ownBlock = some g → g < W.heap.size) ∧ wfN (x1, x2) ∧ Below w.heap.size w W) :=
    ⟨hT.below bW, hW, hby, hN.below bW, hWx, hS.below bW, fun hne g hg => Nat.lt_of_lt_of_le (names_lt hN hne g hg) bW.size, hx, bW⟩
  have HBX : Hid (∀ u, Below W.heap.size W u → u.cell? ⟨vb, 0, none⟩ = some (.int .i64 x1) ∧ u.cell? ⟨vb, 1, none⟩ = some (.int .i64 x2) ∧ u.cell? ⟨xb, 0, none⟩ = some (.slice ta t.length tc) ∧ u.cell? ⟨xb, 1, none⟩ = some (.slice da xs.length dc)) := fun u hu => by
    obtain ⟨p0, p1⟩ := box_cells ((hu.block vb (Array.getElem?_eq_some_iff.1 k1').1).trans k1')
    have k3 := (hu.block xb (Array.getElem?_eq_some_iff.1 k2).1).trans k2
    exact ⟨p0, p1, by rw [cell_of_row u xb 0 _ 29 (0, 0) k3]; rfl, by rw [cell_of_row u xb 1 _ 29 (0, 0) k3]; rfl⟩
  have H4 : Calls Tryz.prog 4 #[.slice a n c] W fun e w' => ∃ hb M rt, e = .returned (.tuple #[.pointer (some ⟨hb, 0, none⟩), .pointer (some ⟨rt, 0, none⟩), .bool true]) ∧ Hid (BoTo W w' hb M rt n) := i8 a n c bs0 W hA' hn (hS.below bW)
  have HNN : Hid (n ≤ 3518437208780) := hn
  have HXW : Hid (vb < W.heap.size ∧ xb < W.heap.size) := ⟨(Array.getElem?_eq_some_iff.1 k1').1, (Array.getElem?_eq_some_iff.1 k2).1⟩
  clear hA hA' hT hW hN hWx hS hx b1 b2 bW k1 k2 k1' hn hby
  go_enter Tryz.func3, Tryz.ntmps3
  go_wp2_with fail
  refine H4.mono ?_
  rintro e w1 ⟨hb, M, rt, rfl, H1⟩
  clear H4
  obtain ⟨nn, D, V, G, bs, ra, rc, HB⟩ : ∃ nn D V G bs ra rc, Hid (Bo W w1 hb M rt n nn D (hpOf bs) V G bs ∧ w1.heap[rt]? = some (.cells #[.slice ra bs.length rc] 48 (0, 0))) := by
    obtain ⟨nn, D, m, V, G, bs, hB⟩ := H1.out
    obtain rfl := hB.eq
    obtain ⟨ra, rc, h1, _⟩ := hB.rf.ex
    exact ⟨nn, D, V, G, bs, ra, rc, hB, h1⟩
  clear H1
  have hbs : bs.length ≤ 3518437208780 := by
    have h1 := HB.out.1.nk.2
    have h2 := HNN.out
    omega
  have HW1 : Hid (Below W.heap.size W w1) := HB.out.1.bel
  obtain ⟨p0, p1, p2, p3⟩ := HBX.out w1 HW1.out
  have H5 : Calls Tryz.prog 5 #[.pointer (some ⟨hb, 0, none⟩), .agg #[.int .i64 x1, .int .i64 x2]] w1 fun e w' => ∃ (a : Option Addr) (c : Nat) (l : List C), e = .returned (.tuple #[.slice a l.length c, .bool (lookH (hpOf bs) (x1, x2)).isSome]) ∧ Hid (l = (lookH (hpOf bs) (x1, x2)).getD [] ∧ TermAt w' (.slice a l.length c) l ∧ Below w1.heap.size w1 w') := i5e (hpOf bs) hb M nn D (x1, x2) w1 HB.out.1.hp HV.out.2.2.2.2.2.2.2.1 (fun x l h => (HB.out.1.len x l h).1)
  obtain ⟨sv, hsv⟩ : ∃ sv, (lookH (hpOf bs) (x1, x2)).isSome = sv := ⟨_, rfl⟩
  rw [hsv] at H5
  go_wp2_with fail
  refine H5.mono ?_
  rintro e w2 ⟨aa, ac, la, rfl, H2⟩
  clear H5 p0 p1 p2 p3
  have HB2 : Hid (Below w1.heap.size w1 w2 ∧ Below W.heap.size W w2) := ⟨H2.out.2.2, HW1.out.trans (H2.out.2.2.mono HW1.out.size)⟩
  obtain ⟨p0, p1, p2, p3⟩ := HBX.out w2 HB2.out.2
  have HRG : Hid (Rg w1 G rt bs) := HB.out.1.rg HNN.out
  have H6 : Calls Tryz.prog 6 #[.pointer (some ⟨rt, 0, none⟩), .agg #[.int .i64 x1, .int .i64 x2]] w2 fun e w' => ∃ (a : Option Addr) (c : Nat) (l : List C), e = .returned (.tuple #[.slice a l.length c, .bool (lookH (hpOf bs) (x1, x2)).isSome]) ∧ Hid (l = (lookH (hpOf bs) (x1, x2)).getD [] ∧ TermAt w' (.slice a l.length c) l ∧ Below w2.heap.size w2 w') := z6e G rt bs (x1, x2) w2 (HRG.out.below HB2.out.1)
  rw [hsv] at H6
  clear hsv
  go_wp2_with fail
  refine H6.mono ?_
  rintro e w3 ⟨ba, bc, lb, rfl, H3⟩
  clear H6 p0 p1 p2 p3
  obtain rfl : la = lb := H2.out.1.trans H3.out.1.symm
  have HB3 : Hid (Below w1.heap.size w1 w3 ∧ Below W.heap.size W w3 ∧ TermAt w3 (.slice aa la.length ac) la ∧ TermAt w3 (.slice ba la.length bc) la) := by
    have h3 := H3.out.2.2
    exact ⟨HB2.out.1.trans (h3.mono HB2.out.1.size), HB2.out.2.trans (h3.mono HB2.out.2.size), H2.out.2.1.below h3, H3.out.2.1⟩
  clear H2 H3 HB2
  obtain ⟨p0, p1, p2, p3⟩ := HBX.out w3 HB3.out.2.1
  have H7 : Calls Tryz.prog 7 #[.pointer (some ⟨hb, 0, none⟩), .slice ta t.length tc] w3 fun e w' => ∃ (ev : Int) (l : List C) (a : Option Addr) (c : Nat), e = .returned (.tuple #[.slice a l.length c, .int .i64 ev]) ∧ Hid (RsV (hpOf bs) t ev l ∧ TermAt w' (.slice a l.length c) l ∧ Below w3.heap.size w3 w') := by
    refine (i16e (hpOf bs) hb M nn D t _ w3 (HB.out.1.hp.below HB3.out.1) HRG.out.rg (HV.out.1.below HB3.out.2.1) HV.out.2.1 (HV.out.2.2.2.2.2.1.below HB3.out.2.1)).mono ?_
    intro e w' h
    exact rsv_of h
  go_wp2_with fail
  refine H7.mono ?_
  rintro e w4 ⟨ev, lc, ca, cc, rfl, H4⟩
  clear H7 p0 p1 p2 p3
  have HB4 : Hid (Below w1.heap.size w1 w4 ∧ Below W.heap.size W w4) := ⟨HB3.out.1.trans (H4.out.2.2.mono HB3.out.1.size), HB3.out.2.1.trans (H4.out.2.2.mono HB3.out.2.1.size)⟩
  obtain ⟨p0, p1, p2, p3⟩ := HBX.out w4 HB4.out.2
  have H8 : Calls Tryz.prog 8 #[.pointer (some ⟨rt, 0, none⟩), .slice ta t.length tc] w4 fun e w' => ∃ (ev : Int) (l : List C) (a : Option Addr) (c : Nat), e = .returned (.tuple #[.slice a l.length c, .int .i64 ev]) ∧ Hid (RsV (hpOf bs) t ev l ∧ TermAt w' (.slice a l.length c) l ∧ Below w4.heap.size w4 w') := by
    refine (z8 G rt bs t _ w4 (HRG.out.below HB4.out.1) (HV.out.1.below HB4.out.2) HV.out.2.1).mono ?_
    intro e w' h
    exact rsv_of h
  go_wp2_with fail
  refine H8.mono ?_
  rintro e w5 ⟨ev', lc', dda, ddc, rfl, H5⟩
  clear H8 p0 p1 p2 p3
  obtain ⟨rfl, rfl⟩ := rsv_uniq H4.out.1 H5.out.1
  have HB5 : Hid (Below w1.heap.size w1 w5 ∧ Below W.heap.size W w5 ∧ TermAt w5 (.slice aa la.length ac) la ∧ TermAt w5 (.slice ba la.length bc) la ∧ TermAt w5 (.slice ca lc.length cc) lc ∧ TermAt w5 (.slice dda lc.length ddc) lc) := by
    have h4 := H4.out.2.2
    have h5 := H5.out.2.2
    exact ⟨HB4.out.1.trans (h5.mono HB4.out.1.size), HB4.out.2.trans (h5.mono HB4.out.2.size), (HB3.out.2.2.1.below h4).below h5, (HB3.out.2.2.2.below h4).below h5, H4.out.2.1.below h5, H5.out.2.1⟩
  clear H4 H5 HB3 HB4
  have HS : Hid (∀ u, Below w5.heap.size w5 u → (fun u => u.cell? ⟨xb, 0, none⟩ = some (.slice ta t.length tc) ∧ u.cell? ⟨rt, 0, none⟩ = some (.slice ra bs.length rc)) u) := fun u hu => by
    have h1 : Below W.heap.size W u := HB5.out.2.1.trans (hu.mono HB5.out.2.1.size)
    have h2 : Below w1.heap.size w1 u := HB5.out.1.trans (hu.mono HB5.out.1.size)
    refine ⟨(HBX.out u h1).2.2.1, ?_⟩
    rw [cell_of_row u rt 0 _ 48 (0, 0) ((h2.block rt HB.out.1.rf.rlt).trans HB.out.2)]
    rfl
  have HU : Hid (∀ u, Below w5.heap.size w5 u → Below w1.heap.size w1 u ∧ Below W.heap.size W u) := fun u hu => ⟨HB5.out.1.trans (hu.mono HB5.out.1.size), HB5.out.2.1.trans (hu.mono HB5.out.2.1.size)⟩
  have K9 : Hid (∀ u, Below w5.heap.size w5 u → Calls Tryz.prog 9 #[] u fun e w' => e = .returned (.bool true) ∧ Hid (Below w5.heap.size w5 w')) := fun u hu => by
    refine (h10 u (HV.out.2.2.2.2.2.1.below (HU.out u hu).2)).mono ?_
    rintro e w' ⟨rfl, h⟩
    exact ⟨rfl, hu.trans (h.mono hu.size)⟩
  have K10a : Hid (∀ u, Below w5.heap.size w5 u → Calls Tryz.prog 10 #[.slice aa la.length ac, .slice ba la.length bc] u fun e w' => e = .returned (.bool true) ∧ Hid (Below w5.heap.size w5 w')) := fun u hu => by
    refine (c13 la la _ _ u (HB5.out.2.2.1.below hu) (HB5.out.2.2.2.1.below hu)).mono ?_
    rintro e w' ⟨rfl, h⟩
    exact ⟨by rw [eqT_refl], hu.trans (h.mono hu.size)⟩
  have K10c : Hid (∀ u, Below w5.heap.size w5 u → Calls Tryz.prog 10 #[.slice ca lc.length cc, .slice dda lc.length ddc] u fun e w' => e = .returned (.bool true) ∧ Hid (Below w5.heap.size w5 w')) := fun u hu => by
    refine (c13 lc lc _ _ u (HB5.out.2.2.2.2.1.below hu) (HB5.out.2.2.2.2.2.below hu)).mono ?_
    rintro e w' ⟨rfl, h⟩
    exact ⟨by rw [eqT_refl], hu.trans (h.mono hu.size)⟩
  have K12 : Hid (∀ u, Below w5.heap.size w5 u → Calls Tryz.prog 12 #[.pointer (some ⟨hb, 0, none⟩), .slice ta t.length tc] u fun e w' => ∃ (a : Option Addr) (c : Nat) (L : List (List C)) (vs : List Value), e = .returned (.slice a L.length c) ∧ Hid (ChQ (hpOf bs) t L ∧ Tn w' a L.length L vs ∧ Below w5.heap.size w5 w')) := fun u hu => by
    obtain ⟨g1, g2⟩ := HU.out u hu
    refine (i12e (hpOf bs) hb M nn D t ta tc u (HB.out.1.hp.below g1) (HV.out.1.below g2) HV.out.2.1 HV.out.2.2.1 (fun x l h => (HB.out.1.len x l h).1) (by simp [hpOf]; omega)).mono ?_
    rintro e w' ⟨a, c, L, vs, rfl, h1, h2, h3, h4⟩
    exact ⟨a, c, L, vs, rfl, ⟨h1, h2⟩, h3, hu.trans (h4.mono hu.size)⟩
  have K13 : Hid (∀ u, Below w5.heap.size w5 u → Calls Tryz.prog 13 #[.pointer (some ⟨rt, 0, none⟩), .slice ta t.length tc] u fun e w' => ∃ (a : Option Addr) (c : Nat) (L : List (List C)) (vs : List Value), e = .returned (.slice a L.length c) ∧ Hid (ChQ (hpOf bs) t L ∧ Tn w' a L.length L vs ∧ Below u.heap.size u w' ∧ Below w5.heap.size w5 w')) := fun u hu => by
    obtain ⟨g1, g2⟩ := HU.out u hu
    refine (z13e G rt bs t ta tc u (HRG.out.below g1) (HV.out.1.below g2) HV.out.2.1).mono ?_
    rintro e w' ⟨a, c, L, vs, rfl, h1, h2, h3, h4⟩
    exact ⟨a, c, L, vs, rfl, ⟨h1, h2⟩, h3, h4, hu.trans (h4.mono hu.size)⟩
  have K11 : Hid (∀ (u u' : World) (a c : _) (a' : Option Addr) (c' : Nat) (L : List (List C)) (vs vs' : List Value), Hid (ChQ (hpOf bs) t L ∧ Tn u a L.length L vs ∧ Below w5.heap.size w5 u) → Hid (ChQ (hpOf bs) t L ∧ Tn u' a' L.length L vs' ∧ Below u.heap.size u u' ∧ Below w5.heap.size w5 u') → Calls Tryz.prog 11 #[.slice a L.length c, .slice a' L.length c'] u' fun e w' => e = .returned (.bool true) ∧ Hid (Below w5.heap.size w5 w')) := fun u u' a c a' c' L vs vs' h1 h2 => by
    have hl : L.length ≤ 4000000000000 := by
      have := h1.out.1.2
      simp [hpOf] at this
      omega
    refine (z11 a a' L.length c c' L vs vs' u' (h1.out.2.1.below h2.out.2.2.1) h2.out.2.1 hl).mono ?_
    rintro e w' ⟨rfl, h⟩
    exact ⟨rfl, h2.out.2.2.2.trans (h.mono h2.out.2.2.2.size)⟩
  have K14 : Hid (∀ u, Below w5.heap.size w5 u → Calls Tryz.prog 14 #[.pointer (some ⟨hb, 0, none⟩), .slice ta t.length tc] u fun e w' => ∃ (a : Option Addr) (c : Nat) (l : List C), e = .returned (.slice a l.length c) ∧ Hid (IsFol (hpOf bs) t l ∧ TermAt w' (.slice a l.length c) l ∧ Below w5.heap.size w5 w')) := fun u hu => by
    obtain ⟨g1, g2⟩ := HU.out u hu
    refine (i14d (hpOf bs) hb M nn D t _ u (HB.out.1.hp.below g1) (HV.out.1.below g2) HV.out.2.1 HV.out.2.2.1 (fun x l h => (HB.out.1.len x l h).1)).mono ?_
    rintro e w' ⟨a, c, l, rfl, h1, h2, h3⟩
    exact ⟨a, c, l, rfl, h1, h2, hu.trans (h3.mono hu.size)⟩
  have K15 : Hid (∀ u, Below w5.heap.size w5 u → Calls Tryz.prog 15 #[.pointer (some ⟨rt, 0, none⟩), .slice ta t.length tc] u fun e w' => ∃ (a : Option Addr) (c : Nat) (l : List C), e = .returned (.slice a l.length c) ∧ Hid (IsFol (hpOf bs) t l ∧ TermAt w' (.slice a l.length c) l ∧ Below u.heap.size u w' ∧ Below w5.heap.size w5 w')) := fun u hu => by
    obtain ⟨g1, g2⟩ := HU.out u hu
    refine (z15e G rt bs t ta tc u (HRG.out.below g1) (HV.out.1.below g2) HV.out.2.1).mono ?_
    rintro e w' ⟨a, c, l, rfl, h1, h2, h3⟩
    exact ⟨a, c, l, rfl, h1, h2, h3, hu.trans (h3.mono hu.size)⟩
  have K10d : Hid (∀ (u u' : World) (a : Option Addr) (c : Nat) (a' : Option Addr) (c' : Nat) (l : List C), Hid (IsFol (hpOf bs) t l ∧ TermAt u (.slice a l.length c) l ∧ Below w5.heap.size w5 u) → Hid (IsFol (hpOf bs) t l ∧ TermAt u' (.slice a' l.length c') l ∧ Below u.heap.size u u' ∧ Below w5.heap.size w5 u') → Calls Tryz.prog 10 #[.slice a l.length c, .slice a' l.length c'] u' fun e w' => e = .returned (.bool true) ∧ Hid (Below w5.heap.size w5 w')) := fun u u' a c a' c' l h1 h2 => by
    refine (c13 l l _ _ u' (h1.out.2.1.below h2.out.2.2.1) h2.out.2.1).mono ?_
    rintro e w' ⟨rfl, h⟩
    exact ⟨by rw [eqT_refl], h2.out.2.2.2.trans (h.mono h2.out.2.2.2.size)⟩
  have K17 : Hid (∀ u, Below w5.heap.size w5 u → Calls Tryz.prog 17 #[.pointer (some ⟨hb, 0, none⟩)] u fun e w' => ∃ aB cB, e = .returned (.slice aB bs.length cB) ∧ Hid ((Calls Tryz.prog 16 #[.slice aB bs.length cB, .slice ra bs.length rc] w' fun e w2 => e = .returned (.bool true) ∧ Below w'.heap.size w' w2) ∧ Below w5.heap.size w5 w')) := fun u hu => by
    have hb5 := HB5.out.1
    exact same_bd (HB.out.1.hp.below hb5) (by have h1 := HB.out.1.nk.1; have h2 := HNN.out; omega) HB.out.1.up (fun x l h => (HB.out.1.len x l h).1) (HB.out.1.rf.below hb5) rfl ((hb5.block rt HB.out.1.rf.rlt).trans HB.out.2) (by omega) hu
  go_wp2_with fail
  refine wp_region_noPanic ?_
  refine wp_region_held_drew (S := fun u => u.cell? ⟨xb, 0, none⟩ = some (.slice ta t.length tc) ∧ u.cell? ⟨rt, 0, none⟩ = some (.slice ra bs.length rc)) (by kernel_rfl) (HS.out _ (Below.refl _ _).drew) (fun hHeld => ?_)
  refine wpAnyH_ready (rs := [0]) (by kernel_rfl) (by simp) ?_
  refine AllReadyH.cons (by simp only [List.getElem?_toArray, List.getElem?_cons_zero]; rfl) (fun K hK => ?_) AllReadyH.nil
  go_simp
  go_at_call 9
  refine (K9.out _ (by first | exact Below.refl _ _ | exact (Below.refl _ _).drew)).mono ?_
  rintro e u1 ⟨rfl, H1⟩
  refine hK.out _ _ ?_ (fun hHeld => ?_)
  · exact HS.out _ H1.out
  clear hK K
  try simp only [Act.put, List.setIfInBounds_toArray, List.set_cons_zero, List.set_cons_succ]
  (refine wpAnyH_take (i := 1) (v := ?_) (by simp only [List.getElem?_toArray, List.getElem?_cons_zero, List.getElem?_cons_succ]; rfl) (by kernel_rfl) (by kernel_rfl) (by kernel_rfl) (fun _ _ _ h => h) (Or.inl ⟨by rfl, ?_⟩) (by assumption) ?_; rotate_left; (· (intro w hSw; (try dsimp only at hSw); go_simp <;> with_reducible rfl)); try simp only [Act.put, List.setIfInBounds_toArray, List.set_cons_zero, List.set_cons_succ])
  (refine wpAnyH_take (i := 2) (v := ?_) (by simp only [List.getElem?_toArray, List.getElem?_cons_zero, List.getElem?_cons_succ]; rfl) (by kernel_rfl) (by kernel_rfl) (by kernel_rfl) (fun _ _ _ h => h) (Or.inl ⟨by rfl, ?_⟩) (by assumption) ?_; rotate_left; (· (intro w hSw; (try dsimp only at hSw); go_simp <;> with_reducible rfl)); try simp only [Act.put, List.setIfInBounds_toArray, List.set_cons_zero, List.set_cons_succ])
  (refine wpAnyH_take (i := 3) (v := ?_) (by simp only [List.getElem?_toArray, List.getElem?_cons_zero, List.getElem?_cons_succ]; rfl) (by kernel_rfl) (by kernel_rfl) (by kernel_rfl) (fun _ _ _ h => h) (Or.inl ⟨by rfl, ?_⟩) (by assumption) ?_; rotate_left; (· (intro w hSw; (try dsimp only at hSw); go_simp <;> with_reducible rfl)); try simp only [Act.put, List.setIfInBounds_toArray, List.set_cons_zero, List.set_cons_succ])
  (refine wpAnyH_take (i := 4) (v := ?_) (by simp only [List.getElem?_toArray, List.getElem?_cons_zero, List.getElem?_cons_succ]; rfl) (by kernel_rfl) (by kernel_rfl) (by kernel_rfl) (fun _ _ _ h => h) (Or.inl ⟨by rfl, ?_⟩) (by assumption) ?_; rotate_left; (· (intro w hSw; (try dsimp only at hSw); go_simp <;> with_reducible rfl)); try simp only [Act.put, List.setIfInBounds_toArray, List.set_cons_zero, List.set_cons_succ])
  (refine wpAnyH_take (i := 5) (v := ?_) (by simp only [List.getElem?_toArray, List.getElem?_cons_zero, List.getElem?_cons_succ]; rfl) (by kernel_rfl) (by kernel_rfl) (by kernel_rfl) (fun _ _ _ h => h) (Or.inl ⟨by rfl, ?_⟩) (by assumption) ?_; rotate_left; (· (intro w hSw; (try dsimp only at hSw); go_simp <;> with_reducible rfl)); try simp only [Act.put, List.setIfInBounds_toArray, List.set_cons_zero, List.set_cons_succ])
  (refine wpAnyH_take (i := 6) (v := ?_) (by simp only [List.getElem?_toArray, List.getElem?_cons_zero, List.getElem?_cons_succ]; rfl) (by kernel_rfl) (by kernel_rfl) (by kernel_rfl) (fun _ _ _ h => h) (Or.inl ⟨by rfl, ?_⟩) (by assumption) ?_; rotate_left; (· (intro w hSw; (try dsimp only at hSw); go_simp <;> with_reducible rfl)); try simp only [Act.put, List.setIfInBounds_toArray, List.set_cons_zero, List.set_cons_succ])
  (refine wpAnyH_take (i := 7) (v := ?_) (by simp only [List.getElem?_toArray, List.getElem?_cons_zero, List.getElem?_cons_succ]; rfl) (by kernel_rfl) (by kernel_rfl) (by kernel_rfl) (fun _ _ _ h => h) (Or.inl ⟨by rfl, ?_⟩) (by assumption) ?_; rotate_left; (· (intro w hSw; (try dsimp only at hSw); go_simp <;> with_reducible rfl)); try simp only [Act.put, List.setIfInBounds_toArray, List.set_cons_zero, List.set_cons_succ])
  (refine wpAnyH_take (i := 8) (v := ?_) (by simp only [List.getElem?_toArray, List.getElem?_cons_zero, List.getElem?_cons_succ]; rfl) (by kernel_rfl) (by kernel_rfl) (by kernel_rfl) (fun _ _ _ h => h) (Or.inl ⟨by rfl, ?_⟩) (by assumption) ?_; rotate_left; (· (intro w hSw; (try dsimp only at hSw); go_simp <;> with_reducible rfl)); try simp only [Act.put, List.setIfInBounds_toArray, List.set_cons_zero, List.set_cons_succ])
  (refine wpAnyH_take (i := 9) (v := ?_) (by simp only [List.getElem?_toArray, List.getElem?_cons_zero, List.getElem?_cons_succ]; rfl) (by kernel_rfl) (by kernel_rfl) (by kernel_rfl) (fun _ _ _ h => h) (Or.inl ⟨by rfl, ?_⟩) (by assumption) ?_; rotate_left; (· (intro w hSw; (try dsimp only at hSw); go_simp <;> with_reducible rfl)); try simp only [Act.put, List.setIfInBounds_toArray, List.set_cons_zero, List.set_cons_succ])
  (refine wpAnyH_take (i := 10) (v := ?_) (by simp only [List.getElem?_toArray, List.getElem?_cons_zero, List.getElem?_cons_succ]; rfl) (by kernel_rfl) (by kernel_rfl) (by kernel_rfl) (fun _ _ _ h => h) (Or.inl ⟨by rfl, ?_⟩) (by assumption) ?_; rotate_left; (· (intro w hSw; (try dsimp only at hSw); go_simp <;> with_reducible rfl)); try simp only [Act.put, List.setIfInBounds_toArray, List.set_cons_zero, List.set_cons_succ])
  (refine wpAnyH_take (i := 11) (v := ?_) (by simp only [List.getElem?_toArray, List.getElem?_cons_zero, List.getElem?_cons_succ]; rfl) (by kernel_rfl) (by kernel_rfl) (by kernel_rfl) (fun _ _ _ h => h) (Or.inl ⟨by rfl, ?_⟩) (by assumption) ?_; rotate_left; (· (intro w hSw; (try dsimp only at hSw); go_simp <;> with_reducible rfl)); try simp only [Act.put, List.setIfInBounds_toArray, List.set_cons_zero, List.set_cons_succ])
  (refine wpAnyH_take (i := 12) (v := ?_) (by simp only [List.getElem?_toArray, List.getElem?_cons_zero, List.getElem?_cons_succ]; rfl) (by kernel_rfl) (by kernel_rfl) (by kernel_rfl) (fun _ _ _ h => h) (Or.inl ⟨by rfl, ?_⟩) (by assumption) ?_; rotate_left; (· (intro w hSw; (try dsimp only at hSw); go_simp <;> with_reducible rfl)); try simp only [Act.put, List.setIfInBounds_toArray, List.set_cons_zero, List.set_cons_succ])
  (refine wpAnyH_take (i := 13) (v := ?_) (by simp only [List.getElem?_toArray, List.getElem?_cons_zero, List.getElem?_cons_succ]; rfl) (by kernel_rfl) (by kernel_rfl) (by kernel_rfl) (fun _ _ _ h => h) (Or.inl ⟨by rfl, ?_⟩) (by assumption) ?_; rotate_left; (· (intro w hSw; (try dsimp only at hSw); go_simp <;> with_reducible rfl)); try simp only [Act.put, List.setIfInBounds_toArray, List.set_cons_zero, List.set_cons_succ])
  refine wpAnyH_ready (rs := [14]) (by kernel_rfl) (by simp) ?_
  refine AllReadyH.cons (by simp only [List.getElem?_toArray, List.getElem?_cons_zero, List.getElem?_cons_succ]; rfl) (fun K hK => ?_) AllReadyH.nil
  go_simp
  go_at_call 10
  refine (K10a.out _ H1.out).mono ?_
  rintro e u2 ⟨rfl, H2⟩
  refine hK.out _ _ ?_ (fun hHeld => ?_)
  · exact HS.out _ H2.out
  clear hK K
  try simp only [Act.put, List.setIfInBounds_toArray, List.set_cons_zero, List.set_cons_succ]
  (refine wpAnyH_take (i := 15) (v := ?_) (by simp only [List.getElem?_toArray, List.getElem?_cons_zero, List.getElem?_cons_succ]; rfl) (by kernel_rfl) (by kernel_rfl) (by kernel_rfl) (fun _ _ _ h => h) (Or.inl ⟨by rfl, ?_⟩) (by assumption) ?_; rotate_left; (· (intro w hSw; (try dsimp only at hSw); go_simp <;> with_reducible rfl)); try simp only [Act.put, List.setIfInBounds_toArray, List.set_cons_zero, List.set_cons_succ])
  (refine wpAnyH_take (i := 16) (v := ?_) (by simp only [List.getElem?_toArray, List.getElem?_cons_zero, List.getElem?_cons_succ]; rfl) (by kernel_rfl) (by kernel_rfl) (by kernel_rfl) (fun _ _ _ h => h) (Or.inl ⟨by rfl, ?_⟩) (by assumption) ?_; rotate_left; (· (intro w hSw; (try dsimp only at hSw); go_simp <;> with_reducible rfl)); try simp only [Act.put, List.setIfInBounds_toArray, List.set_cons_zero, List.set_cons_succ])
  (refine wpAnyH_take (i := 17) (v := ?_) (by simp only [List.getElem?_toArray, List.getElem?_cons_zero, List.getElem?_cons_succ]; rfl) (by kernel_rfl) (by kernel_rfl) (by kernel_rfl) (fun _ _ _ h => h) (Or.inl ⟨by rfl, ?_⟩) (by assumption) ?_; rotate_left; (· (intro w hSw; (try dsimp only at hSw); go_simp <;> with_reducible rfl)); try simp only [Act.put, List.setIfInBounds_toArray, List.set_cons_zero, List.set_cons_succ])
  (refine wpAnyH_take (i := 18) (v := ?_) (by simp only [List.getElem?_toArray, List.getElem?_cons_zero, List.getElem?_cons_succ]; rfl) (by kernel_rfl) (by kernel_rfl) (by kernel_rfl) (fun _ _ _ h => h) (Or.inl ⟨by rfl, ?_⟩) (by assumption) ?_; rotate_left; (· (intro w hSw; (try dsimp only at hSw); go_simp <;> with_reducible rfl)); try simp only [Act.put, List.setIfInBounds_toArray, List.set_cons_zero, List.set_cons_succ])
  (refine wpAnyH_take (i := 19) (v := ?_) (by simp only [List.getElem?_toArray, List.getElem?_cons_zero, List.getElem?_cons_succ]; rfl) (by kernel_rfl) (by kernel_rfl) (by kernel_rfl) (fun _ _ _ h => h) (Or.inl ⟨by rfl, ?_⟩) (by assumption) ?_; rotate_left; (· (intro w hSw; (try dsimp only at hSw); go_simp <;> with_reducible rfl)); try simp only [Act.put, List.setIfInBounds_toArray, List.set_cons_zero, List.set_cons_succ])
  (refine wpAnyH_take (i := 20) (v := ?_) (by simp only [List.getElem?_toArray, List.getElem?_cons_zero, List.getElem?_cons_succ]; rfl) (by kernel_rfl) (by kernel_rfl) (by kernel_rfl) (fun _ _ _ h => h) (Or.inl ⟨by rfl, ?_⟩) (by assumption) ?_; rotate_left; (· (intro w hSw; (try dsimp only at hSw); go_simp <;> with_reducible rfl)); try simp only [Act.put, List.setIfInBounds_toArray, List.set_cons_zero, List.set_cons_succ])
  (refine wpAnyH_take (i := 21) (v := ?_) (by simp only [List.getElem?_toArray, List.getElem?_cons_zero, List.getElem?_cons_succ]; rfl) (by kernel_rfl) (by kernel_rfl) (by kernel_rfl) (fun _ _ _ h => h) (Or.inl ⟨by rfl, ?_⟩) (by assumption) ?_; rotate_left; (· (intro w hSw; (try dsimp only at hSw); go_simp <;> with_reducible rfl)); try simp only [Act.put, List.setIfInBounds_toArray, List.set_cons_zero, List.set_cons_succ])
  (refine wpAnyH_take (i := 22) (v := ?_) (by simp only [List.getElem?_toArray, List.getElem?_cons_zero, List.getElem?_cons_succ]; rfl) (by kernel_rfl) (by kernel_rfl) (by kernel_rfl) (fun _ _ _ h => h) (Or.inl ⟨by rfl, ?_⟩) (by assumption) ?_; rotate_left; (· (intro w hSw; (try dsimp only at hSw); go_simp <;> with_reducible rfl)); try simp only [Act.put, List.setIfInBounds_toArray, List.set_cons_zero, List.set_cons_succ])
  (refine wpAnyH_take (i := 23) (v := ?_) (by simp only [List.getElem?_toArray, List.getElem?_cons_zero, List.getElem?_cons_succ]; rfl) (by kernel_rfl) (by kernel_rfl) (by kernel_rfl) (fun _ _ _ h => h) (Or.inl ⟨by rfl, ?_⟩) (by assumption) ?_; rotate_left; (· (intro w hSw; (try dsimp only at hSw); go_simp <;> with_reducible rfl)); try simp only [Act.put, List.setIfInBounds_toArray, List.set_cons_zero, List.set_cons_succ])
  (refine wpAnyH_take (i := 24) (v := ?_) (by simp only [List.getElem?_toArray, List.getElem?_cons_zero, List.getElem?_cons_succ]; rfl) (by kernel_rfl) (by kernel_rfl) (by kernel_rfl) (fun _ _ _ h => h) (Or.inl ⟨by rfl, ?_⟩) (by assumption) ?_; rotate_left; (· (intro w hSw; (try dsimp only at hSw); go_simp <;> with_reducible rfl)); try simp only [Act.put, List.setIfInBounds_toArray, List.set_cons_zero, List.set_cons_succ])
  refine wpAnyH_ready (rs := [25]) (by kernel_rfl) (by simp) ?_
  refine AllReadyH.cons (by simp only [List.getElem?_toArray, List.getElem?_cons_zero, List.getElem?_cons_succ]; rfl) (fun K hK => ?_) AllReadyH.nil
  go_simp
  go_at_call 10
  refine (K10c.out _ H2.out).mono ?_
  rintro e u3 ⟨rfl, H3⟩
  refine hK.out _ _ ?_ (fun hHeld => ?_)
  · exact HS.out _ H3.out
  clear hK K
  try simp only [Act.put, List.setIfInBounds_toArray, List.set_cons_zero, List.set_cons_succ]
  (refine wpAnyH_take (i := 26) (v := ?_) (by simp only [List.getElem?_toArray, List.getElem?_cons_zero, List.getElem?_cons_succ]; rfl) (by kernel_rfl) (by kernel_rfl) (by kernel_rfl) (fun _ _ _ h => h) (Or.inl ⟨by rfl, ?_⟩) (by assumption) ?_; rotate_left; (· (intro w hSw; (try dsimp only at hSw); go_simp <;> with_reducible rfl)); try simp only [Act.put, List.setIfInBounds_toArray, List.set_cons_zero, List.set_cons_succ])
  (refine wpAnyH_take (i := 27) (v := ?_) (by simp only [List.getElem?_toArray, List.getElem?_cons_zero, List.getElem?_cons_succ]; rfl) (by kernel_rfl) (by kernel_rfl) (by kernel_rfl) (fun _ _ _ h => h) (Or.inl ⟨by rfl, ?_⟩) (by assumption) ?_; rotate_left; (· (intro w hSw; (try dsimp only at hSw); go_simp <;> with_reducible rfl)); try simp only [Act.put, List.setIfInBounds_toArray, List.set_cons_zero, List.set_cons_succ])
  (refine wpAnyH_take (i := 28) (v := ?_) (by simp only [List.getElem?_toArray, List.getElem?_cons_zero, List.getElem?_cons_succ]; rfl) (by kernel_rfl) (by kernel_rfl) (by kernel_rfl) (fun _ _ _ h => h) (Or.inl ⟨by rfl, ?_⟩) (by assumption) ?_; rotate_left; (· (intro w hSw; (try dsimp only at hSw); go_simp <;> with_reducible rfl)); try simp only [Act.put, List.setIfInBounds_toArray, List.set_cons_zero, List.set_cons_succ])
  (refine wpAnyH_take (i := 29) (v := ?_) (by simp only [List.getElem?_toArray, List.getElem?_cons_zero, List.getElem?_cons_succ]; rfl) (by kernel_rfl) (by kernel_rfl) (by kernel_rfl) (fun _ _ _ h => h) (Or.inl ⟨by rfl, ?_⟩) (by assumption) ?_; rotate_left; (· (intro w hSw; (try dsimp only at hSw); go_simp <;> with_reducible rfl)); try simp only [Act.put, List.setIfInBounds_toArray, List.set_cons_zero, List.set_cons_succ])
  (refine wpAnyH_take (i := 30) (v := ?_) (by simp only [List.getElem?_toArray, List.getElem?_cons_zero, List.getElem?_cons_succ]; rfl) (by kernel_rfl) (by kernel_rfl) (by kernel_rfl) (fun _ _ _ h => h) (Or.inl ⟨by rfl, ?_⟩) (by assumption) ?_; rotate_left; (· (intro w hSw; (try dsimp only at hSw); go_simp <;> with_reducible rfl)); try simp only [Act.put, List.setIfInBounds_toArray, List.set_cons_zero, List.set_cons_succ])
  (refine wpAnyH_take (i := 31) (v := ?_) (by simp only [List.getElem?_toArray, List.getElem?_cons_zero, List.getElem?_cons_succ]; rfl) (by kernel_rfl) (by kernel_rfl) (by kernel_rfl) (fun _ _ _ h => h) (Or.inl ⟨by rfl, ?_⟩) (by assumption) ?_; rotate_left; (· (intro w hSw; (try dsimp only at hSw); go_simp <;> with_reducible rfl)); try simp only [Act.put, List.setIfInBounds_toArray, List.set_cons_zero, List.set_cons_succ])
  (refine wpAnyH_take (i := 33) (v := ?_) (by simp only [List.getElem?_toArray, List.getElem?_cons_zero, List.getElem?_cons_succ]; rfl) (by kernel_rfl) (by kernel_rfl) (by kernel_rfl) (fun _ _ _ h => h) (Or.inl ⟨by rfl, ?_⟩) (by assumption) ?_; rotate_left; (· (intro w hSw; (try dsimp only at hSw); go_simp <;> with_reducible rfl)); try simp only [Act.put, List.setIfInBounds_toArray, List.set_cons_zero, List.set_cons_succ])
  (refine wpAnyH_take (i := 34) (v := ?_) (by simp only [List.getElem?_toArray, List.getElem?_cons_zero, List.getElem?_cons_succ]; rfl) (by kernel_rfl) (by kernel_rfl) (by kernel_rfl) (fun _ _ _ h => h) (Or.inl ⟨by rfl, ?_⟩) (by assumption) ?_; rotate_left; (· (intro w hSw; (try dsimp only at hSw); go_simp <;> with_reducible rfl)); try simp only [Act.put, List.setIfInBounds_toArray, List.set_cons_zero, List.set_cons_succ])
  (refine wpAnyH_take (i := 35) (v := ?_) (by simp only [List.getElem?_toArray, List.getElem?_cons_zero, List.getElem?_cons_succ]; rfl) (by kernel_rfl) (by kernel_rfl) (by kernel_rfl) (fun _ _ _ h => h) (Or.inl ⟨by rfl, ?_⟩) (by assumption) ?_; rotate_left; (· (intro w hSw; (try dsimp only at hSw); go_simp <;> with_reducible rfl)); try simp only [Act.put, List.setIfInBounds_toArray, List.set_cons_zero, List.set_cons_succ])
  refine wpAnyH_ready (rs := [32]) (by kernel_rfl) (by simp) ?_
  refine AllReadyH.cons (by simp only [List.getElem?_toArray, List.getElem?_cons_zero, List.getElem?_cons_succ]; rfl) (fun K hK => ?_) AllReadyH.nil
  go_simp
  go_at_call 12
  refine (K12.out _ H3.out).mono ?_
  rintro e u4 ⟨a4, c4, L4, vs4, rfl, H4⟩
  refine hK.out _ _ ?_ (fun hHeld => ?_)
  · exact HS.out _ H4.out.2.2
  clear hK K
  try simp only [Act.put, List.setIfInBounds_toArray, List.set_cons_zero, List.set_cons_succ]
  refine wpAnyH_ready (rs := [36]) (by kernel_rfl) (by simp) ?_
  refine AllReadyH.cons (by simp only [List.getElem?_toArray, List.getElem?_cons_zero, List.getElem?_cons_succ]; rfl) (fun K hK => ?_) AllReadyH.nil
  go_simp
  go_at_call 13
  refine (K13.out _ H4.out.2.2).mono ?_
  rintro e u5 ⟨a5, c5, L5, vs5, rfl, H5⟩
  obtain rfl : L4 = L5 := ch_same H4.out.1.1 H5.out.1.1
  refine hK.out _ _ ?_ (fun hHeld => ?_)
  · exact HS.out _ H5.out.2.2.2
  clear hK K
  try simp only [Act.put, List.setIfInBounds_toArray, List.set_cons_zero, List.set_cons_succ]
  refine wpAnyH_ready (rs := [37]) (by kernel_rfl) (by simp) ?_
  refine AllReadyH.cons (by simp only [List.getElem?_toArray, List.getElem?_cons_zero, List.getElem?_cons_succ]; rfl) (fun K hK => ?_) AllReadyH.nil
  go_simp
  go_at_call 11
  refine (K11.out _ _ _ _ _ _ _ _ _ H4 H5).mono ?_
  rintro e u6 ⟨rfl, H6⟩
  refine hK.out _ _ ?_ (fun hHeld => ?_)
  · exact HS.out _ H6.out
  clear hK K
  try simp only [Act.put, List.setIfInBounds_toArray, List.set_cons_zero, List.set_cons_succ]
  (refine wpAnyH_take (i := 38) (v := ?_) (by simp only [List.getElem?_toArray, List.getElem?_cons_zero, List.getElem?_cons_succ]; rfl) (by kernel_rfl) (by kernel_rfl) (by kernel_rfl) (fun _ _ _ h => h) (Or.inl ⟨by rfl, ?_⟩) (by assumption) ?_; rotate_left; (· (intro w hSw; (try dsimp only at hSw); go_simp <;> with_reducible rfl)); try simp only [Act.put, List.setIfInBounds_toArray, List.set_cons_zero, List.set_cons_succ])
  (refine wpAnyH_take (i := 39) (v := ?_) (by simp only [List.getElem?_toArray, List.getElem?_cons_zero, List.getElem?_cons_succ]; rfl) (by kernel_rfl) (by kernel_rfl) (by kernel_rfl) (fun _ _ _ h => h) (Or.inl ⟨by rfl, ?_⟩) (by assumption) ?_; rotate_left; (· (intro w hSw; (try dsimp only at hSw); go_simp <;> with_reducible rfl)); try simp only [Act.put, List.setIfInBounds_toArray, List.set_cons_zero, List.set_cons_succ])
  (refine wpAnyH_take (i := 40) (v := ?_) (by simp only [List.getElem?_toArray, List.getElem?_cons_zero, List.getElem?_cons_succ]; rfl) (by kernel_rfl) (by kernel_rfl) (by kernel_rfl) (fun _ _ _ h => h) (Or.inl ⟨by rfl, ?_⟩) (by assumption) ?_; rotate_left; (· (intro w hSw; (try dsimp only at hSw); go_simp <;> with_reducible rfl)); try simp only [Act.put, List.setIfInBounds_toArray, List.set_cons_zero, List.set_cons_succ])
  (refine wpAnyH_take (i := 41) (v := ?_) (by simp only [List.getElem?_toArray, List.getElem?_cons_zero, List.getElem?_cons_succ]; rfl) (by kernel_rfl) (by kernel_rfl) (by kernel_rfl) (fun _ _ _ h => h) (Or.inl ⟨by rfl, ?_⟩) (by assumption) ?_; rotate_left; (· (intro w hSw; (try dsimp only at hSw); go_simp <;> with_reducible rfl)); try simp only [Act.put, List.setIfInBounds_toArray, List.set_cons_zero, List.set_cons_succ])
  (refine wpAnyH_take (i := 42) (v := ?_) (by simp only [List.getElem?_toArray, List.getElem?_cons_zero, List.getElem?_cons_succ]; rfl) (by kernel_rfl) (by kernel_rfl) (by kernel_rfl) (fun _ _ _ h => h) (Or.inl ⟨by rfl, ?_⟩) (by assumption) ?_; rotate_left; (· (intro w hSw; (try dsimp only at hSw); go_simp <;> with_reducible rfl)); try simp only [Act.put, List.setIfInBounds_toArray, List.set_cons_zero, List.set_cons_succ])
  (refine wpAnyH_take (i := 43) (v := ?_) (by simp only [List.getElem?_toArray, List.getElem?_cons_zero, List.getElem?_cons_succ]; rfl) (by kernel_rfl) (by kernel_rfl) (by kernel_rfl) (fun _ _ _ h => h) (Or.inl ⟨by rfl, ?_⟩) (by assumption) ?_; rotate_left; (· (intro w hSw; (try dsimp only at hSw); go_simp <;> with_reducible rfl)); try simp only [Act.put, List.setIfInBounds_toArray, List.set_cons_zero, List.set_cons_succ])
  (refine wpAnyH_take (i := 45) (v := ?_) (by simp only [List.getElem?_toArray, List.getElem?_cons_zero, List.getElem?_cons_succ]; rfl) (by kernel_rfl) (by kernel_rfl) (by kernel_rfl) (fun _ _ _ h => h) (Or.inl ⟨by rfl, ?_⟩) (by assumption) ?_; rotate_left; (· (intro w hSw; (try dsimp only at hSw); go_simp <;> with_reducible rfl)); try simp only [Act.put, List.setIfInBounds_toArray, List.set_cons_zero, List.set_cons_succ])
  (refine wpAnyH_take (i := 46) (v := ?_) (by simp only [List.getElem?_toArray, List.getElem?_cons_zero, List.getElem?_cons_succ]; rfl) (by kernel_rfl) (by kernel_rfl) (by kernel_rfl) (fun _ _ _ h => h) (Or.inl ⟨by rfl, ?_⟩) (by assumption) ?_; rotate_left; (· (intro w hSw; (try dsimp only at hSw); go_simp <;> with_reducible rfl)); try simp only [Act.put, List.setIfInBounds_toArray, List.set_cons_zero, List.set_cons_succ])
  (refine wpAnyH_take (i := 47) (v := ?_) (by simp only [List.getElem?_toArray, List.getElem?_cons_zero, List.getElem?_cons_succ]; rfl) (by kernel_rfl) (by kernel_rfl) (by kernel_rfl) (fun _ _ _ h => h) (Or.inl ⟨by rfl, ?_⟩) (by assumption) ?_; rotate_left; (· (intro w hSw; (try dsimp only at hSw); go_simp <;> with_reducible rfl)); try simp only [Act.put, List.setIfInBounds_toArray, List.set_cons_zero, List.set_cons_succ])
  refine wpAnyH_ready (rs := [44]) (by kernel_rfl) (by simp) ?_
  refine AllReadyH.cons (by simp only [List.getElem?_toArray, List.getElem?_cons_zero, List.getElem?_cons_succ]; rfl) (fun K hK => ?_) AllReadyH.nil
  go_simp
  go_at_call 14
  refine (K14.out _ H6.out).mono ?_
  rintro e u7 ⟨a7, c7, l7, rfl, H7⟩
  refine hK.out _ _ ?_ (fun hHeld => ?_)
  · exact HS.out _ H7.out.2.2
  clear hK K
  try simp only [Act.put, List.setIfInBounds_toArray, List.set_cons_zero, List.set_cons_succ]
  refine wpAnyH_ready (rs := [48]) (by kernel_rfl) (by simp) ?_
  refine AllReadyH.cons (by simp only [List.getElem?_toArray, List.getElem?_cons_zero, List.getElem?_cons_succ]; rfl) (fun K hK => ?_) AllReadyH.nil
  go_simp
  go_at_call 15
  refine (K15.out _ H7.out.2.2).mono ?_
  rintro e u8 ⟨a8, c8, l8, rfl, H8⟩
  obtain rfl : l7 = l8 := H7.out.1.uniq H8.out.1
  refine hK.out _ _ ?_ (fun hHeld => ?_)
  · exact HS.out _ H8.out.2.2.2
  clear hK K
  try simp only [Act.put, List.setIfInBounds_toArray, List.set_cons_zero, List.set_cons_succ]
  refine wpAnyH_ready (rs := [49]) (by kernel_rfl) (by simp) ?_
  refine AllReadyH.cons (by simp only [List.getElem?_toArray, List.getElem?_cons_zero, List.getElem?_cons_succ]; rfl) (fun K hK => ?_) AllReadyH.nil
  go_simp
  go_at_call 10
  refine (K10d.out _ _ _ _ _ _ _ H7 H8).mono ?_
  rintro e u9 ⟨rfl, H9⟩
  refine hK.out _ _ ?_ (fun hHeld => ?_)
  · exact HS.out _ H9.out
  clear hK K
  try simp only [Act.put, List.setIfInBounds_toArray, List.set_cons_zero, List.set_cons_succ]
  (refine wpAnyH_take (i := 50) (v := ?_) (by simp only [List.getElem?_toArray, List.getElem?_cons_zero, List.getElem?_cons_succ]; rfl) (by kernel_rfl) (by kernel_rfl) (by kernel_rfl) (fun _ _ _ h => h) (Or.inl ⟨by rfl, ?_⟩) (by assumption) ?_; rotate_left; (· (intro w hSw; (try dsimp only at hSw); go_simp <;> with_reducible rfl)); try simp only [Act.put, List.setIfInBounds_toArray, List.set_cons_zero, List.set_cons_succ])
  (refine wpAnyH_take (i := 51) (v := ?_) (by simp only [List.getElem?_toArray, List.getElem?_cons_zero, List.getElem?_cons_succ]; rfl) (by kernel_rfl) (by kernel_rfl) (by kernel_rfl) (fun _ _ _ h => h) (Or.inl ⟨by rfl, ?_⟩) (by assumption) ?_; rotate_left; (· (intro w hSw; (try dsimp only at hSw); go_simp <;> with_reducible rfl)); try simp only [Act.put, List.setIfInBounds_toArray, List.set_cons_zero, List.set_cons_succ])
  (refine wpAnyH_take (i := 52) (v := ?_) (by simp only [List.getElem?_toArray, List.getElem?_cons_zero, List.getElem?_cons_succ]; rfl) (by kernel_rfl) (by kernel_rfl) (by kernel_rfl) (fun _ _ _ h => h) (Or.inl ⟨by rfl, ?_⟩) (by assumption) ?_; rotate_left; (· (intro w hSw; (try dsimp only at hSw); go_simp <;> with_reducible rfl)); try simp only [Act.put, List.setIfInBounds_toArray, List.set_cons_zero, List.set_cons_succ])
  (refine wpAnyH_take (i := 53) (v := ?_) (by simp only [List.getElem?_toArray, List.getElem?_cons_zero, List.getElem?_cons_succ]; rfl) (by kernel_rfl) (by kernel_rfl) (by kernel_rfl) (fun _ _ _ h => h) (Or.inl ⟨by rfl, ?_⟩) (by assumption) ?_; rotate_left; (· (intro w hSw; (try dsimp only at hSw); go_simp <;> with_reducible rfl)); try simp only [Act.put, List.setIfInBounds_toArray, List.set_cons_zero, List.set_cons_succ])
  (refine wpAnyH_take (i := 55) (v := ?_) (by simp only [List.getElem?_toArray, List.getElem?_cons_zero, List.getElem?_cons_succ]; rfl) (by kernel_rfl) (by kernel_rfl) (by kernel_rfl) (fun _ _ _ h => h) (Or.inl ⟨by rfl, ?_⟩) (by assumption) ?_; rotate_left; (· (intro w hSw; (try dsimp only at hSw); go_simp <;> with_reducible rfl)); try simp only [Act.put, List.setIfInBounds_toArray, List.set_cons_zero, List.set_cons_succ])
  (refine wpAnyH_take (i := 56) (v := ?_) (by simp only [List.getElem?_toArray, List.getElem?_cons_zero, List.getElem?_cons_succ]; rfl) (by kernel_rfl) (by kernel_rfl) (by kernel_rfl) (fun _ _ _ h => h) (Or.inl ⟨by rfl, ?_⟩) (by assumption) ?_; rotate_left; (· (intro w hSw; (try dsimp only at hSw); go_simp <;> with_reducible rfl)); try simp only [Act.put, List.setIfInBounds_toArray, List.set_cons_zero, List.set_cons_succ])
  (refine wpAnyH_take (i := 57) (v := ?_) (by simp only [List.getElem?_toArray, List.getElem?_cons_zero, List.getElem?_cons_succ]; rfl) (by kernel_rfl) (by kernel_rfl) (by kernel_rfl) (fun _ _ _ h => h) (Or.inl ⟨by rfl, ?_⟩) (by assumption) ?_; rotate_left; (· (intro w hSw; (try dsimp only at hSw); go_simp <;> with_reducible rfl)); try simp only [Act.put, List.setIfInBounds_toArray, List.set_cons_zero, List.set_cons_succ])
  (refine wpAnyH_take (i := 58) (v := ?_) (by simp only [List.getElem?_toArray, List.getElem?_cons_zero, List.getElem?_cons_succ]; rfl) (by kernel_rfl) (by kernel_rfl) (by kernel_rfl) (fun _ _ _ h => h) (Or.inl ⟨by rfl, ?_⟩) (by assumption) ?_; rotate_left; (· (intro w hSw; (try dsimp only at hSw); go_simp <;> with_reducible rfl)); try simp only [Act.put, List.setIfInBounds_toArray, List.set_cons_zero, List.set_cons_succ])
  refine wpAnyH_ready (rs := [54]) (by kernel_rfl) (by simp) ?_
  refine AllReadyH.cons (by simp only [List.getElem?_toArray, List.getElem?_cons_zero, List.getElem?_cons_succ]; rfl) (fun K hK => ?_) AllReadyH.nil
  go_simp
  go_at_call 17
  refine (K17.out _ H9.out).mono ?_
  rintro e u10 ⟨aB, cB, rfl, H10⟩
  refine hK.out _ _ ?_ (fun hHeld => ?_)
  · exact HS.out _ H10.out.2
  clear hK K
  try simp only [Act.put, List.setIfInBounds_toArray, List.set_cons_zero, List.set_cons_succ]
  refine wpAnyH_ready (rs := [59]) (by kernel_rfl) (by simp) ?_
  refine AllReadyH.cons (by simp only [List.getElem?_toArray, List.getElem?_cons_zero, List.getElem?_cons_succ]; rfl) (fun K hK => ?_) AllReadyH.nil
  go_simp
  go_at_call 16
  refine (H10.out.1).mono ?_
  rintro e u11 ⟨rfl, H11⟩
  refine hK.out _ _ ?_ (fun hHeld => ?_)
  · exact HS.out _ (H10.out.2.trans (H11.mono H10.out.2.size))
  clear hK K
  try simp only [Act.put, List.setIfInBounds_toArray, List.set_cons_zero, List.set_cons_succ]
  (refine wpAnyH_take (i := 60) (v := ?_) (by simp only [List.getElem?_toArray, List.getElem?_cons_zero, List.getElem?_cons_succ]; rfl) (by kernel_rfl) (by kernel_rfl) (by kernel_rfl) (fun _ _ _ h => h) (Or.inl ⟨by rfl, ?_⟩) (by assumption) ?_; rotate_left; (· (intro w hSw; (try dsimp only at hSw); go_simp <;> with_reducible rfl)); try simp only [Act.put, List.setIfInBounds_toArray, List.set_cons_zero, List.set_cons_succ])
  (refine wpAnyH_take (i := 61) (v := ?_) (by simp only [List.getElem?_toArray, List.getElem?_cons_zero, List.getElem?_cons_succ]; rfl) (by kernel_rfl) (by kernel_rfl) (by kernel_rfl) (fun _ _ _ h => h) (Or.inl ⟨by rfl, ?_⟩) (by assumption) ?_; rotate_left; (· (intro w hSw; (try dsimp only at hSw); go_simp <;> with_reducible rfl)); try simp only [Act.put, List.setIfInBounds_toArray, List.set_cons_zero, List.set_cons_succ])
  refine wpAnyH_done (by kernel_rfl) ?_ _
  refine NoPanic.normal ?_
  clear hHeld
  have HZ : Hid (Below w1.heap.size w1 u11 ∧ Below W.heap.size W u11) := HU.out u11 (H10.out.2.trans (H11.mono H10.out.2.size))
  clear K9 K10a K10c K12 K13 K11 K14 K15 K10d K17 H1 H2 H3 H4 H5 H6 H7 H8 H9 H10 H11 HS HU HB5
  have H18 : Calls Tryz.prog 18 #[.pointer (some ⟨hb, 0, none⟩)] u11 fun e w' => ∃ hb2 M2, e = .returned (.pointer (some ⟨hb2, 0, none⟩)) ∧ Hid (HpAt w' hb2 M2 nn D (hpOf bs) ∧ Below u11.heap.size u11 w' ∧ u11.heap.size ≤ hb2 ∧ u11.heap.size ≤ M2) := z18 (hpOf bs) hb M nn D u11 (HB.out.1.hp.below HZ.out.1)
  go_wp2_with fail
  refine H18.mono ?_
  rintro e z1 ⟨hb2, M2, rfl, HF1⟩
  clear H18
  have HZ1 : Hid (Below w1.heap.size w1 z1 ∧ Below W.heap.size W z1) := ⟨HZ.out.1.trans (HF1.out.2.1.mono HZ.out.1.size), HZ.out.2.trans (HF1.out.2.1.mono HZ.out.2.size)⟩
  have H19 : Calls Tryz.prog 19 #[.pointer (some ⟨rt, 0, none⟩)] z1 fun e w' => ∃ fb G', e = .returned (.pointer (some ⟨fb, 0, none⟩)) ∧ Hid (RfH w' G' fb bs ∧ Below z1.heap.size z1 w' ∧ z1.heap.size ≤ fb ∧ ∀ g, G' g → G g ∨ z1.heap.size ≤ g) := z19 G rt bs z1 (HB.out.1.rf.below HZ1.out.1) hbs
  go_wp2_with fail
  refine H19.mono ?_
  rintro e z2 ⟨fb, G', rfl, HF2⟩
  clear H19
  have HZ2 : Hid (Below w1.heap.size w1 z2 ∧ Below W.heap.size W z2) := ⟨HZ1.out.1.trans (HF2.out.2.1.mono HZ1.out.1.size), HZ1.out.2.trans (HF2.out.2.1.mono HZ1.out.2.size)⟩
  obtain ⟨p0, p1, p2, p3⟩ := HBX.out z2 HZ2.out.2
  have H20 : Calls Tryz.prog 20 #[.pointer (some ⟨hb, 0, none⟩), .slice da xs.length dc] z2 fun e w' => e = .returned (.tuple #[]) ∧ Hid (DrP z2 hb M nn D (hpOf bs) xs w') := by
    refine z20 (hpOf bs) hb M nn D xs _ z2 (HB.out.1.hp.below HZ2.out.1) (HV.out.2.2.2.1.below HZ2.out.2) HV.out.2.2.2.2.1 fun hne g hg => ?_
    have h1 := HV.out.2.2.2.2.2.2.1 hne g hg
    have h2 := HB.out.1.low.2.1
    omega
  go_wp2_with fail
  refine H20.mono ?_
  rintro e z3 ⟨rfl, HD3⟩
  clear H20
  have HK3 : Hid (KeepsBut M z2 z3) := by
    obtain ⟨D', _, h, _⟩ := HD3.out
    exact h
  have HN3 : Hid (∀ g, g ≠ M → g < z2.heap.size → z3.heap[g]? = z2.heap[g]?) := fun g h1 h2 => HK3.out.2.2.2.2 g h2 h1
  have HL : Hid (hb ≠ M ∧ rt ≠ M ∧ hb ≠ rt ∧ M < w1.heap.size ∧ rt < w1.heap.size ∧ hb < w1.heap.size ∧ w1.heap.size ≤ u11.heap.size ∧ w1.heap.size ≤ z1.heap.size ∧ w1.heap.size ≤ z2.heap.size ∧ W.heap.size ≤ M ∧ W.heap.size ≤ rt ∧ W.heap.size ≤ z2.heap.size) := by
    have h1 := HB.out.1.low
    exact ⟨HB.out.1.hbM, h1.2.2.2.2, Ne.symm h1.2.2.2.1, HB.out.1.hp.map.lt, HB.out.1.rf.rlt, (Array.getElem?_eq_some_iff.1 HB.out.1.hp.blk).1, HZ.out.1.size, HZ1.out.1.size, HZ2.out.1.size, h1.2.1, h1.2.2.1, HZ2.out.2.size⟩
  have HNm : Hid (NamesAt z3 (.slice da xs.length dc) xs) := names_keep HV.out.2.2.2.1 fun g _ hl => (HN3.out g (by have h2 := HL.out; omega) (by have h2 := HL.out; omega)).trans (HZ2.out.2.block g hl)
  have HR3 : Hid (RfH z3 G rt bs) := by
    have h2 := HB.out.1.rf.below HZ2.out.1
    exact h2.keeps (fun g hg => HN3.out g (HB.out.1.glt g hg).2.1 (h2.lt g hg)) (HN3.out rt HL.out.2.1 h2.rlt) HK3.out.2.2.2.1
  obtain ⟨q0, q1, q2, q3⟩ : z3.cell? ⟨vb, 0, none⟩ = some (.int .i64 x1) ∧ z3.cell? ⟨vb, 1, none⟩ = some (.int .i64 x2) ∧ z3.cell? ⟨xb, 0, none⟩ = some (.slice ta t.length tc) ∧ z3.cell? ⟨xb, 1, none⟩ = some (.slice da xs.length dc) := by
    have hvW : vb < W.heap.size ∧ xb < W.heap.size := HXW.out
    have h2 := HL.out
    have kp : ∀ (b j : Nat) (z : Value), b < W.heap.size → z2.cell? ⟨b, j, none⟩ = some z → z3.cell? ⟨b, j, none⟩ = some z := fun b j z hb hz => by
      rw [← hz]
      unfold World.cell?
      simp only [HN3.out b (by omega) (by omega)]
    exact ⟨kp _ _ _ hvW.1 p0, kp _ _ _ hvW.1 p1, kp _ _ _ hvW.2 p2, kp _ _ _ hvW.2 p3⟩
  clear p0 p1 p2 p3
  have H21 : Calls Tryz.prog 21 #[.pointer (some ⟨rt, 0, none⟩), .slice da xs.length dc] z3 fun e w' => e = .returned (.tuple #[]) ∧ Hid (RdP z3 G rt bs xs w') := z21 G rt bs xs _ z3 HR3.out HNm.out hbs
  go_wp2_with fail
  refine H21.mono ?_
  rintro e z4 ⟨rfl, HD4⟩
  clear H21 q0 q1 q2 q3
  obtain ⟨D', G2, ra2, rc2, nk, fa2, fc2, HE⟩ : ∃ D' G2 ra2 rc2 nk fa2 fc2, Hid (HpAt z4 hb M nn D' (dropH (hpOf bs) xs) ∧ HpAt z4 hb2 M2 nn D (hpOf bs) ∧ RfH z4 G2 rt (keptB xs bs) ∧ RfH z4 G' fb bs ∧ z4.heap[rt]? = some (.cells #[.slice ra2 (keptB xs bs).length rc2] 48 (0, 0)) ∧ z4.heap[fb]? = some (.cells #[.slice fa2 bs.length fc2] 48 (0, 0)) ∧ (keptB xs bs).length = nk ∧ Below w.heap.size w z4) := by
    obtain ⟨D', h1, h2, h3⟩ := HD3.out
    obtain ⟨G2, k1, k2, k3⟩ := HD4.out
    have hl := HL.out
    have hN4 : ∀ g, g ≠ rt → g < z3.heap.size → z4.heap[g]? = z3.heap[g]? := fun g e1 e2 => k2.2.2.2.2 g e2 e1
    have hs3 : z2.heap.size ≤ z3.heap.size := h2.2.2.2.1
    have hV := HB.out.1.vlt
    obtain ⟨f1, f2, f3, f4⟩ := HF1.out
    obtain ⟨r1, r2, r3, r4⟩ := HF2.out
    have hbl2 := (Array.getElem?_eq_some_iff.1 f1.blk).1
    have hml2 := f1.map.lt
    have hsz12 := r2.size
    have A1 : HpAt z4 hb M nn D' (dropH (hpOf bs) xs) := h1.keeps (h3 V HB.out.1.vb) (hN4 hb hl.2.2.1 (by omega)) (hN4 M (Ne.symm hl.2.1) (by omega)) (fun g hg => hN4 g (hV g hg).2.1 (by have := (hV g hg).1; omega))
    have A2 : HpAt z4 hb2 M2 nn D (hpOf bs) := by
      have z2' := f1.below r2
      have z3' : HpAt z3 hb2 M2 nn D (hpOf bs) := z2'.keeps HB.out.1.vb (HN3.out hb2 (by omega) (by omega)) (HN3.out M2 (by omega) (by omega)) (fun g hg => HN3.out g (hV g hg).2.2.1 (by have := (hV g hg).1; omega))
      exact z3'.keeps HB.out.1.vb (hN4 hb2 (by omega) (by omega)) (hN4 M2 (by omega) (by omega)) (fun g hg => hN4 g (hV g hg).2.1 (by have := (hV g hg).1; omega))
    have A4 : RfH z4 G' fb bs := by
      have hfl := r1.rlt
      have z3' : RfH z3 G' fb bs := r1.keeps (fun g hg => HN3.out g ((r4 g hg).elim (fun e => (HB.out.1.glt g e).2.1) (fun e => by omega)) (r1.lt g hg)) (HN3.out fb (by omega) hfl) hs3
      exact z3'.keeps (fun g hg => hN4 g ((r4 g hg).elim (fun e e2 => HB.out.1.rf.grt (e2 ▸ e)) (fun e => by omega)) (z3'.lt g hg)) (hN4 fb (by omega) (by omega)) k2.2.2.2.1
    obtain ⟨ra2, rc2, c1, _⟩ := k1.ex
    obtain ⟨fa2, fc2, c2, _⟩ := A4.ex
    have hww : Below w.heap.size w z4 := by
      have g1 := HV.out.2.2.2.2.2.2.2.2
      have g2 : Below w.heap.size w z2 := g1.trans (HZ2.out.2.mono g1.size)
      have g3 : Below w.heap.size z2 z3 := h2.below (by have := g1.size; omega) (by have := g2.size; omega)
      have g4 : Below w.heap.size z3 z4 := k2.below (by have := g1.size; omega) (by have := g2.size; omega)
      exact (g2.trans g3).trans g4
    exact ⟨D', G2, ra2, rc2, _, fa2, fc2, A1, A2, k1, A4, c1, c2, rfl, hww⟩
  have hnk : (keptB xs bs).length = nk := HE.out.2.2.2.2.2.2.1
  have hnk2 : nk ≤ 3518437208780 := by
    have : (keptB xs bs).length ≤ bs.length := List.length_filter_le _ _
    omega
  have hnn : nn ≤ 3518437208780 := by
    have h1 := HB.out.1.nk.1
    have h2 := HNN.out
    omega
  have HS2 : Hid (∀ u, Below z4.heap.size z4 u → (fun u => u.cell? ⟨rt, 0, none⟩ = some (.slice ra2 nk rc2) ∧ u.cell? ⟨fb, 0, none⟩ = some (.slice fa2 bs.length fc2)) u) := fun u hu => by
    obtain ⟨_, _, e3, e4, e5, e6, e7, _⟩ := HE.out
    rw [e7] at e5
    refine ⟨?_, ?_⟩
    · rw [cell_of_row u rt 0 _ 48 (0, 0) ((hu.block rt e3.rlt).trans e5)]
      rfl
    · rw [cell_of_row u fb 0 _ 48 (0, 0) ((hu.block fb e4.rlt).trans e6)]
      rfl
  have K17a : Hid (∀ u, Below z4.heap.size z4 u → Calls Tryz.prog 17 #[.pointer (some ⟨hb, 0, none⟩)] u fun e w' => ∃ aB cB, e = .returned (.slice aB nk cB) ∧ Hid ((Calls Tryz.prog 16 #[.slice aB nk cB, .slice ra2 nk rc2] w' fun e w2 => e = .returned (.bool true) ∧ Below w'.heap.size w' w2) ∧ Below z4.heap.size z4 w')) := fun u hu => by
    obtain ⟨e1, _, e3, _, e5, _, e7, _⟩ := HE.out
    have he : hpOf (keptB xs bs) = dropH (hpOf bs) xs := by rw [kept_hp, dropH_eq]
    have hup : RisesH (dropH (hpOf bs) xs) := by
      rw [dropH_eq]
      exact List.Pairwise.filter _ HB.out.1.up
    have h := same_bd e1 hnn hup (fun x l hl => ?_) e3 he e5 (by omega) hu
    · rw [e7] at h
      exact h
    · rw [dropH_eq] at hl
      cases hq : hasN xs x
      · rw [look_filter (q := fun z => !hasN xs z) (by simp [hq])] at hl
        exact (HB.out.1.len x l hl).1
      · rw [look_filter_no (q := fun z => !hasN xs z) (by simp [hq])] at hl
        cases hl
  have K17b : Hid (∀ u, Below z4.heap.size z4 u → Calls Tryz.prog 17 #[.pointer (some ⟨hb2, 0, none⟩)] u fun e w' => ∃ aB cB, e = .returned (.slice aB bs.length cB) ∧ Hid ((Calls Tryz.prog 16 #[.slice aB bs.length cB, .slice fa2 bs.length fc2] w' fun e w2 => e = .returned (.bool true) ∧ Below w'.heap.size w' w2) ∧ Below z4.heap.size z4 w')) := fun u hu => by
    obtain ⟨_, e2, _, e4, _, e6, _, _⟩ := HE.out
    exact same_bd e2 hnn HB.out.1.up (fun x l hl => (HB.out.1.len x l hl).1) e4 rfl e6 (by omega) hu
  have HWZ : Hid (Below w.heap.size w z4) := HE.out.2.2.2.2.2.2.2
  clear HB HZ HZ1 HZ2 HF1 HF2 HD3 HD4 HK3 HN3 HL HNm HR3 HE HRG hnk
  go_wp2_with fail
  refine wp_region_noPanic ?_
  refine wp_region_held_drew (S := fun u => u.cell? ⟨rt, 0, none⟩ = some (.slice ra2 nk rc2) ∧ u.cell? ⟨fb, 0, none⟩ = some (.slice fa2 bs.length fc2)) (by kernel_rfl) (HS2.out _ (Below.refl _ _).drew) (fun hHeld => ?_)
  (refine wpAnyH_take (i := 0) (v := ?_) (by simp only [List.getElem?_toArray, List.getElem?_cons_zero]; rfl) (by kernel_rfl) (by kernel_rfl) (by kernel_rfl) (fun _ _ _ h => h) (Or.inl ⟨by rfl, ?_⟩) (by assumption) ?_; rotate_left; (· (intro w hSw; (try dsimp only at hSw); go_simp <;> with_reducible rfl)); try simp only [Act.put, List.setIfInBounds_toArray, List.set_cons_zero, List.set_cons_succ])
  (refine wpAnyH_take (i := 2) (v := ?_) (by simp only [List.getElem?_toArray, List.getElem?_cons_zero, List.getElem?_cons_succ]; rfl) (by kernel_rfl) (by kernel_rfl) (by kernel_rfl) (fun _ _ _ h => h) (Or.inl ⟨by rfl, ?_⟩) (by assumption) ?_; rotate_left; (· (intro w hSw; (try dsimp only at hSw); go_simp <;> with_reducible rfl)); try simp only [Act.put, List.setIfInBounds_toArray, List.set_cons_zero, List.set_cons_succ])
  (refine wpAnyH_take (i := 3) (v := ?_) (by simp only [List.getElem?_toArray, List.getElem?_cons_zero, List.getElem?_cons_succ]; rfl) (by kernel_rfl) (by kernel_rfl) (by kernel_rfl) (fun _ _ _ h => h) (Or.inl ⟨by rfl, ?_⟩) (by assumption) ?_; rotate_left; (· (intro w hSw; (try dsimp only at hSw); go_simp <;> with_reducible rfl)); try simp only [Act.put, List.setIfInBounds_toArray, List.set_cons_zero, List.set_cons_succ])
  (refine wpAnyH_take (i := 4) (v := ?_) (by simp only [List.getElem?_toArray, List.getElem?_cons_zero, List.getElem?_cons_succ]; rfl) (by kernel_rfl) (by kernel_rfl) (by kernel_rfl) (fun _ _ _ h => h) (Or.inl ⟨by rfl, ?_⟩) (by assumption) ?_; rotate_left; (· (intro w hSw; (try dsimp only at hSw); go_simp <;> with_reducible rfl)); try simp only [Act.put, List.setIfInBounds_toArray, List.set_cons_zero, List.set_cons_succ])
  (refine wpAnyH_take (i := 5) (v := ?_) (by simp only [List.getElem?_toArray, List.getElem?_cons_zero, List.getElem?_cons_succ]; rfl) (by kernel_rfl) (by kernel_rfl) (by kernel_rfl) (fun _ _ _ h => h) (Or.inl ⟨by rfl, ?_⟩) (by assumption) ?_; rotate_left; (· (intro w hSw; (try dsimp only at hSw); go_simp <;> with_reducible rfl)); try simp only [Act.put, List.setIfInBounds_toArray, List.set_cons_zero, List.set_cons_succ])
  refine wpAnyH_ready (rs := [1]) (by kernel_rfl) (by simp) ?_
  refine AllReadyH.cons (by simp only [List.getElem?_toArray, List.getElem?_cons_zero, List.getElem?_cons_succ]; rfl) (fun K hK => ?_) AllReadyH.nil
  go_simp
  go_at_call 17
  refine (K17a.out _ (by first | exact Below.refl _ _ | exact (Below.refl _ _).drew)).mono ?_
  rintro e v1 ⟨aC, cC, rfl, G1⟩
  refine hK.out _ _ ?_ (fun hHeld => ?_)
  · exact HS2.out _ G1.out.2
  clear hK K
  try simp only [Act.put, List.setIfInBounds_toArray, List.set_cons_zero, List.set_cons_succ]
  refine wpAnyH_ready (rs := [6]) (by kernel_rfl) (by simp) ?_
  refine AllReadyH.cons (by simp only [List.getElem?_toArray, List.getElem?_cons_zero, List.getElem?_cons_succ]; rfl) (fun K hK => ?_) AllReadyH.nil
  go_simp
  go_at_call 16
  refine (G1.out.1).mono ?_
  rintro e v2 ⟨rfl, G2⟩
  have G2' : Hid (Below z4.heap.size z4 v2) := G1.out.2.trans (G2.mono G1.out.2.size)
  refine hK.out _ _ ?_ (fun hHeld => ?_)
  · exact HS2.out _ G2'.out
  clear hK K
  try simp only [Act.put, List.setIfInBounds_toArray, List.set_cons_zero, List.set_cons_succ]
  (refine wpAnyH_take (i := 7) (v := ?_) (by simp only [List.getElem?_toArray, List.getElem?_cons_zero, List.getElem?_cons_succ]; rfl) (by kernel_rfl) (by kernel_rfl) (by kernel_rfl) (fun _ _ _ h => h) (Or.inl ⟨by rfl, ?_⟩) (by assumption) ?_; rotate_left; (· (intro w hSw; (try dsimp only at hSw); go_simp <;> with_reducible rfl)); try simp only [Act.put, List.setIfInBounds_toArray, List.set_cons_zero, List.set_cons_succ])
  (refine wpAnyH_take (i := 8) (v := ?_) (by simp only [List.getElem?_toArray, List.getElem?_cons_zero, List.getElem?_cons_succ]; rfl) (by kernel_rfl) (by kernel_rfl) (by kernel_rfl) (fun _ _ _ h => h) (Or.inl ⟨by rfl, ?_⟩) (by assumption) ?_; rotate_left; (· (intro w hSw; (try dsimp only at hSw); go_simp <;> with_reducible rfl)); try simp only [Act.put, List.setIfInBounds_toArray, List.set_cons_zero, List.set_cons_succ])
  (refine wpAnyH_take (i := 10) (v := ?_) (by simp only [List.getElem?_toArray, List.getElem?_cons_zero, List.getElem?_cons_succ]; rfl) (by kernel_rfl) (by kernel_rfl) (by kernel_rfl) (fun _ _ _ h => h) (Or.inl ⟨by rfl, ?_⟩) (by assumption) ?_; rotate_left; (· (intro w hSw; (try dsimp only at hSw); go_simp <;> with_reducible rfl)); try simp only [Act.put, List.setIfInBounds_toArray, List.set_cons_zero, List.set_cons_succ])
  (refine wpAnyH_take (i := 11) (v := ?_) (by simp only [List.getElem?_toArray, List.getElem?_cons_zero, List.getElem?_cons_succ]; rfl) (by kernel_rfl) (by kernel_rfl) (by kernel_rfl) (fun _ _ _ h => h) (Or.inl ⟨by rfl, ?_⟩) (by assumption) ?_; rotate_left; (· (intro w hSw; (try dsimp only at hSw); go_simp <;> with_reducible rfl)); try simp only [Act.put, List.setIfInBounds_toArray, List.set_cons_zero, List.set_cons_succ])
  (refine wpAnyH_take (i := 12) (v := ?_) (by simp only [List.getElem?_toArray, List.getElem?_cons_zero, List.getElem?_cons_succ]; rfl) (by kernel_rfl) (by kernel_rfl) (by kernel_rfl) (fun _ _ _ h => h) (Or.inl ⟨by rfl, ?_⟩) (by assumption) ?_; rotate_left; (· (intro w hSw; (try dsimp only at hSw); go_simp <;> with_reducible rfl)); try simp only [Act.put, List.setIfInBounds_toArray, List.set_cons_zero, List.set_cons_succ])
  (refine wpAnyH_take (i := 13) (v := ?_) (by simp only [List.getElem?_toArray, List.getElem?_cons_zero, List.getElem?_cons_succ]; rfl) (by kernel_rfl) (by kernel_rfl) (by kernel_rfl) (fun _ _ _ h => h) (Or.inl ⟨by rfl, ?_⟩) (by assumption) ?_; rotate_left; (· (intro w hSw; (try dsimp only at hSw); go_simp <;> with_reducible rfl)); try simp only [Act.put, List.setIfInBounds_toArray, List.set_cons_zero, List.set_cons_succ])
  refine wpAnyH_ready (rs := [9]) (by kernel_rfl) (by simp) ?_
  refine AllReadyH.cons (by simp only [List.getElem?_toArray, List.getElem?_cons_zero, List.getElem?_cons_succ]; rfl) (fun K hK => ?_) AllReadyH.nil
  go_simp
  go_at_call 17
  refine (K17b.out _ G2'.out).mono ?_
  rintro e v3 ⟨aD, cD, rfl, G3⟩
  refine hK.out _ _ ?_ (fun hHeld => ?_)
  · exact HS2.out _ G3.out.2
  clear hK K
  try simp only [Act.put, List.setIfInBounds_toArray, List.set_cons_zero, List.set_cons_succ]
  refine wpAnyH_ready (rs := [14]) (by kernel_rfl) (by simp) ?_
  refine AllReadyH.cons (by simp only [List.getElem?_toArray, List.getElem?_cons_zero, List.getElem?_cons_succ]; rfl) (fun K hK => ?_) AllReadyH.nil
  go_simp
  go_at_call 16
  refine (G3.out.1).mono ?_
  rintro e v4 ⟨rfl, G4⟩
  have G4' : Hid (Below z4.heap.size z4 v4) := G3.out.2.trans (G4.mono G3.out.2.size)
  refine hK.out _ _ ?_ (fun hHeld => ?_)
  · exact HS2.out _ G4'.out
  clear hK K
  try simp only [Act.put, List.setIfInBounds_toArray, List.set_cons_zero, List.set_cons_succ]
  (refine wpAnyH_take (i := 15) (v := ?_) (by simp only [List.getElem?_toArray, List.getElem?_cons_zero, List.getElem?_cons_succ]; rfl) (by kernel_rfl) (by kernel_rfl) (by kernel_rfl) (fun _ _ _ h => h) (Or.inl ⟨by rfl, ?_⟩) (by assumption) ?_; rotate_left; (· (intro w hSw; (try dsimp only at hSw); go_simp <;> with_reducible rfl)); try simp only [Act.put, List.setIfInBounds_toArray, List.set_cons_zero, List.set_cons_succ])
  (refine wpAnyH_take (i := 16) (v := ?_) (by simp only [List.getElem?_toArray, List.getElem?_cons_zero, List.getElem?_cons_succ]; rfl) (by kernel_rfl) (by kernel_rfl) (by kernel_rfl) (fun _ _ _ h => h) (Or.inl ⟨by rfl, ?_⟩) (by assumption) ?_; rotate_left; (· (intro w hSw; (try dsimp only at hSw); go_simp <;> with_reducible rfl)); try simp only [Act.put, List.setIfInBounds_toArray, List.set_cons_zero, List.set_cons_succ])
  refine wpAnyH_done (by kernel_rfl) ?_ _
  refine NoPanic.normal ?_
  clear hHeld
  have HEnd : Hid (Below w.heap.size w v4) := HWZ.out.trans (G4'.out.mono HWZ.out.size)
  go_wp2_with fail
  go_ret
  exact ⟨rfl, HEnd.out⟩
end Go.Proofs.YtgcpkkeonameeaaGreatDoor
