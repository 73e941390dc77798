/- Contract of the document's Step where it tells parts, and whole. -/
import Derived.Test.YtljggjllijacjaaGreatDoorUHg
namespace Go.Proofs.YtljggjllijacjaaGreatDoor
open Go.RowKit
attribute [local go_sem ↓] Go.wp_at_zero Go.wp_at_succ
theorem args_pos {a : List C} (ha : rightB a = true) (hk : ((hdC a).k == 3) = true) : 0 < (argsL a).length := by
 have h1 : 0 < a.length := (right_len ha).1
 have e1 := hd_get h1
 have hk' : (hdC a).k = 3 := by simpa using hk
 have k1 : headK a = 3 := by rw [headK_get h1, e1]; exact hk'
 rw [(argsL_spec a ha h1 k1).2.1, e1, hk']
 match a, ha, hk' with
 | [], h, _ => simp [rightB] at h
 | c :: r, h, hk' =>
  have hk' : c.k = 3 := hk'
  unfold rightB cellsB at h
  simp only [Bool.and_eq_true, List.all_cons] at h
  have hc : cellB c.k c.t c.n c.vn c.vk = true := h.1.2.1
  rw [hk'] at hc
  unfold cellB at hc
  rw [if_neg (by decide), if_neg (by decide), if_pos rfl] at hc
  simp only [Bool.and_eq_true] at hc
  have h2 := hc.2
  unfold structFits between at h2
  simp only [Bool.or_eq_true, Bool.and_eq_true, decide_eq_true_eq, beq_iff_eq] at h2
  have h3 : 1 ≤ c.n := by rcases h2 with ⟨_, h, _⟩ | ⟨_, h⟩ <;> omega
  show 0 < (argsOf 3 c.n).toNat
  unfold argsOf
  rw [if_pos rfl]
  omega
/-- The document's parts so far. -/
structure Pd (w : World) (B : Nat) (wr : World) (P : List (List C)) (v : Value) (vs : List Value) (k : Nat) : Prop where
 own : wr.ownsRow B 24 1 v k vs
 len : vs.length = k
 el : ∀ (i : Nat) (y : Value) (l : List C), vs[i]? = some y → P[i]? = some l → OwnT wr B y l
 ft : Ft w wr
theorem Pd.low {w wr w' : World} {B : Nat} {P : List (List C)} {v : Value} {vs : List Value} {k : Nat} (h : Pd w B wr P v vs k) (hb : Below wr.heap.size wr w') : Pd w B w' P v vs k := ⟨owns_below' h.own hb, h.len, fun i y l hy hl => owns_below' (h.el i y l hy hl) hb, h.ft.low hb⟩
theorem ownT_grown {w w' : World} {row : Option Nat} {B : Nat} {u : Value} {l : List C} (h : OwnT w B u l) (hg : w.grownBy w' row) (hr : ∀ g, row = some g → ∃ cu fr, w.heap[g]? = some (.cells cu 24 fr)) : OwnT w' B u l :=
 owns_blocks h fun k cur hk => hg.block k (Array.getElem?_eq_some_iff.1 hk).1 (fun e => by
  obtain ⟨cu, fr, h2⟩ := hr k e.symm
  rw [h2] at hk
  simp at hk)
theorem Pd.put {w wr w2 w8 : World} {B : Nat} {P : List (List C)} {v : Value} {vs : List Value} {k : Nat} (h : Pd w B wr P v vs k) (hb : Below wr.heap.size wr w2) (hB1 : w.heap.size + 1 ≤ B) (hB2 : B ≤ wr.heap.size) {u : Value} {x : List C} (hu : OwnT w2 B u x) (hx : P[k]? = some x) {v' : Value} (hown : w8.ownsRow B 24 1 v' (k + 1) (vs ++ [u])) {row : Option Nat} (hgr : w2.grownBy w8 row) (hrow : ∀ g, row = some g → v.ownBlock = some g) : Pd w B w8 P v' (vs ++ [u]) (k + 1) := by
 have h2 := h.low hb
 have hty : ∀ g, row = some g → ∃ cu fr, w2.heap[g]? = some (.cells cu 24 fr) := fun g hg => Bk.owns_typed h2.own g (hrow g hg)
 refine ⟨hown, by simp [h.len], fun i y l hy hl => ?_, ?_⟩
 ·by_cases hlt : i < vs.length
  ·rw [List.getElem?_append_left hlt] at hy
   exact ownT_grown (h2.el i y l hy hl) hgr hty
  ·have e : i = vs.length := by
    have := (List.getElem?_eq_some_iff.1 hy).1
    simp at this
    omega
   subst e
   rw [List.getElem?_append_right (Nat.le_refl _)] at hy
   rw [h.len, hx] at hl
   simp at hy hl
   subst hy hl
   exact ownT_grown hu hgr hty
 ·have hs := hb.size
  exact Below.grown h2.ft hgr (by omega) (fun g hg => Nat.le_trans hB1 (World.ownsRow.lt h2.own g (hrow g hg)).1)
theorem stR_part {w wr : World} {B : Nat} {P : List (List C)} {pa : Option Addr} {pc : Nat} {vs : List Value} {k : Nat} (h : Pd w B wr P (.slice pa k pc) vs k) (hk : P.length = k) (h0 : 0 < k) (hm : k ≤ maxLen) (hP : ∀ l ∈ P, rightB l = true) (a b c d e : Value) : StR 3 (0, 0) [] P (.returned (.agg #[.int .i64 3, .int .i64 0, .int .i64 0, .slice none 0 0, .slice pa k pc])) w (put49 wr w.heap.size a b c d e) := by
 refine ⟨none, 0, 0, pa, k, pc, rfl, term_nil _ none, ?_, put49_bel h.ft.bel (Nat.le_refl _) a b c d e⟩
 have ho : (put49 wr w.heap.size a b c d e).ownsRow B 24 1 (.slice pa k pc) k vs := owns_blocks h.own fun g cur hg => put49_other _ _ _ _ _ _ _ _ (fun eg => by
  subst eg
  rw [h.ft.blk] at hg
  simp at hg)
 subst hk
 exact rowAt_of_owns ho h0 hm fun i u l hu hl => by
  have hr := hP l (List.mem_of_getElem? hl)
  have hn : l ≠ [] := fun e => by rw [e] at hr; simp [rightB] at hr
  exact h.ft.term (ownT_term (h.el i u l hu hl) (right_text hr).1 (right_text hr).2) hn a b c d e
theorem parts_right {xs ys : List (List C)} (h : partsB xs ys = true) (hl : xs.length = ys.length) : ∀ l ∈ partsL xs ys, rightB l = true := by
 intro l hm
 obtain ⟨i, hi, rfl⟩ := List.getElem_of_mem hm
 have hx : i < xs.length := by rw [parts_len xs ys hl] at hi; exact hi
 have hy : i < ys.length := by omega
 have e := parts_get hx hy
 rw [List.getElem?_eq_getElem hi] at e
 rw [Option.some.inj e]
 exact eq_right (made_eq (partsB_get h hx hy)).1
theorem r_two (x y : List C) (a b : Value) (w : World) (hx : TermAt w a x) (hy : TermAt w b y) : Calls Tryz.prog 42 #[.string ⟨#[61]⟩, .slice (some ⟨w.heap.size, 0, none⟩) 2 2] (w.alloc (.cells #[a, b] 24)) fun e w' => ∃ ad n c, e = .returned (.tuple #[.slice ad n c, .int .i64 (makeE eqS [x, y])]) ∧ OwnT w' w.heap.size (.slice ad n c) (makeL eqS [x, y]) ∧ Below w.heap.size w w' := by
 have hb : Below w.heap.size w (w.alloc (.cells #[a, b] 24)) := (Below.refl _ _).alloc (Nat.le_refl _) _
 have hrow : RowAt (w.alloc (.cells #[a, b] 24)) (.slice (some ⟨w.heap.size, 0, none⟩) 2 2) [x, y] := by
  refine ⟨by simp [maxLen], .inr ⟨w.heap.size, 0, 2, [a, b], rfl, Nat.le_refl _, by simp [maxLen], by simp, rfl, ?_, ?_⟩⟩
  ·exact range_new w [a, b] 24
  ·intro i u l hu hl
   match i with
   | 0 => simp at hu hl; subst hu hl; exact hx.below hb
   | 1 => simp at hu hl; subst hu hl; exact hy.below hb
   | _ + 2 => simp at hu
 refine (c11o eqS [x, y] _ _ hrow (by decide)).mono ?_
 rintro e w' ⟨u, rfl, hT, hb2, hO⟩
 obtain ⟨ad, c, hf⟩ := hT.form
 subst hf
 exact ⟨ad, _, c, rfl, ownT_base hO (by simp), hb.trans (hb2.mono (by simp))⟩
set_option maxRecDepth 100000 in
set_option maxHeartbeats 4000000 in
theorem r12_parts (m : Hp) (p : Option Addr) (l1 l2 : List C) (v1 v2 : Value) (w : World) (hD : DerQ w (.pointer p) m) (hT1 : TermAt w v1 l1) (hT2 : TermAt w v2 l2) (hW1 : ∀ c ∈ l1, wfN (c.vn, c.vk)) (hW2 : ∀ c ∈ l2, wfN (c.vn, c.vk)) (hg1 : globalB l1 = true) (hg2 : globalB l2 = true) (hm : ∀ x l, lookH m x = some l → l.length * 48 ≤ 140737488355328 ∧ l ≠ [] ∧ rightB l = true) (hns : ∀ a b, IsFol m l1 a → IsFol m l2 b → (eqC (hdC a) (hdC b) && ((hdC a).k == 3)) = true) :
  Calls Tryz.prog 12 #[.pointer p, v1, v2] w fun e w' => SdPost m l1 l2 e w w' := by
 have hr1 := global_right hg1
 have hr2 := global_right hg2
 have hn1 : l1 ≠ [] := fun e => by rw [e] at hr1; simp [rightB] at hr1
 have hn2 : l2 ≠ [] := fun e => by rw [e] at hr2; simp [rightB] at hr2
 have HG1 : Hid (∀ W, Below w.heap.size w W → Calls Tryz.prog 44 #[v1] W fun e w' => e = .returned (.bool true) ∧ Below W.heap.size W w') := fun W hW => by
  have h := c37 l1 v1 W (hT1.below hW)
  rw [← global_same, hg1] at h; exact h
 have HG2 : Hid (∀ W, Below w.heap.size w W → Calls Tryz.prog 44 #[v2] W fun e w' => e = .returned (.bool true) ∧ Below W.heap.size W w') := fun W hW => by
  have h := c37 l2 v2 W (hT2.below hW)
  rw [← global_same, hg2] at h; exact h
 have HD1 : Hid (∀ W, Below w.heap.size w W → Calls Tryz.prog 45 #[.pointer p, v1] W fun e w' => ∃ x n c a, e = .returned (.slice x n c) ∧ IsFol m l1 a ∧ rightB a = true ∧ Below W.heap.size W w' ∧ TermAt w' (.slice x n c) a) := fun W hW => (hD W l1 v1 hW (hT1.below hW) hW1 hn1).mono fun e w' ⟨x, n, c, a, k1, k2, k3, k4⟩ => ⟨x, n, c, a, k1, k3, fol_right k3.1 hm hr1, k4, k2⟩
 have HD2 : Hid (∀ W, Below w.heap.size w W → Calls Tryz.prog 45 #[.pointer p, v2] W fun e w' => ∃ x n c a, e = .returned (.slice x n c) ∧ IsFol m l2 a ∧ rightB a = true ∧ Below W.heap.size W w' ∧ TermAt w' (.slice x n c) a) := fun W hW => (hD W l2 v2 hW (hT2.below hW) hW2 hn2).mono fun e w' ⟨x, n, c, a, k1, k2, k3, k4⟩ => ⟨x, n, c, a, k1, k3, fol_right k3.1 hm hr2, k4, k2⟩
 have HF0 : Hid (Ft w (w.alloc (.cells #[.int .i64 0, .int .i64 0, .int .i64 0, .slice none 0 0, .slice none 0 0] 40))) := by
  show Below _ _ _
  exact Below.refl _ _
 obtain ⟨a0, c0, hf⟩ := hT1.form
 subst hf
 obtain ⟨b0, d0, hf⟩ := hT2.form
 subst hf
 clear hD hT1 hT2 hW1 hW2 hg1 hg2 hm hr1 hr2 hn1 hn2
 go_enter Tryz.func12, Tryz.ntmps12
 go_wp2_with fail
 refine (HG1.out _ HF0.out.bel).mono ?_
 rintro e w1 ⟨rfl, hb1⟩
 have HF1 : Hid (Ft w w1) := HF0.out.low hb1
 clear HG1 hb1 HF0
 go_wp2_with fail
 refine (HG2.out _ HF1.out.bel).mono ?_
 rintro e w2 ⟨rfl, hb2⟩
 have HF2 : Hid (Ft w w2) := HF1.out.low hb2
 clear HG2 hb2 HF1
 go_wp2_with fail
 refine (HD1.out _ HF2.out.bel).mono ?_
 rintro e w3 ⟨xa, xn, xc, a, rfl, hFa, hra, hb3, hTa⟩
 have HF3 : Hid (Ft w w3) := HF2.out.low hb3
 have HTa : Hid (TermAt w3 (.slice xa xn xc) a) := hTa
 clear HD1 hb3 HF2 hTa
 go_wp2_with fail
 refine (HD2.out _ HF3.out.bel).mono ?_
 rintro e w4 ⟨ya, yn, yc, b, rfl, hFb, hrb, hb4, hTb⟩
 have hna : a ≠ [] := fun e => by rw [e] at hra; simp [rightB] at hra
 have hnb : b ≠ [] := fun e => by rw [e] at hrb; simp [rightB] at hrb
 obtain ⟨g1, o1, c1, e1, _⟩ := term_at HTa.out hna
 obtain ⟨g2, o2, c2, e2, _⟩ := term_at hTb hnb
 cases e1
 cases e2
 have HGs : Hid (Gs w w4 g1 o1 xc g2 o2 yc a b) := ⟨HF3.out.low hb4, HTa.out.below hb4, hTb, hra, hrb⟩
 have HAB : Hid (IsFol m l1 a ∧ IsFol m l2 b) := ⟨hFa, hFb⟩
 have hla : (0 : Int) < (a.length : Int) := by have := List.length_pos_iff.2 hna; omega
 have hlb : (0 : Int) < (b.length : Int) := by have := List.length_pos_iff.2 hnb; omega
 have HNN : Hid (a ≠ [] ∧ b ≠ []) := ⟨hna, hnb⟩
 obtain ⟨⟨p0, p1, p2, p3, p4⟩, q0, q1, q2, q3, q4⟩ := HGs.out.cells
 obtain ⟨⟨s0, s1, s2, s3, s4⟩, sf⟩ := HGs.out.ft.cells
 have f0 := sf 0
 have f1 := sf 1
 have f2 := sf 2
 have f3 := sf 3
 have f4 := sf 4
 have HN : Hid (∀ W : World, (binOp .neq 78 (.agg #[.int .u8 (hdC a).k, .string (hdC a).t, .int .i64 (hdC a).n, .int .i64 (hdC a).vn, .int .i64 (hdC a).vk]) (.agg #[.int .u8 (hdC b).k, .string (hdC b).t, .int .i64 (hdC b).n, .int .i64 (hdC b).vn, .int .i64 (hdC b).vk])).run Tryz.prog W = .ok (.bool (!eqC (hdC a) (hdC b))) W) := fun W => neq60 _ _ _ _ _ _ _ _ _ _ W
 have HK : Hid (stK a b = if eqC (hdC a) (hdC b) then (if (hdC a).k == 3 then (if partsB (argsL a) (argsL b) then 3 else 4) else 1) else if bindsFst a b || isV b then 2 else 4) := rfl
 have HS : Hid ((eqC (hdC a) (hdC b) && ((hdC a).k == 3)) = true) := hns a b hFa hFb
 have HLk : Hid ((argsL a).length = (argsL b).length) := by
  have h := HS.out
  rw [Bool.and_eq_true] at h
  exact args_like hra hrb h.1 h.2
 have HPN : Hid (((hdC a).k == 3) = true → 0 < (argsL a).length) := args_pos hra
 have HPl : Hid (∀ (W : World), Below w4.heap.size w4 W → ∀ (k : Int), stK a b = k → k ≠ 2 → k ≠ 3 → ∀ x y z u v, SdPost m l1 l2 (.returned (.agg #[.int .i64 k, .int .i64 0, .int .i64 0, .slice none 0 0, .slice none 0 0])) w (put49 W w.heap.size x y z u v)) := fun W hW k hk k2 k3 x y z u v => sd_plain HAB.out.1 HAB.out.2 hra hrb (HGs.out.low hW).ft k hk k2 k3 x y z u v
 obtain ⟨⟨ck, ct, cn, cx, cy⟩, hca⟩ : ∃ c, hdC a = c := ⟨_, rfl⟩
 obtain ⟨⟨dk, dt, dn, dx, dy⟩, hcb⟩ : ∃ c, hdC b = c := ⟨_, rfl⟩
 rw [hca] at HS HK HN HPN p0 p1 p2 p3 p4
 rw [hcb] at HS HK HN q0 q1 q2 q3 q4
 simp only at p0 p1 p2 p3 p4 q0 q1 q2 q3 q4
 clear hns hFa hFb hra hrb hna hnb sf HD2 hb4 HF3 hTb HTa

 have hq : eqC ⟨ck, ct, cn, cx, cy⟩ ⟨dk, dt, dn, dx, dy⟩ = true := by
  have h := HS.out
  rw [Bool.and_eq_true] at h
  exact h.1
 have hk3 : (ck == 3) = true := by
  have h := HS.out
  rw [Bool.and_eq_true] at h
  exact h.2
 have hck : ck = 3 := by simpa using hk3
 have hdk : dk = 3 := by
  unfold eqC eqCells at hq
  simp only [Bool.and_eq_true, beq_iff_eq] at hq
  rw [← hq.1.1.1.1]; exact hck
 subst hck hdk
 have hn := HN.out
 rw [hq] at HK hn
 have HK5 : Hid (stK a b = if partsB (argsL a) (argsL b) = true then 3 else 4) := HK.out
 have HP0 : Hid (0 < (argsL a).length) := HPN.out hk3
 clear HK HPN HN HS hq hk3
 have HAa : Hid (∀ W, Below w4.heap.size w4 W → Calls Tryz.prog 46 #[.slice (some ⟨g1, o1, none⟩) a.length xc] W fun e w' => ∃ ad n c, e = .returned (.slice ad n c) ∧ RowAt w' (.slice ad n c) (argsL a) ∧ Below W.heap.size W w') := fun W hW => (c27 a _ W (HGs.out.ta.below hW)).mono fun e w' ⟨u, k1, k2, k3⟩ => by
  obtain ⟨ad, cap, e1⟩ := k2.form
  subst e1
  exact ⟨_, _, _, k1, k2, k3⟩
 have HAb : Hid (∀ W, Below w4.heap.size w4 W → Calls Tryz.prog 46 #[.slice (some ⟨g2, o2, none⟩) b.length yc] W fun e w' => ∃ ad n c, e = .returned (.slice ad n c) ∧ RowAt w' (.slice ad n c) (argsL b) ∧ Below W.heap.size W w') := fun W hW => (c27 b _ W (HGs.out.tb.below hW)).mono fun e w' ⟨u, k1, k2, k3⟩ => by
  obtain ⟨ad, cap, e1⟩ := k2.form
  subst e1
  exact ⟨_, _, _, k1, k2, k3⟩
 have HA8 : Hid ((argsL a).length ≤ 8) := argsL_len a
 go_wp2_with fail
 go_quiet (fail)
 generalize nq = n1 at *
 go_wp2_with fail
 refine (HAa.out _ (dN_b w4 n1)).mono ?_
 rintro e w5 ⟨aa, an, ac, rfl, hRa, hb5⟩
 have HB5 : Hid (Below w4.heap.size w4 w5) := (dN_b w4 n1).trans (hb5.mono (dN_b w4 n1).size)
 have HRa5 : Hid (RowAt w5 (.slice aa an ac) (argsL a)) := hRa
 clear HAa hb5 hRa
 go_wp2_with fail
 refine (HAb.out _ HB5.out).mono ?_
 rintro e w6 ⟨ba, bn, bc, rfl, hRb, hb6⟩
 obtain ⟨q, hq⟩ : ∃ q, (argsL a).length = q := ⟨_, rfl⟩
 have HRR : Hid (RowAt w6 (.slice aa an ac) (argsL a) ∧ RowAt w6 (.slice ba bn bc) (argsL b)) := ⟨HRa5.out.below hb6, hRb⟩
 have HLL : Hid ((argsL a).length = q ∧ (argsL b).length = q ∧ 0 < q ∧ q ≤ 8) := ⟨hq, by rw [← HLk.out]; exact hq, by rw [← hq]; exact HP0.out, by rw [← hq]; exact HA8.out⟩
 obtain rfl : an = q := by
  obtain ⟨_, _, e⟩ := HRR.out.1.form
  simp only [Value.slice.injEq] at e
  rw [← hq]; exact e.2.1
 obtain rfl : bn = an := by
  obtain ⟨_, _, e⟩ := HRR.out.2.form
  simp only [Value.slice.injEq] at e
  rw [e.2.1]; exact HLL.out.2.1
 have HB6 : Hid (Below w4.heap.size w4 w6) := HB5.out.trans (hb6.mono HB5.out.size)
 have HGs6 : Hid (Gs w w6 g1 o1 xc g2 o2 yc a b) := HGs.out.low HB6.out
 have hq8 : bn ≤ 8 := HLL.out.2.2.2
 have HI0 : Hid (Pd w w6.heap.size w6 (partsL (argsL a) (argsL b)) (.slice none 0 0) [] 0) := ⟨World.ownsRow_nil _ _ _ _, rfl, fun i y l h => by simp at h, HGs6.out.ft⟩
 clear HAb hb6 hRb hq HRa5 HP0 HA8 HLk p0 p1 p2 p3 p4 q0 q1 q2 q3 q4 s0 s1 s2 s3 s4 f0 f1 f2 f3 f4 hn hla hlb HNN
 go_wp2_with fail
 obtain ⟨i0, hi, hz, hs1, hby1⟩ := infoT
 go_loopw [11, 12] (fun zv iv wr => ∃ (k : Nat) (vs : List Value) (pa : Option Addr) (pc : Nat), k ≤ bn ∧ zv = .slice pa k pc ∧ iv = .int .i64 k ∧ Hid (Pd w w6.heap.size wr (partsL (argsL a) (argsL b)) (.slice pa k pc) vs k ∧ Below w6.heap.size w6 wr ∧ ∀ j (_ : j < (argsL a).length) (_ : j < (argsL b).length), j < k → makeE eqS [(argsL a)[j], (argsL b)[j]] = 0)) (fun _ iv _ => bn - (intOf iv).toNat)
 case atStart => exact ⟨0, [], none, 0, Nat.zero_le _, rfl, rfl, HI0.out, Below.refl _ _, fun j _ _ h => by omega⟩
 case round =>
  obtain ⟨k, vs, pa, pc, hk, rfl, rfl, HK⟩ := hrel
  obtain ⟨⟨s0, s1, s2, s3, s4⟩, sf⟩ := HK.out.1.ft.cells
  have f0 := sf 0
  have f1 := sf 1
  have f2 := sf 2
  have f3 := sf 3
  have f4 := sf 4
  clear sf
  by_cases hlt : k < bn
  ·have hltI : (k : Int) < (bn : Int) := by omega
   have hk0 : (0 : Int) ≤ (k : Int) := by omega
   have hx : k < (argsL a).length := by rw [HLL.out.1]; exact hlt
   have hy : k < (argsL b).length := by rw [HLL.out.2.1]; exact hlt
   obtain ⟨b1, z1, y1, u, ea, hbl1, cu, hTu⟩ := row_at (HRR.out.1.below HK.out.2.1) k hx
   obtain ⟨b2, z2, y2, v, eb, hbl2, cv, hTv⟩ := row_at (HRR.out.2.below HK.out.2.1) k hy
   simp only [Value.slice.injEq] at ea eb
   obtain ⟨rfl, hh1, rfl⟩ := ea
   obtain ⟨rfl, hh2, rfl⟩ := eb
   clear hh1 hh2
   obtain ⟨E, hE⟩ : ∃ E, makeE eqS [(argsL a)[k], (argsL b)[k]] = E := ⟨_, rfl⟩
   have HE : Hid (makeE eqS [(argsL a)[k], (argsL b)[k]] = E) := hE
   have HM : ∀ W, Hid (Below wr.heap.size wr W) → Calls Tryz.prog 42 #[.string ⟨#[61]⟩, .slice (some ⟨W.heap.size, 0, none⟩) 2 2] (W.alloc (.cells #[u, v] 24)) fun e w' => ∃ ad n c, e = .returned (.tuple #[.slice ad n c, .int .i64 E]) ∧ Hid (OwnT w' W.heap.size (.slice ad n c) (makeL eqS [(argsL a)[k], (argsL b)[k]]) ∧ Below W.heap.size W w') := fun W hW => by
    have h := r_two (argsL a)[k] (argsL b)[k] u v W (hTu.below hW.out) (hTv.below hW.out)
    refine h.mono ?_
    rintro e w' ⟨ad, n, c, rfl, h1, h2⟩
    exact ⟨ad, n, c, by rw [hE], h1, h2⟩
   obtain ⟨u1, u2, u3, huf⟩ : ∃ a b c, u = .slice a b c := by obtain ⟨a, c, h⟩ := hTu.form; exact ⟨_, _, _, h⟩
   obtain ⟨v1, v2, v3, hvf⟩ : ∃ a b c, v = .slice a b c := by obtain ⟨a, c, h⟩ := hTv.form; exact ⟨_, _, _, h⟩
   subst huf hvf
   have HXY : Hid (k < (argsL a).length ∧ k < (argsL b).length) := ⟨hx, hy⟩
   clear hTu hTv hE
   by_cases h0 : E = 0
   ·subst h0
    go_wp2_with fail
    go_region_with (go_at_call 42; refine (HM _ (Below.drew (Below.refl _ _))).mono ?_; rintro e w7 ⟨ad, n, c, rfl, HO4⟩)
    all_goals (
     have HBw : Hid (Below wr.heap.size wr w7) := (Below.drew (Below.refl _ _)).trans HO4.out.2
     have HBk : Hid (Below wr.heap.size wr (w7.alloc (.cells #[.slice ad n c] 24)) ∧ (w7.alloc (.cells #[.slice ad n c] 24)).ownsRow w6.heap.size 24 1 (.slice pa k pc) k vs ∧ w6.heap.size ≤ (w7.alloc (.cells #[.slice ad n c] 24)).heap.size) := by
      have h1 : Below wr.heap.size wr (w7.alloc (.cells #[.slice ad n c] 24)) := HBw.out.alloc HBw.out.size _
      have h2 := h1.size
      have h3 := HK.out.2.1.size
      exact ⟨h1, owns_below' HK.out.1.own h1, by omega⟩
     have HOn : Hid (OwnT (w7.alloc (.cells #[.slice ad n c] 24)) w6.heap.size (.slice ad n c) (makeL eqS [(argsL a)[k]'HXY.out.1, (argsL b)[k]'HXY.out.2])) := owns_below' (ownT_base HO4.out.1 (by have h3 := HK.out.2.1.size; simpa using h3)) ((Below.refl _ _).alloc (Nat.le_refl _) _)
     clear HO4 HM cu cv s0 s1 s2 s3 s4 f0 f1 f2 f3 f4 HBw
     go_wp2_with (at_builtin; refine wpList_append_own _ rfl _ _ 33 rfl w6.heap.size 24 i0 _ 1 24 Tryz.underlying33 hi hz hs1 hby1 rfl (by decide) _ _ _ rfl HBk.out.2.1 ⟨w7.heap.size, 0, none⟩ 1 1 [.slice ad n c] rfl rfl (fun j u hu => by rw [Addr.add_mid, Nat.zero_add, cell_of_row _ w7.heap.size j _ 24 (0, 0) (heap_alloc_new w7 _)]; simpa using hu) (fun u hu => by simp at hu; subst hu; rfl) (by unfold maxLen; omega) (by omega) HBk.out.2.2 ?_)
     intro v' w8 hown hgr _
     obtain ⟨k1, hk1⟩ : ∃ k1, k + 1 = k1 := ⟨_, rfl⟩
     obtain ⟨la', lc', rfl, HF⟩ : ∃ la' lc', v' = .slice la' k1 lc' ∧ Hid (Pd w w6.heap.size w8 (partsL (argsL a) (argsL b)) (.slice la' k1 lc') (vs ++ [.slice ad n c]) k1 ∧ Below w6.heap.size w6 w8 ∧ ∀ j (_ : j < (argsL a).length) (_ : j < (argsL b).length), j < k1 → makeE eqS [(argsL a)[j], (argsL b)[j]] = 0) := by
      obtain ⟨a', c', e, _⟩ := own_sl hown
      subst e
      refine ⟨a', c', by rw [hk1], ?_, ?_, ?_⟩
      ·rw [← hk1]
       exact HK.out.1.put HBk.out.1 (by have h1 := HGs6.out.ft.size; simp at h1; omega) HK.out.2.1.size HOn.out (parts_get HXY.out.1 HXY.out.2) hown hgr (fun g hg => hg)
      ·exact (HK.out.2.1.trans (HBk.out.1.mono HK.out.2.1.size)).grown hgr HBk.out.2.2 (fun g hg => (World.ownsRow.lt HBk.out.2.1 g hg).1)
      ·intro j h1 h2 h3
       by_cases e : j = k
       ·subst e; exact HE.out
       ·exact HK.out.2.2 j h1 h2 (by omega)
     clear hown hgr HK HBk HOn
     go_wp2_with fail
     go_roundw
     case rel => exact ⟨k1, _, la', lc', by omega, rfl, by rw [← hk1]; go_num, HF⟩
     case measure => simp [intOf]; omega)
   ·have h0b : (E != 0) = true := by simpa using h0
    go_wp2_with fail
    go_region_with (go_at_call 42; refine (HM _ (Below.drew (Below.refl _ _))).mono ?_; rintro e w7 ⟨ad, n, c, rfl, HO4⟩)
    all_goals (
     have HBw : Hid (Below wr.heap.size wr w7) := (Below.drew (Below.refl _ _)).trans HO4.out.2
     have HF7 : Hid (Below w4.heap.size w4 w7) := HB6.out.trans ((HK.out.2.1.trans (HBw.out.mono HK.out.2.1.size)).mono HB6.out.size)
     have HKK : Hid (stK a b = 4) := by
      have h := HK5.out
      rw [parts_no HXY.out.1 HXY.out.2 (by rw [HE.out]; exact h0)] at h
      exact h
     clear s0 s1 s2 s3 s4 f0 f1 f2 f3 f4
     obtain ⟨⟨s0, s1, s2, s3, s4⟩, sf⟩ := (HGs.out.low HF7.out).ft.cells
     have f0 := sf 0
     have f1 := sf 1
     have f2 := sf 2
     have f3 := sf 3
     have f4 := sf 4
     clear sf HO4 HK HM cu cv HBw
     go_wp2_with fail
     exact bodyPost_ret (v := .agg #[.int .i64 4, .int .i64 0, .int .i64 0, .slice none 0 0, .slice none 0 0]) (by simp [results, Tryz.results12, go_sem, s0, s1, s2, s3, s4]) rfl (HPl.out _ HF7.out 4 HKK.out (by decide) (by decide) _ _ _ _ _))
  ·have hltI : ¬ (k : Int) < (bn : Int) := by omega
   obtain rfl : k = bn := by omega
   have HYes : Hid (partsB (argsL a) (argsL b) = true) := parts_yes fun j h1 h2 => HK.out.2.2 j h1 h2 (by rw [HLL.out.1] at h1; exact h1)
   have HKK : Hid (stK a b = 3) := by
    have h := HK5.out
    rw [HYes.out] at h
    exact h
   have HR : Hid (∀ x y z u v, SdPost m l1 l2 (.returned (.agg #[.int .i64 3, .int .i64 0, .int .i64 0, .slice none 0 0, .slice pa k pc])) w (put49 wr w.heap.size x y z u v)) := fun x y z u v => by
    obtain ⟨e1, e2, e3⟩ := u_of3 HKK.out
    refine ⟨a, b, HAB.out.1, HAB.out.2, HGs.out.ra, HGs.out.rb, ?_⟩
    rw [HKK.out, e1, e2, e3]
    exact stR_part HK.out.1 (by rw [parts_len _ _ (by rw [HLL.out.1, HLL.out.2.1]), HLL.out.1]) HLL.out.2.2.1 (by unfold maxLen; omega) (parts_right HYes.out (by rw [HLL.out.1, HLL.out.2.1])) _ _ _ _ _
   clear HK
   go_wp2_with fail
   exact bodyPost_ret (v := .agg #[.int .i64 3, .int .i64 0, .int .i64 0, .slice none 0 0, .slice pa k pc]) (by simp [results, Tryz.results12, go_sem, s0, s1, s2, s3, s4]) rfl (HR.out _ _ _ _ _)
/-- The document's Step, of sides that are global. -/
theorem r12 (m : Hp) (p : Option Addr) (l1 l2 : List C) (v1 v2 : Value) (w : World) (hD : DerQ w (.pointer p) m) (hT1 : TermAt w v1 l1) (hT2 : TermAt w v2 l2) (hW1 : ∀ c ∈ l1, wfN (c.vn, c.vk)) (hW2 : ∀ c ∈ l2, wfN (c.vn, c.vk)) (hg1 : globalB l1 = true) (hg2 : globalB l2 = true) (hm : ∀ x l, lookH m x = some l → l.length * 48 ≤ 140737488355328 ∧ l ≠ [] ∧ rightB l = true) :
  Calls Tryz.prog 12 #[.pointer p, v1, v2] w fun e w' => SdPost m l1 l2 e w w' := by
 by_cases h : ∃ a b, IsFol m l1 a ∧ IsFol m l2 b ∧ (eqC (hdC a) (hdC b) && ((hdC a).k == 3)) = true
 ·obtain ⟨a, b, h1, h2, h3⟩ := h
  exact r12_parts m p l1 l2 v1 v2 w hD hT1 hT2 hW1 hW2 hg1 hg2 hm fun a' b' k1 k2 => by
   obtain rfl := k1.uniq h1
   obtain rfl := k2.uniq h2
   exact h3
 ·exact r12_plain m p l1 l2 v1 v2 w hD hT1 hT2 hW1 hW2 hg1 hg2 hm fun a' b' k1 k2 => by
   cases he : (eqC (hdC a') (hdC b') && ((hdC a').k == 3))
   ·rfl
   ·exact absurd ⟨a', b', k1, k2, he⟩ h
end Go.Proofs.YtljggjllijacjaaGreatDoor
