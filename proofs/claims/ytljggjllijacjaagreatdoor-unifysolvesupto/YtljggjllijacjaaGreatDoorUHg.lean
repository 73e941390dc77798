/- Contract of the document's Step: the branches. -/
import Derived.Test.YtljggjllijacjaaGreatDoorUGg
namespace Go.Proofs.YtljggjllijacjaaGreatDoor
open Go.RowKit
attribute [local go_sem ↓] Go.wp_at_zero Go.wp_at_succ
theorem u_of1 {a b : List C} {k : Int} (h : stK a b = k) (h2 : k ≠ 2) (h3 : k ≠ 3) : uV a b = (0, 0) ∧ uT a b = [] ∧ uP a b = [] := by
  unfold uV uT uP
  rw [if_neg (by rw [h]; exact h2), if_neg (by rw [h]; exact h2), if_neg (by rw [h]; exact h3)]
  exact ⟨rfl, rfl, rfl⟩
theorem u_of2 {a b : List C} (h : stK a b = 2) : uV a b = stV a b ∧ uT a b = stT a b ∧ uP a b = [] := by
  unfold uV uT uP
  rw [if_pos h, if_pos h, if_neg (by rw [h]; decide)]
  exact ⟨rfl, rfl, rfl⟩
theorem u_of3 {a b : List C} (h : stK a b = 3) : uV a b = (0, 0) ∧ uT a b = [] ∧ uP a b = partsL (argsL a) (argsL b) := by
  unfold uV uT uP
  rw [if_neg (by rw [h]; decide), if_neg (by rw [h]; decide), if_pos h]
  exact ⟨rfl, rfl, rfl⟩
theorem stR_bind {w wr : World} (h : Ft w wr) {ta : Option Addr} {tn tc : Nat} {T : List C} (hT : TermAt wr (.slice ta tn tc) T) (hl : T ≠ []) (x y : Int) (a b c d e : Value) : StR 2 (x, y) T [] (.returned (.agg #[.int .i64 2, .int .i64 x, .int .i64 y, .slice ta tn tc, .slice none 0 0])) w (put49 wr w.heap.size a b c d e) :=
  ⟨ta, tn, tc, none, 0, 0, rfl, h.term hT hl _ _ _ _ _, row_nil _, put49_bel h.bel (Nat.le_refl _) a b c d e⟩
/-- What the document's Step tells, of the ends of both ways. -/
def SdPost (m : Hp) (l1 l2 : List C) (e : Ending) (w w' : World) : Prop := ∃ a b, IsFol m l1 a ∧ IsFol m l2 b ∧ rightB a = true ∧ rightB b = true ∧ StR (stK a b) (uV a b) (uT a b) (uP a b) e w w'
theorem sd_plain {m : Hp} {l1 l2 a b : List C} {w wr : World} (h1 : IsFol m l1 a) (h2 : IsFol m l2 b) (h3 : rightB a = true) (h4 : rightB b = true) (h : Ft w wr) (k : Int) (hk : stK a b = k) (k2 : k ≠ 2) (k3 : k ≠ 3) (x y z u v : Value) : SdPost m l1 l2 (.returned (.agg #[.int .i64 k, .int .i64 0, .int .i64 0, .slice none 0 0, .slice none 0 0])) w (put49 wr w.heap.size x y z u v) := by
  obtain ⟨e1, e2, e3⟩ := u_of1 hk k2 k3
  refine ⟨a, b, h1, h2, h3, h4, ?_⟩
  rw [hk, e1, e2, e3]
  exact stR_plain h k _ _ _ _ _
theorem sd_bind {m : Hp} {l1 l2 a b : List C} {w wr : World} (h1 : IsFol m l1 a) (h2 : IsFol m l2 b) (h3 : rightB a = true) (h4 : rightB b = true) (h : Ft w wr) (hk : stK a b = 2) {i j : Int} {T : List C} (hv : stV a b = (i, j)) (ht : stT a b = T) {ta : Option Addr} {tn tc : Nat} (hT : TermAt wr (.slice ta tn tc) T) (hl : T ≠ []) (x y z u v : Value) : SdPost m l1 l2 (.returned (.agg #[.int .i64 2, .int .i64 i, .int .i64 j, .slice ta tn tc, .slice none 0 0])) w (put49 wr w.heap.size x y z u v) := by
  obtain ⟨e1, e2, e3⟩ := u_of2 hk
  refine ⟨a, b, h1, h2, h3, h4, ?_⟩
  rw [hk, e1, e2, e3, hv, ht]
  exact stR_bind h hT hl i j _ _ _ _ _
set_option maxRecDepth 100000 in
set_option maxHeartbeats 4000000 in
theorem r12_plain (m : Hp) (p : Option Addr) (l1 l2 : List C) (v1 v2 : Value) (w : World) (hD : DerQ w (.pointer p) m) (hT1 : TermAt w v1 l1) (hT2 : TermAt w v2 l2) (hW1 : ∀ c ∈ l1, wfN (c.vn, c.vk)) (hW2 : ∀ c ∈ l2, wfN (c.vn, c.vk)) (hg1 : globalB l1 = true) (hg2 : globalB l2 = true) (hm : ∀ x l, lookH m x = some l → l.length * 48 ≤ 140737488355328 ∧ l ≠ [] ∧ rightB l = true) (hns : ∀ a b, IsFol m l1 a → IsFol m l2 b → (eqC (hdC a) (hdC b) && ((hdC a).k == 3)) = false) :
    Calls Tryz.prog 12 #[.pointer p, v1, v2] w fun e w' => SdPost m l1 l2 e w w' := by
  have hr1 := global_right hg1
  have hr2 := global_right hg2
  have hn1 : l1 ≠ [] := fun e => by rw [e] at hr1; simp [rightB] at hr1
  have hn2 : l2 ≠ [] := fun e => by rw [e] at hr2; simp [rightB] at hr2
  have HG1 : Hid (∀ W, Below w.heap.size w W → Calls Tryz.prog 44 #[v1] W fun e w' => e = .returned (.bool true) ∧ Below W.heap.size W w') := fun W hW => by
    have h := c37 l1 v1 W (hT1.below hW)
    rw [← global_same, hg1] at h; exact h
  have HG2 : Hid (∀ W, Below w.heap.size w W → Calls Tryz.prog 44 #[v2] W fun e w' => e = .returned (.bool true) ∧ Below W.heap.size W w') := fun W hW => by
    have h := c37 l2 v2 W (hT2.below hW)
    rw [← global_same, hg2] at h; exact h
  have HD1 : Hid (∀ W, Below w.heap.size w W → Calls Tryz.prog 45 #[.pointer p, v1] W fun e w' => ∃ x n c a, e = .returned (.slice x n c) ∧ IsFol m l1 a ∧ rightB a = true ∧ Below W.heap.size W w' ∧ TermAt w' (.slice x n c) a) := fun W hW => (hD W l1 v1 hW (hT1.below hW) hW1 hn1).mono fun e w' ⟨x, n, c, a, k1, k2, k3, k4⟩ => ⟨x, n, c, a, k1, k3, fol_right k3.1 hm hr1, k4, k2⟩
  have HD2 : Hid (∀ W, Below w.heap.size w W → Calls Tryz.prog 45 #[.pointer p, v2] W fun e w' => ∃ x n c a, e = .returned (.slice x n c) ∧ IsFol m l2 a ∧ rightB a = true ∧ Below W.heap.size W w' ∧ TermAt w' (.slice x n c) a) := fun W hW => (hD W l2 v2 hW (hT2.below hW) hW2 hn2).mono fun e w' ⟨x, n, c, a, k1, k2, k3, k4⟩ => ⟨x, n, c, a, k1, k3, fol_right k3.1 hm hr2, k4, k2⟩
  have HF0 : Hid (Ft w (w.alloc (.cells #[.int .i64 0, .int .i64 0, .int .i64 0, .slice none 0 0, .slice none 0 0] 40))) := by
    show Below _ _ _
    exact Below.refl _ _
  obtain ⟨a0, c0, hf⟩ := hT1.form
  subst hf
  obtain ⟨b0, d0, hf⟩ := hT2.form
  subst hf
  clear hD hT1 hT2 hW1 hW2 hg1 hg2 hm hr1 hr2 hn1 hn2
  go_enter Tryz.func12, Tryz.ntmps12
  go_wp2_with fail
  refine (HG1.out _ HF0.out.bel).mono ?_
  rintro e w1 ⟨rfl, hb1⟩
  have HF1 : Hid (Ft w w1) := HF0.out.low hb1
  clear HG1 hb1 HF0
  go_wp2_with fail
  refine (HG2.out _ HF1.out.bel).mono ?_
  rintro e w2 ⟨rfl, hb2⟩
  have HF2 : Hid (Ft w w2) := HF1.out.low hb2
  clear HG2 hb2 HF1
  go_wp2_with fail
  refine (HD1.out _ HF2.out.bel).mono ?_
  rintro e w3 ⟨xa, xn, xc, a, rfl, hFa, hra, hb3, hTa⟩
  have HF3 : Hid (Ft w w3) := HF2.out.low hb3
  have HTa : Hid (TermAt w3 (.slice xa xn xc) a) := hTa
  clear HD1 hb3 HF2 hTa
  go_wp2_with fail
  refine (HD2.out _ HF3.out.bel).mono ?_
  rintro e w4 ⟨ya, yn, yc, b, rfl, hFb, hrb, hb4, hTb⟩
  have hna : a ≠ [] := fun e => by rw [e] at hra; simp [rightB] at hra
  have hnb : b ≠ [] := fun e => by rw [e] at hrb; simp [rightB] at hrb
  obtain ⟨g1, o1, c1, e1, _⟩ := term_at HTa.out hna
  obtain ⟨g2, o2, c2, e2, _⟩ := term_at hTb hnb
  cases e1
  cases e2
  have HGs : Hid (Gs w w4 g1 o1 xc g2 o2 yc a b) := ⟨HF3.out.low hb4, HTa.out.below hb4, hTb, hra, hrb⟩
  have HAB : Hid (IsFol m l1 a ∧ IsFol m l2 b) := ⟨hFa, hFb⟩
  have hla : (0 : Int) < (a.length : Int) := by have := List.length_pos_iff.2 hna; omega
  have hlb : (0 : Int) < (b.length : Int) := by have := List.length_pos_iff.2 hnb; omega
  have HNN : Hid (a ≠ [] ∧ b ≠ []) := ⟨hna, hnb⟩
  obtain ⟨⟨p0, p1, p2, p3, p4⟩, q0, q1, q2, q3, q4⟩ := HGs.out.cells
  obtain ⟨⟨s0, s1, s2, s3, s4⟩, sf⟩ := HGs.out.ft.cells
  have f0 := sf 0
  have f1 := sf 1
  have f2 := sf 2
  have f3 := sf 3
  have f4 := sf 4
  have HN : Hid (∀ W : World, (binOp .neq 78 (.agg #[.int .u8 (hdC a).k, .string (hdC a).t, .int .i64 (hdC a).n, .int .i64 (hdC a).vn, .int .i64 (hdC a).vk]) (.agg #[.int .u8 (hdC b).k, .string (hdC b).t, .int .i64 (hdC b).n, .int .i64 (hdC b).vn, .int .i64 (hdC b).vk])).run Tryz.prog W = .ok (.bool (!eqC (hdC a) (hdC b))) W) := fun W => neq60 _ _ _ _ _ _ _ _ _ _ W
  have HN32 : Hid (∀ W : World, (binOp .eql 32 (.agg #[.int .i64 (hdC a).vn, .int .i64 (hdC a).vk]) (.agg #[.int .i64 (hdC b).vn, .int .i64 (hdC b).vk])).run Tryz.prog W = .ok (.bool ((hdC a).vn == (hdC b).vn && (hdC a).vk == (hdC b).vk)) W) := fun W => eq32 _ _ _ _ W
  have HLs : Hid (∀ W, Calls Tryz.prog 28 #[.agg #[.int .i64 (hdC a).vn, .int .i64 (hdC a).vk], .agg #[.int .i64 (hdC b).vn, .int .i64 (hdC b).vk]] W fun e w' => e = .returned (.bool (lessB (hdC a).vn (hdC a).vk (hdC b).vn (hdC b).vk)) ∧ Below W.heap.size W w') := fun W => c41 _ _ _ _ W
  have HK : Hid (stK a b = if eqC (hdC a) (hdC b) then (if (hdC a).k == 3 then (if partsB (argsL a) (argsL b) then 3 else 4) else 1) else if bindsFst a b || isV b then 2 else 4) := rfl
  have HK2 : Hid (bindsFst a b = (isV a && !(isV b && lessB (hdC a).vn (hdC a).vk (hdC b).vn (hdC b).vk))) := rfl
  have HK3 : Hid (stV a b = if bindsFst a b then ((hdC a).vn, (hdC a).vk) else ((hdC b).vn, (hdC b).vk)) := rfl
  have HK4 : Hid (stT a b = if bindsFst a b then b else a) := rfl
  have HS : Hid ((eqC (hdC a) (hdC b) && ((hdC a).k == 3)) = false) := hns a b hFa hFb
  have HV : Hid (isV a = ((hdC a).k == 4) ∧ isV b = ((hdC b).k == 4)) := ⟨rfl, rfl⟩
  have HEV : Hid (((hdC a).k == 4) = true → ((hdC b).k == 4) = true → eqC (hdC a) (hdC b) = ((hdC a).vn == (hdC b).vn && (hdC a).vk == (hdC b).vk)) := eq_vars hra hrb
  have HPl : Hid (∀ (W : World), Below w4.heap.size w4 W → ∀ (k : Int), stK a b = k → k ≠ 2 → k ≠ 3 → ∀ x y z u v, SdPost m l1 l2 (.returned (.agg #[.int .i64 k, .int .i64 0, .int .i64 0, .slice none 0 0, .slice none 0 0])) w (put49 W w.heap.size x y z u v)) := fun W hW k hk k2 k3 x y z u v => sd_plain HAB.out.1 HAB.out.2 hra hrb (HGs.out.low hW).ft k hk k2 k3 x y z u v
  have HBd : Hid (∀ (W : World), Below w4.heap.size w4 W → stK a b = 2 → ∀ x y z u v, (bindsFst a b = true → SdPost m l1 l2 (.returned (.agg #[.int .i64 2, .int .i64 (hdC a).vn, .int .i64 (hdC a).vk, .slice (some ⟨g2, o2, none⟩) b.length yc, .slice none 0 0])) w (put49 W w.heap.size x y z u v)) ∧ (bindsFst a b = false → SdPost m l1 l2 (.returned (.agg #[.int .i64 2, .int .i64 (hdC b).vn, .int .i64 (hdC b).vk, .slice (some ⟨g1, o1, none⟩) a.length xc, .slice none 0 0])) w (put49 W w.heap.size x y z u v))) := fun W hW hk x y z u v =>
    ⟨fun hf => sd_bind HAB.out.1 HAB.out.2 hra hrb (HGs.out.low hW).ft hk (by rw [HK3.out, if_pos hf]) (by rw [HK4.out, if_pos hf]) (HGs.out.low hW).tb hnb x y z u v,
     fun hf => sd_bind HAB.out.1 HAB.out.2 hra hrb (HGs.out.low hW).ft hk (by rw [HK3.out, hf]; rfl) (by rw [HK4.out, hf]; rfl) (HGs.out.low hW).ta hna x y z u v⟩
  rw [HV.out.1, HV.out.2] at HK2
  rw [HV.out.2] at HK
  obtain ⟨⟨ck, ct, cn, cx, cy⟩, hca⟩ : ∃ c, hdC a = c := ⟨_, rfl⟩
  obtain ⟨⟨dk, dt, dn, dx, dy⟩, hcb⟩ : ∃ c, hdC b = c := ⟨_, rfl⟩
  rw [hca] at HS HK HK2 HN HN32 HLs HEV HBd p0 p1 p2 p3 p4
  rw [hcb] at HS HK HK2 HN HN32 HLs HEV HBd q0 q1 q2 q3 q4
  simp only at p0 p1 p2 p3 p4 q0 q1 q2 q3 q4
  clear hns HK3 HK4 HV hFa hFb hra hrb hna hnb sf HD2 hb4 HF3 hTb HTa
  cases hva : (ck == 4)
  · cases hvb : (dk == 4)
    · have hn := HN.out
      have HK5 : Hid (stK a b = if eqC ⟨ck, ct, cn, cx, cy⟩ ⟨dk, dt, dn, dx, dy⟩ = true then (if (ck == 3) = true then (if partsB (argsL a) (argsL b) = true then 3 else 4) else 1) else 4) := by
        have h := HK.out
        rw [hvb] at h
        have hbf : bindsFst a b = false := by
          rw [HK2.out, hva]; rfl
        rw [hbf] at h
        exact h
      clear HK HK2 HN HN32 HEV HBd HLs
      cases hq : eqC ⟨ck, ct, cn, cx, cy⟩ ⟨dk, dt, dn, dx, dy⟩
      · rw [hq] at hn HK5
        have HKK : Hid (stK a b = 4) := by
          have h := HK5.out
          exact (by simpa using h : stK a b = 4)
        clear HK5 HS hq
        go_wp2_with fail
        go_quiet (fail)
        generalize nq = n1 at *
        go_wp2_with fail
        exact bodyPost_ret (v := .agg #[.int .i64 4, .int .i64 0, .int .i64 0, .slice none 0 0, .slice none 0 0]) (by simp [results, Tryz.results12, go_sem, s0, s1, s2, s3, s4]) rfl (HPl.out _ (dN_b w4 n1) 4 HKK.out (by decide) (by decide) _ _ _ _ _)
      · have hk3 : (ck == 3) = false := by
          have h := HS.out
          rw [hq] at h
          exact (by simpa using h : (ck == 3) = false)
        rw [hq] at hn HK5
        have HKK : Hid (stK a b = 1) := by
          have h := HK5.out
          rw [hk3] at h
          exact (by simpa using h : stK a b = 1)
        have hk3' : (ck != 3) = true := by rw [bne, hk3]; rfl
        clear HK5 HS hq
        go_wp2_with fail
        go_quiet (fail)
        generalize nq = n1 at *
        go_wp2_with fail
        exact bodyPost_ret (v := .agg #[.int .i64 1, .int .i64 0, .int .i64 0, .slice none 0 0, .slice none 0 0]) (by simp [results, Tryz.results12, go_sem, s0, s1, s2, s3, s4]) rfl (HPl.out _ (dN_b w4 n1) 1 HKK.out (by decide) (by decide) _ _ _ _ _)
    · have HKK : Hid (stK a b = 2) := by
        have h := HK.out
        rw [eq_kinds (a := ⟨ck, ct, cn, cx, cy⟩) (b := ⟨dk, dt, dn, dx, dy⟩) (by
          show (ck == dk) = false
          have h4 : dk = 4 := by simpa using hvb
          rw [h4]; exact hva), hvb] at h
        exact (by simpa using h : stK a b = 2)
      have hbf : bindsFst a b = false := by
        rw [HK2.out, hva]; rfl
      have HBf : Hid (bindsFst a b = false) := hbf
      clear HK HK2 HN HN32 HEV HPl HLs HS hbf
      go_wp2_with fail
      exact bodyPost_ret (v := .agg #[.int .i64 2, .int .i64 dx, .int .i64 dy, .slice (some ⟨g1, o1, none⟩) a.length xc, .slice none 0 0]) (by simp [results, Tryz.results12, go_sem, s0, s1, s2, s3, s4]) rfl ((HBd.out _ (Below.refl _ _) HKK.out _ _ _ _ _).2 HBf.out)
  · cases hvb : (dk == 4)
    · have hbf : bindsFst a b = true := by
        rw [HK2.out, hva, hvb]; rfl
      have HKK : Hid (stK a b = 2) := by
        have h := HK.out
        rw [eq_kinds (a := ⟨ck, ct, cn, cx, cy⟩) (b := ⟨dk, dt, dn, dx, dy⟩) (by
          show (ck == dk) = false
          have h4 : ck = 4 := by simpa using hva
          rw [h4, Bool.beq_comm]; exact hvb), hbf] at h
        exact (by simpa using h : stK a b = 2)
      have HBf : Hid (bindsFst a b = true) := hbf
      clear HK HK2 HN HN32 HEV HPl HLs HS hbf
      go_wp2_with fail
      exact bodyPost_ret (v := .agg #[.int .i64 2, .int .i64 cx, .int .i64 cy, .slice (some ⟨g2, o2, none⟩) b.length yc, .slice none 0 0]) (by simp [results, Tryz.results12, go_sem, s0, s1, s2, s3, s4]) rfl ((HBd.out _ (Below.refl _ _) HKK.out _ _ _ _ _).1 HBf.out)
    · have hq := HEV.out hva hvb
      rw [hq] at HK
      have h32 := HN32.out
      rw [hva, hvb] at HK2
      cases hnn : (cx == dx && cy == dy)
      · rw [hnn] at h32 HK
        have HKK : Hid (stK a b = 2) := by
          have h := HK.out
          rw [hvb] at h
          exact (by simpa using h : stK a b = 2)
        clear HK HN HN32 HEV HPl hq hnn
        go_wp2_with fail
        go_quiet (fail)
        generalize nq = n1 at *
        go_wp2_with fail
        clear h32
        go_region_with (go_at_call 28; refine (HLs.out _).mono ?_; rintro e w5 ⟨rfl, hb5⟩)
        all_goals (
          have HB5 : Hid (Below w4.heap.size w4 w5) := by
            refine Below.trans ?_ (hb5.mono ?_)
            · first | exact dN_b w4 n1 | exact (dN_b w4 n1).drew | exact ((dN_b w4 n1).drew).drew
            · first | exact (dN_b w4 n1).size | exact ((dN_b w4 n1).drew).size
          obtain ⟨⟨z0, z1, z2, z3, z4⟩, zf⟩ := (HGs.out.low HB5.out).ft.cells
          obtain ⟨⟨t0, t1, t2, t3, t4⟩, r0, r1, r2, r3, r4⟩ := (HGs.out.low HB5.out).cells
          have e0 := zf 0
          have e1 := zf 1
          have e2 := zf 2
          have e3 := zf 3
          have e4 := zf 4
          clear zf hb5 s0 s1 s2 s3 s4 f0 f1 f2 f3 f4 p0 p1 p2 p3 p4 q0 q1 q2 q3 q4
          rw [hca] at t0 t1 t2 t3 t4
          rw [hcb] at r0 r1 r2 r3 r4
          simp only at t0 t1 t2 t3 t4 r0 r1 r2 r3 r4
          cases hle : lessB cx cy dx dy
          · have hbf : bindsFst a b = true := by
              have h := HK2.out
              rw [hle] at h
              exact h
            go_wp2_with fail
            exact bodyPost_ret (v := .agg #[.int .i64 2, .int .i64 cx, .int .i64 cy, .slice (some ⟨g2, o2, none⟩) b.length yc, .slice none 0 0]) (by simp [results, Tryz.results12, go_sem, z0, z1, z2, z3, z4]) rfl ((HBd.out _ HB5.out HKK.out _ _ _ _ _).1 hbf)
          · have hbf : bindsFst a b = false := by
              have h := HK2.out
              rw [hle] at h
              exact h
            go_wp2_with fail
            exact bodyPost_ret (v := .agg #[.int .i64 2, .int .i64 dx, .int .i64 dy, .slice (some ⟨g1, o1, none⟩) a.length xc, .slice none 0 0]) (by simp [results, Tryz.results12, go_sem, z0, z1, z2, z3, z4]) rfl ((HBd.out _ HB5.out HKK.out _ _ _ _ _).2 hbf))
      · rw [hnn] at h32 HK
        have HKK : Hid (stK a b = 1) := by
          have h := HK.out
          have hk3 : (ck == 3) = false := by
            have : ck = 4 := by simpa using hva
            simp [this]
          rw [hk3] at h
          exact (by simpa using h : stK a b = 1)
        clear HK HN HN32 HEV HBd hq hnn
        go_wp2_with fail
        go_quiet (fail)
        generalize nq = n1 at *
        go_wp2_with fail
        exact bodyPost_ret (v := .agg #[.int .i64 1, .int .i64 0, .int .i64 0, .slice none 0 0, .slice none 0 0]) (by simp [results, Tryz.results12, go_sem, s0, s1, s2, s3, s4]) rfl (HPl.out _ (dN_b w4 n1) 1 HKK.out (by decide) (by decide) _ _ _ _ _)
end Go.Proofs.YtljggjllijacjaaGreatDoor
