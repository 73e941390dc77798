/- Contract of the reference's IsGuard. -/
import Derived.Test.YtgknheafkkkjcaaGreatDoorQ23
namespace Go.Proofs.YtgknheafkkkjcaaGreatDoor
open Go.RowKit
set_option maxRecDepth 100000 in
set_option maxHeartbeats 8000000 in
theorem k11_one (l : List C) (v : Value) (w : World) (h : TermAt w v l) (hr : rightB l = true) (hit0 : isTrueS l = false) (n1 : (argsL l).length = 1) :
    Calls Tryz.prog 68 #[v] w fun e w' => e = .returned (.bool (guardS l)) ∧ Below w.heap.size w w' := by
  have H26 := c23 l v w h
  have h1 : 0 < l.length := (right_len hr).1
  rw [hr] at H26
  have HT : Hid (TermAt w v l) := h
  have HG : Hid (guardS l = refGuardA (isTrueS l) (headC l).t.toList (argsL l)) := guard_eq hr
  rw [headC_get h1, hit0] at HG
  have Ht := fun W (hW : Below w.heap.size w W) => c29 l v tTrue 0 W (HT.out.below hW)
  have Ha := fun W (hW : Below w.heap.size w W) => c27 l v W (HT.out.below hW)
  have HSUM : Hid (∀ a ∈ argsL l, ∀ x W, TermAt W x a → Calls Tryz.prog 95 #[x] W fun e w' => e = .returned (.bool (sumAll a)) ∧ Below W.heap.size W w') := fun a ha x W hx => k27 _ a x W (Nat.le_refl _) hx (arg_right hr ha)
  have HSIM : Hid (∀ a ∈ argsL l, ∀ x W, TermAt W x a → Calls Tryz.prog 94 #[x] W fun e w' => e = .returned (.bool (simpleS a)) ∧ Below W.heap.size W w') := fun a ha x W hx => k31 a x W hx (right_len (arg_right hr ha)).1
  have HCL : Hid (∀ W, Below w.heap.size w W → ∃ b o cap, v = .slice (some ⟨b, o, none⟩) l.length cap ∧ W.cell? ⟨b, o + 1, none⟩ = some (.string l[0].t)) := fun W hW => by
    obtain ⟨_, h⟩ := HT.out.below hW
    rcases h with ⟨e, _⟩ | ⟨b, o, cap, e, _, _, h3, _⟩
    · rw [e] at h1; simp at h1
    · obtain ⟨p0, p1, p2, p3, p4⟩ := term_cells h3 0 h1
      simp only [Nat.zero_mul, Nat.add_zero] at p0 p1 p2 p3 p4
      exact ⟨b, o, cap, e, p1⟩
  have h1' : (0 : Int) < (l.length : Int) := by omega
  have hit : isTrueS l = isB l tTrue 0 := rfl
  rw [hit] at hit0
  rw [hit0] at Ht
  simp only [tTrue] at Ht
  clear hr h hit hit0
  generalize l[0] = c at *
  obtain ⟨xa, hxa⟩ : ∃ xa, argsL l = [xa] := by
    match h : argsL l, n1 with
    | [xa], _ => exact ⟨xa, rfl⟩
  have HA : Hid (∀ x W, TermAt W x xa → Calls Tryz.prog 94 #[x] W fun e w' => e = .returned (.bool (simpleS xa)) ∧ Below W.heap.size W w') := fun x W hx => HSIM.out xa (by rw [hxa]; simp) x W hx
  rw [hxa] at Ha HG
  have HG' : Hid (guardS l = (one4 c.t.toList && simpleS xa)) := by
    show guardS l = _
    rw [HG.out]; unfold refGuardA; simp
  clear HSUM HSIM n1 HG hxa
  generalize hga : guardS l = ga at *
  clear hga
  go_enter Tryz.func68, Tryz.ntmps68
  go_wp2_with fail
  refine H26.mono ?_
  rintro e w1 ⟨rfl, hb⟩
  obtain ⟨b, o, cap, rfl, _⟩ := HCL.out _ hb
  go_wp2_with fail
  refine (Ht _ hb).mono ?_
  rintro e w' ⟨rfl, hw'⟩
  obtain rfl := hw'.symm
  go_wp2_with fail
  refine (Ha _ hb).mono ?_
  rintro e w2 ⟨u, rfl, hR, hb2⟩
  have hb2' := hb.trans (hb2.mono hb.size)
  obtain ⟨b', o', cap', hv', p1⟩ := HCL.out _ hb2'
  simp only [Value.slice.injEq, Option.some.injEq, Addr.mk.injEq, and_true, true_and] at hv'
  obtain ⟨⟨rfl, rfl⟩, rfl⟩ := hv'
  obtain ⟨bu, ou, cu, x0, hu, cx0, ht0, hbu⟩ := row_at hR 0 (by simp)
  subst hu
  rw [Nat.add_zero] at cx0
  have H0 := HA.out x0 _ ht0
  clear ht0 hR
  cases q1 : (c.t.toList == [105, 110, 116, 101, 103, 101, 114])
  rotate_left
  · have hS : Hid (ga = simpleS xa) := by
      show ga = _
      rw [HG'.out]; unfold one4; simp only [q1]; simp
    go_wp2_with fail
    refine H0.mono ?_
    rintro e w3 ⟨rfl, hb3⟩
    go_wp2_with fail
    go_ret
    exact ⟨by rw [hS.out]; rfl, hb2'.trans (hb3.mono hb2'.size)⟩
  cases q2 : (c.t.toList == [97, 116, 111, 109])
  rotate_left
  · have hS : Hid (ga = simpleS xa) := by
      show ga = _
      rw [HG'.out]; unfold one4; simp only [q1, q2]; simp
    go_wp2_with fail
    refine H0.mono ?_
    rintro e w3 ⟨rfl, hb3⟩
    go_wp2_with fail
    go_ret
    exact ⟨by rw [hS.out]; rfl, hb2'.trans (hb3.mono hb2'.size)⟩
  cases q3 : (c.t.toList == [99, 111, 109, 112, 111, 117, 110, 100])
  rotate_left
  · have hS : Hid (ga = simpleS xa) := by
      show ga = _
      rw [HG'.out]; unfold one4; simp only [q1, q2, q3]; simp
    go_wp2_with fail
    refine H0.mono ?_
    rintro e w3 ⟨rfl, hb3⟩
    go_wp2_with fail
    go_ret
    exact ⟨by rw [hS.out]; rfl, hb2'.trans (hb3.mono hb2'.size)⟩
  cases q4 : (c.t.toList == [107, 110, 111, 119, 110])
  rotate_left
  · have hS : Hid (ga = simpleS xa) := by
      show ga = _
      rw [HG'.out]; unfold one4; simp only [q1, q2, q3, q4]; simp
    go_wp2_with fail
    refine H0.mono ?_
    rintro e w3 ⟨rfl, hb3⟩
    go_wp2_with fail
    go_ret
    exact ⟨by rw [hS.out]; rfl, hb2'.trans (hb3.mono hb2'.size)⟩
  have hS : Hid (ga = false) := by
    show ga = _
    rw [HG'.out]; unfold one4; simp only [q1, q2, q3, q4]; simp
  go_wp2_with fail
  go_ret
  exact ⟨by rw [hS.out]; rfl, hb2'⟩
set_option maxRecDepth 100000 in
set_option maxHeartbeats 8000000 in
theorem k11_two (l : List C) (v : Value) (w : World) (h : TermAt w v l) (hr : rightB l = true) (hit0 : isTrueS l = false) (n2 : (argsL l).length = 2) :
    Calls Tryz.prog 68 #[v] w fun e w' => e = .returned (.bool (guardS l)) ∧ Below w.heap.size w w' := by
  have H26 := c23 l v w h
  have h1 : 0 < l.length := (right_len hr).1
  rw [hr] at H26
  have HT : Hid (TermAt w v l) := h
  have HG : Hid (guardS l = refGuardA (isTrueS l) (headC l).t.toList (argsL l)) := guard_eq hr
  rw [headC_get h1, hit0] at HG
  have Ht := fun W (hW : Below w.heap.size w W) => c29 l v tTrue 0 W (HT.out.below hW)
  have Ha := fun W (hW : Below w.heap.size w W) => c27 l v W (HT.out.below hW)
  have HSUM : Hid (∀ a ∈ argsL l, ∀ x W, TermAt W x a → Calls Tryz.prog 95 #[x] W fun e w' => e = .returned (.bool (sumAll a)) ∧ Below W.heap.size W w') := fun a ha x W hx => k27 _ a x W (Nat.le_refl _) hx (arg_right hr ha)
  have HSIM : Hid (∀ a ∈ argsL l, ∀ x W, TermAt W x a → Calls Tryz.prog 94 #[x] W fun e w' => e = .returned (.bool (simpleS a)) ∧ Below W.heap.size W w') := fun a ha x W hx => k31 a x W hx (right_len (arg_right hr ha)).1
  have HCL : Hid (∀ W, Below w.heap.size w W → ∃ b o cap, v = .slice (some ⟨b, o, none⟩) l.length cap ∧ W.cell? ⟨b, o + 1, none⟩ = some (.string l[0].t)) := fun W hW => by
    obtain ⟨_, h⟩ := HT.out.below hW
    rcases h with ⟨e, _⟩ | ⟨b, o, cap, e, _, _, h3, _⟩
    · rw [e] at h1; simp at h1
    · obtain ⟨p0, p1, p2, p3, p4⟩ := term_cells h3 0 h1
      simp only [Nat.zero_mul, Nat.add_zero] at p0 p1 p2 p3 p4
      exact ⟨b, o, cap, e, p1⟩
  have h1' : (0 : Int) < (l.length : Int) := by omega
  have hit : isTrueS l = isB l tTrue 0 := rfl
  rw [hit] at hit0
  rw [hit0] at Ht
  simp only [tTrue] at Ht
  clear hr h hit hit0
  generalize l[0] = c at *
  obtain ⟨xa, xb, hxa⟩ : ∃ xa xb, argsL l = [xa, xb] := by
    match h : argsL l, n2 with
    | [xa, xb], _ => exact ⟨xa, xb, rfl⟩
  have HA : Hid (∀ x W, TermAt W x xa → Calls Tryz.prog 94 #[x] W fun e w' => e = .returned (.bool (simpleS xa)) ∧ Below W.heap.size W w') := fun x W hx => HSIM.out xa (by rw [hxa]; simp) x W hx
  have HB : Hid (∀ x W, TermAt W x xb → Calls Tryz.prog 94 #[x] W fun e w' => e = .returned (.bool (simpleS xb)) ∧ Below W.heap.size W w') := fun x W hx => HSIM.out xb (by rw [hxa]; simp) x W hx
  have HA2 : Hid (∀ x W, TermAt W x xa → Calls Tryz.prog 95 #[x] W fun e w' => e = .returned (.bool (sumAll xa)) ∧ Below W.heap.size W w') := fun x W hx => HSUM.out xa (by rw [hxa]; simp) x W hx
  have HB2 : Hid (∀ x W, TermAt W x xb → Calls Tryz.prog 95 #[x] W fun e w' => e = .returned (.bool (sumAll xb)) ∧ Below W.heap.size W w') := fun x W hx => HSUM.out xb (by rw [hxa]; simp) x W hx
  rw [hxa] at Ha HG
  have HG' : Hid (guardS l = if cmp6 c.t.toList then sumAll xa && sumAll xb else if eq2 c.t.toList then simpleS xa && simpleS xb else false) := by
    show guardS l = _
    rw [HG.out]; unfold refGuardA; simp
  clear HSUM HSIM n2 HG hxa
  generalize hga : guardS l = ga at *
  clear hga
  go_enter Tryz.func68, Tryz.ntmps68
  go_wp2_with fail
  refine H26.mono ?_
  rintro e w1 ⟨rfl, hb⟩
  obtain ⟨b, o, cap, rfl, _⟩ := HCL.out _ hb
  go_wp2_with fail
  refine (Ht _ hb).mono ?_
  rintro e w' ⟨rfl, hw'⟩
  obtain rfl := hw'.symm
  go_wp2_with fail
  refine (Ha _ hb).mono ?_
  rintro e w2 ⟨u, rfl, hR, hb2⟩
  have hb2' := hb.trans (hb2.mono hb.size)
  obtain ⟨b', o', cap', hv', p1⟩ := HCL.out _ hb2'
  simp only [Value.slice.injEq, Option.some.injEq, Addr.mk.injEq, and_true, true_and] at hv'
  obtain ⟨⟨rfl, rfl⟩, rfl⟩ := hv'
  obtain ⟨bu, ou, cu, x0, hu, cx0, ht0, hbu⟩ := row_at hR 0 (by simp)
  obtain ⟨bu', ou', cu', x1, hu', cx1, ht1, hbu'⟩ := row_at hR 1 (by simp)
  subst hu
  simp only [Value.slice.injEq, Option.some.injEq, Addr.mk.injEq, and_true, true_and] at hu'
  obtain ⟨⟨rfl, rfl⟩, rfl⟩ := hu'
  rw [Nat.add_zero] at cx0
  have HT0 : Hid (TermAt w2 x0 xa) := ht0
  have HT1 : Hid (TermAt w2 x1 xb) := ht1
  have hbu2 : Hid (bu < w2.heap.size) := hbu
  clear ht0 ht1 hR hbu hbu'
  cases q1 : (c.t.toList == [60])
  rotate_left
  · have hS : Hid (ga = (sumAll xa && sumAll xb)) := by
      show ga = _
      rw [HG'.out]; unfold cmp6 eq2; simp only [q1]; simp
    have H0 := HA2.out x0 _ HT0.out
    have H1 : Hid (∀ W, Below w2.heap.size w2 W → _) := fun W (hW : Below w2.heap.size w2 W) => HB2.out x1 W (HT1.out.below hW)
    go_wp2_with fail
    refine H0.mono ?_
    rintro e w3 ⟨rfl, hb3⟩
    have c1 : w3.cell? ⟨bu, ou + 1, none⟩ = some x1 := (hb3.cell (p := ⟨bu, ou + 1, none⟩) hbu2.out).trans cx1
    have H1' := H1.out _ hb3
    clear H0
    cases hsa : sumAll xa
    · rw [hsa] at hS
      go_wp2_with fail
      go_ret
      exact ⟨by rw [hS.out]; rfl, hb2'.trans (hb3.mono hb2'.size)⟩
    · rw [hsa] at hS
      go_wp2_with fail
      refine H1'.mono ?_
      rintro e w4 ⟨rfl, hb4⟩
      go_wp2_with fail
      go_ret
      exact ⟨by rw [hS.out]; rfl, hb2'.trans ((hb3.trans (hb4.mono hb3.size)).mono hb2'.size)⟩
  cases q2 : (c.t.toList == [61, 60])
  rotate_left
  · have hS : Hid (ga = (sumAll xa && sumAll xb)) := by
      show ga = _
      rw [HG'.out]; unfold cmp6 eq2; simp only [q1, q2]; simp
    have H0 := HA2.out x0 _ HT0.out
    have H1 : Hid (∀ W, Below w2.heap.size w2 W → _) := fun W (hW : Below w2.heap.size w2 W) => HB2.out x1 W (HT1.out.below hW)
    go_wp2_with fail
    refine H0.mono ?_
    rintro e w3 ⟨rfl, hb3⟩
    have c1 : w3.cell? ⟨bu, ou + 1, none⟩ = some x1 := (hb3.cell (p := ⟨bu, ou + 1, none⟩) hbu2.out).trans cx1
    have H1' := H1.out _ hb3
    clear H0
    cases hsa : sumAll xa
    · rw [hsa] at hS
      go_wp2_with fail
      go_ret
      exact ⟨by rw [hS.out]; rfl, hb2'.trans (hb3.mono hb2'.size)⟩
    · rw [hsa] at hS
      go_wp2_with fail
      refine H1'.mono ?_
      rintro e w4 ⟨rfl, hb4⟩
      go_wp2_with fail
      go_ret
      exact ⟨by rw [hS.out]; rfl, hb2'.trans ((hb3.trans (hb4.mono hb3.size)).mono hb2'.size)⟩
  cases q3 : (c.t.toList == [62])
  rotate_left
  · have hS : Hid (ga = (sumAll xa && sumAll xb)) := by
      show ga = _
      rw [HG'.out]; unfold cmp6 eq2; simp only [q1, q2, q3]; simp
    have H0 := HA2.out x0 _ HT0.out
    have H1 : Hid (∀ W, Below w2.heap.size w2 W → _) := fun W (hW : Below w2.heap.size w2 W) => HB2.out x1 W (HT1.out.below hW)
    go_wp2_with fail
    refine H0.mono ?_
    rintro e w3 ⟨rfl, hb3⟩
    have c1 : w3.cell? ⟨bu, ou + 1, none⟩ = some x1 := (hb3.cell (p := ⟨bu, ou + 1, none⟩) hbu2.out).trans cx1
    have H1' := H1.out _ hb3
    clear H0
    cases hsa : sumAll xa
    · rw [hsa] at hS
      go_wp2_with fail
      go_ret
      exact ⟨by rw [hS.out]; rfl, hb2'.trans (hb3.mono hb2'.size)⟩
    · rw [hsa] at hS
      go_wp2_with fail
      refine H1'.mono ?_
      rintro e w4 ⟨rfl, hb4⟩
      go_wp2_with fail
      go_ret
      exact ⟨by rw [hS.out]; rfl, hb2'.trans ((hb3.trans (hb4.mono hb3.size)).mono hb2'.size)⟩
  cases q4 : (c.t.toList == [62, 61])
  rotate_left
  · have hS : Hid (ga = (sumAll xa && sumAll xb)) := by
      show ga = _
      rw [HG'.out]; unfold cmp6 eq2; simp only [q1, q2, q3, q4]; simp
    have H0 := HA2.out x0 _ HT0.out
    have H1 : Hid (∀ W, Below w2.heap.size w2 W → _) := fun W (hW : Below w2.heap.size w2 W) => HB2.out x1 W (HT1.out.below hW)
    go_wp2_with fail
    refine H0.mono ?_
    rintro e w3 ⟨rfl, hb3⟩
    have c1 : w3.cell? ⟨bu, ou + 1, none⟩ = some x1 := (hb3.cell (p := ⟨bu, ou + 1, none⟩) hbu2.out).trans cx1
    have H1' := H1.out _ hb3
    clear H0
    cases hsa : sumAll xa
    · rw [hsa] at hS
      go_wp2_with fail
      go_ret
      exact ⟨by rw [hS.out]; rfl, hb2'.trans (hb3.mono hb2'.size)⟩
    · rw [hsa] at hS
      go_wp2_with fail
      refine H1'.mono ?_
      rintro e w4 ⟨rfl, hb4⟩
      go_wp2_with fail
      go_ret
      exact ⟨by rw [hS.out]; rfl, hb2'.trans ((hb3.trans (hb4.mono hb3.size)).mono hb2'.size)⟩
  cases q5 : (c.t.toList == [61, 58, 61])
  rotate_left
  · have hS : Hid (ga = (sumAll xa && sumAll xb)) := by
      show ga = _
      rw [HG'.out]; unfold cmp6 eq2; simp only [q1, q2, q3, q4, q5]; simp
    have H0 := HA2.out x0 _ HT0.out
    have H1 : Hid (∀ W, Below w2.heap.size w2 W → _) := fun W (hW : Below w2.heap.size w2 W) => HB2.out x1 W (HT1.out.below hW)
    go_wp2_with fail
    refine H0.mono ?_
    rintro e w3 ⟨rfl, hb3⟩
    have c1 : w3.cell? ⟨bu, ou + 1, none⟩ = some x1 := (hb3.cell (p := ⟨bu, ou + 1, none⟩) hbu2.out).trans cx1
    have H1' := H1.out _ hb3
    clear H0
    cases hsa : sumAll xa
    · rw [hsa] at hS
      go_wp2_with fail
      go_ret
      exact ⟨by rw [hS.out]; rfl, hb2'.trans (hb3.mono hb2'.size)⟩
    · rw [hsa] at hS
      go_wp2_with fail
      refine H1'.mono ?_
      rintro e w4 ⟨rfl, hb4⟩
      go_wp2_with fail
      go_ret
      exact ⟨by rw [hS.out]; rfl, hb2'.trans ((hb3.trans (hb4.mono hb3.size)).mono hb2'.size)⟩
  cases q6 : (c.t.toList == [61, 92, 61])
  rotate_left
  · have hS : Hid (ga = (sumAll xa && sumAll xb)) := by
      show ga = _
      rw [HG'.out]; unfold cmp6 eq2; simp only [q1, q2, q3, q4, q5, q6]; simp
    have H0 := HA2.out x0 _ HT0.out
    have H1 : Hid (∀ W, Below w2.heap.size w2 W → _) := fun W (hW : Below w2.heap.size w2 W) => HB2.out x1 W (HT1.out.below hW)
    go_wp2_with fail
    refine H0.mono ?_
    rintro e w3 ⟨rfl, hb3⟩
    have c1 : w3.cell? ⟨bu, ou + 1, none⟩ = some x1 := (hb3.cell (p := ⟨bu, ou + 1, none⟩) hbu2.out).trans cx1
    have H1' := H1.out _ hb3
    clear H0
    cases hsa : sumAll xa
    · rw [hsa] at hS
      go_wp2_with fail
      go_ret
      exact ⟨by rw [hS.out]; rfl, hb2'.trans (hb3.mono hb2'.size)⟩
    · rw [hsa] at hS
      go_wp2_with fail
      refine H1'.mono ?_
      rintro e w4 ⟨rfl, hb4⟩
      go_wp2_with fail
      go_ret
      exact ⟨by rw [hS.out]; rfl, hb2'.trans ((hb3.trans (hb4.mono hb3.size)).mono hb2'.size)⟩
  cases q7 : (c.t.toList == [101, 113, 117, 97, 108])
  rotate_left
  · have hS : Hid (ga = (simpleS xa && simpleS xb)) := by
      show ga = _
      rw [HG'.out]; unfold cmp6 eq2; simp only [q1, q2, q3, q4, q5, q6, q7]; simp
    have H0 := HA.out x0 _ HT0.out
    have H1 : Hid (∀ W, Below w2.heap.size w2 W → _) := fun W (hW : Below w2.heap.size w2 W) => HB.out x1 W (HT1.out.below hW)
    go_wp2_with fail
    refine H0.mono ?_
    rintro e w3 ⟨rfl, hb3⟩
    have c1 : w3.cell? ⟨bu, ou + 1, none⟩ = some x1 := (hb3.cell (p := ⟨bu, ou + 1, none⟩) hbu2.out).trans cx1
    have H1' := H1.out _ hb3
    clear H0
    cases hsa : simpleS xa
    · rw [hsa] at hS
      go_wp2_with fail
      go_ret
      exact ⟨by rw [hS.out]; rfl, hb2'.trans (hb3.mono hb2'.size)⟩
    · rw [hsa] at hS
      go_wp2_with fail
      refine H1'.mono ?_
      rintro e w4 ⟨rfl, hb4⟩
      go_wp2_with fail
      go_ret
      exact ⟨by rw [hS.out]; rfl, hb2'.trans ((hb3.trans (hb4.mono hb3.size)).mono hb2'.size)⟩
  cases q8 : (c.t.toList == [117, 110, 108, 105, 107, 101])
  rotate_left
  · have hS : Hid (ga = (simpleS xa && simpleS xb)) := by
      show ga = _
      rw [HG'.out]; unfold cmp6 eq2; simp only [q1, q2, q3, q4, q5, q6, q7, q8]; simp
    have H0 := HA.out x0 _ HT0.out
    have H1 : Hid (∀ W, Below w2.heap.size w2 W → _) := fun W (hW : Below w2.heap.size w2 W) => HB.out x1 W (HT1.out.below hW)
    go_wp2_with fail
    refine H0.mono ?_
    rintro e w3 ⟨rfl, hb3⟩
    have c1 : w3.cell? ⟨bu, ou + 1, none⟩ = some x1 := (hb3.cell (p := ⟨bu, ou + 1, none⟩) hbu2.out).trans cx1
    have H1' := H1.out _ hb3
    clear H0
    cases hsa : simpleS xa
    · rw [hsa] at hS
      go_wp2_with fail
      go_ret
      exact ⟨by rw [hS.out]; rfl, hb2'.trans (hb3.mono hb2'.size)⟩
    · rw [hsa] at hS
      go_wp2_with fail
      refine H1'.mono ?_
      rintro e w4 ⟨rfl, hb4⟩
      go_wp2_with fail
      go_ret
      exact ⟨by rw [hS.out]; rfl, hb2'.trans ((hb3.trans (hb4.mono hb3.size)).mono hb2'.size)⟩
  have hS : Hid (ga = false) := by
    show ga = _
    rw [HG'.out]; unfold cmp6 eq2; simp only [q1, q2, q3, q4, q5, q6, q7, q8]; simp
  go_wp2_with fail
  go_ret
  exact ⟨by rw [hS.out]; rfl, hb2'⟩
set_option maxRecDepth 100000 in
set_option maxHeartbeats 8000000 in
theorem k11_more (l : List C) (v : Value) (w : World) (h : TermAt w v l) (hr : rightB l = true) (hit0 : isTrueS l = false) (n1 : (argsL l).length ≠ 1) (n2 : (argsL l).length ≠ 2) :
    Calls Tryz.prog 68 #[v] w fun e w' => e = .returned (.bool (guardS l)) ∧ Below w.heap.size w w' := by
  have H26 := c23 l v w h
  have h1 : 0 < l.length := (right_len hr).1
  rw [hr] at H26
  have HT : Hid (TermAt w v l) := h
  have HG : Hid (guardS l = refGuardA (isTrueS l) (headC l).t.toList (argsL l)) := guard_eq hr
  rw [headC_get h1, hit0] at HG
  have Ht := fun W (hW : Below w.heap.size w W) => c29 l v tTrue 0 W (HT.out.below hW)
  have Ha := fun W (hW : Below w.heap.size w W) => c27 l v W (HT.out.below hW)
  have HSUM : Hid (∀ a ∈ argsL l, ∀ x W, TermAt W x a → Calls Tryz.prog 95 #[x] W fun e w' => e = .returned (.bool (sumAll a)) ∧ Below W.heap.size W w') := fun a ha x W hx => k27 _ a x W (Nat.le_refl _) hx (arg_right hr ha)
  have HSIM : Hid (∀ a ∈ argsL l, ∀ x W, TermAt W x a → Calls Tryz.prog 94 #[x] W fun e w' => e = .returned (.bool (simpleS a)) ∧ Below W.heap.size W w') := fun a ha x W hx => k31 a x W hx (right_len (arg_right hr ha)).1
  have HCL : Hid (∀ W, Below w.heap.size w W → ∃ b o cap, v = .slice (some ⟨b, o, none⟩) l.length cap ∧ W.cell? ⟨b, o + 1, none⟩ = some (.string l[0].t)) := fun W hW => by
    obtain ⟨_, h⟩ := HT.out.below hW
    rcases h with ⟨e, _⟩ | ⟨b, o, cap, e, _, _, h3, _⟩
    · rw [e] at h1; simp at h1
    · obtain ⟨p0, p1, p2, p3, p4⟩ := term_cells h3 0 h1
      simp only [Nat.zero_mul, Nat.add_zero] at p0 p1 p2 p3 p4
      exact ⟨b, o, cap, e, p1⟩
  have h1' : (0 : Int) < (l.length : Int) := by omega
  have hit : isTrueS l = isB l tTrue 0 := rfl
  rw [hit] at hit0
  rw [hit0] at Ht
  simp only [tTrue] at Ht
  clear hr h hit hit0
  generalize l[0] = c at *
  have HG' : Hid (guardS l = false) := by
    show guardS l = _
    rw [HG.out]
    match h : argsL l with
    | [] => rfl
    | [x] => rw [h] at n1; exact absurd rfl n1
    | [x, y] => rw [h] at n2; exact absurd rfl n2
    | x :: y :: z :: r => rfl
  have g1 : (((argsL l).length : Int) == 1) = false := by simp; omega
  have g2 : (((argsL l).length : Int) == 2) = false := by simp; omega
  clear HSUM HSIM n1 n2 HG
  generalize argsL l = rs at *
  generalize hga : guardS l = ga at *
  clear hga
  go_enter Tryz.func68, Tryz.ntmps68
  go_wp2_with fail
  refine H26.mono ?_
  rintro e w1 ⟨rfl, hb⟩
  obtain ⟨b, o, cap, rfl, _⟩ := HCL.out _ hb
  go_wp2_with fail
  refine (Ht _ hb).mono ?_
  rintro e w' ⟨rfl, hw'⟩
  obtain rfl := hw'.symm
  go_wp2_with fail
  refine (Ha _ hb).mono ?_
  rintro e w2 ⟨u, rfl, hR, hb2⟩
  have hb2' := hb.trans (hb2.mono hb.size)
  obtain ⟨b', o', cap', hv', p1⟩ := HCL.out _ hb2'
  simp only [Value.slice.injEq, Option.some.injEq, Addr.mk.injEq, and_true, true_and] at hv'
  obtain ⟨⟨rfl, rfl⟩, rfl⟩ := hv'
  obtain ⟨adu, cpu, hu⟩ := hR.form
  subst hu
  clear hR
  go_wp2_with fail
  go_ret
  exact ⟨by rw [HG'.out]; rfl, hb2'⟩
set_option maxRecDepth 100000 in
theorem k11 (l : List C) (v : Value) (w : World) (h : TermAt w v l) :
    Calls Tryz.prog 68 #[v] w fun e w' => e = .returned (.bool (isGuardS l)) ∧ Below w.heap.size w w' := by
  have H26 := c23 l v w h
  cases hr : rightB l
  · have e : isGuardS l = false := by unfold isGuardS; rw [hr]; rfl
    rw [e]
    rw [hr] at H26
    go_enter Tryz.func68, Tryz.ntmps68
    go_wp2_with fail
    refine H26.mono ?_
    rintro e w' ⟨rfl, hb⟩
    go_wp2_with fail
    go_ret
    exact ⟨rfl, hb⟩
  have e : isGuardS l = guardS l := by unfold isGuardS; rw [hr]; rfl
  rw [e]
  cases hit0 : isTrueS l
  · by_cases n1 : (argsL l).length = 1
    · exact k11_one l v w h hr hit0 n1
    · by_cases n2 : (argsL l).length = 2
      · exact k11_two l v w h hr hit0 n2
      · exact k11_more l v w h hr hit0 n1 n2
  rw [hr] at H26
  have HT : Hid (TermAt w v l) := h
  have hS : Hid (guardS l = true) := by
    show guardS l = _
    rw [guard_eq hr, hit0]; unfold refGuardA; simp
  have Ht := fun W (hW : Below w.heap.size w W) => c29 l v tTrue 0 W (HT.out.below hW)
  have hit : isTrueS l = isB l tTrue 0 := rfl
  rw [hit] at hit0
  rw [hit0] at Ht
  simp only [tTrue] at Ht
  obtain ⟨adv, cpv, hv⟩ := HT.out.form
  subst hv
  clear hr h hit hit0 e
  go_enter Tryz.func68, Tryz.ntmps68
  go_wp2_with fail
  refine H26.mono ?_
  rintro e w1 ⟨rfl, hb⟩
  go_wp2_with fail
  refine (Ht _ hb).mono ?_
  rintro e w' ⟨rfl, hw'⟩
  obtain rfl := hw'.symm
  go_wp2_with fail
  go_ret
  exact ⟨by rw [hS.out]; rfl, hb⟩
end Go.Proofs.YtgknheafkkkjcaaGreatDoor
