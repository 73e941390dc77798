/- The contract of the reference's sum. -/
import Derived.Test.YtlfccjlifjppdaaGreatDoorQ16
namespace Go.Proofs.YtlfccjlifjppdaaGreatDoor
open Go.RowKit
theorem row_at {w : World} {u : Value} {ls : List (List C)} (h : RowAt w u ls) (i : Nat) (hi : i < ls.length) : ∃ b o cap x, u = .slice (some ⟨b, o, none⟩) ls.length cap ∧ w.cell? ⟨b, o + i, none⟩ = some x ∧ TermAt w x ls[i] ∧ b < w.heap.size := by
  obtain ⟨_, h⟩ := h
  rcases h with ⟨rfl, _⟩ | ⟨b, o, cap, vs, h1, h2, h3, h4, h5, h6, h7⟩
  · simp at hi
  · have hv : i < vs.length := by omega
    exact ⟨b, o, cap, vs[i], h1, row_cell h6 i hv, h7 i _ _ (List.getElem?_eq_getElem hv) (List.getElem?_eq_getElem hi), h4⟩
theorem mem_le_sum : ∀ (l : List Nat) (x : Nat), x ∈ l → x ≤ l.sum
  | [], _, h => by cases h
  | a :: r, x, h => by
    rw [List.sum_cons]
    rcases List.mem_cons.1 h with rfl | h
    · omega
    · have := mem_le_sum r x h; omega
set_option maxRecDepth 100000 in
set_option maxHeartbeats 8000000 in
theorem k27 : ∀ (N : Nat) (l : List C) (v : Value) (w : World), l.length ≤ N → TermAt w v l → rightB l = true →
    Calls Tryz.prog 95 #[v] w fun e w' => e = .returned (.bool (sumAll l)) ∧ Below w.heap.size w w'
  | 0, l, _, _, hN, _, hr => by have := (right_len hr).1; omega
  | N + 1, l, v, w, hN, h, hr => by
    have h1 : 0 < l.length := (right_len hr).1
    have hc := right_cell hr l[0] (List.getElem_mem h1)
    have H30 := c27 l v w h
    have HT : Hid (TermAt w v l) := h
    have hcell : ∀ W, Below w.heap.size w W → ∃ b o cap, v = .slice (some ⟨b, o, none⟩) l.length cap ∧ (W.cell? ⟨b, o, none⟩ = some (.int .u8 l[0].k) ∧ W.cell? ⟨b, o + 1, none⟩ = some (.string l[0].t) ∧ W.cell? ⟨b, o + 2, none⟩ = some (.int .i64 l[0].n) ∧ W.cell? ⟨b, o + 3, none⟩ = some (.int .i64 l[0].vn) ∧ W.cell? ⟨b, o + 4, none⟩ = some (.int .i64 l[0].vk)) := fun W hW => by
      obtain ⟨_, h⟩ := HT.out.below hW
      rcases h with ⟨e, _⟩ | ⟨b, o, cap, e, _, _, h3, _⟩
      · rw [e] at h1; simp at h1
      · obtain ⟨p0, p1, p2, p3, p4⟩ := term_cells h3 0 h1
        simp only [Nat.zero_mul, Nat.add_zero] at p0 p1 p2 p3 p4
        exact ⟨b, o, cap, e, p0, p1, p2, p3, p4⟩
    have h1' : (0 : Int) < (l.length : Int) := by omega
    have IH : ∀ a ∈ argsL l, ∀ x W, TermAt W x a → Calls Tryz.prog 95 #[x] W fun e w' => e = .returned (.bool (sumAll a)) ∧ Below W.heap.size W w' := fun a ha x W hx => by
      refine k27 N a x W ?_ hx (arg_right hr ha)
      by_cases hh : headK l = 3
      · obtain ⟨j1, j2, j3, j4⟩ := (argsL_spec l hr h1 hh).2.2 a ha
        have hfl := (argsL_spec l hr h1 hh).1
        have hle : a.length ≤ l.tail.length := by
          rw [← hfl, List.length_flatten]
          exact mem_le_sum _ _ (List.mem_map.2 ⟨a, ha, rfl⟩)
        rw [List.length_tail] at hle
        omega
      · rw [argsL_none l (by simp [hh])] at ha; cases ha
    have HIH : Hid (∀ a ∈ argsL l, ∀ x W, TermAt W x a → Calls Tryz.prog 95 #[x] W fun e w' => e = .returned (.bool (sumAll a)) ∧ Below W.heap.size W w') := IH
    have HCL : Hid (∀ W, Below w.heap.size w W → _) := hcell
    have hB : ∀ (W : World) (o : Obj), Below w.heap.size w W → Hid (Below w.heap.size w (W.alloc o)) := fun W o hW => hW.alloc hW.size o
    have hk := ok_kinds hc
    have hform : ∃ b o cap, v = .slice (some ⟨b, o, none⟩) l.length cap := by
      obtain ⟨b, o, cap, e, _⟩ := hcell w (Below.refl _ _)
      exact ⟨b, o, cap, e⟩
    have S1 := fun hh => sum_simple hr h1 hh
    have S2 := fun hh => sum_atom hr h1 hh
    have S3 := fun hh => sum_struct hr h1 hh
    clear hcell IH hc
    by_cases hkv : l[0].k = 1 ∨ l[0].k = 4
    · rw [S1 hkv]
      have q0 : ((l[0].k == 1) || (l[0].k == 4)) = true := by rcases hkv with e | e <;> simp [e]
      clear S1 S2 S3 hr
      rcases hkv with e1 | e1
      all_goals (
        go_enter Tryz.func95, Tryz.ntmps95
        go_wp2_with fail
        refine H30.mono ?_
        rintro e w1 ⟨u, rfl, hR, hb⟩
        obtain ⟨b, o, cap, rfl, p0, p1, p2, p3, p4⟩ := HCL.out _ hb
        rw [e1] at p0
        have hba := hB w1 (.cells #[.int .u8 l[0].k, .string l[0].t, .int .i64 l[0].n, .int .i64 l[0].vn, .int .i64 l[0].vk] 82) hb
        rw [e1] at hba
        go_wp2_with fail
        go_ret
        exact ⟨rfl, hba.out⟩)
    · by_cases hk3 : l[0].k = 3
      · obtain ⟨⟨hal, hn1, hn8⟩, hsum⟩ := S3 hk3
        have kb1 : (l[0].k == 1) = false := by rw [hk3]; rfl
        have kb4 : (l[0].k == 4) = false := by rw [hk3]; rfl
        have kb3 : (l[0].k != 3) = false := by rw [hk3]; rfl
        clear S1 S2 S3 hr hkv hk hk3
        by_cases n1 : l[0].n = 1
        · obtain ⟨xa, hxa⟩ : ∃ xa, argsL l = [xa] := by
            rw [n1] at hal
            match h : argsL l, hal with
            | [xa], _ => exact ⟨xa, rfl⟩
          have HA : Hid (∀ x W, TermAt W x xa → Calls Tryz.prog 95 #[x] W fun e w' => e = .returned (.bool (sumAll xa)) ∧ Below W.heap.size W w') := fun x W hx => HIH.out xa (by rw [hxa]; simp) x W hx
          have S3' : Hid (sumAll l = ((l[0].t.toList == [97, 98, 115]) && sumAll xa)) := by
            show sumAll l = _
            rw [hsum, if_pos n1, hxa]; simp
          rw [hxa] at H30
          clear hsum HIH hal n1
          generalize l[0] = c at *
          cases q1 : (c.t.toList == [97, 98, 115])
          · rw [q1] at S3'
            go_enter Tryz.func95, Tryz.ntmps95
            go_wp2_with fail
            refine H30.mono ?_
            rintro e w1 ⟨u, rfl, hR, hb⟩
            obtain ⟨b, o, cap, rfl, p0, p1, p2, p3, p4⟩ := HCL.out _ hb
            have hba := hB w1 (.cells #[.int .u8 c.k, .string c.t, .int .i64 c.n, .int .i64 c.vn, .int .i64 c.vk] 82) hb
            obtain ⟨adu, cpu, hu⟩ := hR.form
            subst hu
            go_wp2_with fail
            go_ret
            exact ⟨by rw [S3'.out]; rfl, hba.out⟩
          · rw [q1] at S3'
            go_enter Tryz.func95, Tryz.ntmps95
            go_wp2_with fail
            refine H30.mono ?_
            rintro e w1 ⟨u, rfl, hR, hb⟩
            obtain ⟨b, o, cap, rfl, p0, p1, p2, p3, p4⟩ := HCL.out _ hb
            have hba := hB w1 (.cells #[.int .u8 c.k, .string c.t, .int .i64 c.n, .int .i64 c.vn, .int .i64 c.vk] 82) hb
            obtain ⟨bu, ou, cu, x0, hu, cx0, ht0, hbu⟩ := row_at hR 0 (by simp)
            subst hu
            rw [Nat.add_zero] at cx0
            have c0 : (w1.alloc (.cells #[.int .u8 c.k, .string c.t, .int .i64 c.n, .int .i64 c.vn, .int .i64 c.vk] 82)).cell? ⟨bu, ou, none⟩ = some x0 := cell_alloc hbu cx0
            have H0 := HA.out x0 _ (ht0.below ((Below.refl _ _).alloc (Nat.le_refl _) (.cells #[.int .u8 c.k, .string c.t, .int .i64 c.n, .int .i64 c.vn, .int .i64 c.vk] 82)))
            clear ht0 hR
            go_wp2_with fail
            refine H0.mono ?_
            rintro e w2 ⟨rfl, hb2⟩
            go_wp2_with fail
            go_ret
            exact ⟨by rw [S3'.out]; rfl, hba.out.trans (hb2.mono hba.out.size)⟩
        · by_cases n2 : l[0].n = 2
          · obtain ⟨xa, xb, hxa⟩ : ∃ xa xb, argsL l = [xa, xb] := by
              rw [n2] at hal
              match h : argsL l, hal with
              | [xa, xb], _ => exact ⟨xa, xb, rfl⟩
            have HA : Hid (∀ x W, TermAt W x xa → Calls Tryz.prog 95 #[x] W fun e w' => e = .returned (.bool (sumAll xa)) ∧ Below W.heap.size W w') := fun x W hx => HIH.out xa (by rw [hxa]; simp) x W hx
            have HBB : Hid (∀ x W, TermAt W x xb → Calls Tryz.prog 95 #[x] W fun e w' => e = .returned (.bool (sumAll xb)) ∧ Below W.heap.size W w') := fun x W hx => HIH.out xb (by rw [hxa]; simp) x W hx
            have S3' : Hid (sumAll l = (opT l[0].t && sumAll (xa ++ xb))) := by
              show sumAll l = _
              rw [hsum, if_neg n1, if_pos n2, hxa]; simp
            rw [hxa] at H30
            clear hsum HIH hal n1 n2
            generalize l[0] = c at *
            cases q1 : (c.t.toList == [43])
            rotate_left
            · have hS : Hid (sumAll l = (sumAll xa && sumAll xb)) := by
                show sumAll l = _
                rw [S3'.out]; unfold opT; simp only [q1]; simp [sumAll_append]
              go_enter Tryz.func95, Tryz.ntmps95
              go_wp2_with fail
              refine H30.mono ?_
              rintro e w1 ⟨u, rfl, hR, hb⟩
              obtain ⟨b, o, cap, rfl, p0, p1, p2, p3, p4⟩ := HCL.out _ hb
              have hba := hB w1 (.cells #[.int .u8 c.k, .string c.t, .int .i64 c.n, .int .i64 c.vn, .int .i64 c.vk] 82) hb
              obtain ⟨bu, ou, cu, x0, hu, cx0, ht0, hbu⟩ := row_at hR 0 (by simp)
              obtain ⟨bu', ou', cu', x1, hu', cx1, ht1, hbu'⟩ := row_at hR 1 (by simp)
              subst hu
              simp only [Value.slice.injEq, Option.some.injEq, Addr.mk.injEq, and_true, true_and] at hu'
              obtain ⟨⟨rfl, rfl⟩, rfl⟩ := hu'
              rw [Nat.add_zero] at cx0
              have HT0 : Hid (TermAt w1 x0 xa) := ht0
              have HT1 : Hid (TermAt w1 x1 xb) := ht1
              have c0 : (w1.alloc (.cells #[.int .u8 c.k, .string c.t, .int .i64 c.n, .int .i64 c.vn, .int .i64 c.vk] 82)).cell? ⟨bu, ou, none⟩ = some x0 := cell_alloc hbu cx0
              have H0 := HA.out x0 _ (HT0.out.below ((Below.refl _ _).alloc (Nat.le_refl _) (.cells #[.int .u8 c.k, .string c.t, .int .i64 c.n, .int .i64 c.vn, .int .i64 c.vk] 82)))
              have HBa : Hid (Below w1.heap.size w1 (w1.alloc (.cells #[.int .u8 c.k, .string c.t, .int .i64 c.n, .int .i64 c.vn, .int .i64 c.vk] 82))) := (Below.refl _ _).alloc (Nat.le_refl _) _
              have H1 := fun W (hW : Below (w1.alloc (.cells #[.int .u8 c.k, .string c.t, .int .i64 c.n, .int .i64 c.vn, .int .i64 c.vk] 82)).heap.size (w1.alloc (.cells #[.int .u8 c.k, .string c.t, .int .i64 c.n, .int .i64 c.vn, .int .i64 c.vk] 82)) W) => HBB.out x1 W (HT1.out.below (HBa.out.trans (hW.mono HBa.out.size)))
              have hbu2 : bu < w1.heap.size := hbu
              clear ht0 ht1 hR
              cases hsa : sumAll xa
              · rw [hsa] at hS H0
                go_wp2_with fail
                refine H0.mono ?_
                rintro e w2 ⟨rfl, hb2⟩
                go_wp2_with fail
                go_ret
                exact ⟨by rw [hS.out]; rfl, hba.out.trans (hb2.mono hba.out.size)⟩
              · rw [hsa] at hS H0
                go_wp2_with fail
                refine H0.mono ?_
                rintro e w2 ⟨rfl, hb2⟩
                have c1 : w2.cell? ⟨bu, ou + 1, none⟩ = some x1 := (hb2.cell (p := ⟨bu, ou + 1, none⟩) (by simp; omega)).trans (cell_alloc hbu2 cx1)
                have H1' := H1 _ hb2
                go_wp2_with fail
                refine H1'.mono ?_
                rintro e w3 ⟨rfl, hb3⟩
                go_wp2_with fail
                go_ret
                exact ⟨by rw [hS.out]; rfl, hba.out.trans ((hb2.trans (hb3.mono hb2.size)).mono hba.out.size)⟩
            cases q2 : (c.t.toList == [45])
            rotate_left
            · have hS : Hid (sumAll l = (sumAll xa && sumAll xb)) := by
                show sumAll l = _
                rw [S3'.out]; unfold opT; simp only [q1, q2]; simp [sumAll_append]
              go_enter Tryz.func95, Tryz.ntmps95
              go_wp2_with fail
              refine H30.mono ?_
              rintro e w1 ⟨u, rfl, hR, hb⟩
              obtain ⟨b, o, cap, rfl, p0, p1, p2, p3, p4⟩ := HCL.out _ hb
              have hba := hB w1 (.cells #[.int .u8 c.k, .string c.t, .int .i64 c.n, .int .i64 c.vn, .int .i64 c.vk] 82) hb
              obtain ⟨bu, ou, cu, x0, hu, cx0, ht0, hbu⟩ := row_at hR 0 (by simp)
              obtain ⟨bu', ou', cu', x1, hu', cx1, ht1, hbu'⟩ := row_at hR 1 (by simp)
              subst hu
              simp only [Value.slice.injEq, Option.some.injEq, Addr.mk.injEq, and_true, true_and] at hu'
              obtain ⟨⟨rfl, rfl⟩, rfl⟩ := hu'
              rw [Nat.add_zero] at cx0
              have HT0 : Hid (TermAt w1 x0 xa) := ht0
              have HT1 : Hid (TermAt w1 x1 xb) := ht1
              have c0 : (w1.alloc (.cells #[.int .u8 c.k, .string c.t, .int .i64 c.n, .int .i64 c.vn, .int .i64 c.vk] 82)).cell? ⟨bu, ou, none⟩ = some x0 := cell_alloc hbu cx0
              have H0 := HA.out x0 _ (HT0.out.below ((Below.refl _ _).alloc (Nat.le_refl _) (.cells #[.int .u8 c.k, .string c.t, .int .i64 c.n, .int .i64 c.vn, .int .i64 c.vk] 82)))
              have HBa : Hid (Below w1.heap.size w1 (w1.alloc (.cells #[.int .u8 c.k, .string c.t, .int .i64 c.n, .int .i64 c.vn, .int .i64 c.vk] 82))) := (Below.refl _ _).alloc (Nat.le_refl _) _
              have H1 := fun W (hW : Below (w1.alloc (.cells #[.int .u8 c.k, .string c.t, .int .i64 c.n, .int .i64 c.vn, .int .i64 c.vk] 82)).heap.size (w1.alloc (.cells #[.int .u8 c.k, .string c.t, .int .i64 c.n, .int .i64 c.vn, .int .i64 c.vk] 82)) W) => HBB.out x1 W (HT1.out.below (HBa.out.trans (hW.mono HBa.out.size)))
              have hbu2 : bu < w1.heap.size := hbu
              clear ht0 ht1 hR
              cases hsa : sumAll xa
              · rw [hsa] at hS H0
                go_wp2_with fail
                refine H0.mono ?_
                rintro e w2 ⟨rfl, hb2⟩
                go_wp2_with fail
                go_ret
                exact ⟨by rw [hS.out]; rfl, hba.out.trans (hb2.mono hba.out.size)⟩
              · rw [hsa] at hS H0
                go_wp2_with fail
                refine H0.mono ?_
                rintro e w2 ⟨rfl, hb2⟩
                have c1 : w2.cell? ⟨bu, ou + 1, none⟩ = some x1 := (hb2.cell (p := ⟨bu, ou + 1, none⟩) (by simp; omega)).trans (cell_alloc hbu2 cx1)
                have H1' := H1 _ hb2
                go_wp2_with fail
                refine H1'.mono ?_
                rintro e w3 ⟨rfl, hb3⟩
                go_wp2_with fail
                go_ret
                exact ⟨by rw [hS.out]; rfl, hba.out.trans ((hb2.trans (hb3.mono hb2.size)).mono hba.out.size)⟩
            cases q3 : (c.t.toList == [42])
            rotate_left
            · have hS : Hid (sumAll l = (sumAll xa && sumAll xb)) := by
                show sumAll l = _
                rw [S3'.out]; unfold opT; simp only [q1, q2, q3]; simp [sumAll_append]
              go_enter Tryz.func95, Tryz.ntmps95
              go_wp2_with fail
              refine H30.mono ?_
              rintro e w1 ⟨u, rfl, hR, hb⟩
              obtain ⟨b, o, cap, rfl, p0, p1, p2, p3, p4⟩ := HCL.out _ hb
              have hba := hB w1 (.cells #[.int .u8 c.k, .string c.t, .int .i64 c.n, .int .i64 c.vn, .int .i64 c.vk] 82) hb
              obtain ⟨bu, ou, cu, x0, hu, cx0, ht0, hbu⟩ := row_at hR 0 (by simp)
              obtain ⟨bu', ou', cu', x1, hu', cx1, ht1, hbu'⟩ := row_at hR 1 (by simp)
              subst hu
              simp only [Value.slice.injEq, Option.some.injEq, Addr.mk.injEq, and_true, true_and] at hu'
              obtain ⟨⟨rfl, rfl⟩, rfl⟩ := hu'
              rw [Nat.add_zero] at cx0
              have HT0 : Hid (TermAt w1 x0 xa) := ht0
              have HT1 : Hid (TermAt w1 x1 xb) := ht1
              have c0 : (w1.alloc (.cells #[.int .u8 c.k, .string c.t, .int .i64 c.n, .int .i64 c.vn, .int .i64 c.vk] 82)).cell? ⟨bu, ou, none⟩ = some x0 := cell_alloc hbu cx0
              have H0 := HA.out x0 _ (HT0.out.below ((Below.refl _ _).alloc (Nat.le_refl _) (.cells #[.int .u8 c.k, .string c.t, .int .i64 c.n, .int .i64 c.vn, .int .i64 c.vk] 82)))
              have HBa : Hid (Below w1.heap.size w1 (w1.alloc (.cells #[.int .u8 c.k, .string c.t, .int .i64 c.n, .int .i64 c.vn, .int .i64 c.vk] 82))) := (Below.refl _ _).alloc (Nat.le_refl _) _
              have H1 := fun W (hW : Below (w1.alloc (.cells #[.int .u8 c.k, .string c.t, .int .i64 c.n, .int .i64 c.vn, .int .i64 c.vk] 82)).heap.size (w1.alloc (.cells #[.int .u8 c.k, .string c.t, .int .i64 c.n, .int .i64 c.vn, .int .i64 c.vk] 82)) W) => HBB.out x1 W (HT1.out.below (HBa.out.trans (hW.mono HBa.out.size)))
              have hbu2 : bu < w1.heap.size := hbu
              clear ht0 ht1 hR
              cases hsa : sumAll xa
              · rw [hsa] at hS H0
                go_wp2_with fail
                refine H0.mono ?_
                rintro e w2 ⟨rfl, hb2⟩
                go_wp2_with fail
                go_ret
                exact ⟨by rw [hS.out]; rfl, hba.out.trans (hb2.mono hba.out.size)⟩
              · rw [hsa] at hS H0
                go_wp2_with fail
                refine H0.mono ?_
                rintro e w2 ⟨rfl, hb2⟩
                have c1 : w2.cell? ⟨bu, ou + 1, none⟩ = some x1 := (hb2.cell (p := ⟨bu, ou + 1, none⟩) (by simp; omega)).trans (cell_alloc hbu2 cx1)
                have H1' := H1 _ hb2
                go_wp2_with fail
                refine H1'.mono ?_
                rintro e w3 ⟨rfl, hb3⟩
                go_wp2_with fail
                go_ret
                exact ⟨by rw [hS.out]; rfl, hba.out.trans ((hb2.trans (hb3.mono hb2.size)).mono hba.out.size)⟩
            cases q4 : (c.t.toList == [100, 105, 118])
            rotate_left
            · have hS : Hid (sumAll l = (sumAll xa && sumAll xb)) := by
                show sumAll l = _
                rw [S3'.out]; unfold opT; simp only [q1, q2, q3, q4]; simp [sumAll_append]
              go_enter Tryz.func95, Tryz.ntmps95
              go_wp2_with fail
              refine H30.mono ?_
              rintro e w1 ⟨u, rfl, hR, hb⟩
              obtain ⟨b, o, cap, rfl, p0, p1, p2, p3, p4⟩ := HCL.out _ hb
              have hba := hB w1 (.cells #[.int .u8 c.k, .string c.t, .int .i64 c.n, .int .i64 c.vn, .int .i64 c.vk] 82) hb
              obtain ⟨bu, ou, cu, x0, hu, cx0, ht0, hbu⟩ := row_at hR 0 (by simp)
              obtain ⟨bu', ou', cu', x1, hu', cx1, ht1, hbu'⟩ := row_at hR 1 (by simp)
              subst hu
              simp only [Value.slice.injEq, Option.some.injEq, Addr.mk.injEq, and_true, true_and] at hu'
              obtain ⟨⟨rfl, rfl⟩, rfl⟩ := hu'
              rw [Nat.add_zero] at cx0
              have HT0 : Hid (TermAt w1 x0 xa) := ht0
              have HT1 : Hid (TermAt w1 x1 xb) := ht1
              have c0 : (w1.alloc (.cells #[.int .u8 c.k, .string c.t, .int .i64 c.n, .int .i64 c.vn, .int .i64 c.vk] 82)).cell? ⟨bu, ou, none⟩ = some x0 := cell_alloc hbu cx0
              have H0 := HA.out x0 _ (HT0.out.below ((Below.refl _ _).alloc (Nat.le_refl _) (.cells #[.int .u8 c.k, .string c.t, .int .i64 c.n, .int .i64 c.vn, .int .i64 c.vk] 82)))
              have HBa : Hid (Below w1.heap.size w1 (w1.alloc (.cells #[.int .u8 c.k, .string c.t, .int .i64 c.n, .int .i64 c.vn, .int .i64 c.vk] 82))) := (Below.refl _ _).alloc (Nat.le_refl _) _
              have H1 := fun W (hW : Below (w1.alloc (.cells #[.int .u8 c.k, .string c.t, .int .i64 c.n, .int .i64 c.vn, .int .i64 c.vk] 82)).heap.size (w1.alloc (.cells #[.int .u8 c.k, .string c.t, .int .i64 c.n, .int .i64 c.vn, .int .i64 c.vk] 82)) W) => HBB.out x1 W (HT1.out.below (HBa.out.trans (hW.mono HBa.out.size)))
              have hbu2 : bu < w1.heap.size := hbu
              clear ht0 ht1 hR
              cases hsa : sumAll xa
              · rw [hsa] at hS H0
                go_wp2_with fail
                refine H0.mono ?_
                rintro e w2 ⟨rfl, hb2⟩
                go_wp2_with fail
                go_ret
                exact ⟨by rw [hS.out]; rfl, hba.out.trans (hb2.mono hba.out.size)⟩
              · rw [hsa] at hS H0
                go_wp2_with fail
                refine H0.mono ?_
                rintro e w2 ⟨rfl, hb2⟩
                have c1 : w2.cell? ⟨bu, ou + 1, none⟩ = some x1 := (hb2.cell (p := ⟨bu, ou + 1, none⟩) (by simp; omega)).trans (cell_alloc hbu2 cx1)
                have H1' := H1 _ hb2
                go_wp2_with fail
                refine H1'.mono ?_
                rintro e w3 ⟨rfl, hb3⟩
                go_wp2_with fail
                go_ret
                exact ⟨by rw [hS.out]; rfl, hba.out.trans ((hb2.trans (hb3.mono hb2.size)).mono hba.out.size)⟩
            cases q5 : (c.t.toList == [109, 111, 100])
            rotate_left
            · have hS : Hid (sumAll l = (sumAll xa && sumAll xb)) := by
                show sumAll l = _
                rw [S3'.out]; unfold opT; simp only [q1, q2, q3, q4, q5]; simp [sumAll_append]
              go_enter Tryz.func95, Tryz.ntmps95
              go_wp2_with fail
              refine H30.mono ?_
              rintro e w1 ⟨u, rfl, hR, hb⟩
              obtain ⟨b, o, cap, rfl, p0, p1, p2, p3, p4⟩ := HCL.out _ hb
              have hba := hB w1 (.cells #[.int .u8 c.k, .string c.t, .int .i64 c.n, .int .i64 c.vn, .int .i64 c.vk] 82) hb
              obtain ⟨bu, ou, cu, x0, hu, cx0, ht0, hbu⟩ := row_at hR 0 (by simp)
              obtain ⟨bu', ou', cu', x1, hu', cx1, ht1, hbu'⟩ := row_at hR 1 (by simp)
              subst hu
              simp only [Value.slice.injEq, Option.some.injEq, Addr.mk.injEq, and_true, true_and] at hu'
              obtain ⟨⟨rfl, rfl⟩, rfl⟩ := hu'
              rw [Nat.add_zero] at cx0
              have HT0 : Hid (TermAt w1 x0 xa) := ht0
              have HT1 : Hid (TermAt w1 x1 xb) := ht1
              have c0 : (w1.alloc (.cells #[.int .u8 c.k, .string c.t, .int .i64 c.n, .int .i64 c.vn, .int .i64 c.vk] 82)).cell? ⟨bu, ou, none⟩ = some x0 := cell_alloc hbu cx0
              have H0 := HA.out x0 _ (HT0.out.below ((Below.refl _ _).alloc (Nat.le_refl _) (.cells #[.int .u8 c.k, .string c.t, .int .i64 c.n, .int .i64 c.vn, .int .i64 c.vk] 82)))
              have HBa : Hid (Below w1.heap.size w1 (w1.alloc (.cells #[.int .u8 c.k, .string c.t, .int .i64 c.n, .int .i64 c.vn, .int .i64 c.vk] 82))) := (Below.refl _ _).alloc (Nat.le_refl _) _
              have H1 := fun W (hW : Below (w1.alloc (.cells #[.int .u8 c.k, .string c.t, .int .i64 c.n, .int .i64 c.vn, .int .i64 c.vk] 82)).heap.size (w1.alloc (.cells #[.int .u8 c.k, .string c.t, .int .i64 c.n, .int .i64 c.vn, .int .i64 c.vk] 82)) W) => HBB.out x1 W (HT1.out.below (HBa.out.trans (hW.mono HBa.out.size)))
              have hbu2 : bu < w1.heap.size := hbu
              clear ht0 ht1 hR
              cases hsa : sumAll xa
              · rw [hsa] at hS H0
                go_wp2_with fail
                refine H0.mono ?_
                rintro e w2 ⟨rfl, hb2⟩
                go_wp2_with fail
                go_ret
                exact ⟨by rw [hS.out]; rfl, hba.out.trans (hb2.mono hba.out.size)⟩
              · rw [hsa] at hS H0
                go_wp2_with fail
                refine H0.mono ?_
                rintro e w2 ⟨rfl, hb2⟩
                have c1 : w2.cell? ⟨bu, ou + 1, none⟩ = some x1 := (hb2.cell (p := ⟨bu, ou + 1, none⟩) (by simp; omega)).trans (cell_alloc hbu2 cx1)
                have H1' := H1 _ hb2
                go_wp2_with fail
                refine H1'.mono ?_
                rintro e w3 ⟨rfl, hb3⟩
                go_wp2_with fail
                go_ret
                exact ⟨by rw [hS.out]; rfl, hba.out.trans ((hb2.trans (hb3.mono hb2.size)).mono hba.out.size)⟩
            cases q6 : (c.t.toList == [109, 105, 110])
            rotate_left
            · have hS : Hid (sumAll l = (sumAll xa && sumAll xb)) := by
                show sumAll l = _
                rw [S3'.out]; unfold opT; simp only [q1, q2, q3, q4, q5, q6]; simp [sumAll_append]
              go_enter Tryz.func95, Tryz.ntmps95
              go_wp2_with fail
              refine H30.mono ?_
              rintro e w1 ⟨u, rfl, hR, hb⟩
              obtain ⟨b, o, cap, rfl, p0, p1, p2, p3, p4⟩ := HCL.out _ hb
              have hba := hB w1 (.cells #[.int .u8 c.k, .string c.t, .int .i64 c.n, .int .i64 c.vn, .int .i64 c.vk] 82) hb
              obtain ⟨bu, ou, cu, x0, hu, cx0, ht0, hbu⟩ := row_at hR 0 (by simp)
              obtain ⟨bu', ou', cu', x1, hu', cx1, ht1, hbu'⟩ := row_at hR 1 (by simp)
              subst hu
              simp only [Value.slice.injEq, Option.some.injEq, Addr.mk.injEq, and_true, true_and] at hu'
              obtain ⟨⟨rfl, rfl⟩, rfl⟩ := hu'
              rw [Nat.add_zero] at cx0
              have HT0 : Hid (TermAt w1 x0 xa) := ht0
              have HT1 : Hid (TermAt w1 x1 xb) := ht1
              have c0 : (w1.alloc (.cells #[.int .u8 c.k, .string c.t, .int .i64 c.n, .int .i64 c.vn, .int .i64 c.vk] 82)).cell? ⟨bu, ou, none⟩ = some x0 := cell_alloc hbu cx0
              have H0 := HA.out x0 _ (HT0.out.below ((Below.refl _ _).alloc (Nat.le_refl _) (.cells #[.int .u8 c.k, .string c.t, .int .i64 c.n, .int .i64 c.vn, .int .i64 c.vk] 82)))
              have HBa : Hid (Below w1.heap.size w1 (w1.alloc (.cells #[.int .u8 c.k, .string c.t, .int .i64 c.n, .int .i64 c.vn, .int .i64 c.vk] 82))) := (Below.refl _ _).alloc (Nat.le_refl _) _
              have H1 := fun W (hW : Below (w1.alloc (.cells #[.int .u8 c.k, .string c.t, .int .i64 c.n, .int .i64 c.vn, .int .i64 c.vk] 82)).heap.size (w1.alloc (.cells #[.int .u8 c.k, .string c.t, .int .i64 c.n, .int .i64 c.vn, .int .i64 c.vk] 82)) W) => HBB.out x1 W (HT1.out.below (HBa.out.trans (hW.mono HBa.out.size)))
              have hbu2 : bu < w1.heap.size := hbu
              clear ht0 ht1 hR
              cases hsa : sumAll xa
              · rw [hsa] at hS H0
                go_wp2_with fail
                refine H0.mono ?_
                rintro e w2 ⟨rfl, hb2⟩
                go_wp2_with fail
                go_ret
                exact ⟨by rw [hS.out]; rfl, hba.out.trans (hb2.mono hba.out.size)⟩
              · rw [hsa] at hS H0
                go_wp2_with fail
                refine H0.mono ?_
                rintro e w2 ⟨rfl, hb2⟩
                have c1 : w2.cell? ⟨bu, ou + 1, none⟩ = some x1 := (hb2.cell (p := ⟨bu, ou + 1, none⟩) (by simp; omega)).trans (cell_alloc hbu2 cx1)
                have H1' := H1 _ hb2
                go_wp2_with fail
                refine H1'.mono ?_
                rintro e w3 ⟨rfl, hb3⟩
                go_wp2_with fail
                go_ret
                exact ⟨by rw [hS.out]; rfl, hba.out.trans ((hb2.trans (hb3.mono hb2.size)).mono hba.out.size)⟩
            cases q7 : (c.t.toList == [109, 97, 120])
            rotate_left
            · have hS : Hid (sumAll l = (sumAll xa && sumAll xb)) := by
                show sumAll l = _
                rw [S3'.out]; unfold opT; simp only [q1, q2, q3, q4, q5, q6, q7]; simp [sumAll_append]
              go_enter Tryz.func95, Tryz.ntmps95
              go_wp2_with fail
              refine H30.mono ?_
              rintro e w1 ⟨u, rfl, hR, hb⟩
              obtain ⟨b, o, cap, rfl, p0, p1, p2, p3, p4⟩ := HCL.out _ hb
              have hba := hB w1 (.cells #[.int .u8 c.k, .string c.t, .int .i64 c.n, .int .i64 c.vn, .int .i64 c.vk] 82) hb
              obtain ⟨bu, ou, cu, x0, hu, cx0, ht0, hbu⟩ := row_at hR 0 (by simp)
              obtain ⟨bu', ou', cu', x1, hu', cx1, ht1, hbu'⟩ := row_at hR 1 (by simp)
              subst hu
              simp only [Value.slice.injEq, Option.some.injEq, Addr.mk.injEq, and_true, true_and] at hu'
              obtain ⟨⟨rfl, rfl⟩, rfl⟩ := hu'
              rw [Nat.add_zero] at cx0
              have HT0 : Hid (TermAt w1 x0 xa) := ht0
              have HT1 : Hid (TermAt w1 x1 xb) := ht1
              have c0 : (w1.alloc (.cells #[.int .u8 c.k, .string c.t, .int .i64 c.n, .int .i64 c.vn, .int .i64 c.vk] 82)).cell? ⟨bu, ou, none⟩ = some x0 := cell_alloc hbu cx0
              have H0 := HA.out x0 _ (HT0.out.below ((Below.refl _ _).alloc (Nat.le_refl _) (.cells #[.int .u8 c.k, .string c.t, .int .i64 c.n, .int .i64 c.vn, .int .i64 c.vk] 82)))
              have HBa : Hid (Below w1.heap.size w1 (w1.alloc (.cells #[.int .u8 c.k, .string c.t, .int .i64 c.n, .int .i64 c.vn, .int .i64 c.vk] 82))) := (Below.refl _ _).alloc (Nat.le_refl _) _
              have H1 := fun W (hW : Below (w1.alloc (.cells #[.int .u8 c.k, .string c.t, .int .i64 c.n, .int .i64 c.vn, .int .i64 c.vk] 82)).heap.size (w1.alloc (.cells #[.int .u8 c.k, .string c.t, .int .i64 c.n, .int .i64 c.vn, .int .i64 c.vk] 82)) W) => HBB.out x1 W (HT1.out.below (HBa.out.trans (hW.mono HBa.out.size)))
              have hbu2 : bu < w1.heap.size := hbu
              clear ht0 ht1 hR
              cases hsa : sumAll xa
              · rw [hsa] at hS H0
                go_wp2_with fail
                refine H0.mono ?_
                rintro e w2 ⟨rfl, hb2⟩
                go_wp2_with fail
                go_ret
                exact ⟨by rw [hS.out]; rfl, hba.out.trans (hb2.mono hba.out.size)⟩
              · rw [hsa] at hS H0
                go_wp2_with fail
                refine H0.mono ?_
                rintro e w2 ⟨rfl, hb2⟩
                have c1 : w2.cell? ⟨bu, ou + 1, none⟩ = some x1 := (hb2.cell (p := ⟨bu, ou + 1, none⟩) (by simp; omega)).trans (cell_alloc hbu2 cx1)
                have H1' := H1 _ hb2
                go_wp2_with fail
                refine H1'.mono ?_
                rintro e w3 ⟨rfl, hb3⟩
                go_wp2_with fail
                go_ret
                exact ⟨by rw [hS.out]; rfl, hba.out.trans ((hb2.trans (hb3.mono hb2.size)).mono hba.out.size)⟩
            have hS : Hid (sumAll l = false) := by
              show sumAll l = _
              rw [S3'.out]; unfold opT; simp only [q1, q2, q3, q4, q5, q6, q7]; rfl
            go_enter Tryz.func95, Tryz.ntmps95
            go_wp2_with fail
            refine H30.mono ?_
            rintro e w1 ⟨u, rfl, hR, hb⟩
            obtain ⟨b, o, cap, rfl, p0, p1, p2, p3, p4⟩ := HCL.out _ hb
            have hba := hB w1 (.cells #[.int .u8 c.k, .string c.t, .int .i64 c.n, .int .i64 c.vn, .int .i64 c.vk] 82) hb
            obtain ⟨adu, cpu, hu⟩ := hR.form
            subst hu
            go_wp2_with fail
            go_ret
            exact ⟨by rw [hS.out]; rfl, hba.out⟩
          · have S3' : Hid (sumAll l = false) := by
              show sumAll l = _
              rw [hsum, if_neg n1, if_neg n2]; rfl
            have g1 : (((argsL l).length : Int) == 1) = false := by rw [hal]; simp; omega
            have g2 : (((argsL l).length : Int) != 2) = true := by rw [hal]; simp; omega
            clear hsum HIH hal
            generalize l[0] = c at *
            generalize (argsL l) = al at *
            go_enter Tryz.func95, Tryz.ntmps95
            go_wp2_with fail
            refine H30.mono ?_
            rintro e w1 ⟨u, rfl, hR, hb⟩
            obtain ⟨b, o, cap, rfl, p0, p1, p2, p3, p4⟩ := HCL.out _ hb
            have hba := hB w1 (.cells #[.int .u8 c.k, .string c.t, .int .i64 c.n, .int .i64 c.vn, .int .i64 c.vk] 82) hb
            obtain ⟨adu, cpu, hu⟩ := hR.form
            subst hu
            go_wp2_with fail
            go_ret
            exact ⟨by rw [S3'.out]; rfl, hba.out⟩
      · have hk2 : l[0].k = 2 := by omega
        rw [S2 hk2]
        clear S1 S2 S3 hr
        go_enter Tryz.func95, Tryz.ntmps95
        go_wp2_with fail
        refine H30.mono ?_
        rintro e w1 ⟨u, rfl, hR, hb⟩
        obtain ⟨b, o, cap, rfl, p0, p1, p2, p3, p4⟩ := HCL.out _ hb
        rw [hk2] at p0
        have hba := hB w1 (.cells #[.int .u8 l[0].k, .string l[0].t, .int .i64 l[0].n, .int .i64 l[0].vn, .int .i64 l[0].vk] 82) hb
        rw [hk2] at hba
        go_wp2_with fail
        go_ret
        exact ⟨rfl, hba.out⟩
end Go.Proofs.YtlfccjlifjppdaaGreatDoor
