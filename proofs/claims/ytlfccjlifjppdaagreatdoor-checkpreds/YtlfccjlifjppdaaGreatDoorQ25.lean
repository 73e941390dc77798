/- Guards: the two ways to tell one agree. Contract of the reference's IsGuard. -/
import Derived.Test.YtlfccjlifjppdaaGreatDoorQ22
namespace Go.Proofs.YtlfccjlifjppdaaGreatDoor
open Go.RowKit
def cmp6 (T : List UInt8) : Bool := (T == [60]) || (T == [61, 60]) || (T == [62]) || (T == [62, 61]) || (T == [61, 58, 61]) || (T == [61, 92, 61])
def one4 (T : List UInt8) : Bool := (T == [105, 110, 116, 101, 103, 101, 114]) || (T == [97, 116, 111, 109]) || (T == [99, 111, 109, 112, 111, 117, 110, 100]) || (T == [107, 110, 111, 119, 110])
def eq2 (T : List UInt8) : Bool := (T == [101, 113, 117, 97, 108]) || (T == [117, 110, 108, 105, 107, 101])
theorem guardK_eq (t : ByteArray) (a b c d : Bool) : guardK t a b c d = if cmp6 t.toList then a else if one4 t.toList then b else if eq2 t.toList then c else d := by
  unfold guardK cmp6 one4 eq2
  generalize t.toList = T
  cases (T == [60])
  rotate_left
  · simp
  cases (T == [61, 60])
  rotate_left
  · simp
  cases (T == [62])
  rotate_left
  · simp
  cases (T == [62, 61])
  rotate_left
  · simp
  cases (T == [61, 58, 61])
  rotate_left
  · simp
  cases (T == [61, 92, 61])
  rotate_left
  · simp
  cases (T == [105, 110, 116, 101, 103, 101, 114])
  rotate_left
  · simp
  cases (T == [97, 116, 111, 109])
  rotate_left
  · simp
  cases (T == [99, 111, 109, 112, 111, 117, 110, 100])
  rotate_left
  · simp
  cases (T == [107, 110, 111, 119, 110])
  rotate_left
  · simp
  cases (T == [101, 113, 117, 97, 108])
  rotate_left
  · simp
  cases (T == [117, 110, 108, 105, 107, 101])
  rotate_left
  · simp
  simp
theorem cmp6_f {T : List UInt8} (h : cmp6 T = true) : isNameB T = false ∧ isSignB T = true ∧ one4 T = false ∧ eq2 T = false ∧ (T == [116, 114, 117, 101]) = false ∧ (T == []) = false := by
  simp only [cmp6, Bool.or_eq_true, beq_iff_eq] at h
  rcases h with ((((rfl | rfl) | rfl) | rfl) | rfl) | rfl <;> decide
theorem one4_f {T : List UInt8} (h : one4 T = true) : isSignB T = false ∧ cmp6 T = false ∧ eq2 T = false ∧ (T == [116, 114, 117, 101]) = false ∧ (T == []) = false := by
  simp only [one4, Bool.or_eq_true, beq_iff_eq] at h
  rcases h with ((rfl | rfl) | rfl) | rfl <;> decide
theorem eq2_f {T : List UInt8} (h : eq2 T = true) : isSignB T = false ∧ cmp6 T = false ∧ one4 T = false ∧ (T == [116, 114, 117, 101]) = false ∧ (T == []) = false := by
  simp only [eq2, Bool.or_eq_true, beq_iff_eq] at h
  rcases h with rfl | rfl <;> decide
def refGuardA (it : Bool) (T : List UInt8) (rs : List (List C)) : Bool := it || match rs with
  | [x] => one4 T && simpleS x
  | [x, y] => if cmp6 T then sumAll x && sumAll y else if eq2 T then simpleS x && simpleS y else false
  | _ => false
theorem simple_len {m : List C} (hr : rightB m = true) : 1 ≤ m.length ∧ simpleS m = decide (m.length = 1) := by
  have h1 : 0 < m.length := (right_len hr).1
  refine ⟨h1, ?_⟩
  match m, h1 with
  | c :: r, _ =>
    have hc : simpleS (c :: r) = (c.k != 3) := rfl
    rw [hc]
    by_cases hk : c.k = 3
    · have h1 : 0 < (c :: r).length := by simp
      obtain ⟨s1, s2, s3⟩ := argsL_spec (c :: r) hr h1 (by rw [headK_get h1]; exact hk)
      obtain ⟨⟨hal, hn, _⟩, _⟩ := sum_struct hr h1 hk
      simp only [List.getElem_cons_zero, List.tail_cons] at hal hn s1
      have hne : argsL (c :: r) ≠ [] := fun h => by rw [h] at hal; simp at hal; omega
      obtain ⟨a, rs, ha⟩ := List.exists_cons_of_ne_nil hne
      have : rightB a = true := arg_right hr (by rw [ha]; simp)
      have ha1 : 0 < a.length := (right_len this).1
      rw [ha] at s1
      have hl := congrArg List.length s1
      simp at hl
      rw [hk]
      have : r.length ≠ 0 := by omega
      simp
      intro h; rw [h] at this; simp at this
    · rw [right_cell1 hr hk]
      simp [hk]
theorem guard_eq {l : List C} (hr : rightB l = true) : guardS l = refGuardA (isTrueS l) (headC l).t.toList (argsL l) := by
  have h1 : 0 < l.length := (right_len hr).1
  have hok := right_cell hr _ (List.getElem_mem h1)
  unfold guardS
  rw [guardK_eq, headC_get h1]
  have hit : isTrueS l = ((l[0].t.toList == [116, 114, 117, 101]) && (((l[0].k == 3) && (l[0].n == 0)) || (l[0].k == 2))) := by
    unfold isTrueS
    rw [isB_get h1]
    have e1 : tTrue.toList = [116, 114, 117, 101] := by rw [ByteArray.toList_eq]; rfl
    rw [e1]; simp
  have hfl : flatB l = decide ((l.length : Int) = 1 + l[0].n) := by
    unfold flatB; rw [headC_get h1]; simp [BEq.beq]
  by_cases hk3 : l[0].k = 3
  · obtain ⟨⟨hal, hn1, hn8⟩, _⟩ := sum_struct hr h1 hk3
    obtain ⟨s1, _, _⟩ := argsL_spec l hr h1 (by rw [headK_get h1]; exact hk3)
    have hit0 : isTrueS l = false := by
      rw [hit, hk3]
      have : (l[0].n == 0) = false := by simp; omega
      rw [this]; simp
    have hA : ∀ a ∈ argsL l, rightB a = true := fun a ha => arg_right hr ha
    have hdr : l.drop 1 = l.tail := by simp
    have hlt : l.length = l.tail.length + 1 := by simp; omega
    rw [hit0, hdr, hfl]
    have hst := ok_struct hok hk3
    generalize isTrueS l = it at *
    generalize l[0] = c at *
    generalize c.t.toList = T at *
    generalize hlen : l.length = L at *
    rw [← s1] at hlt ⊢
    generalize argsL l = rs at *
    clear hfl hit hdr s1 hr hok
    by_cases n1 : c.n = 1
    · rw [n1] at hal
      match rs, hal with
      | [x], _ =>
        obtain ⟨hx1, hx⟩ := simple_len (hA x (by simp))
        cases hc6 : cmp6 T
        · cases h4 : one4 T
          · cases h2 : eq2 T
            · simp [refGuardA, h4]
            · simp [refGuardA, h4, n1]
          · simp only [refGuardA, h4, n1]
            simp at hlt
            rw [hx]
            have : (decide ((L : Int) = 1 + 1)) = decide (x.length = 1) := by
              by_cases h : x.length = 1
              · rw [decide_eq_true h, decide_eq_true (by omega)]
              · rw [decide_eq_false h, decide_eq_false (by omega)]
            simp
            constructor <;> intro h <;> omega
        · obtain ⟨a1, a2, a3, a4, a5, a6⟩ := cmp6_f hc6
          rcases hst with ⟨b1, _⟩ | ⟨_, b2⟩
          · rw [a1] at b1; cases b1
          · omega
    · by_cases n2 : c.n = 2
      · rw [n2] at hal
        match rs, hal with
        | [x, y], _ =>
          obtain ⟨hx1, hx⟩ := simple_len (hA x (by simp))
          obtain ⟨hy1, hy⟩ := simple_len (hA y (by simp))
          cases hc6 : cmp6 T
          · cases h4 : one4 T
            · cases h2 : eq2 T
              · simp [refGuardA, hc6, h2]
              · simp only [refGuardA, hc6, h2, n2]
                simp at hlt
                rw [hx, hy]
                have : (decide ((L : Int) = 1 + 2)) = (decide (x.length = 1) && decide (y.length = 1)) := by
                  rw [← Bool.decide_and]
                  by_cases h : x.length = 1 ∧ y.length = 1
                  · rw [decide_eq_true h, decide_eq_true (by omega)]
                  · rw [decide_eq_false h, decide_eq_false (by omega)]
                have e3 : (1 : Int) + 2 = 3 := rfl
                rw [e3] at this
                simp
                exact this
            · obtain ⟨a1, a2, a3, a4, a5⟩ := one4_f h4
              simp [refGuardA, hc6, n2, a3]
          · simp [refGuardA, hc6, sumAll_append]
      · have hr0 : refGuardA false T rs = false := by
          match rs with
          | [] => rfl
          | [x] => simp at hal; omega
          | [x, y] => simp at hal; omega
          | x :: y :: z :: r => rfl
        rw [hr0]
        have hc6 : cmp6 T = false := by
          cases hc6 : cmp6 T
          · rfl
          · obtain ⟨a1, a2, a3, a4, a5, a6⟩ := cmp6_f hc6
            rcases hst with ⟨b1, _⟩ | ⟨_, b2⟩
            · rw [a1] at b1; cases b1
            · omega
        rw [hc6]
        simp [n1, n2]
  · rw [argsL_none l (by rw [headK_get h1]; exact fun h => hk3 h.2.2)]
    have hr0 : refGuardA (isTrueS l) l[0].t.toList [] = isTrueS l := by simp [refGuardA]
    rw [hr0, hit]
    generalize sumAll (l.drop 1) = sa
    generalize flatB l = fb at *
    clear hfl hit hr0
    generalize l[0] = c at *
    rcases ok_kinds hok with hk | hk | hk | hk
    · rw [ok_var hok (.inl hk)]; simp [cmp6, one4, eq2]
    · obtain ⟨hn, hm⟩ := ok_atom hok hk
      rw [hn, hk]
      generalize c.t.toList = T at *
      cases hc6 : cmp6 T
      · cases h4 : one4 T
        · cases h2 : eq2 T
          · simp
          · obtain ⟨a1, a2, a3, a4, a5⟩ := eq2_f h2
            simp at a4; simp [a4]
        · obtain ⟨a1, a2, a3, a4, a5⟩ := one4_f h4
          simp at a4; simp [a4]
      · obtain ⟨a1, _⟩ := cmp6_f hc6
        rw [a1] at hm; cases hm
    · exact absurd hk hk3
    · rw [ok_var hok (.inr hk)]; simp [cmp6, one4, eq2]
end Go.Proofs.YtlfccjlifjppdaaGreatDoor
namespace Go.Proofs.YtlfccjlifjppdaaGreatDoor
open Go.RowKit
set_option maxRecDepth 100000 in
set_option maxHeartbeats 8000000 in
theorem k11_one (l : List C) (v : Value) (w : World) (h : TermAt w v l) (hr : rightB l = true) (hit0 : isTrueS l = false) (n1 : (argsL l).length = 1) :
    Calls Tryz.prog 68 #[v] w fun e w' => e = .returned (.bool (guardS l)) ∧ Below w.heap.size w w' := by
  have H26 := c23 l v w h
  have h1 : 0 < l.length := (right_len hr).1
  rw [hr] at H26
  have HT : Hid (TermAt w v l) := h
  have HG : Hid (guardS l = refGuardA (isTrueS l) (headC l).t.toList (argsL l)) := guard_eq hr
  rw [headC_get h1, hit0] at HG
  have Ht := fun W (hW : Below w.heap.size w W) => c29 l v tTrue 0 W (HT.out.below hW)
  have Ha := fun W (hW : Below w.heap.size w W) => c27 l v W (HT.out.below hW)
  have HSUM : Hid (∀ a ∈ argsL l, ∀ x W, TermAt W x a → Calls Tryz.prog 95 #[x] W fun e w' => e = .returned (.bool (sumAll a)) ∧ Below W.heap.size W w') := fun a ha x W hx => k27 _ a x W (Nat.le_refl _) hx (arg_right hr ha)
  have HSIM : Hid (∀ a ∈ argsL l, ∀ x W, TermAt W x a → Calls Tryz.prog 94 #[x] W fun e w' => e = .returned (.bool (simpleS a)) ∧ Below W.heap.size W w') := fun a ha x W hx => k31 a x W hx (right_len (arg_right hr ha)).1
  have HCL : Hid (∀ W, Below w.heap.size w W → ∃ b o cap, v = .slice (some ⟨b, o, none⟩) l.length cap ∧ W.cell? ⟨b, o + 1, none⟩ = some (.string l[0].t)) := fun W hW => by
    obtain ⟨_, h⟩ := HT.out.below hW
    rcases h with ⟨e, _⟩ | ⟨b, o, cap, e, _, _, h3, _⟩
    · rw [e] at h1; simp at h1
    · obtain ⟨p0, p1, p2, p3, p4⟩ := term_cells h3 0 h1
      simp only [Nat.zero_mul, Nat.add_zero] at p0 p1 p2 p3 p4
      exact ⟨b, o, cap, e, p1⟩
  have h1' : (0 : Int) < (l.length : Int) := by omega
  have hit : isTrueS l = isB l tTrue 0 := rfl
  rw [hit] at hit0
  rw [hit0] at Ht
  simp only [tTrue] at Ht
  clear hr h hit hit0
  generalize l[0] = c at *
  obtain ⟨xa, hxa⟩ : ∃ xa, argsL l = [xa] := by
    match h : argsL l, n1 with
    | [xa], _ => exact ⟨xa, rfl⟩
  have HA : Hid (∀ x W, TermAt W x xa → Calls Tryz.prog 94 #[x] W fun e w' => e = .returned (.bool (simpleS xa)) ∧ Below W.heap.size W w') := fun x W hx => HSIM.out xa (by rw [hxa]; simp) x W hx
  rw [hxa] at Ha HG
  have HG' : Hid (guardS l = (one4 c.t.toList && simpleS xa)) := by
    show guardS l = _
    rw [HG.out]; unfold refGuardA; simp
  clear HSUM HSIM n1 HG hxa
  generalize hga : guardS l = ga at *
  clear hga
  go_enter Tryz.func68, Tryz.ntmps68
  go_wp2_with fail
  refine H26.mono ?_
  rintro e w1 ⟨rfl, hb⟩
  obtain ⟨b, o, cap, rfl, _⟩ := HCL.out _ hb
  go_wp2_with fail
  refine (Ht _ hb).mono ?_
  rintro e w' ⟨rfl, hw'⟩
  obtain rfl := hw'.symm
  go_wp2_with fail
  refine (Ha _ hb).mono ?_
  rintro e w2 ⟨u, rfl, hR, hb2⟩
  have hb2' := hb.trans (hb2.mono hb.size)
  obtain ⟨b', o', cap', hv', p1⟩ := HCL.out _ hb2'
  simp only [Value.slice.injEq, Option.some.injEq, Addr.mk.injEq, and_true, true_and] at hv'
  obtain ⟨⟨rfl, rfl⟩, rfl⟩ := hv'
  obtain ⟨bu, ou, cu, x0, hu, cx0, ht0, hbu⟩ := row_at hR 0 (by simp)
  subst hu
  rw [Nat.add_zero] at cx0
  have H0 := HA.out x0 _ ht0
  clear ht0 hR
  cases q1 : (c.t.toList == [105, 110, 116, 101, 103, 101, 114])
  rotate_left
  · have hS : Hid (ga = simpleS xa) := by
      show ga = _
      rw [HG'.out]; unfold one4; simp only [q1]; simp
    go_wp2_with fail
    refine H0.mono ?_
    rintro e w3 ⟨rfl, hb3⟩
    go_wp2_with fail
    go_ret
    exact ⟨by rw [hS.out]; rfl, hb2'.trans (hb3.mono hb2'.size)⟩
  cases q2 : (c.t.toList == [97, 116, 111, 109])
  rotate_left
  · have hS : Hid (ga = simpleS xa) := by
      show ga = _
      rw [HG'.out]; unfold one4; simp only [q1, q2]; simp
    go_wp2_with fail
    refine H0.mono ?_
    rintro e w3 ⟨rfl, hb3⟩
    go_wp2_with fail
    go_ret
    exact ⟨by rw [hS.out]; rfl, hb2'.trans (hb3.mono hb2'.size)⟩
  cases q3 : (c.t.toList == [99, 111, 109, 112, 111, 117, 110, 100])
  rotate_left
  · have hS : Hid (ga = simpleS xa) := by
      show ga = _
      rw [HG'.out]; unfold one4; simp only [q1, q2, q3]; simp
    go_wp2_with fail
    refine H0.mono ?_
    rintro e w3 ⟨rfl, hb3⟩
    go_wp2_with fail
    go_ret
    exact ⟨by rw [hS.out]; rfl, hb2'.trans (hb3.mono hb2'.size)⟩
  cases q4 : (c.t.toList == [107, 110, 111, 119, 110])
  rotate_left
  · have hS : Hid (ga = simpleS xa) := by
      show ga = _
      rw [HG'.out]; unfold one4; simp only [q1, q2, q3, q4]; simp
    go_wp2_with fail
    refine H0.mono ?_
    rintro e w3 ⟨rfl, hb3⟩
    go_wp2_with fail
    go_ret
    exact ⟨by rw [hS.out]; rfl, hb2'.trans (hb3.mono hb2'.size)⟩
  have hS : Hid (ga = false) := by
    show ga = _
    rw [HG'.out]; unfold one4; simp only [q1, q2, q3, q4]; simp
  go_wp2_with fail
  go_ret
  exact ⟨by rw [hS.out]; rfl, hb2'⟩
set_option maxRecDepth 100000 in
set_option maxHeartbeats 8000000 in
theorem k11_two (l : List C) (v : Value) (w : World) (h : TermAt w v l) (hr : rightB l = true) (hit0 : isTrueS l = false) (n2 : (argsL l).length = 2) :
    Calls Tryz.prog 68 #[v] w fun e w' => e = .returned (.bool (guardS l)) ∧ Below w.heap.size w w' := by
  have H26 := c23 l v w h
  have h1 : 0 < l.length := (right_len hr).1
  rw [hr] at H26
  have HT : Hid (TermAt w v l) := h
  have HG : Hid (guardS l = refGuardA (isTrueS l) (headC l).t.toList (argsL l)) := guard_eq hr
  rw [headC_get h1, hit0] at HG
  have Ht := fun W (hW : Below w.heap.size w W) => c29 l v tTrue 0 W (HT.out.below hW)
  have Ha := fun W (hW : Below w.heap.size w W) => c27 l v W (HT.out.below hW)
  have HSUM : Hid (∀ a ∈ argsL l, ∀ x W, TermAt W x a → Calls Tryz.prog 95 #[x] W fun e w' => e = .returned (.bool (sumAll a)) ∧ Below W.heap.size W w') := fun a ha x W hx => k27 _ a x W (Nat.le_refl _) hx (arg_right hr ha)
  have HSIM : Hid (∀ a ∈ argsL l, ∀ x W, TermAt W x a → Calls Tryz.prog 94 #[x] W fun e w' => e = .returned (.bool (simpleS a)) ∧ Below W.heap.size W w') := fun a ha x W hx => k31 a x W hx (right_len (arg_right hr ha)).1
  have HCL : Hid (∀ W, Below w.heap.size w W → ∃ b o cap, v = .slice (some ⟨b, o, none⟩) l.length cap ∧ W.cell? ⟨b, o + 1, none⟩ = some (.string l[0].t)) := fun W hW => by
    obtain ⟨_, h⟩ := HT.out.below hW
    rcases h with ⟨e, _⟩ | ⟨b, o, cap, e, _, _, h3, _⟩
    · rw [e] at h1; simp at h1
    · obtain ⟨p0, p1, p2, p3, p4⟩ := term_cells h3 0 h1
      simp only [Nat.zero_mul, Nat.add_zero] at p0 p1 p2 p3 p4
      exact ⟨b, o, cap, e, p1⟩
  have h1' : (0 : Int) < (l.length : Int) := by omega
  have hit : isTrueS l = isB l tTrue 0 := rfl
  rw [hit] at hit0
  rw [hit0] at Ht
  simp only [tTrue] at Ht
  clear hr h hit hit0
  generalize l[0] = c at *
  obtain ⟨xa, xb, hxa⟩ : ∃ xa xb, argsL l = [xa, xb] := by
    match h : argsL l, n2 with
    | [xa, xb], _ => exact ⟨xa, xb, rfl⟩
  have HA : Hid (∀ x W, TermAt W x xa → Calls Tryz.prog 94 #[x] W fun e w' => e = .returned (.bool (simpleS xa)) ∧ Below W.heap.size W w') := fun x W hx => HSIM.out xa (by rw [hxa]; simp) x W hx
  have HB : Hid (∀ x W, TermAt W x xb → Calls Tryz.prog 94 #[x] W fun e w' => e = .returned (.bool (simpleS xb)) ∧ Below W.heap.size W w') := fun x W hx => HSIM.out xb (by rw [hxa]; simp) x W hx
  have HA2 : Hid (∀ x W, TermAt W x xa → Calls Tryz.prog 95 #[x] W fun e w' => e = .returned (.bool (sumAll xa)) ∧ Below W.heap.size W w') := fun x W hx => HSUM.out xa (by rw [hxa]; simp) x W hx
  have HB2 : Hid (∀ x W, TermAt W x xb → Calls Tryz.prog 95 #[x] W fun e w' => e = .returned (.bool (sumAll xb)) ∧ Below W.heap.size W w') := fun x W hx => HSUM.out xb (by rw [hxa]; simp) x W hx
  rw [hxa] at Ha HG
  have HG' : Hid (guardS l = if cmp6 c.t.toList then sumAll xa && sumAll xb else if eq2 c.t.toList then simpleS xa && simpleS xb else false) := by
    show guardS l = _
    rw [HG.out]; unfold refGuardA; simp
  clear HSUM HSIM n2 HG hxa
  generalize hga : guardS l = ga at *
  clear hga
  go_enter Tryz.func68, Tryz.ntmps68
  go_wp2_with fail
  refine H26.mono ?_
  rintro e w1 ⟨rfl, hb⟩
  obtain ⟨b, o, cap, rfl, _⟩ := HCL.out _ hb
  go_wp2_with fail
  refine (Ht _ hb).mono ?_
  rintro e w' ⟨rfl, hw'⟩
  obtain rfl := hw'.symm
  go_wp2_with fail
  refine (Ha _ hb).mono ?_
  rintro e w2 ⟨u, rfl, hR, hb2⟩
  have hb2' := hb.trans (hb2.mono hb.size)
  obtain ⟨b', o', cap', hv', p1⟩ := HCL.out _ hb2'
  simp only [Value.slice.injEq, Option.some.injEq, Addr.mk.injEq, and_true, true_and] at hv'
  obtain ⟨⟨rfl, rfl⟩, rfl⟩ := hv'
  obtain ⟨bu, ou, cu, x0, hu, cx0, ht0, hbu⟩ := row_at hR 0 (by simp)
  obtain ⟨bu', ou', cu', x1, hu', cx1, ht1, hbu'⟩ := row_at hR 1 (by simp)
  subst hu
  simp only [Value.slice.injEq, Option.some.injEq, Addr.mk.injEq, and_true, true_and] at hu'
  obtain ⟨⟨rfl, rfl⟩, rfl⟩ := hu'
  rw [Nat.add_zero] at cx0
  have HT0 : Hid (TermAt w2 x0 xa) := ht0
  have HT1 : Hid (TermAt w2 x1 xb) := ht1
  have hbu2 : Hid (bu < w2.heap.size) := hbu
  clear ht0 ht1 hR hbu hbu'
  cases q1 : (c.t.toList == [60])
  rotate_left
  · have hS : Hid (ga = (sumAll xa && sumAll xb)) := by
      show ga = _
      rw [HG'.out]; unfold cmp6 eq2; simp only [q1]; simp
    have H0 := HA2.out x0 _ HT0.out
    have H1 : Hid (∀ W, Below w2.heap.size w2 W → _) := fun W (hW : Below w2.heap.size w2 W) => HB2.out x1 W (HT1.out.below hW)
    go_wp2_with fail
    refine H0.mono ?_
    rintro e w3 ⟨rfl, hb3⟩
    have c1 : w3.cell? ⟨bu, ou + 1, none⟩ = some x1 := (hb3.cell (p := ⟨bu, ou + 1, none⟩) hbu2.out).trans cx1
    have H1' := H1.out _ hb3
    clear H0
    cases hsa : sumAll xa
    · rw [hsa] at hS
      go_wp2_with fail
      go_ret
      exact ⟨by rw [hS.out]; rfl, hb2'.trans (hb3.mono hb2'.size)⟩
    · rw [hsa] at hS
      go_wp2_with fail
      refine H1'.mono ?_
      rintro e w4 ⟨rfl, hb4⟩
      go_wp2_with fail
      go_ret
      exact ⟨by rw [hS.out]; rfl, hb2'.trans ((hb3.trans (hb4.mono hb3.size)).mono hb2'.size)⟩
  cases q2 : (c.t.toList == [61, 60])
  rotate_left
  · have hS : Hid (ga = (sumAll xa && sumAll xb)) := by
      show ga = _
      rw [HG'.out]; unfold cmp6 eq2; simp only [q1, q2]; simp
    have H0 := HA2.out x0 _ HT0.out
    have H1 : Hid (∀ W, Below w2.heap.size w2 W → _) := fun W (hW : Below w2.heap.size w2 W) => HB2.out x1 W (HT1.out.below hW)
    go_wp2_with fail
    refine H0.mono ?_
    rintro e w3 ⟨rfl, hb3⟩
    have c1 : w3.cell? ⟨bu, ou + 1, none⟩ = some x1 := (hb3.cell (p := ⟨bu, ou + 1, none⟩) hbu2.out).trans cx1
    have H1' := H1.out _ hb3
    clear H0
    cases hsa : sumAll xa
    · rw [hsa] at hS
      go_wp2_with fail
      go_ret
      exact ⟨by rw [hS.out]; rfl, hb2'.trans (hb3.mono hb2'.size)⟩
    · rw [hsa] at hS
      go_wp2_with fail
      refine H1'.mono ?_
      rintro e w4 ⟨rfl, hb4⟩
      go_wp2_with fail
      go_ret
      exact ⟨by rw [hS.out]; rfl, hb2'.trans ((hb3.trans (hb4.mono hb3.size)).mono hb2'.size)⟩
  cases q3 : (c.t.toList == [62])
  rotate_left
  · have hS : Hid (ga = (sumAll xa && sumAll xb)) := by
      show ga = _
      rw [HG'.out]; unfold cmp6 eq2; simp only [q1, q2, q3]; simp
    have H0 := HA2.out x0 _ HT0.out
    have H1 : Hid (∀ W, Below w2.heap.size w2 W → _) := fun W (hW : Below w2.heap.size w2 W) => HB2.out x1 W (HT1.out.below hW)
    go_wp2_with fail
    refine H0.mono ?_
    rintro e w3 ⟨rfl, hb3⟩
    have c1 : w3.cell? ⟨bu, ou + 1, none⟩ = some x1 := (hb3.cell (p := ⟨bu, ou + 1, none⟩) hbu2.out).trans cx1
    have H1' := H1.out _ hb3
    clear H0
    cases hsa : sumAll xa
    · rw [hsa] at hS
      go_wp2_with fail
      go_ret
      exact ⟨by rw [hS.out]; rfl, hb2'.trans (hb3.mono hb2'.size)⟩
    · rw [hsa] at hS
      go_wp2_with fail
      refine H1'.mono ?_
      rintro e w4 ⟨rfl, hb4⟩
      go_wp2_with fail
      go_ret
      exact ⟨by rw [hS.out]; rfl, hb2'.trans ((hb3.trans (hb4.mono hb3.size)).mono hb2'.size)⟩
  cases q4 : (c.t.toList == [62, 61])
  rotate_left
  · have hS : Hid (ga = (sumAll xa && sumAll xb)) := by
      show ga = _
      rw [HG'.out]; unfold cmp6 eq2; simp only [q1, q2, q3, q4]; simp
    have H0 := HA2.out x0 _ HT0.out
    have H1 : Hid (∀ W, Below w2.heap.size w2 W → _) := fun W (hW : Below w2.heap.size w2 W) => HB2.out x1 W (HT1.out.below hW)
    go_wp2_with fail
    refine H0.mono ?_
    rintro e w3 ⟨rfl, hb3⟩
    have c1 : w3.cell? ⟨bu, ou + 1, none⟩ = some x1 := (hb3.cell (p := ⟨bu, ou + 1, none⟩) hbu2.out).trans cx1
    have H1' := H1.out _ hb3
    clear H0
    cases hsa : sumAll xa
    · rw [hsa] at hS
      go_wp2_with fail
      go_ret
      exact ⟨by rw [hS.out]; rfl, hb2'.trans (hb3.mono hb2'.size)⟩
    · rw [hsa] at hS
      go_wp2_with fail
      refine H1'.mono ?_
      rintro e w4 ⟨rfl, hb4⟩
      go_wp2_with fail
      go_ret
      exact ⟨by rw [hS.out]; rfl, hb2'.trans ((hb3.trans (hb4.mono hb3.size)).mono hb2'.size)⟩
  cases q5 : (c.t.toList == [61, 58, 61])
  rotate_left
  · have hS : Hid (ga = (sumAll xa && sumAll xb)) := by
      show ga = _
      rw [HG'.out]; unfold cmp6 eq2; simp only [q1, q2, q3, q4, q5]; simp
    have H0 := HA2.out x0 _ HT0.out
    have H1 : Hid (∀ W, Below w2.heap.size w2 W → _) := fun W (hW : Below w2.heap.size w2 W) => HB2.out x1 W (HT1.out.below hW)
    go_wp2_with fail
    refine H0.mono ?_
    rintro e w3 ⟨rfl, hb3⟩
    have c1 : w3.cell? ⟨bu, ou + 1, none⟩ = some x1 := (hb3.cell (p := ⟨bu, ou + 1, none⟩) hbu2.out).trans cx1
    have H1' := H1.out _ hb3
    clear H0
    cases hsa : sumAll xa
    · rw [hsa] at hS
      go_wp2_with fail
      go_ret
      exact ⟨by rw [hS.out]; rfl, hb2'.trans (hb3.mono hb2'.size)⟩
    · rw [hsa] at hS
      go_wp2_with fail
      refine H1'.mono ?_
      rintro e w4 ⟨rfl, hb4⟩
      go_wp2_with fail
      go_ret
      exact ⟨by rw [hS.out]; rfl, hb2'.trans ((hb3.trans (hb4.mono hb3.size)).mono hb2'.size)⟩
  cases q6 : (c.t.toList == [61, 92, 61])
  rotate_left
  · have hS : Hid (ga = (sumAll xa && sumAll xb)) := by
      show ga = _
      rw [HG'.out]; unfold cmp6 eq2; simp only [q1, q2, q3, q4, q5, q6]; simp
    have H0 := HA2.out x0 _ HT0.out
    have H1 : Hid (∀ W, Below w2.heap.size w2 W → _) := fun W (hW : Below w2.heap.size w2 W) => HB2.out x1 W (HT1.out.below hW)
    go_wp2_with fail
    refine H0.mono ?_
    rintro e w3 ⟨rfl, hb3⟩
    have c1 : w3.cell? ⟨bu, ou + 1, none⟩ = some x1 := (hb3.cell (p := ⟨bu, ou + 1, none⟩) hbu2.out).trans cx1
    have H1' := H1.out _ hb3
    clear H0
    cases hsa : sumAll xa
    · rw [hsa] at hS
      go_wp2_with fail
      go_ret
      exact ⟨by rw [hS.out]; rfl, hb2'.trans (hb3.mono hb2'.size)⟩
    · rw [hsa] at hS
      go_wp2_with fail
      refine H1'.mono ?_
      rintro e w4 ⟨rfl, hb4⟩
      go_wp2_with fail
      go_ret
      exact ⟨by rw [hS.out]; rfl, hb2'.trans ((hb3.trans (hb4.mono hb3.size)).mono hb2'.size)⟩
  cases q7 : (c.t.toList == [101, 113, 117, 97, 108])
  rotate_left
  · have hS : Hid (ga = (simpleS xa && simpleS xb)) := by
      show ga = _
      rw [HG'.out]; unfold cmp6 eq2; simp only [q1, q2, q3, q4, q5, q6, q7]; simp
    have H0 := HA.out x0 _ HT0.out
    have H1 : Hid (∀ W, Below w2.heap.size w2 W → _) := fun W (hW : Below w2.heap.size w2 W) => HB.out x1 W (HT1.out.below hW)
    go_wp2_with fail
    refine H0.mono ?_
    rintro e w3 ⟨rfl, hb3⟩
    have c1 : w3.cell? ⟨bu, ou + 1, none⟩ = some x1 := (hb3.cell (p := ⟨bu, ou + 1, none⟩) hbu2.out).trans cx1
    have H1' := H1.out _ hb3
    clear H0
    cases hsa : simpleS xa
    · rw [hsa] at hS
      go_wp2_with fail
      go_ret
      exact ⟨by rw [hS.out]; rfl, hb2'.trans (hb3.mono hb2'.size)⟩
    · rw [hsa] at hS
      go_wp2_with fail
      refine H1'.mono ?_
      rintro e w4 ⟨rfl, hb4⟩
      go_wp2_with fail
      go_ret
      exact ⟨by rw [hS.out]; rfl, hb2'.trans ((hb3.trans (hb4.mono hb3.size)).mono hb2'.size)⟩
  cases q8 : (c.t.toList == [117, 110, 108, 105, 107, 101])
  rotate_left
  · have hS : Hid (ga = (simpleS xa && simpleS xb)) := by
      show ga = _
      rw [HG'.out]; unfold cmp6 eq2; simp only [q1, q2, q3, q4, q5, q6, q7, q8]; simp
    have H0 := HA.out x0 _ HT0.out
    have H1 : Hid (∀ W, Below w2.heap.size w2 W → _) := fun W (hW : Below w2.heap.size w2 W) => HB.out x1 W (HT1.out.below hW)
    go_wp2_with fail
    refine H0.mono ?_
    rintro e w3 ⟨rfl, hb3⟩
    have c1 : w3.cell? ⟨bu, ou + 1, none⟩ = some x1 := (hb3.cell (p := ⟨bu, ou + 1, none⟩) hbu2.out).trans cx1
    have H1' := H1.out _ hb3
    clear H0
    cases hsa : simpleS xa
    · rw [hsa] at hS
      go_wp2_with fail
      go_ret
      exact ⟨by rw [hS.out]; rfl, hb2'.trans (hb3.mono hb2'.size)⟩
    · rw [hsa] at hS
      go_wp2_with fail
      refine H1'.mono ?_
      rintro e w4 ⟨rfl, hb4⟩
      go_wp2_with fail
      go_ret
      exact ⟨by rw [hS.out]; rfl, hb2'.trans ((hb3.trans (hb4.mono hb3.size)).mono hb2'.size)⟩
  have hS : Hid (ga = false) := by
    show ga = _
    rw [HG'.out]; unfold cmp6 eq2; simp only [q1, q2, q3, q4, q5, q6, q7, q8]; simp
  go_wp2_with fail
  go_ret
  exact ⟨by rw [hS.out]; rfl, hb2'⟩
set_option maxRecDepth 100000 in
set_option maxHeartbeats 8000000 in
theorem k11_more (l : List C) (v : Value) (w : World) (h : TermAt w v l) (hr : rightB l = true) (hit0 : isTrueS l = false) (n1 : (argsL l).length ≠ 1) (n2 : (argsL l).length ≠ 2) :
    Calls Tryz.prog 68 #[v] w fun e w' => e = .returned (.bool (guardS l)) ∧ Below w.heap.size w w' := by
  have H26 := c23 l v w h
  have h1 : 0 < l.length := (right_len hr).1
  rw [hr] at H26
  have HT : Hid (TermAt w v l) := h
  have HG : Hid (guardS l = refGuardA (isTrueS l) (headC l).t.toList (argsL l)) := guard_eq hr
  rw [headC_get h1, hit0] at HG
  have Ht := fun W (hW : Below w.heap.size w W) => c29 l v tTrue 0 W (HT.out.below hW)
  have Ha := fun W (hW : Below w.heap.size w W) => c27 l v W (HT.out.below hW)
  have HSUM : Hid (∀ a ∈ argsL l, ∀ x W, TermAt W x a → Calls Tryz.prog 95 #[x] W fun e w' => e = .returned (.bool (sumAll a)) ∧ Below W.heap.size W w') := fun a ha x W hx => k27 _ a x W (Nat.le_refl _) hx (arg_right hr ha)
  have HSIM : Hid (∀ a ∈ argsL l, ∀ x W, TermAt W x a → Calls Tryz.prog 94 #[x] W fun e w' => e = .returned (.bool (simpleS a)) ∧ Below W.heap.size W w') := fun a ha x W hx => k31 a x W hx (right_len (arg_right hr ha)).1
  have HCL : Hid (∀ W, Below w.heap.size w W → ∃ b o cap, v = .slice (some ⟨b, o, none⟩) l.length cap ∧ W.cell? ⟨b, o + 1, none⟩ = some (.string l[0].t)) := fun W hW => by
    obtain ⟨_, h⟩ := HT.out.below hW
    rcases h with ⟨e, _⟩ | ⟨b, o, cap, e, _, _, h3, _⟩
    · rw [e] at h1; simp at h1
    · obtain ⟨p0, p1, p2, p3, p4⟩ := term_cells h3 0 h1
      simp only [Nat.zero_mul, Nat.add_zero] at p0 p1 p2 p3 p4
      exact ⟨b, o, cap, e, p1⟩
  have h1' : (0 : Int) < (l.length : Int) := by omega
  have hit : isTrueS l = isB l tTrue 0 := rfl
  rw [hit] at hit0
  rw [hit0] at Ht
  simp only [tTrue] at Ht
  clear hr h hit hit0
  generalize l[0] = c at *
  have HG' : Hid (guardS l = false) := by
    show guardS l = _
    rw [HG.out]
    match h : argsL l with
    | [] => rfl
    | [x] => rw [h] at n1; exact absurd rfl n1
    | [x, y] => rw [h] at n2; exact absurd rfl n2
    | x :: y :: z :: r => rfl
  have g1 : (((argsL l).length : Int) == 1) = false := by simp; omega
  have g2 : (((argsL l).length : Int) == 2) = false := by simp; omega
  clear HSUM HSIM n1 n2 HG
  generalize argsL l = rs at *
  generalize hga : guardS l = ga at *
  clear hga
  go_enter Tryz.func68, Tryz.ntmps68
  go_wp2_with fail
  refine H26.mono ?_
  rintro e w1 ⟨rfl, hb⟩
  obtain ⟨b, o, cap, rfl, _⟩ := HCL.out _ hb
  go_wp2_with fail
  refine (Ht _ hb).mono ?_
  rintro e w' ⟨rfl, hw'⟩
  obtain rfl := hw'.symm
  go_wp2_with fail
  refine (Ha _ hb).mono ?_
  rintro e w2 ⟨u, rfl, hR, hb2⟩
  have hb2' := hb.trans (hb2.mono hb.size)
  obtain ⟨b', o', cap', hv', p1⟩ := HCL.out _ hb2'
  simp only [Value.slice.injEq, Option.some.injEq, Addr.mk.injEq, and_true, true_and] at hv'
  obtain ⟨⟨rfl, rfl⟩, rfl⟩ := hv'
  obtain ⟨adu, cpu, hu⟩ := hR.form
  subst hu
  clear hR
  go_wp2_with fail
  go_ret
  exact ⟨by rw [HG'.out]; rfl, hb2'⟩
set_option maxRecDepth 100000 in
theorem k11 (l : List C) (v : Value) (w : World) (h : TermAt w v l) :
    Calls Tryz.prog 68 #[v] w fun e w' => e = .returned (.bool (isGuardS l)) ∧ Below w.heap.size w w' := by
  have H26 := c23 l v w h
  cases hr : rightB l
  · have e : isGuardS l = false := by unfold isGuardS; rw [hr]; rfl
    rw [e]
    rw [hr] at H26
    go_enter Tryz.func68, Tryz.ntmps68
    go_wp2_with fail
    refine H26.mono ?_
    rintro e w' ⟨rfl, hb⟩
    go_wp2_with fail
    go_ret
    exact ⟨rfl, hb⟩
  have e : isGuardS l = guardS l := by unfold isGuardS; rw [hr]; rfl
  rw [e]
  cases hit0 : isTrueS l
  · by_cases n1 : (argsL l).length = 1
    · exact k11_one l v w h hr hit0 n1
    · by_cases n2 : (argsL l).length = 2
      · exact k11_two l v w h hr hit0 n2
      · exact k11_more l v w h hr hit0 n1 n2
  rw [hr] at H26
  have HT : Hid (TermAt w v l) := h
  have hS : Hid (guardS l = true) := by
    show guardS l = _
    rw [guard_eq hr, hit0]; unfold refGuardA; simp
  have Ht := fun W (hW : Below w.heap.size w W) => c29 l v tTrue 0 W (HT.out.below hW)
  have hit : isTrueS l = isB l tTrue 0 := rfl
  rw [hit] at hit0
  rw [hit0] at Ht
  simp only [tTrue] at Ht
  obtain ⟨adv, cpv, hv⟩ := HT.out.form
  subst hv
  clear hr h hit hit0 e
  go_enter Tryz.func68, Tryz.ntmps68
  go_wp2_with fail
  refine H26.mono ?_
  rintro e w1 ⟨rfl, hb⟩
  go_wp2_with fail
  refine (Ht _ hb).mono ?_
  rintro e w' ⟨rfl, hw'⟩
  obtain rfl := hw'.symm
  go_wp2_with fail
  go_ret
  exact ⟨by rw [hS.out]; rfl, hb⟩
end Go.Proofs.YtlfccjlifjppdaaGreatDoor
