/- The statement on the numbers of sums. -/
import Derived.Test.YtaehhophaaipdaaGreatDoorQN
import Derived.Test.YtaehhophaaipdaaGreatDoorMA
import Derived.Test.YtaehhophaaipdaaGreatDoorQO
import Derived.Test.YtaehhophaaipdaaGreatDoorQP
namespace Go.Proofs.YtaehhophaaipdaaGreatDoor
open Go.RowKit
attribute [local go_sem ↓] Go.wp_at_zero Go.wp_at_succ
theorem valR_len {m : Hp} {d : Nat} {cells : List C} {v : V3} (h : rightB cells = true → Rs m d cells v) : (valR v (rightB cells)).2.2.length ≤ 256 := by
  unfold valR
  split
  · next hr =>
    have h1 := rs_len (h hr)
    have h2 := ((right_iff _).1 hr).2.1
    omega
  · simp
/-- Both sides tell the same of a term. -/
theorem both_vals (m : Hp) (hR : RgH m) (hD : DescH m) (cells : List C) : ∃ (d : Nat) (v : V3), (rightB cells = true → Rs m d cells v) ∧
    ∀ (a : Option Addr) (val : Value) (w : World), TermAt w val cells → Signs w → HpV w (.pointer a) m → (∀ c ∈ cells, wfN (c.vn, c.vk)) → Calls Tryz.prog 9 #[.pointer a, val] w (RvPost (valR v (rightB cells)) w) := by
  have hok : HpOk m := fun x l h => ⟨(hR x l h).1, by
    have := ((right_iff _).1 (hR x l h).2).2.1
    omega⟩
  cases hr : rightB cells
  · refine ⟨0, (0, 2, []), fun h => (by cases h), fun a val w hT hS _ _ => ?_⟩
    refine (h39_wrong a cells val w hT hS hr).mono ?_
    rintro e w' ⟨rfl, h⟩
    exact post_nil h
  · obtain ⟨r1, r2, r3, r4⟩ := (right_iff _).1 hr
    obtain ⟨p, rest, v, e, h2, h3, h4, h5, h6⟩ := bothS hR hD cells.length cells 0 (Nat.le_refl _) r2 r4 r3
    have e0 := compQ_zero h3
    subst e0
    rw [List.append_nil] at e
    subst e
    obtain ⟨n, rest', names', hs, _, h7⟩ := h6 []
    refine ⟨cells.length, v, fun _ => h4, fun a val w hT hS hp hW => ?_⟩
    refine (h39 m hok a cells val w cells.length n v.2.1 rest' names' hT hS hr hp hs hW (by omega)).mono ?_
    rintro e w' ⟨nv, rfl, ⟨base, hN⟩, hb⟩
    have e1 : valN n v.2.1 = v.1 ∧ valM v.2.1 names' = v.2.2 := by
      by_cases e2 : v.2.1 = 2
      · rcases h5 with h5 | h5 | h5
        · omega
        · rw [h5]
          exact ⟨rfl, rfl⟩
        · omega
      · obtain ⟨_, e3, e4⟩ := h7 e2
        unfold valN valM
        rw [if_neg e2, if_neg e2, e3, e4]
        refine ⟨rfl, ?_⟩
        rcases h5 with h5 | h5 | h5
        · rw [h5.2.1]
          rfl
        · rw [h5] at e2
          exact absurd rfl e2
        · exact h5.2.2.2
    rw [e1.2] at hN
    have hl : v.2.2.length ≤ maxLen := by
      have := rs_len h4
      unfold maxLen
      omega
    have hN2 := namesAt_of_owns (base := base) hN hl
    obtain ⟨q, c, rfl⟩ := hN2.form
    rw [e1.1]
    exact ⟨q, c, rfl, hN2, hb⟩
theorem eqNs_refl (l : List Nm) : eqNs l l = true := by
  unfold eqNs
  simp
set_option maxRecDepth 100000 in
set_option maxHeartbeats 8000000 in
theorem l3 (b0 : Option Addr) (n0 c0 : Nat) (bs0 : List Bn) (l : List C) (v1 : Value) (w : World) (hA : BdRow w b0 n0 bs0) (hn : n0 ≤ 3518437208780) (hT : TermAt w v1 l) (hW : ∀ c ∈ l, wfN (c.vn, c.vk)) (hby : l.length * 48 ≤ 140737488355328) (hS : Signs w) :
    Calls Tryz.prog 3 #[.slice b0 n0 c0, v1] w fun e w' => e = .returned (.bool true) ∧ Below w.heap.size w w' := by
  have H7 := i7 b0 n0 c0 bs0 w hA hn hS
  obtain ⟨va, vc, hv1⟩ := hT.form
  subst hv1
  obtain ⟨dN, vN, hRN, KN⟩ := both_vals [] (fun x l h => by cases h) (fun x l h => by cases h) l
  have hlN := valR_len hRN
  have HX : Hid (TermAt w (.slice va l.length vc) l ∧ (∀ c ∈ l, wfN (c.vn, c.vk)) ∧ Signs w ∧ 48 * l.length ≤ 140737488355328) := ⟨hT, hW, hS, by omega⟩
  have N10 : Hid (∀ W, Below w.heap.size w W → Calls Tryz.prog 10 #[.pointer none, .slice va l.length vc] W (RvPost (valR vN (rightB l)) W)) := fun W h => z10 [] w none (der_nil w) l dN vN _ W h (HX.out.1.below h) HX.out.2.1 hRN
  have N9 : Hid (∀ W val, Below w.heap.size w W → TermAt W val l → Calls Tryz.prog 9 #[.pointer none, val] W (RvPost (valR vN (rightB l)) W)) := fun W val h h2 => KN none val W h2 (HX.out.2.2.1.below h) (.inl ⟨rfl, rfl⟩) HX.out.2.1
  generalize valR vN (rightB l) = uN at *
  clear KN hRN hA hT hW hS hby
  go_enter Tryz.func3, Tryz.ntmps3
  go_wp2_with fail
  refine H7.mono ?_
  rintro e w1 ⟨hb, M, rt, rfl, H1⟩
  clear H7
  obtain ⟨uM, hlM, HM⟩ : ∃ uM : V3, uM.2.2.length ≤ 256 ∧ Hid (Below w.heap.size w w1 ∧ (∀ W, Below w1.heap.size w1 W → Calls Tryz.prog 10 #[.pointer (some ⟨rt, 0, none⟩), .slice va l.length vc] W (RvPost uM W)) ∧ ∀ W val, Below w1.heap.size w1 W → TermAt W val l → Calls Tryz.prog 9 #[.pointer (some ⟨hb, 0, none⟩), val] W (RvPost uM W)) := by
    obtain ⟨m, G, bs, h1, h2, h3, h4⟩ := H1.out
    obtain ⟨n, D, V, k1, k2, k3, k4⟩ := h1.hp
    obtain ⟨d, v, j1, j2⟩ := both_vals m (fun x l h => (h1.len x l h).2) k1.desc l
    have hbel := h1.bel
    refine ⟨valR v (rightB l), valR_len j1, hbel, fun W hW => ?_, fun W val hW hT => ?_⟩
    · subst h2
      have hd := der_rf h1.rf h3 k1.desc k1.wf (by omega)
      exact z10 (hpOf bs) w1 _ hd l d v _ W hW (HX.out.1.below (hbel.trans (hW.mono hbel.size))) HX.out.2.1 j1
    · exact j2 _ val W hT (HX.out.2.2.1.below (hbel.trans (hW.mono hbel.size))) (.inr ⟨hb, M, n, D, rfl, k1.below hW⟩) HX.out.2.1
  clear H1
  have H8 := k6 l (.slice va l.length vc) w1 (HX.out.1.below HM.out.1) HX.out.2.2.2
  obtain ⟨m1, m2, m3⟩ := uM
  obtain ⟨n1, n2, n3⟩ := uN
  dsimp only at hlM hlN
  go_wp2_with fail
  refine H8.mono ?_
  rintro e w2 ⟨g, rfl, hr2, hg2, hb2⟩
  clear H8
  have HH : Hid (w2.rangeAt g 0 (flat (handL l)) ∧ g < w2.heap.size ∧ Below w1.heap.size w1 w2 ∧ TermAt w2 (.slice (some ⟨g, 0, none⟩) l.length (l.length + 9)) l) := ⟨hr2, hg2, hb2, hand_term hr2 hg2 HX.out.1.1.2 HX.out.2.2.2⟩
  clear hr2 hg2 hb2
  have H9 := HM.out.2.2 w2 _ HH.out.2.2.1 HH.out.2.2.2
  go_wp2_with fail
  refine H9.mono ?_
  rintro e w3 ⟨qa, qc, rfl, hN3, hb3⟩
  clear H9
  dsimp only at hN3
  have HB3 : Hid (NamesAt w3 (.slice qa m3.length qc) m3 ∧ Below w2.heap.size w2 w3 ∧ Below w1.heap.size w1 w3) := ⟨hN3, hb3, HH.out.2.2.1.trans (hb3.mono HH.out.2.2.1.size)⟩
  clear hN3 hb3
  have H10 := HM.out.2.1 w3 HB3.out.2.2
  dsimp only
  go_wp2_with fail
  refine H10.mono ?_
  rintro e w4 ⟨ra, rc, rfl, hN4, hb4⟩
  clear H10
  dsimp only at hN4
  have HB4 : Hid (NamesAt w4 (.slice qa m3.length qc) m3 ∧ NamesAt w4 (.slice ra m3.length rc) m3 ∧ Below w2.heap.size w2 w4 ∧ Below w.heap.size w w4) := by
    obtain ⟨h1, h2, h3⟩ := HB3.out
    have h4 := h3.trans (hb4.mono h3.size)
    exact ⟨h1.below hb4, hN4, h2.trans (hb4.mono h2.size), HM.out.1.trans (h4.mono HM.out.1.size)⟩
  clear hN4 hb4 HB3
  have H9 := N9.out w4 (.slice (some ⟨g, 0, none⟩) l.length (l.length + 9)) HB4.out.2.2.2 (HH.out.2.2.2.below HB4.out.2.2.1)
  dsimp only
  go_wp2_with fail
  refine H9.mono ?_
  rintro e w5 ⟨sa, sc, rfl, hN5, hb5⟩
  clear H9
  dsimp only at hN5
  have HB5 : Hid (Below w4.heap.size w4 w5 ∧ NamesAt w5 (.slice sa n3.length sc) n3 ∧ Below w.heap.size w w5) := ⟨hb5, hN5, HB4.out.2.2.2.trans (hb5.mono HB4.out.2.2.2.size)⟩
  clear hN5 hb5
  have H10 := N10.out w5 HB5.out.2.2
  dsimp only
  go_wp2_with fail
  refine H10.mono ?_
  rintro e w6 ⟨ta, tc, rfl, hN6, hb6⟩
  clear H10
  dsimp only at hN6
  have HB6 : Hid (NamesAt w6 (.slice qa m3.length qc) m3 ∧ NamesAt w6 (.slice ra m3.length rc) m3 ∧ NamesAt w6 (.slice sa n3.length sc) n3 ∧ NamesAt w6 (.slice ta n3.length tc) n3 ∧ Below w2.heap.size w2 w6 ∧ Below w.heap.size w w6) := by
    obtain ⟨h1, h2, h3, h4⟩ := HB4.out
    obtain ⟨g1, g2, g3⟩ := HB5.out
    have hb46 := g1.trans (hb6.mono g1.size)
    exact ⟨h1.below hb46, h2.below hb46, g2.below hb6, hN6, h3.trans (hb46.mono h3.size), g3.trans (hb6.mono g3.size)⟩
  clear hN6 hb6 HB5 HB4 HM N9 N10
  have L11 : Hid (∀ W, Below w6.heap.size w6 W → Calls Tryz.prog 11 #[] W fun e w' => e = .returned (.bool true) ∧ Below W.heap.size W w') := fun W h => h19 W (HX.out.2.2.1.below (HB6.out.2.2.2.2.2.trans (h.mono HB6.out.2.2.2.2.2.size)))
  have S12 : Hid (∀ W, Below w6.heap.size w6 W → (Calls Tryz.prog 12 #[.slice qa m3.length qc, .slice ra m3.length rc] W fun e w' => e = .returned (.bool true) ∧ Below W.heap.size W w') ∧ (Calls Tryz.prog 12 #[.slice sa n3.length sc, .slice ta n3.length tc] W fun e w' => e = .returned (.bool true) ∧ Below W.heap.size W w')) := fun W h => by
    have a1 := c33 m3 m3 _ _ W (HB6.out.1.below h) (HB6.out.2.1.below h)
    have a2 := c33 n3 n3 _ _ W (HB6.out.2.2.1.below h) (HB6.out.2.2.2.1.below h)
    rw [eqNs_refl] at a1 a2
    exact ⟨a1, a2⟩
  have K13 : Hid (∀ W, Below w6.heap.size w6 W → Calls Tryz.prog 13 #[.slice (some ⟨g, 0, none⟩) l.length (l.length + 9), .slice va l.length vc] W fun e w' => e = .returned (.bool true) ∧ Below W.heap.size W w') := fun W h => by
    have b2 := HB6.out.2.2.2.2.1.trans (h.mono HB6.out.2.2.2.2.1.size)
    have b0 := HB6.out.2.2.2.2.2.trans (h.mono HB6.out.2.2.2.2.2.size)
    exact k14 l _ g W (HX.out.1.below b0) (range_below HH.out.1 HH.out.2.1 b2) (Nat.lt_of_lt_of_le HH.out.2.1 b2.size) HX.out.2.2.2
  have e1 : (m1 == m1) = true := by simp
  have e2 : (m2 == m2) = true := by simp
  have e3 : (n1 == n1) = true := by simp
  have e4 : (n2 == n2) = true := by simp
  have H11 := L11.out w6 (Below.refl _ _)
  dsimp only
  go_wp2_with fail
  refine H11.mono ?_
  rintro e w7 ⟨rfl, b7⟩
  have HB7 : Hid (Below w6.heap.size w6 w7) := b7
  have H12 := (S12.out w7 b7).1
  clear b7 H11
  go_wp2_with fail
  refine H12.mono ?_
  rintro e w8 ⟨rfl, b8⟩
  have HB8 : Hid (Below w6.heap.size w6 w8) := HB7.out.trans (b8.mono HB7.out.size)
  have H12 := (S12.out w8 HB8.out).2
  clear b8
  go_wp2_with fail
  refine H12.mono ?_
  rintro e w9 ⟨rfl, b9⟩
  have HB9 : Hid (Below w6.heap.size w6 w9) := HB8.out.trans (b9.mono HB8.out.size)
  have H13 := K13.out w9 HB9.out
  clear b9 H12
  go_wp2_with fail
  refine H13.mono ?_
  rintro e w10 ⟨rfl, b10⟩
  have HF : Hid (Below w.heap.size w w10) := by
    have h1 := HB9.out.trans (b10.mono HB9.out.size)
    exact HB6.out.2.2.2.2.2.trans (h1.mono HB6.out.2.2.2.2.2.size)
  clear b10 H13
  go_wp2_with fail
  go_ret
  exact ⟨rfl, HF.out⟩
end Go.Proofs.YtaehhophaaipdaaGreatDoor
