/- Contract of 'maps' once more: which map comes of the bindings. Sums and guards by a map that says more; values that are not there. -/
import Derived.Test.YtaehhophaaipdaaGreatDoorMA
import Derived.Test.YtaehhophaaipdaaGreatDoorGV
import Derived.Test.YtaehhophaaipdaaGreatDoorQN
import Derived.Test.YtaehhophaaipdaaGreatDoorQO
namespace Go.Proofs.YtaehhophaaipdaaGreatDoor
open Go.RowKit
attribute [local go_sem ↓] Go.wp_at_zero Go.wp_at_succ
/-- What bindings make of no map. -/
def foldB (bs : List Bn) : Hp := bs.foldl (fun m b => bindH m b.x b.l) []
theorem foldB_snoc (bs : List Bn) (b : Bn) : foldB (bs ++ [b]) = bindH (foldB bs) b.x b.l := by
  unfold foldB
  rw [List.foldl_append]
  rfl
theorem fold_more : ∀ (bs : List Bn) (m m0 : Hp), (∀ y l, lookH m0 y = some l → lookH m y = some l) → ∀ y l, lookH m0 y = some l → lookH (bs.foldl (fun m b => bindH m b.x b.l) m) y = some l
  | [], _, _, h => h
  | b :: bs, m, m0, h => fold_more bs (bindH m b.x b.l) m0 fun y l hl => look_bind (h y l hl)
/-- More bindings say more. -/
theorem fold_sub (a b : List Bn) : ∀ y l, lookH (foldB a) y = some l → lookH (foldB (a ++ b)) y = some l := by
  unfold foldB
  rw [List.foldl_append]
  exact fold_more b _ _ fun _ _ h => h
/-- Both maps behind k bindings. -/
def BmF (wB w : World) (hb M rt k : Nat) (m : Hp) : Prop := ∃ G bs, Bm wB hb M rt k m G bs w ∧ hpOf bs = m ∧ RisesH m ∧ bs.length ≤ k
set_option maxRecDepth 100000 in
set_option maxHeartbeats 4000000 in
theorem i7f (a : Option Addr) (n c : Nat) (bs0 : List Bn) (w : World) (hA : BdRow w a n bs0) (hn : n ≤ 3518437208780) (hS : Signs w) :
    Calls Tryz.prog 7 #[.slice a n c] w fun e w' => ∃ hb M rt, e = .returned (.tuple #[.pointer (some ⟨hb, 0, none⟩), .pointer (some ⟨rt, 0, none⟩)]) ∧ Hid (BmF w w' hb M rt n (foldB bs0)) := by
  have HV : Hid (BdRow w a n bs0 ∧ Signs w) := ⟨hA, hS⟩
  have H22 : Calls Tryz.prog 27 #[] w fun e w' => ∃ hb M, e = .returned (.pointer (some ⟨hb, 0, none⟩)) ∧ Hid (HpAt w' hb M 0 (.map []) [] ∧ Below w.heap.size w w' ∧ w.heap.size ≤ hb ∧ w.heap.size ≤ M) := by
    refine (h26 w).mono ?_
    rintro e w' ⟨rfl, h1, h2⟩
    exact ⟨_, _, rfl, h1, h2, by omega, Nat.le_refl _⟩
  clear hA hS
  go_enter Tryz.func7, Tryz.ntmps7
  go_wp2_with fail
  refine H22.mono ?_
  rintro e w1 ⟨hb, M, rfl, HI0⟩
  clear H22
  have H23 : Calls Tryz.prog 28 #[] w1 fun e w' => ∃ rt, e = .returned (.pointer (some ⟨rt, 0, none⟩)) ∧ Hid (BmF w w' hb M rt 0 []) := by
    refine (i23 w1).mono ?_
    rintro e w' ⟨rfl, h1, h2⟩
    obtain ⟨t1, t2, t3, t4⟩ := HI0.out
    have hhb : hb < w1.heap.size := (Array.getElem?_eq_some_iff.1 t1.blk).1
    have hM := t1.map.lt
    have hs := t2.size
    refine ⟨_, rfl, (fun _ => False), [], ⟨⟨0, _, (fun _ => False), t1.below h2, fun x v hx hv g hg => ?_, Nat.le_refl _, fun g hg => hg.elim⟩, h1, fun g hg => hg.elim, ⟨t3, t4, by omega, by omega, by omega⟩, t2.trans (h2.mono t2.size), fun x l hl => by cases hl⟩, rfl, List.Pairwise.nil, Nat.le_refl _⟩
    have e1 := Maps.has_true_of_atKey hv
    rw [t1.no x hx rfl] at e1
    cases e1
  go_wp2_with fail
  refine H23.mono ?_
  rintro e w1b ⟨rt, rfl, HT0⟩
  clear H23 HI0
  go_wp2_with fail
  go_loopw [6] (fun i wr => ∃ k : Nat, k ≤ n ∧ i = .int .i64 k ∧ Hid (BmF w wr hb M rt k (foldB (bs0.take k)))) (fun i _ => n - (intOf i).toNat)
  case atStart => exact ⟨0, Nat.zero_le _, rfl, HT0⟩
  case round =>
    clear HT0
    obtain ⟨k, hk, rfl, HK⟩ := hrel
    by_cases hlt : k < n
    · have hltI : (k : Int) < (n : Int) := by omega
      have hk0 : (0 : Int) ≤ (k : Int) := by omega
      obtain ⟨m, hm0⟩ : ∃ m, foldB (bs0.take k) = m := ⟨_, rfl⟩
      rw [hm0] at HK
      have HM : Hid (foldB (bs0.take k) = m) := hm0
      clear hm0
      obtain ⟨G, bs, HB⟩ : ∃ G bs, Hid (Bm w hb M rt k m G bs wr ∧ hpOf bs = m ∧ RisesH m ∧ bs.length ≤ k) := HK.out
      clear HK
      obtain ⟨b, o, hx, rfl, hbl, c0, c1, c2⟩ := HV.out.1.row.at hlt
      obtain ⟨e1, e2, e3, e4⟩ := HV.out.1.el _ (List.getElem_mem hx)
      obtain ⟨q, hq⟩ : ∃ q, bs0[k] = q := ⟨_, rfl⟩
      have HQ : Hid (foldB (bs0.take (k + 1)) = bindH m q.x q.l) := by
        show _ = _
        rw [List.take_succ_eq_append_getElem hx, hq, foldB_snoc, HM.out]
      rw [hq] at c0 c1 c2 e1 e2 e3 e4
      obtain ⟨⟨x1, x2⟩, la, ln, lc, ll⟩ := q
      simp only [Bn.v] at c0 c1 c2 e1 e2 e3 e4
      have HCL : Hid (∀ u, Below w.heap.size w u → u.cell? ⟨b, o + k * 3, none⟩ = some (.int .i64 x1) ∧ u.cell? ⟨b, o + k * 3 + 1, none⟩ = some (.int .i64 x2) ∧ u.cell? ⟨b, o + k * 3 + 2, none⟩ = some (.slice la ln lc)) := fun u hu => ⟨(hu.cell (p := ⟨b, o + k * 3, none⟩) hbl).trans c0, (hu.cell (p := ⟨b, o + k * 3 + 1, none⟩) hbl).trans c1, (hu.cell (p := ⟨b, o + k * 3 + 2, none⟩) hbl).trans c2⟩
      have HX : Hid (TermAt w (.slice la ln lc) ll ∧ wfN (x1, x2) ∧ (∀ c ∈ ll, wfN (c.vn, c.vk)) ∧ ll.length * 48 ≤ 140737488355328) := ⟨e1, e2, e3, e4⟩
      clear hx hbl c0 c1 c2 e1 e2 e3 e4 hq
      obtain ⟨p0, p1, p2⟩ := HCL.out wr HB.out.1.bel
      have H29 : ∀ W, Hid (Below wr.heap.size wr W) → Calls Tryz.prog 29 #[.pointer (some ⟨hb, 0, none⟩), .agg #[.int .i64 x1, .int .i64 x2], .slice la ln lc] W fun e w' => e = .returned (.int .i64 (bindE m (x1, x2) ll)) ∧ Hid (Bm w hb M rt (k + 1) (bindH m (x1, x2) ll) G bs w') := fun W hW => bm_29 (x1, x2) ll _ (HB.out.1.below hW.out) HX.out.1 HX.out.2.2.2 HX.out.2.1 HX.out.2.2.1 HV.out.2 (by omega)
      generalize bindE m (x1, x2) ll = E1 at *
      go_wp2_with fail
      go_region_with (go_at_call 29; refine (H29 _ (Below.drew (Below.refl _ _))).mono ?_; rintro e w3 ⟨rfl, H3⟩)
      all_goals (
        obtain ⟨r0, r1, r2⟩ := HCL.out w3 H3.out.bel
        have H30 : ∀ W, Hid (Below w3.heap.size w3 W) → Calls Tryz.prog 30 #[.pointer (some ⟨rt, 0, none⟩), .agg #[.int .i64 x1, .int .i64 x2], .slice la ln lc] W fun e w' => e = .returned (.int .i64 (bindE (hpOf bs) (x1, x2) ll)) ∧ Hid (∃ G' bs', hpOf bs' = bindH (hpOf bs) (x1, x2) ll ∧ bs'.length ≤ bs.length + 1 ∧ Bm w hb M rt (k + 1) (bindH m (x1, x2) ll) G' bs' w') := fun W hW => bm_30 (x1, x2) ll _ (H3.out.below hW.out) HX.out.1 HX.out.2.2.2 (by have := HB.out.2.2.2; omega)
        clear p0 p1 p2 H29
        generalize bindE (hpOf bs) (x1, x2) ll = E2 at *
        go_wp2_with fail
        go_region_with (go_at_call 30; refine (H30 _ (Below.drew (Below.refl _ _))).mono ?_; rintro e w4 ⟨rfl, H4⟩)
        all_goals (
          have HF : Hid (BmF w w4 hb M rt (k + 1) (foldB (bs0.take (k + 1)))) := by
            obtain ⟨G', bs', h1, h2, h3⟩ := H4.out
            obtain ⟨_, g2, g3, g4⟩ := HB.out
            have hQ : foldB (bs0.take (k + 1)) = bindH m (x1, x2) ll := HQ.out
            rw [hQ]
            refine ⟨G', bs', h3, by rw [h1, g2], ?_, by omega⟩
            exact rises_bind g3
          clear H4 H30
          go_wp2_with fail
          go_roundw
          case rel => exact ⟨k + 1, by omega, by go_num, HF⟩
          case measure => simp [intOf]; omega))
    · have hltI : ¬ (k : Int) < (n : Int) := by omega
      obtain rfl : k = n := by omega
      have e0 : bs0.take k = bs0 := List.take_of_length_le (by have := HV.out.1.row.1; omega)
      rw [e0] at HK
      clear e0
      go_wp2_with fail
      exact bodyPost_ret (v := .tuple #[.pointer (some ⟨hb, 0, none⟩), .pointer (some ⟨rt, 0, none⟩)]) (by simp [results, Tryz.results7, go_sem]) rfl ⟨hb, M, rt, rfl, HK⟩
end Go.Proofs.YtaehhophaaipdaaGreatDoor

namespace Go.Proofs.YtaehhophaaipdaaGreatDoor
open Go.RowKit
attribute [local go_sem ↓] Go.wp_at_zero Go.wp_at_succ
/-- Names that are waited for can be read. -/
theorem rs_wf {m : Hp} (hm : HpOk m) (hw : ∀ x l, lookH m x = some l → ∀ c ∈ l, wfN (c.vn, c.vk)) {d : Nat} {p : List C} {v : V3} (h : Rs m d p v) : rightB p = true → (∀ c ∈ p, wfN (c.vn, c.vk)) → ∀ x ∈ v.2.2, wfN x := by
  induction h with
  | @leaf d c e r' hk hf =>
    intro hr hW x hx
    unfold leafR at hx
    split at hx
    · cases hx
    · split at hx
      · simp at hx
        rw [hx]
        exact (fol_ok hm (P := fun l => ∀ c ∈ l, wfN (c.vn, c.vk)) hw hf.1 ⟨by simp, hW⟩).2 e (by simp)
      · cases hx
  | none hk hn => intro _ _ x hx; cases hx
  | @op d c r i rs hk hi hm' hl hw' hok hs ih =>
    intro hr hW x hx
    have key : ∀ x ∈ waitsF [] rs, wfN x := fun x hx => by
      rcases waits_mem rs [] hx with h1 | ⟨v, hv, h1⟩
      · cases h1
      · obtain ⟨j, hj, rfl⟩ := List.getElem_of_mem hv
        have hj' : j < (argsL (c :: r)).length := by omega
        obtain ⟨_, _, a3⟩ := argsL_spec (c :: r) hr (by simp) hk
        obtain ⟨g1, g2, g3, g4⟩ := a3 _ (List.getElem_mem hj')
        have h256 := ((right_iff _).1 hr).2.1
        have ha := ((right_iff _).1 hr).2.2.1
        rw [List.all_eq_true] at ha
        refine ih j _ _ (List.getElem?_eq_getElem hj') (List.getElem?_eq_getElem hj) ((right_iff _).2 ⟨g2, by omega, ?_, eat_comp _ 1 g1⟩) (fun c hc => hW c (g4 c hc)) x h1
        rw [List.all_eq_true]
        exact fun y hy => ha y (g4 y hy)
    unfold finR at hx
    split at hx
    · cases hx
    · split at hx
      · split at hx <;> cases hx
      · exact key x hx
/-- What a sum is by one map. -/
structure Vu (m : Hp) (cells : List C) (u : V3) : Prop where
  ok : OkV u
  free : ∀ x ∈ u.2.2, lookH m x = none
  wrong : rightB cells = false → u = (0, 2, [])
  sm : rightB cells = true → ∃ d n rest names', Sm m d cells [] n u.2.1 rest names' ∧ (u.2.1 ≠ 2 → n = u.1)
  len : u.2.2.length ≤ 256
theorem vals_of (m : Hp) (hR : RgH m) (hD : DescH m) (cells : List C) : ∃ u : V3, Vu m cells u ∧ ((∀ x l, lookH m x = some l → ∀ c ∈ l, wfN (c.vn, c.vk)) → (∀ c ∈ cells, wfN (c.vn, c.vk)) → ∀ x ∈ u.2.2, wfN x) ∧
    ∀ (a : Option Addr) (val : Value) (w : World), TermAt w val cells → Signs w → HpV w (.pointer a) m → (∀ c ∈ cells, wfN (c.vn, c.vk)) → Calls Tryz.prog 9 #[.pointer a, val] w (RvPost u w) := by
  have hok : HpOk m := fun x l h => ⟨(hR x l h).1, by
    have := ((right_iff _).1 (hR x l h).2).2.1
    omega⟩
  cases hr : rightB cells
  · refine ⟨(0, 2, []), ⟨.inr (.inl rfl), fun x hx => (by cases hx), fun _ => rfl, fun h => (by rw [hr] at h; cases h), by simp⟩, fun _ _ x hx => (by cases hx), fun a val w hT hS _ _ => ?_⟩
    refine (h39_wrong a cells val w hT hS hr).mono ?_
    rintro e w' ⟨rfl, h⟩
    exact post_nil h
  · have hr' := hr
    obtain ⟨r1, r2, r3, r4⟩ := (right_iff _).1 hr
    obtain ⟨p, rest, v, e, h2, h3, h4, h5, h6⟩ := bothS hR hD cells.length cells 0 (Nat.le_refl _) r2 r4 r3
    have e0 := compQ_zero h3
    subst e0
    rw [List.append_nil] at e
    subst e
    obtain ⟨n, rest', names', hs, _, h7⟩ := h6 []
    refine ⟨v, ⟨h5, rs_free hR h4 hr, fun h => (by rw [hr] at h; cases h), fun _ => ⟨_, n, rest', names', hs, fun h => (h7 h).2.1⟩, by have := rs_len h4; omega⟩, fun hw hW => rs_wf hok hw h4 hr hW, fun a val w hT hS hp hW => ?_⟩
    refine (h39 m hok a cells val w cells.length n v.2.1 rest' names' hT hS hr hp hs hW (by omega)).mono ?_
    rintro e w' ⟨nv, rfl, ⟨base, hN⟩, hb⟩
    have e1 : valN n v.2.1 = v.1 ∧ valM v.2.1 names' = v.2.2 := by
      by_cases e2 : v.2.1 = 2
      · rcases h5 with h5 | h5 | h5
        · omega
        · rw [h5]
          exact ⟨rfl, rfl⟩
        · omega
      · obtain ⟨_, e3, e4⟩ := h7 e2
        unfold valN valM
        rw [if_neg e2, if_neg e2, e3, e4]
        refine ⟨rfl, ?_⟩
        rcases h5 with h5 | h5 | h5
        · rw [h5.2.1]
          rfl
        · rw [h5] at e2
          exact absurd rfl e2
        · exact h5.2.2.2
    rw [e1.2] at hN
    have hl : v.2.2.length ≤ maxLen := by
      have := rs_len h4
      unfold maxLen
      omega
    have hN2 := namesAt_of_owns (base := base) hN hl
    obtain ⟨q, c, rfl⟩ := hN2.form
    rw [e1.1]
    exact ⟨q, c, rfl, hN2, hb⟩
/-- A sum that has a number, or fails, does so by a map that says more. -/
theorem vu_more {m m' : Hp} (hs : SubH m m') {cells : List C} {u u' : V3} (h : Vu m cells u) (h' : Vu m' cells u') (h3 : u.2.1 ≠ 3) : u'.1 = u.1 ∧ u'.2.1 = u.2.1 := by
  cases hr : rightB cells
  · rw [h.wrong hr, h'.wrong hr]
    exact ⟨rfl, rfl⟩
  · obtain ⟨d, n, rest, names1, s1, s2⟩ := h.sm hr
    obtain ⟨d', n', rest', names1', s1', s2'⟩ := h'.sm hr
    obtain ⟨q1, q2⟩ := sm_more hs _ _ s1 s1'
    rcases h.ok with ⟨o1, _, _⟩ | o1 | ⟨o1, _⟩
    · obtain ⟨p1, p2⟩ := q1 o1
      have e1 := s2 (by omega)
      have e2 := s2' (by omega)
      exact ⟨by omega, by omega⟩
    · have p1 := q2 (by rw [o1])
      rcases h'.ok with ⟨o2, _, _⟩ | o2 | ⟨o2, _⟩
      · omega
      · rw [o1, o2]
        exact ⟨rfl, rfl⟩
      · omega
    · exact absurd o1 h3
theorem vu_waits {m : Hp} {cells : List C} {u : V3} (h : Vu m cells u) : (u.2.1 = 3 ∧ u.2.2 ≠ []) ∨ ((u.2.1 = 1 ∨ u.2.1 = 2) ∧ u.2.2 = []) := by
  rcases h.ok with ⟨o1, o2, _⟩ | o1 | ⟨o1, _, o2, _⟩
  · exact .inr ⟨.inl o1, o2⟩
  · rw [o1]; exact .inr ⟨.inr rfl, rfl⟩
  · exact .inl ⟨o1, o2⟩
set_option maxRecDepth 100000 in
/-- A name without a value. -/
theorem g22 (m : Hp) (hb M n : Nat) (D : DataW Value) (x : Nm) (w : World) (hH : HpAt w hb M n D m) (hx : wfN x) (hn : lookH m x = none) :
    Calls Tryz.prog 22 #[.pointer (some ⟨hb, 0, none⟩), .agg #[.int .i64 x.1, .int .i64 x.2]] w fun e w' => e = .returned (.tuple #[.slice none 0 0, .bool false]) ∧ Hid (Below w.heap.size w w') := by
  have hba : Below w.heap.size w (w.alloc (.cells #[.int .i64 x.1, .int .i64 x.2] 60)) := below_alloc _ _
  have H51 := h21 m hb M n D x _ (hH.below hba) hx
  rw [hn] at H51
  have HB : Hid (Below w.heap.size w (w.alloc (.cells #[.int .i64 x.1, .int .i64 x.2] 60))) := hba
  clear hba hH hn hx
  obtain ⟨x1, x2⟩ := x
  dsimp only at *
  go_enter Tryz.func22, Tryz.ntmps22
  go_wp2_with fail
  refine H51.mono ?_
  rintro e w1 ⟨rfl, h1⟩
  have HF : Hid (Below w.heap.size w w1) := HB.out.trans (h1.mono HB.out.size)
  clear h1 H51
  go_wp2_with fail
  exact bodyPost_ret (v := .tuple #[.slice none 0 0, .bool false]) (by simp [results, Tryz.results22, go_sem]) rfl ⟨rfl, HF⟩
theorem rowB_one (l : List Bn) : ∀ u ∈ l.flatMap encB, u.oneCell' = true := by
  intro u hu
  rw [List.mem_flatMap] at hu
  obtain ⟨b, _, hb⟩ := hu
  simp only [encB, List.mem_cons, List.not_mem_nil, or_false] at hb
  rcases hb with rfl | rfl | rfl <;> rfl
/-- A row of bindings in memory of the call's own. -/
theorem bd_own {w W : World} {a : Option Addr} {n : Nat} {c base : Nat} {bs : List Bn} (hb : Below w.heap.size w W) (hn : bs.length = n) (ho : W.ownsRow base 75 3 (.slice a n c) n (bs.flatMap encB)) (hel : ∀ b ∈ bs, TermAt w b.v b.l ∧ wfN b.x ∧ (∀ c ∈ b.l, wfN (c.vn, c.vk)) ∧ b.l.length * 48 ≤ 140737488355328) : BdRow W a n bs := by
  refine ⟨⟨hn, ?_⟩, fun b hbm => ?_⟩
  · obtain ⟨a', c', e, _, h⟩ := own_sl ho
    simp only [Value.slice.injEq] at e
    obtain ⟨rfl, _, _⟩ := e
    exact h
  · obtain ⟨h1, h2⟩ := hel b hbm
    exact ⟨h1.below hb, h2⟩
end Go.Proofs.YtaehhophaaipdaaGreatDoor
