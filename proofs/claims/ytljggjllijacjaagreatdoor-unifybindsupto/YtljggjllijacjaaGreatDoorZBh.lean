/- What stays in memory where one map alone is written; what comes of equations has names in their range. 'short': are all terms less than half as long as they may be? -/
import Derived.Test.YtljggjllijacjaaGreatDoorZAh
import Derived.Test.YtljggjllijacjaaGreatDoorFLxh
namespace Go.Proofs.YtljggjllijacjaaGreatDoor
open Go.RowKit
attribute [local go_sem ↓] Go.wp_at_zero Go.wp_at_succ
theorem cell_block {w : World} {a : Addr} {v : Value} (h : w.cell? a = some v) : ∃ cur t fr, w.heap[a.block]? = some (.cells cur t fr) := by
  unfold World.cell? at h
  split at h
  · next e => exact ⟨_, _, _, e⟩
  · cases h
/-- No cells lie in a block. -/
def NoC (w : World) (M : Nat) : Prop := ∀ cur t fr, w.heap[M]? ≠ some (.cells cur t fr)
theorem HpAt.noC {w : World} {hb M n : Nat} {D : DataW Value} {m : Hp} (h : HpAt w hb M n D m) : NoC w M := fun cur t fr e => by
  obtain ⟨es, ck, k1, _⟩ := h.map
  rw [e] at k1
  cases k1
theorem KeepsBut.trans {M : Nat} {w w1 w2 : World} (h : KeepsBut M w w1) (k : KeepsBut M w1 w2) : KeepsBut M w w2 :=
  ⟨k.1.trans h.1, k.2.1.trans h.2.1, k.2.2.1.trans h.2.2.1, Nat.le_trans h.2.2.2.1 k.2.2.2.1, fun g hg hne => (k.2.2.2.2 g (Nat.lt_of_lt_of_le hg h.2.2.2.1) hne).trans (h.2.2.2.2 g hg hne)⟩
section
variable {M : Nat} {w w' : World}
theorem kb_block (hM : NoC w M) (k : KeepsBut M w w') {g : Nat} {cur : Array Value} {t : TypeId} {fr : Nat × Nat} (h : w.heap[g]? = some (.cells cur t fr)) : w'.heap[g]? = w.heap[g]? :=
  k.2.2.2.2 g (Array.getElem?_eq_some_iff.1 h).1 fun e => hM cur t fr (by rw [← e]; exact h)
theorem kb_cell (hM : NoC w M) (k : KeepsBut M w w') {a : Addr} {v : Value} (h : w.cell? a = some v) : w'.cell? a = some v := by
  obtain ⟨cur, t, fr, e⟩ := cell_block h
  rw [World.cell?_of_block (kb_block hM k e)]
  exact h
theorem kb_range (hM : NoC w M) (k : KeepsBut M w w') {b o : Nat} {cs : List Value} (h : w.rangeAt b o cs) : w'.rangeAt b o cs := fun j v hj => kb_cell hM k (h j v hj)
theorem TermAt.kb (hM : NoC w M) (k : KeepsBut M w w') {v : Value} {l : List C} (h : TermAt w v l) : TermAt w' v l := by
  obtain ⟨h0, h⟩ := h
  refine ⟨h0, ?_⟩
  rcases h with h | ⟨b, o, cap, h1, h2, h5, h3, h4⟩
  · exact Or.inl h
  · exact Or.inr ⟨b, o, cap, h1, h2, h5, kb_range hM k h3, Nat.lt_of_lt_of_le h4 k.2.2.2.1⟩
theorem RowAt.kb (hM : NoC w M) (k : KeepsBut M w w') {v : Value} {ls : List (List C)} (h : RowAt w v ls) : RowAt w' v ls := by
  obtain ⟨h0, h⟩ := h
  refine ⟨h0, ?_⟩
  rcases h with h | ⟨b, o, cap, vs, h1, h2, h3, h4, h5, h6, h7⟩
  · exact Or.inl h
  · exact Or.inr ⟨b, o, cap, vs, h1, h2, h3, Nat.lt_of_lt_of_le h4 k.2.2.2.1, h5, kb_range hM k h6, fun i u l hu hl => (h7 i u l hu hl).kb hM k⟩
theorem Signs.kb (hM : NoC w M) (k : KeepsBut M w w') (h : Signs w) : Signs w' := ⟨Nat.lt_of_lt_of_le h.1 k.2.2.2.1, kb_range hM k h.2⟩
end
/-- The map, and what stays from a world on. -/
structure Lp (w2 : World) (hb M n0 : Nat) (m : Hp) (W : World) : Prop where
  hp : ∃ n D V, HpAt W hb M n D m ∧ VB D V ∧ (∀ g, V g → g < W.heap.size) ∧ n ≤ n0
  kb : KeepsBut M w2 W
  no : NoC w2 M
  hw : HpW m
  up : RisesH m
  ml : m.length ≤ n0
section
variable {w2 W W' : World} {hb M n0 : Nat} {m : Hp}
theorem Lp.below (h : Lp w2 hb M n0 m W) (hw : Below W.heap.size W W') : Lp w2 hb M n0 m W' := by
  obtain ⟨n, D, V, h1, h2, h3, h4⟩ := h.hp
  exact ⟨⟨n, D, V, h1.below hw, h2, fun g hg => Nat.lt_of_lt_of_le (h3 g hg) hw.size, h4⟩, h.kb.trans (KeepsBut.of_below hw), h.no, h.hw, h.up, h.ml⟩
theorem Lp.noW (h : Lp w2 hb M n0 m W) : NoC W M := by
  obtain ⟨n, D, V, h1, _⟩ := h.hp
  exact h1.noC
theorem Lp.c27 (h : Lp w2 hb M n0 m W) (x : Nm) (l : List C) (v : Value) (hx : wfN x) (hT : TermAt W v l) (hl : Sht l) (hW : WfT l) (hS : Signs W) (hz : bindE m x l = 0) (hn : n0 ≤ 100000000) :
    Calls Tryz.prog 27 #[.pointer (some ⟨hb, 0, none⟩), .agg #[.int .i64 x.1, .int .i64 x.2], v] W fun e w' => e = .returned (.int .i64 0) ∧ Lp w2 hb M (n0 + 1) (bindH m x l) w' ∧ KeepsBut M W w' := by
  obtain ⟨n, D, V, h1, h2, h3, h4⟩ := h.hp
  have hlw : l.length * 48 ≤ 140737488355328 := by have := hl.1; omega
  refine (h11 m hb M n D x l v W h1 hx hT hW hS hlw (by unfold maxLen; omega)).mono ?_
  rintro e w' ⟨rfl, n', D', k1, k2, k3, k4⟩
  have hw' := bind_wf (x := x) h.hw hl hx hW
  refine ⟨by rw [hz], ⟨⟨n', D', _, k1, vb_cut k1 (fun y l hy => (hw'.len y l hy).2.1) (k4 V h2), fun g hg => hg.2, by omega⟩, h.kb.trans k3, h.no, hw', rises_bind h.up, Nat.le_trans bind_len (by have := h.ml; omega)⟩, k3⟩
end
theorem solF_wf : ∀ (g : Nat) (s : Sta) (n0 : Nat), StaOk s n0 → ∀ b ∈ (solF g s).bd, Sht b.2 ∧ WfT b.2 ∧ wfN b.1 := by
  intro g
  induction g with
  | zero =>
    intro s n0 h
    cases hr : s.row with
    | nil =>
      rw [solF_none hr]
      exact h.bd
    | cons t r =>
      rw [solF_zero hr]
      exact h.bd
  | succ g ih =>
    intro s n0 h
    cases hr : s.row with
    | nil =>
      rw [solF_none hr]
      exact h.bd
    | cons t r =>
      by_cases hk : (nxK s t).k = 4
      · rw [solF_clash hr hk]
        exact fun b hb => by cases hb
      · rw [solF_next hr hk]
        exact ih _ n0 (h.next hr)
/-- Are all terms of a map and of a row less than half as long as they may be? -/
def shB (m : Hp) (ls : List (List C)) : Bool := m.all (fun p => decide (p.2.length ≤ 127)) && ls.all fun l => decide (l.length ≤ 127)
theorem sta0_ok {m : Hp} {ls : List (List C)} {n0 : Nat} (hW : HpW m) (hwf : ∀ l ∈ ls, WfT l) (hl : ls.length ≤ n0) (hany : ls.any noneB = false) : StaOk (Sta0 m ls) n0 := by
  refine ⟨hW, fun t ht => ⟨?_, hwf t ht⟩, fun b hb => (by cases hb), (by show ls.length ≤ n0 + 8 * 0; omega), Nat.le_refl _⟩
  have h1 : noneB t = false := by
    cases h2 : noneB t
    · rfl
    · have h3 : ls.any noneB = true := List.any_eq_true.2 ⟨t, ht, h2⟩
      rw [h3] at hany
      cases hany
  unfold noneB at h1
  simp only [Bool.or_eq_false_iff, Bool.not_eq_false'] at h1
  exact sht_right (global_right h1.1)
/-- What comes of equations: what is bound can be bound; then they are solved. -/
theorem slv1 {m : Hp} {ls : List (List C)} {n0 : Nat} (hm : MpOk m) (hW : HpW m) (hwf : ∀ l ∈ ls, WfT l) (hl : ls.length ≤ n0) : ∃ m', BdC m (slvF m ls 2000).bd m' ∧ (∀ b ∈ (slvF m ls 2000).bd, Sht b.2 ∧ WfT b.2 ∧ wfN b.1) ∧ ((slvF m ls 2000).out = 1 ∧ (∀ t ∈ ls, Svd m' t ∧ noneB t = false) ∨ (slvF m ls 2000).out = 2 ∧ (slvF m ls 2000).bd = [] ∨ (slvF m ls 2000).out = 3 ∧ (slvF m ls 2000).left ≠ [] ∧ (slvF m ls 2000).st = 2000) := by
  unfold slvF
  cases hany : ls.any noneB
  · have hst := sta0_ok hW hwf hl hany
    have e2 : (2000 : Int).toNat = 2000 := rfl
    simp only [Bool.false_eq_true, if_false]
    rw [e2]
    have hno : ∀ t ∈ ls, noneB t = false := fun t ht => by
      cases h2 : noneB t
      · rfl
      · have h3 : ls.any noneB = true := List.any_eq_true.2 ⟨t, ht, h2⟩
        rw [h3] at hany
        cases hany
    rcases run_end 2000 (Sta0 m ls) with h | ⟨h1, h2⟩ | ⟨h1, h2, h3⟩
    · obtain ⟨bs, m', j1, j2, j3⟩ := run1 2000 _ n0 hst hm (by rw [h]; decide)
      have j4 : (solF 2000 (Sta0 m ls)).bd = bs := j1
      rw [← j4] at j2
      exact ⟨m', j2, solF_wf 2000 _ n0 hst, .inl ⟨h, fun t ht => ⟨j3 h t ht, hno t ht⟩⟩⟩
    · refine ⟨m, ?_, ?_, .inr (.inl ⟨h1, h2⟩)⟩
      · rw [h2]
        exact .nil m
      · rw [h2]
        exact fun b hb => by cases hb
    · obtain ⟨bs, m', j1, j2, j3⟩ := run1 2000 _ n0 hst hm (by rw [h1]; decide)
      have j4 : (solF 2000 (Sta0 m ls)).bd = bs := j1
      rw [← j4] at j2
      exact ⟨m', j2, solF_wf 2000 _ n0 hst, .inr (.inr ⟨h1, h2, h3.trans (Nat.zero_add _)⟩)⟩
  · simp only [if_true]
    exact ⟨m, .nil m, fun b hb => (by cases hb), .inr (.inl ⟨by first | trivial | rfl, by first | trivial | rfl⟩)⟩
/-- What comes of solved equations: nothing is bound; they do not fail where all is short. -/
theorem slv2 {m : Hp} {ls : List (List C)} {n0 : Nat} (hm : MpOk m) (hW : HpW m) (hwf : ∀ l ∈ ls, WfT l) (hl : ls.length ≤ n0) (hs : ∀ t ∈ ls, Svd m t ∧ noneB t = false) : (slvF m ls 2000).bd = [] ∧ (shB m ls = true → (slvF m ls 2000).out ≠ 2) := by
  have hany : ls.any noneB = false := by
    rw [List.any_eq_false]
    intro t ht
    rw [(hs t ht).2]
    decide
  have hst := sta0_ok hW hwf hl hany
  have e2 : (2000 : Int).toNat = 2000 := rfl
  unfold slvF
  rw [hany, e2]
  simp only [Bool.false_eq_true, if_false]
  refine ⟨run2 2000 _ n0 hst hm rfl fun t ht => (hs t ht).1, fun hsh => ?_⟩
  unfold shB at hsh
  rw [Bool.and_eq_true, List.all_eq_true, List.all_eq_true] at hsh
  refine run3 2000 _ n0 hst hm (fun t ht => ?_) fun x l hx => ?_
  · have h1 := (hs t ht).2
    rw [none_same] at h1
    simp only [Bool.or_eq_false_iff, Bool.not_eq_false'] at h1
    obtain ⟨⟨g0, g1⟩, g2⟩ := h1
    have h2 : t.length ≤ 127 := by simpa using hsh.2 t ht
    obtain ⟨x, y, ha⟩ := eq_two g0
    have hr := eq_right g0
    have s1 := args_short hr (s := x) (by rw [ha]; simp)
    have s2 := args_short hr (s := y) (by rw [ha]; simp)
    refine ⟨(hs t ht).1, g1, g2, ?_, ?_⟩
    · rw [(sd_yes g0 ha).1]
      omega
    · rw [(sd_yes g0 ha).2]
      omega
  · have hx2 : lookH m x = some l := hx
    unfold lookH at hx2
    obtain ⟨p, hp, rfl⟩ := Option.map_eq_some_iff.1 hx2
    simpa using hsh.1 p (List.mem_of_find?_eq_some hp)
set_option maxRecDepth 100000 in
set_option maxHeartbeats 4000000 in
theorem s29 (m : Hp) (hb M n : Nat) (D : DataW Value) (ls : List (List C)) (v : Value) (w : World) (hH : HpAt w hb M n D m) (hn : n ≤ 3518437208780) (hup : RisesH m) (hl : ∀ x l, lookH m x = some l → l.length * 48 ≤ 140737488355328) (hml : m.length ≤ 9223372036854775807) (hR : RowAt w v ls) :
    Calls Tryz.prog 29 #[.pointer (some ⟨hb, 0, none⟩), v] w fun e w' => e = .returned (.bool (shB m ls)) ∧ Below w.heap.size w w' := by
  obtain ⟨va, vc, hvf⟩ := hR.form
  subst hvf
  have HR : Hid (RowAt w (.slice va ls.length vc) ls) := hR
  have hlm : ls.length ≤ 9223372036854775807 := hR.1
  have H18 : Calls Tryz.prog 18 #[.pointer (some ⟨hb, 0, none⟩)] w fun e w' => ∃ a k c, e = .returned (.slice a k c) ∧ k ≤ 9223372036854775807 ∧ Hid (∃ bs : List Bn, hpOf bs = m ∧ Bs w' a k bs ∧ (∀ b ∈ bs, TermAt w' b.v b.l) ∧ Below w.heap.size w w') := by
    refine (h12b m hb M n D w hH hn hup hl).mono ?_
    rintro e w' ⟨a, k, c, rfl, bs, h1, h2, _, h4, h5⟩
    refine ⟨a, k, c, rfl, ?_, bs, h1, h2, fun b hb => (h4 b hb).1, h5⟩
    have h6 := congrArg List.length h1
    simp only [hpOf, List.length_map] at h6
    have h7 := h2.len
    omega
  clear hH hn hup hl hR hml
  go_enter Tryz.func29, Tryz.ntmps29
  go_wp2_with fail
  refine H18.mono ?_
  rintro e w1 ⟨a, k, c, rfl, hk, H1⟩
  clear H18
  obtain ⟨bs, HB⟩ : ∃ bs : List Bn, Hid (hpOf bs = m ∧ Bs w1 a k bs ∧ (∀ b ∈ bs, TermAt w1 b.v b.l) ∧ Below w.heap.size w w1) := H1.out
  clear H1
  go_wp2_with fail
  go_loopw [6] (fun i wr => ∃ j : Nat, j ≤ k ∧ i = .int .i64 j ∧ Hid (Below w1.heap.size w1 wr ∧ ∀ b ∈ bs.take j, b.l.length ≤ 127)) (fun i _ => k - (intOf i).toNat)
  case atStart => exact ⟨0, Nat.zero_le _, rfl, Below.refl _ _, fun b hb => by simp at hb⟩
  case round =>
    obtain ⟨j, hj, rfl, HJ⟩ := hrel
    by_cases hlt : j < k
    · have hltI : (j : Int) < (k : Int) := by omega
      have hj0 : (0 : Int) ≤ (j : Int) := by omega
      obtain ⟨b, o, hx, rfl, hbl, c0, c1, c2⟩ := HB.out.2.1.at hlt
      obtain ⟨q, hq⟩ : ∃ q, bs[j] = q := ⟨_, rfl⟩
      have hT := HB.out.2.2.1 _ (List.getElem_mem hx)
      rw [hq] at c2 hT
      obtain ⟨⟨x1, x2⟩, la, ln, lc, ll⟩ := q
      simp only [Bn.v] at c2 hT
      obtain rfl : ln = ll.length := by
        obtain ⟨_, _, e⟩ := hT.form
        simp only [Value.slice.injEq] at e
        exact e.2.1
      have p2 := (HJ.out.1.cell (p := ⟨b, o + j * 3 + 2, none⟩) hbl).trans c2
      have hin : ((x1, x2), ll) ∈ m := by
        rw [← HB.out.1]
        exact List.mem_map.2 ⟨bs[j], List.getElem_mem hx, by rw [hq]⟩
      have HQ : Hid (∀ b ∈ bs.take (j + 1), b ∈ bs.take j ∨ b.l = ll) := fun b hb => by
        rw [List.take_succ_eq_append_getElem hx, hq] at hb
        rcases List.mem_append.1 hb with hb | hb
        · exact .inl hb
        · simp at hb
          subst hb
          exact .inr rfl
      clear hT c0 c1 c2 hq hbl
      by_cases hg : (127 : Int) < (ll.length : Int)
      · have HE : Hid (shB m ls = false) := by
          unfold shB
          rw [Bool.and_eq_false_iff]
          refine .inl (List.all_eq_false.2 ⟨_, hin, ?_⟩)
          simp
          omega
        clear hin hx
        go_wp2_with fail
        go_ret
        rw [HE.out]
        exact ⟨rfl, HB.out.2.2.2.trans (HJ.out.1.mono HB.out.2.2.2.size)⟩
      · clear hin hx
        go_wp2_with fail
        go_roundw
        case rel => exact ⟨j + 1, by omega, by go_num, HJ.out.1, fun b hb => by
          rcases HQ.out b hb with h | h
          · exact HJ.out.2 b h
          · rw [h]; omega⟩
        case measure => simp [intOf]; omega
    · have hltI : ¬ (j : Int) < (k : Int) := by omega
      have HA : Hid (m.all (fun p => decide (p.2.length ≤ 127)) = true) := by
        rw [List.all_eq_true]
        intro p hp
        rw [← HB.out.1] at hp
        obtain ⟨b, hb, rfl⟩ := List.mem_map.1 hp
        have h1 := HJ.out.2 b (by rw [List.take_of_length_le (by have := HB.out.2.1.len; omega)]; exact hb)
        simpa using h1
      have HW : Hid (Below w.heap.size w wr) := HB.out.2.2.2.trans (HJ.out.1.mono HB.out.2.2.2.size)
      go_wp2_with fail
      go_loopw [7] (fun i wq => ∃ j : Nat, j ≤ ls.length ∧ i = .int .i64 j ∧ Hid (Below w.heap.size w wq ∧ ∀ l ∈ ls.take j, l.length ≤ 127)) (fun i _ => ls.length - (intOf i).toNat)
      case atStart => exact ⟨0, Nat.zero_le _, rfl, HW.out, fun l hl => by simp at hl⟩
      case round =>
        obtain ⟨i, hi, rfl, HI⟩ := hrel
        by_cases hlt2 : i < ls.length
        · have hlt2I : (i : Int) < (ls.length : Int) := by omega
          have hi0 : (0 : Int) ≤ (i : Int) := by omega
          obtain ⟨b, o, ua, uc, rfl, hbl, c2⟩ : ∃ b o ua uc, va = some ⟨b, o, none⟩ ∧ b < w.heap.size ∧ w.cell? ⟨b, o + i, none⟩ = some (.slice ua ls[i].length uc) := by
            obtain ⟨_, ⟨e, _⟩ | ⟨b, o, cap, vs, h1, h2, h3, h4, h5, h6, h7⟩⟩ := HR.out
            · rw [e] at hlt2
              simp at hlt2
            · simp only [Value.slice.injEq] at h1
              obtain ⟨rfl, _, _⟩ := h1
              have hiv : i < vs.length := by omega
              have h8 := h6 i _ (List.getElem?_eq_getElem hiv)
              obtain ⟨ua, uc, h9⟩ := (h7 i _ _ (List.getElem?_eq_getElem hiv) (List.getElem?_eq_getElem hlt2)).form
              rw [h9] at h8
              exact ⟨b, o, ua, uc, rfl, h4, h8⟩
          have p2 := (HI.out.1.cell (p := ⟨b, o + i, none⟩) hbl).trans c2
          clear c2 hbl
          by_cases hg : (127 : Int) < (ls[i].length : Int)
          · have HE : Hid (shB m ls = false) := by
              unfold shB
              rw [Bool.and_eq_false_iff]
              refine .inr (List.all_eq_false.2 ⟨_, List.getElem_mem hlt2, ?_⟩)
              simp
              omega
            generalize ls[i].length = z at *
            go_wp2_with fail
            go_ret
            rw [HE.out]
            exact ⟨rfl, HI.out.1⟩
          · have HE : Hid (∀ l ∈ ls.take (i + 1), l.length ≤ 127) := fun l hl => by
              rw [List.take_succ_eq_append_getElem hlt2] at hl
              rcases List.mem_append.1 hl with hl | hl
              · exact HI.out.2 l hl
              · simp at hl
                subst hl
                omega
            generalize ls[i].length = z at *
            go_wp2_with fail
            go_roundw
            case rel => exact ⟨i + 1, by omega, by go_num, HI.out.1, HE.out⟩
            case measure => simp [intOf]; omega
        · have hlt2I : ¬ (i : Int) < (ls.length : Int) := by omega
          have HE : Hid (shB m ls = true) := by
            unfold shB
            rw [HA.out, Bool.true_and, List.all_eq_true]
            intro l hl
            have h1 := HI.out.2 l (by rw [List.take_of_length_le (by omega)]; exact hl)
            simpa using h1
          go_wp2_with fail
          go_ret
          rw [HE.out]
          exact ⟨rfl, HI.out.1⟩
end Go.Proofs.YtljggjllijacjaaGreatDoor
