/- Contracts of within and Garbage. A map in memory, and what each call tells of it. -/
import Derived.Test.YtojobiefambkoaaGreatDoorGQ
namespace Go.Proofs.YtojobiefambkoaaGreatDoor
open Go.RowKit
attribute [local go_sem ↓] Go.wp_at_zero Go.wp_at_succ
theorem stored47 {wr U : World} {vb : Nat} {x y z : Value} (hU : wr.alloc (.cells #[.int .i64 0, .int .i64 0, .slice none 0 0] 66) = U) (hvb : wr.heap.size = vb) :
    (U.cell? ⟨vb, 0, none⟩ = some (.int .i64 0) ∧ U.cell? ⟨vb, 1, none⟩ = some (.int .i64 0) ∧ U.cell? ⟨vb, 2, none⟩ = some (.slice none 0 0) ∧ U.frozen? ⟨vb, 0, none⟩ = false ∧ U.frozen? ⟨vb, 1, none⟩ = false ∧ U.frozen? ⟨vb, 2, none⟩ = false) ∧ ∀ V, ((U.setCell ⟨vb, 0, none⟩ x).setCell ⟨vb, 1, none⟩ y).setCell ⟨vb, 2, none⟩ z = V → Below wr.heap.size wr V ∧ V.heap[vb]? = some (.cells #[x, y, z] 66 (0, 0)) := by
  have hc : U.heap[vb]? = some (.cells #[.int .i64 0, .int .i64 0, .slice none 0 0] 66 (0, 0)) := by rw [← hU, ← hvb]; exact heap_alloc_new wr _
  have h1 : Below wr.heap.size wr U := by rw [← hU]; exact (Below.refl _ _).alloc (Nat.le_refl _) _
  have h0 : wr.heap.size ≤ vb := by omega
  have e1 := heap_setCell_same U vb 0 _ 66 x hc
  have e2 := heap_setCell_same _ vb 1 _ 66 y e1
  have e3 := heap_setCell_same _ vb 2 _ 66 z e2
  refine ⟨⟨by rw [cell_of_row U vb 0 _ 66 (0, 0) hc]; rfl, by rw [cell_of_row U vb 1 _ 66 (0, 0) hc]; rfl, by rw [cell_of_row U vb 2 _ 66 (0, 0) hc]; rfl, frozen_of_row U vb 0 _ 66 hc, frozen_of_row U vb 1 _ 66 hc, frozen_of_row U vb 2 _ 66 hc⟩, fun V hV => ?_⟩
  rw [← hV]
  exact ⟨((h1.setCell (p := ⟨vb, 0, none⟩) h0 _).setCell (p := ⟨vb, 1, none⟩) h0 _).setCell (p := ⟨vb, 2, none⟩) h0 _, e3⟩
/-- What Garbage tells. -/
def GaTo (m : Hp) (rs : List Nm) (e : Ending) (w w' : World) : Prop := ∃ a k c, e = .returned (.slice a k c) ∧ Hid (∃ xs, UpN (Rch m rs) xs ∧ (garbF m xs).length = k ∧ OwnN w' w.heap.size (.slice a k c) (garbF m xs) ∧ Below w.heap.size w w')
theorem garb_snoc (m : Hp) (xs : List Nm) (k : Nat) (hk : k < m.length) : garbF (m.take (k + 1)) xs = if hasN xs m[k].1 then garbF (m.take k) xs else garbF (m.take k) xs ++ [m[k].1] := by
  unfold garbF
  rw [List.take_succ_eq_append_getElem hk, List.filter_append, List.map_append]
  cases hh : hasN xs m[k].1 <;> simp [hh]
theorem garb_le (m : Hp) (xs : List Nm) : (garbF m xs).length ≤ m.length := by
  unfold garbF
  rw [List.length_map]
  exact List.length_filter_le _ _
theorem garb_bs (bs : List Bn) (m : Hp) (xs : List Nm) (k : Nat) (h : hpOf bs = m) (hk : k < bs.length) : garbF (m.take (k + 1)) xs = if hasN xs bs[k].x then garbF (m.take k) xs else garbF (m.take k) xs ++ [bs[k].x] := by
  subst h
  have hk' : k < (hpOf bs).length := by simpa [hpOf] using hk
  rw [garb_snoc _ _ _ hk']
  simp [hpOf]
set_option maxRecDepth 100000 in
set_option maxHeartbeats 4000000 in
theorem f16 (m : Hp) (hb M n : Nat) (D : DataW Value) (rs : List Nm) (ra : Option Addr) (rc : Nat) (w : World) (hH : HpAt w hb M n D m) (hn : n ≤ 3518437208780) (hup : RisesH m) (hr : NamesAt w (.slice ra rs.length rc) rs) (hm : GoodH m) (hw : WfH m) (hrw : ∀ x ∈ rs, wfN x) (hu : rs.length + 256 * (univ m rs).length ≤ 1000000000000) (hml : m.length ≤ 1000000000000) :
    Calls Tryz.prog 9 #[.pointer (some ⟨hb, 0, none⟩), .slice ra rs.length rc] w fun e w' => GaTo m rs e w w' := by
  obtain ⟨i0, hi, hz, hs, hby⟩ := info23
  have H9 : Calls Tryz.prog 8 #[.pointer (some ⟨hb, 0, none⟩), .slice ra rs.length rc] w fun e w' => NdTo m rs e w w' := f9 m _ rs ra rc w (.inr ⟨hb, M, n, D, rfl, hH⟩) hr hm hw hrw hu
  have HH : Hid (HpAt w hb M n D m ∧ n ≤ 3518437208780 ∧ RisesH m ∧ GoodH m ∧ (univ m rs).length ≤ 1000000000000 ∧ WfH m ∧ m.length ≤ 1000000000000) := ⟨hH, hn, hup, hm, by omega, hw, hml⟩
  clear hH hn hup hr hm hrw hu hw hml
  go_enter Tryz.func9, Tryz.ntmps9
  go_wp2_with fail
  refine H9.mono ?_
  rintro e w1 ⟨xs, a, c, rfl, HN⟩
  clear H9
  have H18 : Calls Tryz.prog 34 #[.pointer (some ⟨hb, 0, none⟩)] w1 fun e w' => ∃ a k c, e = .returned (.slice a k c) ∧ Hid (BdTo w1 m a k w') := by
    refine (h12b m hb M n D w1 (HH.out.1.below HN.out.2.2.1) HH.out.2.1 HH.out.2.2.1 fun x l hl => (HH.out.2.2.2.1 x l hl).1).mono ?_
    rintro e w' ⟨a, k, c, rfl, h⟩
    exact ⟨a, k, c, rfl, h⟩
  go_wp2_with fail
  refine H18.mono ?_
  rintro e w2 ⟨ba, bk, bc, rfl, HB0⟩
  clear H18
  obtain ⟨bs, HB⟩ : ∃ bs, Hid (hpOf bs = m ∧ Bs w2 ba bk bs ∧ Below w1.heap.size w1 w2 ∧ bk ≤ 1000000000000) := by
    obtain ⟨bs, h1, h2, _, _, h5⟩ := HB0.out
    refine ⟨bs, h1, h2, h5, ?_⟩
    have h6 := HH.out.2.2.2.2.2.2
    rw [← h1] at h6
    have h7 := h2.len
    simp [hpOf] at h6
    omega
  clear HB0
  have hbk : bk ≤ 1000000000000 := HB.out.2.2.2
  have HI0 : Hid ((garbF (m.take 0) xs).length = 0 ∧ OwnN w2 w2.heap.size (.slice none 0 0) (garbF (m.take 0) xs) ∧ Below w2.heap.size w2 w2) := ⟨by simp [garbF], World.ownsRow_nil _ _ _ _, Below.refl _ _⟩
  obtain ⟨q, hq⟩ : ∃ q, xs.length = q := ⟨_, rfl⟩
  have HQ : Hid (xs.length = q) := hq
  rw [hq]
  clear hq
  go_wp2_with fail
  go_loopw [6, 17] (fun u i wr => ∃ (k : Nat) (ua : Option Addr) (uk uc : Nat), k ≤ bk ∧ u = .slice ua uk uc ∧ i = .int .i64 k ∧ Hid ((garbF (m.take k) xs).length = uk ∧ OwnN wr w2.heap.size (.slice ua uk uc) (garbF (m.take k) xs) ∧ Below w2.heap.size w2 wr)) (fun _ i _ => bk - (intOf i).toNat)
  case atStart => exact ⟨0, none, 0, 0, Nat.zero_le _, rfl, rfl, HI0⟩
  case round =>
    clear HI0
    obtain ⟨k, ua, uk, uc, hk, rfl, rfl, HK⟩ := hrel
    by_cases hlt : k < bk
    · have hltI : (k : Int) < (bk : Int) := by omega
      have hk0 : (0 : Int) ≤ (k : Int) := by omega
      obtain ⟨b, o, hx, rfl, hbl, c0, c1, c2⟩ := HB.out.2.1.at hlt
      have HG := garb_bs bs m xs k HB.out.1 hx
      obtain ⟨p0, hp0⟩ : ∃ y, bs[k] = y := ⟨_, rfl⟩
      rw [hp0] at c0 c1 c2 HG
      obtain ⟨⟨x1, x2⟩, la, ln, lc, ll⟩ := p0
      simp only at c0 c1 c2 HG
      have d0 := (HK.out.2.2.cell (p := ⟨b, o + k * 3, none⟩) hbl).trans c0
      have d1 := (HK.out.2.2.cell (p := ⟨b, o + k * 3 + 1, none⟩) hbl).trans c1
      have d2 := (HK.out.2.2.cell (p := ⟨b, o + k * 3 + 2, none⟩) hbl).trans c2
      clear c0 c1 c2 hp0 hbl
      obtain ⟨U, hU⟩ : ∃ U, wr.alloc (.cells #[.int .i64 0, .int .i64 0, .slice none 0 0] 66) = U := ⟨_, rfl⟩
      obtain ⟨vb, hvb⟩ : ∃ vb, wr.heap.size = vb := ⟨_, rfl⟩
      obtain ⟨⟨e0, e1, e2, f0, f1, f2⟩, hVV⟩ := stored47 (x := .int .i64 x1) (y := .int .i64 x2) (z := .slice la ln lc) hU hvb
      obtain ⟨V, hV⟩ : ∃ V, ((U.setCell ⟨vb, 0, none⟩ (.int .i64 x1)).setCell ⟨vb, 1, none⟩ (.int .i64 x2)).setCell ⟨vb, 2, none⟩ (.slice la ln lc) = V := ⟨_, rfl⟩
      obtain ⟨hb1, hb2⟩ := hVV V hV
      have g0 : V.cell? ⟨vb, 0, none⟩ = some (.int .i64 x1) := by rw [cell_of_row _ vb 0 _ 66 (0, 0) hb2]; rfl
      have g1 : V.cell? ⟨vb, 1, none⟩ = some (.int .i64 x2) := by rw [cell_of_row _ vb 1 _ 66 (0, 0) hb2]; rfl
      have HB2 : Hid (V.heap[vb]? = some (.cells #[.int .i64 x1, .int .i64 x2, .slice la ln lc] 66 (0, 0)) ∧ Below w2.heap.size w2 V ∧ Below w1.heap.size w1 V ∧ Below w.heap.size w V ∧ OwnN V w2.heap.size (.slice ua uk uc) (garbF (m.take k) xs)) := by
        have h1 : Below w2.heap.size w2 V := HK.out.2.2.trans (hb1.mono HK.out.2.2.size)
        have h2 : Below w1.heap.size w1 V := HB.out.2.2.1.trans (h1.mono HB.out.2.2.1.size)
        exact ⟨hb2, h1, h2, HN.out.2.2.1.trans (h2.mono HN.out.2.2.1.size), owns_below HK.out.2.1 hb1⟩
      have H33 : Calls Tryz.prog 35 #[.slice a q c, .agg #[.int .i64 x1, .int .i64 x2], .func (.func 33) #[] #[]] V fun e w' => ∃ i : Int, e = .returned (.tuple #[.int .i64 i, .bool (hasN xs (x1, x2))]) ∧ Below V.heap.size V w' := by
        have h1 := HN.out.2.2.2
        have h2 := HH.out.2.2.2.2.1
        have h := f33 xs a c x1 x2 V ((namesAt_of_owns HN.out.2.1 (by unfold maxLen; omega)).below HB2.out.2.2.1) HN.out.1.up (by omega)
        rw [HQ.out] at h
        exact h
      have HUK : Hid ((garbF (m.take k) xs).length = uk ∧ uk ≤ k) := ⟨HK.out.1, by
        have h1 := garb_le (m.take k) xs
        have h2 := HK.out.1
        have h3 : (m.take k).length ≤ k := by rw [List.length_take]; omega
        omega⟩
      have huk : uk ≤ k := HUK.out.2
      clear hVV hb1 hb2 HK
      cases hh : hasN xs (x1, x2)
      · have HG2 : Hid (garbF (m.take (k + 1)) xs = garbF (m.take k) xs ++ [(x1, x2)]) := by
          show _ = _
          rw [HG, hh]
          rfl
        rw [hh] at H33
        clear HG hh
        go_wp2_with fail
        refine H33.mono ?_
        rintro e w3 ⟨i, rfl, h3⟩
        have H3 : Hid (w3.heap[vb]? = some (.cells #[.int .i64 x1, .int .i64 x2, .slice la ln lc] 66 (0, 0)) ∧ Below w2.heap.size w2 w3 ∧ Below w.heap.size w w3) := ⟨(h3.block vb (Array.getElem?_eq_some_iff.1 HB2.out.1).1).trans HB2.out.1, HB2.out.2.1.trans (h3.mono HB2.out.2.1.size), HB2.out.2.2.2.1.trans (h3.mono HB2.out.2.2.2.1.size)⟩
        have k0 : w3.cell? ⟨vb, 0, none⟩ = some (.int .i64 x1) := by rw [cell_of_row _ vb 0 _ 66 (0, 0) H3.out.1]; rfl
        have k1 : w3.cell? ⟨vb, 1, none⟩ = some (.int .i64 x2) := by rw [cell_of_row _ vb 1 _ 66 (0, 0) H3.out.1]; rfl
        have HO3 : Hid (w3.ownsRow w2.heap.size 49 2 (.slice ua uk uc) uk (flatN (garbF (m.take k) xs))) := by
          have h := owns_below HB2.out.2.2.2.2 h3
          rw [HUK.out.1] at h
          exact h
        have hsz := H3.out.2.1.size
        have hnews := newsN_new w3 (x1, x2)
        have hnews : Hid (∀ j' u, (flatN [(x1, x2)])[j']? = some u → (w3.alloc (.cells #[.int .i64 x1, .int .i64 x2] 49)).cell? ((⟨w3.heap.size, 0, none⟩ : Addr).add j') = some u) := hnews
        have hlen : Hid ((flatN [(x1, x2)]).length = 1 * 2) := rfl
        clear h3 H33 g0 g1
        go_wp2_with (at_builtin; refine wpList_append_own _ rfl _ _ 23 rfl w2.heap.size 49 i0 (.agg #[.int .i64 0, .int .i64 0]) 2 16 Tryz.underlying23 hi hz hs hby rfl (by decide) _ _ _ rfl (HO3.out.alloc _) ⟨w3.heap.size, 0, none⟩ 1 1 (flatN [(x1, x2)]) rfl hlen.out hnews.out (flatN_one _) (by unfold maxLen; omega) (by omega) (by simp; omega) ?_)
        intro v' w4 hown hgr hnil
        obtain ⟨va, vc, hvf⟩ := owns_form hown
        subst hvf
        have HF : Hid ((garbF (m.take (k + 1)) xs).length = uk + 1 ∧ OwnN w4 w2.heap.size (.slice va (uk + 1) vc) (garbF (m.take (k + 1)) xs) ∧ Below w2.heap.size w2 w4) := by
          refine ⟨by rw [HG2.out, List.length_append, HUK.out.1]; rfl, ?_, ?_⟩
          · show w4.ownsRow w2.heap.size 49 2 _ _ _
            rw [HG2.out, flatN_append, List.length_append, HUK.out.1]
            exact hown
          · exact (H3.out.2.1.alloc H3.out.2.1.size _).grown hgr (by simp; omega) (fun g hg => (HO3.out.lt g hg).1)
        clear hown hgr hnil HO3 hnews hlen
        go_wp2_with fail
        go_roundw
        case rel => exact ⟨k + 1, va, uk + 1, vc, by omega, rfl, by go_num, HF⟩
        case measure => simp [intOf]; omega
      · have HG2 : Hid (garbF (m.take (k + 1)) xs = garbF (m.take k) xs) := by
          show _ = _
          rw [HG, hh]
          rfl
        rw [hh] at H33
        clear HG hh
        go_wp2_with fail
        refine H33.mono ?_
        rintro e w3 ⟨i, rfl, h3⟩
        have HF : Hid ((garbF (m.take (k + 1)) xs).length = uk ∧ OwnN w3 w2.heap.size (.slice ua uk uc) (garbF (m.take (k + 1)) xs) ∧ Below w2.heap.size w2 w3) := by
          refine ⟨by rw [HG2.out]; exact HUK.out.1, ?_, HB2.out.2.1.trans (h3.mono HB2.out.2.1.size)⟩
          have h := owns_below HB2.out.2.2.2.2 h3
          rw [HG2.out]
          exact h
        clear h3 H33 g0 g1
        go_wp2_with fail
        go_roundw
        case rel => exact ⟨k + 1, ua, uk, uc, by omega, rfl, by go_num, HF⟩
        case measure => simp [intOf]; omega
    · have hltI : ¬ (k : Int) < (bk : Int) := by omega
      obtain rfl : k = bk := by omega
      have HE : Hid ((garbF m xs).length = uk ∧ OwnN wr w.heap.size (.slice ua uk uc) (garbF m xs) ∧ Below w.heap.size w wr) := by
        obtain ⟨h1, h2, h3⟩ := HK.out
        have e1 : m.take k = m := List.take_of_length_le (by
          have h7 := HB.out.2.1.len
          rw [← HB.out.1]
          simp [hpOf]
          omega)
        rw [e1] at h1 h2
        exact ⟨h1, row_low h2 (by have := HN.out.2.2.1.size; have := HB.out.2.2.1.size; omega), HN.out.2.2.1.trans ((HB.out.2.2.1.trans (h3.mono HB.out.2.2.1.size)).mono HN.out.2.2.1.size)⟩
      go_wp2_with fail
      go_ret
      exact ⟨_, _, _, rfl, xs, HN.out.1, HE.out.1, HE.out.2.1, HE.out.2.2⟩
end Go.Proofs.YtojobiefambkoaaGreatDoor

namespace Go.Proofs.YtojobiefambkoaaGreatDoor
open Go.RowKit
/-- A map in memory behind the world w, of at most k values. -/
structure St (w : World) (hb M k : Nat) (m : Hp) (W : World) : Prop where
  hp : ∃ n D, n ≤ k ∧ HpAt W hb M n D m
  up : RisesH m
  good : GoodH m
  wf : WfH m
  len : m.length ≤ k
  bel : Below w.heap.size w W
  low : w.heap.size ≤ M
  le : k ≤ 10000000
section
variable {w W W' : World} {hb M k : Nat} {m : Hp}
theorem St.below (h : St w hb M k m W) (hw : Below W.heap.size W W') : St w hb M k m W' := by
  obtain ⟨n, D, hn, hp⟩ := h.hp
  exact ⟨⟨n, D, hn, hp.below hw⟩, h.up, h.good, h.wf, h.len, h.bel.trans (hw.mono h.bel.size), h.low, h.le⟩
theorem St.hpv (h : St w hb M k m W) : HpV W (.pointer (some ⟨hb, 0, none⟩)) m := by
  obtain ⟨n, D, _, hp⟩ := h.hp
  exact .inr ⟨hb, M, n, D, rfl, hp⟩
theorem St.univ (h : St w hb M k m W) (rs : List Nm) : (univ m rs).length ≤ rs.length + 256 * k := by
  have h1 := univ_le h.up h.good rs
  have h2 := h.len
  omega
theorem St.ne (h : St w hb M k m W) {b : Nat} {cu : Array Value} {t : TypeId} {f : Nat × Nat} (hb1 : W.heap[b]? = some (.cells cu t f)) : b ≠ M := by
  rintro rfl
  obtain ⟨n, D, _, hp⟩ := h.hp
  obtain ⟨es, ck, h2, _⟩ := hp.map
  rw [h2] at hb1
  cases hb1
theorem names_len {v : Value} {l : List Nm} {a : Option Addr} {n c : Nat} (h : NamesAt W v l) (e : v = .slice a n c) : l.length = n := by
  obtain ⟨a', c', e'⟩ := h.form
  rw [e] at e'
  simp only [Value.slice.injEq] at e'
  omega
theorem st8 (a : Option Addr) (n c : Nat) (bs : List Bn) (w : World) (hA : BdRow w a n bs) (hn : n ≤ 10000000) (hS : Signs w) :
    Calls Tryz.prog 5 #[.slice a n c] w fun e w' => ∃ hb M rt, e = .returned (.tuple #[.pointer (some ⟨hb, 0, none⟩), .pointer (some ⟨rt, 0, none⟩)]) ∧ Hid (St w hb M n (foldB bs) w') := by
  refine (i8f a n c bs w hA (by omega) hS).mono ?_
  rintro e w' ⟨hb, M, rt, rfl, G, bs', h, e1, e2, e3⟩
  refine ⟨hb, M, rt, rfl, ?_⟩
  obtain ⟨n', D, V, h1, h2, h3, h4⟩ := h.hp
  exact ⟨⟨n', D, h3, h1⟩, e2, h.len, foldB_wf fun b hb => ⟨(hA.el b hb).2.1, (hA.el b hb).2.2.1⟩, by rw [← hA.row.len]; exact foldB_len bs, h.bel, h.low.2.1, by omega⟩
theorem st9 (h : St w hb M k m W) (rs : List Nm) (ra : Option Addr) (n rc : Nat) (hr : NamesAt W (.slice ra n rc) rs) (hrw : ∀ x ∈ rs, wfN x) (hl : rs.length ≤ 1000000000) :
    Calls Tryz.prog 8 #[.pointer (some ⟨hb, 0, none⟩), .slice ra n rc] W fun e w' => ∃ xs a j c, e = .returned (.slice a j c) ∧ Hid (UpN (Rch m rs) xs ∧ xs.length = j ∧ OwnN w' W.heap.size (.slice a j c) xs ∧ NamesAt w' (.slice a j c) xs ∧ Below W.heap.size W w' ∧ xs.length ≤ rs.length + 256 * k ∧ ∀ x ∈ xs, wfN x) := by
  have hnl := names_len hr rfl
  subst hnl
  have h1 := h.univ rs
  have h2 := h.le
  refine (f9 m _ rs ra rc W h.hpv hr h.good h.wf hrw (by omega)).mono ?_
  rintro e w' ⟨xs, a, c, rfl, g1, g2, g3, g4⟩
  refine ⟨xs, a, _, c, rfl, g1, rfl, g2, namesAt_of_owns g2 (by unfold maxLen; omega), g3, by omega, fun x hx => ?_⟩
  have hx' := (g1.all x).1 hx
  clear hx
  induction hx' with
  | root h => exact hrw _ h
  | step _ k _ => exact leadsH_wf h.wf _ _ k
theorem st16 (h : St w hb M k m W) (rs : List Nm) (ra : Option Addr) (n rc : Nat) (hr : NamesAt W (.slice ra n rc) rs) (hrw : ∀ x ∈ rs, wfN x) (hl : rs.length ≤ 1000000000) :
    Calls Tryz.prog 9 #[.pointer (some ⟨hb, 0, none⟩), .slice ra n rc] W fun e w' => ∃ xs a j c, e = .returned (.slice a j c) ∧ Hid (UpN (Rch m rs) xs ∧ (garbF m xs).length = j ∧ OwnN w' W.heap.size (.slice a j c) (garbF m xs) ∧ NamesAt w' (.slice a j c) (garbF m xs) ∧ Below W.heap.size W w' ∧ ∀ x ∈ garbF m xs, wfN x) := by
  have hnl := names_len hr rfl
  subst hnl
  have h1 := h.univ rs
  have h2 := h.le
  have h3 := h.len
  obtain ⟨n, D, hn, hp⟩ := h.hp
  refine (f16 m hb M n D rs ra rc W hp (by omega) h.up hr h.good h.wf hrw (by omega) (by omega)).mono ?_
  rintro e w' ⟨a, j, c, rfl, xs, g1, g2, g3, g4⟩
  have hgl := garb_le m xs
  refine ⟨xs, a, j, c, rfl, g1, g2, g3, namesAt_of_owns g3 (by unfold maxLen; omega), g4, fun x hx => ?_⟩
  obtain ⟨_, l, hl⟩ := garb_mem.1 hx
  obtain ⟨l', hl'⟩ := look_some_mem hl
  exact (h.wf x l' hl').1
theorem st18 (h : St w hb M k m W) : Calls Tryz.prog 34 #[.pointer (some ⟨hb, 0, none⟩)] W fun e w' => ∃ bs a j c, e = .returned (.slice a j c) ∧ Hid (hpOf bs = m ∧ Bs w' a j bs ∧ Below W.heap.size W w' ∧ j ≤ k) := by
  obtain ⟨n, D, hn, hp⟩ := h.hp
  have h2 := h.le
  refine (h12b m hb M n D W hp (by omega) h.up fun x l hl => (h.good x l hl).1).mono ?_
  rintro e w' ⟨a, j, c, rfl, bs, h1, h2, _, _, h5⟩
  have h6 := h.len
  rw [← h1] at h6
  have h7 := h2.len
  simp [hpOf] at h6
  exact ⟨bs, a, j, c, rfl, h1, h2, h5, by omega⟩
theorem st13 (h : St w hb M k m W) (x : Nm) (hx : wfN x) : Calls Tryz.prog 74 #[.pointer (some ⟨hb, 0, none⟩), .agg #[.int .i64 x.1, .int .i64 x.2]] W fun e w' => ∃ a j c, e = .returned (.tuple #[.slice a j c, .bool (lookH m x).isSome]) ∧ Hid (TermAt w' (.slice a j c) ((lookH m x).getD []) ∧ Below W.heap.size W w') := by
  refine (f13 m _ x W h.hpv hx h.good).mono ?_
  rintro e w' ⟨a, j, c, rfl, h1⟩
  exact ⟨a, j, c, rfl, h1.out.1, h1.out.2⟩
/-- Names stay where only the map is written. -/
theorem names_kept {v : Value} {l : List Nm} {B : Nat} (h : St w hb M k m W) (hv : OwnN W B v l) (hk : KeepsBut M W W') : OwnN W' B v l :=
  row_keep hv fun g hg => by
    obtain ⟨cu, hc⟩ := row_typed hv g hg
    exact hk.2.2.2.2 g (Array.getElem?_eq_some_iff.1 hc).1 (h.ne hc)
end
theorem bd_below {w W : World} {a : Option Addr} {n : Nat} {bs : List Bn} (h : BdRow w a n bs) (hb : Below w.heap.size w W) : BdRow W a n bs := by
  refine ⟨⟨h.row.len, ?_⟩, fun b hbm => ?_⟩
  · rcases h.row.mem with e | ⟨b, o, e, h1, h2⟩
    · exact .inl e
    · exact .inr ⟨b, o, e, Nat.lt_of_lt_of_le h1 hb.size, range_below h2 h1 hb⟩
  · obtain ⟨h1, h2⟩ := h.el b hbm
    exact ⟨h1.below hb, h2⟩
/-- A name of a row in memory. -/
theorem names_at {w : World} {a : Option Addr} {n c : Nat} {l : List Nm} (h : NamesAt w (.slice a n c) l) {k : Nat} (hk : k < n) : ∃ b o, ∃ (hx : k < l.length), a = some ⟨b, o, none⟩ ∧ b < w.heap.size ∧ w.cell? ⟨b, o + k * 2, none⟩ = some (.int .i64 l[k].1) ∧ w.cell? ⟨b, o + k * 2 + 1, none⟩ = some (.int .i64 l[k].2) := by
  have hl := names_len h rfl
  obtain ⟨_, ⟨e, _⟩ | ⟨b, o, cap, e, hr, hb⟩⟩ := h
  · rw [e] at hl; simp at hl; omega
  · simp only [Value.slice.injEq] at e
    have hx : k < l.length := by omega
    exact ⟨b, o, hx, e.1, hb, name_cells hr k hx⟩
end Go.Proofs.YtojobiefambkoaaGreatDoor
