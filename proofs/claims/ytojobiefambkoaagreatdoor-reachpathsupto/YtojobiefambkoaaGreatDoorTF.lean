/- The document's Garbage and Terms; the program's Terms, and Garbage of a nil map. -/
import Derived.Test.YtojobiefambkoaaGreatDoorTD
namespace Go.Proofs.YtojobiefambkoaaGreatDoor
open Go.RowKit
attribute [local go_sem ↓] Go.wp_at_zero Go.wp_at_succ
set_option maxRecDepth 100000 in
theorem h34n (w : World) : Calls Tryz.prog 34 #[.pointer none] w fun e w' => e = .returned (.slice none 0 0) ∧ w' = w := by
  go_enter Tryz.func34, Tryz.ntmps34
  go_wp2_with fail
  go_ret
  exact ⟨rfl, rfl⟩
set_option maxRecDepth 100000 in
set_option maxHeartbeats 4000000 in
theorem f9n (rs : List Nm) (ra : Option Addr) (rn rc : Nat) (w : World) (hr : NamesAt w (.slice ra rn rc) rs) (hrw : ∀ x ∈ rs, wfN x) (hrn : rn ≤ 1000000000) :
    Calls Tryz.prog 9 #[.pointer none, .slice ra rn rc] w fun e w' => e = .returned (.slice none 0 0) ∧ Below w.heap.size w w' := by
  have hl := names_len hr rfl
  subst hl
  have H8 : Calls Tryz.prog 8 #[.pointer none, .slice ra rs.length rc] w fun e w' => ∃ a j c, e = .returned (.slice a j c) ∧ Hid (Below w.heap.size w w') := by
    refine (f9 [] (.pointer none) rs ra rc w (.inl ⟨rfl, rfl⟩) hr (fun x l h => by cases h) (fun x l h => by cases h) hrw ?_).mono ?_
    · unfold univ
      simp
      omega
    · rintro e w' ⟨xs, a, c, rfl, _, _, h3, _⟩
      exact ⟨a, _, c, rfl, h3⟩
  clear hr hrw
  obtain ⟨q, hq⟩ : ∃ q, rs.length = q := ⟨_, rfl⟩
  rw [hq] at H8 ⊢
  clear hq
  go_enter Tryz.func9, Tryz.ntmps9
  go_wp2_with fail
  refine H8.mono ?_
  rintro e w1 ⟨a, j, c, rfl, H1⟩
  clear H8
  go_wp2_with fail
  refine (h34n _).mono ?_
  rintro e w2 ⟨rfl, rfl⟩
  go_wp2_with fail
  refine wp_loop_rounds 1 ?_
  rw [rounds_succ]
  go_wp2_with fail
  go_ret
  exact ⟨rfl, H1.out⟩
set_option maxRecDepth 100000 in
set_option maxHeartbeats 8000000 in
theorem z14 (G : Nat → Prop) (rt : Nat) (bs : List Bn) (m : Hp) (rs : List Nm) (ra : Option Addr) (rn rc : Nat) (w : World) (h : RfH w G rt bs) (he : hpOf bs = m) (hbn : bs.length ≤ 1000000000) (hup : RisesH m) (hm : GoodH m) (hr : NamesAt w (.slice ra rn rc) rs) (hu : (univ m rs).length ≤ 1000000000) (hrn : rn ≤ 1000000000) :
    Calls Tryz.prog 14 #[.pointer (some ⟨rt, 0, none⟩), .slice ra rn rc] w fun e w' => GaTo m rs e w w' := by
  obtain ⟨i0, hi, hz, hs, hby⟩ := info23
  have H13 : Calls Tryz.prog 13 #[.pointer (some ⟨rt, 0, none⟩), .slice ra rn rc] w fun e w' => NdR m rs e w w' := z13 _ m rs ra rn rc w (.inr ⟨rt, G, bs, rfl, h, he, by omega⟩) hup hm hr hu hrn
  obtain ⟨la, lc, hcell, hbs, _⟩ := h.ex
  obtain ⟨n, hn⟩ : ∃ n, bs.length = n := ⟨_, rfl⟩
  have HB : Hid (hpOf bs = m ∧ Bs w la n bs ∧ w.heap[rt]? = some (.cells #[.slice la n lc] 87 (0, 0)) ∧ bs.length = n ∧ (univ m rs).length ≤ 1000000000) := ⟨he, hn ▸ hbs, hn ▸ hcell, hn, hu⟩
  have hnb : n ≤ 1000000000 := by omega
  clear h he hup hm hr hu hbs hcell hn hbn
  go_enter Tryz.func14, Tryz.ntmps14
  go_wp2_with fail
  refine H13.mono ?_
  rintro e w1 ⟨a, q, c, rfl, HN0⟩
  clear H13
  obtain ⟨xs, HN⟩ : ∃ xs, Hid (UpN (Rch m rs) xs ∧ xs.length = q ∧ OwnN w1 w.heap.size (.slice a q c) xs ∧ Below w.heap.size w w1) := HN0.out
  clear HN0
  have HI0 : Hid ((garbF (m.take 0) xs).length = 0 ∧ OwnN w1 w1.heap.size (.slice none 0 0) (garbF (m.take 0) xs) ∧ Below w1.heap.size w1 w1) := ⟨by simp [garbF], World.ownsRow_nil _ _ _ _, Below.refl _ _⟩
  go_wp2_with fail
  go_loopw [6, 7] (fun u i wr => ∃ (k : Nat) (ua : Option Addr) (uk uc : Nat), k ≤ n ∧ u = .slice ua uk uc ∧ i = .int .i64 k ∧ Hid ((garbF (m.take k) xs).length = uk ∧ OwnN wr w1.heap.size (.slice ua uk uc) (garbF (m.take k) xs) ∧ Below w1.heap.size w1 wr)) (fun _ i _ => n - (intOf i).toNat)
  case atStart => exact ⟨0, none, 0, 0, Nat.zero_le _, rfl, rfl, HI0⟩
  case round =>
    clear HI0
    obtain ⟨k, ua, uk, uc, hk, rfl, rfl, HK⟩ := hrel
    have HW : Hid (∀ W, Below wr.heap.size wr W → W.cell? ⟨rt, 0, none⟩ = some (.slice la n lc) ∧ Below w.heap.size w W) := fun W hW => by
      have hb : Below w.heap.size w W := HN.out.2.2.2.trans ((HK.out.2.2.trans (hW.mono HK.out.2.2.size)).mono HN.out.2.2.2.size)
      have h1 := (hb.block rt (Array.getElem?_eq_some_iff.1 HB.out.2.2.1).1).trans HB.out.2.2.1
      exact ⟨by rw [cell_of_row W rt 0 _ 87 (0, 0) h1]; rfl, hb⟩
    have r0 := (HW.out wr (Below.refl _ _)).1
    by_cases hlt : k < n
    · have hltI : (k : Int) < (n : Int) := by omega
      have hk0 : (0 : Int) ≤ (k : Int) := by omega
      obtain ⟨b, o, hx, rfl, hbl, c0, c1, c2⟩ := HB.out.2.1.at hlt
      have HG := garb_bs bs m xs k HB.out.1 hx
      obtain ⟨p0, hp0⟩ : ∃ y, bs[k] = y := ⟨_, rfl⟩
      rw [hp0] at c0 c1 c2 HG
      obtain ⟨⟨x1, x2⟩, la, ln, lc', ll⟩ := p0
      simp only at c0 c1 HG
      have HC : Hid (∀ W, Below w.heap.size w W → W.cell? ⟨b, o + k * 3, none⟩ = some (.int .i64 x1) ∧ W.cell? ⟨b, o + k * 3 + 1, none⟩ = some (.int .i64 x2)) := fun W hW => ⟨(hW.cell (p := ⟨b, o + k * 3, none⟩) hbl).trans c0, (hW.cell (p := ⟨b, o + k * 3 + 1, none⟩) hbl).trans c1⟩
      obtain ⟨d0, d1⟩ := HC.out wr (HW.out wr (Below.refl _ _)).2
      have H37 : Calls Tryz.prog 37 #[.slice a q c, .agg #[.int .i64 x1, .int .i64 x2]] wr fun e w' => e = .returned (.bool (hasN xs (x1, x2))) ∧ Below wr.heap.size wr w' := by
        have h1 := HN.out.2.1
        have h2 := HB.out.2.2.2.2
        refine c43 xs (.slice a q c) (x1, x2) wr ?_
        have h3 : NamesAt w1 (.slice a q c) xs := namesAt_of_owns HN.out.2.2.1 (by
          have h4 : xs.length ≤ (univ m rs).length := nodup_le (HN.out.1.up.imp fun {p q} hh e => by rw [e] at hh; exact ltN_irr _ hh) fun x hx => rch_univ ((HN.out.1.all x).1 hx)
          unfold maxLen; omega)
        exact h3.below HK.out.2.2
      have huk : uk ≤ k := by
        have h1 := garb_le (m.take k) xs
        have h2 := HK.out.1
        have h3 : (m.take k).length ≤ k := by rw [List.length_take]; omega
        omega
      clear c0 c1 c2 hp0 hbl
      cases hh : hasN xs (x1, x2)
      · have HG2 : Hid (garbF (m.take (k + 1)) xs = garbF (m.take k) xs ++ [(x1, x2)]) := by
          show _ = _
          rw [HG, hh]
          rfl
        rw [hh] at H37
        clear HG hh
        go_wp2_with fail
        refine H37.mono ?_
        rintro e w3 ⟨rfl, h3⟩
        have H3 : Hid (Below w1.heap.size w1 w3) := HK.out.2.2.trans (h3.mono HK.out.2.2.size)
        obtain ⟨r1, hbw⟩ := HW.out w3 h3
        obtain ⟨k0, k1⟩ := HC.out w3 hbw
        have HXL : Hid ((garbF (m.take k) xs).length = uk) := HK.out.1
        have HO3 : Hid (w3.ownsRow w1.heap.size 49 2 (.slice ua uk uc) uk (flatN (garbF (m.take k) xs))) := by
          have h := owns_below HK.out.2.1 h3
          rw [HXL.out] at h
          exact h
        have hsz := H3.out.size
        have hnews := newsN_new w3 (x1, x2)
        have hnews : Hid (∀ j' u, (flatN [(x1, x2)])[j']? = some u → (w3.alloc (.cells #[.int .i64 x1, .int .i64 x2] 49)).cell? ((⟨w3.heap.size, 0, none⟩ : Addr).add j') = some u) := hnews
        have hlen : Hid ((flatN [(x1, x2)]).length = 1 * 2) := rfl
        clear h3 H37 d0 d1 r0 hbw HK HW
        go_wp2_with (at_builtin; refine wpList_append_own _ rfl _ _ 23 rfl w1.heap.size 49 i0 (.agg #[.int .i64 0, .int .i64 0]) 2 16 Tryz.underlying23 hi hz hs hby rfl (by decide) _ _ _ rfl (HO3.out.alloc _) ⟨w3.heap.size, 0, none⟩ 1 1 (flatN [(x1, x2)]) rfl hlen.out hnews.out (flatN_one _) (by unfold maxLen; omega) (by omega) (by simp; omega) ?_)
        intro v' w4 hown hgr hnil
        obtain ⟨va, vc, hvf⟩ := owns_form hown
        subst hvf
        have HF : Hid ((garbF (m.take (k + 1)) xs).length = uk + 1 ∧ OwnN w4 w1.heap.size (.slice va (uk + 1) vc) (garbF (m.take (k + 1)) xs) ∧ Below w1.heap.size w1 w4) := by
          have e2 : (garbF (m.take (k + 1)) xs).length = uk + 1 := by rw [HG2.out, List.length_append, HXL.out]; rfl
          refine ⟨e2, ?_, (H3.out.alloc H3.out.size _).grown hgr (by simp; omega) (fun g hg => (HO3.out.lt g hg).1)⟩
          show w4.ownsRow w1.heap.size 49 2 _ _ _
          rw [e2, HG2.out, flatN_append]
          exact hown
        clear hown hgr hnil HO3 hnews hlen k0 k1 r1
        go_wp2_with fail
        go_roundw
        case rel => exact ⟨k + 1, va, uk + 1, vc, by omega, rfl, by go_num, HF⟩
        case measure => simp [intOf]; omega
      · have HG2 : Hid (garbF (m.take (k + 1)) xs = garbF (m.take k) xs) := by
          show _ = _
          rw [HG, hh]
          rfl
        rw [hh] at H37
        clear HG hh
        go_wp2_with fail
        refine H37.mono ?_
        rintro e w3 ⟨rfl, h3⟩
        have HF : Hid ((garbF (m.take (k + 1)) xs).length = uk ∧ OwnN w3 w1.heap.size (.slice ua uk uc) (garbF (m.take (k + 1)) xs) ∧ Below w1.heap.size w1 w3) := by
          rw [HG2.out]
          exact ⟨HK.out.1, owns_below HK.out.2.1 h3, HK.out.2.2.trans (h3.mono HK.out.2.2.size)⟩
        clear h3 H37 d0 d1 r0 HK HW
        go_wp2_with fail
        go_roundw
        case rel => exact ⟨k + 1, ua, uk, uc, by omega, rfl, by go_num, HF⟩
        case measure => simp [intOf]; omega
    · have hltI : ¬ (k : Int) < (n : Int) := by omega
      have HE : Hid ((garbF m xs).length = uk ∧ OwnN wr w.heap.size (.slice ua uk uc) (garbF m xs) ∧ Below w.heap.size w wr) := by
        obtain ⟨h1, h2, h3⟩ := HK.out
        have e1 : m.take k = m := List.take_of_length_le (by
          have h7 := HB.out.2.2.2.1
          rw [← HB.out.1]
          simp [hpOf]
          omega)
        rw [e1] at h1 h2
        exact ⟨h1, row_low h2 HN.out.2.2.2.size, HN.out.2.2.2.trans (h3.mono HN.out.2.2.2.size)⟩
      go_wp2_with fail
      go_ret
      exact ⟨_, _, _, rfl, xs, HN.out.1, HE.out.1, HE.out.2.1, HE.out.2.2⟩
set_option maxRecDepth 100000 in
set_option maxHeartbeats 2000000 in
theorem z15 (p : Value) (m : Hp) (ls : List (List C)) (v : Value) (w : World) (h : RfV w p m) (hup : RisesH m) (hm : GoodH m) (hR : RowAt w v ls) (hT : (varsAll ls).length ≤ 100000000) (hu : (univ m (nubN (varsAll ls))).length ≤ 1000000000) :
    Calls Tryz.prog 15 #[p, v] w fun e w' => ∃ a j c, e = .returned (.slice a j c) ∧ Hid (∃ xs, UpN (Rch m (nubN (varsAll ls))) xs ∧ xs.length = j ∧ OwnN w' w.heap.size (.slice a j c) xs ∧ Below w.heap.size w w') := by
  have hpf : ∃ q, p = .pointer q := by
    rcases h with ⟨h, _⟩ | ⟨_, _, _, h, _⟩ <;> exact ⟨_, h⟩
  obtain ⟨q, rfl⟩ := hpf
  have hvf : ∃ a n c, v = .slice a n c := by
    rcases hR.2 with ⟨_, ad, e⟩ | ⟨b, o, c, vs, e, _⟩
    · exact ⟨_, _, _, e⟩
    · exact ⟨_, _, _, e⟩
  obtain ⟨va, vn, vc, rfl⟩ := hvf
  have H40 : Calls Tryz.prog 40 #[.slice va vn vc] w fun e w' => ∃ a j c, e = .returned (.slice a j c) ∧ Hid (NamesAt w' (.slice a j c) (nubN (varsAll ls)) ∧ Below w.heap.size w w') ∧ j ≤ 1000000000 := by
    refine (c35 ls _ w hR (by omega)).mono ?_
    rintro e w' ⟨u, rfl, h1, h2⟩
    obtain ⟨a, c, rfl⟩ := owns_form h1
    have h3 := nubN_len (varsAll ls)
    exact ⟨a, _, c, rfl, ⟨namesAt_of_owns h1 (by unfold maxLen; omega), h2⟩, by omega⟩
  have HV : Hid (RfV w (.pointer q) m ∧ RisesH m ∧ GoodH m ∧ (univ m (nubN (varsAll ls))).length ≤ 1000000000) := ⟨h, hup, hm, hu⟩
  clear h hup hm hR hT hu
  go_enter Tryz.func15, Tryz.ntmps15
  go_wp2_with fail
  refine H40.mono ?_
  rintro e w1 ⟨a, j, c, rfl, H1, hj⟩
  clear H40
  have H13 : Calls Tryz.prog 13 #[.pointer q, .slice a j c] w1 fun e w' => ∃ a j c, e = .returned (.slice a j c) ∧ Hid (∃ xs, UpN (Rch m (nubN (varsAll ls))) xs ∧ xs.length = j ∧ OwnN w' w.heap.size (.slice a j c) xs ∧ Below w.heap.size w w') := by
    refine (z13 _ m _ a j c w1 (HV.out.1.below H1.out.2) HV.out.2.1 HV.out.2.2.1 H1.out.1 HV.out.2.2.2 hj).mono ?_
    rintro e w' ⟨a, j, c, rfl, xs, h1, h2, h3, h4⟩
    exact ⟨a, j, c, rfl, xs, h1, h2, row_low h3 H1.out.2.size, H1.out.2.trans (h4.mono H1.out.2.size)⟩
  go_wp2_with fail
  refine H13.mono ?_
  rintro e w2 ⟨a', j', c', rfl, H2⟩
  clear H13
  go_wp2_with fail
  go_ret
  exact ⟨_, _, _, rfl, H2⟩
set_option maxRecDepth 100000 in
set_option maxHeartbeats 2000000 in
theorem f10t {w0 w : World} {hb M k : Nat} {m : Hp} (h : St w0 hb M k m w) (ls : List (List C)) (v : Value) (hR : RowAt w v ls) (hT : (varsAll ls).length ≤ 100000000) (hW : ∀ x ∈ varsAll ls, wfN x) :
    Calls Tryz.prog 10 #[.pointer (some ⟨hb, 0, none⟩), v] w fun e w' => ∃ a j c, e = .returned (.slice a j c) ∧ Hid (∃ xs, UpN (Rch m (nubN (varsAll ls))) xs ∧ xs.length = j ∧ OwnN w' w.heap.size (.slice a j c) xs ∧ Below w.heap.size w w' ∧ xs.length ≤ (varsAll ls).length + 256 * k) := by
  have hvf : ∃ a n c, v = .slice a n c := by
    rcases hR.2 with ⟨_, ad, e⟩ | ⟨b, o, c, vs, e, _⟩
    · exact ⟨_, _, _, e⟩
    · exact ⟨_, _, _, e⟩
  obtain ⟨va, vn, vc, rfl⟩ := hvf
  have H36 : Calls Tryz.prog 36 #[.slice va vn vc] w fun e w' => ∃ a j c, e = .returned (.slice a j c) ∧ Hid (NamesAt w' (.slice a j c) (nubN (varsAll ls)) ∧ Below w.heap.size w w') := by
    refine (c34 ls _ w hR (by omega) hW).mono ?_
    rintro e w' ⟨u, rfl, h1, h2⟩
    obtain ⟨a, c, rfl⟩ := owns_form h1
    have h3 := nubN_len (varsAll ls)
    exact ⟨a, _, c, rfl, namesAt_of_owns h1 (by unfold maxLen; omega), h2⟩
  have HV : Hid (St w0 hb M k m w ∧ (varsAll ls).length ≤ 100000000 ∧ ∀ x ∈ varsAll ls, wfN x) := ⟨h, hT, hW⟩
  clear h hR hT hW
  go_enter Tryz.func10, Tryz.ntmps10
  go_wp2_with fail
  refine H36.mono ?_
  rintro e w1 ⟨a, j, c, rfl, H1⟩
  clear H36
  have H8 : Calls Tryz.prog 8 #[.pointer (some ⟨hb, 0, none⟩), .slice a j c] w1 fun e w' => ∃ a j c, e = .returned (.slice a j c) ∧ Hid (∃ xs, UpN (Rch m (nubN (varsAll ls))) xs ∧ xs.length = j ∧ OwnN w' w.heap.size (.slice a j c) xs ∧ Below w.heap.size w w' ∧ xs.length ≤ (varsAll ls).length + 256 * k) := by
    have h3 := nubN_len (varsAll ls)
    refine (st9 (HV.out.1.below H1.out.2) _ a j c H1.out.1 (fun x hx => HV.out.2.2 x (nubN_mem _ _ hx)) (by have := HV.out.2.1; omega)).mono ?_
    rintro e w' ⟨xs, a, j, c, rfl, g1, g2, g3, _, g5, g6, _⟩
    exact ⟨a, j, c, rfl, xs, g1, g2, row_low g3 H1.out.2.size, H1.out.2.trans (g5.mono H1.out.2.size), by omega⟩
  go_wp2_with fail
  refine H8.mono ?_
  rintro e w2 ⟨a', j', c', rfl, H2⟩
  clear H8
  go_wp2_with fail
  go_ret
  exact ⟨_, _, _, rfl, H2⟩
end Go.Proofs.YtojobiefambkoaaGreatDoor
