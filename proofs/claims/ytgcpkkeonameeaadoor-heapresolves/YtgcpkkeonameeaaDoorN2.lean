/- The reference Vars, VarsOf, Global. -/
import Derived.Test.YtgcpkkeonameeaaDoorN1
namespace Go.Proofs.YtgcpkkeonameeaaDoor
open Go.RowKit
def addN (acc : List Nm) (x : Nm) : List Nm := if hasN acc x then acc else acc ++ [x]
/-- Each once, in the order in which they first come. -/
def nubN (xs : List Nm) : List Nm := xs.foldl addN []
theorem nubN_snoc (xs : List Nm) (x : Nm) : nubN (xs ++ [x]) = addN (nubN xs) x := by simp [nubN]
theorem addN_len (acc : List Nm) (x : Nm) : (addN acc x).length ≤ acc.length + 1 := by unfold addN; split <;> simp
theorem foldN_len (xs acc : List Nm) : (xs.foldl addN acc).length ≤ acc.length + xs.length := by
  induction xs generalizing acc with
  | nil => simp
  | cons a r ih =>
    have h1 := ih (addN acc a)
    have h2 := addN_len acc a
    simp; omega
theorem nubN_len (xs : List Nm) : (nubN xs).length ≤ xs.length := by
  have := foldN_len xs []; simp at this; exact this
theorem info23 : ∃ i, Tryd.prog.info? 33 = some i ∧ i.zero = some (.agg #[.int .i64 0, .int .i64 0]) ∧ i.size = 2 ∧ i.bytes = 16 := by
  have h : (Tryd.prog.info? 33).map (fun i => (i.zero, i.size, i.bytes)) = some (some (.agg #[.int .i64 0, .int .i64 0]), 2, 16) := by kernel_rfl
  cases hq : Tryd.prog.info? 33 with
  | none => rw [hq] at h; cases h
  | some i =>
    rw [hq] at h
    simp only [Option.map_some, Option.some.injEq, Prod.mk.injEq] at h
    exact ⟨i, rfl, h.1, h.2.1, h.2.2⟩
theorem newsN_new (W : World) (x : Nm) : ∀ j u, (flatN [x])[j]? = some u → (W.alloc (.cells #[.int .i64 x.1, .int .i64 x.2] 33)).cell? ((⟨W.heap.size, 0, none⟩ : Addr).add j) = some u := by
  intro j u hu
  rw [Addr.add_mid]
  exact range_new W (flatN [x]) 33 j u hu
/-- What has come of the first k terms and j cells of the next. -/
def metN (ls : List (List C)) (k j : Nat) : List Nm := nubN (varsAll (ls.take k) ++ varsOf ((ls[k]?.getD []).take j))
theorem metN_len (ls : List (List C)) (k j : Nat) (hk : k < ls.length) : (metN ls k j).length ≤ (varsAll ls).length := by
  unfold metN
  have h := (vars_at_prefix ls k j hk).length_le
  have h2 := nubN_len (varsAll (ls.take k) ++ varsOf (ls[k].take j))
  simp only [List.getElem?_eq_getElem hk, Option.getD_some]
  omega
theorem metN_zero (ls : List (List C)) (k : Nat) : metN ls k 0 = nubN (varsAll (ls.take k)) := by simp [metN, varsOf]
theorem metN_end (ls : List (List C)) (k j : Nat) (hk : k < ls.length) (hj : ls[k].length ≤ j) : metN ls k j = nubN (varsAll (ls.take (k + 1))) := by
  unfold metN
  rw [varsAll_snoc ls k hk]
  simp [List.getElem?_eq_getElem hk, List.take_of_length_le hj]
theorem metN_no (ls : List (List C)) (k j : Nat) (hk : k < ls.length) (hj : j < ls[k].length) (h : (ls[k][j].k == 4) = false) : metN ls k (j + 1) = metN ls k j := by
  unfold metN
  simp only [List.getElem?_eq_getElem hk, Option.getD_some]
  rw [varsOf_snoc_no ls[k] j hj h]
theorem metN_yes (ls : List (List C)) (k j : Nat) (hk : k < ls.length) (hj : j < ls[k].length) (h : (ls[k][j].k == 4) = true) : metN ls k (j + 1) = addN (metN ls k j) (ls[k][j].vn, ls[k][j].vk) := by
  unfold metN
  simp only [List.getElem?_eq_getElem hk, Option.getD_some]
  rw [varsOf_snoc_yes ls[k] j hj h, ← List.append_assoc, nubN_snoc]
set_option maxHeartbeats 1000000 in
theorem c35_nil (ad : Option Addr) (w : World) :
    Calls Tryd.prog 35 #[.slice ad 0 0] w fun e w' => e = .returned (.slice none 0 0) ∧ Below w.heap.size w w' := by
  go_enter Tryd.func35, Tryd.ntmps35
  go_wp2_with fail
  refine wp_loop_rounds 1 ?_
  rw [rounds_succ]
  go_wp2_with fail
  go_ret
  exact ⟨rfl, Below.refl _ _⟩
set_option maxRecDepth 100000 in
set_option maxHeartbeats 4000000 in
theorem c35_in (ls : List (List C)) (b o cap : Nat) (vs : List Value) (w : World) (hb : b < w.heap.size) (hc : ls.length ≤ maxLen) (hvl : vs.length = ls.length) (hr : w.rangeAt b o vs) (ht : ∀ (i : Nat) (u : Value) (x : List C), vs[i]? = some u → ls[i]? = some x → TermAt w u x) (hT : (varsAll ls).length ≤ 1000000000000) :
    Calls Tryd.prog 35 #[.slice (some ⟨b, o, none⟩) ls.length cap] w fun e w' => ∃ u, e = .returned u ∧ OwnN w' w.heap.size u (nubN (varsAll ls)) ∧ Below w.heap.size w w' := by
  unfold maxLen at hc
  have HR : Hid (w.rangeAt b o vs) := hr
  have HT : Hid (∀ (i : Nat) (u : Value) (x : List C), vs[i]? = some u → ls[i]? = some x → TermAt w u x) := ht
  have HV : Hid (vs.length = ls.length) := hvl
  obtain ⟨i0, hi, hz, hs, hby⟩ := info23
  clear hr ht hvl
  go_enter Tryd.func35, Tryd.ntmps35
  go_wp2_with fail
  go_loopw [3, 4] (fun out i wr => ∃ k : Nat, k ≤ ls.length ∧ i = .int .i64 k ∧ Hid (OwnN wr w.heap.size out (nubN (varsAll (ls.take k)))) ∧ Below w.heap.size w wr) (fun _ i _ => ls.length - (intOf i).toNat)
  case atStart => exact ⟨0, Nat.zero_le _, rfl, World.ownsRow_nil _ _ _ _, Below.refl _ _⟩
  case round =>
    obtain ⟨k, hk, rfl, hown, hbr⟩ := hrel
    by_cases hlt : k < ls.length
    · have hlt' : (k : Int) < (ls.length : Int) := by omega
      have hkv : k < vs.length := by rw [HV.out]; exact hlt
      have htm := HT.out k _ _ (List.getElem?_eq_getElem hkv) (List.getElem?_eq_getElem hlt)
      obtain ⟨ak, ck, hfk⟩ := htm.form
      have hl63 : ls[k].length ≤ 2 ^ 63 - 1 := htm.1.1
      have HTA : Hid (TermAt w vs[k] ls[k]) := htm
      have HP : Hid (∀ wr, Below w.heap.size w wr → wr.cell? ⟨b, o + k, none⟩ = some (.slice ak ls[k].length ck)) := fun wr h => by
        have := row_cell (range_below HR.out hb h) k hkv
        rw [this, hfk]
      rw [hfk] at HTA
      clear htm hfk
      go_wp2_with fail
      go_loopw [3, 5] (fun out i wr => ∃ j : Nat, j ≤ ls[k].length ∧ i = .int .i64 j ∧ Hid (OwnN wr w.heap.size out (metN ls k j)) ∧ Below w.heap.size w wr) (fun _ i _ => ls[k].length - (intOf i).toNat)
      case atStart => exact ⟨0, Nat.zero_le _, rfl, by show OwnN _ _ _ _; rw [metN_zero]; exact hown.out, hbr⟩
      case round =>
        obtain ⟨j, hj, rfl, hown2, hbr2⟩ := hrel
        have p0 := HP.out wr hbr2
        have hsz := hbr2.size
        by_cases hltj : j < ls[k].length
        · have hltj' : (j : Int) < (ls[k].length : Int) := by omega
          obtain ⟨_, hta2⟩ := HTA.out
          rcases hta2 with ⟨hnil, _⟩ | ⟨bk, ok, ck2, hf, _, _, hrk, hbk⟩
          · rw [hnil] at hltj; simp at hltj
          simp only [Value.slice.injEq, true_and] at hf
          obtain ⟨hf1, hf2⟩ := hf
          subst hf1 hf2
          obtain ⟨q0, q1, q2, q3, q4⟩ := term_cells (range_below hrk hbk hbr2) j hltj
          have hml := metN_len ls k j hlt
          clear hrk
          cases h4 : (ls[k][j].k == 4)
          · have hE : Hid (metN ls k (j + 1) = metN ls k j) := metN_no ls k j hlt hltj h4
            go_wp2_with fail
            go_roundw
            case rel => exact ⟨j + 1, by omega, by go_num, by show OwnN _ _ _ _; rw [hE.out]; exact hown2.out.alloc _, hbr2.alloc hsz _⟩
            case measure => simp [intOf]; omega
          · have hE0 := metN_yes ls k j hlt hltj h4
            have H43 := fun ob => c43 (metN ls k j) _ (ls[k][j].vn, ls[k][j].vk) (wr.alloc ob) ((namesAt_of_owns hown2.out (by unfold maxLen; omega)).below (below_alloc _ ob))
            dsimp only at H43
            cases hh : hasN (metN ls k j) (ls[k][j].vn, ls[k][j].vk)
            · have hE : Hid (metN ls k (j + 1) = metN ls k j ++ [(ls[k][j].vn, ls[k][j].vk)]) := by
                show metN ls k (j + 1) = _
                rw [hE0]; unfold addN; rw [hh]; rfl
              rw [hh] at H43
              have H43 : Hid (∀ ob, _) := H43
              clear hE0 hh
              go_wp2_with fail
              refine (H43.out _).mono ?_
              rintro e w2 ⟨rfl, hb2⟩
              obtain ⟨hcc, hff⟩ := bcell hb2
              have hz2 : wr.heap.size < w2.heap.size := by have := hb2.size; simp at this; omega
              have hw2 : Hid (Below w.heap.size w w2) := (hbr2.alloc hsz _).trans (hb2.mono (by simp; omega))
              have hown3 : Hid (OwnN w2 w.heap.size _ (metN ls k j)) := owns_below (hown2.out.alloc _) hb2
              have hnews := newsN_new w2 (ls[k][j].vn, ls[k][j].vk)
              have hnews : Hid (∀ j' u, (flatN [(ls[k][j].vn, ls[k][j].vk)])[j']? = some u → (w2.alloc (.cells #[.int .i64 ls[k][j].vn, .int .i64 ls[k][j].vk] 33)).cell? ((⟨w2.heap.size, 0, none⟩ : Addr).add j') = some u) := hnews
              have hlen : Hid ((flatN [(ls[k][j].vn, ls[k][j].vk)]).length = 1 * 2) := rfl
              go_wp2_with (at_builtin; refine wpList_append_own _ rfl _ _ 50 rfl w.heap.size 33 i0 (.agg #[.int .i64 0, .int .i64 0]) 2 16 Tryd.underlying50 hi hz hs hby rfl (by decide) _ _ _ rfl (hown3.out.alloc _) ⟨w2.heap.size, 0, none⟩ 1 1 (flatN [(ls[k][j].vn, ls[k][j].vk)]) rfl hlen.out hnews.out (flatN_one _) (by unfold maxLen; omega) (by omega) (by simp; omega) ?_)
              intro v' w3 hown' hgrow hnil
              have hown4 : Hid (OwnN w3 w.heap.size v' (metN ls k (j + 1))) := by
                show w3.ownsRow w.heap.size 33 2 v' _ _
                rw [hE.out, flatN_append, List.length_append]; exact hown'
              have hbr3 : Hid (Below w.heap.size w w3) := (hw2.out.alloc (by omega) _).grown hgrow (by simp; omega) (fun g hg => (hown3.out.lt g hg).1)
              clear hgrow hnil
              go_wp2_with fail
              go_roundw
              case rel => exact ⟨j + 1, by omega, by go_num, hown4, hbr3.out⟩
              case measure => simp [intOf]; omega
            · have hE : Hid (metN ls k (j + 1) = metN ls k j) := by
                show metN ls k (j + 1) = _
                rw [hE0]; unfold addN; rw [hh]; rfl
              rw [hh] at H43
              have H43 : Hid (∀ ob, _) := H43
              clear hE0 hh
              go_wp2_with fail
              refine (H43.out _).mono ?_
              rintro e w2 ⟨rfl, hb2⟩
              have hw2 : Hid (Below w.heap.size w w2) := (hbr2.alloc hsz _).trans (hb2.mono (by simp; omega))
              have hown3 : Hid (OwnN w2 w.heap.size _ (metN ls k j)) := owns_below (hown2.out.alloc _) hb2
              go_wp2_with fail
              go_roundw
              case rel => exact ⟨j + 1, by omega, by go_num, by show OwnN _ _ _ _; rw [hE.out]; exact hown3.out, hw2.out⟩
              case measure => simp [intOf]; omega
        · have hlt2 : ¬ ((j : Int) < (ls[k].length : Int)) := by omega
          have hE : Hid (metN ls k j = nubN (varsAll (ls.take (k + 1)))) := metN_end ls k j hlt (by omega)
          go_wp2_with fail
          go_roundw
          case rel => exact ⟨k + 1, by omega, by go_num, by show OwnN _ _ _ _; rw [← hE.out]; exact hown2.out, hbr2⟩
          case measure => simp [intOf]; omega
    · have hlt' : ¬ ((k : Int) < (ls.length : Int)) := by omega
      rw [List.take_of_length_le (by omega)] at hown
      go_wp2_with fail
      go_ret
      exact ⟨_, rfl, hown.out, hbr⟩
theorem c35 (ls : List (List C)) (v : Value) (w : World) (h : RowAt w v ls) (hT : (varsAll ls).length ≤ 1000000000000) :
    Calls Tryd.prog 35 #[v] w fun e w' => ∃ u, e = .returned u ∧ OwnN w' w.heap.size u (nubN (varsAll ls)) ∧ Below w.heap.size w w' := by
  obtain ⟨hc, h⟩ := h
  rcases h with ⟨rfl, ad, rfl⟩ | ⟨b, o, cap, vs, rfl, h2, h3, h4, h5, h6, h7⟩
  · exact (c35_nil ad w).mono fun e w' ⟨h1, h2⟩ => ⟨_, h1, World.ownsRow_nil _ _ _ _, h2⟩
  · exact c35_in ls b o cap vs w h4 hc h5 h6 h7 hT
theorem row_one (w : World) (v : Value) (l : List C) (h : TermAt w v l) : RowAt (w.alloc (.cells #[v] 24)) (.slice (some ⟨w.heap.size, 0, none⟩) 1 1) [l] := by
  refine ⟨by simp [maxLen], .inr ⟨w.heap.size, 0, 1, [v], rfl, by simp, by simp [maxLen], by simp, rfl, range_new w [v] 24, ?_⟩⟩
  intro i u x hu hx
  match i, hu, hx with
  | 0, hu, hx => simp at hu hx; subst hu hx; exact h.below (below_alloc _ _)
set_option maxHeartbeats 1000000 in
theorem c42 (l : List C) (v : Value) (w : World) (h : TermAt w v l) (hT : l.length ≤ 1000000000000) :
    Calls Tryd.prog 17 #[v] w fun e w' => ∃ u, e = .returned u ∧ OwnN w' w.heap.size u (nubN (varsOf l)) ∧ Below w.heap.size w w' := by
  have hvl : (varsAll [l]).length ≤ 1000000000000 := by
    have : (varsOf l).length ≤ l.length := by unfold varsOf; rw [List.length_map]; exact List.length_filter_le _ _
    simp [varsAll]; omega
  have hva : varsAll [l] = varsOf l := by simp [varsAll]
  have H35 := c35 [l] _ _ (row_one w v l h) hvl
  rw [hva] at H35
  obtain ⟨ad, cap, hf⟩ := h.form
  have hl63 : l.length ≤ 2 ^ 63 - 1 := h.1.1
  rw [hf] at H35
  rw [hf]
  clear h hf hva hvl
  go_enter Tryd.func17, Tryd.ntmps17
  go_wp2_with fail
  refine H35.mono ?_
  rintro e w' ⟨u, rfl, hO, hb⟩
  obtain ⟨g, c2, rfl⟩ := owns_form hO
  have HO : Hid _ := hO
  clear hO
  go_wp2_with fail
  go_ret
  refine ⟨_, rfl, ⟨HO.out.1, ?_⟩, (below_alloc w _).trans (hb.mono (by simp))⟩
  rcases HO.out.2 with h | ⟨g', cap', cur, h1, h2, h3⟩
  · exact .inl h
  · exact .inr ⟨g', cap', cur, h1, by simp at h2; omega, h3⟩
def refGlobalB (l : List C) : Bool := rightB l && (varsOf l).all (fun x => !decide (x.1 < 0))
set_option maxHeartbeats 1000000 in
theorem c37_no (l : List C) (v : Value) (w : World) (_h : TermAt w v l) (hr : rightB l = false) (H23 : Calls Tryd.prog 52 #[v] w fun e w' => e = .returned (.bool (rightB l)) ∧ Below w.heap.size w w') :
    Calls Tryd.prog 39 #[v] w fun e w' => e = .returned (.bool (refGlobalB l)) ∧ Below w.heap.size w w' := by
  have e1 : refGlobalB l = false := by unfold refGlobalB; rw [hr]; rfl
  rw [e1]
  rw [hr] at H23
  clear e1 hr _h
  go_enter Tryd.func39, Tryd.ntmps39
  go_wp2_with fail
  refine H23.mono ?_
  rintro e w1 ⟨rfl, hb1⟩
  go_wp2_with fail
  go_ret
  exact ⟨rfl, hb1⟩
set_option maxHeartbeats 1000000 in
theorem c37_yes (l : List C) (v : Value) (w : World) (h : TermAt w v l) (hr : rightB l = true) (H23 : Calls Tryd.prog 52 #[v] w fun e w' => e = .returned (.bool (rightB l)) ∧ Below w.heap.size w w') :
    Calls Tryd.prog 39 #[v] w fun e w' => e = .returned (.bool (refGlobalB l)) ∧ Below w.heap.size w w' := by
  have hrl := right_len hr
  have e1 : refGlobalB l = (varsOf l).all (fun x => !decide (x.1 < 0)) := by unfold refGlobalB; rw [hr]; rfl
  rw [e1]
  rw [hr] at H23
  clear e1 hr
  obtain ⟨_, h⟩ := h
  rcases h with ⟨rfl, ad, rfl⟩ | ⟨b, o, cap, rfl, h2, h5, h3, h4⟩
  · simp at hrl
  have HR : Hid (w.rangeAt b o (flat l)) := h3
  clear h3 h2 h5
  go_enter Tryd.func39, Tryd.ntmps39
  go_wp2_with fail
  refine H23.mono ?_
  rintro e w1 ⟨rfl, hb1⟩
  go_wp2_with fail
  go_loopw [3] (fun i wr => ∃ k : Nat, k ≤ l.length ∧ i = .int .i64 k ∧ Hid ((varsOf (l.take k)).all (fun x => !decide (x.1 < 0)) = true) ∧ Below w.heap.size w wr) (fun i _ => l.length - (intOf i).toNat)
  case atStart => exact ⟨0, Nat.zero_le _, rfl, rfl, hb1⟩
  case round =>
    obtain ⟨k, hk, rfl, hall, hbr⟩ := hrel
    by_cases hlt : k < l.length
    · have hlt' : (k : Int) < (l.length : Int) := by omega
      obtain ⟨q0, q1, q2, q3, q4⟩ := term_cells (range_below HR.out h4 hbr) k hlt
      cases hk4 : (l[k].k == 4)
      · have hE : Hid ((varsOf (l.take (k + 1))).all (fun x => !decide (x.1 < 0)) = true) := by
          show (varsOf (l.take (k + 1))).all _ = true
          rw [varsOf_snoc_no l k hlt hk4]; exact hall.out
        go_wp2_with fail
        go_roundw
        case rel => exact ⟨k + 1, by omega, by go_num, hE, hbr⟩
        case measure => simp [intOf]; omega
      · by_cases hneg : l[k].vn < 0
        · have hF : Hid ((varsOf l).all (fun x => !decide (x.1 < 0)) = false) := by
            show (varsOf l).all _ = false
            rw [List.all_eq_false]
            refine ⟨(l[k].vn, l[k].vk), ?_, by simp [hneg]⟩
            unfold varsOf
            exact List.mem_map.2 ⟨l[k], List.mem_filter.2 ⟨List.getElem_mem _, hk4⟩, rfl⟩
          go_wp2_with fail
          go_ret
          exact ⟨by rw [hF.out]; rfl, hbr⟩
        · have hE : Hid ((varsOf (l.take (k + 1))).all (fun x => !decide (x.1 < 0)) = true) := by
            show (varsOf (l.take (k + 1))).all _ = true
            rw [varsOf_snoc_yes l k hlt hk4, List.all_append, hall.out]; simp; omega
          go_wp2_with fail
          go_roundw
          case rel => exact ⟨k + 1, by omega, by go_num, hE, hbr⟩
          case measure => simp [intOf]; omega
    · have hlt' : ¬ ((k : Int) < (l.length : Int)) := by omega
      have hF : Hid ((varsOf l).all (fun x => !decide (x.1 < 0)) = true) := by
        have h := hall.out; rw [List.take_of_length_le (by omega)] at h; exact h
      go_wp2_with fail
      go_ret
      exact ⟨by rw [hF.out]; rfl, hbr⟩
end Go.Proofs.YtgcpkkeonameeaaDoor
