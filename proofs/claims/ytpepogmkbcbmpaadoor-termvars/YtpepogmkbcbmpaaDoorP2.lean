/- Contract of TermVars: it returns true. -/
import Derived.Test.YtpepogmkbcbmpaaDoorP1
import Derived.Maps.AppendAt
namespace Go.Proofs.YtpepogmkbcbmpaaDoor
open Go.RowKit
theorem NamesAt.grown {W W' : World} {v : Value} {l : List Nm} {row : Option Nat} (h : NamesAt W v l) (hg : W.grownBy W' row) (hne : ∀ b, v.ownBlock = some b → row ≠ some b) : NamesAt W' v l := by
  obtain ⟨h0, h⟩ := h
  refine ⟨h0, ?_⟩
  rcases h with h | ⟨b, o, cap, rfl, h3, h4⟩
  · exact Or.inl h
  · refine Or.inr ⟨b, o, cap, rfl, fun j u hu => ?_, Nat.lt_of_lt_of_le h4 hg.size⟩
    exact hg.cell (h3 j u hu) (fun e => hne b rfl e.symm)
theorem fold_mem (xs acc : List Nm) (y : Nm) (h : y ∈ acc ∨ y ∈ xs) : y ∈ xs.foldl addN acc := by
  induction xs generalizing acc with
  | nil => simpa using h
  | cons a r ih =>
    refine ih (addN acc a) ?_
    unfold addN
    cases hh : hasN acc a
    · rcases h with h | h
      · exact .inl (by simp [h])
      · rcases List.mem_cons.1 h with rfl | h
        · exact .inl (by simp)
        · exact .inr h
    · rcases h with h | h
      · exact .inl (by simpa using h)
      · rcases List.mem_cons.1 h with rfl | h
        · exact .inl (by simpa using (hasN_iff _ _).1 hh)
        · exact .inr h
theorem addN_no {acc : List Nm} {x : Nm} (h : hasN acc x = false) : addN acc x = acc ++ [x] := by unfold addN; rw [h]; rfl
theorem addN_yes {acc : List Nm} {x : Nm} (h : hasN acc x = true) : addN acc x = acc := by unfold addN; rw [h]; rfl
theorem addN_in {acc : List Nm} {x : Nm} (h : x ∈ acc) : addN acc x = acc := by
  unfold addN; rw [(hasN_iff _ _).2 h]; rfl
theorem snoc_ind {α : Type} {P : List α → Prop} (h0 : P []) (h1 : ∀ xs x, P xs → P (xs ++ [x])) : ∀ xs, P xs := by
  intro xs
  have h : ∀ n (xs : List α), xs.length = n → P xs := by
    intro n
    induction n with
    | zero => intro xs hx; rw [List.eq_nil_of_length_eq_zero hx]; exact h0
    | succ n ih =>
      intro xs hx
      have hne : xs ≠ [] := by intro e; rw [e] at hx; simp at hx
      rw [← List.dropLast_concat_getLast hne]
      exact h1 _ _ (ih _ (by rw [List.length_dropLast]; omega))
  exact h _ xs rfl
/-- Names that were made one each before may come as often as they like. -/
theorem fold_nub (acc xs : List Nm) : (nubN xs).foldl addN acc = xs.foldl addN acc := by
  induction xs using snoc_ind with
  | h0 => rfl
  | h1 xs x ih =>
    rw [nubN_snoc, List.foldl_append]
    show (addN (nubN xs) x).foldl addN acc = addN (xs.foldl addN acc) x
    rw [← ih]
    unfold addN
    cases hh : hasN (nubN xs) x
    · rw [if_neg (by simp), List.foldl_append]; rfl
    · rw [if_pos rfl]
      have : hasN ((nubN xs).foldl addN acc) x = true := (hasN_iff _ _).2 (fold_mem _ _ _ (.inr ((hasN_iff _ _).1 hh)))
      rw [show (fun acc x => if hasN acc x = true then acc else acc ++ [x]) = addN from rfl, this]; rfl
def wantN (ls : List (List C)) (l : List C) : List Nm := nubN (varsOf (putL ls l))
theorem varsOf_append (a b : List C) : varsOf (a ++ b) = varsOf a ++ varsOf b := by simp [varsOf]
theorem want_snoc (ls : List (List C)) (l : List C) (k : Nat) (hk : k < l.length) : wantN ls (l.take (k + 1)) = (varsOf (putC ls l[k])).foldl addN (wantN ls (l.take k)) := by
  unfold wantN
  rw [put_snoc ls l k hk, varsOf_append]
  unfold nubN
  rw [List.foldl_append]
theorem varsOf_len (l : List C) : (varsOf l).length ≤ l.length := by unfold varsOf; rw [List.length_map]; exact List.length_filter_le _ _
theorem put_global {l : List C} {ls : List (List C)} (h : globalB l = true) : putL ls l = l := by
  unfold globalB at h
  simp only [Bool.and_eq_true] at h
  have h1 := List.all_eq_true.1 h.1
  have h2 : ∀ c ∈ l, putC ls c = [c] := by
    intro c hc
    unfold putC isLoc
    cases h4 : (c.k == 4)
    · rfl
    · have := h1 (c.vn, c.vk) (by unfold varsOf; exact List.mem_map.2 ⟨c, List.mem_filter.2 ⟨hc, h4⟩, rfl⟩)
      have h5 : (c.vn == -1) = false := by simpa using this
      rw [h5]; rfl
  unfold putL
  clear h1 h
  induction l with
  | nil => rfl
  | cons a r ih =>
    rw [List.flatMap_cons, h2 a (by simp), ih (fun c hc => h2 c (by simp [hc]))]; rfl
theorem putE_zero {l : List C} {ls : List (List C)} (h : putE l ls = 0) : rightB l = true ∧ localsB ls = true ∧ lacksB l ls = false ∧ putT l ls = putL ls l := by
  refine ⟨?_, ?_, ?_, by unfold putT; rw [h]; rfl⟩
  · cases hr : rightB l
    · rw [(putE_form hr).1] at h; cases h
    · rfl
  · cases hl : localsB ls
    · rw [(putE_locals hl).1] at h; cases h
    · rfl
  · cases hr : rightB l
    · rw [(putE_form hr).1] at h; cases h
    · cases hl : localsB ls
      · rw [(putE_locals hl).1] at h; cases h
      · cases hk : lacksB l ls
        · rfl
        · rw [(putE_none hr hl hk).1] at h; cases h
set_option maxRecDepth 100000 in
set_option maxHeartbeats 4000000 in
theorem c8_err (l : List C) (v : Value) (ls : List (List C)) (u : Value) (w : World) (hT : TermAt w v l) (hR : RowAt w u ls) (hS : Signs w) (hE : (putE l ls != 0) = true) :
    Calls Tryd.prog 8 #[v, u] w fun e w' => e = .returned (.bool true) ∧ Below w.heap.size w w' := by
  have HT : Hid (TermAt w v l) := hT
  have HR : Hid (RowAt w u ls) := hR
  have HS : Hid (Signs w) := hS
  have H31 := c31 l v ls u w hT hR hS
  have H32 := fun w1 hb => c32 l v ls u w1 (hT.below (w' := w1) hb) (hR.below hb)
  clear hT hR hS
  generalize putE l ls = pe at *
  have hpe : (pe == pe) = true := by simp
  go_enter Tryd.func8, Tryd.ntmps8
  go_wp2_with fail
  refine H31.mono ?_
  rintro e w1 ⟨a, rfl, _, hb1⟩
  go_wp2_with fail
  refine (H32 _ hb1).mono ?_
  rintro e w2 ⟨b, rfl, _, hb2⟩
  have hw2 : Hid (Below w.heap.size w w2) := hb1.trans (hb2.mono hb1.size)
  go_wp2_with fail
  refine (c12 w2 (HS.out.below hw2.out)).mono ?_
  rintro e w3 ⟨rfl, hb3⟩
  go_wp2_with fail
  go_ret
  exact ⟨rfl, hw2.out.trans (hb3.mono hw2.out.size)⟩
set_option maxRecDepth 100000 in
set_option maxHeartbeats 8000000 in
theorem c8_ok (l : List C) (b o cap : Nat) (ls : List (List C)) (adu : Option Addr) (cu : Nat) (w : World) (hT : TermAt w (.slice (some ⟨b, o, none⟩) l.length cap) l) (H : PutD w l b o ls (.slice adu ls.length cu)) (hS : Signs w) (hE : putE l ls = 0) (hW : ∀ x ∈ varsOf (putL ls l), wfN x) :
    Calls Tryd.prog 8 #[.slice (some ⟨b, o, none⟩) l.length cap, .slice adu ls.length cu] w fun e w' => e = .returned (.bool true) ∧ Below w.heap.size w w' := by
  obtain ⟨hr, hl, hno, hpt⟩ := putE_zero hE
  have H31 := c31 l _ ls _ w hT H.row hS
  rw [hE, hpt] at H31
  have hrl := right_len hr
  have hlsm : ls.length ≤ 2 ^ 63 - 1 := H.row.1
  have HT : Hid (TermAt w (.slice (some ⟨b, o, none⟩) l.length cap) l) := hT
  have HS : Hid (Signs w) := hS
  have HH : Hid (PutD w l b o ls (.slice adu ls.length cu)) := H
  have HLL : Hid (localsB ls = true) := hl
  have HW : Hid (∀ x ∈ varsOf (putL ls l), wfN x) := hW
  have HPT : Hid (putT l ls = putL ls l) := hpt
  have HPL : Hid ((putL ls l).length ≤ 256) := by
    show (putL ls l).length ≤ 256
    rw [← hpt]; exact putT_le
  have HLk : Hid (∀ (k : Nat) (hk : k < l.length), (l[k].k == 4) = true → (l[k].vn == -1) = true → ∃ m : Nat, l[k].vk = m ∧ ∃ hm : m < ls.length, 1 ≤ ls[m].length) := fun k hk h4 h1 => not_lack hr hno k hk h4 h1
  have HL : Hid (∀ (m : Nat) (hm : m < ls.length), ∃ bu ou, adu = some ⟨bu, ou, none⟩ ∧ ∃ vm, TermAt w vm ls[m] ∧ ∀ W, Below w.heap.size w W → W.cell? ⟨bu, ou + m, none⟩ = some vm) := fun m hm => by
    obtain ⟨bu', ou', cu', e, vm, h1, h2⟩ := H.local m hm
    simp only [Value.slice.injEq] at e
    exact ⟨bu', ou', e.1, vm, h1, h2⟩
  obtain ⟨i0, hi, hz, hs, hby⟩ := info23
  clear H hT hS hr hl hno hpt hE hW
  go_enter Tryd.func8, Tryd.ntmps8
  go_wp2_with fail
  refine H31.mono ?_
  rintro e w1 ⟨pu, rfl, hO1, hb1⟩
  have HPU : Hid (TermAt w1 pu (putL ls l)) := by
    show TermAt w1 pu (putL ls l)
    rw [← HPT.out] at hO1 ⊢; exact put_term HT.out HH.out.row hO1
  clear hO1 H31
  have hsz1 := hb1.size
  go_wp2_with fail
  go_loopw [9, 10] (fun wa i wr => ∃ (k : Nat) (wv : Value), wv = wa ∧ k ≤ l.length ∧ i = .int .i64 k ∧ Hid (OwnN wr w1.heap.size wv (wantN ls (l.take k))) ∧ Below w1.heap.size w1 wr) (fun _ i _ => l.length - (intOf i).toNat)
  case atStart => exact ⟨0, _, rfl, Nat.zero_le _, rfl, World.ownsRow_nil _ _ _ _, Below.refl _ _⟩
  case round =>
    obtain ⟨k, wv, hwv, hk, rfl, hown, hbr⟩ := hrel
    subst hwv
    have hsz := hbr.size
    have hbw : Hid (Below w.heap.size w wr) := hb1.trans (hbr.mono hsz1)
    by_cases hlt : k < l.length
    · have hlt' : (k : Int) < (l.length : Int) := by omega
      obtain ⟨p0, p1, p2, p3, p4⟩ := term_cells (range_below HH.out.rg HH.out.hb hbw.out) k hlt
      have hwl : (wantN ls (l.take k)).length ≤ 65536 := by
        have h1 := nubN_len (varsOf (putL ls (l.take k)))
        have h2 := varsOf_len (putL ls (l.take k))
        have h3 := put_len HLL.out (l.take k)
        have h4 : (l.take k).length ≤ k := List.length_take_le _ _
        unfold wantN; omega
      have HSN : wantN ls (l.take (k + 1)) = (varsOf (putC ls l[k])).foldl addN (wantN ls (l.take k)) := want_snoc ls l k hlt
      cases h4' : (l[k].k == 4)
      · have hC : varsOf (putC ls l[k]) = [] := by unfold putC isLoc; rw [h4']; simp [varsOf, h4']
        rw [hC] at HSN
        have HE2 : Hid (wantN ls (l.take (k + 1)) = wantN ls (l.take k)) := HSN
        have h4n : (l[k].k != 4) = true := by simp at h4' ⊢; exact h4'
        clear hC HSN
        go_wp2_with fail
        go_roundw
        case rel => exact ⟨k + 1, _, rfl, by omega, by go_num, by show OwnN _ _ _ _; rw [HE2.out]; exact hown.out, hbr⟩
        case measure => simp [intOf]; omega
      · have h4n : (l[k].k != 4) = false := by simp at h4' ⊢; exact h4'
        cases h1' : (l[k].vn == -1)
        · have hC : varsOf (putC ls l[k]) = [(l[k].vn, l[k].vk)] := by unfold putC isLoc; rw [h4', h1']; simp [varsOf, h4']
          rw [hC] at HSN
          obtain ⟨ms, hms⟩ : ∃ ms : List Nm, ms = [(l[k].vn, l[k].vk)] := ⟨_, rfl⟩
          have HEQ : Hid (wantN ls (l.take (k + 1)) = ms.foldl addN (wantN ls (l.take k))) := by rw [hms]; exact HSN
          have hml : ms.length = 1 := by rw [hms]; rfl
          have hms1 : ms.length ≤ 256 := by omega
          obtain ⟨adm, hadm⟩ : ∃ a, a = some (⟨wr.heap.size, 0, none⟩ : Addr) := ⟨_, rfl⟩
          obtain ⟨capm, hcap⟩ : ∃ c : Nat, c = 1 := ⟨1, rfl⟩
          have HMx0 : NamesAt (wr.alloc (.cells #[.int .i64 l[k].vn, .int .i64 l[k].vk] 23)) (.slice adm ms.length capm) ms := by
            subst hms hadm hcap
            exact ⟨by simp [maxLen], .inr ⟨wr.heap.size, 0, 1, rfl, range_new wr (flatN [(l[k].vn, l[k].vk)]) 23, by simp⟩⟩
          have HOx : Hid (OwnN (wr.alloc (.cells #[.int .i64 l[k].vn, .int .i64 l[k].vk] 23)) w1.heap.size wv (wantN ls (l.take k))) := hown.out.alloc _
          have HFx0 : ∀ bm, (Value.slice adm ms.length capm).ownBlock = some bm → wv.ownBlock ≠ some bm := fun bm hbm e => by
            rw [hadm] at hbm
            simp [Value.ownBlock] at hbm
            have := (hown.out.lt bm e).2
            omega
          have hbx : Below w1.heap.size w1 (wr.alloc (.cells #[.int .i64 l[k].vn, .int .i64 l[k].vk] 23)) := hbr.alloc hsz _
          have hbz : b < wr.heap.size := Nat.lt_of_lt_of_le HH.out.hb hbw.out.size
          have HMV : Hid (Value.slice (some ⟨wr.heap.size, 0, none⟩) 1 1 = .slice adm ms.length capm) := by
            show _ = _
            rw [hml, hadm, hcap]
          clear hC HSN hms hadm hcap hml
          go_wp2_with fail
          rw [HMV.out]
          clear HMV
          have HMx : Hid _ := HMx0
          have HFx : Hid _ := HFx0
          clear HMx0 HFx0
          go_loopw [9, 12] (fun wv2 i wr2 => ∃ j : Nat, j ≤ ms.length ∧ i = .int .i64 j ∧ Hid (OwnN wr2 w1.heap.size wv2 ((ms.take j).foldl addN (wantN ls (l.take k)))) ∧ Hid (NamesAt wr2 (.slice adm ms.length capm) ms) ∧ Hid (∀ bm, (Value.slice adm ms.length capm).ownBlock = some bm → wv2.ownBlock ≠ some bm) ∧ Below w1.heap.size w1 wr2) (fun _ i _ => ms.length - (intOf i).toNat)
          case atStart => exact ⟨0, Nat.zero_le _, rfl, HOx, HMx, HFx, hbx⟩
          case round =>
            clear HOx HMx HFx hbx
            obtain ⟨j, hj, rfl, HO, HM, HF, hbj⟩ := hrel
            have hszj := hbj.size
            by_cases hltj : j < ms.length
            · have hltj' : (j : Int) < (ms.length : Int) := by omega
              obtain ⟨_, hM2⟩ := HM.out
              rcases hM2 with ⟨hnil, _⟩ | ⟨bm, om, cm2, hfm, hrm, hbm⟩
              · rw [hnil] at hltj; simp at hltj
              simp only [Value.slice.injEq, true_and] at hfm
              obtain ⟨hfm1, hfm2⟩ := hfm
              subst hfm1 hfm2
              obtain ⟨p0, p1⟩ := name_cells hrm j hltj
              have hfl := foldN_len (ms.take j) (wantN ls (l.take k))
              have htl : (ms.take j).length ≤ j := List.length_take_le _ _
              have hsn : (ms.take (j + 1)).foldl addN (wantN ls (l.take k)) = addN ((ms.take j).foldl addN (wantN ls (l.take k))) ms[j] := by
                rw [List.take_succ_eq_append_getElem hltj, List.foldl_append]; rfl
              have H43 := c43 ((ms.take j).foldl addN (wantN ls (l.take k))) _ ms[j] wr (namesAt_of_owns HO.out (by unfold maxLen; omega))
              cases hh : hasN ((ms.take j).foldl addN (wantN ls (l.take k))) ms[j]
              · have hE : Hid ((ms.take (j + 1)).foldl addN (wantN ls (l.take k)) = (ms.take j).foldl addN (wantN ls (l.take k)) ++ [ms[j]]) := by
                            exact hsn.trans (addN_no hh)
                rw [hh] at H43
                clear hsn hh hrm
                generalize (ms.take j).foldl addN (wantN ls (l.take k)) = acc at *
                go_wp2_with fail
                refine H43.mono ?_
                rintro e w2 ⟨rfl, hb2⟩
                have hw2 : Hid (Below w1.heap.size w1 w2) := hbj.trans (hb2.mono hszj)
                have HM2 : Hid (NamesAt w2 (.slice (some ⟨bm, om, none⟩) ms.length capm) ms) := HM.out.below hb2
                have HO2 : Hid (OwnN w2 w1.heap.size _ acc) := owns_below HO.out hb2
                have q0 := (hb2.cell (p := ⟨bm, om + j * 2, none⟩) hbm).trans p0
                have q1 := (hb2.cell (p := ⟨bm, om + j * 2 + 1, none⟩) hbm).trans p1
                have hz2 := hb2.size
                have hnews : Hid (∀ j' u, (flatN [ms[j]])[j']? = some u → (w2.alloc (.cells #[.int .i64 ms[j].1, .int .i64 ms[j].2] 23)).cell? ((⟨w2.heap.size, 0, none⟩ : Addr).add j') = some u) := newsN_new w2 ms[j]
                have hlen : Hid ((flatN [ms[j]]).length = 1 * 2) := rfl
                have HMa : ∀ ob : Obj, Hid (NamesAt (w2.alloc ob) (.slice (some ⟨bm, om, none⟩) ms.length capm) ms) := fun ob => HM2.out.below (below_alloc _ ob)
                go_wp2_with (at_builtin; refine wpList_append_own_at _ rfl _ _ 51 rfl w1.heap.size 23 i0 (.agg #[.int .i64 0, .int .i64 0]) 2 16 Tryd.underlying51 hi hz hs hby rfl (by decide) _ _ _ rfl (HO2.out.alloc _) ⟨w2.heap.size, 0, none⟩ 1 1 (flatN [ms[j]]) rfl hlen.out hnews.out (flatN_one _) (by unfold maxLen; omega) (by omega) (by simp; omega) ?_)
                intro v' w3 hown' hgrow hnil hat
                have hown4 : Hid (OwnN w3 w1.heap.size v' ((ms.take (j + 1)).foldl addN (wantN ls (l.take k)))) := by
                  show w3.ownsRow w1.heap.size 23 2 v' _ _
                  rw [hE.out, flatN_append, List.length_append]; exact hown'
                have hbr3 : Hid (Below w1.heap.size w1 w3) := (hw2.out.alloc (by omega) _).grown hgrow (by simp; omega) (fun g hg => (HO2.out.lt g hg).1)
                have HM3 : Hid (NamesAt w3 (.slice (some ⟨bm, om, none⟩) ms.length capm) ms) := (HMa _).out.grown hgrow (fun b hb => HF.out b hb)
                have HF3 : Hid (∀ b, (Value.slice (some ⟨bm, om, none⟩) ms.length capm).ownBlock = some b → v'.ownBlock ≠ some b) := fun b hb => by
                  rcases hat with hat | hat
                  · rw [hat]; exact HF.out b hb
                  · rw [hat]
                    simp [Value.ownBlock] at hb
                    subst hb
                    simp; omega
                clear hgrow hnil hat
                go_wp2_with fail
                go_roundw
                case rel => exact ⟨j + 1, by omega, by go_num, hown4, HM3, HF3, hbr3.out⟩
                case measure => simp [intOf]; omega
              · have hE : Hid ((ms.take (j + 1)).foldl addN (wantN ls (l.take k)) = (ms.take j).foldl addN (wantN ls (l.take k))) := by
                            exact hsn.trans (addN_yes hh)
                rw [hh] at H43
                clear hsn hh hrm
                generalize (ms.take j).foldl addN (wantN ls (l.take k)) = acc at *
                go_wp2_with fail
                refine H43.mono ?_
                rintro e w2 ⟨rfl, hb2⟩
                have hw2 : Hid (Below w1.heap.size w1 w2) := hbj.trans (hb2.mono hszj)
                have HM2 : Hid (NamesAt w2 (.slice (some ⟨bm, om, none⟩) ms.length capm) ms) := HM.out.below hb2
                have HO2 : Hid (OwnN w2 w1.heap.size _ acc) := owns_below HO.out hb2
                go_wp2_with fail
                go_roundw
                case rel => exact ⟨j + 1, by omega, by go_num, by show OwnN _ _ _ _; rw [hE.out]; exact HO2.out, HM2, HF, hw2.out⟩
                case measure => simp [intOf]; omega
            · obtain rfl : j = ms.length := by omega
              rw [List.take_of_length_le (Nat.le_refl _)] at HO
              have hlt2 : ¬ ((ms.length : Int) < (ms.length : Int)) := by omega
              go_wp2_with fail
              go_roundw
              case rel => exact ⟨k + 1, _, rfl, by omega, by go_num, by show OwnN _ _ _ _; rw [HEQ.out]; exact HO.out, hbj⟩
              case measure => simp [intOf]; omega
        · obtain ⟨m, hm, hml, hm1⟩ := HLk.out k hlt h4' h1'
          have hC : varsOf (putC ls l[k]) = varsOf ls[m] := by unfold putC isLoc; rw [h4', h1', hm]; simp [hml]
          rw [hC] at HSN
          obtain ⟨ms, hms⟩ : ∃ ms : List Nm, ms = nubN (varsOf ls[m]) := ⟨_, rfl⟩
          have HEQ : Hid (wantN ls (l.take (k + 1)) = ms.foldl addN (wantN ls (l.take k))) := by
            show wantN ls (l.take (k + 1)) = ms.foldl addN (wantN ls (l.take k))
            rw [hms, fold_nub]; exact HSN
          have hl256 : ls[m].length ≤ 256 := locals_len HLL.out _ (List.getElem_mem hml)
          have hms1 : ms.length ≤ 256 := by
            have h1 := nubN_len (varsOf ls[m])
            have h2 := varsOf_len ls[m]
            rw [hms]; omega
          obtain ⟨bu, ou, rfl, vm, htm, hcell⟩ := HL.out m hml
          have hBa1 : ∀ o1 : Obj, Hid (Below w.heap.size w (wr.alloc o1)) := fun o1 => hbw.out.alloc hbw.out.size o1
          have q0 : ∀ o1 : Obj, (wr.alloc o1).cell? ⟨bu, ou + m, none⟩ = some vm := fun o1 => hcell _ (hBa1 o1).out
          have H42 := fun o1 : Obj => c42 ls[m] vm (wr.alloc o1) (htm.below (hBa1 o1).out) (by omega)
          rw [← hms] at H42
          have hml' : (m : Int) < (ls.length : Int) := by omega
          have hml2 : ¬ ((ls.length : Int) ≤ (m : Int)) := by omega
          rw [hm] at p4
          obtain ⟨am, cm, hfm⟩ := htm.form
          have hbz : b < wr.heap.size := Nat.lt_of_lt_of_le HH.out.hb hbw.out.size
          subst hfm
          clear hcell hm hC HSN htm hms
          go_wp2_with fail
          refine (H42 _).mono ?_
          rintro e w2 ⟨mv, rfl, hO2, hb2⟩
          have hz2 : wr.heap.size < w2.heap.size := by have := hb2.size; simp at this; omega
          have hbx : Below w1.heap.size w1 w2 := (hbr.alloc hsz _).trans (hb2.mono (by simp; omega))
          have HOx : Hid (OwnN w2 w1.heap.size wv (wantN ls (l.take k))) := owns_below (hown.out.alloc _) hb2
          have HFx : Hid (∀ bm, mv.ownBlock = some bm → wv.ownBlock ≠ some bm) := fun bm hbm e => by
            have h1 := (hO2.lt bm hbm).1
            have h2 := (hown.out.lt bm e).2
            simp at h1
            omega
          have HMx : Hid (NamesAt w2 mv ms) := namesAt_of_owns hO2 (by unfold maxLen; omega)
          obtain ⟨adm, capm, hfm⟩ := owns_form hO2
          clear hO2 H42
          subst hfm
          go_wp2_with fail
          go_loopw [9, 12] (fun wv2 i wr2 => ∃ j : Nat, j ≤ ms.length ∧ i = .int .i64 j ∧ Hid (OwnN wr2 w1.heap.size wv2 ((ms.take j).foldl addN (wantN ls (l.take k)))) ∧ Hid (NamesAt wr2 (.slice adm ms.length capm) ms) ∧ Hid (∀ bm, (Value.slice adm ms.length capm).ownBlock = some bm → wv2.ownBlock ≠ some bm) ∧ Below w1.heap.size w1 wr2) (fun _ i _ => ms.length - (intOf i).toNat)
          case atStart => exact ⟨0, Nat.zero_le _, rfl, HOx, HMx, HFx, hbx⟩
          case round =>
            clear HOx HMx HFx hbx
            obtain ⟨j, hj, rfl, HO, HM, HF, hbj⟩ := hrel
            have hszj := hbj.size
            by_cases hltj : j < ms.length
            · have hltj' : (j : Int) < (ms.length : Int) := by omega
              obtain ⟨_, hM2⟩ := HM.out
              rcases hM2 with ⟨hnil, _⟩ | ⟨bm, om, cm2, hfm, hrm, hbm⟩
              · rw [hnil] at hltj; simp at hltj
              simp only [Value.slice.injEq, true_and] at hfm
              obtain ⟨hfm1, hfm2⟩ := hfm
              subst hfm1 hfm2
              obtain ⟨p0, p1⟩ := name_cells hrm j hltj
              have hfl := foldN_len (ms.take j) (wantN ls (l.take k))
              have htl : (ms.take j).length ≤ j := List.length_take_le _ _
              have hsn : (ms.take (j + 1)).foldl addN (wantN ls (l.take k)) = addN ((ms.take j).foldl addN (wantN ls (l.take k))) ms[j] := by
                rw [List.take_succ_eq_append_getElem hltj, List.foldl_append]; rfl
              have H43 := c43 ((ms.take j).foldl addN (wantN ls (l.take k))) _ ms[j] wr (namesAt_of_owns HO.out (by unfold maxLen; omega))
              cases hh : hasN ((ms.take j).foldl addN (wantN ls (l.take k))) ms[j]
              · have hE : Hid ((ms.take (j + 1)).foldl addN (wantN ls (l.take k)) = (ms.take j).foldl addN (wantN ls (l.take k)) ++ [ms[j]]) := by
                            exact hsn.trans (addN_no hh)
                rw [hh] at H43
                clear hsn hh hrm
                generalize (ms.take j).foldl addN (wantN ls (l.take k)) = acc at *
                go_wp2_with fail
                refine H43.mono ?_
                rintro e w2 ⟨rfl, hb2⟩
                have hw2 : Hid (Below w1.heap.size w1 w2) := hbj.trans (hb2.mono hszj)
                have HM2 : Hid (NamesAt w2 (.slice (some ⟨bm, om, none⟩) ms.length capm) ms) := HM.out.below hb2
                have HO2 : Hid (OwnN w2 w1.heap.size _ acc) := owns_below HO.out hb2
                have q0 := (hb2.cell (p := ⟨bm, om + j * 2, none⟩) hbm).trans p0
                have q1 := (hb2.cell (p := ⟨bm, om + j * 2 + 1, none⟩) hbm).trans p1
                have hz2 := hb2.size
                have hnews : Hid (∀ j' u, (flatN [ms[j]])[j']? = some u → (w2.alloc (.cells #[.int .i64 ms[j].1, .int .i64 ms[j].2] 23)).cell? ((⟨w2.heap.size, 0, none⟩ : Addr).add j') = some u) := newsN_new w2 ms[j]
                have hlen : Hid ((flatN [ms[j]]).length = 1 * 2) := rfl
                have HMa : ∀ ob : Obj, Hid (NamesAt (w2.alloc ob) (.slice (some ⟨bm, om, none⟩) ms.length capm) ms) := fun ob => HM2.out.below (below_alloc _ ob)
                go_wp2_with (at_builtin; refine wpList_append_own_at _ rfl _ _ 51 rfl w1.heap.size 23 i0 (.agg #[.int .i64 0, .int .i64 0]) 2 16 Tryd.underlying51 hi hz hs hby rfl (by decide) _ _ _ rfl (HO2.out.alloc _) ⟨w2.heap.size, 0, none⟩ 1 1 (flatN [ms[j]]) rfl hlen.out hnews.out (flatN_one _) (by unfold maxLen; omega) (by omega) (by simp; omega) ?_)
                intro v' w3 hown' hgrow hnil hat
                have hown4 : Hid (OwnN w3 w1.heap.size v' ((ms.take (j + 1)).foldl addN (wantN ls (l.take k)))) := by
                  show w3.ownsRow w1.heap.size 23 2 v' _ _
                  rw [hE.out, flatN_append, List.length_append]; exact hown'
                have hbr3 : Hid (Below w1.heap.size w1 w3) := (hw2.out.alloc (by omega) _).grown hgrow (by simp; omega) (fun g hg => (HO2.out.lt g hg).1)
                have HM3 : Hid (NamesAt w3 (.slice (some ⟨bm, om, none⟩) ms.length capm) ms) := (HMa _).out.grown hgrow (fun b hb => HF.out b hb)
                have HF3 : Hid (∀ b, (Value.slice (some ⟨bm, om, none⟩) ms.length capm).ownBlock = some b → v'.ownBlock ≠ some b) := fun b hb => by
                  rcases hat with hat | hat
                  · rw [hat]; exact HF.out b hb
                  · rw [hat]
                    simp [Value.ownBlock] at hb
                    subst hb
                    simp; omega
                clear hgrow hnil hat
                go_wp2_with fail
                go_roundw
                case rel => exact ⟨j + 1, by omega, by go_num, hown4, HM3, HF3, hbr3.out⟩
                case measure => simp [intOf]; omega
              · have hE : Hid ((ms.take (j + 1)).foldl addN (wantN ls (l.take k)) = (ms.take j).foldl addN (wantN ls (l.take k))) := by
                            exact hsn.trans (addN_yes hh)
                rw [hh] at H43
                clear hsn hh hrm
                generalize (ms.take j).foldl addN (wantN ls (l.take k)) = acc at *
                go_wp2_with fail
                refine H43.mono ?_
                rintro e w2 ⟨rfl, hb2⟩
                have hw2 : Hid (Below w1.heap.size w1 w2) := hbj.trans (hb2.mono hszj)
                have HM2 : Hid (NamesAt w2 (.slice (some ⟨bm, om, none⟩) ms.length capm) ms) := HM.out.below hb2
                have HO2 : Hid (OwnN w2 w1.heap.size _ acc) := owns_below HO.out hb2
                go_wp2_with fail
                go_roundw
                case rel => exact ⟨j + 1, by omega, by go_num, by show OwnN _ _ _ _; rw [hE.out]; exact HO2.out, HM2, HF, hw2.out⟩
                case measure => simp [intOf]; omega
            · obtain rfl : j = ms.length := by omega
              rw [List.take_of_length_le (Nat.le_refl _)] at HO
              have hlt2 : ¬ ((ms.length : Int) < (ms.length : Int)) := by omega
              go_wp2_with fail
              go_roundw
              case rel => exact ⟨k + 1, _, rfl, by omega, by go_num, by show OwnN _ _ _ _; rw [HEQ.out]; exact HO.out, hbj⟩
              case measure => simp [intOf]; omega
    · obtain rfl : k = l.length := by omega
      rw [List.take_of_length_le (Nat.le_refl _)] at hown
      have hlt' : ¬ ((l.length : Int) < (l.length : Int)) := by omega
      have hwl : (wantN ls l).length ≤ 65536 := by
        have h1 := nubN_len (varsOf (putL ls l))
        have h2 := varsOf_len (putL ls l)
        have h3 := HPL.out
        unfold wantN; omega
      have HWN : Hid (NamesAt wr wv (wantN ls l)) := namesAt_of_owns hown.out (by unfold maxLen; omega)
      have HPU1 : Hid (TermAt wr pu (putL ls l)) := HPU.out.below hbr
      obtain ⟨ap, cp, hfp⟩ := HPU.out.form
      subst hfp
      have hva : varsAll [putL ls l] = varsOf (putL ls l) := by simp [varsAll]
      have hvl : (varsAll [putL ls l]).length ≤ 1000000000000 := by
        have h2 := varsOf_len (putL ls l)
        have h3 := HPL.out
        rw [hva]; omega
      have HVA : Hid (varsAll [putL ls l] = varsOf (putL ls l)) := hva
      clear hva
      go_wp2_with fail
      refine (c12 wr (HS.out.below hbw.out)).mono ?_
      rintro e w3 ⟨rfl, hb3⟩
      have hw3 : Hid (Below w.heap.size w w3) := hbw.out.trans (hb3.mono hbw.out.size)
      have HPU3 : Hid (TermAt w3 (.slice ap (putL ls l).length cp) (putL ls l)) := HPU1.out.below hb3
      have HWN3 : Hid (NamesAt w3 wv (wantN ls l)) := HWN.out.below hb3
      have H34 := c34 [putL ls l] _ _ (row_one w3 _ _ HPU3.out) hvl (by rw [HVA.out]; exact HW.out)
      rw [HVA.out] at H34
      go_wp2_with fail
      refine H34.mono ?_
      rintro e w4 ⟨nv, rfl, hO4, hb4⟩
      have hw4 : Hid (Below w3.heap.size w3 w4) := (below_alloc w3 _).trans (hb4.mono (by simp))
      have HN4 : Hid (NamesAt w4 nv (wantN ls l)) := namesAt_of_owns hO4 (by unfold maxLen; omega)
      have HWN4 : Hid (NamesAt w4 wv (wantN ls l)) := HWN3.out.below hw4.out
      clear hO4 H34
      go_wp2_with fail
      refine (c33 _ _ nv wv w4 HN4.out HWN4.out).mono ?_
      rw [show eqNs (wantN ls l) (wantN ls l) = true by simp [eqNs]]
      rintro e w5 ⟨rfl, hb5⟩
      have hw5 : Hid (Below w3.heap.size w3 w5) := hw4.out.trans (hb5.mono hw4.out.size)
      have hw5' : Hid (Below w.heap.size w w5) := hw3.out.trans (hw5.out.mono hw3.out.size)
      have HPU5 : Hid (TermAt w5 (.slice ap (putL ls l).length cp) (putL ls l)) := HPU3.out.below hw5.out
      clear hb4 hb5
      have H36 := c36 l _ w5 (HT.out.below hw5'.out) (HS.out.below hw5'.out)
      cases hg : globalB l
      · rw [hg] at H36
        go_wp2_with fail
        refine H36.mono ?_
        rintro e w6 ⟨rfl, hb6⟩
        go_wp2_with fail
        go_ret
        exact ⟨rfl, hw5'.out.trans (hb6.mono hw5'.out.size)⟩
      · have hpg : Hid (putL ls l = l) := put_global hg
        rw [hg] at H36
        go_wp2_with fail
        refine H36.mono ?_
        rintro e w6 ⟨rfl, hb6⟩
        have hw6 : Hid (Below w.heap.size w w6) := hw5'.out.trans (hb6.mono hw5'.out.size)
        have H13 := c13 (putL ls l) l _ _ w6 (HPU5.out.below hb6) (HT.out.below hw6.out)
        rw [show eqT (putL ls l) l = true by rw [hpg.out]; exact eqT_refl l] at H13
        go_wp2_with fail
        refine H13.mono ?_
        rintro e w7 ⟨rfl, hb7⟩
        go_wp2_with fail
        go_ret
        exact ⟨rfl, hw6.out.trans (hb7.mono hw6.out.size)⟩
theorem c8 (l : List C) (v : Value) (ls : List (List C)) (u : Value) (w : World) (hT : TermAt w v l) (hR : RowAt w u ls) (hS : Signs w) (hW : ∀ x ∈ varsOf (putL ls l), wfN x) :
    Calls Tryd.prog 8 #[v, u] w fun e w' => e = .returned (.bool true) ∧ Below w.heap.size w w' := by
  by_cases hE : putE l ls = 0
  · have hr := (putE_zero hE).1
    have hrl := right_len hr
    have h := hT
    obtain ⟨_, h⟩ := h
    rcases h with ⟨rfl, ad, rfl⟩ | ⟨b, o, cap, rfl, h2, h5, h3, h4⟩
    · simp at hrl
    · obtain ⟨adu, cu, rfl⟩ := hR.form
      exact c8_ok l b o cap ls adu cu w hT ⟨hr, h3, h4, hR⟩ hS hE hW
  · exact c8_err l v ls u w hT hR hS (by simp [hE])
end Go.Proofs.YtpepogmkbcbmpaaDoor
