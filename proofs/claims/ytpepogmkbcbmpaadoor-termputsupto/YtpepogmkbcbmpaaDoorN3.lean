/- The reference Put. -/
import Derived.Test.YtpepogmkbcbmpaaDoorN2
namespace Go.Proofs.YtpepogmkbcbmpaaDoor
open Go.RowKit
theorem c37 (l : List C) (v : Value) (w : World) (h : TermAt w v l) :
    Calls Tryd.prog 37 #[v] w fun e w' => e = .returned (.bool (refGlobalB l)) ∧ Below w.heap.size w w' := by
  cases hr : rightB l
  · exact c37_no l v w h hr (c23 l v w h)
  · exact c37_yes l v w h hr (c23 l v w h)
theorem putE_form {l : List C} {ls : List (List C)} (h : rightB l = false) : putE l ls = 6 ∧ putT l ls = [] := by
  have e : putE l ls = 6 := by unfold putE; rw [h]; rfl
  exact ⟨e, by unfold putT; rw [e]; rfl⟩
theorem putE_locals {l : List C} {ls : List (List C)} (h : localsB ls = false) : putE l ls = 6 ∧ putT l ls = [] := by
  have e : putE l ls = 6 := by unfold putE; rw [h]; simp
  exact ⟨e, by unfold putT; rw [e]; rfl⟩
theorem putE_none {l : List C} {ls : List (List C)} (hr : rightB l = true) (hl : localsB ls = true) (h : lacksB l ls = true) : putE l ls = 4 ∧ putT l ls = [] := by
  have e : putE l ls = 4 := by unfold putE; rw [hr, hl, h]; rfl
  exact ⟨e, by unfold putT; rw [e]; rfl⟩
theorem putE_long {l : List C} {ls : List (List C)} (hr : rightB l = true) (hl : localsB ls = true) (h : lacksB l ls = false) (hb : (256 : Int) < ((putL ls l).length : Int)) : putE l ls = 5 ∧ putT l ls = [] := by
  have e : putE l ls = 5 := by unfold putE; rw [hr, hl, h]; simp; omega
  exact ⟨e, by unfold putT; rw [e]; rfl⟩
theorem putE_ok {l : List C} {ls : List (List C)} (hr : rightB l = true) (hl : localsB ls = true) (h : lacksB l ls = false) (hb : ((putL ls l).length : Int) ≤ 256) : putE l ls = 0 ∧ putT l ls = putL ls l := by
  have e : putE l ls = 0 := by unfold putE; rw [hr, hl, h]; simp; omega
  exact ⟨e, by unfold putT; rw [e]; rfl⟩
theorem lacks_snoc_no {l : List C} {ls : List (List C)} {k : Nat} (hk : k < l.length) (h : lacksB (l.take k) ls = false) (h1 : (isLoc l[k] && lackB ls l[k].vk) = false) : lacksB (l.take (k + 1)) ls = false := by
  unfold lacksB at *
  cases h4 : (l[k].k == 4)
  · rw [varsOf_snoc_no l k hk h4]; exact h
  · rw [varsOf_snoc_yes l k hk h4, List.any_append, h]
    unfold isLoc at h1
    rw [h4] at h1
    simpa using h1
theorem lacks_at {l : List C} {ls : List (List C)} {k : Nat} (hk : k < l.length) (h1 : (isLoc l[k] && lackB ls l[k].vk) = true) : lacksB l ls = true := by
  unfold lacksB
  rw [List.any_eq_true]
  simp only [isLoc, Bool.and_eq_true] at h1
  refine ⟨(l[k].vn, l[k].vk), ?_, by simp [h1]⟩
  unfold varsOf
  exact List.mem_map.2 ⟨l[k], List.mem_filter.2 ⟨List.getElem_mem _, h1.1.1⟩, rfl⟩
set_option maxHeartbeats 1000000 in
theorem c32_form (l : List C) (v : Value) (ls : List (List C)) (u : Value) (w : World) (h : TermAt w v l) (hno : rightB l = false) :
    Calls Tryd.prog 32 #[v, u] w fun e w' => ∃ t, e = .returned (.tuple #[t, .int .i64 (putE l ls)]) ∧ OwnT w' w.heap.size t (putT l ls) ∧ Below w.heap.size w w' := by
  have H23 := c23 l v w h
  rw [hno] at H23
  rw [(putE_form hno).1, (putE_form hno).2]
  clear h hno
  go_enter Tryd.func32, Tryd.ntmps32
  go_wp2_with fail
  refine H23.mono ?_
  rintro e w1 ⟨rfl, hb1⟩
  go_wp2_with fail
  go_ret2
  exact ⟨_, rfl, World.ownsRow_nil _ _ _ _, hb1⟩
/-- The third loop's part: the data of the walk. -/
structure PutD (w : World) (l : List C) (b o : Nat) (ls : List (List C)) (u : Value) : Prop where
  hr : rightB l = true
  rg : w.rangeAt b o (flat l)
  hb : b < w.heap.size
  row : RowAt w u ls
theorem PutD.local {w : World} {l : List C} {b o : Nat} {ls : List (List C)} {u : Value} (H : PutD w l b o ls u) (m : Nat) (hm : m < ls.length) :
    ∃ bu ou cu, u = .slice (some ⟨bu, ou, none⟩) ls.length cu ∧ ∃ vm, TermAt w vm ls[m] ∧ ∀ W, Below w.heap.size w W → W.cell? ⟨bu, ou + m, none⟩ = some vm := by
  obtain ⟨_, hRw⟩ := H.row
  rcases hRw with ⟨hnil, _⟩ | ⟨bu, ou, cu, vs, hfu, _, _, hbu, hvl, hru, htu⟩
  · rw [hnil] at hm; simp at hm
  have hmv : m < vs.length := by omega
  exact ⟨bu, ou, cu, hfu, vs[m], htu m _ _ (List.getElem?_eq_getElem hmv) (List.getElem?_eq_getElem hm), fun W hW => row_cell (range_below hru hbu hW) m hmv⟩
set_option maxRecDepth 100000 in
set_option maxHeartbeats 8000000 in
theorem c32_right (l : List C) (b o cap : Nat) (ls : List (List C)) (adu : Option Addr) (cu : Nat) (w : World) (hT : TermAt w (.slice (some ⟨b, o, none⟩) l.length cap) l) (H : PutD w l b o ls (.slice adu ls.length cu)) :
    Calls Tryd.prog 32 #[.slice (some ⟨b, o, none⟩) l.length cap, .slice adu ls.length cu] w fun e w' => ∃ t, e = .returned (.tuple #[t, .int .i64 (putE l ls)]) ∧ OwnT w' w.heap.size t (putT l ls) ∧ Below w.heap.size w w' := by
  have H23 := c23 l _ w hT
  rw [H.hr] at H23
  have hrl := right_len H.hr
  have hlsm : ls.length ≤ 2 ^ 63 - 1 := H.row.1
  have HH : Hid (PutD w l b o ls (.slice adu ls.length cu)) := H
  have HL : Hid (∀ (m : Nat) (hm : m < ls.length), ∃ bu ou, adu = some ⟨bu, ou, none⟩ ∧ ∃ vm, TermAt w vm ls[m] ∧ ∀ W, Below w.heap.size w W → W.cell? ⟨bu, ou + m, none⟩ = some vm) := fun m hm => by
    obtain ⟨bu', ou', cu', e, vm, h1, h2⟩ := H.local m hm
    simp only [Value.slice.injEq] at e
    exact ⟨bu', ou', e.1, vm, h1, h2⟩
  obtain ⟨i0, hi, hz, hs, hby⟩ := info60
  clear H hT
  go_enter Tryd.func32, Tryd.ntmps32
  go_wp2_with fail
  refine H23.mono ?_
  rintro e w1 ⟨rfl, hb1⟩
  go_wp2_with fail
  go_loopw [6] (fun i wr => ∃ k : Nat, k ≤ ls.length ∧ i = .int .i64 k ∧ Hid ((ls.take k).all emptyOrRight = true) ∧ Below w.heap.size w wr) (fun i _ => ls.length - (intOf i).toNat)
  case atStart => exact ⟨0, by omega, rfl, rfl, hb1⟩
  case round =>
    obtain ⟨k, hk, rfl, hall, hbr⟩ := hrel
    by_cases hlt : k < ls.length
    · have hlt' : (k : Int) < (ls.length : Int) := by omega
      obtain ⟨bu, ou, rfl, vk, htm, hcell⟩ := HL.out k hlt
      have p0 := hcell wr hbr
      have HC : Hid (Calls Tryd.prog 23 #[vk] wr fun e w' => e = .returned (.bool (rightB ls[k])) ∧ Below wr.heap.size wr w') := c23 ls[k] vk wr (htm.below hbr)
      obtain ⟨ak, ck, hfk⟩ := htm.form
      have hl63 : ls[k].length ≤ 2 ^ 63 - 1 := htm.1.1
      rw [hfk] at p0 HC
      clear hfk htm hcell
      by_cases hpos : 0 < (ls[k].length : Int)
      · cases hok : rightB ls[k]
        · have hF0 : localsB ls = false := locals_false ls k hlt (by unfold emptyOrRight; rw [hok]; simp; intro e; rw [e] at hpos; simp at hpos)
          have hF : Hid (putE l ls = 6 ∧ putT l ls = []) := putE_locals hF0
          rw [hok] at HC
          clear hok hF0
          go_wp2_with fail
          refine HC.out.mono ?_
          rintro e w' ⟨rfl, hb2⟩
          go_wp2_with fail
          go_ret2
          exact ⟨_, by rw [hF.out.1]; rfl, by rw [hF.out.2]; exact World.ownsRow_nil _ _ _ _, hbr.trans (hb2.mono hbr.size)⟩
        · have hT : Hid ((ls.take (k + 1)).all emptyOrRight = true) := locals_snoc ls k hlt hall.out (by unfold emptyOrRight; rw [hok]; simp)
          rw [hok] at HC
          clear hok
          go_wp2_with fail
          refine HC.out.mono ?_
          rintro e w' ⟨rfl, hb2⟩
          go_wp2_with fail
          go_roundw
          case rel => exact ⟨k + 1, by omega, by go_num, hT, hbr.trans (hb2.mono hbr.size)⟩
          case measure => simp [intOf]; omega
      · have hT : Hid ((ls.take (k + 1)).all emptyOrRight = true) := locals_snoc ls k hlt hall.out (by unfold emptyOrRight; rw [decide_eq_true (by omega)]; rfl)
        clear HC
        go_wp2_with fail
        go_roundw
        case rel => exact ⟨k + 1, by omega, by go_num, hT, hbr⟩
        case measure => simp [intOf]; omega
    · have HLL : Hid (localsB ls = true) := by
        have h := hall.out; rw [List.take_of_length_le (by omega)] at h; exact h
      have hlt' : ¬ ((k : Int) < (ls.length : Int)) := by omega
      go_wp2_with fail
      clear hall hlt hlt' hk
      go_loopw [7] (fun i wr => ∃ k : Nat, k ≤ l.length ∧ i = .int .i64 k ∧ Hid (lacksB (l.take k) ls = false) ∧ Below w.heap.size w wr) (fun i _ => l.length - (intOf i).toNat)
      case atStart => exact ⟨0, by omega, rfl, rfl, hbr⟩
      case round =>
        clear hbr
        obtain ⟨k, hk, rfl, hall, hbr⟩ := hrel
        have hsz := hbr.size
        by_cases hlt : k < l.length
        · have hlt' : (k : Int) < (l.length : Int) := by omega
          obtain ⟨p0, p1, p2, p3, p4⟩ := term_cells (range_below HH.out.rg HH.out.hb hbr) k hlt
          cases h4' : (l[k].k == 4)
          · have hE : Hid (lacksB (l.take (k + 1)) ls = false) := lacks_snoc_no hlt hall.out (by unfold isLoc; rw [h4']; rfl)
            go_wp2_with fail
            go_roundw
            case rel => exact ⟨k + 1, by omega, by go_num, hE, hbr.alloc hsz _⟩
            case measure => simp [intOf]; omega
          · cases h1' : (l[k].vn == -1)
            · have hE : Hid (lacksB (l.take (k + 1)) ls = false) := lacks_snoc_no hlt hall.out (by unfold isLoc; rw [h1']; simp)
              go_wp2_with fail
              go_roundw
              case rel => exact ⟨k + 1, by omega, by go_num, hE, hbr.alloc hsz _⟩
              case measure => simp [intOf]; omega
            · have hloc : isLoc l[k] = true := by unfold isLoc; rw [h4', h1']; rfl
              have hx : (l[k].vn, l[k].vk) ∈ varsOf l := by
                unfold varsOf
                exact List.mem_map.2 ⟨l[k], List.mem_filter.2 ⟨List.getElem_mem _, h4'⟩, rfl⟩
              have h0 := (right_vars HH.out.hr _ hx).1
              obtain ⟨m, hm⟩ := Int.eq_ofNat_of_zero_le h0
              have hm : l[k].vk = (m : Int) := hm
              rw [hm] at p4
              by_cases hml : m < ls.length
              · have hml' : ¬ ((ls.length : Int) ≤ (m : Int)) := by omega
                have hml2 : (m : Int) < (ls.length : Int) := by omega
                obtain ⟨bu, ou, rfl, vm, htm, hcell⟩ := HL.out m hml
                obtain ⟨am, cm, hfm⟩ := htm.form
                have hl63 : ls[m].length ≤ 2 ^ 63 - 1 := htm.1.1
                have q0 : ∀ ob : Obj, (wr.alloc ob).cell? ⟨bu, ou + m, none⟩ = some (.slice am ls[m].length cm) := fun ob => by rw [hcell _ (hbr.alloc hsz ob), hfm]
                have hlk : lackB ls l[k].vk = ((ls[m].length : Int) == 0) := by
                  rw [hm]
                  unfold lackB
                  rw [decide_eq_false hml', Bool.false_or]
                  simp [hml]
                  rw [Bool.eq_iff_iff]; simp
                have q0 := q0 (.cells #[.int .u8 l[k].k, .string l[k].t, .int .i64 l[k].n, .int .i64 l[k].vn, .int .i64 (m : Int)] 60)
                clear hcell hfm htm
                cases h00 : ((ls[m].length : Int) == 0)
                · have hE : Hid (lacksB (l.take (k + 1)) ls = false) := lacks_snoc_no hlt hall.out (by rw [hlk, h00]; simp)
                  clear hlk hloc hx h0 hm
                  go_wp2_with fail
                  go_roundw
                  case rel => exact ⟨k + 1, by omega, by go_num, hE, hbr.alloc hsz _⟩
                  case measure => simp [intOf]; omega
                · have hF : Hid (putE l ls = 4 ∧ putT l ls = []) := putE_none HH.out.hr HLL.out (lacks_at hlt (by rw [hlk, hloc, h00]; rfl))
                  clear hlk hloc hx h0 hm
                  go_wp2_with fail
                  go_ret2
                  exact ⟨_, by rw [hF.out.1]; rfl, by rw [hF.out.2]; exact World.ownsRow_nil _ _ _ _, hbr.alloc hsz _⟩
              · have hml' : (ls.length : Int) ≤ (m : Int) := by omega
                have hF : Hid (putE l ls = 4 ∧ putT l ls = []) := putE_none HH.out.hr HLL.out (lacks_at hlt (by rw [hloc, hm]; unfold lackB; rw [decide_eq_true hml']; rfl))
                clear hloc hx h0 hm
                go_wp2_with fail
                go_ret2
                exact ⟨_, by rw [hF.out.1]; rfl, by rw [hF.out.2]; exact World.ownsRow_nil _ _ _ _, hbr.alloc hsz _⟩
        · have HN : Hid (lacksB l ls = false) := by
            have h := hall.out; rw [List.take_of_length_le (by omega)] at h; exact h
          have hlt' : ¬ ((k : Int) < (l.length : Int)) := by omega
          go_wp2_with fail
          clear hall hlt hlt' hk hsz
          have HLk : Hid (∀ (k : Nat) (hk : k < l.length), (l[k].k == 4) = true → (l[k].vn == -1) = true → ∃ m : Nat, l[k].vk = m ∧ ∃ hm : m < ls.length, 1 ≤ ls[m].length) := fun k hk h4 h1 => not_lack HH.out.hr HN.out k hk h4 h1
          go_loopw [9, 10] (fun pv i wr => ∃ k : Nat, k ≤ l.length ∧ i = .int .i64 k ∧ Hid (OwnT wr w.heap.size pv (putL ls (l.take k))) ∧ Below w.heap.size w wr) (fun _ i _ => l.length - (intOf i).toNat)
          case atStart => exact ⟨0, Nat.zero_le _, rfl, World.ownsRow_nil _ _ _ _, hbr⟩
          case round =>
            clear hbr
            obtain ⟨k, hk, rfl, hown, hbr⟩ := hrel
            have hsz := hbr.size
            by_cases hlt : k < l.length
            · have hlt' : (k : Int) < (l.length : Int) := by omega
              obtain ⟨p0, p1, p2, p3, p4⟩ := term_cells (range_below HH.out.rg HH.out.hb hbr) k hlt
              have hpl : (putL ls (l.take k)).length ≤ 256 * 256 := by
                have h := put_len HLL.out (l.take k)
                have h2 : (l.take k).length ≤ k := List.length_take_le _ _
                omega
              have hpc := putC_len HLL.out l[k]
              have HSN : Hid (putL ls (l.take (k + 1)) = putL ls (l.take k) ++ putC ls l[k]) := put_snoc ls l k hlt
              have hBa : ∀ o1 o2 : Obj, Hid (Below w.heap.size w ((wr.alloc o1).alloc o2)) := fun o1 o2 => (hbr.alloc hsz o1).alloc (by simp; omega) o2
              cases hloc : isLoc l[k]
              · have hC : putC ls l[k] = [l[k]] := by unfold putC; rw [hloc]; rfl
                rw [hC] at HSN
                clear hC hpc
                have hnews := news_new (wr.alloc (.cells #[.int .u8 l[k].k, .string l[k].t, .int .i64 l[k].n, .int .i64 l[k].vn, .int .i64 l[k].vk] 60)) l[k]
                rw [World.size_alloc] at hnews
                have hnews : Hid (∀ j u, (flat [l[k]])[j]? = some u → ((wr.alloc (.cells #[.int .u8 l[k].k, .string l[k].t, .int .i64 l[k].n, .int .i64 l[k].vn, .int .i64 l[k].vk] 60)).alloc (.cells #[.int .u8 l[k].k, .string l[k].t, .int .i64 l[k].n, .int .i64 l[k].vn, .int .i64 l[k].vk] 60)).cell? ((⟨wr.heap.size + 1, 0, none⟩ : Addr).add j) = some u) := hnews
                have hlen : Hid ((flat [l[k]]).length = 1 * 5) := rfl
                unfold isLoc at hloc
                cases h4' : (l[k].k == 4)
                · clear hloc
                  go_wp2_with (at_builtin; refine wpList_append_own _ rfl _ _ 29 rfl w.heap.size 60 i0 zero60 5 48 Tryd.underlying29 hi hz hs hby rfl (by decide) _ _ _ rfl ((hown.out.alloc _).alloc _) ⟨wr.heap.size + 1, 0, none⟩ 1 1 (flat [l[k]]) rfl hlen.out hnews.out (flat_one _) (by unfold maxLen; omega) (by omega) (by simp; omega) ?_)
                  intro v' w' hown' hgrow hnil
                  have hown' : Hid (OwnT w' w.heap.size v' (putL ls (l.take (k + 1)))) := by
                    show w'.ownsRow w.heap.size 60 5 v' _ _
                    rw [HSN.out, flat_append, List.length_append]; exact hown'
                  have hbr' : Hid (Below w.heap.size w w') := (hBa _ _).out.grown hgrow (by simp; omega) (fun g hg => (hown.out.lt g hg).1)
                  clear hgrow hnil
                  go_wp2_with fail
                  go_roundw
                  case rel => exact ⟨k + 1, by omega, by go_num, hown', hbr'.out⟩
                  case measure => simp [intOf]; omega
                · have h1' : (l[k].vn == -1) = false := by rw [h4'] at hloc; simpa using hloc
                  clear hloc
                  go_wp2_with (at_builtin; refine wpList_append_own _ rfl _ _ 29 rfl w.heap.size 60 i0 zero60 5 48 Tryd.underlying29 hi hz hs hby rfl (by decide) _ _ _ rfl ((hown.out.alloc _).alloc _) ⟨wr.heap.size + 1, 0, none⟩ 1 1 (flat [l[k]]) rfl hlen.out hnews.out (flat_one _) (by unfold maxLen; omega) (by omega) (by simp; omega) ?_)
                  intro v' w' hown' hgrow hnil
                  have hown' : Hid (OwnT w' w.heap.size v' (putL ls (l.take (k + 1)))) := by
                    show w'.ownsRow w.heap.size 60 5 v' _ _
                    rw [HSN.out, flat_append, List.length_append]; exact hown'
                  have hbr' : Hid (Below w.heap.size w w') := (hBa _ _).out.grown hgrow (by simp; omega) (fun g hg => (hown.out.lt g hg).1)
                  clear hgrow hnil
                  go_wp2_with fail
                  go_roundw
                  case rel => exact ⟨k + 1, by omega, by go_num, hown', hbr'.out⟩
                  case measure => simp [intOf]; omega
              · have hloc' := hloc
                unfold isLoc at hloc'
                simp only [Bool.and_eq_true] at hloc'
                obtain ⟨h4', h1'⟩ := hloc'
                obtain ⟨m, hm, hml, hm1⟩ := HLk.out k hlt h4' h1'
                have hC : putC ls l[k] = ls[m] := by unfold putC; rw [hloc, hm]; simp [hml]
                rw [hC] at HSN hpc
                clear hC hloc
                obtain ⟨bu, ou, rfl, vm, htm, hcell⟩ := HL.out m hml
                have hBa1 : ∀ o1 : Obj, Hid (Below w.heap.size w (wr.alloc o1)) := fun o1 => hbr.alloc hsz o1
                have q0 : ∀ o1 : Obj, (wr.alloc o1).cell? ⟨bu, ou + m, none⟩ = some vm := fun o1 => hcell _ (hBa1 o1).out
                obtain ⟨_, htm⟩ := htm
                rcases htm with ⟨hnil, _⟩ | ⟨bm, om, cm, hfm, _, _, hrm, hbm⟩
                · rw [hnil] at hm1; simp at hm1
                rw [hfm] at q0
                have hnews : ∀ o1 : Obj, Hid (∀ j u, (flat ls[m])[j]? = some u → (wr.alloc o1).cell? ((⟨bm, om, none⟩ : Addr).add j) = some u) := fun o1 j u hu => by rw [Addr.add_mid]; exact range_below hrm hbm (hBa1 o1).out j u hu
                have hlen : Hid ((flat ls[m]).length = ls[m].length * 5) := by
                  show (flat ls[m]).length = ls[m].length * 5
                  rw [flat_length]; omega
                have hml' : (m : Int) < (ls.length : Int) := by omega
                rw [hm] at p4
                clear hrm hfm hcell hm
                go_wp2_with (at_builtin; refine wpList_append_own _ rfl _ _ 29 rfl w.heap.size 60 i0 zero60 5 48 Tryd.underlying29 hi hz hs hby rfl (by decide) _ _ _ rfl (hown.out.alloc _) ⟨bm, om, none⟩ ls[m].length cm (flat ls[m]) rfl hlen.out (hnews _).out (flat_one _) (by unfold maxLen; omega) (by omega) (by simp; omega) ?_)
                intro v' w' hown' hgrow hnil
                have hown' : Hid (OwnT w' w.heap.size v' (putL ls (l.take (k + 1)))) := by
                  show w'.ownsRow w.heap.size 60 5 v' _ _
                  rw [HSN.out, flat_append, List.length_append]; exact hown'
                have hbr' : Hid (Below w.heap.size w w') := (hBa1 _).out.grown hgrow (by simp; omega) (fun g hg => (hown.out.lt g hg).1)
                clear hgrow hnil
                go_wp2_with fail
                go_roundw
                case rel => exact ⟨k + 1, by omega, by go_num, hown', hbr'.out⟩
                case measure => simp [intOf]; omega
            · obtain rfl : k = l.length := by omega
              rw [List.take_of_length_le (Nat.le_refl _)] at hown
              obtain ⟨adp, capp, hfp⟩ := owns_form hown.out
              have hpl := put_len HLL.out l
              subst hfp
              have hlt' : ¬ ((l.length : Int) < (l.length : Int)) := by omega
              by_cases hbig : (256 : Int) < ((putL ls l).length : Int)
              · have hF : Hid (putE l ls = 5 ∧ putT l ls = []) := putE_long HH.out.hr HLL.out HN.out hbig
                go_wp2_with fail
                go_ret2
                exact ⟨.slice none 0 0, by rw [hF.out.1]; rfl, by rw [hF.out.2]; exact World.ownsRow_nil _ _ _ _, hbr⟩
              · have hF : Hid (putE l ls = 0 ∧ putT l ls = putL ls l) := putE_ok HH.out.hr HLL.out HN.out (by omega)
                go_wp2_with fail
                go_ret2
                exact ⟨.slice adp (putL ls l).length capp, by rw [hF.out.1]; rfl, by rw [hF.out.2]; exact hown.out, hbr⟩
theorem c32 (l : List C) (v : Value) (ls : List (List C)) (u : Value) (w : World) (h : TermAt w v l) (hR : RowAt w u ls) :
    Calls Tryd.prog 32 #[v, u] w fun e w' => ∃ t, e = .returned (.tuple #[t, .int .i64 (putE l ls)]) ∧ OwnT w' w.heap.size t (putT l ls) ∧ Below w.heap.size w w' := by
  cases hr : rightB l
  · exact c32_form l v ls u w h hr
  · have hrl := right_len hr
    have hT := h
    obtain ⟨_, h⟩ := h
    rcases h with ⟨rfl, ad, rfl⟩ | ⟨b, o, cap, rfl, h2, h5, h3, h4⟩
    · simp at hrl
    · obtain ⟨adu, cu, rfl⟩ := hR.form
      exact c32_right l b o cap ls adu cu w hT ⟨hr, h3, h4, hR⟩
end Go.Proofs.YtpepogmkbcbmpaaDoor
