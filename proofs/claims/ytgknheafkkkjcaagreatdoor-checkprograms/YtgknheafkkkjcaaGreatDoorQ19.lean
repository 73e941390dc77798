/- Contract of isHead. Contracts of misformed and its closures. Contract of misformed. A map of rows of numbers: an entry that is looked up for an append, and stored again. The clauses of each predicate; contract of clausesOf. Contract of IndexFunc over programs, at a predicate that may make memory. Contracts of the steps' closures. Contract of steps. -/
import Derived.Test.YtgknheafkkkjcaaGreatDoorQ18
import Derived.Test.YtgknheafkkkjcaaGreatDoorQ13
import Derived.Deep.RegionWith
import Derived.Maps.OwnRows
import Derived.WideKeyEntry
import Derived.Maps.AppendAt
import Derived.Maps.Views
import Derived.Maps.GroupsBeside
namespace Go.Proofs.YtgknheafkkkjcaaGreatDoor
open Go.RowKit
attribute [local go_sem ↓] Go.wp_at_zero Go.wp_at_succ
def headOk (l : List C) : Bool := hasNameS l && !isTrueS l && decide ((nubN (varsOf l)).length = (varsOf l).length)
theorem varsAll_one (l : List C) : varsAll [l] = varsOf l := by simp [varsAll]
set_option maxRecDepth 100000 in
set_option maxHeartbeats 2000000 in
theorem k67 (l : List C) (v : Value) (w : World) (h : TermAt w v l) (h1 : 0 < l.length) (hL : l.length ≤ 256) (hW : ∀ x ∈ varsOf l, wfN x) :
    Calls Tryz.prog 56 #[v] w fun e w' => e = .returned (.bool (headOk l)) ∧ Below w.heap.size w w' := by
  have HT : Hid (TermAt w v l) := h
  have H50 := fun W (hW : Below w.heap.size w W) => k50 l v W (HT.out.below hW)
  have H29 := fun W (hW : Below w.heap.size w W) => k29 l v W (HT.out.below hW)
  have HV : Hid ((varsOf l).length ≤ 256) := by
    show (varsOf l).length ≤ 256
    unfold varsOf
    rw [List.length_map]
    exact Nat.le_trans (List.length_filter_le _ _) hL
  have H93 : Hid (∀ W, Below w.heap.size w W → Calls Tryz.prog 89 #[.slice (some ⟨W.heap.size, 0, none⟩) 1 1] (W.alloc (.cells #[v] 64)) fun e w' => ∃ u, e = .returned u ∧ OwnN w' (W.alloc (.cells #[v] 64)).heap.size u (nubN (varsOf l)) ∧ Below (W.alloc (.cells #[v] 64)).heap.size (W.alloc (.cells #[v] 64)) w') := fun W hb => by
    have H := c34 [l] _ _ (row_one W v l (HT.out.below hb)) (by rw [varsAll_one]; have := HV.out; omega) (by rw [varsAll_one]; exact hW)
    rw [varsAll_one] at H
    exact H
  have HK : Hid (headOk l = (hasNameS l && !isTrueS l && decide ((nubN (varsOf l)).length = (varsOf l).length))) := rfl
  have HF : Hid (∃ b o cap, v = .slice (some ⟨b, o, none⟩) l.length cap ∧ w.rangeAt b o (flat l) ∧ b < w.heap.size) := by
    rcases h.2 with ⟨rfl, _⟩ | ⟨b, o, cap, hv, _, _, h3, h4⟩
    · simp at h1
    · exact ⟨b, o, cap, hv, h3, h4⟩
  obtain ⟨b, o, cap, rfl, h3, h4⟩ := HF.out
  clear h hW
  go_enter Tryz.func56, Tryz.ntmps56
  go_wp2_with fail
  go_loopw [3, 8] (fun n i wr => ∃ k : Nat, k ≤ l.length ∧ i = .int .i64 k ∧ n = .int .i64 ((varsOf (l.take k)).length : Nat) ∧ Below w.heap.size w wr) (fun _ i _ => l.length - (intOf i).toNat)
  case atStart => exact ⟨0, by omega, rfl, by simp [varsOf], Below.refl _ _⟩
  case round =>
    obtain ⟨k, hk, rfl, rfl, hbr⟩ := hrel
    have hsz := hbr.size
    by_cases hlt : k < l.length
    · have hlt' : (k : Int) < (l.length : Int) := by omega
      have hk0 : (0 : Int) ≤ (k : Int) := by omega
      obtain ⟨p0, p1, p2, p3, p4⟩ := term_cells (range_below h3 h4 hbr) k hlt
      have hv256 : (varsOf (l.take k)).length ≤ 256 := by
        unfold varsOf
        rw [List.length_map]
        exact Nat.le_trans (List.length_filter_le _ _) (by rw [List.length_take]; omega)
      have hba : ∀ ob : Obj, Hid (Below w.heap.size w (wr.alloc ob)) := fun ob => hbr.alloc hsz ob
      cases hq : (l[k].k == 4)
      · have HS : Hid (varsOf (l.take (k + 1)) = varsOf (l.take k)) := varsOf_snoc_no l k hlt hq
        generalize varsOf (l.take k) = vs at *
        go_wp2_with fail
        go_roundw
        case rel => exact ⟨k + 1, by omega, by go_num, by rw [HS.out], (hba _).out⟩
        case measure => simp [intOf]; omega
      · have HS : Hid (varsOf (l.take (k + 1)) = varsOf (l.take k) ++ [(l[k].vn, l[k].vk)]) := varsOf_snoc_yes l k hlt hq
        generalize varsOf (l.take k) = vs at *
        go_wp2_with fail
        go_roundw
        case rel => exact ⟨k + 1, by omega, by go_num, by rw [HS.out]; simp, (hba _).out⟩
        case measure => simp [intOf]; omega
    · have hlt' : ¬ ((k : Int) < (l.length : Int)) := by omega
      have hkl : l.take k = l := List.take_of_length_le (by omega)
      rw [hkl]
      have HVL : Hid ((varsOf l).length ≤ 256) := HV
      clear hlt hkl h3
      have H5 := H50 wr hbr
      generalize hnl : nubN (varsOf l) = nl at *
      generalize hvl : varsOf l = vl at *
      clear hnl hvl HV
      cases hn : hasNameS l
      · rw [hn] at HK H5
        clear H50 H29
        go_wp2_with fail
        refine H5.mono ?_
        rintro e w1 ⟨rfl, hb1⟩
        go_wp2_with fail
        go_ret
        exact ⟨by rw [HK.out]; rfl, hbr.trans (hb1.mono hsz)⟩
      · rw [hn] at HK H5
        go_wp2_with fail
        refine H5.mono ?_
        rintro e w1 ⟨rfl, hb1⟩
        have hb1' := hbr.trans (hb1.mono hsz)
        have H2 := H29 w1 hb1'
        clear H50 H29
        cases ht : isTrueS l
        · rw [ht] at HK H2
          go_wp2_with fail
          refine H2.mono ?_
          rintro e w2 ⟨rfl, hb2⟩
          have hb2' := hb1'.trans (hb2.mono hb1'.size)
          have hb3 := hb2'.alloc hb2'.size (.cells #[.slice (some ⟨b, o, none⟩) l.length cap] 64)
          go_wp2_with fail
          refine (H93.out w2 hb2').mono ?_
          rintro e w3 ⟨u, rfl, hO, hb4⟩
          have hform : Hid (∃ ad cp, u = .slice ad nl.length cp) := by
            rcases hO.2 with ⟨h, h0⟩ | ⟨g, c, cur, h, _⟩
            · exact ⟨none, 0, by rw [h, h0]⟩
            · exact ⟨_, _, h⟩
          obtain ⟨ad, cp, hu⟩ := hform.out
          subst hu
          have HE : Hid (decide (nl.length = vl.length) = (((nl.length : Nat) : Int) == ((vl.length : Nat) : Int))) := by
            show decide _ = _
            rw [Bool.eq_iff_iff]; simp; omega
          clear hO
          go_wp2_with fail
          go_ret
          exact ⟨by rw [HK.out, HE.out]; rfl, hb3.trans (hb4.mono hb3.size)⟩
        · rw [ht] at HK H2
          go_wp2_with fail
          refine H2.mono ?_
          rintro e w2 ⟨rfl, hb2⟩
          have hb2' := hb1'.trans (hb2.mono hb1'.size)
          go_wp2_with fail
          go_ret
          exact ⟨by rw [HK.out]; rfl, hb2'⟩
end Go.Proofs.YtgknheafkkkjcaaGreatDoor
namespace Go.Proofs.YtgknheafkkkjcaaGreatDoor
open Go.RowKit
attribute [local go_sem ↓] Go.wp_at_zero Go.wp_at_succ
def foreignS (n : Int) (x : Nm) : Bool := (x.1 != -1) || decide (n ≤ x.2)
set_option maxRecDepth 100000 in
theorem k90 (n : Int) (x : Nm) (B : Nat) (w : World) (hc : w.cell? ⟨B, 3, none⟩ = some (.int .i64 n)) (hB : B < w.heap.size) :
    Calls Tryz.prog 86 #[.agg #[.int .i64 x.1, .int .i64 x.2], .pointer (some ⟨B, 0, none⟩)] w fun e w' => e = .returned (.bool (foreignS n x)) ∧ Below w.heap.size w w' := by
  have HF : Hid (foreignS n x = ((x.1 != -1) || decide (n ≤ x.2))) := rfl
  have hba : ∀ ob : Obj, Hid (Below w.heap.size w (w.alloc ob)) := fun ob => (Below.refl _ w).alloc (Nat.le_refl _) ob
  have hc2 : ∀ ob : Obj, (w.alloc ob).cell? ⟨B, 3, none⟩ = some (.int .i64 n) := fun ob => cell_alloc hB hc
  have hBne : B ≠ w.heap.size := by omega
  obtain ⟨a, b⟩ := x
  simp only at HF
  cases ha : (a != -1)
  · rw [ha] at HF
    go_enter Tryz.func86, Tryz.ntmps86
    go_wp2_with fail
    go_ret
    exact ⟨by rw [HF.out]; simp, (hba _).out⟩
  · rw [ha] at HF
    go_enter Tryz.func86, Tryz.ntmps86
    go_wp2_with fail
    go_ret
    exact ⟨by rw [HF.out]; simp, (hba _).out⟩
def wrongS (n : Int) (l : List C) : Bool := !rightB l || (nubN (varsOf l)).any (foreignS n)
set_option maxRecDepth 100000 in
set_option maxHeartbeats 2000000 in
theorem k91 (n : Int) (l : List C) (v : Value) (B F : Nat) (w : World) (h : TermAt w v l) (hS : Signs w) (hW : ∀ x ∈ varsOf l, wfN x) (hF : w.cell? ⟨F, 0, none⟩ = some (.func (.func 86) #[] #[.pointer (some ⟨B, 0, none⟩)])) (hFl : F < w.heap.size)
    (hc : w.cell? ⟨B, 3, none⟩ = some (.int .i64 n)) (hB : B < w.heap.size) :
    Calls Tryz.prog 87 #[v, .pointer (some ⟨F, 0, none⟩)] w fun e w' => e = .returned (.bool (wrongS n l)) ∧ Below w.heap.size w w' := by
  have HT : Hid (TermAt w v l) := h
  have HS : Hid (Signs w) := hS
  have H24 : Hid (∀ W, Below w.heap.size w W → Calls Tryz.prog 72 #[v] W fun e w' => e = .returned (.bool (rightB l)) ∧ Below W.heap.size W w') := fun W hb => c22 l v W (HT.out.below hb) (HS.out.below hb)
  have HWr : Hid (wrongS n l = (!rightB l || (nubN (varsOf l)).any (foreignS n))) := rfl
  have HCell : Hid (∀ W, Below w.heap.size w W → W.cell? ⟨F, 0, none⟩ = some (.func (.func 86) #[] #[.pointer (some ⟨B, 0, none⟩)])) := fun W hb => (hb.cell (p := ⟨F, 0, none⟩) hFl).trans hF
  have HCB : Hid (∀ W, Below w.heap.size w W → W.cell? ⟨B, 3, none⟩ = some (.int .i64 n) ∧ B < W.heap.size) := fun W hb => ⟨(hb.cell (p := ⟨B, 3, none⟩) hB).trans hc, Nat.lt_of_lt_of_le hB hb.size⟩
  obtain ⟨ad, cap, hv⟩ := h.form
  cases hr : rightB l
  · rw [hr] at HWr H24
    subst hv
    clear h hS hW hc hB hF hFl HCell HCB
    go_enter Tryz.func87, Tryz.ntmps87
    go_wp2_with fail
    first
    | go_region_with (go_at_call 72; refine (H24.out _ (Below.drew (Below.refl _ _))).mono ?_; rintro e w1 ⟨rfl, hb1⟩)
    | fail
    all_goals go_wp2
    all_goals go_ret
    all_goals exact ⟨by rw [HWr.out]; rfl, (Below.drew (Below.refl _ _)).trans hb1⟩
  · rw [hr] at HWr H24
    have hl2 := right_len hr
    have HV : Hid ((varsOf l).length ≤ 256) := by
      show (varsOf l).length ≤ 256
      unfold varsOf
      rw [List.length_map]
      exact Nat.le_trans (List.length_filter_le _ _) hl2.2
    have H93 : Hid (∀ W, Below w.heap.size w W → Calls Tryz.prog 89 #[.slice (some ⟨W.heap.size, 0, none⟩) 1 1] (W.alloc (.cells #[v] 64)) fun e w' => ∃ u, e = .returned u ∧ NamesAt w' u (nubN (varsOf l)) ∧ Below w.heap.size w w') := fun W hb => by
      have H := c34 [l] _ _ (row_one W v l (HT.out.below hb)) (by rw [varsAll_one]; have := HV.out; omega) (by rw [varsAll_one]; exact hW)
      rw [varsAll_one] at H
      refine H.mono ?_
      rintro e w1 ⟨u, rfl, hO, hb1⟩
      have hb2 := hb.alloc hb.size (.cells #[v] 64)
      have hnl : (nubN (varsOf l)).length ≤ 256 := by
        have := HV.out
        have h2 := hO.1
        exact Nat.le_trans (nubN_len _) this
      exact ⟨u, rfl, namesAt_of_owns hO (by unfold maxLen; omega), hb2.trans (hb1.mono hb2.size)⟩
    have H92 : Hid (∀ W u, Below w.heap.size w W → NamesAt W u (nubN (varsOf l)) → Calls Tryz.prog 88 #[u, .func (.func 86) #[] #[.pointer (some ⟨B, 0, none⟩)]] W fun e w' => e = .returned (.bool ((nubN (varsOf l)).any (foreignS n))) ∧ Below W.heap.size W w') := fun W u hb hN => by
      refine k92 86 #[.pointer (some ⟨B, 0, none⟩)] (enters_of Tryz.func86 (by kernel_rfl) rfl) (foreignS n) _ u W hN (by have := HV.out; have := nubN_len (varsOf l); omega) ?_
      intro W2 x hb2 _
      obtain ⟨q1, q2⟩ := HCB.out W2 (hb.trans (hb2.mono hb.size))
      exact k90 n x B W2 q1 q2
    generalize nubN (varsOf l) = vs at *
    generalize vs.any (foreignS n) = r at *
    have hcf : w.drew.cell? ⟨F, 0, none⟩ = some (.func (.func 86) #[] #[.pointer (some ⟨B, 0, none⟩)]) := hF
    subst hv
    clear h hS hW hc hB hF HCB hl2 HV
    go_enter Tryz.func87, Tryz.ntmps87
    go_wp2_with fail
    first
    | go_region_with (first
        | (go_at_call 72; refine (H24.out _ (Below.drew (Below.refl _ _))).mono ?_; rintro e w1 ⟨rfl, hb1⟩; have hb1 := (Below.drew (Below.refl w.heap.size w)).trans hb1; have q1 := HCell.out _ hb1; have q1a := fun ob => HCell.out _ (hb1.alloc hb1.size ob); clear hcf)
        | (go_at_call 89; refine (H93.out _ hb1).mono ?_; rintro e w2 ⟨u, rfl, hN, hb2⟩; have q2 := HCell.out _ hb2; obtain ⟨adu, cu, hu⟩ := hN.form; subst hu)
        | (go_at_call 88; refine (H92.out _ _ hb2 hN).mono ?_; rintro e w3 ⟨rfl, hb3⟩))
    | fail
    all_goals go_wp2
    all_goals go_ret
    all_goals exact ⟨by rw [HWr.out]; rfl, hb2.trans (hb3.mono hb2.size)⟩
end Go.Proofs.YtgknheafkkkjcaaGreatDoor
namespace Go.Proofs.YtgknheafkkkjcaaGreatDoor
open Go.RowKit
def misS (c : Cl) : Bool := decide (c.n < 0) || wrongS c.n c.hd || c.gs.any (wrongS c.n) || c.bs.any (wrongS c.n)
def ClW (c : Cl) : Prop := ∀ l, (l = c.hd ∨ l ∈ c.gs ∨ l ∈ c.bs) → ∀ x ∈ varsOf l, wfN x
set_option maxRecDepth 100000 in
set_option maxHeartbeats 2000000 in
theorem k65 (c : Cl) (x : ClV) (w : World) (h : ClAt w x c) (hS : Signs w) (hW : ClW c) (hgl : c.gs.length ≤ 5864062014805) (hbl : c.bs.length ≤ 5864062014805) :
    Calls Tryz.prog 54 #[.agg #[x.hv, x.gv, x.bv, .int .i64 x.n]] w fun e w' => e = .returned (.bool (misS c)) ∧ Below w.heap.size w w' := by
  obtain ⟨hd, gs, bs, n⟩ := c
  obtain ⟨hv, gv, bv, xn⟩ := x
  obtain ⟨ht, hg, hb, hn⟩ := h
  simp only at ht hg hb hn hgl hbl
  subst hn
  have HM : Hid (misS ⟨hd, gs, bs, xn⟩ = (decide (xn < 0) || wrongS xn hd || gs.any (wrongS xn) || bs.any (wrongS xn))) := rfl
  generalize hW2 : (w.alloc (.cells #[hv, gv, bv, .int .i64 xn] 66)).alloc (.cells #[.func (.func 86) #[] #[.pointer (some ⟨w.heap.size, 0, none⟩)]] 118) = W2
  have hsz : W2.heap.size = w.heap.size + 2 := by rw [← hW2]; simp
  have HB : Hid (Below w.heap.size w W2) := by
    show Below w.heap.size w W2
    rw [← hW2]
    exact ((Below.refl _ w).alloc (Nat.le_refl _) _).alloc (by simp) _
  have hrow : W2.heap[w.heap.size]? = some (.cells #[hv, gv, bv, .int .i64 xn] 66 (0, 0)) := by
    rw [← hW2, heap_alloc_old _ _ (by simp)]; exact heap_alloc_new w _
  have hrowF : W2.heap[w.heap.size + 1]? = some (.cells #[.func (.func 86) #[] #[.pointer (some ⟨w.heap.size, 0, none⟩)]] 118 (0, 0)) := by
    have := heap_alloc_new (w.alloc (.cells #[hv, gv, bv, .int .i64 xn] 66)) (.cells #[.func (.func 86) #[] #[.pointer (some ⟨w.heap.size, 0, none⟩)]] 118)
    rw [hW2] at this
    simpa using this
  have HC : Hid (∀ W, Below W2.heap.size W2 W → W.cell? ⟨w.heap.size, 0, none⟩ = some hv ∧ W.cell? ⟨w.heap.size, 1, none⟩ = some gv ∧ W.cell? ⟨w.heap.size, 2, none⟩ = some bv ∧ W.cell? ⟨w.heap.size, 3, none⟩ = some (.int .i64 xn) ∧ W.cell? ⟨w.heap.size + 1, 0, none⟩ = some (.func (.func 86) #[] #[.pointer (some ⟨w.heap.size, 0, none⟩)])) := fun W hW => by
    have e1 : W.heap[w.heap.size]? = _ := (hW.block w.heap.size (by omega)).trans hrow
    have e2 : W.heap[w.heap.size + 1]? = _ := (hW.block (w.heap.size + 1) (by omega)).trans hrowF
    refine ⟨?_, ?_, ?_, ?_, ?_⟩
    · rw [cell_of_row W _ 0 _ 66 (0, 0) e1]; rfl
    · rw [cell_of_row W _ 1 _ 66 (0, 0) e1]; rfl
    · rw [cell_of_row W _ 2 _ 66 (0, 0) e1]; rfl
    · rw [cell_of_row W _ 3 _ 66 (0, 0) e1]; rfl
    · rw [cell_of_row W _ 0 _ 118 (0, 0) e2]; rfl
  have H91 : Hid (∀ W l v, Below W2.heap.size W2 W → TermAt W v l → (∀ x ∈ varsOf l, wfN x) → Calls Tryz.prog 87 #[v, .pointer (some ⟨w.heap.size + 1, 0, none⟩)] W fun e w' => e = .returned (.bool (wrongS xn l)) ∧ Below W.heap.size W w') := fun W l v hW hT hV => by
    obtain ⟨_, _, _, c3, cF⟩ := HC.out W hW
    have := hW.size
    exact k91 xn l v w.heap.size (w.heap.size + 1) W hT (hS.below (HB.out.trans (hW.mono HB.out.size))) hV cF (by omega) c3 (by omega)
  have H69 : Hid (∀ W ls v, Below W2.heap.size W2 W → RowAt W v ls → ls.length ≤ 5864062014805 → (∀ l ∈ ls, ∀ x ∈ varsOf l, wfN x) → Calls Tryz.prog 58 #[v, .func (.func 87) #[] #[.pointer (some ⟨w.heap.size + 1, 0, none⟩)]] W fun e w' => e = .returned (.bool (ls.any (wrongS xn))) ∧ Below W.heap.size W w') := fun W ls v hW hR hl hV => by
    refine k69 87 #[.pointer (some ⟨w.heap.size + 1, 0, none⟩)] (enters_of Tryz.func87 (by kernel_rfl) rfl) (wrongS xn) ls v W hR hl ?_
    intro W3 y l hb3 hm hT
    exact H91.out W3 l y (hW.trans (hb3.mono hW.size)) hT (hV l hm)
  have HH : Hid (∀ W, Below W2.heap.size W2 W → Calls Tryz.prog 87 #[hv, .pointer (some ⟨w.heap.size + 1, 0, none⟩)] W fun e w' => e = .returned (.bool (wrongS xn hd)) ∧ Below W.heap.size W w') := fun W hW2 => H91.out W hd hv hW2 (ht.below (HB.out.trans (hW2.mono HB.out.size))) (hW hd (.inl rfl))
  have HGs : Hid (∀ W, Below W2.heap.size W2 W → Calls Tryz.prog 58 #[gv, .func (.func 87) #[] #[.pointer (some ⟨w.heap.size + 1, 0, none⟩)]] W fun e w' => e = .returned (.bool (gs.any (wrongS xn))) ∧ Below W.heap.size W w') := fun W hW2 => H69.out W gs gv hW2 (hg.below (HB.out.trans (hW2.mono HB.out.size))) hgl (fun l hl => hW l (.inr (.inl hl)))
  have HBs : Hid (∀ W, Below W2.heap.size W2 W → Calls Tryz.prog 58 #[bv, .func (.func 87) #[] #[.pointer (some ⟨w.heap.size + 1, 0, none⟩)]] W fun e w' => e = .returned (.bool (bs.any (wrongS xn))) ∧ Below W.heap.size W w') := fun W hW2 => H69.out W bs bv hW2 (hb.below (HB.out.trans (hW2.mono HB.out.size))) hbl (fun l hl => hW l (.inr (.inr hl)))
  obtain ⟨ah, ch, eh⟩ := ht.form
  obtain ⟨ag, cg, eg⟩ := hg.form
  obtain ⟨ab, cb, eb⟩ := hb.form
  subst eh eg eb
  clear ht hg hb hS hW H91 H69 hrow hrowF hgl hbl
  generalize wrongS xn hd = b1 at *
  generalize gs.any (wrongS xn) = b2 at *
  generalize bs.any (wrongS xn) = b3 at *
  obtain ⟨z0, z1, z2, z3, zF⟩ := HC.out W2 (Below.refl _ _)
  by_cases hneg : xn < 0
  · rw [decide_eq_true hneg] at HM
    go_enter Tryz.func54, Tryz.ntmps54
    go_wp2_with fail
    go_ret
    exact ⟨by rw [HM.out]; rfl, HB.out⟩
  · rw [decide_eq_false hneg] at HM
    go_enter Tryz.func54, Tryz.ntmps54
    go_wp2_with fail
    refine (HH.out W2 (Below.refl _ _)).mono ?_
    rintro e w1 ⟨rfl, hb1⟩
    obtain ⟨c0, c1, c2, c3, cF⟩ := HC.out w1 hb1
    have HB1 : Hid (Below w.heap.size w w1) := HB.out.trans (hb1.mono HB.out.size)
    cases b1
    · go_wp2_with fail
      refine (HGs.out w1 hb1).mono ?_
      rintro e w3 ⟨rfl, hb3⟩
      have hb3' := hb1.trans (hb3.mono hb1.size)
      obtain ⟨d0, d1, d2, d3, dF⟩ := HC.out w3 hb3'
      have HB3 : Hid (Below w.heap.size w w3) := HB1.out.trans (hb3.mono HB1.out.size)
      cases b2
      · go_wp2_with fail
        refine (HBs.out w3 hb3').mono ?_
        rintro e w4 ⟨rfl, hb4⟩
        go_wp2_with fail
        go_ret
        exact ⟨by rw [HM.out]; rfl, HB3.out.trans (hb4.mono HB3.out.size)⟩
      · go_wp2_with fail
        go_ret
        exact ⟨by rw [HM.out]; rfl, HB3.out⟩
    · go_wp2_with fail
      go_ret
      exact ⟨by rw [HM.out]; rfl, HB1.out⟩
end Go.Proofs.YtgknheafkkkjcaaGreatDoor
namespace Go.Proofs.YtgknheafkkkjcaaGreatDoor
open Go.RowKit Go.Maps Go.WideMaps Go.ChangeMaps Go.WideElems
theorem same_entry {l : List MapEntry} (hp : l.Pairwise (fun x y => x.key ≠ y.key)) {x y : MapEntry} (hx : x ∈ l) (hy : y ∈ l) (h : x.key = y.key) : x = y := by
  induction hp with
  | nil => cases hx
  | cons h1 _ ih =>
    rcases List.mem_cons.1 hx with rfl | hx' <;> rcases List.mem_cons.1 hy with rfl | hy'
    · rfl
    · exact absurd h (h1 _ hy')
    · exact absurd h.symm (h1 _ hx')
    · exact ih hx' hy'
theorem same_place {l : List MapEntry} (hp : l.Pairwise (fun x y => x.key ≠ y.key)) : ∀ {i j : Nat} {x y : MapEntry}, l[i]? = some x → l[j]? = some y → x.key = y.key → i = j := by
  induction hp with
  | nil => intro i j x y hx; simp at hx
  | cons h1 _ ih =>
    intro i j x y hx hy h
    cases i with
    | zero =>
      cases j with
      | zero => rfl
      | succ j =>
        simp at hx hy; subst hx
        exact absurd h (h1 _ (List.mem_of_getElem? hy))
    | succ i =>
      cases j with
      | zero =>
        simp at hx hy; subst hy
        exact absurd h.symm (h1 _ (List.mem_of_getElem? hx))
      | succ j =>
        simp at hx hy
        rw [ih hx hy h]
section
variable {H : Type} {P : Program} {w w1 : World} {t k E : TypeId} {R : Value → Option (DataW H × List MemPlace)} {b : Nat} {es es' : Array MapEntry} {clock clock' : Nat}
theorem block_inj {b : Nat} {o o' o'' : Obj} (hb : w.heap[b]? = some o'') (h : setBlock w b o = setBlock w b o') : o = o' := by
  have hl := (Array.getElem?_eq_some_iff.1 hb).1
  have e : (setBlock w b o).heap[b]? = (setBlock w b o').heap[b]? := by rw [h]
  simpa [setBlock, hl] using e
theorem upd_same (K : KeyLaw P k) (ht : P.underlying t = some (.map k E)) (hb : w.heap[b]? = some (.map es clock)) (hb1 : w1.heap[b]? = some (.map es clock)) (F : WideElems.Fit P k R es clock) {key val : Value} {kl : Lit} (hkey : keyOf P k key = some kl)
    (h : (Instr.mapUpdate t (.map (some b)) key val).run P w = .ok () (setBlock w b (.map es' clock'))) : (Instr.mapUpdate t (.map (some b)) key val).run P w1 = .ok () (setBlock w1 b (.map es' clock')) := by
  have s3 := ((MapKept.stamped_iff es clock).1 F.stamped).2.2
  rcases K.find w hkey es.toList F.keys with ⟨h1, h2⟩ | ⟨j, e0, h1, h2, h3⟩ <;> rcases K.find w1 hkey es.toList F.keys with ⟨g1, g2⟩ | ⟨i, f0, g1, g2, g3⟩
  · have e : (Instr.mapUpdate t (.map (some b)) key val).run P w = .ok () (setBlock w b (.map (es.push ⟨key, val, clock⟩) (clock + 1))) := by
      simp [Instr.mapUpdate, run_underlying ht, MapKept.run_getObj_map hb, K.check w false hkey, h1, MapKept.run_setObj_map _ hb, Result.andThen, setBlock]
    rw [e] at h
    have := block_inj hb (by simpa using h)
    rw [← this]
    simp [Instr.mapUpdate, run_underlying ht, MapKept.run_getObj_map hb1, K.check w1 false hkey, g1, MapKept.run_setObj_map _ hb1, Result.andThen, setBlock]
  · exact absurd g3 (h2 _ (List.mem_of_getElem? g2))
  · exact absurd h3 (g2 _ (List.mem_of_getElem? h2))
  · have hij := same_place s3 h2 g2 (h3.trans g3.symm)
    subst hij
    have hj : es[j]? = some e0 := by simpa using h2
    have e : (Instr.mapUpdate t (.map (some b)) key val).run P w = .ok () (setBlock w b (.map (es.modify j (fun e' => { e' with key := key, val := val })) clock)) := by
      simp [Instr.mapUpdate, run_underlying ht, MapKept.run_getObj_map hb, K.check w false hkey, h1, hj, h3, K.stays w hkey, MapKept.run_setObj_map _ hb, Result.andThen, setBlock]
    rw [e] at h
    have := block_inj hb (by simpa using h)
    rw [← this]
    simp [Instr.mapUpdate, run_underlying ht, MapKept.run_getObj_map hb1, K.check w1 false hkey, g1, hj, h3, K.stays w1 hkey, MapKept.run_setObj_map _ hb1, Result.andThen, setBlock]
theorem set_twice (o o' : Obj) : setBlock (setBlock w b o) b o' = setBlock w b o' := by
  simp [setBlock, Array.setIfInBounds_setIfInBounds]
end
section
variable {H : Type} {P : Program} {w : World} {t k E e : TypeId} {q : IntKind} {base b n : Nat} {D : DataW H}
theorem groups_entry (h : w.ownsGroups P k base e q b n D) (K : Keyed P k) (L : KeyLaw P k) (ht : P.underlying t = some (.map k E)) (hz : ∀ u : World, (zeroValue E).run P u = .ok (.slice none 0 0) u) (hn : n < maxLen) {key : Value} {kl : Lit} (hkey : keyOf P k key = some kl) :
    ∃ v zs st W1, (Instr.mapEntry t (.map (some b)) key).run P w = .ok (.tuple #[v, .int .i64 ((st : Nat) : Int)]) W1 ∧ D.atKey kl .nil = rowDatum q v zs ∧ W1.ownsInts base e q v zs ∧ zs.length ≤ n ∧ w.grownBy W1 (some b) ∧
      ∀ w2 v' zs', W1.grownBy w2 v.ownBlock → w2.ownsInts base e q v' zs' → zs'.length ≤ n + 1 → (v'.ownBlock = v.ownBlock ∨ ∃ g, v'.ownBlock = some g ∧ w.heap.size ≤ g) →
        ∃ w3, (Instr.entryStore t (.map (some b)) (.int .i64 ((st : Nat) : Int)) v').run P w2 = .ok () w3 ∧ w3.ownsGroups P k base e q b (n + 1) (D.put kl (rowDatum q v' zs')) ∧ w2.grownBy w3 (some b) := by
  obtain ⟨v, zs, hrun, hat, hoi, hzl, hback⟩ := h.at K ht (hz w) hn hkey
  obtain ⟨es, clock, hb, F, hs, hD, hbb, hlen, hap⟩ := h
  obtain ⟨v0, st, es1, clock1, he1, hv0, he2⟩ := entry_then_store L ht hz hb F hkey
  have s3 := ((MapKept.stamped_iff es clock).1 F.stamped).2.2
  have hvv : v0 = v := by
    rcases Maps.fit_look false K ht (hz w) hb F hkey with ⟨g1, g2, _⟩ | ⟨e0, y, g1, g2, g3, _⟩
    · rw [hrun] at g1
      obtain rfl : v = .slice none 0 0 := by simpa using g1
      rcases hv0 with ⟨f0, hf, hk, _⟩ | ⟨_, h⟩
      · exact absurd hk (g2 _ hf)
      · exact h
    · rw [hrun] at g3
      obtain rfl : v = e0.val := by simpa using g3
      rcases hv0 with ⟨f0, hf, hk, h⟩ | ⟨h, _⟩
      · rw [h, same_entry s3 hf g1 (hk.trans g2.symm)]
      · exact absurd g2 (h _ g1)
  subst hvv
  have hblt : b < w.heap.size := (Array.getElem?_eq_some_iff.1 hb).1
  have hg1 : w.grownBy (setBlock w b (.map es1 clock1)) (some b) := ⟨rfl, rfl, rfl, by simp [setBlock], fun i _ hi => heap_setBlock_other hb _ (fun e1 => hi (by rw [e1]))⟩
  have hvb : v0.ownBlock ≠ some b := fun e1 => by have := (hoi.1.lt b e1).1; omega
  refine ⟨v0, zs, st, _, he1, hat, hoi.kept hg1 (.inr hvb), hzl, hg1, ?_⟩
  intro w2 v' zs' hg hown' hl' hloc
  have hb1 : (setBlock w b (.map es1 clock1)).heap[b]? = some (.map es1 clock1) := heap_setBlock_same hb _
  have hb2 : w2.heap[b]? = some (.map es1 clock1) := (hg.block b (by simpa [setBlock] using hblt) (fun e1 => hvb e1.symm)).trans hb1
  obtain ⟨es', clock', hr2, hru⟩ := he2 w2 v' hb2
  have hbv : (setBlock w2 b (.map es clock)).heap[b]? = some (.map es clock) := heap_setBlock_same hb2 _
  have hv2 : w2.grownBy (setBlock w2 b (.map es clock)) (some b) := ⟨rfl, rfl, rfl, by simp [setBlock], fun i _ hi => heap_setBlock_other hb2 _ (fun e1 => hi (by rw [e1]))⟩
  have hvg : w.grownBy (setBlock w2 b (.map es clock)) v0.ownBlock := by
    refine ⟨hg.os, hg.tape, hg.output, by have := hg.size; simpa [setBlock] using this, fun i hi hne => ?_⟩
    by_cases hib : i = b
    · subst hib; rw [hbv, hb]
    · rw [heap_setBlock_other hb2 _ hib, hg.block i (by simpa [setBlock] using hi) hne, heap_setBlock_other hb _ hib]
  have hob : v'.ownBlock ≠ some b := fun e1 => by have := (hown'.1.lt b e1).1; omega
  obtain ⟨w3, r1, r2, r3⟩ := hback _ v' zs' hvg (hown'.kept hv2 (.inr hob)) hl' hloc
  have r4 := upd_same L ht hb hbv F hkey hru
  rw [r1] at r4
  obtain rfl : w3 = setBlock (setBlock w2 b (.map es clock)) b (.map es' clock') := by simpa using r4
  rw [set_twice] at r2
  exact ⟨_, hr2, r2, ⟨rfl, rfl, rfl, by simp [setBlock], fun i _ hi => heap_setBlock_other hb2 _ (fun e1 => hi (by rw [e1]))⟩⟩
end
end Go.Proofs.YtgknheafkkkjcaaGreatDoor
namespace Go.Proofs.YtgknheafkkkjcaaGreatDoor
open Go.RowKit
open Go.ChangeShapes (lits)
def hasK (c : Cl) (x : Pd) : Bool := hasNameS c.hd && hasP [predS c.hd] x
def idxG (cs : List Cl) (x : Pd) : Nat → List Int
  | 0 => []
  | k + 1 => match cs[k]? with
    | some c => if hasK c x then idxG cs x k ++ [(k : Int)] else idxG cs x k
    | none => idxG cs x k
def rowG (zs : List Int) : DataW Unit := if zs = [] then .nil else .slice (lits .i64 zs) []
/-- The map D tells for each predicate which of the first k clauses are its own. -/
def GrpOf (D : DataW Unit) (cs : List Cl) (k : Nat) : Prop := Maps.IsMap D ∧ ∀ x, wfP x → D.atKey (pLit x) .nil = rowG (idxG cs x k)
theorem grp_nil (cs : List Cl) : GrpOf (.map []) cs 0 := ⟨Maps.isMap_empty, fun _ _ => rfl⟩
theorem grp_no {D : DataW Unit} {cs : List Cl} {k : Nat} (hk : k < cs.length) (h : GrpOf D cs k) (hn : hasNameS cs[k].hd = false) : GrpOf D cs (k + 1) :=
  ⟨h.1, fun x hx => by
    rw [h.2 x hx]
    show _ = rowG (match cs[k]? with | some c => if hasK c x then idxG cs x k ++ [(k : Int)] else idxG cs x k | none => idxG cs x k)
    rw [List.getElem?_eq_getElem hk]
    simp [hasK, hn]⟩
theorem lits_inj {a b : List Int} (h : (lits .i64 a : List (DataW Unit)) = lits .i64 b) : a = b := by
  unfold lits at h
  induction a generalizing b with
  | nil => cases b with
    | nil => rfl
    | cons _ _ => simp at h
  | cons x r ih => cases b with
    | nil => simp at h
    | cons y s =>
      simp at h
      rw [h.1, ih h.2]
theorem rowG_inv {w : World} {base : Nat} {v : Value} {zs zs' : List Int} (ho : w.ownsInts base 3 .i64 v zs) (h : rowG zs' = rowDatum .i64 v zs) : zs = zs' := by
  unfold rowG at h
  rcases ho.datum (H := Unit) with ⟨h1, rfl⟩ | h1
  · rw [h1] at h
    split at h
    · next h0 => exact h0.symm
    · cases h
  · rw [h1] at h
    split at h
    · cases h
    · simp at h
      exact (lits_inj h).symm
theorem grp_yes {D : DataW Unit} {cs : List Cl} {k : Nat} (hk : k < cs.length) (h : GrpOf D cs k) (hn : hasNameS cs[k].hd = true) (hw : wfP (predS cs[k].hd)) : GrpOf (D.put (pLit (predS cs[k].hd)) (.slice (lits .i64 (idxG cs (predS cs[k].hd) k ++ [(k : Int)])) [])) cs (k + 1) :=
  ⟨h.1.put _ _, fun x hx => by
    show _ = rowG (match cs[k]? with | some c => if hasK c x then idxG cs x k ++ [(k : Int)] else idxG cs x k | none => idxG cs x k)
    rw [List.getElem?_eq_getElem hk]
    by_cases hq : x = predS cs[k].hd
    · subst hq
      rw [Maps.atKey_put_same h.1 (keyed40.key (key40 _ hw))]
      have : hasK cs[k] (predS cs[k].hd) = true := by simp [hasK, hn, hasP]
      simp [this, rowG]
    · rw [Maps.atKey_put_other (fun e => hq (pLit_inj hx hw e)), h.2 x hx]
      have : hasK cs[k] x = false := by
        unfold hasK
        rw [hn]
        cases hp : hasP [predS cs[k].hd] x
        · rfl
        · rw [hasP_iff] at hp; simp at hp; exact absurd hp hq
      simp [this]⟩
theorem groups_mono {w : World} {base b n m : Nat} {D : DataW Unit} (h : w.ownsGroups Tryz.prog 61 base 3 .i64 b n D) (hm : n ≤ m) : w.ownsGroups Tryz.prog 61 base 3 .i64 b m D := by
  obtain ⟨es, clock, hb, F, hs, hD, hbb, hlen, hap⟩ := h
  exact ⟨es, clock, hb, F, by omega, hD, hbb, fun x hx zs ho => by have := hlen x hx zs ho; omega, hap⟩
theorem groups_below {w w' : World} {base b n : Nat} {D : DataW Unit} (h : w.ownsGroups Tryz.prog 61 base 3 .i64 b n D) (hb : Below w.heap.size w w') : w'.ownsGroups Tryz.prog 61 base 3 .i64 b n D :=
  h.kept (row := none) ⟨hb.os, hb.tape, hb.output, hb.size, fun i hi _ => hb.block i hi⟩ (by simp) (fun _ _ _ x _ => by cases x.val.ownBlock <;> simp)
theorem zero44 (w : World) : (zeroValue 36).run Tryz.prog w = .ok (.slice none 0 0) w := by kernel_rfl
theorem info3i : ∃ i, Tryz.prog.info? 3 = some i ∧ i.zero = some (.int .i64 0) ∧ i.size = 1 ∧ i.bytes = 8 := by
  have h : (Tryz.prog.info? 3).map (fun i => (i.zero, i.size, i.bytes)) = some (some (.int .i64 0), 1, 8) := by kernel_rfl
  cases hq : Tryz.prog.info? 3 with
  | none => rw [hq] at h; cases h
  | some i =>
    rw [hq] at h
    simp only [Option.map_some, Option.some.injEq, Prod.mk.injEq] at h
    exact ⟨i, rfl, h.1, h.2.1, h.2.2⟩
set_option maxRecDepth 100000 in
set_option maxHeartbeats 4000000 in
theorem k40 (cs : List Cl) (v : Value) (w : World) (hP : ProgAt w v cs) (hl : cs.length ≤ 1759218604441) (hW : ∀ c ∈ cs, hasNameS c.hd = true → wfP (predS c.hd)) :
    Calls Tryz.prog 37 #[v] w fun e w' => e = .returned (.map (some w.heap.size)) ∧ (∃ D, w'.ownsGroups (H := Unit) Tryz.prog 61 (w.heap.size + 1) 3 .i64 w.heap.size cs.length D ∧ GrpOf D cs cs.length) ∧ Below w.heap.size w w' := by
  have HP : Hid (ProgAt w v cs) := hP
  have HW : Hid (∀ c ∈ cs, hasNameS c.hd = true → wfP (predS c.hd)) := hW
  obtain ⟨i0, hi, hz, hs, hby⟩ := info3i
  obtain ⟨ad, cap, hv⟩ := hP.form
  subst hv
  have hmm := @run_makeMap Tryz.prog
  have HI0 : Hid (∃ D, (w.alloc (.map #[] 0)).ownsGroups (H := Unit) Tryz.prog 61 (w.heap.size + 1) 3 .i64 w.heap.size 0 D ∧ GrpOf D cs 0) := ⟨_, World.ownsGroups_made _ _ _ _ _, grp_nil cs⟩
  have HB0 : Hid (Below w.heap.size w (w.alloc (.map #[] 0))) := (Below.refl _ w).alloc (Nat.le_refl _) _
  clear hP hW
  go_enter Tryz.func37, Tryz.ntmps37
  go_wp2_with fail
  go_loopw [10] (fun i wr => ∃ k : Nat, k ≤ cs.length ∧ i = .int .i64 k ∧ Hid (∃ D, wr.ownsGroups (H := Unit) Tryz.prog 61 (w.heap.size + 1) 3 .i64 w.heap.size k D ∧ GrpOf D cs k) ∧ Below w.heap.size w wr ∧ w.heap.size + 1 ≤ wr.heap.size) (fun i _ => cs.length - (intOf i).toNat)
  case atStart => exact ⟨0, by omega, rfl, HI0, HB0.out, by simp⟩
  case round =>
    obtain ⟨k, hk, rfl, HI, hbr, hws⟩ := hrel
    have hsz := hbr.size
    by_cases hlt : k < cs.length
    · have hlt' : (k : Int) < (cs.length : Int) := by omega
      have hk0 : (0 : Int) ≤ (k : Int) := by omega
      obtain ⟨b, o, cap', x, hv', ⟨p0, p1, p2, p3⟩, ⟨ht, hg, hbd, hnn⟩, hbw⟩ := prog_at (HP.out.below hbr) k hlt
      simp only [Value.slice.injEq] at hv'
      obtain ⟨rfl, _, rfl⟩ := hv'
      have HT : Hid (TermAt wr x.hv cs[k].hd) := ht
      obtain ⟨ah, ch, eh⟩ := ht.form
      obtain ⟨ag, cg, eg⟩ := hg.form
      obtain ⟨ab, cb, eb⟩ := hbd.form
      obtain ⟨xh, xg, xb, xn⟩ := x
      simp only at eh eg eb p0 p1 p2 p3 HT
      subst eh eg eb
      clear ht hg hbd hnn
      have HWk : Hid (hasNameS cs[k].hd = true → wfP (predS cs[k].hd)) := HW.out _ (List.getElem_mem hlt)
      have HNo : Hid (hasNameS cs[k].hd = false → ∀ D, GrpOf D cs k → GrpOf D cs (k + 1)) := fun h D hD => grp_no hlt hD h
      have HYes : Hid (hasNameS cs[k].hd = true → ∀ D, GrpOf D cs k → wfP (predS cs[k].hd) → GrpOf (D.put (pLit (predS cs[k].hd)) (.slice (lits .i64 (idxG cs (predS cs[k].hd) k ++ [(k : Int)])) [])) cs (k + 1)) := fun h D hD hw => grp_yes hlt hD h hw
      generalize cs[k].hd = hd at *
      generalize cs[k].gs.length = gl at *
      generalize cs[k].bs.length = bl at *
      have HB1 : Hid (Below wr.heap.size wr (wr.alloc (.cells #[.slice ah hd.length ch, .slice ag gl cg, .slice ab bl cb, .int .i64 xn] 66))) := (Below.refl _ wr).alloc (Nat.le_refl _) _
      have HC1 : Hid (∀ W, Below (wr.alloc (.cells #[.slice ah hd.length ch, .slice ag gl cg, .slice ab bl cb, .int .i64 xn] 66)).heap.size (wr.alloc (.cells #[.slice ah hd.length ch, .slice ag gl cg, .slice ab bl cb, .int .i64 xn] 66)) W → W.cell? ⟨wr.heap.size, 0, none⟩ = some (.slice ah hd.length ch)) := fun W hW => by
        rw [hW.cell (by simp), cell_of_row _ wr.heap.size 0 _ 66 (0, 0) (heap_alloc_new wr _)]; rfl
      have H50 := k50 hd _ _ (HT.out.below HB1.out)
      cases hn : hasNameS hd
      · rw [hn] at H50
        go_wp2_with fail
        refine H50.mono ?_
        rintro e w1 ⟨rfl, hb1⟩
        have hb1' := HB1.out.trans (hb1.mono HB1.out.size)
        have HF : Hid (∃ D, w1.ownsGroups (H := Unit) Tryz.prog 61 (w.heap.size + 1) 3 .i64 w.heap.size (k + 1) D ∧ GrpOf D cs (k + 1)) := by
          obtain ⟨D, h1, h2⟩ := HI.out
          exact ⟨D, groups_mono (groups_below h1 hb1') (by omega), HNo.out hn D h2⟩
        go_wp2_with fail
        go_roundw
        case rel => exact ⟨k + 1, by omega, by go_num, HF, hbr.trans (hb1'.mono hsz), Nat.le_trans hws hb1'.size⟩
        case measure => simp [intOf]; omega
      · rw [hn] at H50
        have hWf := HWk.out hn
        have h0 : 0 < hd.length := by
          cases hd with
          | nil => simp [hasNameS] at hn
          | cons _ _ => simp
        have HPos : Hid (0 < hd.length) := h0
        have HWf : Hid (wfP (predS hd)) := hWf
        have HYs := HYes.out hn
        have HY : Hid (∀ D, GrpOf D cs k → GrpOf (D.put (pLit (predS hd)) (.slice (lits .i64 (idxG cs (predS hd) k ++ [(k : Int)])) [])) cs (k + 1)) := fun D hD => HYs D hD hWf
        clear HYs HYes HNo HWk h0 hn
        go_wp2_with fail
        refine H50.mono ?_
        rintro e w1 ⟨rfl, hb1⟩
        have c1 := HC1.out w1 hb1
        have hb1' := HB1.out.trans (hb1.mono HB1.out.size)
        have H55 := k55 hd _ w1 (HT.out.below hb1') HPos.out
        go_wp2_with fail
        refine H55.mono ?_
        rintro e w2 ⟨rfl, hb2⟩
        have hb2' := hb1'.trans (hb2.mono hb1'.size)
        have hw2 : w.heap.size + 1 ≤ w2.heap.size := Nat.le_trans hws hb2'.size
        have hbw2 : Below w.heap.size w w2 := hbr.trans (hb2'.mono hsz)
        have HG : Hid (∃ D, ((w2.alloc (.cells #[.string (predS hd).1, .int .i64 (predS hd).2] 61)).alloc (.cells #[.int .i64 (k : Int)] 3)).ownsGroups (H := Unit) Tryz.prog 61 (w.heap.size + 1) 3 .i64 w.heap.size k D ∧ GrpOf D cs k) := by
          obtain ⟨D, h1, h2⟩ := HI.out
          exact ⟨D, groups_below h1 ((hb2'.alloc hb2'.size _).alloc (by simp; have := hb2'.size; omega) _), h2⟩
        have hkey := key40 (predS hd) HWf.out
        unfold Pd.val at *
        clear HC1 c1 H50 HB1 HI p0 p1 p2 p3
        generalize predS hd = x at *
        obtain ⟨D, hG, hGr⟩ := HG.out
        have HGr : Hid (GrpOf D cs k) := hGr
        clear hGr HG
        have hszs : ((w2.alloc (.cells #[.string x.1, .int .i64 x.2] 61)).alloc (.cells #[.int .i64 (k : Int)] 3)).heap.size = w2.heap.size + 2 := by simp
        have hcn := cell_one_new (w2.alloc (.cells #[.string x.1, .int .i64 x.2] 61)) (.int .i64 (k : Int)) 3
        have hszd : (w2.alloc (.cells #[.string x.1, .int .i64 x.2] 61)).heap.size = w2.heap.size + 1 := by simp
        rw [hszd] at hcn
        obtain ⟨v0, zs, st, W1, hrun, hat, hoi, hzl, hgr, hst⟩ := groups_entry hG keyed40 law40 Tryz.underlying85 zero44 (by unfold maxLen; omega) hkey
        have HSt := hst
        have hcn1 : ∀ j u, [Value.int .i64 (k : Int)][j]? = some u → W1.cell? ((⟨w2.heap.size + 1, 0, none⟩ : Addr).add j) = some u := fun j u hu => by
          have h1 := hcn j u hu
          rw [← h1]
          refine World.cell?_of_block ?_
          refine hgr.block _ ?_ ?_
          · rw [hszs, Addr.add_mid]; show w2.heap.size + 1 < w2.heap.size + 2; omega
          · rw [Addr.add_mid]; show some (w2.heap.size + 1) ≠ some w.heap.size; simp; omega
        go_wp2_with (at_builtin; refine wpList_append_own_at _ rfl _ _ 36 rfl (w.heap.size + 1) 3 i0 (.int .i64 0) 1 8 Tryz.underlying36 hi hz hs hby rfl (by decide) _ _ _ rfl hoi.1 ⟨w2.heap.size + 1, 0, none⟩ 1 1 [.int .i64 (k : Int)] rfl rfl hcn1 (ints_oneCell .i64 [(k : Int)]) (by unfold maxLen; omega) (by omega) (by have := hgr.size; omega) ?_)
        intro v' w4 hown' hgrow hnil hloc
        have hapd := hoi.appended hown' (WalkArith.wf_i64 (by omega))
        have hsW := hgr.size
        obtain ⟨w5, hrun5, hG5, hgr5⟩ := hst w4 v' (zs ++ [(k : Int)]) hgrow hapd (by simp; omega) (hloc.imp id (fun h => ⟨_, h, hsW⟩))
        have hzs : zs = idxG cs x k := rowG_inv hoi ((HGr.out.2 x HWf.out).symm.trans hat)
        have HF : Hid (∃ D, w5.ownsGroups (H := Unit) Tryz.prog 61 (w.heap.size + 1) 3 .i64 w.heap.size (k + 1) D ∧ GrpOf D cs (k + 1)) := by
          refine ⟨_, hG5, ?_⟩
          rw [hapd.datum_pos (by simp), hzs]
          exact HY.out D HGr.out
        have hB4 : Below w.heap.size w W1 := ((hbw2.alloc hbw2.size (.cells #[.string x.1, .int .i64 x.2] 61)).alloc (by rw [hszd]; omega) (.cells #[.int .i64 (k : Int)] 3)).grown hgr (by rw [hszs]; omega) (fun j hj => by cases hj; exact Nat.le_refl _)
        have hB5 : Below w.heap.size w w5 := hB4.groups hoi hgrow hgr5 (by omega) (by omega) (Nat.le_refl _)
        have hs5 : w.heap.size + 1 ≤ w5.heap.size := by have := hgrow.size; have := hgr5.size; omega
        clear hst HSt hapd hown' hG5 hgrow hgr5 hloc hnil hgr hrun hat hoi hcn hcn1 hG hzs
        go_wp2_with fail
        go_roundw
        case rel => exact ⟨k + 1, by omega, by go_num, HF, hB5, hs5⟩
        case measure => simp [intOf]; omega
    · have hlt' : ¬ ((k : Int) < (cs.length : Int)) := by omega
      have hkl : k = cs.length := by omega
      subst hkl
      go_wp2_with fail
      go_ret
      exact ⟨rfl, HI.out, hbr⟩
end Go.Proofs.YtgknheafkkkjcaaGreatDoor
namespace Go.Proofs.YtgknheafkkkjcaaGreatDoor
open Go.RowKit
def idxK (p : Cl → Bool) (ls : List Cl) : Int := match ls.findIdx? p with | some i => (i : Int) | none => -1
def noneUptoK (p : Cl → Bool) (ls : List Cl) (k : Nat) : Prop := ∀ j (h : j < ls.length), j < k → p ls[j] = false
theorem idxK_at (p : Cl → Bool) (ls : List Cl) (k : Nat) (hk : k < ls.length) (h : noneUptoK p ls k) (hp : p ls[k] = true) : idxK p ls = (k : Int) := by
  unfold idxK
  have : ls.findIdx? p = some k := by
    rw [List.findIdx?_eq_some_iff_getElem]
    exact ⟨hk, hp, fun j hj => by simp [h j (by omega) hj]⟩
  rw [this]
theorem idxK_none (p : Cl → Bool) (ls : List Cl) (h : noneUptoK p ls ls.length) : idxK p ls = -1 := by
  unfold idxK
  have : ls.findIdx? p = none := by
    rw [List.findIdx?_eq_none_iff]
    intro x hx
    obtain ⟨j, hj, rfl⟩ := List.getElem_of_mem hx
    exact h j hj hj
  rw [this]
set_option maxRecDepth 100000 in
set_option maxHeartbeats 1000000 in
theorem k54 (g : Nat) (lb : Array Value) (eg : ∀ args w, (callFunc g args).run Tryz.prog w = .ok (.enter g args) w) (p : Cl → Bool) (ls : List Cl) (v : Value) (w : World) (hR : ProgAt w v ls) (hl : ls.length ≤ 1759218604441)
    (hp : ∀ W x l, Below w.heap.size w W → l ∈ ls → ClAt W x l → Calls Tryz.prog g (#[.agg #[x.hv, x.gv, x.bv, .int .i64 x.n]] ++ lb) W fun e w' => e = .returned (.bool (p l)) ∧ Below W.heap.size W w') :
    Calls Tryz.prog 30 #[v, .func (.func g) #[] lb] w fun e w' => e = .returned (.int .i64 (idxK p ls)) ∧ Below w.heap.size w w' := by
  have HRow : Hid (ProgAt w v ls) := hR
  have HP : Hid (∀ W x l, Below w.heap.size w W → l ∈ ls → ClAt W x l → Calls Tryz.prog g (#[.agg #[x.hv, x.gv, x.bv, .int .i64 x.n]] ++ lb) W fun e w' => e = .returned (.bool (p l)) ∧ Below W.heap.size W w') := hp
  obtain ⟨ad, cap, hv⟩ := hR.form
  subst hv
  clear hR hp
  go_enter Tryz.func30, Tryz.ntmps30
  go_wp2_with fail
  go_loopw [8] (fun i wr => ∃ k : Nat, k ≤ ls.length ∧ i = .int .i64 k ∧ Hid (noneUptoK p ls k) ∧ Below w.heap.size w wr) (fun i _ => ls.length - (intOf i).toNat)
  case atStart => exact ⟨0, by omega, rfl, fun j _ hj => by omega, Below.refl _ _⟩
  case round =>
    obtain ⟨k, hk, rfl, HI, hbr⟩ := hrel
    have hsz := hbr.size
    by_cases hlt : k < ls.length
    · have hlt' : (k : Int) < (ls.length : Int) := by omega
      have hk0 : (0 : Int) ≤ (k : Int) := by omega
      obtain ⟨b, o, cap', x, hv', ⟨hc0, hc1, hc2, hc3⟩, ht, hbw⟩ := prog_at (HRow.out.below hbr) k hlt
      simp only [Value.slice.injEq] at hv'
      obtain ⟨rfl, _, rfl⟩ := hv'
      have HC := HP.out wr x ls[k] hbr (List.getElem_mem hlt) ht
      clear ht
      cases hq : p ls[k]
      · rw [hq] at HC
        have HN : Hid (noneUptoK p ls (k + 1)) := fun j hj h => if e : j = k then by subst e; exact hq else HI.out j hj (by omega)
        clear hq
        go_wp2_with fail
        refine HC.mono ?_
        rintro e w1 ⟨rfl, hb1⟩
        go_wp2_with fail
        go_roundw
        case rel => exact ⟨k + 1, by omega, by go_num, HN, hbr.trans (hb1.mono hsz)⟩
        case measure => simp [intOf]; omega
      · rw [hq] at HC
        have HN : Hid (idxK p ls = (k : Int)) := idxK_at p ls k hlt HI.out hq
        clear hq
        go_wp2_with fail
        refine HC.mono ?_
        rintro e w1 ⟨rfl, hb1⟩
        go_wp2_with fail
        go_ret
        exact ⟨by rw [HN.out]; rfl, hbr.trans (hb1.mono hsz)⟩
    · have hlt' : ¬ ((k : Int) < (ls.length : Int)) := by omega
      have HN : Hid (idxK p ls = -1) := idxK_none p ls (fun j hj _ => HI.out j hj (by omega))
      go_wp2_with fail
      go_ret
      exact ⟨by rw [HN.out]; rfl, hbr⟩
end Go.Proofs.YtgknheafkkkjcaaGreatDoor
namespace Go.Proofs.YtgknheafkkkjcaaGreatDoor
open Go.RowKit
/-- The box of a clause that a closure makes first. -/
theorem box_cells (w : World) (a b c d : Value) : ∀ W, Below (w.alloc (.cells #[a, b, c, d] 66)).heap.size (w.alloc (.cells #[a, b, c, d] 66)) W → W.cell? ⟨w.heap.size, 0, none⟩ = some a ∧ W.cell? ⟨w.heap.size, 1, none⟩ = some b ∧ W.cell? ⟨w.heap.size, 2, none⟩ = some c ∧ W.cell? ⟨w.heap.size, 3, none⟩ = some d := fun W hW => by
  have e1 : W.heap[w.heap.size]? = some (.cells #[a, b, c, d] 66 (0, 0)) := (hW.block w.heap.size (by simp)).trans (heap_alloc_new w _)
  refine ⟨?_, ?_, ?_, ?_⟩
  · rw [cell_of_row W _ 0 _ 66 (0, 0) e1]; rfl
  · rw [cell_of_row W _ 1 _ 66 (0, 0) e1]; rfl
  · rw [cell_of_row W _ 2 _ 66 (0, 0) e1]; rfl
  · rw [cell_of_row W _ 3 _ 66 (0, 0) e1]; rfl
def step0 (cs : List Cl) (c : Cl) : Bool := decide ((64 : Int) < (cs.length : Int)) || longS c.gs.length c.bs.length c.n
set_option maxRecDepth 100000 in
theorem k63 (cs : List Cl) (c : Cl) (x : ClV) (w : World) (h : ClAt w x c) (B : Nat) (ap : Option Addr) (cp : Nat) (hB : w.cell? ⟨B, 0, none⟩ = some (.slice ap cs.length cp)) (hBl : B < w.heap.size) :
    Calls Tryz.prog 52 #[.agg #[x.hv, x.gv, x.bv, .int .i64 x.n], .pointer (some ⟨B, 0, none⟩)] w fun e w' => e = .returned (.bool (step0 cs c)) ∧ Below w.heap.size w w' := by
  obtain ⟨hd, gs, bs, n⟩ := c
  obtain ⟨hv, gv, bv, xn⟩ := x
  obtain ⟨ht, hg, hb, hn⟩ := h
  simp only at ht hg hb hn
  subst hn
  have HM : Hid (step0 cs ⟨hd, gs, bs, xn⟩ = (decide ((64 : Int) < (cs.length : Int)) || longS gs.length bs.length xn)) := rfl
  obtain ⟨ah, ch, eh⟩ := ht.form
  obtain ⟨ag, cg, eg⟩ := hg.form
  obtain ⟨ab, cb, eb⟩ := hb.form
  subst eh eg eb
  have HB1 : Hid (∀ o : Obj, Below w.heap.size w (w.alloc o)) := fun o => (Below.refl _ w).alloc (Nat.le_refl _) o
  have hBa : ∀ o : Obj, (w.alloc o).cell? ⟨B, 0, none⟩ = some (.slice ap cs.length cp) := fun o => cell_alloc hBl hB
  have H64 := k64 (.slice ah hd.length ch) ag ab gs.length cg bs.length cb xn (w.alloc (.cells #[.slice ah hd.length ch, .slice ag gs.length cg, .slice ab bs.length cb, .int .i64 xn] 66)) rfl
  clear ht hg hb hB
  generalize longS gs.length bs.length xn = r at *
  by_cases h64 : (64 : Int) < (cs.length : Int)
  · rw [decide_eq_true h64] at HM
    go_enter Tryz.func52, Tryz.ntmps52
    go_wp2_with fail
    go_ret
    exact ⟨by rw [HM.out]; rfl, HB1.out _⟩
  · rw [decide_eq_false h64] at HM
    go_enter Tryz.func52, Tryz.ntmps52
    go_wp2_with fail
    refine H64.mono ?_
    rintro e w1 ⟨rfl, hb1⟩
    go_wp2_with fail
    go_ret
    exact ⟨by rw [HM.out]; rfl, (HB1.out _).trans (hb1.mono (HB1.out _).size)⟩
def step2 (c : Cl) : Bool := !headOk c.hd
set_option maxRecDepth 100000 in
theorem k66 (c : Cl) (x : ClV) (w : World) (h : ClAt w x c) (h1 : 0 < c.hd.length) (hL : c.hd.length ≤ 256) (hW : ∀ y ∈ varsOf c.hd, wfN y) :
    Calls Tryz.prog 55 #[.agg #[x.hv, x.gv, x.bv, .int .i64 x.n]] w fun e w' => e = .returned (.bool (step2 c)) ∧ Below w.heap.size w w' := by
  obtain ⟨hd, gs, bs, n⟩ := c
  obtain ⟨hv, gv, bv, xn⟩ := x
  obtain ⟨ht, hg, hb, hn⟩ := h
  simp only at ht hg hb hn h1 hL hW
  subst hn
  have HM : Hid (step2 ⟨hd, gs, bs, xn⟩ = !headOk hd) := rfl
  obtain ⟨ag, cg, eg⟩ := hg.form
  obtain ⟨ab, cb, eb⟩ := hb.form
  obtain ⟨ah, ch, eh⟩ := ht.form
  subst eh eg eb
  have HB1 : Hid (∀ o : Obj, Below w.heap.size w (w.alloc o)) := fun o => (Below.refl _ w).alloc (Nat.le_refl _) o
  have H67 := k67 hd _ _ (ht.below (HB1.out (.cells #[.slice ah hd.length ch, .slice ag gs.length cg, .slice ab bs.length cb, .int .i64 xn] 66))) h1 hL hW
  clear ht hg hb hW
  generalize headOk hd = r at *
  go_enter Tryz.func55, Tryz.ntmps55
  go_wp2_with fail
  refine H67.mono ?_
  rintro e w1 ⟨rfl, hb1⟩
  go_wp2_with fail
  go_ret
  exact ⟨by rw [HM.out]; rfl, (HB1.out _).trans (hb1.mono (HB1.out _).size)⟩
set_option maxRecDepth 100000 in
theorem k68_nil (c : Cl) (x : ClV) (w : World) (h : ClAt w x c) (hG : c.gs = []) :
    Calls Tryz.prog 57 #[.agg #[x.hv, x.gv, x.bv, .int .i64 x.n]] w fun e w' => e = .returned (.bool false) ∧ Below w.heap.size w w' := by
  obtain ⟨hd, gs, bs, n⟩ := c
  obtain ⟨hv, gv, bv, xn⟩ := x
  obtain ⟨ht, hg, hb, hn⟩ := h
  simp only at ht hg hb hn hG
  subst hn hG
  obtain ⟨ag, cg, eg⟩ := hg.form
  obtain ⟨ab, cb, eb⟩ := hb.form
  obtain ⟨ah, ch, eh⟩ := ht.form
  subst eh eg eb
  have HB1 : Hid (∀ o : Obj, Below w.heap.size w (w.alloc o)) := fun o => (Below.refl _ w).alloc (Nat.le_refl _) o
  have H69 := k69 59 #[.pointer (some ⟨w.heap.size, 0, none⟩)] (enters_of Tryz.func59 (by kernel_rfl) rfl) (fun _ => false) [] _ _ (hg.below (HB1.out (.cells #[.slice ah hd.length ch, .slice ag ([] : List (List C)).length cg, .slice ab bs.length cb, .int .i64 xn] 66))) (by simp) (fun _ _ l _ hm => by simp at hm)
  clear ht hg hb
  simp only [List.length_nil, List.any_nil] at *
  go_enter Tryz.func57, Tryz.ntmps57
  go_wp2_with fail
  refine H69.mono ?_
  rintro e w1 ⟨rfl, hb1⟩
  go_wp2_with fail
  go_ret
  exact ⟨rfl, (HB1.out _).trans (hb1.mono (HB1.out _).size)⟩
set_option maxRecDepth 100000 in
theorem k73 (l : List C) (v : Value) (w : World) (h : TermAt w v l) (hS : Signs w) :
    Calls Tryz.prog 62 #[v] w fun e w' => e = .returned (.bool (!isGoalS l)) ∧ Below w.heap.size w w' := by
  have H12 := k12 l v w h hS
  obtain ⟨ah, ch, eh⟩ := h.form
  subst eh
  clear h hS
  generalize isGoalS l = r at *
  go_enter Tryz.func62, Tryz.ntmps62
  go_wp2_with fail
  refine H12.mono ?_
  rintro e w1 ⟨rfl, hb1⟩
  go_wp2_with fail
  go_ret
  exact ⟨rfl, hb1⟩
def step4 (c : Cl) : Bool := c.bs.any fun l => !isGoalS l
set_option maxRecDepth 100000 in
theorem k72 (c : Cl) (x : ClV) (w : World) (h : ClAt w x c) (hS : Signs w) (hbl : c.bs.length ≤ 5864062014805) :
    Calls Tryz.prog 61 #[.agg #[x.hv, x.gv, x.bv, .int .i64 x.n]] w fun e w' => e = .returned (.bool (step4 c)) ∧ Below w.heap.size w w' := by
  obtain ⟨hd, gs, bs, n⟩ := c
  obtain ⟨hv, gv, bv, xn⟩ := x
  obtain ⟨ht, hg, hb, hn⟩ := h
  simp only at ht hg hb hn hbl
  subst hn
  have HM : Hid (step4 ⟨hd, gs, bs, xn⟩ = bs.any fun l => !isGoalS l) := rfl
  obtain ⟨ag, cg, eg⟩ := hg.form
  obtain ⟨ab, cb, eb⟩ := hb.form
  obtain ⟨ah, ch, eh⟩ := ht.form
  subst eh eg eb
  have HB1 : Hid (∀ o : Obj, Below w.heap.size w (w.alloc o)) := fun o => (Below.refl _ w).alloc (Nat.le_refl _) o
  have H69 := k69 62 #[] (enters_of Tryz.func62 (by kernel_rfl) rfl) (fun l => !isGoalS l) bs _ _ (hb.below (HB1.out (.cells #[.slice ah hd.length ch, .slice ag gs.length cg, .slice ab bs.length cb, .int .i64 xn] 66))) hbl (fun W y l hW _ hT => k73 l y W hT (hS.below ((HB1.out _).trans (hW.mono (HB1.out _).size))))
  clear ht hg hb hS
  generalize (bs.any fun l => !isGoalS l) = r at *
  go_enter Tryz.func61, Tryz.ntmps61
  go_wp2_with fail
  refine H69.mono ?_
  rintro e w1 ⟨rfl, hb1⟩
  go_wp2_with fail
  go_ret
  exact ⟨by rw [HM.out]; rfl, (HB1.out _).trans (hb1.mono (HB1.out _).size)⟩
def noneG (cs : List Cl) (x : Pd) : Bool := ((idxG cs x cs.length).length : Int) == 0
set_option maxRecDepth 100000 in
theorem k76 (cs : List Cl) (x : Pd) (M B : Nat) (D : DataW Unit) (w : World) (hx : wfP x) (hc : cs.length ≤ 1759218604441) (hG : w.ownsGroups (H := Unit) Tryz.prog 61 (M + 1) 3 .i64 M cs.length D) (hD : GrpOf D cs cs.length) (hB : w.cell? ⟨B, 0, none⟩ = some (.map (some M))) (hBl : B < w.heap.size) :
    Calls Tryz.prog 65 #[.agg #[.string x.1, .int .i64 x.2], .pointer (some ⟨B, 0, none⟩)] w fun e w' => e = .returned (.bool (noneG cs x)) ∧ Below w.heap.size w w' := by
  have HB1 : Hid (∀ o : Obj, Below w.heap.size w (w.alloc o)) := fun o => (Below.refl _ w).alloc (Nat.le_refl _) o
  have hG1 := groups_below hG (HB1.out (.cells #[.string x.1, .int .i64 x.2] 61))
  have hBa : ∀ o : Obj, (w.alloc o).cell? ⟨B, 0, none⟩ = some (.map (some M)) := fun o => cell_alloc hBl hB
  obtain ⟨v, zs, hrun, hat, hoi, hzl, _⟩ := hG1.at keyed40 Tryz.underlying85 (zero44 _) (by unfold maxLen; omega) (key40 x hx)
  have hzs : zs = idxG cs x cs.length := rowG_inv hoi ((hD.2 x hx).symm.trans hat)
  have HM : Hid (noneG cs x = (((zs.length : Nat) : Int) == 0)) := by show noneG cs x = _; rw [hzs]; rfl
  have hv : ∃ ad cp, v = .slice ad zs.length cp := by
    rcases hoi.1.2 with ⟨h1, h2⟩ | ⟨g, c, cur, h1, _⟩
    · exact ⟨none, 0, by rw [h1, h2]⟩
    · exact ⟨_, _, h1⟩
  obtain ⟨ad, cp, hv⟩ := hv
  subst hv
  unfold Pd.val at hrun
  clear hoi hat hG hG1 hD hzs hB
  generalize zs.length = m at *
  go_enter Tryz.func65, Tryz.ntmps65
  go_wp2_with fail
  go_ret
  exact ⟨by rw [HM.out]; rfl, HB1.out _⟩
def step5 (cs : List Cl) (c : Cl) : Bool := (calledS c.bs).any (noneG cs)
theorem calledS_len (ls : List (List C)) : (calledS ls).length ≤ ls.length := by
  unfold calledS predsOf
  refine Nat.le_trans (foldP_len _ _) ?_
  rw [List.length_map]
  have := List.length_filter_le callB ls
  simp; exact this
set_option maxRecDepth 100000 in
theorem k74 (cs : List Cl) (c : Cl) (x : ClV) (w : World) (h : ClAt w x c) (hS : Signs w) (hbl : c.bs.length ≤ 5864062014805) (hW : ∀ y ∈ calledS c.bs, wfP y) (M B : Nat) (D : DataW Unit) (hc : cs.length ≤ 1759218604441) (hG : w.ownsGroups (H := Unit) Tryz.prog 61 (M + 1) 3 .i64 M cs.length D) (hD : GrpOf D cs cs.length) (hB : w.cell? ⟨B, 0, none⟩ = some (.map (some M))) (hBl : B < w.heap.size) :
    Calls Tryz.prog 63 #[.agg #[x.hv, x.gv, x.bv, .int .i64 x.n], .pointer (some ⟨B, 0, none⟩)] w fun e w' => e = .returned (.bool (step5 cs c)) ∧ Below w.heap.size w w' := by
  obtain ⟨hd, gs, bs, n⟩ := c
  obtain ⟨hv, gv, bv, xn⟩ := x
  obtain ⟨ht, hg, hb, hn⟩ := h
  simp only at ht hg hb hn hbl hW
  subst hn
  have HM : Hid (step5 cs ⟨hd, gs, bs, xn⟩ = (calledS bs).any (noneG cs)) := rfl
  obtain ⟨ag, cg, eg⟩ := hg.form
  obtain ⟨ab, cb, eb⟩ := hb.form
  obtain ⟨ah, ch, eh⟩ := ht.form
  subst eh eg eb
  have HB1 : Hid (∀ o : Obj, Below w.heap.size w (w.alloc o)) := fun o => (Below.refl _ w).alloc (Nat.le_refl _) o
  have H38 := k38 bs _ _ (hb.below (HB1.out (.cells #[.slice ah hd.length ch, .slice ag gs.length cg, .slice ab bs.length cb, .int .i64 xn] 66))) (hS.below (HB1.out _)) hbl
  have H75 : Hid (∀ W u, Below w.heap.size w W → PredsAt W u (calledS bs) → Calls Tryz.prog 64 #[u, .func (.func 65) #[] #[.pointer (some ⟨B, 0, none⟩)]] W fun e w' => e = .returned (.bool ((calledS bs).any (noneG cs))) ∧ Below W.heap.size W w') := fun W u hb hP => by
    refine k75 65 #[.pointer (some ⟨B, 0, none⟩)] (enters_of Tryz.func65 (by kernel_rfl) rfl) (noneG cs) _ u W hP (by have := calledS_len bs; omega) ?_
    intro W2 y hb2 hy
    have hb3 := hb.trans (hb2.mono hb.size)
    exact k76 cs y M B D W2 (hW y hy) hc (groups_below hG hb3) hD ((hb3.cell (p := ⟨B, 0, none⟩) hBl).trans hB) (Nat.lt_of_lt_of_le hBl hb3.size)
  have HL : Hid ((calledS bs).length ≤ 5864062014805) := Nat.le_trans (calledS_len bs) hbl
  clear ht hg hb hS hG hD hW
  generalize (calledS bs).any (noneG cs) = r at *
  go_enter Tryz.func63, Tryz.ntmps63
  go_wp2_with fail
  refine H38.mono ?_
  rintro e w1 ⟨u, rfl, hO, hb1⟩
  have hb1' := (HB1.out _).trans (hb1.mono (HB1.out _).size)
  have hP := predsAt_of_owns hO (by unfold maxLen; have := HL.out; omega)
  have H75' := H75.out w1 u hb1' hP
  obtain ⟨ad, cp, hu⟩ := hP.form
  subst hu
  clear hP hO
  go_wp2_with fail
  refine H75'.mono ?_
  rintro e w2 ⟨rfl, hb2⟩
  go_wp2_with fail
  go_ret
  exact ⟨by rw [HM.out]; rfl, hb1'.trans (hb2.mono hb1'.size)⟩
end Go.Proofs.YtgknheafkkkjcaaGreatDoor
namespace Go.Proofs.YtgknheafkkkjcaaGreatDoor
open Go.RowKit
def stepVals (B Hb : Nat) : List Value := [.int .i64 5, .func (.func 52) #[] #[.pointer (some ⟨B, 0, none⟩)], .int .i64 6, .func (.func 54) #[] #[], .int .i64 40, .func (.func 55) #[] #[], .int .i64 41, .func (.func 57) #[] #[], .int .i64 42, .func (.func 61) #[] #[], .int .i64 43, .func (.func 63) #[] #[.pointer (some ⟨Hb, 0, none⟩)]]
/-- What steps leaves in memory: the row of steps, the program's box, the map of heads and its box. -/
structure StepsAt (w : World) (cs : List Cl) (v : Value) (B Hb SB M : Nat) (D : DataW Unit) : Prop where
  row : w.rangeAt SB 0 (stepVals B Hb)
  rowLt : SB < w.heap.size
  box : w.cell? ⟨B, 0, none⟩ = some v
  boxLt : B < w.heap.size
  hds : w.cell? ⟨Hb, 0, none⟩ = some (.map (some M))
  hdsLt : Hb < w.heap.size
  grp : w.ownsGroups (H := Unit) Tryz.prog 61 (M + 1) 3 .i64 M cs.length D
  isG : GrpOf D cs cs.length
theorem StepsAt.below {w w' : World} {cs : List Cl} {v : Value} {B Hb SB M : Nat} {D : DataW Unit} (h : StepsAt w cs v B Hb SB M D) (hb : Below w.heap.size w w') : StepsAt w' cs v B Hb SB M D :=
  ⟨range_below h.row h.rowLt hb, Nat.lt_of_lt_of_le h.rowLt hb.size, (hb.cell (p := ⟨B, 0, none⟩) h.boxLt).trans h.box, Nat.lt_of_lt_of_le h.boxLt hb.size, (hb.cell (p := ⟨Hb, 0, none⟩) h.hdsLt).trans h.hds, Nat.lt_of_lt_of_le h.hdsLt hb.size, groups_below h.grp hb, h.isG⟩
set_option maxRecDepth 100000 in
set_option maxHeartbeats 2000000 in
theorem k53 (cs : List Cl) (v : Value) (w : World) (hP : ProgAt w v cs) (hl : cs.length ≤ 1759218604441) (hW : ∀ c ∈ cs, hasNameS c.hd = true → wfP (predS c.hd)) :
    Calls Tryz.prog 29 #[v] w fun e w' => ∃ B Hb SB M D, e = .returned (.slice (some ⟨SB, 0, none⟩) 6 6) ∧ StepsAt w' cs v B Hb SB M D ∧ Below w.heap.size w w' := by
  have HB1 : Hid (∀ o : Obj, Below w.heap.size w (w.alloc o)) := fun o => (Below.refl _ w).alloc (Nat.le_refl _) o
  have H40 := k40 cs v (w.alloc (.cells #[v] 23)) (hP.below (HB1.out _)) hl hW
  have hbox : ∀ W, Below (w.alloc (.cells #[v] 23)).heap.size (w.alloc (.cells #[v] 23)) W → W.cell? ⟨w.heap.size, 0, none⟩ = some v := fun W hW => by
    rw [hW.cell (by simp), cell_of_row _ w.heap.size 0 _ 23 (0, 0) (heap_alloc_new w _)]; rfl
  have HBox : Hid (∀ W, Below (w.alloc (.cells #[v] 23)).heap.size (w.alloc (.cells #[v] 23)) W → W.cell? ⟨w.heap.size, 0, none⟩ = some v) := hbox
  obtain ⟨ad, cap, hv⟩ := hP.form
  subst hv
  clear hbox hP hW
  go_enter Tryz.func29, Tryz.ntmps29
  go_wp2_with fail
  refine H40.mono ?_
  rintro e w1 ⟨rfl, ⟨D, hG, hD⟩, hb1⟩
  have hb1' := (HB1.out _).trans (hb1.mono (HB1.out _).size)
  rw [World.size_alloc] at hG
  have hs1 : w.heap.size + 1 ≤ w1.heap.size := by have := hb1.size; simpa using this
  have HE : Hid (∀ W, W = (w1.alloc (.cells #[.map (some (w.heap.size + 1))] 85)).alloc (.cells (stepVals w.heap.size w1.heap.size).toArray 72) → StepsAt W cs (.slice ad cs.length cap) w.heap.size w1.heap.size (w1.heap.size + 1) (w.heap.size + 1) D ∧ Below w.heap.size w W) := by
    rintro W rfl
    have b1 : Below w1.heap.size w1 (w1.alloc (.cells #[.map (some (w.heap.size + 1))] 85)) := (Below.refl _ w1).alloc (Nat.le_refl _) _
    have b2 : Below (w1.alloc (.cells #[.map (some (w.heap.size + 1))] 85)).heap.size (w1.alloc (.cells #[.map (some (w.heap.size + 1))] 85)) ((w1.alloc (.cells #[.map (some (w.heap.size + 1))] 85)).alloc (.cells (stepVals w.heap.size w1.heap.size).toArray 72)) := (Below.refl _ _).alloc (Nat.le_refl _) _
    have b12 := b1.trans (b2.mono b1.size)
    refine ⟨⟨?_, by simp, ?_, by simp; omega, ?_, by simp; omega, groups_below hG b12, hD⟩, hb1'.trans (b12.mono hb1'.size)⟩
    · have := range_new (w1.alloc (.cells #[.map (some (w.heap.size + 1))] 85)) (stepVals w.heap.size w1.heap.size) 72
      simpa using this
    · exact HBox.out _ (hb1.trans (b12.mono hb1.size))
    · rw [b2.cell (by simp), cell_of_row _ w1.heap.size 0 _ 85 (0, 0) (heap_alloc_new w1 _)]; rfl
  clear hG hD H40 HBox
  go_wp2_with fail
  go_ret
  obtain ⟨h1, h2⟩ := HE.out _ rfl
  exact ⟨_, _, _, _, D, rfl, h1, h2⟩
end Go.Proofs.YtgknheafkkkjcaaGreatDoor
