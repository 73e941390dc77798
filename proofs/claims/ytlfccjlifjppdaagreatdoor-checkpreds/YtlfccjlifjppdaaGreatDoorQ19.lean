/- Contracts of IndexFunc and ContainsFunc over rows of names and of predicates. Contracts of tooLong and isHead. Contract of isHead. Contracts of misformed and its closures. Contract of misformed. A map of rows of numbers: an entry that is looked up for an append, and stored again. -/
import Derived.Test.YtlfccjlifjppdaaGreatDoorQ18
import Derived.Test.YtlfccjlifjppdaaGreatDoorQ13
import Derived.Deep.RegionWith
import Derived.Maps.OwnRows
import Derived.WideKeyEntry
namespace Go.Proofs.YtlfccjlifjppdaaGreatDoor
open Go.RowKit
section
variable {α : Type}
def idxA (p : α → Bool) (ls : List α) : Int := match ls.findIdx? p with | some i => (i : Int) | none => -1
def noneA (p : α → Bool) (ls : List α) (k : Nat) : Prop := ∀ j (h : j < ls.length), j < k → p ls[j] = false
theorem idxA_at (p : α → Bool) (ls : List α) (k : Nat) (hk : k < ls.length) (h : noneA p ls k) (hp : p ls[k] = true) : idxA p ls = (k : Int) := by
  unfold idxA
  have : ls.findIdx? p = some k := by
    rw [List.findIdx?_eq_some_iff_getElem]
    exact ⟨hk, hp, fun j hj => by simp [h j (by omega) hj]⟩
  rw [this]
theorem idxA_none (p : α → Bool) (ls : List α) (h : noneA p ls ls.length) : idxA p ls = -1 := by
  unfold idxA
  have : ls.findIdx? p = none := by
    rw [List.findIdx?_eq_none_iff]
    intro x hx
    obtain ⟨j, hj, rfl⟩ := List.getElem_of_mem hx
    exact h j hj hj
  rw [this]
theorem idxA_any (p : α → Bool) (ls : List α) : decide ((0 : Int) ≤ idxA p ls) = ls.any p := by
  unfold idxA
  cases h : ls.findIdx? p with
  | none =>
    have h' := List.findIdx?_eq_none_iff.1 h
    have : ls.any p = false := by
      rw [List.any_eq_false]
      intro x hx
      simp [h' x hx]
    rw [this]; rfl
  | some i =>
    obtain ⟨hi, hp, _⟩ := List.findIdx?_eq_some_iff_getElem.1 h
    have : ls.any p = true := List.any_eq_true.2 ⟨ls[i], List.getElem_mem hi, hp⟩
    rw [this]; simp
end
/-- A row of predicates in memory. -/
def PredsAt (w : World) (v : Value) (l : List Pd) : Prop :=
  l.length ≤ maxLen ∧ ((l = [] ∧ ∃ ad : Option Addr, v = .slice ad 0 0) ∨ ∃ b o cap : Nat, v = .slice (some ⟨b, o, none⟩) l.length cap ∧ w.rangeAt b o (flatP l) ∧ b < w.heap.size)
theorem PredsAt.below {w w' : World} {v : Value} {l : List Pd} (h : PredsAt w v l) (hb : Below w.heap.size w w') : PredsAt w' v l := by
  obtain ⟨h0, h⟩ := h
  refine ⟨h0, ?_⟩
  rcases h with h | ⟨b, o, cap, h1, h3, h4⟩
  · exact Or.inl h
  · exact Or.inr ⟨b, o, cap, h1, range_below h3 h4 hb, Nat.lt_of_lt_of_le h4 hb.size⟩
theorem PredsAt.form {w : World} {v : Value} {l : List Pd} (h : PredsAt w v l) : ∃ (ad : Option Addr) (cap : Nat), v = .slice ad l.length cap := by
  rcases h.2 with ⟨rfl, ad, rfl⟩ | ⟨b, o, cap, rfl, _⟩
  · exact ⟨ad, 0, rfl⟩
  · exact ⟨_, _, rfl⟩
theorem predsAt_of_owns {w : World} {base : Nat} {v : Value} {l : List Pd} (h : w.ownsRow base 61 2 v l.length (flatP l)) (hl : l.length ≤ maxLen) : PredsAt w v l := by
  refine ⟨hl, ?_⟩
  rcases h.2 with ⟨h1, h2⟩ | ⟨g, cap, cur, h1, h2, h3, h4, h5, h6, h7⟩
  · exact Or.inl ⟨List.eq_nil_of_length_eq_zero h2, none, h1⟩
  · exact Or.inr ⟨g, 0, cap, h1, range_of_owns h3 h7, (Array.getElem?_eq_some_iff.1 h3).1⟩
theorem names_at {w : World} {v : Value} {l : List Nm} (h : NamesAt w v l) (i : Nat) (hi : i < l.length) : ∃ b o cap, v = .slice (some ⟨b, o, none⟩) l.length cap ∧ w.cell? ⟨b, o + i * 2, none⟩ = some (.int .i64 l[i].1) ∧ w.cell? ⟨b, o + i * 2 + 1, none⟩ = some (.int .i64 l[i].2) := by
  rcases h.2 with ⟨rfl, _⟩ | ⟨b, o, cap, h1, h3, h4⟩
  · simp at hi
  · exact ⟨b, o, cap, h1, name_cells h3 i hi⟩
theorem preds_at {w : World} {v : Value} {l : List Pd} (h : PredsAt w v l) (i : Nat) (hi : i < l.length) : ∃ b o cap, v = .slice (some ⟨b, o, none⟩) l.length cap ∧ w.cell? ⟨b, o + i * 2, none⟩ = some (.string l[i].1) ∧ w.cell? ⟨b, o + i * 2 + 1, none⟩ = some (.int .i64 l[i].2) := by
  rcases h.2 with ⟨rfl, _⟩ | ⟨b, o, cap, h1, h3, h4⟩
  · simp at hi
  · exact ⟨b, o, cap, h1, pred_cells h3 i hi⟩
set_option maxRecDepth 100000 in
set_option maxHeartbeats 1000000 in
theorem k101 (g : Nat) (lb : Array Value) (eg : ∀ args w, (callFunc g args).run Tryz.prog w = .ok (.enter g args) w) (p : Nm → Bool) (ls : List Nm) (v : Value) (w : World) (hR : NamesAt w v ls) (hl : ls.length ≤ 5864062014805)
    (hp : ∀ W x, Below w.heap.size w W → x ∈ ls → Calls Tryz.prog g (#[.agg #[.int .i64 x.1, .int .i64 x.2]] ++ lb) W fun e w' => e = .returned (.bool (p x)) ∧ Below W.heap.size W w') :
    Calls Tryz.prog 111 #[v, .func (.func g) #[] lb] w fun e w' => e = .returned (.int .i64 (idxA p ls)) ∧ Below w.heap.size w w' := by
  have HRow : Hid (NamesAt w v ls) := hR
  have HP : Hid (∀ W x, Below w.heap.size w W → x ∈ ls → Calls Tryz.prog g (#[.agg #[.int .i64 x.1, .int .i64 x.2]] ++ lb) W fun e w' => e = .returned (.bool (p x)) ∧ Below W.heap.size W w') := hp
  obtain ⟨ad, cap, hv⟩ := hR.form
  subst hv
  clear hR hp
  go_enter Tryz.func111, Tryz.ntmps111
  go_wp2_with fail
  go_loopw [8] (fun i wr => ∃ k : Nat, k ≤ ls.length ∧ i = .int .i64 k ∧ Hid (noneA p ls k) ∧ Below w.heap.size w wr) (fun i _ => ls.length - (intOf i).toNat)
  case atStart => exact ⟨0, by omega, rfl, fun j _ hj => by omega, Below.refl _ _⟩
  case round =>
    obtain ⟨k, hk, rfl, HI, hbr⟩ := hrel
    have hsz := hbr.size
    by_cases hlt : k < ls.length
    · have hlt' : (k : Int) < (ls.length : Int) := by omega
      have hk0 : (0 : Int) ≤ (k : Int) := by omega
      obtain ⟨b, o, cap', hv', hc, hc1⟩ := names_at (HRow.out.below hbr) k hlt
      simp only [Value.slice.injEq] at hv'
      obtain ⟨rfl, _, rfl⟩ := hv'
      have HC := HP.out wr ls[k] hbr (List.getElem_mem hlt)
      cases hq : p ls[k]
      · rw [hq] at HC
        have HN : Hid (noneA p ls (k + 1)) := fun j hj h => if e : j = k then by subst e; exact hq else HI.out j hj (by omega)
        clear hq
        generalize ls[k] = x at *
        go_wp2_with fail
        refine HC.mono ?_
        rintro e w1 ⟨rfl, hb1⟩
        go_wp2_with fail
        go_roundw
        case rel => exact ⟨k + 1, by omega, by go_num, HN, hbr.trans (hb1.mono hsz)⟩
        case measure => simp [intOf]; omega
      · rw [hq] at HC
        have HN : Hid (idxA p ls = (k : Int)) := idxA_at p ls k hlt HI.out hq
        clear hq
        generalize ls[k] = x at *
        go_wp2_with fail
        refine HC.mono ?_
        rintro e w1 ⟨rfl, hb1⟩
        go_wp2_with fail
        go_ret
        exact ⟨by rw [HN.out]; rfl, hbr.trans (hb1.mono hsz)⟩
    · have hlt' : ¬ ((k : Int) < (ls.length : Int)) := by omega
      have HN : Hid (idxA p ls = -1) := idxA_none p ls (fun j hj _ => HI.out j hj (by omega))
      go_wp2_with fail
      go_ret
      exact ⟨by rw [HN.out]; rfl, hbr⟩
set_option maxRecDepth 100000 in
set_option maxHeartbeats 1000000 in
theorem k92 (g : Nat) (lb : Array Value) (eg : ∀ args w, (callFunc g args).run Tryz.prog w = .ok (.enter g args) w) (p : Nm → Bool) (ls : List Nm) (v : Value) (w : World) (hR : NamesAt w v ls) (hl : ls.length ≤ 5864062014805)
    (hp : ∀ W x, Below w.heap.size w W → x ∈ ls → Calls Tryz.prog g (#[.agg #[.int .i64 x.1, .int .i64 x.2]] ++ lb) W fun e w' => e = .returned (.bool (p x)) ∧ Below W.heap.size W w') :
    Calls Tryz.prog 88 #[v, .func (.func g) #[] lb] w fun e w' => e = .returned (.bool (ls.any p)) ∧ Below w.heap.size w w' := by
  have H94 := k101 g lb eg p ls v w hR hl hp
  have HE : Hid (decide ((0 : Int) ≤ idxA p ls) = ls.any p) := idxA_any p ls
  obtain ⟨ad, cap, hv⟩ := hR.form
  subst hv
  clear hR hp eg
  generalize idxA p ls = i at *
  go_enter Tryz.func88, Tryz.ntmps88
  go_wp2_with fail
  refine H94.mono ?_
  rintro e w1 ⟨rfl, hb1⟩
  go_wp2_with fail
  go_ret
  exact ⟨by rw [← HE.out]; rfl, hb1⟩
set_option maxRecDepth 100000 in
set_option maxHeartbeats 1000000 in
theorem k97 (g : Nat) (lb : Array Value) (eg : ∀ args w, (callFunc g args).run Tryz.prog w = .ok (.enter g args) w) (p : Pd → Bool) (ls : List Pd) (v : Value) (w : World) (hR : PredsAt w v ls) (hl : ls.length ≤ 5864062014805)
    (hp : ∀ W x, Below w.heap.size w W → x ∈ ls → Calls Tryz.prog g (#[.agg #[.string x.1, .int .i64 x.2]] ++ lb) W fun e w' => e = .returned (.bool (p x)) ∧ Below W.heap.size W w') :
    Calls Tryz.prog 93 #[v, .func (.func g) #[] lb] w fun e w' => e = .returned (.int .i64 (idxA p ls)) ∧ Below w.heap.size w w' := by
  have HRow : Hid (PredsAt w v ls) := hR
  have HP : Hid (∀ W x, Below w.heap.size w W → x ∈ ls → Calls Tryz.prog g (#[.agg #[.string x.1, .int .i64 x.2]] ++ lb) W fun e w' => e = .returned (.bool (p x)) ∧ Below W.heap.size W w') := hp
  obtain ⟨ad, cap, hv⟩ := hR.form
  subst hv
  clear hR hp
  go_enter Tryz.func93, Tryz.ntmps93
  go_wp2_with fail
  go_loopw [8] (fun i wr => ∃ k : Nat, k ≤ ls.length ∧ i = .int .i64 k ∧ Hid (noneA p ls k) ∧ Below w.heap.size w wr) (fun i _ => ls.length - (intOf i).toNat)
  case atStart => exact ⟨0, by omega, rfl, fun j _ hj => by omega, Below.refl _ _⟩
  case round =>
    obtain ⟨k, hk, rfl, HI, hbr⟩ := hrel
    have hsz := hbr.size
    by_cases hlt : k < ls.length
    · have hlt' : (k : Int) < (ls.length : Int) := by omega
      have hk0 : (0 : Int) ≤ (k : Int) := by omega
      obtain ⟨b, o, cap', hv', hc, hc1⟩ := preds_at (HRow.out.below hbr) k hlt
      simp only [Value.slice.injEq] at hv'
      obtain ⟨rfl, _, rfl⟩ := hv'
      have HC := HP.out wr ls[k] hbr (List.getElem_mem hlt)
      cases hq : p ls[k]
      · rw [hq] at HC
        have HN : Hid (noneA p ls (k + 1)) := fun j hj h => if e : j = k then by subst e; exact hq else HI.out j hj (by omega)
        clear hq
        generalize ls[k] = x at *
        go_wp2_with fail
        refine HC.mono ?_
        rintro e w1 ⟨rfl, hb1⟩
        go_wp2_with fail
        go_roundw
        case rel => exact ⟨k + 1, by omega, by go_num, HN, hbr.trans (hb1.mono hsz)⟩
        case measure => simp [intOf]; omega
      · rw [hq] at HC
        have HN : Hid (idxA p ls = (k : Int)) := idxA_at p ls k hlt HI.out hq
        clear hq
        generalize ls[k] = x at *
        go_wp2_with fail
        refine HC.mono ?_
        rintro e w1 ⟨rfl, hb1⟩
        go_wp2_with fail
        go_ret
        exact ⟨by rw [HN.out]; rfl, hbr.trans (hb1.mono hsz)⟩
    · have hlt' : ¬ ((k : Int) < (ls.length : Int)) := by omega
      have HN : Hid (idxA p ls = -1) := idxA_none p ls (fun j hj _ => HI.out j hj (by omega))
      go_wp2_with fail
      go_ret
      exact ⟨by rw [HN.out]; rfl, hbr⟩
set_option maxRecDepth 100000 in
set_option maxHeartbeats 1000000 in
theorem k75 (g : Nat) (lb : Array Value) (eg : ∀ args w, (callFunc g args).run Tryz.prog w = .ok (.enter g args) w) (p : Pd → Bool) (ls : List Pd) (v : Value) (w : World) (hR : PredsAt w v ls) (hl : ls.length ≤ 5864062014805)
    (hp : ∀ W x, Below w.heap.size w W → x ∈ ls → Calls Tryz.prog g (#[.agg #[.string x.1, .int .i64 x.2]] ++ lb) W fun e w' => e = .returned (.bool (p x)) ∧ Below W.heap.size W w') :
    Calls Tryz.prog 64 #[v, .func (.func g) #[] lb] w fun e w' => e = .returned (.bool (ls.any p)) ∧ Below w.heap.size w w' := by
  have H94 := k97 g lb eg p ls v w hR hl hp
  have HE : Hid (decide ((0 : Int) ≤ idxA p ls) = ls.any p) := idxA_any p ls
  obtain ⟨ad, cap, hv⟩ := hR.form
  subst hv
  clear hR hp eg
  generalize idxA p ls = i at *
  go_enter Tryz.func64, Tryz.ntmps64
  go_wp2_with fail
  refine H94.mono ?_
  rintro e w1 ⟨rfl, hb1⟩
  go_wp2_with fail
  go_ret
  exact ⟨by rw [← HE.out]; rfl, hb1⟩
end Go.Proofs.YtlfccjlifjppdaaGreatDoor
namespace Go.Proofs.YtlfccjlifjppdaaGreatDoor
open Go.RowKit
def longS (g b : Nat) (n : Int) : Bool := decide ((4 : Int) < (g : Int)) || decide ((8 : Int) < (b : Int)) || decide ((16 : Int) < n)
set_option maxRecDepth 100000 in
theorem k64 (hv : Value) (ga ba : Option Addr) (g gc b bc : Nat) (n : Int) (w : World) (_h1 : hv.oneCell' = true) :
    Calls Tryz.prog 53 #[.agg #[hv, .slice ga g gc, .slice ba b bc, .int .i64 n]] w fun e w' => e = .returned (.bool (longS g b n)) ∧ Below w.heap.size w w' := by
  have HL : Hid (longS g b n = (decide ((4 : Int) < (g : Int)) || decide ((8 : Int) < (b : Int)) || decide ((16 : Int) < n))) := rfl
  by_cases g4 : (4 : Int) < (g : Int)
  · rw [decide_eq_true g4] at HL
    go_enter Tryz.func53, Tryz.ntmps53
    go_wp2_with fail
    go_ret
    exact ⟨by rw [HL.out]; rfl, (Below.refl _ _).alloc (Nat.le_refl _) _⟩
  · rw [decide_eq_false g4] at HL
    by_cases b8 : (8 : Int) < (b : Int)
    · rw [decide_eq_true b8] at HL
      go_enter Tryz.func53, Tryz.ntmps53
      go_wp2_with fail
      go_ret
      exact ⟨by rw [HL.out]; rfl, (Below.refl _ _).alloc (Nat.le_refl _) _⟩
    · rw [decide_eq_false b8] at HL
      go_enter Tryz.func53, Tryz.ntmps53
      go_wp2_with fail
      go_ret
      exact ⟨by rw [HL.out]; simp, (Below.refl _ _).alloc (Nat.le_refl _) _⟩
end Go.Proofs.YtlfccjlifjppdaaGreatDoor
namespace Go.Proofs.YtlfccjlifjppdaaGreatDoor
open Go.RowKit
attribute [local go_sem ↓] Go.wp_at_zero Go.wp_at_succ
def headOk (l : List C) : Bool := hasNameS l && !isTrueS l && decide ((nubN (varsOf l)).length = (varsOf l).length)
theorem varsAll_one (l : List C) : varsAll [l] = varsOf l := by simp [varsAll]
set_option maxRecDepth 100000 in
set_option maxHeartbeats 2000000 in
theorem k67 (l : List C) (v : Value) (w : World) (h : TermAt w v l) (h1 : 0 < l.length) (hL : l.length ≤ 256) (hW : ∀ x ∈ varsOf l, wfN x) :
    Calls Tryz.prog 56 #[v] w fun e w' => e = .returned (.bool (headOk l)) ∧ Below w.heap.size w w' := by
  have HT : Hid (TermAt w v l) := h
  have H50 := fun W (hW : Below w.heap.size w W) => k50 l v W (HT.out.below hW)
  have H29 := fun W (hW : Below w.heap.size w W) => k29 l v W (HT.out.below hW)
  have HV : Hid ((varsOf l).length ≤ 256) := by
    show (varsOf l).length ≤ 256
    unfold varsOf
    rw [List.length_map]
    exact Nat.le_trans (List.length_filter_le _ _) hL
  have H93 : Hid (∀ W, Below w.heap.size w W → Calls Tryz.prog 89 #[.slice (some ⟨W.heap.size, 0, none⟩) 1 1] (W.alloc (.cells #[v] 64)) fun e w' => ∃ u, e = .returned u ∧ OwnN w' (W.alloc (.cells #[v] 64)).heap.size u (nubN (varsOf l)) ∧ Below (W.alloc (.cells #[v] 64)).heap.size (W.alloc (.cells #[v] 64)) w') := fun W hb => by
    have H := c34 [l] _ _ (row_one W v l (HT.out.below hb)) (by rw [varsAll_one]; have := HV.out; omega) (by rw [varsAll_one]; exact hW)
    rw [varsAll_one] at H
    exact H
  have HK : Hid (headOk l = (hasNameS l && !isTrueS l && decide ((nubN (varsOf l)).length = (varsOf l).length))) := rfl
  have HF : Hid (∃ b o cap, v = .slice (some ⟨b, o, none⟩) l.length cap ∧ w.rangeAt b o (flat l) ∧ b < w.heap.size) := by
    rcases h.2 with ⟨rfl, _⟩ | ⟨b, o, cap, hv, _, _, h3, h4⟩
    · simp at h1
    · exact ⟨b, o, cap, hv, h3, h4⟩
  obtain ⟨b, o, cap, rfl, h3, h4⟩ := HF.out
  clear h hW
  go_enter Tryz.func56, Tryz.ntmps56
  go_wp2_with fail
  go_loopw [3, 8] (fun n i wr => ∃ k : Nat, k ≤ l.length ∧ i = .int .i64 k ∧ n = .int .i64 ((varsOf (l.take k)).length : Nat) ∧ Below w.heap.size w wr) (fun _ i _ => l.length - (intOf i).toNat)
  case atStart => exact ⟨0, by omega, rfl, by simp [varsOf], Below.refl _ _⟩
  case round =>
    obtain ⟨k, hk, rfl, rfl, hbr⟩ := hrel
    have hsz := hbr.size
    by_cases hlt : k < l.length
    · have hlt' : (k : Int) < (l.length : Int) := by omega
      have hk0 : (0 : Int) ≤ (k : Int) := by omega
      obtain ⟨p0, p1, p2, p3, p4⟩ := term_cells (range_below h3 h4 hbr) k hlt
      have hv256 : (varsOf (l.take k)).length ≤ 256 := by
        unfold varsOf
        rw [List.length_map]
        exact Nat.le_trans (List.length_filter_le _ _) (by rw [List.length_take]; omega)
      have hba : ∀ ob : Obj, Hid (Below w.heap.size w (wr.alloc ob)) := fun ob => hbr.alloc hsz ob
      cases hq : (l[k].k == 4)
      · have HS : Hid (varsOf (l.take (k + 1)) = varsOf (l.take k)) := varsOf_snoc_no l k hlt hq
        generalize varsOf (l.take k) = vs at *
        go_wp2_with fail
        go_roundw
        case rel => exact ⟨k + 1, by omega, by go_num, by rw [HS.out], (hba _).out⟩
        case measure => simp [intOf]; omega
      · have HS : Hid (varsOf (l.take (k + 1)) = varsOf (l.take k) ++ [(l[k].vn, l[k].vk)]) := varsOf_snoc_yes l k hlt hq
        generalize varsOf (l.take k) = vs at *
        go_wp2_with fail
        go_roundw
        case rel => exact ⟨k + 1, by omega, by go_num, by rw [HS.out]; simp, (hba _).out⟩
        case measure => simp [intOf]; omega
    · have hlt' : ¬ ((k : Int) < (l.length : Int)) := by omega
      have hkl : l.take k = l := List.take_of_length_le (by omega)
      rw [hkl]
      have HVL : Hid ((varsOf l).length ≤ 256) := HV
      clear hlt hkl h3
      have H5 := H50 wr hbr
      generalize hnl : nubN (varsOf l) = nl at *
      generalize hvl : varsOf l = vl at *
      clear hnl hvl HV
      cases hn : hasNameS l
      · rw [hn] at HK H5
        clear H50 H29
        go_wp2_with fail
        refine H5.mono ?_
        rintro e w1 ⟨rfl, hb1⟩
        go_wp2_with fail
        go_ret
        exact ⟨by rw [HK.out]; rfl, hbr.trans (hb1.mono hsz)⟩
      · rw [hn] at HK H5
        go_wp2_with fail
        refine H5.mono ?_
        rintro e w1 ⟨rfl, hb1⟩
        have hb1' := hbr.trans (hb1.mono hsz)
        have H2 := H29 w1 hb1'
        clear H50 H29
        cases ht : isTrueS l
        · rw [ht] at HK H2
          go_wp2_with fail
          refine H2.mono ?_
          rintro e w2 ⟨rfl, hb2⟩
          have hb2' := hb1'.trans (hb2.mono hb1'.size)
          have hb3 := hb2'.alloc hb2'.size (.cells #[.slice (some ⟨b, o, none⟩) l.length cap] 64)
          go_wp2_with fail
          refine (H93.out w2 hb2').mono ?_
          rintro e w3 ⟨u, rfl, hO, hb4⟩
          have hform : Hid (∃ ad cp, u = .slice ad nl.length cp) := by
            rcases hO.2 with ⟨h, h0⟩ | ⟨g, c, cur, h, _⟩
            · exact ⟨none, 0, by rw [h, h0]⟩
            · exact ⟨_, _, h⟩
          obtain ⟨ad, cp, hu⟩ := hform.out
          subst hu
          have HE : Hid (decide (nl.length = vl.length) = (((nl.length : Nat) : Int) == ((vl.length : Nat) : Int))) := by
            show decide _ = _
            rw [Bool.eq_iff_iff]; simp; omega
          clear hO
          go_wp2_with fail
          go_ret
          exact ⟨by rw [HK.out, HE.out]; rfl, hb3.trans (hb4.mono hb3.size)⟩
        · rw [ht] at HK H2
          go_wp2_with fail
          refine H2.mono ?_
          rintro e w2 ⟨rfl, hb2⟩
          have hb2' := hb1'.trans (hb2.mono hb1'.size)
          go_wp2_with fail
          go_ret
          exact ⟨by rw [HK.out]; rfl, hb2'⟩
end Go.Proofs.YtlfccjlifjppdaaGreatDoor
namespace Go.Proofs.YtlfccjlifjppdaaGreatDoor
open Go.RowKit
attribute [local go_sem ↓] Go.wp_at_zero Go.wp_at_succ
def foreignS (n : Int) (x : Nm) : Bool := (x.1 != -1) || decide (n ≤ x.2)
set_option maxRecDepth 100000 in
theorem k90 (n : Int) (x : Nm) (B : Nat) (w : World) (hc : w.cell? ⟨B, 3, none⟩ = some (.int .i64 n)) (hB : B < w.heap.size) :
    Calls Tryz.prog 86 #[.agg #[.int .i64 x.1, .int .i64 x.2], .pointer (some ⟨B, 0, none⟩)] w fun e w' => e = .returned (.bool (foreignS n x)) ∧ Below w.heap.size w w' := by
  have HF : Hid (foreignS n x = ((x.1 != -1) || decide (n ≤ x.2))) := rfl
  have hba : ∀ ob : Obj, Hid (Below w.heap.size w (w.alloc ob)) := fun ob => (Below.refl _ w).alloc (Nat.le_refl _) ob
  have hc2 : ∀ ob : Obj, (w.alloc ob).cell? ⟨B, 3, none⟩ = some (.int .i64 n) := fun ob => cell_alloc hB hc
  have hBne : B ≠ w.heap.size := by omega
  obtain ⟨a, b⟩ := x
  simp only at HF
  cases ha : (a != -1)
  · rw [ha] at HF
    go_enter Tryz.func86, Tryz.ntmps86
    go_wp2_with fail
    go_ret
    exact ⟨by rw [HF.out]; simp, (hba _).out⟩
  · rw [ha] at HF
    go_enter Tryz.func86, Tryz.ntmps86
    go_wp2_with fail
    go_ret
    exact ⟨by rw [HF.out]; simp, (hba _).out⟩
def wrongS (n : Int) (l : List C) : Bool := !rightB l || (nubN (varsOf l)).any (foreignS n)
set_option maxRecDepth 100000 in
set_option maxHeartbeats 2000000 in
theorem k91 (n : Int) (l : List C) (v : Value) (B F : Nat) (w : World) (h : TermAt w v l) (hS : Signs w) (hW : ∀ x ∈ varsOf l, wfN x) (hF : w.cell? ⟨F, 0, none⟩ = some (.func (.func 86) #[] #[.pointer (some ⟨B, 0, none⟩)])) (hFl : F < w.heap.size)
    (hc : w.cell? ⟨B, 3, none⟩ = some (.int .i64 n)) (hB : B < w.heap.size) :
    Calls Tryz.prog 87 #[v, .pointer (some ⟨F, 0, none⟩)] w fun e w' => e = .returned (.bool (wrongS n l)) ∧ Below w.heap.size w w' := by
  have HT : Hid (TermAt w v l) := h
  have HS : Hid (Signs w) := hS
  have H24 : Hid (∀ W, Below w.heap.size w W → Calls Tryz.prog 72 #[v] W fun e w' => e = .returned (.bool (rightB l)) ∧ Below W.heap.size W w') := fun W hb => c22 l v W (HT.out.below hb) (HS.out.below hb)
  have HWr : Hid (wrongS n l = (!rightB l || (nubN (varsOf l)).any (foreignS n))) := rfl
  have HCell : Hid (∀ W, Below w.heap.size w W → W.cell? ⟨F, 0, none⟩ = some (.func (.func 86) #[] #[.pointer (some ⟨B, 0, none⟩)])) := fun W hb => (hb.cell (p := ⟨F, 0, none⟩) hFl).trans hF
  have HCB : Hid (∀ W, Below w.heap.size w W → W.cell? ⟨B, 3, none⟩ = some (.int .i64 n) ∧ B < W.heap.size) := fun W hb => ⟨(hb.cell (p := ⟨B, 3, none⟩) hB).trans hc, Nat.lt_of_lt_of_le hB hb.size⟩
  obtain ⟨ad, cap, hv⟩ := h.form
  cases hr : rightB l
  · rw [hr] at HWr H24
    subst hv
    clear h hS hW hc hB hF hFl HCell HCB
    go_enter Tryz.func87, Tryz.ntmps87
    go_wp2_with fail
    first
    | go_region_with (go_at_call 72; refine (H24.out _ (Below.drew (Below.refl _ _))).mono ?_; rintro e w1 ⟨rfl, hb1⟩)
    | fail
    all_goals go_wp2
    all_goals go_ret
    all_goals exact ⟨by rw [HWr.out]; rfl, (Below.drew (Below.refl _ _)).trans hb1⟩
  · rw [hr] at HWr H24
    have hl2 := right_len hr
    have HV : Hid ((varsOf l).length ≤ 256) := by
      show (varsOf l).length ≤ 256
      unfold varsOf
      rw [List.length_map]
      exact Nat.le_trans (List.length_filter_le _ _) hl2.2
    have H93 : Hid (∀ W, Below w.heap.size w W → Calls Tryz.prog 89 #[.slice (some ⟨W.heap.size, 0, none⟩) 1 1] (W.alloc (.cells #[v] 64)) fun e w' => ∃ u, e = .returned u ∧ NamesAt w' u (nubN (varsOf l)) ∧ Below w.heap.size w w') := fun W hb => by
      have H := c34 [l] _ _ (row_one W v l (HT.out.below hb)) (by rw [varsAll_one]; have := HV.out; omega) (by rw [varsAll_one]; exact hW)
      rw [varsAll_one] at H
      refine H.mono ?_
      rintro e w1 ⟨u, rfl, hO, hb1⟩
      have hb2 := hb.alloc hb.size (.cells #[v] 64)
      have hnl : (nubN (varsOf l)).length ≤ 256 := by
        have := HV.out
        have h2 := hO.1
        exact Nat.le_trans (nubN_len _) this
      exact ⟨u, rfl, namesAt_of_owns hO (by unfold maxLen; omega), hb2.trans (hb1.mono hb2.size)⟩
    have H92 : Hid (∀ W u, Below w.heap.size w W → NamesAt W u (nubN (varsOf l)) → Calls Tryz.prog 88 #[u, .func (.func 86) #[] #[.pointer (some ⟨B, 0, none⟩)]] W fun e w' => e = .returned (.bool ((nubN (varsOf l)).any (foreignS n))) ∧ Below W.heap.size W w') := fun W u hb hN => by
      refine k92 86 #[.pointer (some ⟨B, 0, none⟩)] (enters_of Tryz.func86 (by kernel_rfl) rfl) (foreignS n) _ u W hN (by have := HV.out; have := nubN_len (varsOf l); omega) ?_
      intro W2 x hb2 _
      obtain ⟨q1, q2⟩ := HCB.out W2 (hb.trans (hb2.mono hb.size))
      exact k90 n x B W2 q1 q2
    generalize nubN (varsOf l) = vs at *
    generalize vs.any (foreignS n) = r at *
    have hcf : w.drew.cell? ⟨F, 0, none⟩ = some (.func (.func 86) #[] #[.pointer (some ⟨B, 0, none⟩)]) := hF
    subst hv
    clear h hS hW hc hB hF HCB hl2 HV
    go_enter Tryz.func87, Tryz.ntmps87
    go_wp2_with fail
    first
    | go_region_with (first
        | (go_at_call 72; refine (H24.out _ (Below.drew (Below.refl _ _))).mono ?_; rintro e w1 ⟨rfl, hb1⟩; have hb1 := (Below.drew (Below.refl w.heap.size w)).trans hb1; have q1 := HCell.out _ hb1; have q1a := fun ob => HCell.out _ (hb1.alloc hb1.size ob); clear hcf)
        | (go_at_call 89; refine (H93.out _ hb1).mono ?_; rintro e w2 ⟨u, rfl, hN, hb2⟩; have q2 := HCell.out _ hb2; obtain ⟨adu, cu, hu⟩ := hN.form; subst hu)
        | (go_at_call 88; refine (H92.out _ _ hb2 hN).mono ?_; rintro e w3 ⟨rfl, hb3⟩))
    | fail
    all_goals go_wp2
    all_goals go_ret
    all_goals exact ⟨by rw [HWr.out]; rfl, hb2.trans (hb3.mono hb2.size)⟩
end Go.Proofs.YtlfccjlifjppdaaGreatDoor
namespace Go.Proofs.YtlfccjlifjppdaaGreatDoor
open Go.RowKit
def misS (c : Cl) : Bool := decide (c.n < 0) || wrongS c.n c.hd || c.gs.any (wrongS c.n) || c.bs.any (wrongS c.n)
def ClW (c : Cl) : Prop := ∀ l, (l = c.hd ∨ l ∈ c.gs ∨ l ∈ c.bs) → ∀ x ∈ varsOf l, wfN x
set_option maxRecDepth 100000 in
set_option maxHeartbeats 2000000 in
theorem k65 (c : Cl) (x : ClV) (w : World) (h : ClAt w x c) (hS : Signs w) (hW : ClW c) (hgl : c.gs.length ≤ 5864062014805) (hbl : c.bs.length ≤ 5864062014805) :
    Calls Tryz.prog 54 #[.agg #[x.hv, x.gv, x.bv, .int .i64 x.n]] w fun e w' => e = .returned (.bool (misS c)) ∧ Below w.heap.size w w' := by
  obtain ⟨hd, gs, bs, n⟩ := c
  obtain ⟨hv, gv, bv, xn⟩ := x
  obtain ⟨ht, hg, hb, hn⟩ := h
  simp only at ht hg hb hn hgl hbl
  subst hn
  have HM : Hid (misS ⟨hd, gs, bs, xn⟩ = (decide (xn < 0) || wrongS xn hd || gs.any (wrongS xn) || bs.any (wrongS xn))) := rfl
  generalize hW2 : (w.alloc (.cells #[hv, gv, bv, .int .i64 xn] 66)).alloc (.cells #[.func (.func 86) #[] #[.pointer (some ⟨w.heap.size, 0, none⟩)]] 118) = W2
  have hsz : W2.heap.size = w.heap.size + 2 := by rw [← hW2]; simp
  have HB : Hid (Below w.heap.size w W2) := by
    show Below w.heap.size w W2
    rw [← hW2]
    exact ((Below.refl _ w).alloc (Nat.le_refl _) _).alloc (by simp) _
  have hrow : W2.heap[w.heap.size]? = some (.cells #[hv, gv, bv, .int .i64 xn] 66 (0, 0)) := by
    rw [← hW2, heap_alloc_old _ _ (by simp)]; exact heap_alloc_new w _
  have hrowF : W2.heap[w.heap.size + 1]? = some (.cells #[.func (.func 86) #[] #[.pointer (some ⟨w.heap.size, 0, none⟩)]] 118 (0, 0)) := by
    have := heap_alloc_new (w.alloc (.cells #[hv, gv, bv, .int .i64 xn] 66)) (.cells #[.func (.func 86) #[] #[.pointer (some ⟨w.heap.size, 0, none⟩)]] 118)
    rw [hW2] at this
    simpa using this
  have HC : Hid (∀ W, Below W2.heap.size W2 W → W.cell? ⟨w.heap.size, 0, none⟩ = some hv ∧ W.cell? ⟨w.heap.size, 1, none⟩ = some gv ∧ W.cell? ⟨w.heap.size, 2, none⟩ = some bv ∧ W.cell? ⟨w.heap.size, 3, none⟩ = some (.int .i64 xn) ∧ W.cell? ⟨w.heap.size + 1, 0, none⟩ = some (.func (.func 86) #[] #[.pointer (some ⟨w.heap.size, 0, none⟩)])) := fun W hW => by
    have e1 : W.heap[w.heap.size]? = _ := (hW.block w.heap.size (by omega)).trans hrow
    have e2 : W.heap[w.heap.size + 1]? = _ := (hW.block (w.heap.size + 1) (by omega)).trans hrowF
    refine ⟨?_, ?_, ?_, ?_, ?_⟩
    · rw [cell_of_row W _ 0 _ 66 (0, 0) e1]; rfl
    · rw [cell_of_row W _ 1 _ 66 (0, 0) e1]; rfl
    · rw [cell_of_row W _ 2 _ 66 (0, 0) e1]; rfl
    · rw [cell_of_row W _ 3 _ 66 (0, 0) e1]; rfl
    · rw [cell_of_row W _ 0 _ 118 (0, 0) e2]; rfl
  have H91 : Hid (∀ W l v, Below W2.heap.size W2 W → TermAt W v l → (∀ x ∈ varsOf l, wfN x) → Calls Tryz.prog 87 #[v, .pointer (some ⟨w.heap.size + 1, 0, none⟩)] W fun e w' => e = .returned (.bool (wrongS xn l)) ∧ Below W.heap.size W w') := fun W l v hW hT hV => by
    obtain ⟨_, _, _, c3, cF⟩ := HC.out W hW
    have := hW.size
    exact k91 xn l v w.heap.size (w.heap.size + 1) W hT (hS.below (HB.out.trans (hW.mono HB.out.size))) hV cF (by omega) c3 (by omega)
  have H69 : Hid (∀ W ls v, Below W2.heap.size W2 W → RowAt W v ls → ls.length ≤ 5864062014805 → (∀ l ∈ ls, ∀ x ∈ varsOf l, wfN x) → Calls Tryz.prog 58 #[v, .func (.func 87) #[] #[.pointer (some ⟨w.heap.size + 1, 0, none⟩)]] W fun e w' => e = .returned (.bool (ls.any (wrongS xn))) ∧ Below W.heap.size W w') := fun W ls v hW hR hl hV => by
    refine k69 87 #[.pointer (some ⟨w.heap.size + 1, 0, none⟩)] (enters_of Tryz.func87 (by kernel_rfl) rfl) (wrongS xn) ls v W hR hl ?_
    intro W3 y l hb3 hm hT
    exact H91.out W3 l y (hW.trans (hb3.mono hW.size)) hT (hV l hm)
  have HH : Hid (∀ W, Below W2.heap.size W2 W → Calls Tryz.prog 87 #[hv, .pointer (some ⟨w.heap.size + 1, 0, none⟩)] W fun e w' => e = .returned (.bool (wrongS xn hd)) ∧ Below W.heap.size W w') := fun W hW2 => H91.out W hd hv hW2 (ht.below (HB.out.trans (hW2.mono HB.out.size))) (hW hd (.inl rfl))
  have HGs : Hid (∀ W, Below W2.heap.size W2 W → Calls Tryz.prog 58 #[gv, .func (.func 87) #[] #[.pointer (some ⟨w.heap.size + 1, 0, none⟩)]] W fun e w' => e = .returned (.bool (gs.any (wrongS xn))) ∧ Below W.heap.size W w') := fun W hW2 => H69.out W gs gv hW2 (hg.below (HB.out.trans (hW2.mono HB.out.size))) hgl (fun l hl => hW l (.inr (.inl hl)))
  have HBs : Hid (∀ W, Below W2.heap.size W2 W → Calls Tryz.prog 58 #[bv, .func (.func 87) #[] #[.pointer (some ⟨w.heap.size + 1, 0, none⟩)]] W fun e w' => e = .returned (.bool (bs.any (wrongS xn))) ∧ Below W.heap.size W w') := fun W hW2 => H69.out W bs bv hW2 (hb.below (HB.out.trans (hW2.mono HB.out.size))) hbl (fun l hl => hW l (.inr (.inr hl)))
  obtain ⟨ah, ch, eh⟩ := ht.form
  obtain ⟨ag, cg, eg⟩ := hg.form
  obtain ⟨ab, cb, eb⟩ := hb.form
  subst eh eg eb
  clear ht hg hb hS hW H91 H69 hrow hrowF hgl hbl
  generalize wrongS xn hd = b1 at *
  generalize gs.any (wrongS xn) = b2 at *
  generalize bs.any (wrongS xn) = b3 at *
  obtain ⟨z0, z1, z2, z3, zF⟩ := HC.out W2 (Below.refl _ _)
  by_cases hneg : xn < 0
  · rw [decide_eq_true hneg] at HM
    go_enter Tryz.func54, Tryz.ntmps54
    go_wp2_with fail
    go_ret
    exact ⟨by rw [HM.out]; rfl, HB.out⟩
  · rw [decide_eq_false hneg] at HM
    go_enter Tryz.func54, Tryz.ntmps54
    go_wp2_with fail
    refine (HH.out W2 (Below.refl _ _)).mono ?_
    rintro e w1 ⟨rfl, hb1⟩
    obtain ⟨c0, c1, c2, c3, cF⟩ := HC.out w1 hb1
    have HB1 : Hid (Below w.heap.size w w1) := HB.out.trans (hb1.mono HB.out.size)
    cases b1
    · go_wp2_with fail
      refine (HGs.out w1 hb1).mono ?_
      rintro e w3 ⟨rfl, hb3⟩
      have hb3' := hb1.trans (hb3.mono hb1.size)
      obtain ⟨d0, d1, d2, d3, dF⟩ := HC.out w3 hb3'
      have HB3 : Hid (Below w.heap.size w w3) := HB1.out.trans (hb3.mono HB1.out.size)
      cases b2
      · go_wp2_with fail
        refine (HBs.out w3 hb3').mono ?_
        rintro e w4 ⟨rfl, hb4⟩
        go_wp2_with fail
        go_ret
        exact ⟨by rw [HM.out]; rfl, HB3.out.trans (hb4.mono HB3.out.size)⟩
      · go_wp2_with fail
        go_ret
        exact ⟨by rw [HM.out]; rfl, HB3.out⟩
    · go_wp2_with fail
      go_ret
      exact ⟨by rw [HM.out]; rfl, HB1.out⟩
end Go.Proofs.YtlfccjlifjppdaaGreatDoor
namespace Go.Proofs.YtlfccjlifjppdaaGreatDoor
open Go.RowKit Go.Maps Go.WideMaps Go.ChangeMaps Go.WideElems
theorem same_entry {l : List MapEntry} (hp : l.Pairwise (fun x y => x.key ≠ y.key)) {x y : MapEntry} (hx : x ∈ l) (hy : y ∈ l) (h : x.key = y.key) : x = y := by
  induction hp with
  | nil => cases hx
  | cons h1 _ ih =>
    rcases List.mem_cons.1 hx with rfl | hx' <;> rcases List.mem_cons.1 hy with rfl | hy'
    · rfl
    · exact absurd h (h1 _ hy')
    · exact absurd h.symm (h1 _ hx')
    · exact ih hx' hy'
theorem same_place {l : List MapEntry} (hp : l.Pairwise (fun x y => x.key ≠ y.key)) : ∀ {i j : Nat} {x y : MapEntry}, l[i]? = some x → l[j]? = some y → x.key = y.key → i = j := by
  induction hp with
  | nil => intro i j x y hx; simp at hx
  | cons h1 _ ih =>
    intro i j x y hx hy h
    cases i with
    | zero =>
      cases j with
      | zero => rfl
      | succ j =>
        simp at hx hy; subst hx
        exact absurd h (h1 _ (List.mem_of_getElem? hy))
    | succ i =>
      cases j with
      | zero =>
        simp at hx hy; subst hy
        exact absurd h.symm (h1 _ (List.mem_of_getElem? hx))
      | succ j =>
        simp at hx hy
        rw [ih hx hy h]
section
variable {H : Type} {P : Program} {w w1 : World} {t k E : TypeId} {R : Value → Option (DataW H × List MemPlace)} {b : Nat} {es es' : Array MapEntry} {clock clock' : Nat}
theorem block_inj {b : Nat} {o o' o'' : Obj} (hb : w.heap[b]? = some o'') (h : setBlock w b o = setBlock w b o') : o = o' := by
  have hl := (Array.getElem?_eq_some_iff.1 hb).1
  have e : (setBlock w b o).heap[b]? = (setBlock w b o').heap[b]? := by rw [h]
  simpa [setBlock, hl] using e
theorem upd_same (K : KeyLaw P k) (ht : P.underlying t = some (.map k E)) (hb : w.heap[b]? = some (.map es clock)) (hb1 : w1.heap[b]? = some (.map es clock)) (F : WideElems.Fit P k R es clock) {key val : Value} {kl : Lit} (hkey : keyOf P k key = some kl)
    (h : (Instr.mapUpdate t (.map (some b)) key val).run P w = .ok () (setBlock w b (.map es' clock'))) : (Instr.mapUpdate t (.map (some b)) key val).run P w1 = .ok () (setBlock w1 b (.map es' clock')) := by
  have s3 := ((MapKept.stamped_iff es clock).1 F.stamped).2.2
  rcases K.find w hkey es.toList F.keys with ⟨h1, h2⟩ | ⟨j, e0, h1, h2, h3⟩ <;> rcases K.find w1 hkey es.toList F.keys with ⟨g1, g2⟩ | ⟨i, f0, g1, g2, g3⟩
  · have e : (Instr.mapUpdate t (.map (some b)) key val).run P w = .ok () (setBlock w b (.map (es.push ⟨key, val, clock⟩) (clock + 1))) := by
      simp [Instr.mapUpdate, run_underlying ht, MapKept.run_getObj_map hb, K.check w false hkey, h1, MapKept.run_setObj_map _ hb, Result.andThen, setBlock]
    rw [e] at h
    have := block_inj hb (by simpa using h)
    rw [← this]
    simp [Instr.mapUpdate, run_underlying ht, MapKept.run_getObj_map hb1, K.check w1 false hkey, g1, MapKept.run_setObj_map _ hb1, Result.andThen, setBlock]
  · exact absurd g3 (h2 _ (List.mem_of_getElem? g2))
  · exact absurd h3 (g2 _ (List.mem_of_getElem? h2))
  · have hij := same_place s3 h2 g2 (h3.trans g3.symm)
    subst hij
    have hj : es[j]? = some e0 := by simpa using h2
    have e : (Instr.mapUpdate t (.map (some b)) key val).run P w = .ok () (setBlock w b (.map (es.modify j (fun e' => { e' with key := key, val := val })) clock)) := by
      simp [Instr.mapUpdate, run_underlying ht, MapKept.run_getObj_map hb, K.check w false hkey, h1, hj, h3, K.stays w hkey, MapKept.run_setObj_map _ hb, Result.andThen, setBlock]
    rw [e] at h
    have := block_inj hb (by simpa using h)
    rw [← this]
    simp [Instr.mapUpdate, run_underlying ht, MapKept.run_getObj_map hb1, K.check w1 false hkey, g1, hj, h3, K.stays w1 hkey, MapKept.run_setObj_map _ hb1, Result.andThen, setBlock]
theorem set_twice (o o' : Obj) : setBlock (setBlock w b o) b o' = setBlock w b o' := by
  simp [setBlock, Array.setIfInBounds_setIfInBounds]
end
section
variable {H : Type} {P : Program} {w : World} {t k E e : TypeId} {q : IntKind} {base b n : Nat} {D : DataW H}
theorem groups_entry (h : w.ownsGroups P k base e q b n D) (K : Keyed P k) (L : KeyLaw P k) (ht : P.underlying t = some (.map k E)) (hz : ∀ u : World, (zeroValue E).run P u = .ok (.slice none 0 0) u) (hn : n < maxLen) {key : Value} {kl : Lit} (hkey : keyOf P k key = some kl) :
    ∃ v zs st W1, (Instr.mapEntry t (.map (some b)) key).run P w = .ok (.tuple #[v, .int .i64 ((st : Nat) : Int)]) W1 ∧ D.atKey kl .nil = rowDatum q v zs ∧ W1.ownsInts base e q v zs ∧ zs.length ≤ n ∧ w.grownBy W1 (some b) ∧
      ∀ w2 v' zs', W1.grownBy w2 v.ownBlock → w2.ownsInts base e q v' zs' → zs'.length ≤ n + 1 → (v'.ownBlock = v.ownBlock ∨ ∃ g, v'.ownBlock = some g ∧ w.heap.size ≤ g) →
        ∃ w3, (Instr.entryStore t (.map (some b)) (.int .i64 ((st : Nat) : Int)) v').run P w2 = .ok () w3 ∧ w3.ownsGroups P k base e q b (n + 1) (D.put kl (rowDatum q v' zs')) ∧ w2.grownBy w3 (some b) := by
  obtain ⟨v, zs, hrun, hat, hoi, hzl, hback⟩ := h.at K ht (hz w) hn hkey
  obtain ⟨es, clock, hb, F, hs, hD, hbb, hlen, hap⟩ := h
  obtain ⟨v0, st, es1, clock1, he1, hv0, he2⟩ := entry_then_store L ht hz hb F hkey
  have s3 := ((MapKept.stamped_iff es clock).1 F.stamped).2.2
  have hvv : v0 = v := by
    rcases Maps.fit_look false K ht (hz w) hb F hkey with ⟨g1, g2, _⟩ | ⟨e0, y, g1, g2, g3, _⟩
    · rw [hrun] at g1
      obtain rfl : v = .slice none 0 0 := by simpa using g1
      rcases hv0 with ⟨f0, hf, hk, _⟩ | ⟨_, h⟩
      · exact absurd hk (g2 _ hf)
      · exact h
    · rw [hrun] at g3
      obtain rfl : v = e0.val := by simpa using g3
      rcases hv0 with ⟨f0, hf, hk, h⟩ | ⟨h, _⟩
      · rw [h, same_entry s3 hf g1 (hk.trans g2.symm)]
      · exact absurd g2 (h _ g1)
  subst hvv
  have hblt : b < w.heap.size := (Array.getElem?_eq_some_iff.1 hb).1
  have hg1 : w.grownBy (setBlock w b (.map es1 clock1)) (some b) := ⟨rfl, rfl, rfl, by simp [setBlock], fun i _ hi => heap_setBlock_other hb _ (fun e1 => hi (by rw [e1]))⟩
  have hvb : v0.ownBlock ≠ some b := fun e1 => by have := (hoi.1.lt b e1).1; omega
  refine ⟨v0, zs, st, _, he1, hat, hoi.kept hg1 (.inr hvb), hzl, hg1, ?_⟩
  intro w2 v' zs' hg hown' hl' hloc
  have hb1 : (setBlock w b (.map es1 clock1)).heap[b]? = some (.map es1 clock1) := heap_setBlock_same hb _
  have hb2 : w2.heap[b]? = some (.map es1 clock1) := (hg.block b (by simpa [setBlock] using hblt) (fun e1 => hvb e1.symm)).trans hb1
  obtain ⟨es', clock', hr2, hru⟩ := he2 w2 v' hb2
  have hbv : (setBlock w2 b (.map es clock)).heap[b]? = some (.map es clock) := heap_setBlock_same hb2 _
  have hv2 : w2.grownBy (setBlock w2 b (.map es clock)) (some b) := ⟨rfl, rfl, rfl, by simp [setBlock], fun i _ hi => heap_setBlock_other hb2 _ (fun e1 => hi (by rw [e1]))⟩
  have hvg : w.grownBy (setBlock w2 b (.map es clock)) v0.ownBlock := by
    refine ⟨hg.os, hg.tape, hg.output, by have := hg.size; simpa [setBlock] using this, fun i hi hne => ?_⟩
    by_cases hib : i = b
    · subst hib; rw [hbv, hb]
    · rw [heap_setBlock_other hb2 _ hib, hg.block i (by simpa [setBlock] using hi) hne, heap_setBlock_other hb _ hib]
  have hob : v'.ownBlock ≠ some b := fun e1 => by have := (hown'.1.lt b e1).1; omega
  obtain ⟨w3, r1, r2, r3⟩ := hback _ v' zs' hvg (hown'.kept hv2 (.inr hob)) hl' hloc
  have r4 := upd_same L ht hb hbv F hkey hru
  rw [r1] at r4
  obtain rfl : w3 = setBlock (setBlock w2 b (.map es clock)) b (.map es' clock') := by simpa using r4
  rw [set_twice] at r2
  exact ⟨_, hr2, r2, ⟨rfl, rfl, rfl, by simp [setBlock], fun i _ hi => heap_setBlock_other hb2 _ (fun e1 => hi (by rw [e1]))⟩⟩
end
end Go.Proofs.YtlfccjlifjppdaaGreatDoor
