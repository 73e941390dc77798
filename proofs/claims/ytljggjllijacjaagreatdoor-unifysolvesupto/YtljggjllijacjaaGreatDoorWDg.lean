/- Rows of terms in memory, and the contract of allRight. Contract of the library function Concat of rows of terms that are not empty: the cells of all of them, one behind the other. Contract of Make: for every text and row of terms it returns the structure, or its error. -/
import Derived.Test.YtljggjllijacjaaGreatDoorWCg
namespace Go.Proofs.YtljggjllijacjaaGreatDoor
open Go.RowKit
/-- A row of terms in memory. -/
def RowAt (w : World) (v : Value) (ls : List (List C)) : Prop :=
 ls.length ≤ maxLen ∧ ((ls = [] ∧ ∃ ad : Option Addr, v = .slice ad 0 0) ∨ ∃ (b o cap : Nat) (vs : List Value), v = .slice (some ⟨b, o, none⟩) ls.length cap ∧ ls.length ≤ cap ∧ cap ≤ maxLen ∧ b < w.heap.size ∧ vs.length = ls.length ∧ w.rangeAt b o vs ∧ ∀ (i : Nat) (u : Value) (l : List C), vs[i]? = some u → ls[i]? = some l → TermAt w u l)
theorem RowAt.below {w w' : World} {v : Value} {ls : List (List C)} (h : RowAt w v ls) (hb : Below w.heap.size w w') : RowAt w' v ls := by
 obtain ⟨h0, h⟩ := h
 refine ⟨h0, ?_⟩
 rcases h with h | ⟨b, o, cap, vs, h1, h2, h3, h4, h5, h6, h7⟩
 ·exact Or.inl h
 ·exact Or.inr ⟨b, o, cap, vs, h1, h2, h3, Nat.lt_of_lt_of_le h4 hb.size, h5, range_below h6 h4 hb, fun i u l hu hl => (h7 i u l hu hl).below hb⟩
theorem RowAt.form {w : World} {v : Value} {ls : List (List C)} (h : RowAt w v ls) : ∃ (ad : Option Addr) (cap : Nat), v = .slice ad ls.length cap := by
 rcases h.2 with ⟨rfl, ad, rfl⟩ | ⟨b, o, cap, vs, rfl, _⟩
 ·exact ⟨ad, 0, rfl⟩
 ·exact ⟨_, _, rfl⟩
theorem TermAt.form {w : World} {v : Value} {l : List C} (h : TermAt w v l) : ∃ (ad : Option Addr) (cap : Nat), v = .slice ad l.length cap := by
 rcases h.2 with ⟨rfl, ad, rfl⟩ | ⟨b, o, cap, rfl, _⟩
 ·exact ⟨ad, 0, rfl⟩
 ·exact ⟨_, _, rfl⟩
theorem row_cell {w : World} {b o : Nat} {vs : List Value} (h : w.rangeAt b o vs) (k : Nat) (hk : k < vs.length) : w.cell? ⟨b, o + k, none⟩ = some vs[k] :=
 h k _ (List.getElem?_eq_getElem hk)
def allRightB (ls : List (List C)) : Bool := ls.all rightB
theorem rights_snoc (l : List (List C)) (k : Nat) (hk : k < l.length) (h : (l.take k).all rightB = true) (hi : rightB l[k] = true) : (l.take (k + 1)).all rightB = true := by
 rw [List.take_succ_eq_append_getElem hk, List.all_append, h]; simp [hi]
theorem rights_false (l : List (List C)) (k : Nat) (hk : k < l.length) (hi : rightB l[k] = false) : allRightB l = false := by
 unfold allRightB; rw [List.all_eq_false]; exact ⟨l[k], List.getElem_mem _, by simp [hi]⟩
set_option maxHeartbeats 1000000 in
theorem c44_in (ls : List (List C)) (b o cap : Nat) (vs : List Value) (w : World) (hb : b < w.heap.size) (hc : ls.length ≤ maxLen) (hvl : vs.length = ls.length) (hr : w.rangeAt b o vs) (ht : ∀ (i : Nat) (u : Value) (l : List C), vs[i]? = some u → ls[i]? = some l → TermAt w u l) (hS : Signs w) :
  Calls Tryz.prog 98 #[.slice (some ⟨b, o, none⟩) ls.length cap] w fun e w' => e = .returned (.bool (allRightB ls)) ∧ Below w.heap.size w w' := by
 unfold maxLen at hc
 have HR : Hid (w.rangeAt b o vs) := hr
 have HS : Hid (Signs w) := hS
 have HT : Hid (∀ (i : Nat) (u : Value) (l : List C), vs[i]? = some u → ls[i]? = some l → TermAt w u l) := ht
 have HV : Hid (vs.length = ls.length) := hvl
 clear hr hS ht hvl
 go_enter Tryz.func98, Tryz.ntmps98
 go_wp2_with fail
 go_loopw [7] (fun i wr => ∃ k : Nat, k ≤ ls.length ∧ i = .int .i64 k ∧ Hid ((ls.take k).all rightB = true) ∧ Below w.heap.size w wr) (fun i _ => ls.length - (intOf i).toNat)
 case atStart => exact ⟨0, by omega, rfl, rfl, Below.refl _ _⟩
 case round =>
  obtain ⟨k, hk, rfl, hall, hbr⟩ := hrel
  by_cases hlt : k < ls.length
  ·have hlt' : (k : Int) < (ls.length : Int) := by omega
   have hkv : k < vs.length := by rw [HV.out]; exact hlt
   have p0 := row_cell (range_below HR.out hb hbr) k hkv
   have hbz : b < wr.heap.size := Nat.lt_of_lt_of_le hb hbr.size
   have HC : Hid (Calls Tryz.prog 68 #[vs[k]] wr fun e w' => e = .returned (.bool (rightB ls[k])) ∧ Below wr.heap.size wr w') := c22 ls[k] vs[k] wr ((HT.out k _ _ (List.getElem?_eq_getElem hkv) (List.getElem?_eq_getElem hlt)).below hbr) (HS.out.below hbr)
   generalize vs[k] = u at p0 HC
   cases hok : rightB ls[k]
   ·have hF : Hid (allRightB ls = false) := rights_false ls k hlt hok
    rw [hok] at HC
    clear hok
    go_wp2_with fail
    refine HC.out.mono ?_
    rintro e w' ⟨rfl, hb2⟩
    go_wp2_with fail
    go_ret
    exact ⟨by rw [hF.out]; rfl, hbr.trans (hb2.mono hbr.size)⟩
   ·have hT : Hid ((ls.take (k + 1)).all rightB = true) := rights_snoc ls k hlt hall.out hok
    rw [hok] at HC
    clear hok
    go_wp2_with fail
    refine HC.out.mono ?_
    rintro e w' ⟨rfl, hb2⟩
    go_wp2_with fail
    go_roundw
    case rel => exact ⟨k + 1, by omega, by go_num, hT, hbr.trans (hb2.mono hbr.size)⟩
    case measure => simp [intOf]; omega
  ·have hT : Hid (allRightB ls = true) := by
    have h := hall.out; rw [List.take_of_length_le (by omega)] at h; exact h
   have hlt' : ¬ ((k : Int) < (ls.length : Int)) := by omega
   go_wp2_with fail
   go_ret
   exact ⟨by rw [hT.out]; rfl, hbr⟩
set_option maxHeartbeats 1000000 in
theorem c44_nil (ad : Option Addr) (w : World) :
  Calls Tryz.prog 98 #[.slice ad 0 0] w fun e w' => e = .returned (.bool true) ∧ Below w.heap.size w w' := by
 go_enter Tryz.func98, Tryz.ntmps98
 go_wp2_with fail
 refine wp_loop_rounds 1 ?_
 rw [rounds_succ]
 go_wp2_with fail
 go_ret
 exact ⟨rfl, Below.refl _ _⟩
theorem c44 (ls : List (List C)) (v : Value) (w : World) (h : RowAt w v ls) (hS : Signs w) :
  Calls Tryz.prog 98 #[v] w fun e w' => e = .returned (.bool (allRightB ls)) ∧ Below w.heap.size w w' := by
 obtain ⟨hc, h⟩ := h
 rcases h with ⟨rfl, ad, rfl⟩ | ⟨b, o, cap, vs, rfl, h2, h3, h4, h5, h6, h7⟩
 ·exact c44_nil ad w
 ·exact c44_in ls b o cap vs w h4 hc h5 h6 h7 hS
end Go.Proofs.YtljggjllijacjaaGreatDoor

namespace Go.Proofs.YtljggjllijacjaaGreatDoor
open Go.RowKit
def tot (ls : List (List C)) : Nat := (ls.map List.length).sum
theorem tot_snoc (ls : List (List C)) (k : Nat) (hk : k < ls.length) : tot (ls.take (k + 1)) = tot (ls.take k) + ls[k].length := by
 unfold tot
 rw [List.take_succ_eq_append_getElem hk, List.map_append, List.sum_append]; simp
theorem tot_le (ls : List (List C)) (k : Nat) : tot (ls.take k) ≤ tot ls := by
 unfold tot
 have h : (ls.map List.length).sum = ((ls.take k).map List.length).sum + ((ls.drop k).map List.length).sum := by
  rw [← List.sum_append, ← List.map_append, List.take_append_drop]
 omega
theorem tot_flatten (ls : List (List C)) : ls.flatten.length = tot ls := by unfold tot; rw [List.length_flatten]
theorem flat_append (a b : List C) : flat (a ++ b) = flat a ++ flat b := by simp [flat]
theorem flat_one (l : List C) : ∀ u ∈ flat l, u.oneCell' = true := by
 intro u hu
 simp only [flat, List.mem_flatMap] at hu
 obtain ⟨c, _, hc⟩ := hu
 simp only [C.vals, List.mem_cons, List.not_mem_nil, or_false] at hc
 rcases hc with rfl | rfl | rfl | rfl | rfl <;> rfl
theorem termAt_of_owns {w : World} {base : Nat} {v : Value} {l : List C} (h : w.ownsRow base 78 5 v l.length (flat l)) (hl : l.length ≤ maxLen) (ht : ∀ c ∈ l, c.t.size ≤ maxLen) : TermAt w v l := by
 refine ⟨⟨hl, ht⟩, ?_⟩
 rcases h.2 with ⟨h1, h2⟩ | ⟨g, cap, cur, h1, h2, h3, h4, h5, h6, h7⟩
 ·exact Or.inl ⟨List.eq_nil_of_length_eq_zero h2, none, h1⟩
 ·refine Or.inr ⟨g, 0, cap, h1, h4, h5, ?_, (Array.getElem?_eq_some_iff.1 h3).1⟩
  intro j u hu
  rw [cell_of_row _ _ _ _ _ _ h3]
  rw [← h7] at hu
  rw [List.getElem?_take] at hu
  split at hu
  ·simpa using hu
  ·cases hu
def OwnT (w : World) (base : Nat) (u : Value) (l : List C) : Prop := w.ownsRow base 78 5 u l.length (flat l)
theorem ownT_base {w : World} {b b' : Nat} {u : Value} {l : List C} (h : OwnT w b u l) (hb : b' ≤ b) : OwnT w b' u l := by
 refine ⟨h.1, ?_⟩
 rcases h.2 with h1 | ⟨g, cap, cur, h1, h2, h3⟩
 ·exact Or.inl h1
 ·exact Or.inr ⟨g, cap, cur, h1, Nat.le_trans hb h2, h3⟩
set_option maxHeartbeats 2000000 in
theorem c46 (ls : List (List C)) (v : Value) (w : World) (h : RowAt w v ls) (hne : ∀ l ∈ ls, 0 < l.length) (hT : tot ls ≤ 1000000000) (hT0 : 0 < tot ls) :
  Calls Tryz.prog 99 #[v] w fun e w' => ∃ u, e = .returned u ∧ TermAt w' u ls.flatten ∧ Below w.heap.size w w' ∧ OwnT w' w.heap.size u ls.flatten := by
 obtain ⟨hc, h⟩ := h
 rcases h with ⟨rfl, ad, rfl⟩ | ⟨b, o, cap, vs, rfl, h2, h3, hb, h5, h6, h7⟩
 ·simp [tot] at hT0
 unfold maxLen at hc
 have HR : Hid (w.rangeAt b o vs) := h6
 have HT : Hid (∀ (i : Nat) (u : Value) (l : List C), vs[i]? = some u → ls[i]? = some l → TermAt w u l) := h7
 have HV : Hid (vs.length = ls.length) := h5
 have HN : Hid (∀ l ∈ ls, 0 < l.length) := hne
 obtain ⟨i0, hi, hz, hs, hby⟩ := info60
 clear h5 h6 h7 hne h2 h3
 go_enter Tryz.func99, Tryz.ntmps99
 go_wp2_with fail
 go_loop [3, 11] (fun sz i => ∃ k : Nat, k ≤ ls.length ∧ i = .int .i64 k ∧ sz = .int .i64 (tot (ls.take k) : Nat)) (fun _ i => ls.length - (intOf i).toNat)
 case atStart => exact ⟨0, by omega, rfl, rfl⟩
 case round =>
  obtain ⟨k, hk, rfl, rfl⟩ := hrel
  by_cases hlt : k < ls.length
  ·have hlt' : (k : Int) < (ls.length : Int) := by omega
   have hkv : k < vs.length := by rw [HV.out]; exact hlt
   have p0 := row_cell HR.out k hkv
   obtain ⟨ad, cp, hf⟩ := (HT.out k _ _ (List.getElem?_eq_getElem hkv) (List.getElem?_eq_getElem hlt)).form
   have hs1 : Hid (tot (ls.take (k + 1)) = tot (ls.take k) + ls[k].length) := tot_snoc ls k hlt
   have hs2 := tot_le ls (k + 1)
   rw [hs1.out] at hs2
   rw [hf] at p0
   clear hf
   generalize tot (ls.take k) = tk at *
   generalize hlk : ls[k].length = lk at *
   have hlk : Hid (ls[k].length = lk) := hlk
   have hn1 : ¬ ((tk : Int) + (lk : Int) < 0) := by omega
   go_wp2_with fail
   go_round
   case rel => exact ⟨k + 1, by omega, by go_num, by rw [hs1.out]; go_num⟩
   case measure => simp [intOf]; omega
  ·have hlt' : ¬ ((k : Int) < (ls.length : Int)) := by omega
   have hk2 : tot (ls.take k) = tot ls := by rw [List.take_of_length_le (by omega)]
   rw [hk2]
   clear hk2
   go_wp2_with fail
   refine (c63 (tot ls) _ hT0 hT).mono ?_
   rintro e w1 ⟨u, rfl, hown, hb1⟩
   have HO : Hid (w1.ownsRow w.heap.size 78 5 u 0 []) := hown
   clear hown
   go_wp2_with fail
   have hz1 := hb1.size
   clear hlt hlt' hk
   go_loopw [6, 27] (fun nv i wr => ∃ k : Nat, k ≤ ls.length ∧ i = .int .i64 k ∧ Hid (wr.ownsRow w.heap.size 78 5 nv (tot (ls.take k)) (flat (ls.take k).flatten)) ∧ Below w.heap.size w wr) (fun _ i _ => ls.length - (intOf i).toNat)
   case atStart => exact ⟨0, by omega, rfl, HO, hb1⟩
   case round =>
    obtain ⟨k, hk, rfl, hown, hbr⟩ := hrel
    by_cases hlt : k < ls.length
    ·have hlt' : (k : Int) < (ls.length : Int) := by omega
     have hkv : k < vs.length := by rw [HV.out]; exact hlt
     have hbz : b < wr.heap.size := Nat.lt_of_lt_of_le hb hbr.size
     have p0 := row_cell (range_below HR.out hb hbr) k hkv
     have hta := (HT.out k _ _ (List.getElem?_eq_getElem hkv) (List.getElem?_eq_getElem hlt)).below hbr
     have hpos := HN.out _ (List.getElem_mem hlt)
     obtain ⟨_, hta⟩ := hta
     rcases hta with ⟨hnil, _⟩ | ⟨bk, ok, ck, hf, hck, hck2, hrk, hbk⟩
     ·rw [hnil] at hpos; simp at hpos
     rw [hf] at p0
     have hs1 : Hid (tot (ls.take (k + 1)) = tot (ls.take k) + ls[k].length) := tot_snoc ls k hlt
     have hs2 := tot_le ls (k + 1)
     rw [hs1.out] at hs2
     have hfl : Hid (flat (ls.take (k + 1)).flatten = flat (ls.take k).flatten ++ flat ls[k]) := by
      show flat (ls.take (k + 1)).flatten = flat (ls.take k).flatten ++ flat ls[k]
      rw [List.take_succ_eq_append_getElem hlt, List.flatten_append, flat_append]; simp
     have hnews : ∀ j u, (flat ls[k])[j]? = some u → wr.cell? ((⟨bk, ok, none⟩ : Addr).add j) = some u := fun j u hu => by rw [Addr.add_mid]; exact hrk j u hu
     have hHN : Hid (∀ j u, (flat ls[k])[j]? = some u → wr.cell? ((⟨bk, ok, none⟩ : Addr).add j) = some u) := hnews
     have hsz : w.heap.size ≤ wr.heap.size := hbr.size
     have hlen : Hid ((flat ls[k]).length = ls[k].length * 5) := by
      show (flat ls[k]).length = ls[k].length * 5
      rw [flat_length]; omega
     clear hrk hnews hf
     go_wp2_with (at_builtin; refine wpList_append_own _ rfl _ _ 24 rfl w.heap.size 78 i0 zero60 5 48 Tryz.underlying24 hi hz hs hby rfl (by decide) _ _ _ rfl hown.out ⟨bk, ok, none⟩ ls[k].length ck (flat ls[k]) rfl hlen.out hHN.out (flat_one _) (by unfold maxLen; omega) (by omega) hsz ?_)
     intro v' w' hown' hgrow hnil
     have hown' : Hid (w'.ownsRow w.heap.size 78 5 v' (tot (ls.take (k + 1))) (flat (ls.take (k + 1)).flatten)) := by
      show w'.ownsRow w.heap.size 78 5 v' (tot (ls.take (k + 1))) (flat (ls.take (k + 1)).flatten)
      rw [hs1.out, hfl.out]; exact hown'
     have hbr' : Below w.heap.size w w' := hbr.grown hgrow hsz (fun g hg => (hown.out.lt g hg).1)
     clear hgrow hnil
     go_wp2_with fail
     go_roundw
     case rel => exact ⟨k + 1, by omega, by go_num, hown', hbr'⟩
     case measure => simp [intOf]; omega
    ·have hlt' : ¬ ((k : Int) < (ls.length : Int)) := by omega
     rw [List.take_of_length_le (by omega), ← tot_flatten] at hown
     have hmx : Hid (ls.flatten.length ≤ maxLen) := by
      show ls.flatten.length ≤ maxLen
      rw [tot_flatten]; unfold maxLen; omega
     have htx : Hid (∀ c ∈ ls.flatten, c.t.size ≤ maxLen) := by
      show ∀ c ∈ ls.flatten, c.t.size ≤ maxLen
      intro c hcm
      rw [List.mem_flatten] at hcm
      obtain ⟨l, hl, hcl⟩ := hcm
      obtain ⟨j, hj, rfl⟩ := List.getElem_of_mem hl
      exact (HT.out j _ _ (List.getElem?_eq_getElem (by rw [HV.out]; exact hj)) (List.getElem?_eq_getElem hj)).1.2 c hcl
     go_wp2_with fail
     go_ret
     exact ⟨_, rfl, termAt_of_owns hown.out hmx.out htx.out, hbr, hown.out⟩
end Go.Proofs.YtljggjllijacjaaGreatDoor

namespace Go.Proofs.YtljggjllijacjaaGreatDoor
open Go.RowKit
def ownC (text : ByteArray) (n : Nat) : C := ⟨3, text, n, 0, 0⟩
def makeE (text : ByteArray) (ls : List (List C)) : Int := if allRightB ls && (ownC text ls.length).ok then (if (256 : Int) < ((tot ls + 1 : Nat) : Int) then 5 else 0) else 6
def makeL (text : ByteArray) (ls : List (List C)) : List C := if makeE text ls = 0 then ownC text ls.length :: ls.flatten else []
theorem rowAt_of_owns {w : World} {base : Nat} {v : Value} {ls : List (List C)} {vs : List Value} (h : w.ownsRow base 24 1 v ls.length vs) (hl : 0 < ls.length) (hm : ls.length ≤ maxLen) (ht : ∀ (i : Nat) (u : Value) (l : List C), vs[i]? = some u → ls[i]? = some l → TermAt w u l) : RowAt w v ls := by
 refine ⟨hm, ?_⟩
 have h0 := h.1
 rcases h.2 with ⟨h1, h2⟩ | ⟨g, cap, cur, h1, h2, h3, h4, h5, h6, h7⟩
 ·omega
 ·refine Or.inr ⟨g, 0, cap, vs, h1, h4, h5, (Array.getElem?_eq_some_iff.1 h3).1, by omega, ?_, ht⟩
  intro j u hu
  rw [cell_of_row _ _ _ _ _ _ h3]
  rw [← h7] at hu
  rw [List.getElem?_take] at hu
  split at hu
  ·simpa using hu
  ·cases hu
theorem right_len {l : List C} (h : rightB l = true) : 1 ≤ l.length ∧ l.length ≤ 256 := by
 unfold rightB at h
 simp only [Bool.and_eq_true, decide_eq_true_eq] at h
 omega
theorem allRight_get {ls : List (List C)} (h : allRightB ls = true) : ∀ l ∈ ls, rightB l = true := by
 unfold allRightB at h; rw [List.all_eq_true] at h; exact h
theorem tot_bound {ls : List (List C)} (h : ∀ l ∈ ls, l.length ≤ 256) : tot ls ≤ 256 * ls.length := by
 induction ls with
 | nil => simp [tot]
 | cons a r ih =>
  have h1 := h a (by simp)
  have h2 := ih (fun l hl => h l (by simp [hl]))
  simp [tot] at *; omega
theorem own_n {text : ByteArray} {n : Nat} (h : (ownC text n).ok = true) : 1 ≤ n ∧ n ≤ 8 := by
 have h1 : structFits 1 8 text.data.toList n = true := by
  simp only [C.ok, ownC, cellB, if_neg (show ¬ ((3 : Int) = 1) by decide), if_neg (show ¬ ((3 : Int) = 2) by decide), if_true, Bool.and_eq_true] at h
  exact h.2
 simp only [structFits, between, Bool.and_eq_true, Bool.or_eq_true, decide_eq_true_eq, beq_iff_eq] at h1
 omega
set_option maxHeartbeats 2000000 in
theorem c10_form (text : ByteArray) (ls : List (List C)) (v : Value) (w : World) (h : RowAt w v ls) (hS : Signs w) (_ht : text.size ≤ maxLen) (hno : allRightB ls = false) :
  Calls Tryz.prog 77 #[.string text, v] w fun e w' => e = .returned (.tuple #[.slice none 0 0, .int .i64 6]) ∧ Below w.heap.size w w' := by
 obtain ⟨ad, cap, hf⟩ := h.form
 have hc := h.1
 unfold maxLen at hc
 have H44 := fun o => c44 ls v (w.alloc o) (h.below (below_alloc _ o)) (hS.below (below_alloc _ o))
 rw [hno, hf] at H44
 rw [hf]
 have H44 : Hid (∀ o : Obj, _) := H44
 have hB : ∀ o : Obj, Hid (Below w.heap.size w (w.alloc o)) := fun o => below_alloc w o
 clear h hS hno hf
 go_enter Tryz.func77, Tryz.ntmps77
 go_wp2_with fail
 refine (H44.out _).mono ?_
 rintro e w1 ⟨rfl, hb1⟩
 go_wp2_with fail
 go_ret2
 exact ⟨rfl, (hB _).out.trans (hb1.mono (by simp))⟩
set_option maxHeartbeats 2000000 in
theorem c10_cell (text : ByteArray) (ls : List (List C)) (v : Value) (w : World) (h : RowAt w v ls) (hS : Signs w) (ht : text.size ≤ maxLen) (hyes : allRightB ls = true) (hno : (ownC text ls.length).ok = false) :
  Calls Tryz.prog 77 #[.string text, v] w fun e w' => e = .returned (.tuple #[.slice none 0 0, .int .i64 6]) ∧ Below w.heap.size w w' := by
 obtain ⟨ad, cap, hf⟩ := h.form
 have hc := h.1
 unfold maxLen at hc
 have H44 := fun o => c44 ls v (w.alloc o) (h.below (below_alloc _ o)) (hS.below (below_alloc _ o))
 rw [hyes, hf] at H44
 rw [hf]
 have H44 : Hid (∀ o : Obj, _) := H44
 have hB : ∀ o : Obj, Hid (Below w.heap.size w (w.alloc o)) := fun o => below_alloc w o
 have HN : Hid ((ownC text ls.length).ok = false) := hno
 have HS : Hid (Signs w) := hS
 clear h hS hyes hf hno
 go_enter Tryz.func77, Tryz.ntmps77
 go_wp2_with fail
 refine (H44.out _).mono ?_
 rintro e w1 ⟨rfl, hb1⟩
 obtain ⟨hcc, hff⟩ := bcell hb1
 have hz : w.heap.size < w1.heap.size := by have := hb1.size; simp at this; omega
 go_wp2_with fail
 refine (c45 [ownC text ls.length] _ _ (termAt_new w1 (ownC text ls.length) ht) ((HS.out.below ((hB _).out.trans (hb1.mono (by simp)))).below (below_alloc _ _))).mono ?_
 have e1 : cellsB [ownC text ls.length] = (ownC text ls.length).ok := by simp [cellsB]
 rw [e1, HN.out]
 clear e1
 rintro e w2 ⟨rfl, hb2⟩
 go_wp2_with fail
 go_ret2
 exact ⟨rfl, ((hB _).out.trans (hb1.mono (by simp))).trans ((below_alloc w1 _).trans (hb2.mono (by simp)) |>.mono (by omega))⟩
set_option maxRecDepth 100000 in
set_option maxHeartbeats 4000000 in
theorem c10_made (text : ByteArray) (ls : List (List C)) (v : Value) (w : World) (h : RowAt w v ls) (hS : Signs w) (ht : text.size ≤ maxLen) (hyes : allRightB ls = true) (hno : (ownC text ls.length).ok = true) :
  Calls Tryz.prog 77 #[.string text, v] w fun e w' => ∃ u, e = .returned (.tuple #[u, .int .i64 (makeE text ls)]) ∧ TermAt w' u (makeL text ls) ∧ Below w.heap.size w w' ∧ OwnT w' w.heap.size u (makeL text ls) := by
 have hrl := fun l hl => right_len (allRight_get hyes l hl)
 obtain ⟨hn1, hn8⟩ := own_n hno
 have htb := tot_bound (fun l hl => (hrl l hl).2)
 have hmE : makeE text ls = if (256 : Int) < ((tot ls + 1 : Nat) : Int) then 5 else 0 := by unfold makeE; rw [hyes, hno]; rfl
 have HRow : Hid (RowAt w v ls) := h
 obtain ⟨hc, h⟩ := h
 rcases h with ⟨rfl, ad, rfl⟩ | ⟨b, o, cap, vs, rfl, h2, h3, h4, h5, h6, h7⟩
 ·simp at hn1
 unfold maxLen at hc
 have H44 := fun o' => c44 ls _ (w.alloc o') (HRow.out.below (below_alloc _ o')) (hS.below (below_alloc _ o'))
 rw [hyes] at H44
 have H44 : Hid (∀ o : Obj, _) := H44
 have hB : ∀ o : Obj, Hid (Below w.heap.size w (w.alloc o)) := fun o => below_alloc w o
 have HN : Hid ((ownC text ls.length).ok = true) := hno
 have HS : Hid (Signs w) := hS
 have HR : Hid (w.rangeAt b o vs) := h6
 have HT : Hid (∀ (i : Nat) (u : Value) (l : List C), vs[i]? = some u → ls[i]? = some l → TermAt w u l) := h7
 have HV : Hid (vs.length = ls.length) := h5
 have HL : Hid (∀ l ∈ ls, 1 ≤ l.length ∧ l.length ≤ 256) := hrl
 have HE : Hid (makeE text ls = if (256 : Int) < ((tot ls + 1 : Nat) : Int) then 5 else 0) := hmE
 obtain ⟨i0, hi, hz0, hs0, hby⟩ := info29
 clear hS hyes hno h5 h6 h7 hrl h2 h3 hmE
 go_enter Tryz.func77, Tryz.ntmps77
 go_wp2_with fail
 refine (H44.out _).mono ?_
 rintro e w1 ⟨rfl, hb1⟩
 obtain ⟨hcc, hff⟩ := bcell hb1
 have hz : w.heap.size < w1.heap.size := by have := hb1.size; simp at this; omega
 have hw1 : Hid (Below w.heap.size w w1) := (hB _).out.trans (hb1.mono (by simp))
 go_wp2_with fail
 refine (c45 [ownC text ls.length] _ _ (termAt_new w1 (ownC text ls.length) ht) ((HS.out.below hw1.out).below (below_alloc _ _))).mono ?_
 have e1 : cellsB [ownC text ls.length] = (ownC text ls.length).ok := by simp [cellsB]
 rw [e1, HN.out]
 clear e1
 rintro e w2 ⟨rfl, hb2⟩
 have hw2 : Hid (Below w.heap.size w w2) := hw1.out.trans ((below_alloc w1 _).trans (hb2.mono (by simp)) |>.mono (by omega))
 obtain ⟨hcc2, hff2⟩ := bcell hb2
 have hz2 : w.heap.size < w2.heap.size := by have := hb2.size; simp at this; omega
 have hW3 : ∀ o1 o2 : Obj, Hid (Below w.heap.size w ((w2.alloc o1).alloc o2)) := fun o1 o2 => ((hw2.out.alloc (by omega) o1).alloc (by simp; omega) o2)
 have hown3 : ∀ o1 : Obj, Hid (((w2.alloc o1).alloc (.cells #[.slice (some ⟨w2.heap.size, 0, none⟩) 1 1] 24)).ownsRow w.heap.size 24 1 (.slice (some ⟨w2.heap.size + 1, 0, none⟩) 1 1) 1 [.slice (some ⟨w2.heap.size, 0, none⟩) 1 1]) := fun o1 => by
  have h := World.ownsRow_lit (base := w.heap.size) (e := 24) (size := 1) (w2.alloc o1) #[.slice (some ⟨w2.heap.size, 0, none⟩) 1 1] 1 (by simp; omega) (by simp [maxLen]) rfl
  rw [World.size_alloc] at h; exact h
 have hnews : ∀ o1 o2 : Obj, Hid (∀ j u, vs[j]? = some u → ((w2.alloc o1).alloc o2).cell? ((⟨b, o, none⟩ : Addr).add j) = some u) := fun o1 o2 j u hu => by
  rw [Addr.add_mid]; exact range_below HR.out h4 (hW3 o1 o2).out j u hu
 have hlv : Hid (vs.length = ls.length * 1) := by
  show vs.length = ls.length * 1
  rw [HV.out]; omega
 have hone : Hid (∀ u ∈ vs, u.oneCell' = true) := by
  show ∀ u ∈ vs, u.oneCell' = true
  intro u hu
  obtain ⟨j, hj, rfl⟩ := List.getElem_of_mem hu
  have hj2 : j < ls.length := by rw [← HV.out]; exact hj
  obtain ⟨ad', cp', hf'⟩ := (HT.out j _ _ (List.getElem?_eq_getElem hj) (List.getElem?_eq_getElem hj2)).form
  rw [hf']; rfl
 have hTn : Hid (TermAt (w2.alloc (.cells #[.int .u8 3, .string text, .int .i64 (ls.length : Int), .int .i64 0, .int .i64 0] 78)) (.slice (some ⟨w2.heap.size, 0, none⟩) 1 1) [ownC text ls.length]) := termAt_new w2 (ownC text ls.length) ht
 go_wp2_with (at_builtin; refine wpList_append_own _ rfl _ _ 33 rfl w.heap.size 24 i0 (.slice none 0 0) 1 24 Tryz.underlying33 hi hz0 hs0 hby rfl (by decide) _ _ _ rfl (hown3 _).out ⟨b, o, none⟩ ls.length cap vs rfl hlv.out (hnews _ _).out hone.out (by unfold maxLen; omega) (by omega) (by simp; omega) ?_)
 intro v' w3 hown' hgrow hnil
 have hw3 : Hid (Below w.heap.size w w3) := (hW3 _ _).out.grown hgrow (by simp; omega) (fun g hg => by simp [Value.ownBlock] at hg; omega)
 have hb3 : Hid (Below (w2.heap.size + 1) (w2.alloc (.cells #[.int .u8 3, .string text, .int .i64 (ls.length : Int), .int .i64 0, .int .i64 0] 78)) w3) := (((Below.refl _ _).alloc (by simp) _).grown hgrow (by simp) (fun g hg => by simp [Value.ownBlock] at hg; omega))
 have hrow : Hid (RowAt w3 v' ([ownC text ls.length] :: ls)) := by
  refine rowAt_of_owns (base := w.heap.size) (vs := [.slice (some ⟨w2.heap.size, 0, none⟩) 1 1] ++ vs) ?_ (by simp) (by simp [maxLen]; omega) ?_
  ·rw [List.length_cons, Nat.add_comm]; exact hown'
  ·intro j u l hu hl
   cases j with
   | zero =>
    simp at hu hl
    subst hu; subst hl
    exact hTn.out.below (by rw [World.size_alloc]; exact hb3.out)
   | succ j => exact (HT.out j u l (by simpa using hu) (by simpa using hl)).below hw3.out
 have htt : Hid (tot ([ownC text ls.length] :: ls) = tot ls + 1) := by
  show tot ([ownC text ls.length] :: ls) = tot ls + 1
  simp [tot]; omega
 have hnn : Hid (∀ l ∈ [ownC text ls.length] :: ls, 0 < l.length) := by
  show ∀ l ∈ [ownC text ls.length] :: ls, 0 < l.length
  intro l hl
  rcases List.mem_cons.1 hl with rfl | hl
  ·simp
  ·exact (HL.out l hl).1
 clear hgrow hnil hown'
 go_wp2_with fail
 refine (c46 _ _ _ hrow.out hnn.out (by rw [htt.out]; omega) (by rw [htt.out]; omega)).mono ?_
 rintro e w4 ⟨u, rfl, hTu, hb4, hOu⟩
 have HOu : Hid (OwnT w4 w.heap.size u ([ownC text ls.length] :: ls).flatten) := ownT_base hOu hw3.out.size
 have hw4 : Hid (Below w.heap.size w w4) := hw3.out.trans (hb4.mono hw3.out.size)
 have hlen : Hid (([ownC text ls.length] :: ls).flatten.length = tot ls + 1) := by
  show ([ownC text ls.length] :: ls).flatten.length = tot ls + 1
  rw [tot_flatten, htt.out]
 obtain ⟨adu, cpu, hfu⟩ := hTu.form
 rw [hlen.out] at hfu
 have HTu : Hid (TermAt w4 u ([ownC text ls.length] :: ls).flatten) := hTu
 have HFu : Hid (u = .slice adu (tot ls + 1) cpu) := hfu
 clear hTu hfu hOu
 rw [HFu.out]
 rw [HFu.out] at HTu HOu
 by_cases hbig : (256 : Int) < ((tot ls + 1 : Nat) : Int)
 ·have e5 : Hid (makeE text ls = 5) := by
   show makeE text ls = 5
   rw [HE.out, if_pos hbig]
  have eL : Hid (makeL text ls = []) := by
   show makeL text ls = []
   unfold makeL; rw [e5.out]; rfl
  have hbig' : (256 : Int) < ((tot ls : Nat) : Int) + 1 := by omega
  clear hbig
  go_wp2_with fail
  go_ret2
  exact ⟨_, by rw [e5.out]; rfl, by rw [eL.out]; exact termAt_nil _, hw4.out, by rw [eL.out]; exact World.ownsRow_nil _ _ _ _⟩
 ·have e5 : Hid (makeE text ls = 0) := by
   show makeE text ls = 0
   rw [HE.out, if_neg hbig]
  have eL : Hid (makeL text ls = ([ownC text ls.length] :: ls).flatten) := by
   show makeL text ls = ([ownC text ls.length] :: ls).flatten
   unfold makeL; rw [e5.out]; rfl
  have hbig' : ¬ ((256 : Int) < ((tot ls : Nat) : Int) + 1) := by omega
  clear hbig
  go_wp2_with fail
  go_ret2
  exact ⟨_, by rw [e5.out]; rfl, by rw [eL.out]; exact HTu.out, hw4.out, by rw [eL.out]; exact HOu.out⟩
theorem c10 (text : ByteArray) (ls : List (List C)) (v : Value) (w : World) (h : RowAt w v ls) (hS : Signs w) (ht : text.size ≤ maxLen) :
  Calls Tryz.prog 77 #[.string text, v] w fun e w' => ∃ u, e = .returned (.tuple #[u, .int .i64 (makeE text ls)]) ∧ TermAt w' u (makeL text ls) ∧ Below w.heap.size w w' ∧ OwnT w' w.heap.size u (makeL text ls) := by
 cases hA : allRightB ls
 ·have e6 : makeE text ls = 6 := by unfold makeE; rw [hA]; rfl
  have eL : makeL text ls = [] := by unfold makeL; rw [e6]; rfl
  rw [e6, eL]
  exact (c10_form text ls v w h hS ht hA).mono fun e w' ⟨h1, h2⟩ => ⟨_, h1, termAt_nil _, h2, World.ownsRow_nil _ _ _ _⟩
 ·cases hO : (ownC text ls.length).ok
  ·have e6 : makeE text ls = 6 := by unfold makeE; rw [hA, hO]; rfl
   have eL : makeL text ls = [] := by unfold makeL; rw [e6]; rfl
   rw [e6, eL]
   exact (c10_cell text ls v w h hS ht hA hO).mono fun e w' ⟨h1, h2⟩ => ⟨_, h1, termAt_nil _, h2, World.ownsRow_nil _ _ _ _⟩
  ·exact c10_made text ls v w h hS ht hA hO
end Go.Proofs.YtljggjllijacjaaGreatDoor
