/- Contract of the reference Make. -/
import Derived.Test.YtljggjllijacjaaGreatDoorRAg
namespace Go.Proofs.YtljggjllijacjaaGreatDoor
open Go.RowKit
theorem makeE_form {text : ByteArray} {ls : List (List C)} (h : allRightB ls = false) : makeE text ls = 6 ∧ makeL text ls = [] := by
 have e6 : makeE text ls = 6 := by unfold makeE; rw [h]; rfl
 exact ⟨e6, by unfold makeL; rw [e6]; rfl⟩
theorem makeE_cell {text : ByteArray} {ls : List (List C)} (h : (ownC text ls.length).ok = false) : makeE text ls = 6 ∧ makeL text ls = [] := by
 have e6 : makeE text ls = 6 := by unfold makeE; rw [h]; simp
 exact ⟨e6, by unfold makeL; rw [e6]; rfl⟩
set_option maxRecDepth 100000 in
set_option maxHeartbeats 4000000 in
theorem c11o_in (text : ByteArray) (ls : List (List C)) (b o cap : Nat) (vs : List Value) (w : World) (hb : b < w.heap.size) (hc : ls.length ≤ maxLen) (hvl : vs.length = ls.length) (hr : w.rangeAt b o vs) (ht : ∀ (i : Nat) (u : Value) (x : List C), vs[i]? = some u → ls[i]? = some x → TermAt w u x) (htx : text.size ≤ maxLen) :
  Calls Tryz.prog 42 #[.string text, .slice (some ⟨b, o, none⟩) ls.length cap] w fun e w' => ∃ u, e = .returned (.tuple #[u, .int .i64 (makeE text ls)]) ∧ TermAt w' u (makeL text ls) ∧ Below w.heap.size w w' ∧ OwnT w' w.heap.size u (makeL text ls) := by
 unfold maxLen at hc
 obtain ⟨i0, hi, hz, hs, hby⟩ := info60
 have HR : Hid (w.rangeAt b o vs) := hr
 have HT : Hid (∀ (i : Nat) (u : Value) (x : List C), vs[i]? = some u → ls[i]? = some x → TermAt w u x) := ht
 have HV : Hid (vs.length = ls.length) := hvl
 have hO0 : Hid (OwnT ((w.alloc (.cells #[.int .u8 3, .string text, .int .i64 (ls.length : Int), .int .i64 0, .int .i64 0] 78)).alloc (.cells #[.int .u8 3, .string text, .int .i64 (ls.length : Int), .int .i64 0, .int .i64 0] 78)) w.heap.size (.slice (some ⟨w.heap.size + 1, 0, none⟩) 1 1) [ownC text ls.length]) := by
  have h := World.ownsRow_lit (base := w.heap.size) (e := 78) (size := 5) (w.alloc (.cells #[.int .u8 3, .string text, .int .i64 (ls.length : Int), .int .i64 0, .int .i64 0] 78)) #[.int .u8 3, .string text, .int .i64 (ls.length : Int), .int .i64 0, .int .i64 0] 1 (by simp) (by simp [maxLen]) rfl
  rw [World.size_alloc] at h; exact h
 have hB0 : Hid (Below w.heap.size w ((w.alloc (.cells #[.int .u8 3, .string text, .int .i64 (ls.length : Int), .int .i64 0, .int .i64 0] 78)).alloc (.cells #[.int .u8 3, .string text, .int .i64 (ls.length : Int), .int .i64 0, .int .i64 0] 78))) := (below_alloc w _).alloc (by simp) _
 have hX0 : Hid (∀ (j : Nat) (v : Value), #[.int .u8 3, .string text, .int .i64 (ls.length : Int), .int .i64 0, .int .i64 0][j]? = some v → ((w.alloc (.cells #[.int .u8 3, .string text, .int .i64 (ls.length : Int), .int .i64 0, .int .i64 0] 78)).alloc (.cells #[.int .u8 3, .string text, .int .i64 (ls.length : Int), .int .i64 0, .int .i64 0] 78)).cell? ⟨w.heap.size, j, none⟩ = some v) := fun j v hv => cell_alloc (by simp) (cell_new w _ 78 j v hv)
 have hz0 : Hid (w.heap.size < ((w.alloc (.cells #[.int .u8 3, .string text, .int .i64 (ls.length : Int), .int .i64 0, .int .i64 0] 78)).alloc (.cells #[.int .u8 3, .string text, .int .i64 (ls.length : Int), .int .i64 0, .int .i64 0] 78)).heap.size) := by
  show w.heap.size < _
  simp; omega
 clear hr ht hvl
 go_enter Tryz.func42, Tryz.ntmps42
 go_wp2_with fail
 generalize ((w.alloc (.cells #[.int .u8 3, .string text, .int .i64 (ls.length : Int), .int .i64 0, .int .i64 0] 78)).alloc (.cells #[.int .u8 3, .string text, .int .i64 (ls.length : Int), .int .i64 0, .int .i64 0] 78)) = W0 at *
 go_loopw [8] (fun i wr => ∃ k : Nat, k ≤ ls.length ∧ i = .int .i64 k ∧ Hid ((ls.take k).all rightB = true) ∧ Below W0.heap.size W0 wr) (fun i _ => ls.length - (intOf i).toNat)
 case atStart => exact ⟨0, by omega, rfl, rfl, Below.refl _ _⟩
 case round =>
  obtain ⟨k, hk, rfl, hall, hb0⟩ := hrel
  have hbr : Hid (Below w.heap.size w wr) := hB0.out.trans (hb0.mono hB0.out.size)
  have hbz : b < wr.heap.size := Nat.lt_of_lt_of_le hb hbr.out.size
  by_cases hlt : k < ls.length
  ·have hlt' : (k : Int) < (ls.length : Int) := by omega
   have hkv : k < vs.length := by rw [HV.out]; exact hlt
   have p0 := row_cell (range_below HR.out hb hbr.out) k hkv
   have HC : Hid (Calls Tryz.prog 79 #[vs[k]] wr fun e w' => e = .returned (.bool (rightB ls[k])) ∧ Below wr.heap.size wr w') := c23 ls[k] vs[k] wr ((HT.out k _ _ (List.getElem?_eq_getElem hkv) (List.getElem?_eq_getElem hlt)).below hbr.out)
   generalize vs[k] = u at p0 HC
   cases hok : rightB ls[k]
   ·have hF : Hid (makeE text ls = 6 ∧ makeL text ls = []) := makeE_form (rights_false ls k hlt hok)
    rw [hok] at HC
    clear hok
    go_wp2_with fail
    refine HC.out.mono ?_
    rintro e w' ⟨rfl, hb2⟩
    go_wp2_with fail
    go_ret2
    exact ⟨_, by rw [hF.out.1]; rfl, by rw [hF.out.2]; exact termAt_nil _, hbr.out.trans (hb2.mono hbr.out.size), by rw [hF.out.2]; exact World.ownsRow_nil _ _ _ _⟩
   ·have hT : Hid ((ls.take (k + 1)).all rightB = true) := rights_snoc ls k hlt hall.out hok
    rw [hok] at HC
    clear hok
    go_wp2_with fail
    refine HC.out.mono ?_
    rintro e w' ⟨rfl, hb2⟩
    go_wp2_with fail
    go_roundw
    case rel => exact ⟨k + 1, by omega, by go_num, hT, hb0.trans (hb2.mono hb0.size)⟩
    case measure => simp [intOf]; omega
  ·have hT : Hid (allRightB ls = true) := by
    have h := hall.out; rw [List.take_of_length_le (by omega)] at h; exact h
   have hlt' : ¬ ((k : Int) < (ls.length : Int)) := by omega
   have x0 : wr.cell? ⟨w.heap.size, 0, none⟩ = some (.int .u8 3) := (hb0.cell (p := ⟨w.heap.size, 0, none⟩) hz0.out).trans (hX0.out 0 _ rfl)
   have x1 : wr.cell? ⟨w.heap.size, 1, none⟩ = some (.string text) := (hb0.cell (p := ⟨w.heap.size, 1, none⟩) hz0.out).trans (hX0.out 1 _ rfl)
   have x2 : wr.cell? ⟨w.heap.size, 2, none⟩ = some (.int .i64 (ls.length : Int)) := (hb0.cell (p := ⟨w.heap.size, 2, none⟩) hz0.out).trans (hX0.out 2 _ rfl)
   have x3 : wr.cell? ⟨w.heap.size, 3, none⟩ = some (.int .i64 0) := (hb0.cell (p := ⟨w.heap.size, 3, none⟩) hz0.out).trans (hX0.out 3 _ rfl)
   have x4 : wr.cell? ⟨w.heap.size, 4, none⟩ = some (.int .i64 0) := (hb0.cell (p := ⟨w.heap.size, 4, none⟩) hz0.out).trans (hX0.out 4 _ rfl)
   have hO1 : Hid (OwnT wr w.heap.size (.slice (some ⟨w.heap.size + 1, 0, none⟩) 1 1) [ownC text ls.length]) := ownT_below hO0.out hb0
   have HC : Hid (Calls Tryz.prog 80 #[.agg #[.int .u8 3, .string text, .int .i64 (ls.length : Int), .int .i64 0, .int .i64 0]] wr fun e w' => e = .returned (.bool (ownC text ls.length).ok) ∧ Below wr.heap.size wr w') := c47 3 text ls.length 0 0 wr htx
   cases hok : (ownC text ls.length).ok
   ·have hF : Hid (makeE text ls = 6 ∧ makeL text ls = []) := makeE_cell hok
    rw [hok] at HC
    clear hok
    go_wp2_with fail
    refine HC.out.mono ?_
    rintro e w' ⟨rfl, hb2⟩
    go_wp2_with fail
    go_ret2
    exact ⟨_, by rw [hF.out.1]; rfl, by rw [hF.out.2]; exact termAt_nil _, hbr.out.trans (hb2.mono hbr.out.size), by rw [hF.out.2]; exact World.ownsRow_nil _ _ _ _⟩
   ·have HL : Hid (∀ l ∈ ls, 1 ≤ l.length ∧ l.length ≤ 256) := fun l hl => right_len (allRight_get hT.out l hl)
    obtain ⟨hn1, hn8⟩ := own_n hok
    have htb := tot_bound (fun l hl => (HL.out l hl).2)
    have HE : Hid (makeE text ls = if (256 : Int) < ((tot ls + 1 : Nat) : Int) then 5 else 0) := by
     show makeE text ls = _
     unfold makeE; rw [hT.out, hok]; rfl
    have HTX : Hid (∀ c ∈ ownC text ls.length :: ls.flatten, c.t.size ≤ maxLen) := by
     show ∀ c ∈ ownC text ls.length :: ls.flatten, c.t.size ≤ maxLen
     intro c hcm
     rcases List.mem_cons.1 hcm with rfl | hcm
     ·exact htx
     rw [List.mem_flatten] at hcm
     obtain ⟨l, hl, hcl⟩ := hcm
     obtain ⟨j, hj, rfl⟩ := List.getElem_of_mem hl
     exact (HT.out j _ _ (List.getElem?_eq_getElem (by rw [HV.out]; exact hj)) (List.getElem?_eq_getElem hj)).1.2 c hcl
    rw [hok] at HC
    clear hok
    go_wp2_with fail
    refine HC.out.mono ?_
    rintro e w1 ⟨rfl, hb1⟩
    have hbw1 : Hid (Below w.heap.size w w1) := hbr.out.trans (hb1.mono hbr.out.size)
    have hO2 : Hid (OwnT w1 w.heap.size (.slice (some ⟨w.heap.size + 1, 0, none⟩) 1 1) [ownC text ls.length]) := ownT_below hO1.out hb1
    clear x0 x1 x2 x3 x4 hlt hlt' hk hall hb0 hbz hb1
    go_wp2_with fail
    go_loopw [7, 9] (fun nv i wr => ∃ k : Nat, k ≤ ls.length ∧ i = .int .i64 k ∧ Hid (wr.ownsRow w.heap.size 78 5 nv (1 + tot (ls.take k)) (flat (ownC text ls.length :: (ls.take k).flatten))) ∧ Below w.heap.size w wr) (fun _ i _ => ls.length - (intOf i).toNat)
    case atStart => exact ⟨0, by omega, rfl, hO2.out, hbw1.out⟩
    case round =>
     obtain ⟨k, hk, rfl, hown, hbr⟩ := hrel
     by_cases hlt : k < ls.length
     ·have hlt' : (k : Int) < (ls.length : Int) := by omega
      have hkv : k < vs.length := by rw [HV.out]; exact hlt
      have hbz : b < wr.heap.size := Nat.lt_of_lt_of_le hb hbr.size
      have p0 := row_cell (range_below HR.out hb hbr) k hkv
      have hta := (HT.out k _ _ (List.getElem?_eq_getElem hkv) (List.getElem?_eq_getElem hlt)).below hbr
      have hpos := (HL.out _ (List.getElem_mem hlt)).1
      obtain ⟨_, hta⟩ := hta
      rcases hta with ⟨hnil, _⟩ | ⟨bk, ok, ck, hf, hck, hck2, hrk, hbk⟩
      ·rw [hnil] at hpos; simp at hpos
      rw [hf] at p0
      have hs1 : Hid (tot (ls.take (k + 1)) = tot (ls.take k) + ls[k].length) := tot_snoc ls k hlt
      have hs2 := tot_le ls (k + 1)
      rw [hs1.out] at hs2
      have hfl : Hid (flat (ownC text ls.length :: (ls.take (k + 1)).flatten) = flat (ownC text ls.length :: (ls.take k).flatten) ++ flat ls[k]) := by
       show flat (ownC text ls.length :: (ls.take (k + 1)).flatten) = flat (ownC text ls.length :: (ls.take k).flatten) ++ flat ls[k]
       rw [List.take_succ_eq_append_getElem hlt, List.flatten_append, ← flat_append]; simp
      have hHN : Hid (∀ j u, (flat ls[k])[j]? = some u → wr.cell? ((⟨bk, ok, none⟩ : Addr).add j) = some u) := fun j u hu => by rw [Addr.add_mid]; exact hrk j u hu
      have hsz : w.heap.size ≤ wr.heap.size := hbr.size
      have hlen : Hid ((flat ls[k]).length = ls[k].length * 5) := by
       show (flat ls[k]).length = ls[k].length * 5
       rw [flat_length]; omega
      clear hrk hf
      go_wp2_with (at_builtin; refine wpList_append_own _ rfl _ _ 24 rfl w.heap.size 78 i0 zero60 5 48 Tryz.underlying24 hi hz hs hby rfl (by decide) _ _ _ rfl hown.out ⟨bk, ok, none⟩ ls[k].length ck (flat ls[k]) rfl hlen.out hHN.out (flat_one _) (by unfold maxLen; omega) (by omega) hsz ?_)
      intro v' w' hown' hgrow hnil
      have hown' : Hid (w'.ownsRow w.heap.size 78 5 v' (1 + tot (ls.take (k + 1))) (flat (ownC text ls.length :: (ls.take (k + 1)).flatten))) := by
       show w'.ownsRow w.heap.size 78 5 v' (1 + tot (ls.take (k + 1))) (flat (ownC text ls.length :: (ls.take (k + 1)).flatten))
       rw [hs1.out, hfl.out, ← Nat.add_assoc]; exact hown'
      have hbr' : Below w.heap.size w w' := hbr.grown hgrow hsz (fun g hg => (hown.out.lt g hg).1)
      clear hgrow hnil
      go_wp2_with fail
      go_roundw
      case rel => exact ⟨k + 1, by omega, by go_num, hown', hbr'⟩
      case measure => simp [intOf]; omega
     ·have hlt' : ¬ ((k : Int) < (ls.length : Int)) := by omega
      have hln : (ownC text ls.length :: ls.flatten).length = 1 + tot ls := by rw [List.length_cons, tot_flatten]; omega
      rw [List.take_of_length_le (by omega), ← hln] at hown
      have hTm : Hid (TermAt wr u7 (ownC text ls.length :: ls.flatten)) := termAt_of_owns hown.out (by rw [hln]; unfold maxLen; omega) HTX.out
      have hOm : Hid (OwnT wr w.heap.size u7 (ownC text ls.length :: ls.flatten)) := hown.out
      obtain ⟨ad7, c7, hf7⟩ := hTm.out.form
      rw [hln] at hf7
      have HF7 : Hid (u7 = .slice ad7 (1 + tot ls) c7) := hf7
      clear hln hf7 hown
      rw [HF7.out] at hTm hOm
      rw [HF7.out]
      by_cases hbig : (256 : Int) < ((tot ls + 1 : Nat) : Int)
      ·have e5 : Hid (makeE text ls = 5) := by
        show makeE text ls = 5
        rw [HE.out, if_pos hbig]
       have eL : Hid (makeL text ls = []) := by
        show makeL text ls = []
        unfold makeL; rw [e5.out]; rfl
       have hbig' : (256 : Int) < 1 + ((tot ls : Nat) : Int) := by omega
       clear hbig
       go_wp2_with fail
       go_ret2
       exact ⟨_, by rw [e5.out]; rfl, by rw [eL.out]; exact termAt_nil _, hbr, by rw [eL.out]; exact World.ownsRow_nil _ _ _ _⟩
      ·have e5 : Hid (makeE text ls = 0) := by
        show makeE text ls = 0
        rw [HE.out, if_neg hbig]
       have eL : Hid (makeL text ls = ownC text ls.length :: ls.flatten) := by
        show makeL text ls = ownC text ls.length :: ls.flatten
        unfold makeL; rw [e5.out]; rfl
       have hbig' : ¬ ((256 : Int) < 1 + ((tot ls : Nat) : Int)) := by omega
       clear hbig
       go_wp2_with fail
       go_ret2
       exact ⟨_, by rw [e5.out]; rfl, by rw [eL.out]; exact hTm.out, hbr, by rw [eL.out]; exact hOm.out⟩
theorem own_zero (text : ByteArray) : (ownC text 0).ok = false := by
 cases h : (ownC text 0).ok
 ·rfl
 ·have := own_n h; omega
set_option maxRecDepth 100000 in
set_option maxHeartbeats 4000000 in
theorem c11_nil (text : ByteArray) (ad : Option Addr) (w : World) (htx : text.size ≤ maxLen) :
  Calls Tryz.prog 42 #[.string text, .slice ad 0 0] w fun e w' => e = .returned (.tuple #[.slice none 0 0, .int .i64 6]) ∧ Below w.heap.size w w' := by
 have hB : ∀ o1 o2 : Obj, Hid (Below w.heap.size w ((w.alloc o1).alloc o2)) := fun o1 o2 => (below_alloc w o1).alloc (by simp) o2
 have HC := fun w => c47 3 text 0 0 0 w htx
 have e0 : cellB 3 text 0 0 0 = false := own_zero text
 rw [e0] at HC
 have HC : Hid (∀ w : World, _) := HC
 clear e0
 go_enter Tryz.func42, Tryz.ntmps42
 go_wp2_with fail
 refine wp_loop_rounds 1 ?_
 rw [rounds_succ]
 go_wp2_with fail
 refine (HC.out _).mono ?_
 rintro e w' ⟨rfl, hb2⟩
 go_wp2_with fail
 go_ret2
 exact ⟨rfl, (hB _ _).out.trans (hb2.mono (by simp; omega))⟩
theorem c11o (text : ByteArray) (ls : List (List C)) (v : Value) (w : World) (h : RowAt w v ls) (htx : text.size ≤ maxLen) :
  Calls Tryz.prog 42 #[.string text, v] w fun e w' => ∃ u, e = .returned (.tuple #[u, .int .i64 (makeE text ls)]) ∧ TermAt w' u (makeL text ls) ∧ Below w.heap.size w w' ∧ OwnT w' w.heap.size u (makeL text ls) := by
 obtain ⟨h0, h⟩ := h
 rcases h with ⟨rfl, ad, rfl⟩ | ⟨b, o, cap, vs, rfl, h2, h3, h4, h5, h6, h7⟩
 ·have e := makeE_cell (text := text) (ls := []) (own_zero text)
  rw [e.1, e.2]
  exact (c11_nil text ad w htx).mono fun e w' ⟨h1, h2⟩ => ⟨_, h1, termAt_nil _, h2, World.ownsRow_nil _ _ _ _⟩
 ·exact c11o_in text ls b o cap vs w h4 h0 h5 h6 h7 htx
theorem c11 (text : ByteArray) (ls : List (List C)) (v : Value) (w : World) (h : RowAt w v ls) (htx : text.size ≤ maxLen) :
  Calls Tryz.prog 42 #[.string text, v] w fun e w' => ∃ u, e = .returned (.tuple #[u, .int .i64 (makeE text ls)]) ∧ TermAt w' u (makeL text ls) ∧ Below w.heap.size w w' :=
 (c11o text ls v w h htx).mono fun _ _ ⟨u, h1, h2, h3, _⟩ => ⟨u, h1, h2, h3⟩
end Go.Proofs.YtljggjllijacjaaGreatDoor
