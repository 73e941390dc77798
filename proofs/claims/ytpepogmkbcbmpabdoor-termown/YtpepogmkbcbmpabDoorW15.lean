/- Rows of terms in memory, and the contract of allRight. -/
import Derived.Test.YtpepogmkbcbmpabDoorW14
namespace Go.Proofs.YtpepogmkbcbmpabDoor
open Go.RowKit
/-- A row of terms in memory. -/
def RowAt (w : World) (v : Value) (ls : List (List C)) : Prop :=
  ls.length ≤ maxLen ∧ ((ls = [] ∧ ∃ ad : Option Addr, v = .slice ad 0 0) ∨ ∃ (b o cap : Nat) (vs : List Value), v = .slice (some ⟨b, o, none⟩) ls.length cap ∧ ls.length ≤ cap ∧ cap ≤ maxLen ∧ b < w.heap.size ∧ vs.length = ls.length ∧ w.rangeAt b o vs ∧ ∀ (i : Nat) (u : Value) (l : List C), vs[i]? = some u → ls[i]? = some l → TermAt w u l)
theorem RowAt.below {w w' : World} {v : Value} {ls : List (List C)} (h : RowAt w v ls) (hb : Below w.heap.size w w') : RowAt w' v ls := by
  obtain ⟨h0, h⟩ := h
  refine ⟨h0, ?_⟩
  rcases h with h | ⟨b, o, cap, vs, h1, h2, h3, h4, h5, h6, h7⟩
  · exact Or.inl h
  · exact Or.inr ⟨b, o, cap, vs, h1, h2, h3, Nat.lt_of_lt_of_le h4 hb.size, h5, range_below h6 h4 hb, fun i u l hu hl => (h7 i u l hu hl).below hb⟩
theorem RowAt.form {w : World} {v : Value} {ls : List (List C)} (h : RowAt w v ls) : ∃ (ad : Option Addr) (cap : Nat), v = .slice ad ls.length cap := by
  rcases h.2 with ⟨rfl, ad, rfl⟩ | ⟨b, o, cap, vs, rfl, _⟩
  · exact ⟨ad, 0, rfl⟩
  · exact ⟨_, _, rfl⟩
theorem TermAt.form {w : World} {v : Value} {l : List C} (h : TermAt w v l) : ∃ (ad : Option Addr) (cap : Nat), v = .slice ad l.length cap := by
  rcases h.2 with ⟨rfl, ad, rfl⟩ | ⟨b, o, cap, rfl, _⟩
  · exact ⟨ad, 0, rfl⟩
  · exact ⟨_, _, rfl⟩
theorem row_cell {w : World} {b o : Nat} {vs : List Value} (h : w.rangeAt b o vs) (k : Nat) (hk : k < vs.length) : w.cell? ⟨b, o + k, none⟩ = some vs[k] :=
  h k _ (List.getElem?_eq_getElem hk)
def allRightB (ls : List (List C)) : Bool := ls.all rightB
theorem rights_snoc (l : List (List C)) (k : Nat) (hk : k < l.length) (h : (l.take k).all rightB = true) (hi : rightB l[k] = true) : (l.take (k + 1)).all rightB = true := by
  rw [List.take_succ_eq_append_getElem hk, List.all_append, h]; simp [hi]
theorem rights_false (l : List (List C)) (k : Nat) (hk : k < l.length) (hi : rightB l[k] = false) : allRightB l = false := by
  unfold allRightB; rw [List.all_eq_false]; exact ⟨l[k], List.getElem_mem _, by simp [hi]⟩
set_option maxHeartbeats 1000000 in
theorem c44_in (ls : List (List C)) (b o cap : Nat) (vs : List Value) (w : World) (hb : b < w.heap.size) (hc : ls.length ≤ maxLen) (hvl : vs.length = ls.length) (hr : w.rangeAt b o vs) (ht : ∀ (i : Nat) (u : Value) (l : List C), vs[i]? = some u → ls[i]? = some l → TermAt w u l) (hS : Signs w) :
    Calls Tryd.prog 28 #[.slice (some ⟨b, o, none⟩) ls.length cap] w fun e w' => e = .returned (.bool (allRightB ls)) ∧ Below w.heap.size w w' := by
  unfold maxLen at hc
  have HR : Hid (w.rangeAt b o vs) := hr
  have HS : Hid (Signs w) := hS
  have HT : Hid (∀ (i : Nat) (u : Value) (l : List C), vs[i]? = some u → ls[i]? = some l → TermAt w u l) := ht
  have HV : Hid (vs.length = ls.length) := hvl
  clear hr hS ht hvl
  go_enter Tryd.func28, Tryd.ntmps28
  go_wp2_with fail
  go_loopw [7] (fun i wr => ∃ k : Nat, k ≤ ls.length ∧ i = .int .i64 k ∧ Hid ((ls.take k).all rightB = true) ∧ Below w.heap.size w wr) (fun i _ => ls.length - (intOf i).toNat)
  case atStart => exact ⟨0, by omega, rfl, rfl, Below.refl _ _⟩
  case round =>
    obtain ⟨k, hk, rfl, hall, hbr⟩ := hrel
    by_cases hlt : k < ls.length
    · have hlt' : (k : Int) < (ls.length : Int) := by omega
      have hkv : k < vs.length := by rw [HV.out]; exact hlt
      have p0 := row_cell (range_below HR.out hb hbr) k hkv
      have hbz : b < wr.heap.size := Nat.lt_of_lt_of_le hb hbr.size
      have HC : Hid (Calls Tryd.prog 11 #[vs[k]] wr fun e w' => e = .returned (.bool (rightB ls[k])) ∧ Below wr.heap.size wr w') := c22 ls[k] vs[k] wr ((HT.out k _ _ (List.getElem?_eq_getElem hkv) (List.getElem?_eq_getElem hlt)).below hbr) (HS.out.below hbr)
      generalize vs[k] = u at p0 HC
      cases hok : rightB ls[k]
      · have hF : Hid (allRightB ls = false) := rights_false ls k hlt hok
        rw [hok] at HC
        clear hok
        go_wp2_with fail
        refine HC.out.mono ?_
        rintro e w' ⟨rfl, hb2⟩
        go_wp2_with fail
        go_ret
        exact ⟨by rw [hF.out]; rfl, hbr.trans (hb2.mono hbr.size)⟩
      · have hT : Hid ((ls.take (k + 1)).all rightB = true) := rights_snoc ls k hlt hall.out hok
        rw [hok] at HC
        clear hok
        go_wp2_with fail
        refine HC.out.mono ?_
        rintro e w' ⟨rfl, hb2⟩
        go_wp2_with fail
        go_roundw
        case rel => exact ⟨k + 1, by omega, by go_num, hT, hbr.trans (hb2.mono hbr.size)⟩
        case measure => simp [intOf]; omega
    · have hT : Hid (allRightB ls = true) := by
        have h := hall.out; rw [List.take_of_length_le (by omega)] at h; exact h
      have hlt' : ¬ ((k : Int) < (ls.length : Int)) := by omega
      go_wp2_with fail
      go_ret
      exact ⟨by rw [hT.out]; rfl, hbr⟩
set_option maxHeartbeats 1000000 in
theorem c44_nil (ad : Option Addr) (w : World) :
    Calls Tryd.prog 28 #[.slice ad 0 0] w fun e w' => e = .returned (.bool true) ∧ Below w.heap.size w w' := by
  go_enter Tryd.func28, Tryd.ntmps28
  go_wp2_with fail
  refine wp_loop_rounds 1 ?_
  rw [rounds_succ]
  go_wp2_with fail
  go_ret
  exact ⟨rfl, Below.refl _ _⟩
theorem c44 (ls : List (List C)) (v : Value) (w : World) (h : RowAt w v ls) (hS : Signs w) :
    Calls Tryd.prog 28 #[v] w fun e w' => e = .returned (.bool (allRightB ls)) ∧ Below w.heap.size w w' := by
  obtain ⟨hc, h⟩ := h
  rcases h with ⟨rfl, ad, rfl⟩ | ⟨b, o, cap, vs, rfl, h2, h3, h4, h5, h6, h7⟩
  · exact c44_nil ad w
  · exact c44_in ls b o cap vs w h4 hc h5 h6 h7 hS
end Go.Proofs.YtpepogmkbcbmpabDoor
