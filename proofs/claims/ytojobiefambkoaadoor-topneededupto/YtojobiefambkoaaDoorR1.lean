/- Contract of the reference End. -/
import Derived.Test.YtojobiefambkoaaDoorWD
namespace Go.Proofs.YtojobiefambkoaaDoor
open Go.RowKit
/-- The reference's way to the place behind the terms that are open. -/
def refF (len : Int) : List C → Int → Int → Int
  | [], i, q => if 0 < q then 0 else i
  | c :: r, i, q => if 0 < q then (if len < argsOf c.k c.n then 0 else refF len r (i + 1) (q - 1 + argsOf c.k c.n)) else i
theorem refF_short (len : Int) : ∀ (l : List C) (i q : Int), (l.length : Int) < q → refF len l i q = 0
  | [], i, q, h => by simp at h; simp [refF, h]
  | c :: r, i, q, h => by
    have ha := argsOf_nonneg c.k c.n
    simp at h
    have hq : 0 < q := by omega
    simp only [refF, hq, if_true]
    split
    · rfl
    · exact refF_short len r _ _ (by omega)
theorem refF_eq (len : Int) : ∀ (l : List C) (i q : Int), 0 < q → (l.length : Int) ≤ len → refF len l i q = endF len l i q
  | [], i, q, h, _ => by simp [refF, endF, h]
  | c :: r, i, q, h, hl => by
    have ha := argsOf_nonneg c.k c.n
    simp at hl
    simp only [refF, endF, h, if_true]
    by_cases h1 : len - q < argsOf c.k c.n
    · rw [if_pos h1]
      split
      · rfl
      · exact refF_short len r _ _ (by omega)
    · rw [if_neg h1, if_neg (by omega)]
      by_cases h2 : q + (argsOf c.k c.n - 1) = 0
      · rw [if_pos h2, show q - 1 + argsOf c.k c.n = 0 by omega]
        cases r <;> simp [refF]
      · rw [if_neg h2, show q - 1 + argsOf c.k c.n = q + (argsOf c.k c.n - 1) by omega]
        exact refF_eq len r _ _ (by omega) (by omega)
set_option maxHeartbeats 2000000 in
theorem c25_in (l : List C) (b o cap at_ : Nat) (w : World) (hr : w.rangeAt b o (flat l)) (_hb : b < w.heap.size) (hc : l.length ≤ 1048576) (h1 : at_ < l.length) :
    Calls Tryd.prog 86 #[.slice (some ⟨b, o, none⟩) l.length cap, .int .i64 (at_ : Int)] w fun e w' => e = .returned (.int .i64 (endS l at_)) ∧ w' = w := by
  have hsp : endS l at_ = refF l.length (l.drop at_) at_ 1 := by
    rw [refF_eq _ _ _ _ (by omega) (by simp)]
    unfold endS; rw [if_neg (by omega)]; simp
  rw [hsp]; clear hsp
  have h0' : ¬ ((at_ : Int) < 0) := by omega
  have h1' : ¬ ((l.length : Int) ≤ (at_ : Int)) := by omega
  have HR : Hid (w.rangeAt b o (flat l)) := hr
  clear hr
  go_enter Tryd.func86, Tryd.ntmps86
  go_wp2_with fail
  go_loop [1, 5] (fun i nd => ∃ k : Nat, ∃ q : Int, k ≤ l.length ∧ i = .int .i64 k ∧ nd = .int .i64 q ∧ 0 ≤ q ∧ q ≤ 1 + 1048576 * (k : Int) ∧ Hid (refF l.length (l.drop at_) at_ 1 = refF l.length (l.drop k) k q)) (fun i _ => l.length - (intOf i).toNat)
  case atStart => exact ⟨at_, 1, by omega, rfl, rfl, by omega, by omega, rfl⟩
  case round =>
    obtain ⟨k, q, hk, rfl, rfl, hq, hq2, HE⟩ := hrel
    by_cases hpos : 0 < q
    · by_cases hlt : k < l.length
      · have hlt' : ¬ ((l.length : Int) ≤ (k : Int)) := by omega
        obtain ⟨p0, p1, p2, p3, p4⟩ := term_cells HR.out k hlt
        have ha := argsOf_nonneg l[k].k l[k].n
        rw [drop_cons l k hlt] at HE
        have HE1 : Hid (refF l.length (l.drop at_) at_ 1 = if 0 < q then (if (l.length : Int) < argsOf l[k].k l[k].n then 0 else refF l.length (l.drop (k + 1)) ((k : Int) + 1) (q - 1 + argsOf l[k].k l[k].n)) else (k : Int)) := HE
        have HE2 : Hid (refF l.length (l.drop at_) at_ 1 = if (l.length : Int) < argsOf l[k].k l[k].n then 0 else refF l.length (l.drop (k + 1)) ((k : Int) + 1) (q - 1 + argsOf l[k].k l[k].n)) := by
          have h := HE1.out; rw [if_pos hpos] at h; exact h
        clear HE HE1
        by_cases h3 : l[k].k = 3
        · have h3b : (l[k].k == 3) = true := by simp [h3]
          by_cases hn : 0 < l[k].n
          · have ea : argsOf l[k].k l[k].n = l[k].n := by unfold argsOf; rw [if_pos h3]; omega
            rw [ea] at HE2
            clear ea ha h3
            generalize l[k].n = nn at *
            generalize l[k].k = kk at *
            by_cases hbig : (l.length : Int) < nn
            · have hF : Hid (refF l.length (l.drop at_) at_ 1 = 0) := by have h := HE2.out; rw [if_pos hbig] at h; exact h
              go_wp2_with fail
              go_ret
              exact ⟨by rw [hF.out]; rfl, rfl⟩
            · have hF : Hid (refF l.length (l.drop at_) at_ 1 = refF l.length (l.drop (k + 1)) ((k : Int) + 1) (q - 1 + nn)) := by have h := HE2.out; rw [if_neg hbig] at h; exact h
              go_wp2_with fail
              go_round
              case rel => exact ⟨k + 1, q - 1 + nn, by omega, by go_num, rfl, by omega, by omega, hF⟩
              case measure => simp [intOf]; omega
          · have ea : argsOf l[k].k l[k].n = 0 := by unfold argsOf; rw [if_pos h3]; omega
            rw [ea] at HE2
            have hF : Hid (refF l.length (l.drop at_) at_ 1 = refF l.length (l.drop (k + 1)) ((k : Int) + 1) (q - 1 + 0)) := by have h := HE2.out; rw [if_neg (by omega)] at h; exact h
            clear ea ha h3 HE2
            generalize l[k].n = nn at *
            generalize l[k].k = kk at *
            go_wp2_with fail
            go_round
            case rel => exact ⟨k + 1, q - 1, by omega, by go_num, rfl, by omega, by omega, by have h := hF.out; rw [show q - 1 + 0 = q - 1 by omega] at h; exact h⟩
            case measure => simp [intOf]; omega
        · have h3b : (l[k].k == 3) = false := by simp [h3]
          have ea : argsOf l[k].k l[k].n = 0 := by unfold argsOf; rw [if_neg h3]
          rw [ea] at HE2
          have hF : Hid (refF l.length (l.drop at_) at_ 1 = refF l.length (l.drop (k + 1)) ((k : Int) + 1) (q - 1 + 0)) := by have h := HE2.out; rw [if_neg (by omega)] at h; exact h
          clear ea ha h3 HE2
          generalize l[k].n = nn at *
          generalize l[k].k = kk at *
          go_wp2_with fail
          go_round
          case rel => exact ⟨k + 1, q - 1, by omega, by go_num, rfl, by omega, by omega, by have h := hF.out; rw [show q - 1 + 0 = q - 1 by omega] at h; exact h⟩
          case measure => simp [intOf]; omega
      · have hlt' : (l.length : Int) ≤ (k : Int) := by omega
        have hF : Hid (refF l.length (l.drop at_) at_ 1 = 0) := by
          have h := HE.out; rw [List.drop_of_length_le (l := l) (i := k) (by omega)] at h
          show refF l.length (l.drop at_) at_ 1 = 0
          rw [h]; simp [refF, hpos]
        go_wp2_with fail
        go_ret
        exact ⟨by rw [hF.out]; rfl, rfl⟩
    · have hF : Hid (refF l.length (l.drop at_) at_ 1 = (k : Int)) := by
        have h := HE.out
        show refF l.length (l.drop at_) at_ 1 = (k : Int)
        rw [h]; cases l.drop k <;> simp [refF, hpos]
      go_wp2_with fail
      go_ret
      exact ⟨by rw [hF.out]; rfl, rfl⟩
set_option maxHeartbeats 1000000 in
theorem c25_out (len cap : Nat) (ad : Option Addr) (p : Int) (w : World) (h : p < 0 ∨ (len : Int) ≤ p) :
    Calls Tryd.prog 86 #[.slice ad len cap, .int .i64 p] w fun e w' => e = .returned (.int .i64 0) ∧ w' = w := by
  by_cases h0 : p < 0
  · go_enter Tryd.func86, Tryd.ntmps86
    go_wp2_with fail
    go_ret
    exact ⟨rfl, rfl⟩
  · have h1 : (len : Int) ≤ p := by omega
    go_enter Tryd.func86, Tryd.ntmps86
    go_wp2_with fail
    go_ret
    exact ⟨rfl, rfl⟩
theorem c25 (l : List C) (v : Value) (p : Int) (w : World) (h : TermAt w v l) (hc : l.length ≤ 1048576) :
    Calls Tryd.prog 86 #[v, .int .i64 p] w fun e w' => e = .returned (.int .i64 (endS l p)) ∧ w' = w := by
  obtain ⟨_, h⟩ := h
  by_cases hp : p < 0 ∨ (l.length : Int) ≤ p
  · have e : endS l p = 0 := by unfold endS; rw [if_pos hp]
    rw [e]
    rcases h with ⟨rfl, ad, rfl⟩ | ⟨b, o, cap, rfl, h2, h5, h3, h4⟩
    · exact c25_out 0 0 ad p w hp
    · exact c25_out _ _ _ p w hp
  · rcases h with ⟨rfl, ad, rfl⟩ | ⟨b, o, cap, rfl, h2, h5, h3, h4⟩
    · exfalso; simp at hp; omega
    · obtain ⟨at_, rfl⟩ := Int.eq_ofNat_of_zero_le (a := p) (by omega)
      exact c25_in l b o cap at_ w h3 h4 hc (by omega)
end Go.Proofs.YtojobiefambkoaaDoor
