/- Terms in memory, and the contract of End: for every term and place it returns the place behind the term there, or 0. -/
import Derived.Test.YtaehhophaaipdabDoorW7
namespace Go.Proofs.YtaehhophaaipdabDoor
open Go.RowKit
/-- A cell of a term. -/
structure C where
  k : Int
  t : ByteArray
  n : Int
  vn : Int
  vk : Int
def C.vals (c : C) : List Value := [.int .u8 c.k, .string c.t, .int .i64 c.n, .int .i64 c.vn, .int .i64 c.vk]
def flat (l : List C) : List Value := l.flatMap C.vals
theorem flat_length (l : List C) : (flat l).length = 5 * l.length := by
  induction l with
  | nil => rfl
  | cons a r ih => simp [flat, C.vals] at *; omega
theorem flat_get (l : List C) (i j : Nat) (hi : i < l.length) (hj : j < 5) : (flat l)[5 * i + j]? = (l[i].vals)[j]? := by
  induction l generalizing i with
  | nil => simp at hi
  | cons a r ih =>
    cases i with
    | zero =>
      simp only [flat, List.flatMap_cons]
      rw [List.getElem?_append_left (by simp [C.vals]; omega)]
      simp
    | succ i =>
      simp only [flat, List.flatMap_cons]
      rw [List.getElem?_append_right (by simp [C.vals]; omega)]
      have e : 5 * (i + 1) + j - a.vals.length = 5 * i + j := by simp [C.vals]; omega
      rw [e]
      exact ih i (by simpa using hi)
/-- The cells lie in one block, one behind the other. -/
theorem range_below {w w' : World} {b o : Nat} {cs : List Value} (h : w.rangeAt b o cs) (hb : b < w.heap.size) (hw : Below w.heap.size w w') : w'.rangeAt b o cs :=
  fun j v hv => (hw.cell (p := ⟨b, o + j, none⟩) hb).trans (h j v hv)
theorem term_cells {w : World} {b o : Nat} {l : List C} (h : w.rangeAt b o (flat l)) (i : Nat) (hi : i < l.length) :
    w.cell? ⟨b, o + i * 5, none⟩ = some (.int .u8 l[i].k) ∧ w.cell? ⟨b, o + i * 5 + 1, none⟩ = some (.string l[i].t) ∧ w.cell? ⟨b, o + i * 5 + 2, none⟩ = some (.int .i64 l[i].n) ∧ w.cell? ⟨b, o + i * 5 + 3, none⟩ = some (.int .i64 l[i].vn) ∧ w.cell? ⟨b, o + i * 5 + 4, none⟩ = some (.int .i64 l[i].vk) := by
  have g : ∀ j v, j < 5 → (l[i].vals)[j]? = some v → w.cell? ⟨b, o + i * 5 + j, none⟩ = some v := by
    intro j v hj hv
    have := h (5 * i + j) v (by rw [flat_get l i j hi hj]; exact hv)
    rw [show o + (5 * i + j) = o + i * 5 + j by omega] at this
    exact this
  exact ⟨g 0 _ (by omega) rfl, g 1 _ (by omega) rfl, g 2 _ (by omega) rfl, g 3 _ (by omega) rfl, g 4 _ (by omega) rfl⟩
/-- The place behind the terms that are open, from a place on; 0: there is none. -/
def endF (len : Int) : List C → Int → Int → Int
  | [], _, _ => 0
  | c :: r, i, q => if len - q < argsOf c.k c.n then 0 else if q + (argsOf c.k c.n - 1) = 0 then i + 1 else endF len r (i + 1) (q + (argsOf c.k c.n - 1))
def endS (l : List C) (p : Int) : Int := if p < 0 ∨ (l.length : Int) ≤ p then 0 else endF l.length (l.drop p.toNat) p 1
theorem argsOf_nonneg (k n : Int) : 0 ≤ argsOf k n := by unfold argsOf; split <;> omega
theorem drop_cons (l : List C) (k : Nat) (h : k < l.length) : l.drop k = l[k] :: l.drop (k + 1) := List.drop_eq_getElem_cons h
set_option maxHeartbeats 1000000 in
theorem c24_in (l : List C) (b o cap at_ : Nat) (w : World) (hr : w.rangeAt b o (flat l)) (hb : b < w.heap.size) (hc : l.length ≤ maxLen) (h1 : at_ < l.length) :
    Calls Tryd.prog 26 #[.slice (some ⟨b, o, none⟩) l.length cap, .int .i64 (at_ : Int)] w fun e w' => e = .returned (.int .i64 (endS l at_)) ∧ Below w.heap.size w w' := by
  have hsp : endS l at_ = endF l.length (l.drop at_) at_ 1 := by
    unfold endS; rw [if_neg (by omega)]; simp
  rw [hsp]; clear hsp
  unfold maxLen at hc
  have h0' : ¬ ((at_ : Int) < 0) := by omega
  have h1' : ¬ ((l.length : Int) ≤ (at_ : Int)) := by omega
  have HR : Hid (w.rangeAt b o (flat l)) := hr
  clear hr
  go_enter Tryd.func26, Tryd.ntmps26
  go_wp2_with fail
  go_loopw [5, 6] (fun op i wr => ∃ k : Nat, ∃ q : Int, k ≤ l.length ∧ i = .int .i64 k ∧ op = .int .i64 q ∧ 0 < q ∧ q ≤ l.length ∧ Hid (endF l.length (l.drop at_) at_ 1 = endF l.length (l.drop k) k q) ∧ Below w.heap.size w wr) (fun _ i _ => l.length - (intOf i).toNat)
  case atStart => exact ⟨at_, 1, by omega, rfl, rfl, by omega, by omega, rfl, Below.refl _ _⟩
  case round =>
    obtain ⟨k, q, hk, rfl, rfl, hq, hq2, HE, hbr⟩ := hrel
    by_cases hlt : k < l.length
    · have hlt' : (k : Int) < (l.length : Int) := by omega
      obtain ⟨p0, p1, p2, p3, p4⟩ := term_cells (range_below HR.out hb hbr) k hlt
      have hbz : b < wr.heap.size := Nat.lt_of_lt_of_le hb hbr.size
      have ha := argsOf_nonneg l[k].k l[k].n
      have HC := c50 l[k].k l[k].t l[k].n l[k].vn l[k].vk
      rw [drop_cons l k hlt] at HE
      have HE : Hid (endF l.length (l.drop at_) at_ 1 = if (l.length : Int) - q < argsOf l[k].k l[k].n then 0 else if q + (argsOf l[k].k l[k].n - 1) = 0 then (k : Int) + 1 else endF l.length (l.drop (k + 1)) ((k : Int) + 1) (q + (argsOf l[k].k l[k].n - 1))) := HE
      generalize argsOf l[k].k l[k].n = a at *
      have HC : Hid (∀ w : World, _) := HC
      by_cases hx : (l.length : Int) - q < a
      · have hE : Hid (endF l.length (l.drop at_) at_ 1 = 0) := by have h := HE.out; rw [if_pos hx] at h; exact h
        go_wp2_with fail
        refine (HC.out _).mono ?_
        rintro e w' ⟨rfl, hb2⟩
        go_wp2_with fail
        go_ret
        exact ⟨by rw [hE.out]; rfl, hbr.trans (hb2.mono (by have := hbr.size; omega))⟩
      · by_cases hy : q + (a - 1) = 0
        · have hE : Hid (endF l.length (l.drop at_) at_ 1 = (k : Int) + 1) := by have h := HE.out; rw [if_neg hx, if_pos hy] at h; exact h
          have hy' : q + (a - 1) ≤ 0 := by omega
          have hy2 : 0 ≤ q + (a - 1) := by omega
          have hyb : ((q + (a - 1)) == 0) = true := by simp [hy]
          clear hy
          go_wp2_with fail
          refine (HC.out _).mono ?_
          rintro e w' ⟨rfl, hb2⟩
          go_wp2_with fail
          go_ret
          exact ⟨by rw [hE.out]; rfl, hbr.trans (hb2.mono (by have := hbr.size; omega))⟩
        · have hE : Hid (endF l.length (l.drop at_) at_ 1 = endF l.length (l.drop (k + 1)) ((k : Int) + 1) (q + (a - 1))) := by have h := HE.out; rw [if_neg hx, if_neg hy] at h; exact h
          have hyb : ((q + (a - 1)) == 0) = false := by simp; omega
          go_wp2_with fail
          refine (HC.out _).mono ?_
          rintro e w' ⟨rfl, hb2⟩
          go_wp2_with fail
          go_roundw
          case rel => exact ⟨k + 1, q + (a - 1), by omega, by go_num, rfl, by omega, by omega, hE, hbr.trans (hb2.mono (by have := hbr.size; omega))⟩
          case measure => simp [intOf]; omega
    · have hE : Hid (endF l.length (l.drop at_) at_ 1 = 0) := by
        have h := HE.out; rw [List.drop_of_length_le (l := l) (i := k) (by omega)] at h; exact h
      have hlt' : ¬ ((k : Int) < (l.length : Int)) := by omega
      go_wp2_with fail
      go_ret
      exact ⟨by rw [hE.out]; rfl, hbr⟩
set_option maxHeartbeats 1000000 in
theorem c24_out (len cap : Nat) (ad : Option Addr) (p : Int) (w : World) (_hc : len ≤ maxLen) (h : p < 0 ∨ (len : Int) ≤ p) :
    Calls Tryd.prog 26 #[.slice ad len cap, .int .i64 p] w fun e w' => e = .returned (.int .i64 0) ∧ Below w.heap.size w w' := by
  unfold maxLen at _hc
  by_cases h0 : p < 0
  · go_enter Tryd.func26, Tryd.ntmps26
    go_wp2_with fail
    go_ret
    exact ⟨rfl, Below.refl _ _⟩
  · have h1 : (len : Int) ≤ p := by omega
    go_enter Tryd.func26, Tryd.ntmps26
    go_wp2_with fail
    go_ret
    exact ⟨rfl, Below.refl _ _⟩
/-- A term in memory. -/
def TermAt (w : World) (v : Value) (l : List C) : Prop :=
  (l.length ≤ maxLen ∧ ∀ c ∈ l, c.t.size ≤ maxLen) ∧ ((l = [] ∧ ∃ ad : Option Addr, v = .slice ad 0 0) ∨ ∃ b o cap : Nat, v = .slice (some ⟨b, o, none⟩) l.length cap ∧ l.length ≤ cap ∧ cap ≤ maxLen ∧ w.rangeAt b o (flat l) ∧ b < w.heap.size)
theorem TermAt.below {w w' : World} {v : Value} {l : List C} (h : TermAt w v l) (hb : Below w.heap.size w w') : TermAt w' v l := by
  obtain ⟨h0, h⟩ := h
  refine ⟨h0, ?_⟩
  rcases h with h | ⟨b, o, cap, h1, h2, h5, h3, h4⟩
  · exact Or.inl h
  · exact Or.inr ⟨b, o, cap, h1, h2, h5, range_below h3 h4 hb, Nat.lt_of_lt_of_le h4 hb.size⟩
theorem c24 (l : List C) (v : Value) (p : Int) (w : World) (h : TermAt w v l) :
    Calls Tryd.prog 26 #[v, .int .i64 p] w fun e w' => e = .returned (.int .i64 (endS l p)) ∧ Below w.heap.size w w' := by
  obtain ⟨⟨hc, _⟩, h⟩ := h
  by_cases hp : p < 0 ∨ (l.length : Int) ≤ p
  · have e : endS l p = 0 := by unfold endS; rw [if_pos hp]
    rw [e]
    rcases h with ⟨rfl, ad, rfl⟩ | ⟨b, o, cap, rfl, h2, h5, h3, h4⟩
    · exact c24_out 0 0 ad p w hc hp
    · exact c24_out _ _ _ p w hc hp
  · rcases h with ⟨rfl, ad, rfl⟩ | ⟨b, o, cap, rfl, h2, h5, h3, h4⟩
    · exfalso; simp at hp; omega
    · obtain ⟨at_, rfl⟩ := Int.eq_ofNat_of_zero_le (a := p) (by omega)
      exact c24_in l b o cap at_ w h3 h4 hc (by omega)
end Go.Proofs.YtaehhophaaipdabDoor
