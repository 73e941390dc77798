/- Contract of obeys: for every cell and every table of rules it says whether the cell is whole in itself. Terms in memory, and the contract of End: for every term and place it returns the place behind the term there, or 0. Contracts of rightCells and of Right: for every term it returns whether it is one. Contracts of single, OfInt, OfAtom, OfVar: for every argument each returns the term of one cell, or none. Contract of the library function Grow of an empty list of cells. -/
import Derived.Test.YtljggjllijacjaaGreatDoorW9xg
import Derived.Test.YtljggjllijacjaaGreatDoorWBg
import Derived.Lib.AppendZeros
import Derived.Deep.AppendLies
namespace Go.Proofs.YtljggjllijacjaaGreatDoor
open Go.RowKit
/-- Is a cell whole in itself? -/
def cellB (k : Int) (t : ByteArray) (n vn vk : Int) : Bool :=
 if k = 1 then eqCells 1 t n vn vk 1 ⟨#[]⟩ n 0 0 && between (-2147483648) 2147483648 n
 else if k = 2 then eqCells 2 t n vn vk 2 t 0 0 0 && isNameB t.data.toList
 else if k = 3 then eqCells 3 t n vn vk 3 t n 0 0 && structFits 1 8 t.data.toList n
 else if k = 4 then eqCells 4 t n vn vk 4 ⟨#[]⟩ 0 vn vk && (between (-1) 3 vn && decide (0 ≤ vk))
 else false
theorem c62 (k : Int) (t : ByteArray) (n vn vk : Int) (v : Value) (w : World) (hR : Rules w v) (hSg : Signs w) (ht : t.size ≤ maxLen) :
  Calls Tryz.prog 111 #[.agg #[.int .u8 k, .string t, .int .i64 n, .int .i64 vn, .int .i64 vk], v] w fun e w' => e = .returned (.bool (cellB k t n vn vk)) ∧ Below w.heap.size w w' := by
 by_cases h1 : k = 1
 ·subst h1
  cases hg : eqCells 1 t n vn vk 1 ⟨#[]⟩ n 0 0
  ·have e : cellB 1 t n vn vk = false := by simp [cellB, hg]
   rw [e]; exact c62_1_false t n vn vk v w hR hg
  ·have e : cellB 1 t n vn vk = between (-2147483648) 2147483648 n := by simp [cellB, hg]
   rw [e]; exact c62_1_true t n vn vk v w hR hg
 by_cases h2 : k = 2
 ·subst h2
  cases hg : eqCells 2 t n vn vk 2 t 0 0 0
  ·have e : cellB 2 t n vn vk = false := by simp [cellB, hg]
   rw [e]; exact c62_2_false t n vn vk v w hR hg
  ·have e : cellB 2 t n vn vk = isNameB t.data.toList := by simp [cellB, hg]
   rw [e]; exact c62_2_true t n vn vk v w hR ht hg
 by_cases h3 : k = 3
 ·subst h3
  cases hg : eqCells 3 t n vn vk 3 t n 0 0
  ·have e : cellB 3 t n vn vk = false := by simp [cellB, hg]
   rw [e]; exact c62_3_false t n vn vk v w hR hg
  ·have e : cellB 3 t n vn vk = structFits 1 8 t.data.toList n := by simp [cellB, hg]
   rw [e]; exact c62_3_true t n vn vk v w hR ht hSg hg
 by_cases h4 : k = 4
 ·subst h4
  cases hg : eqCells 4 t n vn vk 4 ⟨#[]⟩ 0 vn vk
  ·have e : cellB 4 t n vn vk = false := by simp [cellB, hg]
   rw [e]; exact c62_4_false t n vn vk v w hR hg
  ·have e : cellB 4 t n vn vk = (between (-1) 3 vn && decide (0 ≤ vk)) := by simp [cellB, hg]
   rw [e]; exact c62_4_true t n vn vk v w hR hg
 have e : cellB k t n vn vk = false := by simp [cellB, h1, h2, h3, h4]
 rw [e]
 exact c62_other k t n vn vk v w hR (by simp; omega) (by simp; omega) (by simp; omega) (by simp; omega)
end Go.Proofs.YtljggjllijacjaaGreatDoor

namespace Go.Proofs.YtljggjllijacjaaGreatDoor
open Go.RowKit
/-- A cell of a term. -/
structure C where
 k : Int
 t : ByteArray
 n : Int
 vn : Int
 vk : Int
def C.vals (c : C) : List Value := [.int .u8 c.k, .string c.t, .int .i64 c.n, .int .i64 c.vn, .int .i64 c.vk]
def flat (l : List C) : List Value := l.flatMap C.vals
theorem flat_length (l : List C) : (flat l).length = 5 * l.length := by
 induction l with
 | nil => rfl
 | cons a r ih => simp [flat, C.vals] at *; omega
theorem flat_get (l : List C) (i j : Nat) (hi : i < l.length) (hj : j < 5) : (flat l)[5 * i + j]? = (l[i].vals)[j]? := by
 induction l generalizing i with
 | nil => simp at hi
 | cons a r ih =>
  cases i with
  | zero =>
   simp only [flat, List.flatMap_cons]
   rw [List.getElem?_append_left (by simp [C.vals]; omega)]
   simp
  | succ i =>
   simp only [flat, List.flatMap_cons]
   rw [List.getElem?_append_right (by simp [C.vals]; omega)]
   have e : 5 * (i + 1) + j - a.vals.length = 5 * i + j := by simp [C.vals]; omega
   rw [e]
   exact ih i (by simpa using hi)
/-- The cells lie in one block, one behind the other. -/
theorem range_below {w w' : World} {b o : Nat} {cs : List Value} (h : w.rangeAt b o cs) (hb : b < w.heap.size) (hw : Below w.heap.size w w') : w'.rangeAt b o cs :=
 fun j v hv => (hw.cell (p := ⟨b, o + j, none⟩) hb).trans (h j v hv)
theorem term_cells {w : World} {b o : Nat} {l : List C} (h : w.rangeAt b o (flat l)) (i : Nat) (hi : i < l.length) :
  w.cell? ⟨b, o + i * 5, none⟩ = some (.int .u8 l[i].k) ∧ w.cell? ⟨b, o + i * 5 + 1, none⟩ = some (.string l[i].t) ∧ w.cell? ⟨b, o + i * 5 + 2, none⟩ = some (.int .i64 l[i].n) ∧ w.cell? ⟨b, o + i * 5 + 3, none⟩ = some (.int .i64 l[i].vn) ∧ w.cell? ⟨b, o + i * 5 + 4, none⟩ = some (.int .i64 l[i].vk) := by
 have g : ∀ j v, j < 5 → (l[i].vals)[j]? = some v → w.cell? ⟨b, o + i * 5 + j, none⟩ = some v := by
  intro j v hj hv
  have := h (5 * i + j) v (by rw [flat_get l i j hi hj]; exact hv)
  rw [show o + (5 * i + j) = o + i * 5 + j by omega] at this
  exact this
 exact ⟨g 0 _ (by omega) rfl, g 1 _ (by omega) rfl, g 2 _ (by omega) rfl, g 3 _ (by omega) rfl, g 4 _ (by omega) rfl⟩
/-- The place behind the terms that are open, from a place on; 0: there is none. -/
def endF (len : Int) : List C → Int → Int → Int
 | [], _, _ => 0
 | c :: r, i, q => if len - q < argsOf c.k c.n then 0 else if q + (argsOf c.k c.n - 1) = 0 then i + 1 else endF len r (i + 1) (q + (argsOf c.k c.n - 1))
def endS (l : List C) (p : Int) : Int := if p < 0 ∨ (l.length : Int) ≤ p then 0 else endF l.length (l.drop p.toNat) p 1
theorem argsOf_nonneg (k n : Int) : 0 ≤ argsOf k n := by unfold argsOf; split <;> omega
theorem drop_cons (l : List C) (k : Nat) (h : k < l.length) : l.drop k = l[k] :: l.drop (k + 1) := List.drop_eq_getElem_cons h
set_option maxHeartbeats 1000000 in
theorem c24_in (l : List C) (b o cap at_ : Nat) (w : World) (hr : w.rangeAt b o (flat l)) (hb : b < w.heap.size) (hc : l.length ≤ maxLen) (h1 : at_ < l.length) :
  Calls Tryz.prog 94 #[.slice (some ⟨b, o, none⟩) l.length cap, .int .i64 (at_ : Int)] w fun e w' => e = .returned (.int .i64 (endS l at_)) ∧ Below w.heap.size w w' := by
 have hsp : endS l at_ = endF l.length (l.drop at_) at_ 1 := by
  unfold endS; rw [if_neg (by omega)]; simp
 rw [hsp]; clear hsp
 unfold maxLen at hc
 have h0' : ¬ ((at_ : Int) < 0) := by omega
 have h1' : ¬ ((l.length : Int) ≤ (at_ : Int)) := by omega
 have HR : Hid (w.rangeAt b o (flat l)) := hr
 clear hr
 go_enter Tryz.func94, Tryz.ntmps94
 go_wp2_with fail
 go_loopw [5, 6] (fun op i wr => ∃ k : Nat, ∃ q : Int, k ≤ l.length ∧ i = .int .i64 k ∧ op = .int .i64 q ∧ 0 < q ∧ q ≤ l.length ∧ Hid (endF l.length (l.drop at_) at_ 1 = endF l.length (l.drop k) k q) ∧ Below w.heap.size w wr) (fun _ i _ => l.length - (intOf i).toNat)
 case atStart => exact ⟨at_, 1, by omega, rfl, rfl, by omega, by omega, rfl, Below.refl _ _⟩
 case round =>
  obtain ⟨k, q, hk, rfl, rfl, hq, hq2, HE, hbr⟩ := hrel
  by_cases hlt : k < l.length
  ·have hlt' : (k : Int) < (l.length : Int) := by omega
   obtain ⟨p0, p1, p2, p3, p4⟩ := term_cells (range_below HR.out hb hbr) k hlt
   have hbz : b < wr.heap.size := Nat.lt_of_lt_of_le hb hbr.size
   have ha := argsOf_nonneg l[k].k l[k].n
   have HC := c50 l[k].k l[k].t l[k].n l[k].vn l[k].vk
   rw [drop_cons l k hlt] at HE
   have HE : Hid (endF l.length (l.drop at_) at_ 1 = if (l.length : Int) - q < argsOf l[k].k l[k].n then 0 else if q + (argsOf l[k].k l[k].n - 1) = 0 then (k : Int) + 1 else endF l.length (l.drop (k + 1)) ((k : Int) + 1) (q + (argsOf l[k].k l[k].n - 1))) := HE
   generalize argsOf l[k].k l[k].n = a at *
   have HC : Hid (∀ w : World, _) := HC
   by_cases hx : (l.length : Int) - q < a
   ·have hE : Hid (endF l.length (l.drop at_) at_ 1 = 0) := by have h := HE.out; rw [if_pos hx] at h; exact h
    go_wp2_with fail
    refine (HC.out _).mono ?_
    rintro e w' ⟨rfl, hb2⟩
    go_wp2_with fail
    go_ret
    exact ⟨by rw [hE.out]; rfl, hbr.trans (hb2.mono (by have := hbr.size; omega))⟩
   ·by_cases hy : q + (a - 1) = 0
    ·have hE : Hid (endF l.length (l.drop at_) at_ 1 = (k : Int) + 1) := by have h := HE.out; rw [if_neg hx, if_pos hy] at h; exact h
     have hy' : q + (a - 1) ≤ 0 := by omega
     have hy2 : 0 ≤ q + (a - 1) := by omega
     have hyb : ((q + (a - 1)) == 0) = true := by simp [hy]
     clear hy
     go_wp2_with fail
     refine (HC.out _).mono ?_
     rintro e w' ⟨rfl, hb2⟩
     go_wp2_with fail
     go_ret
     exact ⟨by rw [hE.out]; rfl, hbr.trans (hb2.mono (by have := hbr.size; omega))⟩
    ·have hE : Hid (endF l.length (l.drop at_) at_ 1 = endF l.length (l.drop (k + 1)) ((k : Int) + 1) (q + (a - 1))) := by have h := HE.out; rw [if_neg hx, if_neg hy] at h; exact h
     have hyb : ((q + (a - 1)) == 0) = false := by simp; omega
     go_wp2_with fail
     refine (HC.out _).mono ?_
     rintro e w' ⟨rfl, hb2⟩
     go_wp2_with fail
     go_roundw
     case rel => exact ⟨k + 1, q + (a - 1), by omega, by go_num, rfl, by omega, by omega, hE, hbr.trans (hb2.mono (by have := hbr.size; omega))⟩
     case measure => simp [intOf]; omega
  ·have hE : Hid (endF l.length (l.drop at_) at_ 1 = 0) := by
    have h := HE.out; rw [List.drop_of_length_le (l := l) (i := k) (by omega)] at h; exact h
   have hlt' : ¬ ((k : Int) < (l.length : Int)) := by omega
   go_wp2_with fail
   go_ret
   exact ⟨by rw [hE.out]; rfl, hbr⟩
set_option maxHeartbeats 1000000 in
theorem c24_out (len cap : Nat) (ad : Option Addr) (p : Int) (w : World) (_hc : len ≤ maxLen) (h : p < 0 ∨ (len : Int) ≤ p) :
  Calls Tryz.prog 94 #[.slice ad len cap, .int .i64 p] w fun e w' => e = .returned (.int .i64 0) ∧ Below w.heap.size w w' := by
 unfold maxLen at _hc
 by_cases h0 : p < 0
 ·go_enter Tryz.func94, Tryz.ntmps94
  go_wp2_with fail
  go_ret
  exact ⟨rfl, Below.refl _ _⟩
 ·have h1 : (len : Int) ≤ p := by omega
  go_enter Tryz.func94, Tryz.ntmps94
  go_wp2_with fail
  go_ret
  exact ⟨rfl, Below.refl _ _⟩
/-- A term in memory. -/
def TermAt (w : World) (v : Value) (l : List C) : Prop :=
 (l.length ≤ maxLen ∧ ∀ c ∈ l, c.t.size ≤ maxLen) ∧ ((l = [] ∧ ∃ ad : Option Addr, v = .slice ad 0 0) ∨ ∃ b o cap : Nat, v = .slice (some ⟨b, o, none⟩) l.length cap ∧ l.length ≤ cap ∧ cap ≤ maxLen ∧ w.rangeAt b o (flat l) ∧ b < w.heap.size)
theorem TermAt.below {w w' : World} {v : Value} {l : List C} (h : TermAt w v l) (hb : Below w.heap.size w w') : TermAt w' v l := by
 obtain ⟨h0, h⟩ := h
 refine ⟨h0, ?_⟩
 rcases h with h | ⟨b, o, cap, h1, h2, h5, h3, h4⟩
 ·exact Or.inl h
 ·exact Or.inr ⟨b, o, cap, h1, h2, h5, range_below h3 h4 hb, Nat.lt_of_lt_of_le h4 hb.size⟩
theorem c24 (l : List C) (v : Value) (p : Int) (w : World) (h : TermAt w v l) :
  Calls Tryz.prog 94 #[v, .int .i64 p] w fun e w' => e = .returned (.int .i64 (endS l p)) ∧ Below w.heap.size w w' := by
 obtain ⟨⟨hc, _⟩, h⟩ := h
 by_cases hp : p < 0 ∨ (l.length : Int) ≤ p
 ·have e : endS l p = 0 := by unfold endS; rw [if_pos hp]
  rw [e]
  rcases h with ⟨rfl, ad, rfl⟩ | ⟨b, o, cap, rfl, h2, h5, h3, h4⟩
  ·exact c24_out 0 0 ad p w hc hp
  ·exact c24_out _ _ _ p w hc hp
 ·rcases h with ⟨rfl, ad, rfl⟩ | ⟨b, o, cap, rfl, h2, h5, h3, h4⟩
  ·exfalso; simp at hp; omega
  ·obtain ⟨at_, rfl⟩ := Int.eq_ofNat_of_zero_le (a := p) (by omega)
   exact c24_in l b o cap at_ w h3 h4 hc (by omega)
end Go.Proofs.YtljggjllijacjaaGreatDoor

namespace Go.Proofs.YtljggjllijacjaaGreatDoor
open Go.RowKit
def C.ok (c : C) : Bool := cellB c.k c.t c.n c.vn c.vk
def cellsB (l : List C) : Bool := l.all C.ok
theorem cells_snoc (l : List C) (k : Nat) (hk : k < l.length) (h : (l.take k).all C.ok = true) (hi : l[k].ok = true) : (l.take (k + 1)).all C.ok = true := by
 rw [List.take_succ_eq_append_getElem hk, List.all_append, h]; simp [hi]
theorem cells_false (l : List C) (k : Nat) (hk : k < l.length) (hi : l[k].ok = false) : cellsB l = false := by
 unfold cellsB; rw [List.all_eq_false]; exact ⟨l[k], List.getElem_mem _, by simp [hi]⟩
set_option maxHeartbeats 1000000 in
theorem c45_in (l : List C) (b o cap : Nat) (w : World) (hr : w.rangeAt b o (flat l)) (hb : b < w.heap.size) (hc : l.length ≤ maxLen) (htx : ∀ c ∈ l, c.t.size ≤ maxLen) (hS : Signs w) :
  Calls Tryz.prog 93 #[.slice (some ⟨b, o, none⟩) l.length cap] w fun e w' => e = .returned (.bool (cellsB l)) ∧ Below w.heap.size w w' := by
 unfold maxLen at hc
 have HR : Hid (w.rangeAt b o (flat l)) := hr
 have HS : Hid (Signs w) := hS
 have HX : Hid (∀ c ∈ l, c.t.size ≤ maxLen) := htx
 clear hr hS htx
 go_enter Tryz.func93, Tryz.ntmps93
 go_wp2_with fail
 refine (c61 _).mono ?_
 rintro e w1 ⟨tv, rfl, hRu, hb1⟩
 have HRu : Hid (Rules w1 tv) := hRu
 have hz1 := hb1.size
 clear hRu
 go_wp2_with fail
 go_loopw [9] (fun i wr => ∃ k : Nat, k ≤ l.length ∧ i = .int .i64 k ∧ Hid ((l.take k).all C.ok = true) ∧ Below w1.heap.size w1 wr) (fun i _ => l.length - (intOf i).toNat)
 case atStart => exact ⟨0, by omega, rfl, rfl, Below.refl _ _⟩
 case round =>
  obtain ⟨k, hk, rfl, hall, hbr⟩ := hrel
  have hbw : Hid (Below w.heap.size w wr) := hb1.trans (hbr.mono hz1)
  by_cases hlt : k < l.length
  ·have hlt' : (k : Int) < (l.length : Int) := by omega
   obtain ⟨p0, p1, p2, p3, p4⟩ := term_cells (range_below HR.out hb hbw.out) k hlt
   have hbz : b < wr.heap.size := Nat.lt_of_lt_of_le hb hbw.out.size
   have HC := fun (o : Obj) => c62 l[k].k l[k].t l[k].n l[k].vn l[k].vk tv (wr.alloc o) ((HRu.out.below hbr).below (below_alloc _ _)) ((HS.out.below hbw.out).below (below_alloc _ _)) (HX.out _ (List.getElem_mem _))
   have HC : Hid (∀ o : Obj, Calls Tryz.prog 111 #[.agg #[.int .u8 l[k].k, .string l[k].t, .int .i64 l[k].n, .int .i64 l[k].vn, .int .i64 l[k].vk], tv] (wr.alloc o) fun e w' => e = .returned (.bool l[k].ok) ∧ Below (wr.alloc o).heap.size (wr.alloc o) w') := HC
   cases hok : l[k].ok
   ·have hF : Hid (cellsB l = false) := cells_false l k hlt hok
    rw [hok] at HC
    clear hok
    go_wp2_with fail
    refine (HC.out _).mono ?_
    rintro e w' ⟨rfl, hb2⟩
    go_wp2_with fail
    go_ret
    exact ⟨by rw [hF.out]; rfl, (hbw.out.alloc (by have := hbw.out.size; omega) _).trans (hb2.mono (by have := hbw.out.size; simp; omega))⟩
   ·have hT : Hid ((l.take (k + 1)).all C.ok = true) := cells_snoc l k hlt hall.out hok
    rw [hok] at HC
    clear hok
    go_wp2_with fail
    refine (HC.out _).mono ?_
    rintro e w' ⟨rfl, hb2⟩
    go_wp2_with fail
    go_roundw
    case rel => exact ⟨k + 1, by omega, by go_num, hT, (hbr.alloc (by have := hbr.size; omega) _).trans (hb2.mono (by have := hbr.size; simp; omega))⟩
    case measure => simp [intOf]; omega
  ·have hT : Hid (cellsB l = true) := by
    have h := hall.out; rw [List.take_of_length_le (by omega)] at h; exact h
   have hlt' : ¬ ((k : Int) < (l.length : Int)) := by omega
   go_wp2_with fail
   go_ret
   exact ⟨by rw [hT.out]; rfl, hbw.out⟩
set_option maxHeartbeats 1000000 in
theorem c45_nil (ad : Option Addr) (w : World) :
  Calls Tryz.prog 93 #[.slice ad 0 0] w fun e w' => e = .returned (.bool true) ∧ Below w.heap.size w w' := by
 go_enter Tryz.func93, Tryz.ntmps93
 go_wp2_with fail
 refine (c61 _).mono ?_
 rintro e w1 ⟨tv, rfl, hRu, hb1⟩
 clear hRu
 go_wp2_with fail
 refine wp_loop_rounds 1 ?_
 rw [rounds_succ]
 go_wp2_with fail
 go_ret
 exact ⟨rfl, hb1⟩
theorem c45 (l : List C) (v : Value) (w : World) (h : TermAt w v l) (hS : Signs w) :
  Calls Tryz.prog 93 #[v] w fun e w' => e = .returned (.bool (cellsB l)) ∧ Below w.heap.size w w' := by
 obtain ⟨⟨hc, hx⟩, h⟩ := h
 rcases h with ⟨rfl, ad, rfl⟩ | ⟨b, o, cap, rfl, h2, h5, h3, h4⟩
 ·exact c45_nil ad w
 ·exact c45_in l b o cap w h3 h4 hc hx hS
def rightB (l : List C) : Bool := decide (1 ≤ (l.length : Int)) && decide ((l.length : Int) ≤ 256) && cellsB l && (endS l 0 == (l.length : Int))
set_option maxHeartbeats 1000000 in
theorem c22 (l : List C) (v : Value) (w : World) (h : TermAt w v l) (hS : Signs w) :
  Calls Tryz.prog 68 #[v] w fun e w' => e = .returned (.bool (rightB l)) ∧ Below w.heap.size w w' := by
 have H45 : Hid (∀ w' : World, Below w.heap.size w w' → Calls Tryz.prog 93 #[v] w' fun e w'' => e = .returned (.bool (cellsB l)) ∧ Below w'.heap.size w' w'') := fun w' hb => c45 l v w' (h.below hb) (hS.below hb)
 have H24 : Hid (∀ w' : World, Below w.heap.size w w' → Calls Tryz.prog 94 #[v, .int .i64 0] w' fun e w'' => e = .returned (.int .i64 (endS l 0)) ∧ Below w'.heap.size w' w'') := fun w' hb => c24 l v 0 w' (h.below hb)
 have hrb : rightB l = (decide (1 ≤ (l.length : Int)) && decide ((l.length : Int) ≤ 256) && cellsB l && (endS l 0 == (l.length : Int))) := rfl
 rw [hrb]; clear hrb
 obtain ⟨ad, cap, rfl⟩ : ∃ (ad : Option Addr) (cap : Nat), v = .slice ad l.length cap := by
  rcases h.2 with ⟨rfl, ad, rfl⟩ | ⟨b, o, cap, rfl, _⟩
  ·exact ⟨ad, 0, rfl⟩
  ·exact ⟨_, _, rfl⟩
 have hc := h.1.1
 unfold maxLen at hc
 clear h hS
 generalize endS l 0 = en at *
 generalize cellsB l = cb at *
 by_cases h1 : 1 ≤ (l.length : Int)
 ·by_cases h2 : (l.length : Int) ≤ 256
  ·cases cb
   ·go_enter Tryz.func68, Tryz.ntmps68
    go_wp2_with fail
    refine (H45.out _ (Below.refl _ _)).mono ?_
    rintro e w' ⟨rfl, hb2⟩
    go_wp2_with fail
    go_ret
    exact ⟨by simp, hb2⟩
   ·go_enter Tryz.func68, Tryz.ntmps68
    go_wp2_with fail
    refine (H45.out _ (Below.refl _ _)).mono ?_
    rintro e w' ⟨rfl, hb2⟩
    go_wp2_with fail
    refine (H24.out _ hb2).mono ?_
    rintro e w'' ⟨rfl, hb3⟩
    go_wp2_with fail
    go_ret
    exact ⟨by simp [h1, h2], hb2.trans (hb3.mono hb2.size)⟩
  ·go_enter Tryz.func68, Tryz.ntmps68
   go_wp2_with fail
   go_ret
   exact ⟨by rw [decide_eq_false (by omega : ¬ ((l.length : Int) ≤ 256))]; simp, Below.refl _ _⟩
 ·go_enter Tryz.func68, Tryz.ntmps68
  go_wp2_with fail
  go_ret
  exact ⟨by rw [decide_eq_false (by omega : ¬ (1 ≤ (l.length : Int)))]; simp, Below.refl _ _⟩
end Go.Proofs.YtljggjllijacjaaGreatDoor

namespace Go.Proofs.YtljggjllijacjaaGreatDoor
open Go.RowKit
theorem range_new (w : World) (cs : List Value) (t : TypeId) : (w.alloc (.cells cs.toArray t)).rangeAt w.heap.size 0 cs := by
 intro j v hv
 rw [cell_of_row _ _ _ _ _ _ (alloc_heap_new w (.cells cs.toArray t))]
 simpa using hv
theorem termAt_new (w : World) (c : C) (ht : c.t.size ≤ maxLen) : TermAt (w.alloc (.cells #[.int .u8 c.k, .string c.t, .int .i64 c.n, .int .i64 c.vn, .int .i64 c.vk] 78)) (.slice (some ⟨w.heap.size, 0, none⟩) 1 1) [c] := by
 refine ⟨⟨by simp [maxLen], by simpa using ht⟩, Or.inr ⟨w.heap.size, 0, 1, rfl, Nat.le_refl _, by simp [maxLen], ?_, by simp⟩⟩
 exact range_new w (flat [c]) 78
theorem termAt_nil (w : World) : TermAt w (.slice none 0 0) [] := ⟨⟨by simp, by simp⟩, Or.inl ⟨rfl, none, rfl⟩⟩
/-- The term of one cell; none, if it is not right. -/
def oneT (c : C) : List C := if rightB [c] then [c] else []
set_option maxHeartbeats 1000000 in
theorem c48 (k : Int) (t : ByteArray) (n vn vk : Int) (w : World) (hS : Signs w) (ht : t.size ≤ maxLen) :
  Calls Tryz.prog 92 #[.agg #[.int .u8 k, .string t, .int .i64 n, .int .i64 vn, .int .i64 vk]] w fun e w' => ∃ v, e = .returned v ∧ TermAt w' v (oneT ⟨k, t, n, vn, vk⟩) ∧ Below w.heap.size w w' := by
 have hT : ∀ o : Obj, Hid (TermAt ((w.alloc o).alloc (.cells #[.int .u8 k, .string t, .int .i64 n, .int .i64 vn, .int .i64 vk] 78)) (.slice (some ⟨w.heap.size + 1, 0, none⟩) 1 1) [⟨k, t, n, vn, vk⟩]) := fun o => by
  have h := termAt_new (w.alloc o) ⟨k, t, n, vn, vk⟩ ht
  rw [World.size_alloc] at h; exact h
 have hB : ∀ o1 o2 : Obj, Hid (Below w.heap.size w ((w.alloc o1).alloc o2)) := fun o1 o2 => ((Below.refl _ _).alloc (Nat.le_refl _) _).alloc (by simp) _
 have HS : Hid (Signs w) := hS
 clear hS
 cases hR : rightB [⟨k, t, n, vn, vk⟩]
 ·have HRt : Hid (rightB [⟨k, t, n, vn, vk⟩] = false) := hR
  clear hR
  have e1 : oneT ⟨k, t, n, vn, vk⟩ = [] := by unfold oneT; rw [HRt.out]; rfl
  rw [e1]; clear e1
  go_enter Tryz.func92, Tryz.ntmps92
  go_wp2_with fail
  refine (c22 [⟨k, t, n, vn, vk⟩] _ _ (hT _).out (HS.out.below (hB _ _).out)).mono ?_
  rw [HRt.out]
  rintro e w' ⟨rfl, hb2⟩
  go_wp2_with fail
  go_ret
  exact ⟨_, rfl, termAt_nil _, (hB _ _).out.trans (hb2.mono (by simp; omega))⟩
 ·have HRt : Hid (rightB [⟨k, t, n, vn, vk⟩] = true) := hR
  clear hR
  have e1 : oneT ⟨k, t, n, vn, vk⟩ = [⟨k, t, n, vn, vk⟩] := by unfold oneT; rw [HRt.out]; rfl
  rw [e1]; clear e1
  go_enter Tryz.func92, Tryz.ntmps92
  go_wp2_with fail
  refine (c22 [⟨k, t, n, vn, vk⟩] _ _ (hT _).out (HS.out.below (hB _ _).out)).mono ?_
  rw [HRt.out]
  rintro e w' ⟨rfl, hb2⟩
  go_wp2_with fail
  go_ret
  exact ⟨_, rfl, (hT _).out.below hb2, (hB _ _).out.trans (hb2.mono (by simp; omega))⟩
set_option maxHeartbeats 1000000 in
theorem c18 (vn vk : Int) (w : World) (hS : Signs w) :
  Calls Tryz.prog 65 #[.agg #[.int .i64 vn, .int .i64 vk]] w fun e w' => ∃ v, e = .returned v ∧ TermAt w' v (oneT ⟨4, ⟨#[]⟩, 0, vn, vk⟩) ∧ Below w.heap.size w w' := by
 have HS : Hid (Signs w) := hS
 clear hS
 go_enter Tryz.func65, Tryz.ntmps65
 go_wp2_with fail
 refine (c48 4 ⟨#[]⟩ 0 vn vk _ (HS.out.below (below_alloc _ _)) (Nat.zero_le _)).mono ?_
 rintro e w' ⟨v, rfl, hT, hb⟩
 have hT : Hid _ := hT
 go_wp2_with fail
 go_ret
 exact ⟨_, rfl, hT.out, (below_alloc _ _).trans (hb.mono (by simp))⟩
end Go.Proofs.YtljggjllijacjaaGreatDoor

namespace Go.Proofs.YtljggjllijacjaaGreatDoor
open Go.RowKit
def zero60 : Value := .agg #[.int .u8 0, .string ⟨#[]⟩, .int .i64 0, .int .i64 0, .int .i64 0]
theorem info60 : ∃ i, Tryz.prog.info? 78 = some i ∧ i.zero = some zero60 ∧ i.size = 5 ∧ i.bytes = 48 := by
 have h : (Tryz.prog.info? 78).map (fun i => (i.zero, i.size, i.bytes)) = some (some zero60, 5, 48) := by kernel_rfl
 cases hq : Tryz.prog.info? 78 with
 | none => rw [hq] at h; cases h
 | some i =>
  rw [hq] at h
  simp only [Option.map_some, Option.some.injEq, Prod.mk.injEq] at h
  exact ⟨i, rfl, h.1, h.2.1, h.2.2⟩
theorem info29 : ∃ i, Tryz.prog.info? 24 = some i ∧ i.zero = some (.slice none 0 0) ∧ i.size = 1 ∧ i.bytes = 24 := by
 have h : (Tryz.prog.info? 24).map (fun i => (i.zero, i.size, i.bytes)) = some (some (.slice none 0 0), 1, 24) := by kernel_rfl
 cases hq : Tryz.prog.info? 24 with
 | none => rw [hq] at h; cases h
 | some i =>
  rw [hq] at h
  simp only [Option.map_some, Option.some.injEq, Prod.mk.injEq] at h
  exact ⟨i, rfl, h.1, h.2.1, h.2.2⟩
theorem zeroCells_size (n : Nat) : (Builtin.zeroCells zero60.cells n).size = n * 5 := by
 simp [Builtin.zeroCells, zero60, Value.cells]
set_option maxHeartbeats 1000000 in
theorem c63 (T : Nat) (w : World) (h0 : 0 < T) (hT : T ≤ 1000000000) :
  Calls Tryz.prog 113 #[.slice none 0 0, .int .i64 T] w fun e w' => ∃ v, e = .returned v ∧ w'.ownsRow w.heap.size 78 5 v 0 [] ∧ Below w.heap.size w w' := by
 obtain ⟨i, hi, hz, hs, hby⟩ := info60
 have happ := fun (W : World) (ty : TypeId) => Lib.run_append_nil_zeros (P := Tryz.prog) W 24 3 ty 78 i zero60 .i64 .i64 Tryz.underlying24 Tryz.underlying3 hi hz T h0 (by omega) (by omega) (by rw [hby]; omega)
 have hge := grownCap_ge w T 0 78
 have hle := grownCap_le_maxLen w T 0 78 (by unfold maxLen; omega)
 have hown : Hid ((w.drew.alloc (.cells (Builtin.zeroCells zero60.cells T ++ Builtin.zeroCells zero60.cells (grownCap w T 0 78 - T)) 78)).ownsRow w.heap.size 78 5 (.slice (some ⟨w.heap.size, 0, none⟩) 0 (grownCap w T 0 78)) 0 []) := by
  exact World.ownsRow_made w.drew _ (grownCap w T 0 78) (Nat.le_refl _) hle (by rw [Array.size_append, zeroCells_size, zeroCells_size]; omega)
 have hT0 : (0 : Int) < (T : Int) := by omega
 have hB : ∀ o : Obj, Hid (Below w.heap.size w (w.alloc o).drew) := fun o => (below_alloc w o).drew
 clear hge hle hz hs hby hi
 generalize zero60.cells = zc at happ hown
 go_enter Tryz.func113, Tryz.ntmps113
 go_wp2_with (at_builtin; refine Lib.wpList_append_run _ rfl _ _ 24 3 rfl _ _ rfl rfl _ _ (happ _ _) ?_)
 go_ret
 exact ⟨_, rfl, hown.out, (hB _).out⟩
end Go.Proofs.YtljggjllijacjaaGreatDoor
