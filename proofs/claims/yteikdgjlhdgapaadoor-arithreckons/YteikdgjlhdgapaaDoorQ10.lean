/- Contract of obeys: for every cell and every table of rules it says whether the cell is whole in itself. Terms in memory, and the contract of End: for every term and place it returns the place behind the term there, or 0. Contracts of rightCells and of Right: for every term it returns whether it is one. Contracts of single, OfInt, OfAtom, OfVar: for every argument each returns the term of one cell, or none. Contract of the library function Grow of an empty list of cells. Rows of terms in memory, and the contract of allRight. Contract of the library function Concat of rows of terms that are not empty: the cells of all of them, one behind the other. Contract of Make: for every text and row of terms it returns the structure, or its error. Contract of live: it returns true. What the row's list of variables gives: the package's row holds the twelve signs. Contracts of arith's small functions. -/
import Derived.Test.YteikdgjlhdgapaaDoorQ6
import Derived.Test.YteikdgjlhdgapaaDoorQ7
import Derived.Test.YteikdgjlhdgapaaDoorQ8
import Derived.Test.YteikdgjlhdgapaaDoorQ9
import Derived.Test.YteikdgjlhdgapaaDoorQ4
import Derived.Lib.AppendZeros
import Derived.Deep.AppendLies
import Derived.Test.YteikdgjlhdgapaaDoorCards
import Derived.Test.YteikdgjlhdgapaaDoorTie
import Derived.WalkKit
import Derived.ProofKit
import Derived.OpenShut
import Derived.Deep.DeepHandedRow
import Derived.Lib.LaidTab
import Derived.Lib.SmallJoins
import Derived.Test.YteikdgjlhdgapaaDoorQ1
import Derived.Below
import Derived.Deep.MidRow
namespace Go.Proofs.YteikdgjlhdgapaaDoor
open Go.RowKit
/-- Is a cell whole in itself? -/
def cellB (k : Int) (t : ByteArray) (n vn vk : Int) : Bool :=
  if k = 1 then eqCells 1 t n vn vk 1 ⟨#[]⟩ n 0 0 && between (-2147483648) 2147483648 n
  else if k = 2 then eqCells 2 t n vn vk 2 t 0 0 0 && isNameB t.data.toList
  else if k = 3 then eqCells 3 t n vn vk 3 t n 0 0 && structFits 1 8 t.data.toList n
  else if k = 4 then eqCells 4 t n vn vk 4 ⟨#[]⟩ 0 vn vk && (between (-1) 3 vn && decide (0 ≤ vk))
  else false
theorem c62 (k : Int) (t : ByteArray) (n vn vk : Int) (v : Value) (w : World) (hR : Rules w v) (hSg : Signs w) (ht : t.size ≤ maxLen) :
    Calls Tryd.prog 64 #[.agg #[.int .u8 k, .string t, .int .i64 n, .int .i64 vn, .int .i64 vk], v] w fun e w' => e = .returned (.bool (cellB k t n vn vk)) ∧ Below w.heap.size w w' := by
  by_cases h1 : k = 1
  · subst h1
    cases hg : eqCells 1 t n vn vk 1 ⟨#[]⟩ n 0 0
    · have e : cellB 1 t n vn vk = false := by simp [cellB, hg]
      rw [e]; exact c62_1_false t n vn vk v w hR hg
    · have e : cellB 1 t n vn vk = between (-2147483648) 2147483648 n := by simp [cellB, hg]
      rw [e]; exact c62_1_true t n vn vk v w hR hg
  by_cases h2 : k = 2
  · subst h2
    cases hg : eqCells 2 t n vn vk 2 t 0 0 0
    · have e : cellB 2 t n vn vk = false := by simp [cellB, hg]
      rw [e]; exact c62_2_false t n vn vk v w hR hg
    · have e : cellB 2 t n vn vk = isNameB t.data.toList := by simp [cellB, hg]
      rw [e]; exact c62_2_true t n vn vk v w hR ht hg
  by_cases h3 : k = 3
  · subst h3
    cases hg : eqCells 3 t n vn vk 3 t n 0 0
    · have e : cellB 3 t n vn vk = false := by simp [cellB, hg]
      rw [e]; exact c62_3_false t n vn vk v w hR hg
    · have e : cellB 3 t n vn vk = structFits 1 8 t.data.toList n := by simp [cellB, hg]
      rw [e]; exact c62_3_true t n vn vk v w hR ht hSg hg
  by_cases h4 : k = 4
  · subst h4
    cases hg : eqCells 4 t n vn vk 4 ⟨#[]⟩ 0 vn vk
    · have e : cellB 4 t n vn vk = false := by simp [cellB, hg]
      rw [e]; exact c62_4_false t n vn vk v w hR hg
    · have e : cellB 4 t n vn vk = (between (-1) 3 vn && decide (0 ≤ vk)) := by simp [cellB, hg]
      rw [e]; exact c62_4_true t n vn vk v w hR hg
  have e : cellB k t n vn vk = false := by simp [cellB, h1, h2, h3, h4]
  rw [e]
  exact c62_other k t n vn vk v w hR (by simp; omega) (by simp; omega) (by simp; omega) (by simp; omega)
end Go.Proofs.YteikdgjlhdgapaaDoor
namespace Go.Proofs.YteikdgjlhdgapaaDoor
open Go.RowKit
/-- A cell of a term. -/
structure C where
  k : Int
  t : ByteArray
  n : Int
  vn : Int
  vk : Int
def C.vals (c : C) : List Value := [.int .u8 c.k, .string c.t, .int .i64 c.n, .int .i64 c.vn, .int .i64 c.vk]
def flat (l : List C) : List Value := l.flatMap C.vals
theorem flat_length (l : List C) : (flat l).length = 5 * l.length := by
  induction l with
  | nil => rfl
  | cons a r ih => simp [flat, C.vals] at *; omega
theorem flat_get (l : List C) (i j : Nat) (hi : i < l.length) (hj : j < 5) : (flat l)[5 * i + j]? = (l[i].vals)[j]? := by
  induction l generalizing i with
  | nil => simp at hi
  | cons a r ih =>
    cases i with
    | zero =>
      simp only [flat, List.flatMap_cons]
      rw [List.getElem?_append_left (by simp [C.vals]; omega)]
      simp
    | succ i =>
      simp only [flat, List.flatMap_cons]
      rw [List.getElem?_append_right (by simp [C.vals]; omega)]
      have e : 5 * (i + 1) + j - a.vals.length = 5 * i + j := by simp [C.vals]; omega
      rw [e]
      exact ih i (by simpa using hi)
/-- The cells lie in one block, one behind the other. -/
theorem range_below {w w' : World} {b o : Nat} {cs : List Value} (h : w.rangeAt b o cs) (hb : b < w.heap.size) (hw : Below w.heap.size w w') : w'.rangeAt b o cs :=
  fun j v hv => (hw.cell (p := ⟨b, o + j, none⟩) hb).trans (h j v hv)
theorem term_cells {w : World} {b o : Nat} {l : List C} (h : w.rangeAt b o (flat l)) (i : Nat) (hi : i < l.length) :
    w.cell? ⟨b, o + i * 5, none⟩ = some (.int .u8 l[i].k) ∧ w.cell? ⟨b, o + i * 5 + 1, none⟩ = some (.string l[i].t) ∧ w.cell? ⟨b, o + i * 5 + 2, none⟩ = some (.int .i64 l[i].n) ∧ w.cell? ⟨b, o + i * 5 + 3, none⟩ = some (.int .i64 l[i].vn) ∧ w.cell? ⟨b, o + i * 5 + 4, none⟩ = some (.int .i64 l[i].vk) := by
  have g : ∀ j v, j < 5 → (l[i].vals)[j]? = some v → w.cell? ⟨b, o + i * 5 + j, none⟩ = some v := by
    intro j v hj hv
    have := h (5 * i + j) v (by rw [flat_get l i j hi hj]; exact hv)
    rw [show o + (5 * i + j) = o + i * 5 + j by omega] at this
    exact this
  exact ⟨g 0 _ (by omega) rfl, g 1 _ (by omega) rfl, g 2 _ (by omega) rfl, g 3 _ (by omega) rfl, g 4 _ (by omega) rfl⟩
/-- The place behind the terms that are open, from a place on; 0: there is none. -/
def endF (len : Int) : List C → Int → Int → Int
  | [], _, _ => 0
  | c :: r, i, q => if len - q < argsOf c.k c.n then 0 else if q + (argsOf c.k c.n - 1) = 0 then i + 1 else endF len r (i + 1) (q + (argsOf c.k c.n - 1))
def endS (l : List C) (p : Int) : Int := if p < 0 ∨ (l.length : Int) ≤ p then 0 else endF l.length (l.drop p.toNat) p 1
theorem argsOf_nonneg (k n : Int) : 0 ≤ argsOf k n := by unfold argsOf; split <;> omega
theorem drop_cons (l : List C) (k : Nat) (h : k < l.length) : l.drop k = l[k] :: l.drop (k + 1) := List.drop_eq_getElem_cons h
set_option maxHeartbeats 1000000 in
theorem c24_in (l : List C) (b o cap at_ : Nat) (w : World) (hr : w.rangeAt b o (flat l)) (hb : b < w.heap.size) (hc : l.length ≤ maxLen) (h1 : at_ < l.length) :
    Calls Tryd.prog 42 #[.slice (some ⟨b, o, none⟩) l.length cap, .int .i64 (at_ : Int)] w fun e w' => e = .returned (.int .i64 (endS l at_)) ∧ Below w.heap.size w w' := by
  have hsp : endS l at_ = endF l.length (l.drop at_) at_ 1 := by
    unfold endS; rw [if_neg (by omega)]; simp
  rw [hsp]; clear hsp
  unfold maxLen at hc
  have h0' : ¬ ((at_ : Int) < 0) := by omega
  have h1' : ¬ ((l.length : Int) ≤ (at_ : Int)) := by omega
  have HR : Hid (w.rangeAt b o (flat l)) := hr
  clear hr
  go_enter Tryd.func42, Tryd.ntmps42
  go_wp2_with fail
  go_loopw [5, 6] (fun op i wr => ∃ k : Nat, ∃ q : Int, k ≤ l.length ∧ i = .int .i64 k ∧ op = .int .i64 q ∧ 0 < q ∧ q ≤ l.length ∧ Hid (endF l.length (l.drop at_) at_ 1 = endF l.length (l.drop k) k q) ∧ Below w.heap.size w wr) (fun _ i _ => l.length - (intOf i).toNat)
  case atStart => exact ⟨at_, 1, by omega, rfl, rfl, by omega, by omega, rfl, Below.refl _ _⟩
  case round =>
    obtain ⟨k, q, hk, rfl, rfl, hq, hq2, HE, hbr⟩ := hrel
    by_cases hlt : k < l.length
    · have hlt' : (k : Int) < (l.length : Int) := by omega
      obtain ⟨p0, p1, p2, p3, p4⟩ := term_cells (range_below HR.out hb hbr) k hlt
      have hbz : b < wr.heap.size := Nat.lt_of_lt_of_le hb hbr.size
      have ha := argsOf_nonneg l[k].k l[k].n
      have HC := c50 l[k].k l[k].t l[k].n l[k].vn l[k].vk
      rw [drop_cons l k hlt] at HE
      have HE : Hid (endF l.length (l.drop at_) at_ 1 = if (l.length : Int) - q < argsOf l[k].k l[k].n then 0 else if q + (argsOf l[k].k l[k].n - 1) = 0 then (k : Int) + 1 else endF l.length (l.drop (k + 1)) ((k : Int) + 1) (q + (argsOf l[k].k l[k].n - 1))) := HE
      generalize argsOf l[k].k l[k].n = a at *
      have HC : Hid (∀ w : World, _) := HC
      by_cases hx : (l.length : Int) - q < a
      · have hE : Hid (endF l.length (l.drop at_) at_ 1 = 0) := by have h := HE.out; rw [if_pos hx] at h; exact h
        go_wp2_with fail
        refine (HC.out _).mono ?_
        rintro e w' ⟨rfl, hb2⟩
        go_wp2_with fail
        go_ret
        exact ⟨by rw [hE.out]; rfl, hbr.trans (hb2.mono (by have := hbr.size; omega))⟩
      · by_cases hy : q + (a - 1) = 0
        · have hE : Hid (endF l.length (l.drop at_) at_ 1 = (k : Int) + 1) := by have h := HE.out; rw [if_neg hx, if_pos hy] at h; exact h
          have hy' : q + (a - 1) ≤ 0 := by omega
          have hy2 : 0 ≤ q + (a - 1) := by omega
          have hyb : ((q + (a - 1)) == 0) = true := by simp [hy]
          clear hy
          go_wp2_with fail
          refine (HC.out _).mono ?_
          rintro e w' ⟨rfl, hb2⟩
          go_wp2_with fail
          go_ret
          exact ⟨by rw [hE.out]; rfl, hbr.trans (hb2.mono (by have := hbr.size; omega))⟩
        · have hE : Hid (endF l.length (l.drop at_) at_ 1 = endF l.length (l.drop (k + 1)) ((k : Int) + 1) (q + (a - 1))) := by have h := HE.out; rw [if_neg hx, if_neg hy] at h; exact h
          have hyb : ((q + (a - 1)) == 0) = false := by simp; omega
          go_wp2_with fail
          refine (HC.out _).mono ?_
          rintro e w' ⟨rfl, hb2⟩
          go_wp2_with fail
          go_roundw
          case rel => exact ⟨k + 1, q + (a - 1), by omega, by go_num, rfl, by omega, by omega, hE, hbr.trans (hb2.mono (by have := hbr.size; omega))⟩
          case measure => simp [intOf]; omega
    · have hE : Hid (endF l.length (l.drop at_) at_ 1 = 0) := by
        have h := HE.out; rw [List.drop_of_length_le (l := l) (i := k) (by omega)] at h; exact h
      have hlt' : ¬ ((k : Int) < (l.length : Int)) := by omega
      go_wp2_with fail
      go_ret
      exact ⟨by rw [hE.out]; rfl, hbr⟩
set_option maxHeartbeats 1000000 in
theorem c24_out (len cap : Nat) (ad : Option Addr) (p : Int) (w : World) (_hc : len ≤ maxLen) (h : p < 0 ∨ (len : Int) ≤ p) :
    Calls Tryd.prog 42 #[.slice ad len cap, .int .i64 p] w fun e w' => e = .returned (.int .i64 0) ∧ Below w.heap.size w w' := by
  unfold maxLen at _hc
  by_cases h0 : p < 0
  · go_enter Tryd.func42, Tryd.ntmps42
    go_wp2_with fail
    go_ret
    exact ⟨rfl, Below.refl _ _⟩
  · have h1 : (len : Int) ≤ p := by omega
    go_enter Tryd.func42, Tryd.ntmps42
    go_wp2_with fail
    go_ret
    exact ⟨rfl, Below.refl _ _⟩
/-- A term in memory. -/
def TermAt (w : World) (v : Value) (l : List C) : Prop :=
  (l.length ≤ maxLen ∧ ∀ c ∈ l, c.t.size ≤ maxLen) ∧ ((l = [] ∧ ∃ ad : Option Addr, v = .slice ad 0 0) ∨ ∃ b o cap : Nat, v = .slice (some ⟨b, o, none⟩) l.length cap ∧ l.length ≤ cap ∧ cap ≤ maxLen ∧ w.rangeAt b o (flat l) ∧ b < w.heap.size)
theorem TermAt.below {w w' : World} {v : Value} {l : List C} (h : TermAt w v l) (hb : Below w.heap.size w w') : TermAt w' v l := by
  obtain ⟨h0, h⟩ := h
  refine ⟨h0, ?_⟩
  rcases h with h | ⟨b, o, cap, h1, h2, h5, h3, h4⟩
  · exact Or.inl h
  · exact Or.inr ⟨b, o, cap, h1, h2, h5, range_below h3 h4 hb, Nat.lt_of_lt_of_le h4 hb.size⟩
theorem c24 (l : List C) (v : Value) (p : Int) (w : World) (h : TermAt w v l) :
    Calls Tryd.prog 42 #[v, .int .i64 p] w fun e w' => e = .returned (.int .i64 (endS l p)) ∧ Below w.heap.size w w' := by
  obtain ⟨⟨hc, _⟩, h⟩ := h
  by_cases hp : p < 0 ∨ (l.length : Int) ≤ p
  · have e : endS l p = 0 := by unfold endS; rw [if_pos hp]
    rw [e]
    rcases h with ⟨rfl, ad, rfl⟩ | ⟨b, o, cap, rfl, h2, h5, h3, h4⟩
    · exact c24_out 0 0 ad p w hc hp
    · exact c24_out _ _ _ p w hc hp
  · rcases h with ⟨rfl, ad, rfl⟩ | ⟨b, o, cap, rfl, h2, h5, h3, h4⟩
    · exfalso; simp at hp; omega
    · obtain ⟨at_, rfl⟩ := Int.eq_ofNat_of_zero_le (a := p) (by omega)
      exact c24_in l b o cap at_ w h3 h4 hc (by omega)
end Go.Proofs.YteikdgjlhdgapaaDoor
namespace Go.Proofs.YteikdgjlhdgapaaDoor
open Go.RowKit
def C.ok (c : C) : Bool := cellB c.k c.t c.n c.vn c.vk
def cellsB (l : List C) : Bool := l.all C.ok
theorem cells_snoc (l : List C) (k : Nat) (hk : k < l.length) (h : (l.take k).all C.ok = true) (hi : l[k].ok = true) : (l.take (k + 1)).all C.ok = true := by
  rw [List.take_succ_eq_append_getElem hk, List.all_append, h]; simp [hi]
theorem cells_false (l : List C) (k : Nat) (hk : k < l.length) (hi : l[k].ok = false) : cellsB l = false := by
  unfold cellsB; rw [List.all_eq_false]; exact ⟨l[k], List.getElem_mem _, by simp [hi]⟩
set_option maxHeartbeats 1000000 in
theorem c45_in (l : List C) (b o cap : Nat) (w : World) (hr : w.rangeAt b o (flat l)) (hb : b < w.heap.size) (hc : l.length ≤ maxLen) (htx : ∀ c ∈ l, c.t.size ≤ maxLen) (hS : Signs w) :
    Calls Tryd.prog 41 #[.slice (some ⟨b, o, none⟩) l.length cap] w fun e w' => e = .returned (.bool (cellsB l)) ∧ Below w.heap.size w w' := by
  unfold maxLen at hc
  have HR : Hid (w.rangeAt b o (flat l)) := hr
  have HS : Hid (Signs w) := hS
  have HX : Hid (∀ c ∈ l, c.t.size ≤ maxLen) := htx
  clear hr hS htx
  go_enter Tryd.func41, Tryd.ntmps41
  go_wp2_with fail
  refine (c61 _).mono ?_
  rintro e w1 ⟨tv, rfl, hRu, hb1⟩
  have HRu : Hid (Rules w1 tv) := hRu
  have hz1 := hb1.size
  clear hRu
  go_wp2_with fail
  go_loopw [9] (fun i wr => ∃ k : Nat, k ≤ l.length ∧ i = .int .i64 k ∧ Hid ((l.take k).all C.ok = true) ∧ Below w1.heap.size w1 wr) (fun i _ => l.length - (intOf i).toNat)
  case atStart => exact ⟨0, by omega, rfl, rfl, Below.refl _ _⟩
  case round =>
    obtain ⟨k, hk, rfl, hall, hbr⟩ := hrel
    have hbw : Hid (Below w.heap.size w wr) := hb1.trans (hbr.mono hz1)
    by_cases hlt : k < l.length
    · have hlt' : (k : Int) < (l.length : Int) := by omega
      obtain ⟨p0, p1, p2, p3, p4⟩ := term_cells (range_below HR.out hb hbw.out) k hlt
      have hbz : b < wr.heap.size := Nat.lt_of_lt_of_le hb hbw.out.size
      have HC := fun (o : Obj) => c62 l[k].k l[k].t l[k].n l[k].vn l[k].vk tv (wr.alloc o) ((HRu.out.below hbr).below (below_alloc _ _)) ((HS.out.below hbw.out).below (below_alloc _ _)) (HX.out _ (List.getElem_mem _))
      have HC : Hid (∀ o : Obj, Calls Tryd.prog 64 #[.agg #[.int .u8 l[k].k, .string l[k].t, .int .i64 l[k].n, .int .i64 l[k].vn, .int .i64 l[k].vk], tv] (wr.alloc o) fun e w' => e = .returned (.bool l[k].ok) ∧ Below (wr.alloc o).heap.size (wr.alloc o) w') := HC
      cases hok : l[k].ok
      · have hF : Hid (cellsB l = false) := cells_false l k hlt hok
        rw [hok] at HC
        clear hok
        go_wp2_with fail
        refine (HC.out _).mono ?_
        rintro e w' ⟨rfl, hb2⟩
        go_wp2_with fail
        go_ret
        exact ⟨by rw [hF.out]; rfl, (hbw.out.alloc (by have := hbw.out.size; omega) _).trans (hb2.mono (by have := hbw.out.size; simp; omega))⟩
      · have hT : Hid ((l.take (k + 1)).all C.ok = true) := cells_snoc l k hlt hall.out hok
        rw [hok] at HC
        clear hok
        go_wp2_with fail
        refine (HC.out _).mono ?_
        rintro e w' ⟨rfl, hb2⟩
        go_wp2_with fail
        go_roundw
        case rel => exact ⟨k + 1, by omega, by go_num, hT, (hbr.alloc (by have := hbr.size; omega) _).trans (hb2.mono (by have := hbr.size; simp; omega))⟩
        case measure => simp [intOf]; omega
    · have hT : Hid (cellsB l = true) := by
        have h := hall.out; rw [List.take_of_length_le (by omega)] at h; exact h
      have hlt' : ¬ ((k : Int) < (l.length : Int)) := by omega
      go_wp2_with fail
      go_ret
      exact ⟨by rw [hT.out]; rfl, hbw.out⟩
set_option maxHeartbeats 1000000 in
theorem c45_nil (ad : Option Addr) (w : World) :
    Calls Tryd.prog 41 #[.slice ad 0 0] w fun e w' => e = .returned (.bool true) ∧ Below w.heap.size w w' := by
  go_enter Tryd.func41, Tryd.ntmps41
  go_wp2_with fail
  refine (c61 _).mono ?_
  rintro e w1 ⟨tv, rfl, hRu, hb1⟩
  clear hRu
  go_wp2_with fail
  refine wp_loop_rounds 1 ?_
  rw [rounds_succ]
  go_wp2_with fail
  go_ret
  exact ⟨rfl, hb1⟩
theorem c45 (l : List C) (v : Value) (w : World) (h : TermAt w v l) (hS : Signs w) :
    Calls Tryd.prog 41 #[v] w fun e w' => e = .returned (.bool (cellsB l)) ∧ Below w.heap.size w w' := by
  obtain ⟨⟨hc, hx⟩, h⟩ := h
  rcases h with ⟨rfl, ad, rfl⟩ | ⟨b, o, cap, rfl, h2, h5, h3, h4⟩
  · exact c45_nil ad w
  · exact c45_in l b o cap w h3 h4 hc hx hS
def rightB (l : List C) : Bool := decide (1 ≤ (l.length : Int)) && decide ((l.length : Int) ≤ 256) && cellsB l && (endS l 0 == (l.length : Int))
set_option maxHeartbeats 1000000 in
theorem c22 (l : List C) (v : Value) (w : World) (h : TermAt w v l) (hS : Signs w) :
    Calls Tryd.prog 24 #[v] w fun e w' => e = .returned (.bool (rightB l)) ∧ Below w.heap.size w w' := by
  have H45 : Hid (∀ w' : World, Below w.heap.size w w' → Calls Tryd.prog 41 #[v] w' fun e w'' => e = .returned (.bool (cellsB l)) ∧ Below w'.heap.size w' w'') := fun w' hb => c45 l v w' (h.below hb) (hS.below hb)
  have H24 : Hid (∀ w' : World, Below w.heap.size w w' → Calls Tryd.prog 42 #[v, .int .i64 0] w' fun e w'' => e = .returned (.int .i64 (endS l 0)) ∧ Below w'.heap.size w' w'') := fun w' hb => c24 l v 0 w' (h.below hb)
  have hrb : rightB l = (decide (1 ≤ (l.length : Int)) && decide ((l.length : Int) ≤ 256) && cellsB l && (endS l 0 == (l.length : Int))) := rfl
  rw [hrb]; clear hrb
  obtain ⟨ad, cap, rfl⟩ : ∃ (ad : Option Addr) (cap : Nat), v = .slice ad l.length cap := by
    rcases h.2 with ⟨rfl, ad, rfl⟩ | ⟨b, o, cap, rfl, _⟩
    · exact ⟨ad, 0, rfl⟩
    · exact ⟨_, _, rfl⟩
  have hc := h.1.1
  unfold maxLen at hc
  clear h hS
  generalize endS l 0 = en at *
  generalize cellsB l = cb at *
  by_cases h1 : 1 ≤ (l.length : Int)
  · by_cases h2 : (l.length : Int) ≤ 256
    · cases cb
      · go_enter Tryd.func24, Tryd.ntmps24
        go_wp2_with fail
        refine (H45.out _ (Below.refl _ _)).mono ?_
        rintro e w' ⟨rfl, hb2⟩
        go_wp2_with fail
        go_ret
        exact ⟨by simp, hb2⟩
      · go_enter Tryd.func24, Tryd.ntmps24
        go_wp2_with fail
        refine (H45.out _ (Below.refl _ _)).mono ?_
        rintro e w' ⟨rfl, hb2⟩
        go_wp2_with fail
        refine (H24.out _ hb2).mono ?_
        rintro e w'' ⟨rfl, hb3⟩
        go_wp2_with fail
        go_ret
        exact ⟨by simp [h1, h2], hb2.trans (hb3.mono hb2.size)⟩
    · go_enter Tryd.func24, Tryd.ntmps24
      go_wp2_with fail
      go_ret
      exact ⟨by rw [decide_eq_false (by omega : ¬ ((l.length : Int) ≤ 256))]; simp, Below.refl _ _⟩
  · go_enter Tryd.func24, Tryd.ntmps24
    go_wp2_with fail
    go_ret
    exact ⟨by rw [decide_eq_false (by omega : ¬ (1 ≤ (l.length : Int)))]; simp, Below.refl _ _⟩
end Go.Proofs.YteikdgjlhdgapaaDoor
namespace Go.Proofs.YteikdgjlhdgapaaDoor
open Go.RowKit
theorem range_new (w : World) (cs : List Value) (t : TypeId) : (w.alloc (.cells cs.toArray t)).rangeAt w.heap.size 0 cs := by
  intro j v hv
  rw [cell_of_row _ _ _ _ _ _ (alloc_heap_new w (.cells cs.toArray t))]
  simpa using hv
theorem termAt_new (w : World) (c : C) (ht : c.t.size ≤ maxLen) : TermAt (w.alloc (.cells #[.int .u8 c.k, .string c.t, .int .i64 c.n, .int .i64 c.vn, .int .i64 c.vk] 54)) (.slice (some ⟨w.heap.size, 0, none⟩) 1 1) [c] := by
  refine ⟨⟨by simp [maxLen], by simpa using ht⟩, Or.inr ⟨w.heap.size, 0, 1, rfl, Nat.le_refl _, by simp [maxLen], ?_, by simp⟩⟩
  exact range_new w (flat [c]) 54
theorem termAt_nil (w : World) : TermAt w (.slice none 0 0) [] := ⟨⟨by simp, by simp⟩, Or.inl ⟨rfl, none, rfl⟩⟩
/-- The term of one cell; none, if it is not right. -/
def oneT (c : C) : List C := if rightB [c] then [c] else []
set_option maxHeartbeats 1000000 in
theorem c48 (k : Int) (t : ByteArray) (n vn vk : Int) (w : World) (hS : Signs w) (ht : t.size ≤ maxLen) :
    Calls Tryd.prog 43 #[.agg #[.int .u8 k, .string t, .int .i64 n, .int .i64 vn, .int .i64 vk]] w fun e w' => ∃ v, e = .returned v ∧ TermAt w' v (oneT ⟨k, t, n, vn, vk⟩) ∧ Below w.heap.size w w' := by
  have hT : ∀ o : Obj, Hid (TermAt ((w.alloc o).alloc (.cells #[.int .u8 k, .string t, .int .i64 n, .int .i64 vn, .int .i64 vk] 54)) (.slice (some ⟨w.heap.size + 1, 0, none⟩) 1 1) [⟨k, t, n, vn, vk⟩]) := fun o => by
    have h := termAt_new (w.alloc o) ⟨k, t, n, vn, vk⟩ ht
    rw [World.size_alloc] at h; exact h
  have hB : ∀ o1 o2 : Obj, Hid (Below w.heap.size w ((w.alloc o1).alloc o2)) := fun o1 o2 => ((Below.refl _ _).alloc (Nat.le_refl _) _).alloc (by simp) _
  have HS : Hid (Signs w) := hS
  clear hS
  cases hR : rightB [⟨k, t, n, vn, vk⟩]
  · have HRt : Hid (rightB [⟨k, t, n, vn, vk⟩] = false) := hR
    clear hR
    have e1 : oneT ⟨k, t, n, vn, vk⟩ = [] := by unfold oneT; rw [HRt.out]; rfl
    rw [e1]; clear e1
    go_enter Tryd.func43, Tryd.ntmps43
    go_wp2_with fail
    refine (c22 [⟨k, t, n, vn, vk⟩] _ _ (hT _).out (HS.out.below (hB _ _).out)).mono ?_
    rw [HRt.out]
    rintro e w' ⟨rfl, hb2⟩
    go_wp2_with fail
    go_ret
    exact ⟨_, rfl, termAt_nil _, (hB _ _).out.trans (hb2.mono (by simp; omega))⟩
  · have HRt : Hid (rightB [⟨k, t, n, vn, vk⟩] = true) := hR
    clear hR
    have e1 : oneT ⟨k, t, n, vn, vk⟩ = [⟨k, t, n, vn, vk⟩] := by unfold oneT; rw [HRt.out]; rfl
    rw [e1]; clear e1
    go_enter Tryd.func43, Tryd.ntmps43
    go_wp2_with fail
    refine (c22 [⟨k, t, n, vn, vk⟩] _ _ (hT _).out (HS.out.below (hB _ _).out)).mono ?_
    rw [HRt.out]
    rintro e w' ⟨rfl, hb2⟩
    go_wp2_with fail
    go_ret
    exact ⟨_, rfl, (hT _).out.below hb2, (hB _ _).out.trans (hb2.mono (by simp; omega))⟩
set_option maxHeartbeats 1000000 in
theorem c18 (vn vk : Int) (w : World) (hS : Signs w) :
    Calls Tryd.prog 27 #[.agg #[.int .i64 vn, .int .i64 vk]] w fun e w' => ∃ v, e = .returned v ∧ TermAt w' v (oneT ⟨4, ⟨#[]⟩, 0, vn, vk⟩) ∧ Below w.heap.size w w' := by
  have HS : Hid (Signs w) := hS
  clear hS
  go_enter Tryd.func27, Tryd.ntmps27
  go_wp2_with fail
  refine (c48 4 ⟨#[]⟩ 0 vn vk _ (HS.out.below (below_alloc _ _)) (Nat.zero_le _)).mono ?_
  rintro e w' ⟨v, rfl, hT, hb⟩
  have hT : Hid _ := hT
  go_wp2_with fail
  go_ret
  exact ⟨_, rfl, hT.out, (below_alloc _ _).trans (hb.mono (by simp))⟩
end Go.Proofs.YteikdgjlhdgapaaDoor
namespace Go.Proofs.YteikdgjlhdgapaaDoor
open Go.RowKit
def zero60 : Value := .agg #[.int .u8 0, .string ⟨#[]⟩, .int .i64 0, .int .i64 0, .int .i64 0]
theorem info60 : ∃ i, Tryd.prog.info? 54 = some i ∧ i.zero = some zero60 ∧ i.size = 5 ∧ i.bytes = 48 := by
  have h : (Tryd.prog.info? 54).map (fun i => (i.zero, i.size, i.bytes)) = some (some zero60, 5, 48) := by kernel_rfl
  cases hq : Tryd.prog.info? 54 with
  | none => rw [hq] at h; cases h
  | some i =>
    rw [hq] at h
    simp only [Option.map_some, Option.some.injEq, Prod.mk.injEq] at h
    exact ⟨i, rfl, h.1, h.2.1, h.2.2⟩
theorem info29 : ∃ i, Tryd.prog.info? 25 = some i ∧ i.zero = some (.slice none 0 0) ∧ i.size = 1 ∧ i.bytes = 24 := by
  have h : (Tryd.prog.info? 25).map (fun i => (i.zero, i.size, i.bytes)) = some (some (.slice none 0 0), 1, 24) := by kernel_rfl
  cases hq : Tryd.prog.info? 25 with
  | none => rw [hq] at h; cases h
  | some i =>
    rw [hq] at h
    simp only [Option.map_some, Option.some.injEq, Prod.mk.injEq] at h
    exact ⟨i, rfl, h.1, h.2.1, h.2.2⟩
theorem zeroCells_size (n : Nat) : (Builtin.zeroCells zero60.cells n).size = n * 5 := by
  simp [Builtin.zeroCells, zero60, Value.cells]
end Go.Proofs.YteikdgjlhdgapaaDoor
namespace Go.Proofs.YteikdgjlhdgapaaDoor
open Go.RowKit
/-- A row of terms in memory. -/
def RowAt (w : World) (v : Value) (ls : List (List C)) : Prop :=
  ls.length ≤ maxLen ∧ ((ls = [] ∧ ∃ ad : Option Addr, v = .slice ad 0 0) ∨ ∃ (b o cap : Nat) (vs : List Value), v = .slice (some ⟨b, o, none⟩) ls.length cap ∧ ls.length ≤ cap ∧ cap ≤ maxLen ∧ b < w.heap.size ∧ vs.length = ls.length ∧ w.rangeAt b o vs ∧ ∀ (i : Nat) (u : Value) (l : List C), vs[i]? = some u → ls[i]? = some l → TermAt w u l)
theorem RowAt.below {w w' : World} {v : Value} {ls : List (List C)} (h : RowAt w v ls) (hb : Below w.heap.size w w') : RowAt w' v ls := by
  obtain ⟨h0, h⟩ := h
  refine ⟨h0, ?_⟩
  rcases h with h | ⟨b, o, cap, vs, h1, h2, h3, h4, h5, h6, h7⟩
  · exact Or.inl h
  · exact Or.inr ⟨b, o, cap, vs, h1, h2, h3, Nat.lt_of_lt_of_le h4 hb.size, h5, range_below h6 h4 hb, fun i u l hu hl => (h7 i u l hu hl).below hb⟩
theorem RowAt.form {w : World} {v : Value} {ls : List (List C)} (h : RowAt w v ls) : ∃ (ad : Option Addr) (cap : Nat), v = .slice ad ls.length cap := by
  rcases h.2 with ⟨rfl, ad, rfl⟩ | ⟨b, o, cap, vs, rfl, _⟩
  · exact ⟨ad, 0, rfl⟩
  · exact ⟨_, _, rfl⟩
theorem TermAt.form {w : World} {v : Value} {l : List C} (h : TermAt w v l) : ∃ (ad : Option Addr) (cap : Nat), v = .slice ad l.length cap := by
  rcases h.2 with ⟨rfl, ad, rfl⟩ | ⟨b, o, cap, rfl, _⟩
  · exact ⟨ad, 0, rfl⟩
  · exact ⟨_, _, rfl⟩
theorem row_cell {w : World} {b o : Nat} {vs : List Value} (h : w.rangeAt b o vs) (k : Nat) (hk : k < vs.length) : w.cell? ⟨b, o + k, none⟩ = some vs[k] :=
  h k _ (List.getElem?_eq_getElem hk)
def allRightB (ls : List (List C)) : Bool := ls.all rightB
theorem rights_snoc (l : List (List C)) (k : Nat) (hk : k < l.length) (h : (l.take k).all rightB = true) (hi : rightB l[k] = true) : (l.take (k + 1)).all rightB = true := by
  rw [List.take_succ_eq_append_getElem hk, List.all_append, h]; simp [hi]
theorem rights_false (l : List (List C)) (k : Nat) (hk : k < l.length) (hi : rightB l[k] = false) : allRightB l = false := by
  unfold allRightB; rw [List.all_eq_false]; exact ⟨l[k], List.getElem_mem _, by simp [hi]⟩
end Go.Proofs.YteikdgjlhdgapaaDoor
namespace Go.Proofs.YteikdgjlhdgapaaDoor
open Go.RowKit
def tot (ls : List (List C)) : Nat := (ls.map List.length).sum
theorem tot_snoc (ls : List (List C)) (k : Nat) (hk : k < ls.length) : tot (ls.take (k + 1)) = tot (ls.take k) + ls[k].length := by
  unfold tot
  rw [List.take_succ_eq_append_getElem hk, List.map_append, List.sum_append]; simp
theorem tot_le (ls : List (List C)) (k : Nat) : tot (ls.take k) ≤ tot ls := by
  unfold tot
  have h : (ls.map List.length).sum = ((ls.take k).map List.length).sum + ((ls.drop k).map List.length).sum := by
    rw [← List.sum_append, ← List.map_append, List.take_append_drop]
  omega
theorem tot_flatten (ls : List (List C)) : ls.flatten.length = tot ls := by unfold tot; rw [List.length_flatten]
theorem flat_append (a b : List C) : flat (a ++ b) = flat a ++ flat b := by simp [flat]
theorem flat_one (l : List C) : ∀ u ∈ flat l, u.oneCell' = true := by
  intro u hu
  simp only [flat, List.mem_flatMap] at hu
  obtain ⟨c, _, hc⟩ := hu
  simp only [C.vals, List.mem_cons, List.not_mem_nil, or_false] at hc
  rcases hc with rfl | rfl | rfl | rfl | rfl <;> rfl
theorem termAt_of_owns {w : World} {base : Nat} {v : Value} {l : List C} (h : w.ownsRow base 54 5 v l.length (flat l)) (hl : l.length ≤ maxLen) (ht : ∀ c ∈ l, c.t.size ≤ maxLen) : TermAt w v l := by
  refine ⟨⟨hl, ht⟩, ?_⟩
  rcases h.2 with ⟨h1, h2⟩ | ⟨g, cap, cur, h1, h2, h3, h4, h5, h6, h7⟩
  · exact Or.inl ⟨List.eq_nil_of_length_eq_zero h2, none, h1⟩
  · refine Or.inr ⟨g, 0, cap, h1, h4, h5, ?_, (Array.getElem?_eq_some_iff.1 h3).1⟩
    intro j u hu
    rw [cell_of_row _ _ _ _ _ _ h3]
    rw [← h7] at hu
    rw [List.getElem?_take] at hu
    split at hu
    · simpa using hu
    · cases hu
end Go.Proofs.YteikdgjlhdgapaaDoor
namespace Go.Proofs.YteikdgjlhdgapaaDoor
open Go.RowKit
def ownC (text : ByteArray) (n : Nat) : C := ⟨3, text, n, 0, 0⟩
def makeE (text : ByteArray) (ls : List (List C)) : Int := if allRightB ls && (ownC text ls.length).ok then (if (256 : Int) < ((tot ls + 1 : Nat) : Int) then 5 else 0) else 6
def makeL (text : ByteArray) (ls : List (List C)) : List C := if makeE text ls = 0 then ownC text ls.length :: ls.flatten else []
theorem rowAt_of_owns {w : World} {base : Nat} {v : Value} {ls : List (List C)} {vs : List Value} (h : w.ownsRow base 25 1 v ls.length vs) (hl : 0 < ls.length) (hm : ls.length ≤ maxLen) (ht : ∀ (i : Nat) (u : Value) (l : List C), vs[i]? = some u → ls[i]? = some l → TermAt w u l) : RowAt w v ls := by
  refine ⟨hm, ?_⟩
  have h0 := h.1
  rcases h.2 with ⟨h1, h2⟩ | ⟨g, cap, cur, h1, h2, h3, h4, h5, h6, h7⟩
  · omega
  · refine Or.inr ⟨g, 0, cap, vs, h1, h4, h5, (Array.getElem?_eq_some_iff.1 h3).1, by omega, ?_, ht⟩
    intro j u hu
    rw [cell_of_row _ _ _ _ _ _ h3]
    rw [← h7] at hu
    rw [List.getElem?_take] at hu
    split at hu
    · simpa using hu
    · cases hu
theorem right_len {l : List C} (h : rightB l = true) : 1 ≤ l.length ∧ l.length ≤ 256 := by
  unfold rightB at h
  simp only [Bool.and_eq_true, decide_eq_true_eq] at h
  omega
theorem allRight_get {ls : List (List C)} (h : allRightB ls = true) : ∀ l ∈ ls, rightB l = true := by
  unfold allRightB at h; rw [List.all_eq_true] at h; exact h
theorem tot_bound {ls : List (List C)} (h : ∀ l ∈ ls, l.length ≤ 256) : tot ls ≤ 256 * ls.length := by
  induction ls with
  | nil => simp [tot]
  | cons a r ih =>
    have h1 := h a (by simp)
    have h2 := ih (fun l hl => h l (by simp [hl]))
    simp [tot] at *; omega
theorem own_n {text : ByteArray} {n : Nat} (h : (ownC text n).ok = true) : 1 ≤ n ∧ n ≤ 8 := by
  have h1 : structFits 1 8 text.data.toList n = true := by
    simp only [C.ok, ownC, cellB, if_neg (show ¬ ((3 : Int) = 1) by decide), if_neg (show ¬ ((3 : Int) = 2) by decide), if_true, Bool.and_eq_true] at h
    exact h.2
  simp only [structFits, between, Bool.and_eq_true, Bool.or_eq_true, decide_eq_true_eq, beq_iff_eq] at h1
  omega
end Go.Proofs.YteikdgjlhdgapaaDoor
namespace Go.Proofs.YteikdgjlhdgapaaDoor
open Go.RowKit
def cV : C := ⟨4, ⟨#[]⟩, 0, 0, 1⟩
def cI : C := ⟨1, ⟨#[]⟩, 3, 0, 0⟩
def tF : ByteArray := ⟨#[102]⟩
theorem size1 (a : UInt8) : (⟨#[a]⟩ : ByteArray).size ≤ maxLen := by
  show 1 ≤ maxLen
  unfold maxLen; omega
theorem rightV : rightB [cV] = true := by
  simp [rightB, cellsB, C.ok, cV, cellB, eqCells, between, endS, endF, argsOf]
theorem rightI : rightB [cI] = true := by
  simp [rightB, cellsB, C.ok, cI, cellB, eqCells, between, endS, endF, argsOf]
theorem nameF : isNameB [102] = true := by decide
theorem ownF : (ownC tF 2).ok = true := by
  simp [C.ok, ownC, cellB, eqCells, structFits, between, tF, nameF]
theorem liveE : makeE tF [[cV], [cI]] = 0 := by
  have h : allRightB [[cV], [cI]] = true := by simp [allRightB, rightV, rightI]
  unfold makeE
  rw [h, show [[cV], [cI]].length = 2 from rfl, ownF]
  rfl
theorem liveL : makeL tF [[cV], [cI]] = [ownC tF 2, cV, cI] := by unfold makeL; rw [liveE]; rfl
theorem liveR : rightB [ownC tF 2, cV, cI] = true := by
  have h1 : cellsB [ownC tF 2, cV, cI] = true := by
    have hv : cV.ok = true := by simp [C.ok, cV, cellB, eqCells, between]
    have hi : cI.ok = true := by simp [C.ok, cI, cellB, eqCells, between]
    simp [cellsB, ownF, hv, hi]
  unfold rightB
  rw [h1]
  rfl
theorem liveEnd : endS [ownC tF 2, cV, cI] 1 = 2 := by rfl
theorem notF : isNameB [70] = false := by decide
theorem lessT : lessB 0 3 1 0 = true := by decide
theorem oneV : oneT ⟨4, ⟨#[]⟩, 0, 0, 1⟩ = [cV] := by unfold oneT; rw [show (⟨4, ⟨#[]⟩, 0, 0, 1⟩ : C) = cV from rfl, rightV]; rfl
theorem oneI : oneT ⟨1, ⟨#[]⟩, 3, 0, 0⟩ = [cI] := by unfold oneT; rw [show (⟨1, ⟨#[]⟩, 3, 0, 0⟩ : C) = cI from rfl, rightI]; rfl
theorem live_row (_w w2 : World) (v1 v2 : Value) (h1 : TermAt w2 v1 [cV]) (h2 : TermAt w2 v2 [cI]) : RowAt (w2.alloc (.cells #[v1, v2] 25)) (.slice (some ⟨w2.heap.size, 0, none⟩) 2 2) [[cV], [cI]] := by
  refine ⟨by simp [maxLen], Or.inr ⟨w2.heap.size, 0, 2, [v1, v2], rfl, by simp, by simp [maxLen], by simp, rfl, range_new w2 [v1, v2] 25, ?_⟩⟩
  intro i u l hu hl
  match i with
  | 0 => simp at hu hl; subst hu; subst hl; exact h1.below (below_alloc _ _)
  | 1 => simp at hu hl; subst hu; subst hl; exact h2.below (below_alloc _ _)
  | n + 2 => simp at hu
end Go.Proofs.YteikdgjlhdgapaaDoor
namespace Go.Proofs.YteikdgjlhdgapaaDoor.Laid
open Go.ChangeShapes Go.WideShapes Go.ChangeAt Go.RowKit Go.Joins
open Go.ChangeMaps (open_string shut_string)

theorem own : ownKnob Tryd.prog.godebug = none := by kernel_rfl
theorem laidOut : laidOutB Tryd.prog = true := by kernel_rfl
theorem gTab : Tryd.prog.globalNamed (Rows.arithDividesRow.named.headD default) = some 0 := by kernel_rfl
theorem gTabType : (Tryd.prog.globals[0]?).map (·.type) = some 124 := by kernel_rfl
theorem cells87 : Tryd.prog.cellsOf 124 = 12 := by kernel_rfl
theorem cells9 : Tryd.prog.cellsOf 9 = 1 := by kernel_rfl

/-- An array of strings that reads as the table holds the table's texts, cell for cell. -/
theorem cells_of_strs {H : Type} {enc : TypeId × Value → H} {w : World} {base : Nat} {sp : Nat → Bool} {held : Bool} {fuel : Nat} {cs : List Value} {zs : List (List UInt8)} {p : List MemPlace}
    (h : DataW.trod enc Tryd.prog w base sp held fuel 124 cs = some (.agg (zs.map fun z => (.lit (.string z) : DataW H)), p)) : cs = zs.map fun z => Value.string ⟨z.toArray⟩ := by
  cases fuel with
  | zero => simp [DataW.trod] at h
  | succ fuel =>
    simp only [DataW.trod, Tryd.underlying124, cells9, cells87, Nat.mul_one] at h
    split at h
    · rename_i hl
      obtain ⟨xs, hm, hx⟩ := Option.map_eq_some_iff.1 h
      have hxs : xs.map (·.1) = zs.map fun z => (DataW.lit (.string z) : DataW H) := by
        have := congrArg Prod.fst hx
        simpa using this
      have hxl : xs.length = 12 := by simpa using Lib.mapM_length hm
      have hzl : zs.length = 12 := by
        have := congrArg List.length hxs
        simp at this
        omega
      apply List.ext_getElem?
      intro i
      by_cases hi : i < 12
      · obtain ⟨b, hb, hf⟩ := Lib.mapM_at hm i i (by simp [hi])
        obtain ⟨z, hc, rfl, _⟩ := DataW.trod_string Tryd.underlying9 hf
        have h1 : cs[i]? = some (.string z) := by
          have := congrArg (·[0]?) hc
          simpa [List.getElem?_take, List.getElem?_drop] using this
        have h2 : (xs.map (·.1))[i]? = some (DataW.lit (.string z.data.toList) : DataW H) := by simp [hb]
        rw [hxs] at h2
        simp only [List.getElem?_map, Option.map_eq_some_iff, DataW.lit.injEq, Lit.string.injEq] at h2
        obtain ⟨z', hz', e⟩ := h2
        simp [h1, hz', e]
      · rw [List.getElem?_eq_none (by omega), List.getElem?_eq_none (by simp; omega)]
    · cases h

/-- What the row's list gives: the variable's cells hold the twelve signs. -/
theorem signs_of {W : World} (h : laidMetH Tryd.prog Rows.arithDividesRow.laid W) : Signs W := by
  have h' : laidMet Tryd.prog Rows.arithDividesRow.laid W := h
  obtain ⟨ps, ⟨g', t', cs, fuel, p, q, hg', ht', hvar, hd, _, _⟩, _⟩ := h'
  obtain rfl := Option.some.inj (gTab.symm.trans hg')
  obtain rfl := Option.some.inj (gTabType.symm.trans ht')
  have hcs : cs.toList = signs.map fun z => Value.string ⟨z.toArray⟩ := cells_of_strs (zs := signs) hd
  have hcell : ∀ j v, signVals[j]? = some v → W.cell? ⟨0, 0 + j, none⟩ = some v := by
    intro j v hv
    have h1 := World.var?_cell gTab hvar j
    rw [Nat.zero_add, h1]
    have h2 : cs[j]? = cs.toList[j]? := by simp
    rw [h2, hcs]
    exact hv
  refine ⟨?_, hcell⟩
  have h0 := hcell 0 _ rfl
  exact World.block_lt_of_cell? W _ h0

/-- The world with its first block holding the signs: for the witnesses. -/
def laidOn (w : World) : World :=
  { w with heap := w.heap.modify 0 fun
      | .cells _ t frozen => .cells signVals.toArray t frozen
      | o => o }
end Go.Proofs.YteikdgjlhdgapaaDoor.Laid
namespace Go.Proofs.YteikdgjlhdgapaaDoor
open Go.RowKit
/-- Does a number stand in no term? -/
def greatB (x : Int) : Bool := decide (x < -2147483648) || decide (2147483648 < x)
set_option maxRecDepth 100000 in
theorem h35 (x : Int) (w : World) : Calls Tryd.prog 35 #[.int .i64 x] w fun e w' => e = .returned (.bool (greatB x)) ∧ w' = w := by
  by_cases h1 : x < -2147483648
  · have he : greatB x = true := by simp [greatB, h1]
    rw [he]
    go_enter Tryd.func35, Tryd.ntmps35
    go_wp2_with fail
    go_ret
    exact ⟨rfl, rfl⟩
  · by_cases h2 : 2147483648 < x
    · have he : greatB x = true := by simp [greatB, h2]
      rw [he]
      go_enter Tryd.func35, Tryd.ntmps35
      go_wp2_with fail
      go_ret
      exact ⟨rfl, rfl⟩
    · have he : greatB x = false := by simp [greatB, h1, h2]
      rw [he]
      go_enter Tryd.func35, Tryd.ntmps35
      go_wp2_with fail
      go_ret
      exact ⟨rfl, rfl⟩
/-- A row of numbers that can be read. -/
def IntsR (w : World) (v : Value) (ns : List Int) : Prop := ns.length ≤ maxLen ∧ ((ns = [] ∧ ∃ ad, v = .slice ad 0 0) ∨ ∃ b o cap, v = .slice (some ⟨b, o, none⟩) ns.length cap ∧ b < w.heap.size ∧ w.rangeAt b o (ns.map (Value.int .i64)))
theorem IntsR.below {w w' : World} {v : Value} {ns : List Int} (h : IntsR w v ns) (hb : Below w.heap.size w w') : IntsR w' v ns := by
  obtain ⟨h0, h⟩ := h
  refine ⟨h0, ?_⟩
  rcases h with h | ⟨b, o, cap, h1, h2, h3⟩
  · exact .inl h
  · exact .inr ⟨b, o, cap, h1, Nat.lt_of_lt_of_le h2 hb.size, fun j u hu => (hb.cell (p := ⟨b, o + j, none⟩) h2).trans (h3 j u hu)⟩
theorem IntsR.form {w : World} {v : Value} {ns : List Int} (h : IntsR w v ns) : ∃ ad cap, v = .slice ad ns.length cap := by
  rcases h.2 with ⟨rfl, ad, rfl⟩ | ⟨b, o, cap, h1, _⟩
  · exact ⟨ad, 0, rfl⟩
  · exact ⟨_, _, h1⟩
theorem IntsR.at {w : World} {v : Value} {ns : List Int} (h : IntsR w v ns) (i : Nat) (hi : i < ns.length) : ∃ b o cap, v = .slice (some ⟨b, o, none⟩) ns.length cap ∧ w.cell? ⟨b, o + i, none⟩ = some (.int .i64 ns[i]) ∧ b < w.heap.size := by
  rcases h.2 with ⟨rfl, _⟩ | ⟨b, o, cap, h1, h2, h3⟩
  · simp at hi
  · exact ⟨b, o, cap, h1, h3 i _ (by simp [List.getElem?_eq_getElem hi]), h2⟩
theorem any_false_take (f : Int → Bool) (ns : List Int) (h : ∀ j (hj : j < ns.length), f ns[j] = false) : ns.any f = false := by
  rw [List.any_eq_false]
  intro y hy
  obtain ⟨j, hj, rfl⟩ := List.getElem_of_mem hy
  simp [h j hj]
set_option maxRecDepth 100000 in
set_option maxHeartbeats 1000000 in
theorem h50 (ns : List Int) (v : Value) (w : World) (h : IntsR w v ns) : Calls Tryd.prog 50 #[v, .func (Fn.func 35) #[] #[]] w fun e w' => (∃ i : Int, e = .returned (.int .i64 i) ∧ (decide (0 ≤ i) = ns.any greatB)) ∧ w' = w := by
  have HR : Hid (IntsR w v ns) := h
  have hm := h.1
  unfold maxLen at hm
  obtain ⟨ad, cap, hv⟩ := h.form
  subst hv
  clear h
  go_enter Tryd.func50, Tryd.ntmps50
  go_wp2_with fail
  go_loopw [8] (fun i wr => ∃ k : Nat, k ≤ ns.length ∧ i = .int .i64 k ∧ Hid (∀ j (hj : j < ns.length), j < k → greatB ns[j] = false) ∧ wr = w) (fun i _ => ns.length - (intOf i).toNat)
  case atStart => exact ⟨0, by omega, rfl, fun j _ h => by omega, rfl⟩
  case round =>
    obtain ⟨k, hk, rfl, HI, rfl⟩ := hrel
    by_cases hlt : k < ns.length
    · have hlt' : (k : Int) < (ns.length : Int) := by omega
      have hk0 : (0 : Int) ≤ (k : Int) := by omega
      obtain ⟨b, o, cp, hu, c0, _⟩ := HR.out.at k hlt
      simp only [Value.slice.injEq] at hu
      obtain ⟨rfl, _, rfl⟩ := hu
      have H35 := h35 ns[k] wr
      cases hg : greatB ns[k]
      · have HN : Hid (∀ j (hj : j < ns.length), j < k + 1 → greatB ns[j] = false) := fun j hj h => if e : j = k then by subst e; exact hg else HI.out j hj (by omega)
        rw [hg] at H35
        generalize ns[k] = x at *
        go_wp2_with fail
        refine H35.mono ?_
        rintro e w1 ⟨rfl, hw⟩
        obtain rfl := hw
        go_wp2_with fail
        go_roundw
        case rel => exact ⟨k + 1, by omega, by go_num, HN, trivial⟩
        case measure => simp [intOf]; omega
      · have HN : Hid (ns.any greatB = true) := List.any_eq_true.2 ⟨_, List.getElem_mem hlt, hg⟩
        rw [hg] at H35
        generalize ns[k] = x at *
        go_wp2_with fail
        refine H35.mono ?_
        rintro e w1 ⟨rfl, hw⟩
        obtain rfl := hw
        go_wp2_with fail
        go_ret
        exact ⟨⟨(k : Int), rfl, by rw [HN.out]; simp⟩, rfl⟩
    · have hlt' : ¬ ((k : Int) < (ns.length : Int)) := by omega
      have HN : Hid (ns.any greatB = false) := any_false_take _ _ fun j hj => HI.out j hj (by omega)
      go_wp2_with fail
      go_ret
      exact ⟨⟨-1, rfl, by rw [HN.out]; rfl⟩, rfl⟩
set_option maxRecDepth 100000 in
theorem h34 (ns : List Int) (v : Value) (w : World) (h : IntsR w v ns) : Calls Tryd.prog 34 #[v, .func (Fn.func 35) #[] #[]] w fun e w' => e = .returned (.bool (ns.any greatB)) ∧ w' = w := by
  have H50 := h50 ns v w h
  obtain ⟨ad, cap, hv⟩ := h.form
  subst hv
  clear h
  generalize ns.any greatB = q at *
  go_enter Tryd.func34, Tryd.ntmps34
  go_wp2_with fail
  refine H50.mono ?_
  rintro e w1 ⟨⟨i, rfl, hi⟩, hw⟩
  obtain rfl := hw
  subst hi
  go_wp2_with fail
  go_ret
  exact ⟨rfl, rfl⟩
set_option maxRecDepth 100000 in
theorem h51 (f : Nat) (w : World) : Calls Tryd.prog 51 #[.func (Fn.func f) #[] #[]] w fun e w' => e = .returned (.func (Fn.func 72) #[] #[.pointer (some ⟨w.heap.size, 0, none⟩)]) ∧ w' = w.alloc (.cells #[.func (Fn.func f) #[] #[]] 90) := by
  go_enter Tryd.func51, Tryd.ntmps51
  go_wp2_with fail
  go_ret
  exact ⟨rfl, rfl⟩
set_option maxRecDepth 100000 in
theorem h55 (f : Nat) (w : World) : Calls Tryd.prog 55 #[.func (Fn.func f) #[] #[]] w fun e w' => e = .returned (.func (Fn.func 73) #[] #[.pointer (some ⟨w.heap.size, 0, none⟩)]) ∧ w' = w.alloc (.cells #[.func (Fn.func f) #[] #[]] 90) := by
  go_enter Tryd.func55, Tryd.ntmps55
  go_wp2_with fail
  go_ret
  exact ⟨rfl, rfl⟩
end Go.Proofs.YteikdgjlhdgapaaDoor
