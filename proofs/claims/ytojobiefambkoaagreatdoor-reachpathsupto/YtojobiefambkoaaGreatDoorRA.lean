/- Contract of the reference Equal: for every two terms it says whether they have the same cells. Contracts of the reference Right, one, OfInt, OfAtom, OfVar. Contract of the reference SameTerms. Contracts of lent and rows: a term, a row of terms in memory of their own. -/
import Derived.Test.YtojobiefambkoaaGreatDoorWD
import Derived.Deep.RegionHeld3
import Derived.Deep.DrawnRows
import Derived.Test.YtojobiefambkoaaGreatDoorR2
namespace Go.Proofs.YtojobiefambkoaaGreatDoor
open Go.RowKit
attribute [local go_sem ↓] Go.wp_at_zero Go.wp_at_succ
set_option maxHeartbeats 1000000 in
theorem neq60 (k : Int) (t : ByteArray) (n vn vk : Int) (k' : Int) (t' : ByteArray) (n' vn' vk' : Int) (w : World) :
    (binOp .neq 82 (.agg #[.int .u8 k, .string t, .int .i64 n, .int .i64 vn, .int .i64 vk]) (.agg #[.int .u8 k', .string t', .int .i64 n', .int .i64 vn', .int .i64 vk'])).run Tryz.prog w = .ok (.bool (!eqCells k t n vn vk k' t' n' vn' vk')) w := by
  unfold eqCells
  cases h1 : (k == k') <;> cases h2 : (t.toList == t'.toList) <;> cases h3 : (n == n') <;> cases h4 : (vn == vn') <;> cases h5 : (vk == vk') <;> go_simp
def eqC (c d : C) : Bool := eqCells c.k c.t c.n c.vn c.vk d.k d.t d.n d.vn d.vk
def eqUpto (l m : List C) (k : Nat) : Prop := ∀ j, j < k → ∀ (h1 : j < l.length) (h2 : j < m.length), eqC l[j] m[j] = true
def eqT (l m : List C) : Bool := decide (l.length = m.length) && (l.zip m).all (fun p => eqC p.1 p.2)
theorem eqT_len {l m : List C} (h : ¬ l.length = m.length) : eqT l m = false := by simp [eqT, h]
theorem eqT_true {l m : List C} (h : l.length = m.length) (hu : eqUpto l m l.length) : eqT l m = true := by
  simp only [eqT, h, decide_true, Bool.true_and, List.all_eq_true]
  intro p hp
  obtain ⟨j, hj, rfl⟩ := List.getElem_of_mem hp
  simp at hj
  simpa using hu j (by omega) (by omega) (by omega)
theorem eqT_false {l m : List C} (j : Nat) (h1 : j < l.length) (h2 : j < m.length) (h : eqC l[j] m[j] = false) : eqT l m = false := by
  unfold eqT
  have : (l.zip m).all (fun p => eqC p.1 p.2) = false := by
    rw [List.all_eq_false]
    exact ⟨(l.zip m)[j]'(by simp; omega), List.getElem_mem _, by simp [h]⟩
  rw [this]; simp
theorem eqC_refl (c : C) : eqC c c = true := by simp [eqC, eqCells]
theorem eqT_refl (l : List C) : eqT l l = true := eqT_true rfl (fun j _ h1 _ => eqC_refl l[j])
end Go.Proofs.YtojobiefambkoaaGreatDoor

namespace Go.Proofs.YtojobiefambkoaaGreatDoor
open Go.RowKit
set_option maxHeartbeats 1000000 in
theorem c23_len (ad : Option Addr) (n cap : Nat) (w : World) (h : (n : Int) < 1 ∨ 256 < (n : Int)) :
    Calls Tryz.prog 79 #[.slice ad n cap] w fun e w' => e = .returned (.bool false) ∧ Below w.heap.size w w' := by
  by_cases h1 : (n : Int) < 1
  · go_enter Tryz.func79, Tryz.ntmps79
    go_wp2_with fail
    go_ret
    exact ⟨rfl, Below.refl _ _⟩
  · have h2 : 256 < (n : Int) := by omega
    go_enter Tryz.func79, Tryz.ntmps79
    go_wp2_with fail
    go_ret
    exact ⟨rfl, Below.refl _ _⟩
set_option maxHeartbeats 1000000 in
theorem c23_in (l : List C) (b o cap : Nat) (w : World) (hr : w.rangeAt b o (flat l)) (hb : b < w.heap.size) (h1 : 1 ≤ l.length) (h256 : l.length ≤ 256) (htx : ∀ c ∈ l, c.t.size ≤ maxLen) (hT : TermAt w (.slice (some ⟨b, o, none⟩) l.length cap) l) :
    Calls Tryz.prog 79 #[.slice (some ⟨b, o, none⟩) l.length cap] w fun e w' => e = .returned (.bool (rightB l)) ∧ Below w.heap.size w w' := by
  have hrb : rightB l = (cellsB l && (endS l 0 == (l.length : Int))) := by
    unfold rightB; rw [decide_eq_true (by omega), decide_eq_true (by omega)]; simp
  rw [hrb]; clear hrb
  have HR : Hid (w.rangeAt b o (flat l)) := hr
  have HX : Hid (∀ c ∈ l, c.t.size ≤ maxLen) := htx
  have HT : Hid (TermAt w (.slice (some ⟨b, o, none⟩) l.length cap) l) := hT
  have g1 : ¬ ((l.length : Int) < 1) := by omega
  have g2 : ¬ (256 < (l.length : Int)) := by omega
  clear hr htx hT
  go_enter Tryz.func79, Tryz.ntmps79
  go_wp2_with fail
  go_loopw [3] (fun i wr => ∃ k : Nat, k ≤ l.length ∧ i = .int .i64 k ∧ Hid ((l.take k).all C.ok = true) ∧ Below w.heap.size w wr) (fun i _ => l.length - (intOf i).toNat)
  case atStart => exact ⟨0, by omega, rfl, rfl, Below.refl _ _⟩
  case round =>
    obtain ⟨k, hk, rfl, hall, hbr⟩ := hrel
    by_cases hlt : k < l.length
    · have hlt' : (k : Int) < (l.length : Int) := by omega
      obtain ⟨p0, p1, p2, p3, p4⟩ := term_cells (range_below HR.out hb hbr) k hlt
      have HC : Hid (Calls Tryz.prog 96 #[.agg #[.int .u8 l[k].k, .string l[k].t, .int .i64 l[k].n, .int .i64 l[k].vn, .int .i64 l[k].vk]] wr fun e w' => e = .returned (.bool l[k].ok) ∧ Below wr.heap.size wr w') := c47 l[k].k l[k].t l[k].n l[k].vn l[k].vk wr (HX.out _ (List.getElem_mem _))
      cases hok : l[k].ok
      · have hF : Hid (cellsB l = false) := cells_false l k hlt hok
        rw [hok] at HC
        clear hok
        go_wp2_with fail
        refine HC.out.mono ?_
        rintro e w' ⟨rfl, hb2⟩
        go_wp2_with fail
        go_ret
        exact ⟨by rw [hF.out]; rfl, hbr.trans (hb2.mono hbr.size)⟩
      · have hT : Hid ((l.take (k + 1)).all C.ok = true) := cells_snoc l k hlt hall.out hok
        rw [hok] at HC
        clear hok
        go_wp2_with fail
        refine HC.out.mono ?_
        rintro e w' ⟨rfl, hb2⟩
        go_wp2_with fail
        go_roundw
        case rel => exact ⟨k + 1, by omega, by go_num, hT, hbr.trans (hb2.mono hbr.size)⟩
        case measure => simp [intOf]; omega
    · have hT : Hid (cellsB l = true) := by
        have h := hall.out; rw [List.take_of_length_le (by omega)] at h; exact h
      have hlt' : ¬ ((k : Int) < (l.length : Int)) := by omega
      go_wp2_with fail
      refine (c25 l _ 0 wr (HT.out.below hbr) (by omega)).mono ?_
      rintro e w' ⟨rfl, rfl⟩
      go_wp2_with fail
      go_ret
      exact ⟨by rw [hT.out]; simp, hbr⟩
theorem c23 (l : List C) (v : Value) (w : World) (h : TermAt w v l) :
    Calls Tryz.prog 79 #[v] w fun e w' => e = .returned (.bool (rightB l)) ∧ Below w.heap.size w w' := by
  by_cases hl : 1 ≤ l.length ∧ l.length ≤ 256
  · have hT := h
    obtain ⟨⟨hc, hx⟩, h⟩ := h
    rcases h with ⟨rfl, ad, rfl⟩ | ⟨b, o, cap, rfl, h2, h5, h3, h4⟩
    · simp at hl
    · exact c23_in l b o cap w h3 h4 hl.1 hl.2 hx hT
  · have e : rightB l = false := by
      unfold rightB
      by_cases h1 : 1 ≤ l.length
      · rw [decide_eq_false (p := (l.length : Int) ≤ 256) (by omega)]; simp
      · rw [decide_eq_false (p := 1 ≤ (l.length : Int)) (by omega)]; simp
    rw [e]
    obtain ⟨ad, cap, rfl⟩ := h.form
    exact c23_len ad l.length cap w (by omega)
theorem right_one (c : C) (hk : c.k ≠ 3) : rightB [c] = c.ok := by
  have ha : argsOf c.k c.n = 0 := by unfold argsOf; rw [if_neg hk]
  have h : endS [c] 0 = 1 := by simp [endS, endF, ha]
  unfold rightB cellsB
  rw [h]
  simp
set_option maxHeartbeats 1000000 in
theorem c49 (k : Int) (t : ByteArray) (n vn vk : Int) (w : World) (ht : t.size ≤ maxLen) (hk : k ≠ 3) :
    Calls Tryz.prog 78 #[.agg #[.int .u8 k, .string t, .int .i64 n, .int .i64 vn, .int .i64 vk]] w fun e w' => ∃ v, e = .returned v ∧ TermAt w' v (oneT ⟨k, t, n, vn, vk⟩) ∧ Below w.heap.size w w' := by
  have hB : ∀ o1 : Obj, Hid (Below w.heap.size w (w.alloc o1)) := fun o1 => below_alloc w o1
  have HO : Hid (rightB [⟨k, t, n, vn, vk⟩] = cellB k t n vn vk) := right_one ⟨k, t, n, vn, vk⟩ hk
  have HC := fun o : Obj => c47 k t n vn vk (w.alloc o) ht
  clear hk
  cases hq : cellB k t n vn vk
  · have e1 : oneT ⟨k, t, n, vn, vk⟩ = [] := by unfold oneT; rw [HO.out, hq]; rfl
    rw [hq] at HC
    have HC : Hid (∀ o : Obj, _) := HC
    rw [e1]; clear e1 hq HO
    go_enter Tryz.func78, Tryz.ntmps78
    go_wp2_with fail
    refine (HC.out _).mono ?_
    rintro e w' ⟨rfl, hb2⟩
    go_wp2_with fail
    go_ret
    exact ⟨_, rfl, termAt_nil _, (hB _).out.trans (hb2.mono (by simp))⟩
  · have e1 : oneT ⟨k, t, n, vn, vk⟩ = [⟨k, t, n, vn, vk⟩] := by unfold oneT; rw [HO.out, hq]; rfl
    rw [hq] at HC
    have HC : Hid (∀ o : Obj, _) := HC
    rw [e1]; clear e1 hq HO
    go_enter Tryz.func78, Tryz.ntmps78
    go_wp2_with fail
    refine (HC.out _).mono ?_
    rintro e w' ⟨rfl, hb2⟩
    obtain ⟨hcc, hff⟩ := bcell hb2
    have hT : Hid (TermAt (w'.alloc (.cells #[.int .u8 k, .string t, .int .i64 n, .int .i64 vn, .int .i64 vk] 82)) (.slice (some ⟨w'.heap.size, 0, none⟩) 1 1) [⟨k, t, n, vn, vk⟩]) := termAt_new w' ⟨k, t, n, vn, vk⟩ ht
    have hw' : Hid (Below w.heap.size w w') := (hB _).out.trans (hb2.mono (by simp))
    go_wp2_with fail
    go_ret
    exact ⟨_, rfl, hT.out, hw'.out.alloc hw'.out.size _⟩
set_option maxHeartbeats 1000000 in
theorem c19 (vn vk : Int) (w : World) :
    Calls Tryz.prog 56 #[.agg #[.int .i64 vn, .int .i64 vk]] w fun e w' => ∃ v, e = .returned v ∧ TermAt w' v (oneT ⟨4, ⟨#[]⟩, 0, vn, vk⟩) ∧ Below w.heap.size w w' := by
  go_enter Tryz.func56, Tryz.ntmps56
  go_wp2_with fail
  refine (c49 4 ⟨#[]⟩ 0 vn vk _ (Nat.zero_le _) (by decide)).mono ?_
  rintro e w' ⟨v, rfl, hT, hb⟩
  have hT : Hid _ := hT
  go_wp2_with fail
  go_ret
  exact ⟨_, rfl, hT.out, (below_alloc _ _).trans (hb.mono (by simp))⟩
end Go.Proofs.YtojobiefambkoaaGreatDoor

namespace Go.Proofs.YtojobiefambkoaaGreatDoor
open Go.RowKit
attribute [local go_sem ↓] Go.wp_at_zero Go.wp_at_succ
def sameUpto (l m : List (List C)) (k : Nat) : Prop := ∀ j, j < k → ∀ (h1 : j < l.length) (h2 : j < m.length), eqT l[j] m[j] = true
def sameR (l m : List (List C)) : Bool := decide (l.length = m.length) && (l.zip m).all (fun p => eqT p.1 p.2)
theorem sameR_len {l m : List (List C)} (h : ¬ l.length = m.length) : sameR l m = false := by simp [sameR, h]
theorem sameR_true {l m : List (List C)} (h : l.length = m.length) (hu : sameUpto l m l.length) : sameR l m = true := by
  simp only [sameR, h, decide_true, Bool.true_and, List.all_eq_true]
  intro p hp
  obtain ⟨j, hj, rfl⟩ := List.getElem_of_mem hp
  simp at hj
  simpa using hu j (by omega) (by omega) (by omega)
theorem sameR_false {l m : List (List C)} (j : Nat) (h1 : j < l.length) (h2 : j < m.length) (h : eqT l[j] m[j] = false) : sameR l m = false := by
  unfold sameR
  have : (l.zip m).all (fun p => eqT p.1 p.2) = false := by
    rw [List.all_eq_false]
    exact ⟨(l.zip m)[j]'(by simp; omega), List.getElem_mem _, by simp [h]⟩
  rw [this]; simp
theorem sameR_refl (l : List (List C)) : sameR l l = true := sameR_true rfl (fun j _ h1 _ => eqT_refl l[j])
abbrev TwS (w : World) (b1 o1 b2 o2 : Nat) (u1 u2 : Value) (w' : World) : Prop :=
  w'.cell? ⟨b1, o1, none⟩ = some u1 ∧ w'.cell? ⟨b2, o2, none⟩ = some u2 ∧ Hid (Below w.heap.size w w' ∧ b1 < w.heap.size ∧ b2 < w.heap.size)
theorem twS_drew {w : World} {b1 o1 b2 o2 : Nat} {u1 u2 : Value} {w' : World} (h : TwS w b1 o1 b2 o2 u1 u2 w') : TwS w b1 o1 b2 o2 u1 u2 w'.drew :=
  ⟨by simpa using h.1, by simpa using h.2.1, h.2.2.out.1.drew, h.2.2.out.2⟩
theorem twS_below {w : World} {b1 o1 b2 o2 : Nat} {u1 u2 : Value} {w' w'' : World} (h : TwS w b1 o1 b2 o2 u1 u2 w') (hb : Below w'.heap.size w' w'') : TwS w b1 o1 b2 o2 u1 u2 w'' := by
  have h9 := h.2.2.out
  have hz := h9.1.size
  exact ⟨(hb.cell (p := ⟨_, _, none⟩) (Nat.lt_of_lt_of_le h9.2.1 hz)).trans h.1, (hb.cell (p := ⟨_, _, none⟩) (Nat.lt_of_lt_of_le h9.2.2 hz)).trans h.2.1, h9.1.trans (hb.mono hz), h9.2⟩
theorem twS_hb {w : World} {b1 o1 b2 o2 : Nat} {u1 u2 : Value} {w' : World} (h : TwS w b1 o1 b2 o2 u1 u2 w') : Below w.heap.size w w' := h.2.2.out.1
end Go.Proofs.YtojobiefambkoaaGreatDoor

namespace Go.Proofs.YtojobiefambkoaaGreatDoor
open Go.RowKit
def OwnT (w : World) (base : Nat) (u : Value) (l : List C) : Prop := w.ownsRow base 82 5 u l.length (flat l)
theorem ownT_term {w : World} {base : Nat} {u : Value} {l : List C} (h : OwnT w base u l) (hl : l.length ≤ maxLen) (ht : ∀ c ∈ l, c.t.size ≤ maxLen) : TermAt w u l := termAt_of_owns h hl ht
theorem ownT_below {w w' : World} {base : Nat} {u : Value} {l : List C} (h : OwnT w base u l) (hb : Below w.heap.size w w') : OwnT w' base u l := by
  refine ⟨h.1, ?_⟩
  rcases h.2 with hn | ⟨g, cap, cur, h1, h2, h3, h4⟩
  · exact Or.inl hn
  · exact Or.inr ⟨g, cap, cur, h1, h2, (hb.block g (Array.getElem?_eq_some_iff.1 h3).1).trans h3, h4⟩
/-- A term of its own lies in another block than a row of terms. -/
theorem ownT_far {w : World} {base base' : Nat} {u v : Value} {l : List C} {n : Nat} {xs : List Value} (h : OwnT w base u l) (h' : w.ownsRow base' 64 1 v n xs) : u.ownBlock = none ∨ u.ownBlock ≠ v.ownBlock := by
  rcases h.2 with ⟨rfl, _⟩ | ⟨g, cap, cur, rfl, _, h3, _⟩
  · exact Or.inl rfl
  · right
    rcases h'.2 with ⟨rfl, _⟩ | ⟨g', cap', cur', rfl, _, h3', _⟩
    · simp [Value.ownBlock]
    · intro e
      simp [Value.ownBlock] at e
      subst e
      rw [h3] at h3'
      simp at h3'
end Go.Proofs.YtojobiefambkoaaGreatDoor
