/- Contracts of net's functions that only read a network. -/
import Derived.Test.YthpbfaddojcohaaNA
namespace Go.Proofs.Ythpbfaddojcohaa
open Go.RowKit
theorem NtAt.cells {w : World} {nb B : Nat} {v : Value} {N : Nt} (h : NtAt w nb B v N) : w.cell? ⟨nb, 0, none⟩ = some v ∧ w.cell? ⟨nb, 1, none⟩ = some (.int .i64 N.s) ∧ w.cell? ⟨nb, 2, none⟩ = some (.int .i64 N.d) ∧ w.cell? ⟨nb, 3, none⟩ = some (.int .i64 N.r) ∧ w.cell? ⟨nb, 4, none⟩ = some (.int .i64 N.x) ∧ w.cell? ⟨nb, 5, none⟩ = some (.int .i64 N.n) := by
  refine ⟨?_, ?_, ?_, ?_, ?_, ?_⟩ <;> rw [cell_of_row w nb _ _ 77 (0, 0) h.blk] <;> rfl
theorem NtAt.frozen {w : World} {nb B : Nat} {v : Value} {N : Nt} (h : NtAt w nb B v N) (j : Nat) : w.frozen? ⟨nb, j, none⟩ = false := frozen_of_row w nb j _ 77 h.blk
theorem NtAt.lt {w : World} {nb B : Nat} {v : Value} {N : Nt} (h : NtAt w nb B v N) : nb < w.heap.size := (Array.getElem?_eq_some_iff.1 h.blk).1
theorem owns_slice {w : World} {B : Nat} {e : TypeId} {s n : Nat} {v : Value} {xs : List Value} (h : w.ownsRow B e s v n xs) : ∃ a c, v = .slice a n c := by
  rcases h.2 with ⟨rfl, rfl⟩ | ⟨g, cap, cur, rfl, _⟩
  · exact ⟨_, _, rfl⟩
  · exact ⟨_, _, rfl⟩
theorem owns_below {w w' : World} {base : Nat} {e : TypeId} {s n : Nat} {u : Value} {xs : List Value} (h : w.ownsRow base e s u n xs) (hb : Below w.heap.size w w') : w'.ownsRow base e s u n xs := by
  refine ⟨h.1, ?_⟩
  rcases h.2 with h1 | ⟨g, cap, cur, h1, h2, h3, h4⟩
  · exact .inl h1
  · exact .inr ⟨g, cap, cur, h1, h2, (hb.block g (Array.getElem?_eq_some_iff.1 h3).1).trans h3, h4⟩
theorem NtAt.below {w w' : World} {nb B : Nat} {v : Value} {N : Nt} (h : NtAt w nb B v N) (hb : Below w.heap.size w w') : NtAt w' nb B v N :=
  ⟨(hb.block nb h.lt).trans h.blk, owns_below h.own hb⟩
def isN (n k : Int) : Bool := decide (0 ≤ k) && decide (k < n)
set_option maxRecDepth 100000 in
theorem n61 (nb : Nat) (n k : Int) (w : World) (hc : w.cell? ⟨nb, 5, none⟩ = some (.int .i64 n)) :
    Calls Try.prog 61 #[.pointer (some ⟨nb, 0, none⟩), .int .i64 k] w fun e w' => e = .returned (.bool (isN n k)) ∧ w' = w := by
  by_cases h0 : 0 ≤ k
  · have e : isN n k = decide (k < n) := by simp [isN, h0]
    rw [e]
    clear e
    by_cases h1 : k < n
    · go_enter Try.func61, Try.ntmps61
      go_wp2_with fail
      go_ret
      exact ⟨by simp [h1], rfl⟩
    · go_enter Try.func61, Try.ntmps61
      go_wp2_with fail
      go_ret
      exact ⟨by simp [h1], rfl⟩
  · have e : isN n k = false := by simp [isN, h0]
    rw [e]
    clear e
    go_enter Try.func61, Try.ntmps61
    go_wp2_with fail
    go_ret
    exact ⟨rfl, rfl⟩
def hasN (l : Nat) (k : Int) : Bool := decide (0 ≤ k) && decide (k < l)
set_option maxRecDepth 100000 in
theorem n62 (nb l : Nat) (a : Option Addr) (c : Nat) (k : Int) (w : World) (hc : w.cell? ⟨nb, 0, none⟩ = some (.slice a l c)) :
    Calls Try.prog 62 #[.pointer (some ⟨nb, 0, none⟩), .int .i64 k] w fun e w' => e = .returned (.bool (hasN l k)) ∧ w' = w := by
  by_cases h0 : 0 ≤ k
  · have e : hasN l k = decide (k < l) := by simp [hasN, h0]
    rw [e]
    clear e
    by_cases h1 : k < (l : Int)
    · go_enter Try.func62, Try.ntmps62
      go_wp2_with fail
      go_ret
      exact ⟨by simp [h1], rfl⟩
    · go_enter Try.func62, Try.ntmps62
      go_wp2_with fail
      go_ret
      exact ⟨by simp [h1], rfl⟩
  · have e : hasN l k = false := by simp [hasN, h0]
    rw [e]
    clear e
    go_enter Try.func62, Try.ntmps62
    go_wp2_with fail
    go_ret
    exact ⟨rfl, rfl⟩
set_option maxRecDepth 100000 in
theorem n44 (nb B : Nat) (v : Value) (N : Nt) (k : Int) (w : World) (h : NtAt w nb B v N) :
    Calls Try.prog 44 #[.pointer (some ⟨nb, 0, none⟩), .int .i64 k] w fun e w' => e = .returned (.int .i64 (if hasN N.l.length k then 0 else 4)) ∧ w' = w := by
  obtain ⟨a, c, hv⟩ := owns_slice h.own
  have hc := h.cells.1
  subst hv
  have H := n62 nb N.l.length a c k w hc
  clear h
  cases hh : hasN N.l.length k
  · rw [hh] at H
    rw [if_neg (by simp)]
    clear hh
    go_enter Try.func44, Try.ntmps44
    go_wp2_with fail
    refine H.mono ?_
    rintro e w1 ⟨rfl, hw⟩
    obtain rfl := hw.symm
    go_wp2_with fail
    go_ret
    exact ⟨rfl, rfl⟩
  · rw [hh] at H
    rw [if_pos rfl]
    clear hh
    go_enter Try.func44, Try.ntmps44
    go_wp2_with fail
    refine H.mono ?_
    rintro e w1 ⟨rfl, hw⟩
    obtain rfl := hw.symm
    go_wp2_with fail
    go_ret
    exact ⟨rfl, rfl⟩
/-- What is wrong with a datagram in a network of so many nodes. -/
def sendE (n : Int) (d : Dg) : Int :=
  if isN n d.fr = false ∨ isN n d.to = false ∨ d.fr = d.to ∨ d.sq < 0 then 2 else if (65536 : Int) < d.bn then 5 else if d.ak = true ∧ (0 : Int) < d.bn then 6 else 0
def Dg.box (d : Dg) : Array Value := #[.int .i64 d.fr, .int .i64 d.to, .bool d.ak, .int .i64 d.sq, .slice d.ba d.bn d.bc]
set_option maxRecDepth 100000 in
set_option maxHeartbeats 1000000 in
theorem n42 (nb : Nat) (n : Int) (d : Dg) (w : World) (hc : w.cell? ⟨nb, 5, none⟩ = some (.int .i64 n)) (hl : nb < w.heap.size) :
    Calls Try.prog 42 #[.pointer (some ⟨nb, 0, none⟩), .agg d.box] w fun e w' => e = .returned (.int .i64 (sendE n d)) ∧ Below w.heap.size w w' := by
  obtain ⟨fr, to, ak, sq, ba, bn, bc⟩ := d
  have HE : Hid (sendE n ⟨fr, to, ak, sq, ba, bn, bc⟩ = if isN n fr = false ∨ isN n to = false ∨ fr = to ∨ sq < 0 then 2 else if (65536 : Int) < bn then 5 else if ak = true ∧ (0 : Int) < bn then 6 else 0) := rfl
  have hca : (w.alloc (.cells #[.int .i64 fr, .int .i64 to, .bool ak, .int .i64 sq, .slice ba bn bc] 46)).cell? ⟨nb, 5, none⟩ = some (.int .i64 n) := (World.cell?_of_block (a := ⟨nb, 5, none⟩) (heap_alloc_old w _ hl)).trans hc
  have H61 : Hid (∀ k, Calls Try.prog 61 #[.pointer (some ⟨nb, 0, none⟩), .int .i64 k] (w.alloc (.cells #[.int .i64 fr, .int .i64 to, .bool ak, .int .i64 sq, .slice ba bn bc] 46)) fun e w' => e = .returned (.bool (isN n k)) ∧ w' = (w.alloc (.cells #[.int .i64 fr, .int .i64 to, .bool ak, .int .i64 sq, .slice ba bn bc] 46))) := fun k => n61 nb n k _ hca
  have HB : Hid (Below w.heap.size w (w.alloc (.cells #[.int .i64 fr, .int .i64 to, .bool ak, .int .i64 sq, .slice ba bn bc] 46))) := (Below.refl _ w).alloc (Nat.le_refl _) _
  show Calls Try.prog 42 #[.pointer (some ⟨nb, 0, none⟩), .agg #[.int .i64 fr, .int .i64 to, .bool ak, .int .i64 sq, .slice ba bn bc]] w _
  clear hca hc
  cases h1 : isN n fr
  · have H1 := H61.out fr
    rw [h1] at H1
    rw [HE.out, if_pos (.inl h1)]
    clear h1
    go_enter Try.func42, Try.ntmps42
    go_wp2_with fail
    refine H1.mono ?_
    rintro e w1 ⟨rfl, hw⟩
    obtain rfl := hw.symm
    go_wp2_with fail
    go_ret
    exact ⟨rfl, HB.out⟩
  · have H1 := H61.out fr
    rw [h1] at H1
    have HI1 : Hid (isN n fr = true) := h1
    clear h1
    cases h2 : isN n to
    · have H2 := H61.out to
      rw [h2] at H2
      rw [HE.out, if_pos (.inr (.inl h2))]
      clear h2
      go_enter Try.func42, Try.ntmps42
      go_wp2_with fail
      refine H1.mono ?_
      rintro e w1 ⟨rfl, hw⟩
      obtain rfl := hw.symm
      go_wp2_with fail
      refine H2.mono ?_
      rintro e w1 ⟨rfl, hw⟩
      obtain rfl := hw.symm
      go_wp2_with fail
      go_ret
      exact ⟨rfl, HB.out⟩
    · have H2 := H61.out to
      rw [h2] at H2
      have HI2 : Hid (isN n to = true) := h2
      clear h2
      by_cases h3 : fr = to
      · rw [HE.out, if_pos (.inr (.inr (.inl h3)))]
        subst h3
        go_enter Try.func42, Try.ntmps42
        go_wp2_with fail
        refine H1.mono ?_
        rintro e w1 ⟨rfl, hw⟩
        obtain rfl := hw.symm
        go_wp2_with fail
        refine H2.mono ?_
        rintro e w1 ⟨rfl, hw⟩
        obtain rfl := hw.symm
        go_wp2_with fail
        go_ret
        exact ⟨rfl, HB.out⟩
      · by_cases h4 : sq < 0
        · rw [HE.out, if_pos (.inr (.inr (.inr h4)))]
          go_enter Try.func42, Try.ntmps42
          go_wp2_with fail
          refine H1.mono ?_
          rintro e w1 ⟨rfl, hw⟩
          obtain rfl := hw.symm
          go_wp2_with fail
          refine H2.mono ?_
          rintro e w1 ⟨rfl, hw⟩
          obtain rfl := hw.symm
          go_wp2_with fail
          go_ret
          exact ⟨rfl, HB.out⟩
        · have hno : ¬ (isN n fr = false ∨ isN n to = false ∨ fr = to ∨ sq < 0) := by
            rw [HI1.out, HI2.out]; simp [h3]; omega
          rw [HE.out, if_neg hno]
          have h3' : (fr == to) = false := by simpa using h3
          have h4' : decide (sq < 0) = false := by simpa using h4
          clear hno h3
          by_cases h5 : (65536 : Int) < bn
          · rw [if_pos h5]
            go_enter Try.func42, Try.ntmps42
            go_wp2_with fail
            refine H1.mono ?_
            rintro e w1 ⟨rfl, hw⟩
            obtain rfl := hw.symm
            go_wp2_with fail
            refine H2.mono ?_
            rintro e w1 ⟨rfl, hw⟩
            obtain rfl := hw.symm
            go_wp2_with fail
            go_ret
            exact ⟨rfl, HB.out⟩
          · rw [if_neg h5]
            cases ak
            · rw [if_neg (by simp)]
              go_enter Try.func42, Try.ntmps42
              go_wp2_with fail
              refine H1.mono ?_
              rintro e w1 ⟨rfl, hw⟩
              obtain rfl := hw.symm
              go_wp2_with fail
              refine H2.mono ?_
              rintro e w1 ⟨rfl, hw⟩
              obtain rfl := hw.symm
              go_wp2_with fail
              go_ret
              exact ⟨rfl, HB.out⟩
            · by_cases h6 : (0 : Int) < bn
              · rw [if_pos ⟨rfl, h6⟩]
                go_enter Try.func42, Try.ntmps42
                go_wp2_with fail
                refine H1.mono ?_
                rintro e w1 ⟨rfl, hw⟩
                obtain rfl := hw.symm
                go_wp2_with fail
                refine H2.mono ?_
                rintro e w1 ⟨rfl, hw⟩
                obtain rfl := hw.symm
                go_wp2_with fail
                go_ret
                exact ⟨rfl, HB.out⟩
              · rw [if_neg (fun h => h6 h.2)]
                go_enter Try.func42, Try.ntmps42
                go_wp2_with fail
                refine H1.mono ?_
                rintro e w1 ⟨rfl, hw⟩
                obtain rfl := hw.symm
                go_wp2_with fail
                refine H2.mono ?_
                rintro e w1 ⟨rfl, hw⟩
                obtain rfl := hw.symm
                go_wp2_with fail
                go_ret
                exact ⟨rfl, HB.out⟩
end Go.Proofs.Ythpbfaddojcohaa
