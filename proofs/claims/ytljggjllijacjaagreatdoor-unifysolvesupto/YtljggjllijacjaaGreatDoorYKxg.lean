/- The statement on one step: it returns true. Contracts of HandTerms and KeptTerms. Contracts of steps, of solved (the law's) and of SameSolved. What comes of equations is short; what the calls of the statement on equations find. -/
import Derived.Test.YtljggjllijacjaaGreatDoorUXg
import Derived.Test.YtljggjllijacjaaGreatDoorMAg
import Derived.Test.YtljggjllijacjaaGreatDoorUAg
import Derived.Test.YtljggjllijacjaaGreatDoorQPg
import Derived.Maps.AppendAt
import Derived.Test.YtljggjllijacjaaGreatDoorYJg
namespace Go.Proofs.YtljggjllijacjaaGreatDoor
open Go.RowKit
attribute [local go_sem ↓] Go.wp_at_zero Go.wp_at_succ
theorem row_base {w : World} {B B' : Nat} {e : TypeId} {s n : Nat} {v : Value} {xs : List Value} (h : w.ownsRow B e s v n xs) (hb : B' ≤ B) : w.ownsRow B' e s v n xs := by
 refine ⟨h.1, ?_⟩
 rcases h.2 with hh | ⟨g, cap, cur, e1, e2, e3⟩
 ·exact .inl hh
 ·exact .inr ⟨g, cap, cur, e1, by omega, e3⟩
/-- Old memory, and the cell that holds the document's row. -/
abbrev SqS (w3 : World) (rt : Nat) (rv : Value) (W : World) : Prop := W.cell? ⟨rt, 0, none⟩ = some rv ∧ Hid (Below w3.heap.size w3 W)
theorem sqS_to {w3 W W' : World} {rt : Nat} {rv : Value} (hrt : rt < w3.heap.size) (h : SqS w3 rt rv W) (hb : Below w3.heap.size W W') : SqS w3 rt rv W' :=
 ⟨(World.cell?_of_block (hb.block rt hrt)).trans h.1, Below.trans h.2.out hb⟩
theorem sqS_drew {w3 W : World} {rt : Nat} {rv : Value} (h : SqS w3 rt rv W) : SqS w3 rt rv W.drew := ⟨h.1, h.2.out.drew⟩
end Go.Proofs.YtljggjllijacjaaGreatDoor

namespace Go.Proofs.YtljggjllijacjaaGreatDoor.Hx
open Go.RowKit
attribute [local go_sem ↓] Go.wp_at_zero Go.wp_at_succ
theorem row_at {w : World} {u : Value} {ls : List (List C)} (h : RowAt w u ls) (i : Nat) (hi : i < ls.length) : ∃ b o cap x, u = .slice (some ⟨b, o, none⟩) ls.length cap ∧ w.cell? ⟨b, o + i, none⟩ = some x ∧ TermAt w x ls[i] ∧ b < w.heap.size := by
 obtain ⟨_, h⟩ := h
 rcases h with ⟨rfl, _⟩ | ⟨b, o, cap, vs, h1, h2, h3, h4, h5, h6, h7⟩
 ·simp at hi
 ·have hv : i < vs.length := by omega
  exact ⟨b, o, cap, vs[i], h1, row_cell h6 i hv, h7 i _ _ (List.getElem?_eq_getElem hv) (List.getElem?_eq_getElem hi), h4⟩
/-- A term as HandCells hands it. -/
def HandT (w : World) (u : Value) (l : List C) (g : Nat) : Prop := u = .slice (some ⟨g, 0, none⟩) l.length (l.length + 9) ∧ w.rangeAt g 0 (flat (handL l)) ∧ g < w.heap.size
theorem HandT.below {w w' : World} {u : Value} {l : List C} {g : Nat} (h : HandT w u l g) (hb : Below w.heap.size w w') : HandT w' u l g :=
 ⟨h.1, range_below h.2.1 h.2.2 hb, Nat.lt_of_lt_of_le h.2.2 hb.size⟩
theorem HandT.grown {w w' : World} {u : Value} {l : List C} {g : Nat} {o : Option Nat} (h : HandT w u l g) (hg : w.grownBy w' o) (ho : o ≠ some g) : HandT w' u l g :=
 ⟨h.1, fun j v hv => (hg.cell_far ⟨g, 0 + j, none⟩ h.2.2 (fun e => ho e.symm)).trans (h.2.1 j v hv), Nat.lt_of_lt_of_le h.2.2 hg.size⟩
/-- A row of terms as HandTerms hands it. -/
def HandR (w : World) (base : Nat) (u : Value) (ls : List (List C)) : Prop :=
 ∃ vs, w.ownsRow base 24 1 u ls.length vs ∧ vs.length = ls.length ∧ ∀ (i : Nat) (v : Value) (l : List C), vs[i]? = some v → ls[i]? = some l → ∃ g, HandT w v l g ∧ u.ownBlock ≠ some g
theorem HandR.below {w w' : World} {base : Nat} {u : Value} {ls : List (List C)} (h : HandR w base u ls) (hb : Below w.heap.size w w') : HandR w' base u ls := by
 obtain ⟨vs, h1, h2, h3⟩ := h
 refine ⟨vs, owns_below h1 hb, h2, fun i v l hv hl => ?_⟩
 obtain ⟨g, h4, h5⟩ := h3 i v l hv hl
 exact ⟨g, h4.below hb, h5⟩
/-- The block of a row of terms is none in which a term's cells lie. -/
theorem hand_apart {w : World} {base : Nat} {u : Value} {ls : List (List C)} {l : List C} {g : Nat} {v : Value} (h : HandR w base u ls) (h0 : 0 < ls.length) (ht : HandT w v l g) : u.ownBlock ≠ some g := by
 obtain ⟨vs, h1, h2, h3⟩ := h
 intro e
 rcases h1.2 with ⟨h4, h5⟩ | ⟨b, cap, cur, h4, h5, h6, h7, h8, h9, h10⟩
 ·omega
 ·rw [h4] at e
  simp [Value.ownBlock] at e
  subst e
  have hv : 0 < vs.length := by omega
  have r := range_of_owns h6 h10
  have c1 := r 0 vs[0] (List.getElem?_eq_getElem hv)
  obtain ⟨g', hT, _⟩ := h3 0 vs[0] ls[0] (List.getElem?_eq_getElem hv) (List.getElem?_eq_getElem h0)
  have hne : 0 < (handL l).length := by rw [handL_len]; omega
  obtain ⟨p0, _⟩ := term_cells ht.2.1 0 hne
  simp only [Nat.zero_mul, Nat.add_zero] at p0 c1
  rw [c1, hT.1] at p0
  simp at p0
theorem hand_row {w : World} {base : Nat} {u : Value} {ls : List (List C)} (h : HandR w base u ls) (hm : ls.length ≤ maxLen) (htx : ∀ l ∈ ls, ∀ c ∈ l, c.t.size ≤ maxLen) (hB : ∀ l ∈ ls, 48 * l.length ≤ 140737488355328) : RowAt w u ls := by
 obtain ⟨vs, h1, h2, h3⟩ := h
 cases hl : ls with
 | nil =>
  rw [hl] at h1
  rcases h1.2 with ⟨h4, _⟩ | ⟨b, cap, cur, h4, h5, h6, h7, h8, h9, h10⟩
  ·exact ⟨by simp, .inl ⟨rfl, none, h4⟩⟩
  ·exact ⟨by simp, .inr ⟨b, 0, cap, [], h4, by simp, h8, (Array.getElem?_eq_some_iff.1 h6).1, rfl, fun j v hv => by simp at hv, fun i u l hu => by simp at hu⟩⟩
 | cons a r =>
  rw [← hl]
  refine rowAt_of_owns h1 (by rw [hl]; simp) hm fun i v l hv hl' => ?_
  obtain ⟨g, h4, _⟩ := h3 i v l hv hl'
  rw [h4.1]
  exact hand_term h4.2.1 h4.2.2 (htx l (List.mem_of_getElem? hl')) (hB l (List.mem_of_getElem? hl'))
set_option maxRecDepth 100000 in
set_option maxHeartbeats 2000000 in
theorem k14h (ls : List (List C)) (v : Value) (w : World) (hR : RowAt w v ls) (hl : ls.length ≤ 5864062014805) (hB : ∀ l ∈ ls, 48 * l.length ≤ 140737488355328) :
  Calls Tryz.prog 19 #[v] w fun e w' => ∃ u, e = .returned u ∧ HandR w' w.heap.size u ls ∧ Below w.heap.size w w' := by
 have HR : Hid (RowAt w v ls) := hR
 have HB : Hid (∀ l ∈ ls, 48 * l.length ≤ 140737488355328) := hB
 obtain ⟨i0, hi, hz, hs, hby⟩ := info29
 obtain ⟨ad, cap, hv⟩ := hR.form
 subst hv
 clear hR hB
 go_enter Tryz.func19, Tryz.ntmps19
 go_wp2_with fail
 go_loopw [3, 4] (fun out i wr => ∃ k : Nat, k ≤ ls.length ∧ i = .int .i64 k ∧ Hid (HandR wr w.heap.size out (ls.take k)) ∧ (k = 0 → out.ownBlock = none) ∧ Below w.heap.size w wr) (fun _ i _ => ls.length - (intOf i).toNat)
 case atStart => exact ⟨0, by omega, rfl, ⟨[], World.ownsRow_nil _ _ _ _, rfl, fun i v l hv => by simp at hv⟩, fun _ => rfl, Below.refl _ _⟩
 case round =>
  obtain ⟨k, hk, rfl, HI, hk00, hbr⟩ := hrel
  have hsz := hbr.size
  by_cases hlt : k < ls.length
  ·have hlt' : (k : Int) < (ls.length : Int) := by omega
   have hk0 : (0 : Int) ≤ (k : Int) := by omega
   obtain ⟨rb, ro, rc, y, hu, cy, hTy, hrb⟩ := row_at (HR.out.below hbr) k hlt
   simp only [Value.slice.injEq] at hu
   obtain ⟨rfl, _, rfl⟩ := hu
   have H28 := k21 ls[k] y wr hTy (HB.out _ (List.getElem_mem hlt))
   obtain ⟨ay, cpy, hy⟩ := hTy.form
   subst hy
   clear hTy
   have HTk : Hid (ls.take (k + 1) = ls.take k ++ [ls[k]]) := List.take_succ_eq_append_getElem hlt
   have hbl : 48 * ls[k].length ≤ 140737488355328 := HB.out _ (List.getElem_mem hlt)
   generalize hlk : ls[k] = l at *
   go_wp2_with fail
   refine H28.mono ?_
   rintro e w1 ⟨g, rfl, hr1, hg1, hb1⟩
   have hsz1 := hb1.size
   have HH1 : Hid (HandT w1 (.slice (some ⟨g, 0, none⟩) l.length (l.length + 9)) l g) := ⟨rfl, hr1, hg1⟩
   have HI1 : Hid (HandR w1 w.heap.size u3 (ls.take k)) := HI.out.below hb1
   have HAp : Hid (u3.ownBlock ≠ some g) := by
    by_cases h0 : k = 0
    ·show u3.ownBlock ≠ some g
     rw [hk00 h0]; simp
    ·exact hand_apart HI1.out (by rw [List.length_take]; omega) HH1.out
   have hbw1 : Below w.heap.size w w1 := hbr.trans (hb1.mono hsz)
   obtain ⟨vs, hO, hvl, hvs⟩ := HI1.out
   have HVs : Hid (vs.length = (ls.take k).length ∧ ∀ (i : Nat) (v : Value) (l : List C), vs[i]? = some v → (ls.take k)[i]? = some l → ∃ g, HandT w1 v l g ∧ u3.ownBlock ≠ some g) := ⟨hvl, hvs⟩
   have hkl : (ls.take k).length = k := by rw [List.length_take]; omega
   rw [hkl] at hO
   have HOa : Hid ((w1.alloc (.cells #[.slice (some ⟨g, 0, none⟩) l.length (l.length + 9)] 24)).ownsRow w.heap.size 24 1 u3 k vs) := hO.alloc _
   have HNews : Hid (∀ j u, [(.slice (some ⟨g, 0, none⟩) l.length (l.length + 9) : Value)][j]? = some u → (w1.alloc (.cells #[.slice (some ⟨g, 0, none⟩) l.length (l.length + 9)] 24)).cell? ((⟨w1.heap.size, 0, none⟩ : Addr).add j) = some u) := fun j u hu => by
    rw [Addr.add_mid]
    exact range_new w1 [.slice (some ⟨g, 0, none⟩) l.length (l.length + 9)] 24 j u hu
   have hbwa : Below w.heap.size w (w1.alloc (.cells #[.slice (some ⟨g, 0, none⟩) l.length (l.length + 9)] 24)) := hbw1.alloc hbw1.size _
   clear hO hvl hvs hr1 H28 cy
   go_wp2_with (at_builtin; refine wpList_append_own_at _ rfl _ _ 33 rfl w.heap.size 24 i0 (.slice none 0 0) 1 24 Tryz.underlying33 hi hz hs hby rfl (by decide) _ _ _ rfl HOa.out ⟨w1.heap.size, 0, none⟩ 1 1 [.slice (some ⟨g, 0, none⟩) l.length (l.length + 9)] rfl rfl HNews.out (fun x hx => by simp at hx; subst hx; rfl) (by unfold maxLen; omega) (by omega) (by simp; omega) ?_)
   intro v' w' hown hgr _ hloc
   have HF : Hid (HandR w' w.heap.size v' (ls.take (k + 1))) := by
    have hal : ∀ (u : Value) (m : List C) (q : Nat), HandT w1 u m q → u3.ownBlock ≠ some q → HandT w' u m q ∧ v'.ownBlock ≠ some q := fun u m q hT hne => by
     refine ⟨(hT.below (below_alloc _ _)).grown hgr hne, fun e => ?_⟩
     rcases hloc with h | h
     ·rw [h] at e; exact hne e
     ·rw [h] at e
      have := hT.2.2
      simp at e
      omega
    refine ⟨vs ++ [.slice (some ⟨g, 0, none⟩) l.length (l.length + 9)], ?_, ?_, ?_⟩
    ·have e : (ls.take (k + 1)).length = k + 1 := by rw [List.length_take]; omega
     rw [e]; exact hown
    ·rw [HTk.out, List.length_append, List.length_append, HVs.out.1]; rfl
    ·intro i u m hu hm
     rw [HTk.out] at hm
     by_cases hi' : i < vs.length
     ·rw [List.getElem?_append_left hi'] at hu
      rw [List.getElem?_append_left (by rw [← HVs.out.1]; exact hi')] at hm
      obtain ⟨q, h1, h2⟩ := HVs.out.2 i u m hu hm
      exact ⟨q, hal u m q h1 h2⟩
     ·rw [List.getElem?_append_right (by omega)] at hu
      rw [List.getElem?_append_right (by rw [← HVs.out.1]; omega), ← HVs.out.1] at hm
      have h0 : i - vs.length = 0 := by
       have := (List.getElem?_eq_some_iff.1 hu).1
       simp at this; omega
      rw [h0] at hu hm
      simp at hu hm
      subst hu hm
      exact ⟨g, hal _ _ g HH1.out HAp.out⟩
   have HBf : Hid (Below w.heap.size w w') := hbwa.grown hgr (by simp; omega) (fun q hq => (HOa.out.lt q hq).1)
   clear hown hgr hloc
   go_wp2_with fail
   go_roundw
   case rel => exact ⟨k + 1, by omega, by go_num, HF, fun h => by omega, HBf.out⟩
   case measure => simp [intOf]; omega
  ·have hlt' : ¬ ((k : Int) < (ls.length : Int)) := by omega
   rw [List.take_of_length_le (by omega)] at HI
   go_wp2_with fail
   go_ret
   exact ⟨_, rfl, HI.out, hbr⟩
set_option maxRecDepth 100000 in
set_option maxHeartbeats 2000000 in
theorem k21h (ls : List (List C)) (u v : Value) (base : Nat) (w : World) (hH : HandR w base u ls) (hR : RowAt w v ls) (hl : ls.length ≤ 5864062014805) (hB : ∀ l ∈ ls, 48 * l.length ≤ 140737488355328) :
  Calls Tryz.prog 26 #[u, v] w fun e w' => e = .returned (.bool true) ∧ Below w.heap.size w w' := by
 have HH : Hid (HandR w base u ls) := hH
 have HR : Hid (RowAt w v ls) := hR
 have HB : Hid (∀ l ∈ ls, 48 * l.length ≤ 140737488355328) := hB
 obtain ⟨ad, cap, hv⟩ := hR.form
 obtain ⟨vs, hO, hvl, hvs⟩ := hH
 obtain ⟨au, cu, hu⟩ := owns_form hO
 subst hv hu
 clear hR hB hO hvl hvs
 have hq : ((ls.length : Int) != (ls.length : Int)) = false := by simp
 go_enter Tryz.func26, Tryz.ntmps26
 go_wp2_with fail
 go_loopw [5] (fun i wr => ∃ k : Nat, k ≤ ls.length ∧ i = .int .i64 k ∧ Below w.heap.size w wr) (fun i _ => ls.length - (intOf i).toNat)
 case atStart => exact ⟨0, by omega, rfl, Below.refl _ _⟩
 case round =>
  obtain ⟨k, hk, rfl, hbr⟩ := hrel
  by_cases hlt : k < ls.length
  ·have hlt' : (k : Int) < (ls.length : Int) := by omega
   have hk0 : (0 : Int) ≤ (k : Int) := by omega
   obtain ⟨rb, ro, rc, y, hu, cy, hTy, hrb⟩ := row_at (HR.out.below hbr) k hlt
   simp only [Value.slice.injEq] at hu
   obtain ⟨rfl, _, rfl⟩ := hu
   obtain ⟨vs, hO, hvl, hvs⟩ := HH.out.below hbr
   rcases hO.2 with ⟨h4, h5⟩ | ⟨b, cp, cur, h4, h5, h6, h7, h8, h9, h10⟩
   ·omega
   simp only [Value.slice.injEq] at h4
   obtain ⟨rfl, _, rfl⟩ := h4
   have hkv : k < vs.length := by omega
   have cv := range_of_owns h6 h10 k vs[k] (List.getElem?_eq_getElem hkv)
   rw [Nat.zero_add] at cv
   obtain ⟨g, hT, _⟩ := hvs k vs[k] ls[k] (List.getElem?_eq_getElem hkv) (List.getElem?_eq_getElem hlt)
   rw [hT.1] at cv
   have H36 : Hid (∀ W, Below wr.heap.size wr W → Calls Tryz.prog 53 #[.slice (some ⟨g, 0, none⟩) ls[k].length (ls[k].length + 9), y] W fun e w' => e = .returned (.bool true) ∧ Below W.heap.size W w') := fun W hW => k36 ls[k] y g W (hTy.below hW) (hT.below hW).2.1 (hT.below hW).2.2 (HB.out _ (List.getElem_mem hlt))
   obtain ⟨ay, cpy, hy⟩ := hTy.form
   subst hy
   clear hTy hT hvs hvl hO h6 h7 h8 h9 h10 h5
   generalize ls[k].length = tl at *
   go_wp2_with fail
   first
    | go_region_with (go_at_call 53; refine (H36.out _ (Below.drew (Below.refl _ _))).mono ?_; rintro e w7 ⟨rfl, hb7⟩)
    | fail
   all_goals (
    have hb7' : Below wr.heap.size wr w7 := (Below.drew (Below.refl _ _)).trans hb7
    go_wp2_with fail
    go_roundw
    case rel => exact ⟨k + 1, by omega, by go_num, hbr.trans (hb7'.mono hbr.size)⟩
    case measure => simp [intOf]; omega)
  ·have hlt' : ¬ ((k : Int) < (ls.length : Int)) := by omega
   go_wp2_with fail
   go_ret
   exact ⟨rfl, hbr⟩
end Go.Proofs.YtljggjllijacjaaGreatDoor.Hx

namespace Go.Proofs.YtljggjllijacjaaGreatDoor
open Go.RowKit
attribute [local go_sem ↓] Go.wp_at_zero Go.wp_at_succ
/-- A number of steps that is done. -/
def stN (n : Int) : Int := if 3000 < n then 3000 else n
theorem stN_le (n : Int) : stN n ≤ 3000 := by unfold stN; split <;> omega
set_option maxRecDepth 100000 in
theorem s21 (n : Int) (w : World) : Calls Tryz.prog 21 #[.int .i64 n] w fun e w' => e = .returned (.int .i64 (stN n)) ∧ w' = w := by
 by_cases h : 3000 < n
 ·have hs : Hid (stN n = 3000) := by show stN n = 3000; unfold stN; rw [if_pos h]
  go_enter Tryz.func21, Tryz.ntmps21
  go_wp2_with fail
  go_ret
  exact ⟨by rw [hs.out]; rfl, rfl⟩
 ·have hs : Hid (stN n = n) := by show stN n = n; unfold stN; rw [if_neg h]
  have h' : n ≤ 3000 := by omega
  go_enter Tryz.func21, Tryz.ntmps21
  go_wp2_with fail
  go_ret
  exact ⟨by rw [hs.out]; rfl, rfl⟩
/-- A block of four cells, and what stands in it. -/
def Fo (w : World) (g t : Nat) (a b c d : Value) : Prop := w.heap[g]? = some (.cells #[a, b, c, d] t (0, 0))
theorem Fo.cells {w : World} {g t : Nat} {a b c d : Value} (h : Fo w g t a b c d) : (w.cell? ⟨g, 0, none⟩ = some a ∧ w.cell? ⟨g, 1, none⟩ = some b ∧ w.cell? ⟨g, 2, none⟩ = some c ∧ w.cell? ⟨g, 3, none⟩ = some d) ∧ g < w.heap.size := by
 have h' : w.heap[g]? = some (.cells #[a, b, c, d] t (0, 0)) := h
 refine ⟨⟨?_, ?_, ?_, ?_⟩, (Array.getElem?_eq_some_iff.1 h').1⟩ <;> (rw [cell_of_row w g _ _ t (0, 0) h']; rfl)
theorem Fo.below {w w' : World} {g t : Nat} {a b c d : Value} (h : Fo w g t a b c d) (hb : Below w.heap.size w w') : Fo w' g t a b c d := by
 have h' : w.heap[g]? = some (.cells #[a, b, c, d] t (0, 0)) := h
 exact (hb.block g (Array.getElem?_eq_some_iff.1 h').1).trans h'
theorem Fo.new (w : World) (t : Nat) (a b c d : Value) : Fo (w.alloc (.cells #[a, b, c, d] t)) w.heap.size t a b c d := heap_alloc_new w _
theorem Fo.kb {w w' : World} {g t b' : Nat} {a b c d : Value} {cb : Array Value} (h : Fo w g t a b c d) (hb : Bk.BookAt w b' cb) (h1 : t ≠ 50) (h2 : t ≠ 23) (hk : Kb b' w w') : Fo w' g t a b c d := by
 have h' : w.heap[g]? = some (.cells #[a, b, c, d] t (0, 0)) := h
 have hb' : w.heap[b']? = some (.cells cb 50 (0, 0)) := hb
 refine (hk.2 g h.cells.2 (fun e2 => ?_) (fun cu fr h5 => ?_)).trans h'
 ·subst e2
  rw [h'] at hb'
  simp only [Option.some.injEq, Obj.cells.injEq] at hb'
  exact h1 hb'.2.1
 ·rw [h'] at h5
  simp only [Option.some.injEq, Obj.cells.injEq] at h5
  exact h2 h5.2.1
set_option maxRecDepth 100000 in
set_option maxHeartbeats 4000000 in
theorem s23 (o st : Int) (ba : Option Addr) (bn bc : Nat) (la : Option Addr) (ln lc : Nat) (w : World) :
  Calls Tryz.prog 23 #[.agg #[.int .u8 o, .slice ba bn bc, .slice la ln lc, .int .i64 st]] w fun e w' => e = .returned (.agg #[.int .u8 o, .slice ba bn bc, .slice la ln lc, .int .i64 st]) ∧ Below w.heap.size w w' := by
 obtain ⟨n, hn⟩ : ∃ n, w.heap.size = n := ⟨_, rfl⟩
 obtain ⟨W1, hW1⟩ : ∃ W1, w.alloc (.cells #[.int .u8 o, .slice ba bn bc, .slice la ln lc, .int .i64 st] 62) = W1 := ⟨_, rfl⟩
 obtain ⟨W2, hW2⟩ : ∃ W2, W1.alloc (.cells #[.int .u8 0, .slice none 0 0, .slice none 0 0, .int .i64 0] 66) = W2 := ⟨_, rfl⟩
 have hs1 : W1.heap.size = n + 1 := by rw [← hW1, ← hn]; simp
 have HB2 : Hid (Below w.heap.size w W2) := by
  rw [← hW2, ← hW1]
  exact ((Below.refl _ w).alloc (Nat.le_refl _) _).alloc (by simp) _
 have HF : Hid (Fo W2 n 62 (.int .u8 o) (.slice ba bn bc) (.slice la ln lc) (.int .i64 st) ∧ Fo W2 (n + 1) 66 (.int .u8 0) (.slice none 0 0) (.slice none 0 0) (.int .i64 0)) := by
  refine ⟨Fo.below ?_ (by rw [← hW2]; exact below_alloc _ _), ?_⟩
  ·rw [← hW1, ← hn]; exact Fo.new _ _ _ _ _ _
  ·rw [← hW2, ← hs1]; exact Fo.new _ _ _ _ _ _
 go_enter Tryz.func23, Tryz.ntmps23
 obtain ⟨⟨x0, x1, x2, x3⟩, hx⟩ := HF.out.1.cells
 obtain ⟨⟨y0, y1, y2, y3⟩, hy⟩ := HF.out.2.cells
 have hblk : W2.heap[n + 1]? = some (.cells #[.int .u8 0, .slice none 0 0, .slice none 0 0, .int .i64 0] 66 (0, 0)) := HF.out.2
 have f0 := frozen_of_row W2 (n + 1) 0 _ 66 hblk
 have f1 := frozen_of_row W2 (n + 1) 1 _ 66 hblk
 have f2 := frozen_of_row W2 (n + 1) 2 _ 66 hblk
 have f3 := frozen_of_row W2 (n + 1) 3 _ 66 hblk
 have hle : w.heap.size ≤ n + 1 := by omega
 clear hblk
 go_wp2_with fail
 clear hW1 hW2 hs1 hn x0 x1 x2 x3 hx
 refine bodyPost_ret (v := .agg #[.int .u8 o, .slice ba bn bc, .slice la ln lc, .int .i64 st]) (by simp [results, Tryz.results23, go_sem, y0, y1, y2, y3]) rfl ⟨rfl, ?_⟩
 exact (((HB2.out.setCell (p := ⟨n + 1, 0, none⟩) hle _).setCell (p := ⟨n + 1, 1, none⟩) hle _).setCell (p := ⟨n + 1, 2, none⟩) hle _).setCell (p := ⟨n + 1, 3, none⟩) hle _
theorem bs_low {w W : World} {a : Option Addr} {n : Nat} {bs : List Bn} (h : Bs w a n bs) (hb : Below w.heap.size w W) : Bs W a n bs := by
 refine ⟨h.len, ?_⟩
 rcases h.mem with e | ⟨b, o, e, h1, h2⟩
 ·exact .inl e
 ·exact .inr ⟨b, o, e, Nat.lt_of_lt_of_le h1 hb.size, range_below h2 h1 hb⟩
set_option maxRecDepth 100000 in
set_option maxHeartbeats 4000000 in
theorem s22 (o st : Int) (ba ba' : Option Addr) (bn bc bc' : Nat) (la la' : Option Addr) (ln lc ln' lc' : Nat) (bb bb' : List Bn) (L : List (List C)) (w : World) (h1 : Bs w ba bn bb) (h2 : Bs w ba' bn bb') (h3 : ∀ b ∈ bb, TermAt w b.v b.l) (h4 : ∀ b ∈ bb', TermAt w b.v b.l) (h5 : hpOf bb = hpOf bb') (hn : bn ≤ 4000000000000) (h6 : RowAt w (.slice la ln lc) L) (h7 : RowAt w (.slice la' ln' lc') L) :
  Calls Tryz.prog 22 #[.agg #[.int .u8 o, .slice ba bn bc, .slice la ln lc, .int .i64 st], .agg #[.int .u8 o, .slice ba' bn bc', .slice la' ln' lc', .int .i64 st]] w fun e w' => e = .returned (.bool true) ∧ Below w.heap.size w w' := by
 have HT : Hid (RowAt w (.slice la ln lc) L ∧ RowAt w (.slice la' ln' lc') L) := ⟨h6, h7⟩
 obtain ⟨n, hn'⟩ : ∃ n, w.heap.size = n := ⟨_, rfl⟩
 obtain ⟨W1, hW1⟩ : ∃ W1, w.alloc (.cells #[.int .u8 o, .slice ba bn bc, .slice la ln lc, .int .i64 st] 66) = W1 := ⟨_, rfl⟩
 obtain ⟨W2, hW2⟩ : ∃ W2, W1.alloc (.cells #[.int .u8 o, .slice ba' bn bc', .slice la' ln' lc', .int .i64 st] 66) = W2 := ⟨_, rfl⟩
 have hs1 : W1.heap.size = n + 1 := by rw [← hW1, ← hn']; simp
 have HB2 : Hid (Below w.heap.size w W2) := by
  rw [← hW2, ← hW1]
  exact ((Below.refl _ w).alloc (Nat.le_refl _) _).alloc (by simp) _
 have HF : Hid (Fo W2 n 66 (.int .u8 o) (.slice ba bn bc) (.slice la ln lc) (.int .i64 st) ∧ Fo W2 (n + 1) 66 (.int .u8 o) (.slice ba' bn bc') (.slice la' ln' lc') (.int .i64 st)) := by
  refine ⟨Fo.below ?_ (by rw [← hW2]; exact below_alloc _ _), ?_⟩
  ·rw [← hW1, ← hn']; exact Fo.new _ _ _ _ _ _
  ·rw [← hW2, ← hs1]; exact Fo.new _ _ _ _ _ _
 have H62 : Hid (Calls Tryz.prog 62 #[.slice ba bn bc, .slice ba' bn bc'] W2 fun e w' => e = .returned (.bool true) ∧ Below W2.heap.size W2 w') := i21 ba ba' bn bc bc' bb bb' W2 (bs_low h1 HB2.out) (bs_low h2 HB2.out) (fun b hb => (h3 b hb).below HB2.out) (fun b hb => (h4 b hb).below HB2.out) h5 hn
 clear h1 h2 h3 h4 h5 h6 h7
 go_enter Tryz.func22, Tryz.ntmps22
 obtain ⟨⟨x0, x1, x2, x3⟩, hx⟩ := HF.out.1.cells
 obtain ⟨⟨y0, y1, y2, y3⟩, hy⟩ := HF.out.2.cells
 have hk : (o == o) = true := by simp
 have hst : (st == st) = true := by simp
 go_wp2_with fail
 refine H62.out.mono ?_
 rintro e w3 ⟨rfl, hb3⟩
 have HB3 : Hid (Below w.heap.size w w3) := HB2.out.trans (hb3.mono HB2.out.size)
 obtain ⟨⟨_, _, u2, u3⟩, _⟩ := (HF.out.1.below hb3).cells
 obtain ⟨⟨_, _, v2, v3⟩, _⟩ := (HF.out.2.below hb3).cells
 have HF3 : Hid (Fo w3 n 66 (.int .u8 o) (.slice ba bn bc) (.slice la ln lc) (.int .i64 st) ∧ Fo w3 (n + 1) 66 (.int .u8 o) (.slice ba' bn bc') (.slice la' ln' lc') (.int .i64 st)) := ⟨HF.out.1.below hb3, HF.out.2.below hb3⟩
 have H43 : Hid (Calls Tryz.prog 43 #[.slice la ln lc, .slice la' ln' lc'] w3 fun e w' => e = .returned (.bool true) ∧ Below w3.heap.size w3 w') := t43 L _ _ w3 (HT.out.1.below HB3.out) (HT.out.2.below HB3.out)
 clear x0 x1 x2 x3 y0 y1 y2 y3 H62 hb3 hx hy hW1 hW2 hn' hs1
 go_wp2_with fail
 refine H43.out.mono ?_
 rintro e w4 ⟨rfl, hb4⟩
 have HB4 : Hid (Below w.heap.size w w4) := HB3.out.trans (hb4.mono HB3.out.size)
 obtain ⟨⟨_, _, _, t3⟩, _⟩ := (HF3.out.1.below hb4).cells
 obtain ⟨⟨_, _, _, z3⟩, _⟩ := (HF3.out.2.below hb4).cells
 clear hb4 u2 u3 v2 v3
 go_wp2_with fail
 go_ret
 exact ⟨rfl, HB4.out⟩
/-- A row of bindings, each value in memory of its own, none of them in a book's rows. -/
structure TkB (w : World) (B : Nat) (vs : List Value) (bb : List Bn) (pv : Value) : Prop where
 row : w.ownsRow B 73 3 pv bb.length (bb.flatMap encB)
 el : ∀ (j : Nat) (b : Bn), bb[j]? = some b → OwnT w B b.v b.l
 ap : Ap (bb.map Bn.v)
 apv : ∀ (j i : Nat) (v : Value) (b : Bn) (g : Nat), vs[j]? = some v → bb[i]? = some b → b.v.ownBlock = some g → v.ownBlock ≠ some g
theorem owns_bs {w : World} {B : Nat} {a : Option Addr} {n c : Nat} {bb : List Bn} (h : w.ownsRow B 73 3 (.slice a n c) bb.length (bb.flatMap encB)) : Bs w a n bb ∧ bb.length = n := by
 obtain ⟨a2, c2, e2, ha, hm⟩ := own_sl h
 simp only [Value.slice.injEq] at e2
 obtain ⟨rfl, rfl, rfl⟩ := e2
 exact ⟨⟨rfl, hm⟩, rfl⟩
set_option maxRecDepth 100000 in
set_option maxHeartbeats 4000000 in
theorem t25 (B b : Nat) (nv : Value) (vs : List Value) (ns : List Nat) (bb : List Bn) (pa : Option Addr) (pn pc : Nat) (w : World) (h : Bk.BkN w B b nv vs ns) (hP : TkB w B vs bb (.slice pa pn pc)) (hn : (ns.length + bb.length + 1) * 24 ≤ 140737488355328) :
  Calls Tryz.prog 25 #[.pointer (some ⟨b, 0, none⟩), .slice pa pn pc] w fun e w' => e = .returned (.tuple #[]) ∧ Tks B b vs ns (bb.map Bn.v) (bb.map Bn.l) w w' := by
 have hpn : bb.length = pn := (owns_bs hP.row).2
 have HP : Hid (TkB w B vs bb (.slice pa pn pc) ∧ bb.length = pn) := ⟨hP, hpn⟩
 have HB0 : Hid (Bk.BookAt w b (Bk.BkA nv)) := h.book
 have HN : Hid ((ns.length + pn + 1) * 24 ≤ 140737488355328) := by rw [← hpn]; exact hn
 have H0 : Hid (∃ nv', Bk.BkN w B b nv' (vs ++ (bb.take 0).map Bn.v) (ns ++ ((bb.take 0).map Bn.l).map List.length) ∧ Below B w w ∧ Kb b w w) := ⟨nv, by simpa using h, Below.refl _ _, Kb.refl _ _⟩
 have hp63 : pn ≤ 9223372036854775807 := by omega
 clear h hP hpn hn
 go_enter Tryz.func25, Tryz.ntmps25
 go_wp2_with fail
 go_loopw [4] (fun i wr => ∃ k : Nat, k ≤ pn ∧ i = .int .i64 k ∧ Hid (∃ nv', Bk.BkN wr B b nv' (vs ++ (bb.take k).map Bn.v) (ns ++ ((bb.take k).map Bn.l).map List.length) ∧ Below B w wr ∧ Kb b w wr)) (fun i _ => pn - (intOf i).toNat)
 case atStart => exact ⟨0, Nat.zero_le _, rfl, H0⟩
 case round =>
  clear H0
  obtain ⟨k, hk, rfl, HK⟩ := hrel
  by_cases hlt : k < pn
  ·have hltI : (k : Int) < (pn : Int) := by omega
   have hk0 : (0 : Int) ≤ (k : Int) := by omega
   have hkP : k < bb.length := by rw [HP.out.2]; exact hlt
   obtain ⟨nv', hBk, hbw, hkb⟩ := HK.out
   have hrow := hkb.owns HB0.out (by decide) (by decide) HP.out.1.row
   obtain ⟨g, o, hx, rfl, hg1, c0, c1, c2⟩ := (owns_bs hrow).1.at hlt
   have hu : bb[k]? = some bb[k] := List.getElem?_eq_getElem hkP
   have hoT : OwnT wr B bb[k].v bb[k].l := hkb.owns HB0.out (by decide) (by decide) (HP.out.1.el k _ hu)
   obtain ⟨y, hy⟩ : ∃ y, bb[k] = y := ⟨_, rfl⟩
   rw [hy] at hu hoT c0 c1 c2
   obtain ⟨⟨yx, yy⟩, ya, yn, yc, yl⟩ := y
   have hm : yl.length = yn := by
    obtain ⟨x, z, e⟩ := ownT_form hoT
    simp only [Bn.v, Value.slice.injEq] at e
    exact e.2.1.symm
   dsimp only at c0 c1 c2
   have H25 : Hid (Calls Tryz.prog 47 #[.pointer (some ⟨b, 0, none⟩), .slice ya yn yc] wr fun e w' => e = .returned (.tuple #[]) ∧ Bk.Tk B b (vs ++ (bb.take k).map Bn.v) (ns ++ ((bb.take k).map Bn.l).map List.length) ya yn yc wr w') := by
    refine Bk.b25 B b nv' _ _ ya yn yc yl wr hBk hm ⟨hoT, fun _ _ => rfl⟩ (fun j v g hv hg => ?_) ?_
    ·by_cases hj : j < vs.length
     ·rw [List.getElem?_append_left hj] at hv
      exact HP.out.1.apv j k v _ g hv hu hg
     ·rw [List.getElem?_append_right (by omega)] at hv
      have hjk : j - vs.length < k := by
       have := (List.getElem?_eq_some_iff.1 hv).1
       simp at this; omega
      rw [List.map_take, List.getElem?_take_of_lt hjk] at hv
      exact HP.out.1.ap k (j - vs.length) (Value.slice ya yn yc) v g (by omega) (by rw [List.getElem?_map, hu]; rfl) hv hg
    ·have := HN.out
     have hkk : (ns ++ ((bb.take k).map Bn.l).map List.length).length ≤ ns.length + pn := by
      simp; omega
     have h2 : ((ns ++ ((bb.take k).map Bn.l).map List.length).length + 1) * 24 ≤ (ns.length + pn + 1) * 24 := Nat.mul_le_mul_right _ (by omega)
     exact Nat.le_trans h2 this
   have HX : Hid (Below B w wr ∧ Kb b w wr ∧ (bb.take (k + 1)).map Bn.v = (bb.take k).map Bn.v ++ [.slice ya yn yc] ∧ ((bb.take (k + 1)).map Bn.l).map List.length = ((bb.take k).map Bn.l).map List.length ++ [yn]) := by
    refine ⟨hbw, hkb, ?_, ?_⟩
    ·rw [List.take_succ_eq_append_getElem hkP, List.map_append, hy]; rfl
    ·rw [List.take_succ_eq_append_getElem hkP, List.map_append, List.map_append, hy, ← hm]; rfl
   clear hBk hbw hkb hrow hu hy hoT hm hkP hx
   go_wp2_with fail
   refine H25.out.mono ?_
   rintro e w3 ⟨rfl, h3⟩
   have HF : Hid (∃ nv', Bk.BkN w3 B b nv' (vs ++ (bb.take (k + 1)).map Bn.v) (ns ++ ((bb.take (k + 1)).map Bn.l).map List.length) ∧ Below B w w3 ∧ Kb b w w3) := by
    obtain ⟨nv2, k1, k2, k3⟩ := h3
    have hs : wr.heap.size ≤ w3.heap.size := k2.size
    refine ⟨nv2, ?_, HX.out.1.trans k2, HX.out.2.1.trans ⟨hs, k3⟩⟩
    rw [HX.out.2.2.1, HX.out.2.2.2, ← List.append_assoc, ← List.append_assoc]
    exact k1
   clear h3 H25 c0 c1 c2
   go_wp2_with fail
   go_roundw
   case rel => exact ⟨k + 1, by omega, by go_num, HF⟩
   case measure => simp [intOf]; omega
  ·have hltI : ¬ (k : Int) < (pn : Int) := by omega
   obtain rfl : k = pn := by omega
   have HE : Hid (Tks B b vs ns (bb.map Bn.v) (bb.map Bn.l) w wr) := by
    obtain ⟨nv', h1, h2, h3⟩ := HK.out
    have e1 : bb.take k = bb := List.take_of_length_le (by rw [HP.out.2]; exact Nat.le_refl _)
    rw [e1] at h1
    exact ⟨nv', h1, h2, h3⟩
   clear HK
   go_wp2_with fail
   go_end0
   exact ⟨rfl, HE.out⟩
/-- A value that is a slice. -/
def bnOf : Nm × List C → Value → Bn
 | b, .slice a n c => ⟨b.1, a, n, c, b.2⟩
 | b, _ => ⟨b.1, none, 0, 0, b.2⟩
theorem bn_zip : ∀ (bd : List (Nm × List C)) (ts : List Value), ts.length = bd.length → (∀ t ∈ ts, ∃ a n c, t = .slice a n c) → encBd bd ts = ((bd.zip ts).map fun p => bnOf p.1 p.2).flatMap encB ∧ ((bd.zip ts).map fun p => bnOf p.1 p.2).map Bn.v = ts ∧ hpOf ((bd.zip ts).map fun p => bnOf p.1 p.2) = bd
 | [], [], _, _ => ⟨rfl, rfl, rfl⟩
 | [], _ :: _, h, _ => by simp at h
 | _ :: _, [], h, _ => by simp at h
 | b :: bd, t :: ts, h, hs => by
  obtain ⟨h1, h2, h3⟩ := bn_zip bd ts (by simpa using h) fun u hu => hs u (List.mem_cons_of_mem _ hu)
  obtain ⟨a, n, c, rfl⟩ := hs t (by simp)
  refine ⟨?_, ?_, ?_⟩
  ·unfold encBd at h1 ⊢
   simp only [List.zip_cons_cons, List.flatMap_cons, List.map_cons, h1]
   rfl
  ·simp only [List.zip_cons_cons, List.map_cons, h2]
   rfl
  ·unfold hpOf at h3 ⊢
   simp only [List.zip_cons_cons, List.map_cons, h3]
   rfl
/-- What was bound and what is left, in memory of one's own: the bindings told as such. -/
structure SvB (B : Nat) (w : World) (bv lv : Value) (bb : List Bn) (us : List Value) (left : List (List C)) : Prop where
 row : w.ownsRow B 73 3 bv bb.length (bb.flatMap encB)
 lrow : w.ownsRow B 24 1 lv left.length us
 el : ∀ (j : Nat) (b : Bn), bb[j]? = some b → OwnT w B b.v b.l
 lel : ∀ (j : Nat) (u : Value) (l : List C), us[j]? = some u → left[j]? = some l → OwnT w B u l
 ap : Ap (bb.map Bn.v)
 lap : Ap us
 apx : ∀ b ∈ bb, ∀ u ∈ us, ∀ g, b.v.ownBlock = some g → u.ownBlock ≠ some g
theorem svR_bn {B : Nat} {w : World} {bv lv : Value} {bd : List (Nm × List C)} {left : List (List C)} (h : SvR B w bv lv bd left) : ∃ bb us, hpOf bb = bd ∧ SvB B w bv lv bb us left := by
 obtain ⟨ts, us, h1, h2, h3, h4, h5, h6, h7, h8⟩ := h
 obtain ⟨k1, k2, k3⟩ := bn_zip bd ts h3 fun t ht => by
  obtain ⟨j, hj, rfl⟩ := List.getElem_of_mem ht
  obtain ⟨x, y, e⟩ := ownT_form (h4 j _ _ (List.getElem?_eq_getElem hj) (List.getElem?_eq_getElem (by omega)))
  exact ⟨_, _, _, e⟩
 obtain ⟨bb, hbb⟩ : ∃ bb, ((bd.zip ts).map fun p => bnOf p.1 p.2) = bb := ⟨_, rfl⟩
 rw [hbb] at k1 k2 k3
 have hlen : bb.length = bd.length := by have := congrArg List.length k3; simpa [hpOf] using this
 refine ⟨bb, us, k3, ⟨by rw [hlen, ← k1]; exact h1, h2, fun j b hb => ?_, h5, by rw [k2]; exact h6, h7, fun b hb u hu => h8 b.v (by rw [← k2]; exact List.mem_map_of_mem hb) u hu⟩⟩
 refine h4 j b.v (b.x, b.l) (by rw [← k2, List.getElem?_map, hb]; rfl) (by rw [← k3]; unfold hpOf; rw [List.getElem?_map, hb]; rfl)
end Go.Proofs.YtljggjllijacjaaGreatDoor

namespace Go.Proofs.YtljggjllijacjaaGreatDoor
open Go.RowKit
attribute [local go_sem ↓] Go.wp_at_zero Go.wp_at_succ
/-- What comes of equations: short terms, not too many. -/
structure SolOk (s : Sol) (n0 : Nat) : Prop where
 bd : ∀ b ∈ s.bd, Sht b.2
 left : ∀ t ∈ s.left, Sht t
 bl : s.bd.length ≤ n0
 ll : s.left.length ≤ n0
theorem solF_ok : ∀ (g : Nat) (s : Sta) (n0 : Nat), StaOk s n0 → SolOk (solF g s) (n0 + 8 * (s.d + g)) := by
 intro g
 induction g with
 | zero =>
  intro s n0 h
  cases hr : s.row with
  | nil =>
   rw [solF_none hr]
   exact ⟨fun b hb => (h.bd b hb).1, fun t ht => by (cases ht), by have := h.bl; show s.bd.length ≤ _; omega, Nat.zero_le _⟩
  | cons t r =>
   rw [solF_zero hr]
   exact ⟨fun b hb => (h.bd b hb).1, fun x hx => (h.row x (by rw [hr]; exact hx)).1, by have := h.bl; show s.bd.length ≤ _; omega, by have := h.len; rw [hr] at this; show (t :: r).length ≤ _; omega⟩
 | succ g ih =>
  intro s n0 h
  cases hr : s.row with
  | nil =>
   rw [solF_none hr]
   exact ⟨fun b hb => (h.bd b hb).1, fun t ht => by (cases ht), by have := h.bl; show s.bd.length ≤ _; omega, Nat.zero_le _⟩
  | cons t r =>
   by_cases hk : (nxK s t).k = 4
   ·rw [solF_clash hr hk]
    exact ⟨fun b hb => (by cases hb), fun t ht => by (cases ht), Nat.zero_le _, Nat.zero_le _⟩
   ·rw [solF_next hr hk]
    have h1 := ih (nxS s t r) n0 (h.next hr)
    have h2 : (nxS s t r).d = s.d + 1 := rfl
    rw [h2] at h1
    have h3 : s.d + 1 + g = s.d + (g + 1) := by omega
    rw [h3] at h1
    exact h1
theorem slvF_ok {m : Hp} {ls : List (List C)} {n0 : Nat} (N : Int) (hW : HpW m) (hwf : ∀ l ∈ ls, WfT l) (hl : ls.length ≤ n0) (hN : N ≤ 3000) : SolOk (slvF m ls N) (n0 + 24000) := by
 unfold slvF
 cases hany : ls.any noneB
 ·have hst : StaOk (Sta0 m ls) n0 := by
   refine ⟨hW, fun t ht => ⟨?_, hwf t ht⟩, fun b hb => (by cases hb), (by show ls.length ≤ n0 + 8 * 0; omega), Nat.le_refl _⟩
   have h1 : noneB t = false := by
    cases h2 : noneB t
    ·rfl
    ·have h3 : ls.any noneB = true := List.any_eq_true.2 ⟨t, ht, h2⟩
     rw [h3] at hany
     cases hany
   unfold noneB at h1
   simp only [Bool.or_eq_false_iff, Bool.not_eq_false'] at h1
   exact sht_right (global_right h1.1)
  have h := solF_ok N.toNat (Sta0 m ls) n0 hst
  have h0 : (Sta0 m ls).d = 0 := rfl
  rw [h0] at h
  have h2 : N.toNat ≤ 3000 := by omega
  exact ⟨h.bd, h.left, Nat.le_trans h.bl (by omega), Nat.le_trans h.ll (by omega)⟩
 ·exact ⟨fun b hb => (by cases hb), fun t ht => by (cases ht), Nat.zero_le _, Nat.zero_le _⟩
/-- What the calls find. -/
structure Sg (W : World) (hb M rt n0 : Nat) (m : Hp) (ls : List (List C)) (hs : Nat) (u v : Value) : Prop where
 hp : ∃ nn D V, HpAt W hb M nn D m ∧ VB D V ∧ (∀ g, V g → g < W.heap.size) ∧ nn ≤ n0
 rf : ∃ G bs, RfH W G rt bs ∧ hpOf bs = m ∧ bs.length ≤ n0
 up : RisesH m
 hw : HpW m
 hand : Hx.HandR W hs u ls
 rows : RowAt W v ls
 wf : ∀ l ∈ ls, WfT l
 cl : ls.length ≤ n0
 cb : ∀ l ∈ ls, 48 * l.length ≤ 140737488355328
 cx : ∀ l ∈ ls, ∀ c ∈ l, c.t.size ≤ maxLen
 sg : Signs W
 cn : n0 ≤ 100000000
section
variable {W W' : World} {hb M rt n0 : Nat} {m : Hp} {ls : List (List C)} {hs : Nat} {u v : Value}
theorem Sg.below (h : Sg W hb M rt n0 m ls hs u v) (hw : Below W.heap.size W W') : Sg W' hb M rt n0 m ls hs u v := by
 obtain ⟨nn, D, V, h1, h2, h3, h4⟩ := h.hp
 obtain ⟨G, bs, k1, k2, k3⟩ := h.rf
 exact ⟨⟨nn, D, V, h1.below hw, h2, fun g hg => Nat.lt_of_lt_of_le (h3 g hg) hw.size, h4⟩, ⟨G, bs, k1.below hw, k2, k3⟩, h.up, h.hw, h.hand.below hw, h.rows.below hw, h.wf, h.cl, h.cb, h.cx, h.sg.below hw, h.cn⟩
theorem Sg.inp (h : Sg W hb M rt n0 m ls hs u v) : RowAt W u ls := Hx.hand_row h.hand (by have := h.cl; have := h.cn; unfold maxLen; omega) h.cx h.cb
theorem hpW_nil : HpW [] := ⟨fun x l h => by (cases h), fun x l h => by (cases h)⟩
theorem Sg.c20 (h : Sg W hb M rt n0 m ls hs u v) (N : Int) : Calls Tryz.prog 20 #[.pointer (some ⟨hb, 0, none⟩), .int .i64 (stN N), u] W fun e w' => SoR W.heap.size (slvF m ls (stN N)).out (slvF m ls (stN N)).bd (slvF m ls (stN N)).left (slvF m ls (stN N)).st e W w' := by
 obtain ⟨nn, D, V, h1, h2, h3, h4⟩ := h.hp
 exact y20 m _ n0 (stN N) ls u W (.inr ⟨hb, M, nn, D, V, rfl, h1, h2, h3, h4⟩) h.hw h.inp h.wf (fun l hl => by have := h.cb l hl; omega) h.cl h.cn h.sg (by have := stN_le N; omega)
theorem Sg.c20n (h : Sg W hb M rt n0 m ls hs u v) (N : Int) : Calls Tryz.prog 20 #[.pointer none, .int .i64 (stN N), u] W fun e w' => SoR W.heap.size (slvF [] ls (stN N)).out (slvF [] ls (stN N)).bd (slvF [] ls (stN N)).left (slvF [] ls (stN N)).st e W w' :=
 y20 [] _ n0 (stN N) ls u W (.inl ⟨rfl, rfl⟩) hpW_nil h.inp h.wf (fun l hl => by have := h.cb l hl; omega) h.cl h.cn h.sg (by have := stN_le N; omega)
theorem Sg.desc (h : Sg W hb M rt n0 m ls hs u v) : DescH m := by
 obtain ⟨nn, D, V, h1, _⟩ := h.hp
 exact h1.desc
theorem Sg.c24 (h : Sg W hb M rt n0 m ls hs u v) (N : Int) : Calls Tryz.prog 24 #[.pointer (some ⟨rt, 0, none⟩), .int .i64 (stN N), v] W fun e w' => SoD (slvF m ls (stN N)).out (slvF m ls (stN N)).bd (slvF m ls (stN N)).left (slvF m ls (stN N)).st e W w' := by
 obtain ⟨G, bs, k1, k2, k3⟩ := h.rf
 exact r24 m _ n0 (stN N) ls v W (.inr ⟨rt, G, bs, rfl, k1, k2, h.up, h.desc, k3⟩) h.hw h.rows h.wf h.cl h.cn (by have := stN_le N; omega)
theorem Sg.c24n (h : Sg W hb M rt n0 m ls hs u v) (N : Int) : Calls Tryz.prog 24 #[.pointer none, .int .i64 (stN N), v] W fun e w' => SoD (slvF [] ls (stN N)).out (slvF [] ls (stN N)).bd (slvF [] ls (stN N)).left (slvF [] ls (stN N)).st e W w' :=
 r24 [] _ n0 (stN N) ls v W (.inl ⟨rfl, rfl⟩) hpW_nil h.rows h.wf h.cl h.cn (by have := stN_le N; omega)
theorem Sg.c18 (h : Sg W hb M rt n0 m ls hs u v) : Calls Tryz.prog 18 #[.pointer (some ⟨hb, 0, none⟩)] W fun e w' => ∃ a k c, e = .returned (.slice a k c) ∧ BdTo W m a k w' := by
 obtain ⟨nn, D, V, h1, h2, h3, h4⟩ := h.hp
 exact h12b m hb M nn D W h1 (by have := h.cn; omega) h.up fun x l hl => (h.hw.len x l hl).1
theorem Sg.c26 (h : Sg W hb M rt n0 m ls hs u v) : Calls Tryz.prog 26 #[u, v] W fun e w' => e = .returned (.bool true) ∧ Below W.heap.size W w' :=
 Hx.k21h ls u v hs W h.hand h.rows (by have := h.cl; have := h.cn; omega) h.cb
theorem Sg.c9 (h : Sg W hb M rt n0 m ls hs u v) : Calls Tryz.prog 9 #[] W fun e w' => e = .returned (.bool true) ∧ Below W.heap.size W w' := u8 W h.sg
/-- The document's row of bindings. -/
theorem Sg.row (h : Sg W hb M rt n0 m ls hs u v) : ∃ (fa : Option Addr) (fn fc : Nat), ∃ bs : List Bn, ∀ w', Below W.heap.size W w' → w'.cell? ⟨rt, 0, none⟩ = some (.slice fa fn fc) ∧ Bs w' fa fn bs ∧ (∀ b ∈ bs, TermAt w' b.v b.l) ∧ hpOf bs = m ∧ rt < W.heap.size := by
 obtain ⟨G, bs, k1, k2, k3⟩ := h.rf
 obtain ⟨ra, rc, r1, r2, r3⟩ := k1.ex
 refine ⟨ra, bs.length, rc, bs, fun w' hw => ?_⟩
 have k4 := k1.below hw
 have e := (hw.block rt k1.rlt).trans r1
 exact ⟨by rw [cell_of_row w' rt 0 _ 57 (0, 0) e]; rfl, r2.keeps fun g hg => hw.block g (k1.lt g (r3 g hg)), fun b hb => (k4.lst b hb).1, k2, k1.rlt⟩
end
/-- A solution of the program can be read. -/
theorem SvB.bs {B : Nat} {w : World} {ba : Option Addr} {bn bc : Nat} {lv : Value} {bb : List Bn} {us : List Value} {left : List (List C)} {n0 : Nat} {s : Sol} (h : SvB B w (.slice ba bn bc) lv bb us left) (hs : SolOk s n0) (hb : hpOf bb = s.bd) (hl : left = s.left) (hn : n0 ≤ maxLen) : Bs w ba bn bb ∧ (∀ b ∈ bb, TermAt w b.v b.l) ∧ RowAt w lv left ∧ bn ≤ n0 := by
 subst hl
 have hm : ∀ {l : List C}, Sht l → l.length ≤ maxLen := fun h => by have := h.1; unfold maxLen; omega
 obtain ⟨h1, h2⟩ := owns_bs h.row
 refine ⟨h1, fun b hb' => ?_, ownRow_row ⟨us, h.lrow, h.lel, h.lap⟩ (Nat.le_trans hs.ll hn) fun x hx => ⟨hm (hs.left x hx), (hs.left x hx).2⟩, ?_⟩
 ·obtain ⟨j, hj, rfl⟩ := List.getElem_of_mem hb'
  have h3 := hs.bd (bb[j].x, bb[j].l) (by rw [← hb]; exact List.mem_map.2 ⟨bb[j], hb', rfl⟩)
  exact ownT_term (h.el j _ (List.getElem?_eq_getElem hj)) (hm h3) h3.2
 ·have := hs.bl
  rw [← hb] at this
  simp only [hpOf, List.length_map] at this
  omega
theorem SvB.below {B : Nat} {w w' : World} {bv lv : Value} {bb : List Bn} {us : List Value} {left : List (List C)} (h : SvB B w bv lv bb us left) (hb : Below w.heap.size w w') : SvB B w' bv lv bb us left :=
 ⟨owns_below h.row hb, owns_below h.lrow hb, fun j b hj => ownT_below (h.el j b hj) hb, fun j u l h1 h2 => ownT_below (h.lel j u l h1 h2) hb, h.ap, h.lap, h.apx⟩
theorem SvB.kb {B b' : Nat} {w w' : World} {bv lv : Value} {bb : List Bn} {us : List Value} {left : List (List C)} {cb : Array Value} (h : SvB B w bv lv bb us left) (hb : Bk.BookAt w b' cb) (hk : Kb b' w w') : SvB B w' bv lv bb us left :=
 ⟨hk.owns hb (by decide) (by decide) h.row, hk.owns hb (by decide) (by decide) h.lrow, fun j b hj => hk.owns hb (by decide) (by decide) (h.el j b hj), fun j u l h1 h2 => hk.owns hb (by decide) (by decide) (h.lel j u l h1 h2), h.ap, h.lap, h.apx⟩
/-- What it bound, ahead of a book's rows. -/
theorem SvB.tkB {B B' : Nat} {w : World} {bv lv : Value} {bb : List Bn} {us : List Value} {left : List (List C)} {vs : List Value} (h : SvB B w bv lv bb us left) (hB : B' ≤ B) (hv : ∀ (j : Nat) (v : Value) (g : Nat), vs[j]? = some v → v.ownBlock = some g → g < B) : TkB w B' vs bb bv :=
 ⟨row_base h.row hB, fun j b hj => ownT_base (h.el j b hj) hB, h.ap, fun j i v b g hj hi hg e => by
  have h1 := hv j v g hj e
  have h2 := ((h.el i b hi).lt g hg).1
  omega⟩
/-- What is left, behind what it bound. -/
theorem SvB.tkR {B B' : Nat} {w : World} {bv lv : Value} {bb : List Bn} {us : List Value} {left : List (List C)} {vs : List Value} (h : SvB B w bv lv bb us left) (hB : B' ≤ B) (hv : ∀ (j : Nat) (v : Value) (g : Nat), vs[j]? = some v → v.ownBlock = some g → g < B) : TkR w B' (vs ++ bb.map Bn.v) us left lv :=
 ⟨row_base h.lrow hB, fun j u l h1 h2 => ownT_base (h.lel j u l h1 h2) hB, h.lap, fun j i v u g hj hi hg e => by
  by_cases hlt : j < vs.length
  ·rw [List.getElem?_append_left hlt] at hj
   have h1 := hv j v g hj e
   have hul : us.length = left.length := by have := h.lrow.1; omega
   have hil : i < left.length := by rw [← hul]; exact (List.getElem?_eq_some_iff.1 hi).1
   have h2 := ((h.lel i u _ hi (List.getElem?_eq_getElem hil)).lt g hg).1
   omega
  ·rw [List.getElem?_append_right (by omega), List.getElem?_map] at hj
   obtain ⟨b, hb, hbv⟩ := Option.map_eq_some_iff.1 hj
   subst hbv
   exact h.apx b (List.mem_of_getElem? hb) u (List.mem_of_getElem? hi) g e hg⟩
end Go.Proofs.YtljggjllijacjaaGreatDoor
