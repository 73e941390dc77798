/- Contract of the statement on what is asked of terms: for every two terms, place, text and arity it returns true, where the first term has at most 1048576 cells. -/
import Derived.Test.YtpepogmkbcbmpaaDoorB1
import Derived.Test.YtpepogmkbcbmpaaDoorA4
import Derived.Test.YtpepogmkbcbmpaaDoorR5
import Derived.Test.YtpepogmkbcbmpaaDoorW18
namespace Go.Proofs.YtpepogmkbcbmpaaDoor
open Go.RowKit
attribute [local go_sem ↓] Go.wp_at_zero Go.wp_at_succ
abbrev AsS (w : World) (at_ : Int) (text : ByteArray) (n : Int) (vw : Value) (l : List C) (w' : World) : Prop :=
  w'.cell? ⟨w.heap.size, 0, none⟩ = some (.int .i64 at_) ∧ w'.cell? ⟨w.heap.size, 1, none⟩ = some (.string text) ∧ w'.cell? ⟨w.heap.size, 2, none⟩ = some (.int .i64 n) ∧
  Hid (Below w.heap.size w w' ∧ w.heap.size < w'.heap.size ∧ TermAt w' vw l)
theorem asS_drew {w : World} {at_ : Int} {text : ByteArray} {n : Int} {vw : Value} {l : List C} {w' : World} (h : AsS w at_ text n vw l w') : AsS w at_ text n vw l w'.drew := by
  obtain ⟨h1, h2, h3, h5⟩ := h
  have h9 := h5.out
  have hd : Below w'.heap.size w' w'.drew := (Below.refl _ _).drew
  exact ⟨by simpa using h1, by simpa using h2, by simpa using h3, h9.1.drew, h9.2.1, h9.2.2.below hd⟩
theorem asS_below {w : World} {at_ : Int} {text : ByteArray} {n : Int} {vw : Value} {l : List C} {w' w'' : World} (h : AsS w at_ text n vw l w') (hb : Below w'.heap.size w' w'') : AsS w at_ text n vw l w'' := by
  obtain ⟨h1, h2, h3, h5⟩ := h
  have h9 := h5.out
  have := hb.size
  exact ⟨(hb.cell (p := ⟨_, _, none⟩) h9.2.1).trans h1, (hb.cell (p := ⟨_, _, none⟩) h9.2.1).trans h2, (hb.cell (p := ⟨_, _, none⟩) h9.2.1).trans h3, h9.1.trans (hb.mono (by omega)), by omega, h9.2.2.below hb⟩
theorem asS_hb {w : World} {at_ : Int} {text : ByteArray} {n : Int} {vw : Value} {l : List C} {w' : World} (h : AsS w at_ text n vw l w') : Below w.heap.size w w' := h.2.2.2.out.1
theorem asS_own {w : World} {at_ : Int} {text : ByteArray} {n : Int} {vw : Value} {l : List C} {w' : World} (h : AsS w at_ text n vw l w') : TermAt w' vw l := h.2.2.2.out.2.2
set_option maxRecDepth 100000 in
set_option maxHeartbeats 8000000 in
theorem c4 (l lo : List C) (vt vo : Value) (at_ n : Int) (text : ByteArray) (w : World) (hS : Signs w) (hT : TermAt w vt l) (hO : TermAt w vo lo) (hl : l.length ≤ 1048576) :
    Calls Tryd.prog 4 #[vt, vo, .agg #[.int .i64 at_, .string text, .int .i64 n]] w fun e w' => e = .returned (.bool true) ∧ Below w.heap.size w w' := by
  have HS : Hid (Signs w) := hS
  have HT : Hid (TermAt w vt l) := hT
  have HO : Hid (TermAt w vo lo) := hO
  have H21 : Hid (∀ w' : World, Below w.heap.size w w' → Calls Tryd.prog 21 #[vt] w' fun e w'' => ∃ u, e = .returned u ∧ OwnT w'' w'.heap.size u l ∧ Below w'.heap.size w' w'') := fun w' hb => c21 l vt w' (HT.out.below hb) (by omega)
  obtain ⟨a1, c1, hf1⟩ := hT.form
  obtain ⟨a2, c2, hf2⟩ := hO.form
  subst hf1 hf2
  have hTl := hT.1
  have hB : ∀ o1 : Obj, Hid (Below w.heap.size w (w.alloc o1)) := fun o1 => below_alloc w o1
  have k1 : Hid (∀ j v, #[Value.int .i64 at_, Value.string text, Value.int .i64 n][j]? = some v → (w.alloc (.cells #[.int .i64 at_, .string text, .int .i64 n] 42)).cell? ⟨w.heap.size, j, none⟩ = some v) := fun j v hv => cell_new w _ 42 j v hv
  have hTL : Hid (l.length ≤ maxLen ∧ ∀ c ∈ l, c.t.size ≤ maxLen) := hTl
  clear hS hT hO hTl
  go_enter Tryd.func4, Tryd.ntmps4
  go_wp2_with fail
  refine (H21.out _ (hB _).out).mono ?_
  rintro e w1 ⟨vw, rfl, hOw, hb1⟩
  have hz0 : Hid (w.heap.size < (w.alloc (.cells #[.int .i64 at_, .string text, .int .i64 n] 42)).heap.size) := by
    show w.heap.size < _
    simp
  have hS0 : Hid (AsS w at_ text n vw l w1) := ⟨(hb1.cell (p := ⟨_, _, none⟩) hz0.out).trans (k1.out 0 _ rfl), (hb1.cell (p := ⟨_, _, none⟩) hz0.out).trans (k1.out 1 _ rfl), (hb1.cell (p := ⟨_, _, none⟩) hz0.out).trans (k1.out 2 _ rfl), (hB _).out.trans (hb1.mono (by simp)), Nat.lt_of_lt_of_le hz0.out hb1.size, ownT_term hOw hTL.out.1 hTL.out.2⟩
  obtain ⟨a3, c3', hf3⟩ := (asS_own hS0.out).form
  subst hf3
  clear hOw hb1 k1 hz0 hB H21
  generalize hen : endS l at_ = en
  have hee : (en == en) = true := by simp
  go_wp2_with fail
  go_region_held3 (fun w' => AsS w at_ text n (.slice a3 l.length c3') l w')
    (first | exact asS_drew hS0.out | (refine asS_drew ?_; assumption) | assumption | exact asS_below (by assumption) (by assumption))
    (first
      | (go_at_call 12; refine (c12 _ ?_).mono ?_; (exact HS.out.below (asS_hb (by assumption))); rintro e w12 ⟨rfl, hb12⟩)
      | (go_at_call 22; refine (c22 l _ _ ?_ ?_).mono ?_; (exact asS_own (by assumption)); (exact HS.out.below (asS_hb (by assumption))); rintro e w22 ⟨rfl, hb22⟩)
      | (go_at_call 23; refine (c23 l _ _ ?_).mono ?_; (exact HT.out.below (asS_hb (by assumption))); rintro e w23 ⟨rfl, hb23⟩)
      | (go_at_call 24; refine (c24 l _ at_ _ ?_).mono ?_; (exact asS_own (by assumption)); rintro e w24 ⟨rfl, hb24⟩)
      | (go_at_call 25; refine (c25 l _ at_ _ ?_ hl).mono ?_; (exact HT.out.below (asS_hb (by assumption))); rintro e w25 ⟨rfl, rfl⟩)
      | (go_at_call 26; refine (c26 l _ _ ?_ ?_).mono ?_; (exact asS_own (by assumption)); (exact HS.out.below (asS_hb (by assumption))); rintro e w26 ⟨v26, rfl, R26, hb26⟩)
      | (go_at_call 27; refine (c27 l _ _ ?_).mono ?_; (exact HT.out.below (asS_hb (by assumption))); rintro e w27 ⟨v27, rfl, R27, hb27⟩)
      | (go_at_call 20; refine (c20 _ _ _ _ _ (R26.below hb27) R27).mono ?_; rw [sameR_refl]; rintro e w20 ⟨rfl, hb20⟩)
      | (go_at_call 28; refine (c28 l _ text n _ ?_).mono ?_; (exact asS_own (by assumption)); rintro e w28 ⟨rfl, rfl⟩)
      | (go_at_call 29; refine (c29 l _ text n _ ?_).mono ?_; (exact HT.out.below (asS_hb (by assumption))); rintro e w29 ⟨rfl, rfl⟩)
      | (go_at_call 30; refine (c30 l lo _ _ _ ?_ ?_).mono ?_; (exact asS_own (by assumption)); (exact HO.out.below (asS_hb (by assumption))); rintro e w30 ⟨rfl, hb30⟩)
      | (go_at_call_of 13 (Value.slice a3 l.length c3'); refine (c13 l l _ _ _ ?_ ?_).mono ?_; (exact asS_own (by assumption)); (exact HT.out.below (asS_hb (by assumption))); rw [eqT_refl]; rintro e w13 ⟨rfl, hb13⟩)
      | (go_at_call 13; refine (c13 l lo _ _ _ ?_ ?_).mono ?_; (exact HT.out.below (asS_hb (by assumption))); (exact HO.out.below (asS_hb (by assumption))); rintro e w14 ⟨rfl, hb14⟩))
  go_wp2_with fail
  go_ret
  exact ⟨rfl, asS_hb (by assumption)⟩
end Go.Proofs.YtpepogmkbcbmpaaDoor
