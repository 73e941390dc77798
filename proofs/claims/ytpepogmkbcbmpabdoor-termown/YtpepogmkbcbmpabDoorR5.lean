/- Contract of the reference SameTerms. -/
import Derived.Test.YtpepogmkbcbmpabDoorR4
namespace Go.Proofs.YtpepogmkbcbmpabDoor
open Go.RowKit
attribute [local go_sem ↓] Go.wp_at_zero Go.wp_at_succ
def sameUpto (l m : List (List C)) (k : Nat) : Prop := ∀ j, j < k → ∀ (h1 : j < l.length) (h2 : j < m.length), eqT l[j] m[j] = true
def sameR (l m : List (List C)) : Bool := decide (l.length = m.length) && (l.zip m).all (fun p => eqT p.1 p.2)
theorem sameR_len {l m : List (List C)} (h : ¬ l.length = m.length) : sameR l m = false := by simp [sameR, h]
theorem sameR_true {l m : List (List C)} (h : l.length = m.length) (hu : sameUpto l m l.length) : sameR l m = true := by
  simp only [sameR, h, decide_true, Bool.true_and, List.all_eq_true]
  intro p hp
  obtain ⟨j, hj, rfl⟩ := List.getElem_of_mem hp
  simp at hj
  simpa using hu j (by omega) (by omega) (by omega)
theorem sameR_false {l m : List (List C)} (j : Nat) (h1 : j < l.length) (h2 : j < m.length) (h : eqT l[j] m[j] = false) : sameR l m = false := by
  unfold sameR
  have : (l.zip m).all (fun p => eqT p.1 p.2) = false := by
    rw [List.all_eq_false]
    exact ⟨(l.zip m)[j]'(by simp; omega), List.getElem_mem _, by simp [h]⟩
  rw [this]; simp
theorem sameR_refl (l : List (List C)) : sameR l l = true := sameR_true rfl (fun j _ h1 _ => eqT_refl l[j])
abbrev TwS (w : World) (b1 o1 b2 o2 : Nat) (u1 u2 : Value) (w' : World) : Prop :=
  w'.cell? ⟨b1, o1, none⟩ = some u1 ∧ w'.cell? ⟨b2, o2, none⟩ = some u2 ∧ Hid (Below w.heap.size w w' ∧ b1 < w.heap.size ∧ b2 < w.heap.size)
theorem twS_drew {w : World} {b1 o1 b2 o2 : Nat} {u1 u2 : Value} {w' : World} (h : TwS w b1 o1 b2 o2 u1 u2 w') : TwS w b1 o1 b2 o2 u1 u2 w'.drew :=
  ⟨by simpa using h.1, by simpa using h.2.1, h.2.2.out.1.drew, h.2.2.out.2⟩
theorem twS_below {w : World} {b1 o1 b2 o2 : Nat} {u1 u2 : Value} {w' w'' : World} (h : TwS w b1 o1 b2 o2 u1 u2 w') (hb : Below w'.heap.size w' w'') : TwS w b1 o1 b2 o2 u1 u2 w'' := by
  have h9 := h.2.2.out
  have hz := h9.1.size
  exact ⟨(hb.cell (p := ⟨_, _, none⟩) (Nat.lt_of_lt_of_le h9.2.1 hz)).trans h.1, (hb.cell (p := ⟨_, _, none⟩) (Nat.lt_of_lt_of_le h9.2.2 hz)).trans h.2.1, h9.1.trans (hb.mono hz), h9.2⟩
theorem twS_hb {w : World} {b1 o1 b2 o2 : Nat} {u1 u2 : Value} {w' : World} (h : TwS w b1 o1 b2 o2 u1 u2 w') : Below w.heap.size w w' := h.2.2.out.1
set_option maxHeartbeats 1000000 in
theorem c20_len (n m c1 c2 : Nat) (a1 a2 : Option Addr) (w : World) (h : ((n : Int) != (m : Int)) = true) :
    Calls Tryd.prog 9 #[.slice a1 n c1, .slice a2 m c2] w fun e w' => e = .returned (.bool false) ∧ Below w.heap.size w w' := by
  go_enter Tryd.func9, Tryd.ntmps9
  go_wp2_with fail
  go_ret
  exact ⟨rfl, Below.refl _ _⟩
set_option maxHeartbeats 1000000 in
theorem c20_nil (c1 c2 : Nat) (a1 a2 : Option Addr) (w : World) :
    Calls Tryd.prog 9 #[.slice a1 0 c1, .slice a2 0 c2] w fun e w' => e = .returned (.bool true) ∧ Below w.heap.size w w' := by
  go_enter Tryd.func9, Tryd.ntmps9
  go_wp2_with fail
  refine wp_loop_rounds 1 ?_
  rw [rounds_succ]
  go_wp2_with fail
  go_ret
  exact ⟨rfl, Below.refl _ _⟩
set_option maxHeartbeats 2000000 in
theorem c20_in (l m : List (List C)) (b1 o1 c1 b2 o2 c2 : Nat) (vs us : List Value) (w : World) (hl : l.length = m.length) (hc : l.length ≤ maxLen) (hb1 : b1 < w.heap.size) (hb2 : b2 < w.heap.size)
    (hvl : vs.length = l.length) (hul : us.length = m.length) (hr1 : w.rangeAt b1 o1 vs) (hr2 : w.rangeAt b2 o2 us)
    (ht1 : ∀ (i : Nat) (u : Value) (x : List C), vs[i]? = some u → l[i]? = some x → TermAt w u x) (ht2 : ∀ (i : Nat) (u : Value) (x : List C), us[i]? = some u → m[i]? = some x → TermAt w u x) :
    Calls Tryd.prog 9 #[.slice (some ⟨b1, o1, none⟩) l.length c1, .slice (some ⟨b2, o2, none⟩) l.length c2] w fun e w' => e = .returned (.bool (sameR l m)) ∧ Below w.heap.size w w' := by
  unfold maxLen at hc
  have HR1 : Hid (w.rangeAt b1 o1 vs) := hr1
  have HR2 : Hid (w.rangeAt b2 o2 us) := hr2
  have HT1 : Hid (∀ (i : Nat) (u : Value) (x : List C), vs[i]? = some u → l[i]? = some x → TermAt w u x) := ht1
  have HT2 : Hid (∀ (i : Nat) (u : Value) (x : List C), us[i]? = some u → m[i]? = some x → TermAt w u x) := ht2
  have HL : Hid (l.length = m.length) := hl
  have HV : Hid (vs.length = l.length) := hvl
  have HU : Hid (us.length = m.length) := hul
  have hne : (((l.length : Nat) : Int) != (l.length : Int)) = false := by simp
  clear hr1 hr2 hl ht1 ht2 hvl hul
  go_enter Tryd.func9, Tryd.ntmps9
  go_wp2_with fail
  go_loopw [5] (fun i wr => ∃ k : Nat, k ≤ l.length ∧ i = .int .i64 k ∧ Hid (sameUpto l m k) ∧ Below w.heap.size w wr) (fun i _ => l.length - (intOf i).toNat)
  case atStart => exact ⟨0, by omega, rfl, fun j hj => by omega, Below.refl _ _⟩
  case round =>
    obtain ⟨k, hk, rfl, HP, hbr⟩ := hrel
    by_cases hlt : k < l.length
    · have hlt' : (k : Int) < (l.length : Int) := by omega
      have hk0 : (0 : Int) ≤ (k : Int) := by omega
      have hlm : k < m.length := by rw [← HL.out]; exact hlt
      have hkv : k < vs.length := by rw [HV.out]; exact hlt
      have hku : k < us.length := by rw [HU.out]; exact hlm
      have p0 := row_cell (range_below HR1.out hb1 hbr) k hkv
      have q0 := row_cell (range_below HR2.out hb2 hbr) k hku
      have HC : Hid (∀ w' : World, Below w.heap.size w w' → Calls Tryd.prog 8 #[vs[k], us[k]] w' fun e w'' => e = .returned (.bool (eqT l[k] m[k])) ∧ Below w'.heap.size w' w'') := fun w' hb' =>
        c13 l[k] m[k] vs[k] us[k] w' ((HT1.out k _ _ (List.getElem?_eq_getElem hkv) (List.getElem?_eq_getElem hlt)).below hb') ((HT2.out k _ _ (List.getElem?_eq_getElem hku) (List.getElem?_eq_getElem hlm)).below hb')
      generalize vs[k] = u1 at p0 HC
      generalize us[k] = u2 at q0 HC
      have hS0 : TwS w b1 (o1 + k) b2 (o2 + k) u1 u2 wr := ⟨p0, q0, hbr, hb1, hb2⟩
      cases hq : eqT l[k] m[k]
      · have hF : Hid (sameR l m = false) := sameR_false k hlt hlm hq
        rw [hq] at HC
        clear hq
        go_wp2_with fail
        go_region_held3 (fun w' => TwS w b1 (o1 + k) b2 (o2 + k) u1 u2 w')
          (first | exact twS_drew hS0 | (refine twS_drew ?_; assumption) | assumption | exact twS_below (by assumption) (by assumption))
          (first | (go_at_call 8; refine (HC.out _ ?_).mono ?_; (exact twS_hb (by assumption)); rintro e w' ⟨rfl, hb3⟩))
        have hH := ‹TwS w b1 (o1 + k) b2 (o2 + k) u1 u2 _›
        have hB : Hid (Below w.heap.size w _) := twS_hb hH
        go_wp2_with fail
        go_ret
        exact ⟨by rw [hF.out]; rfl, hB.out⟩
      · have hU : Hid (sameUpto l m (k + 1)) := fun j hj h1 h2 => if e : j = k then by subst e; exact hq else HP.out j (by omega) h1 h2
        rw [hq] at HC
        clear hq
        go_wp2_with fail
        go_region_held3 (fun w' => TwS w b1 (o1 + k) b2 (o2 + k) u1 u2 w')
          (first | exact twS_drew hS0 | (refine twS_drew ?_; assumption) | assumption | exact twS_below (by assumption) (by assumption))
          (first | (go_at_call 8; refine (HC.out _ ?_).mono ?_; (exact twS_hb (by assumption)); rintro e w' ⟨rfl, hb3⟩))
        have hH := ‹TwS w b1 (o1 + k) b2 (o2 + k) u1 u2 _›
        have hB : Hid (Below w.heap.size w _) := twS_hb hH
        go_wp2_with fail
        go_roundw
        case rel => exact ⟨k + 1, by omega, by go_num, hU, hB.out⟩
        case measure => simp [intOf]; omega
    · have hF : Hid (sameR l m = true) := sameR_true HL.out (by rw [show l.length = k by omega]; exact HP.out)
      have hlt' : ¬ ((k : Int) < (l.length : Int)) := by omega
      go_wp2_with fail
      go_ret
      exact ⟨by rw [hF.out]; rfl, hbr⟩
theorem c20 (l m : List (List C)) (v u : Value) (w : World) (hv : RowAt w v l) (hu : RowAt w u m) :
    Calls Tryd.prog 9 #[v, u] w fun e w' => e = .returned (.bool (sameR l m)) ∧ Below w.heap.size w w' := by
  by_cases hl : l.length = m.length
  · by_cases h0 : l.length = 0
    · obtain ⟨a1, c1, rfl⟩ := hv.form
      obtain ⟨a2, c2, rfl⟩ := hu.form
      have e1 : l = [] := List.eq_nil_of_length_eq_zero h0
      have e2 : m = [] := List.eq_nil_of_length_eq_zero (by omega)
      subst e1 e2
      exact c20_nil c1 c2 a1 a2 w
    · obtain ⟨hc, hv⟩ := hv
      obtain ⟨_, hu⟩ := hu
      rcases hv with ⟨e, _⟩ | ⟨b1, o1, c1, vs, rfl, _, _, hb1, hvl, hr1, ht1⟩
      · rw [e] at h0; simp at h0
      rcases hu with ⟨e, _⟩ | ⟨b2, o2, c2, us, rfl, _, _, hb2, hul, hr2, ht2⟩
      · rw [hl, e] at h0; simp at h0
      rw [← hl]
      exact c20_in l m b1 o1 c1 b2 o2 c2 vs us w hl hc hb1 hb2 hvl hul hr1 hr2 ht1 ht2
  · obtain ⟨a1, c1, rfl⟩ := hv.form
    obtain ⟨a2, c2, rfl⟩ := hu.form
    rw [sameR_len hl]
    exact c20_len _ _ c1 c2 a1 a2 w (by simp; omega)
end Go.Proofs.YtpepogmkbcbmpabDoor
