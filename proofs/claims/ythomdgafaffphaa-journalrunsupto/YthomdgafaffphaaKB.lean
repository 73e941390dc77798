/- A log of the program beside one of the document; contract of alike. -/
import Derived.Test.YthomdgafaffphaaKA
namespace Go.Proofs.Ythomdgafaffphaa
open Go.RowKit
attribute [local go_sem ↓] Go.wp_at_zero Go.wp_at_succ
/-- A log of the program and one of the document, with the same bytes, apart from each other. -/
structure Pr (w : World) (B lb rb : Nat) (s t : Sl) (xs : List Int) : Prop where
  log : LogAt w lb B s xs
  hl : B ≤ lb
  rf : RfAt w rb B t xs
  apart : ∀ g, blk s.a = some g → blk t.a ≠ some g
section
variable {w w' : World} {B lb rb : Nat} {s t : Sl} {xs : List Int}
theorem Pr.keeps (h : Pr w B lb rb s t xs) (hk : ∀ g, (g = lb ∨ g = rb ∨ blk s.a = some g ∨ blk t.a = some g) → w'.heap[g]? = w.heap[g]?) : Pr w' B lb rb s t xs :=
  ⟨h.log.keeps (hk lb (.inl rfl)) (fun g e => hk g (.inr (.inr (.inl e)))), h.hl, ⟨(hk rb (.inr (.inl rfl))).trans h.rf.blk, h.rf.hb, h.rf.row.keeps (fun g e => hk g (.inr (.inr (.inr e)))), h.rf.rng⟩, h.apart⟩
theorem Pr.lt (h : Pr w B lb rb s t xs) {g : Nat} (hg : g = lb ∨ g = rb ∨ blk s.a = some g ∨ blk t.a = some g) : B ≤ g ∧ g < w.heap.size := by
  rcases hg with rfl | rfl | e | e
  · exact ⟨h.hl, h.log.lt⟩
  · exact ⟨h.rf.hb, (Array.getElem?_eq_some_iff.1 h.rf.blk).1⟩
  · exact h.log.row.lt e
  · exact h.rf.row.lt e
theorem Pr.below (h : Pr w B lb rb s t xs) (hb : Below w.heap.size w w') : Pr w' B lb rb s t xs := h.keeps fun g hg => hb.block g (h.lt hg).2
theorem Pr.lens (h : Pr w B lb rb s t xs) : s.n = xs.length ∧ t.n = xs.length := ⟨h.log.len.symm, by have := h.rf.row.len; simpa [u8s] using this.symm⟩
end
/-- What stays while a pair is looked at. -/
abbrev AlS (w0 : World) (pb B lb rb q : Nat) (sa ta : Option Addr) (sc tc : Nat) (xs : List Int) (w : World) : Prop :=
  w.cell? ⟨pb, 0, none⟩ = some (.pointer (some ⟨lb, 0, none⟩)) ∧ w.cell? ⟨pb, 1, none⟩ = some (.pointer (some ⟨rb, 0, none⟩)) ∧ w.cell? ⟨rb, 0, none⟩ = some (.slice ta q tc) ∧ Hid (Pr w B lb rb ⟨sa, q, sc⟩ ⟨ta, q, tc⟩ xs ∧ Below w0.heap.size w0 w ∧ pb < w.heap.size)
section
variable {w0 w w' : World} {pb B lb rb q : Nat} {sa ta : Option Addr} {sc tc : Nat} {xs : List Int}
theorem alS_below (h : AlS w0 pb B lb rb q sa ta sc tc xs w) (hb : Below w.heap.size w w') : AlS w0 pb B lb rb q sa ta sc tc xs w' := by
  obtain ⟨h1, h2, h3, h4⟩ := h
  obtain ⟨p1, p2, p3⟩ := h4.out
  have p4 := p1.below hb
  exact ⟨(hb.cell (p := ⟨pb, 0, none⟩) p3).trans h1, (hb.cell (p := ⟨pb, 1, none⟩) p3).trans h2, p4.rf.cell.1, p4, p2.trans (hb.mono p2.size), Nat.lt_of_lt_of_le p3 hb.size⟩
theorem alS_drew (h : AlS w0 pb B lb rb q sa ta sc tc xs w) : AlS w0 pb B lb rb q sa ta sc tc xs w.drew := alS_below h ((Below.refl _ w).drew)
theorem alS_pr (h : AlS w0 pb B lb rb q sa ta sc tc xs w) : Pr w B lb rb ⟨sa, q, sc⟩ ⟨ta, q, tc⟩ xs := h.2.2.2.out.1
theorem alS_hb (h : AlS w0 pb B lb rb q sa ta sc tc xs w) : Below w0.heap.size w0 w := h.2.2.2.out.2.1
end
theorem recs_bound (xs : List Int) (h : ∀ x ∈ xs, Byte x) (hn : xs.length ≤ 1000000000) : (recs 0 xs).length ≤ 140737488355328 ∧ ∀ p ∈ (recs 0 xs).map (·.2), p.length ≤ 140737488355328 ∧ ∀ x ∈ p, Byte x := by
  obtain ⟨ps, t, e1, _, e2, e3, _⟩ := split0 h
  rw [e2, ends_pay, ends_len]
  have hl : ∀ ps : List (List Int), ps.length ≤ (whole ps).length := by
    intro ps
    induction ps with
    | nil => simp
    | cons p r ih => rw [whole_cons, List.length_append, recI_length, List.length_cons]; omega
  have h1 := hl ps
  have h2 : (whole ps).length ≤ xs.length := by rw [e1, List.length_append]; omega
  exact ⟨by omega, fun p hp => ⟨by have := (e3 p hp).1; omega, (e3 p hp).2⟩⟩
set_option maxRecDepth 100000 in
set_option maxHeartbeats 4000000 in
theorem j25 (B lb rb : Nat) (s t : Sl) (xs : List Int) (w : World) (h : Pr w B lb rb s t xs) (hn : xs.length ≤ 1000000000) :
    Calls Try.prog 25 #[.agg #[.pointer (some ⟨lb, 0, none⟩), .pointer (some ⟨rb, 0, none⟩)]] w fun e w' => e = .returned (.bool true) ∧ Below w.heap.size w w' := by
  obtain ⟨e1, e2⟩ := h.lens
  obtain ⟨hR1, hR2⟩ := recs_bound xs h.log.rng hn
  obtain ⟨sa, sn, sc⟩ := s
  obtain ⟨ta, tn, tc⟩ := t
  simp only at e1 e2
  subst e1 e2
  obtain ⟨W, hW⟩ : ∃ W, w.alloc (.cells #[.pointer (some ⟨lb, 0, none⟩), .pointer (some ⟨rb, 0, none⟩)] 50) = W := ⟨_, rfl⟩
  obtain ⟨pb, hpb⟩ : ∃ pb, w.heap.size = pb := ⟨_, rfl⟩
  have hb : Below w.heap.size w W := by rw [← hW]; exact (Below.refl _ w).alloc (Nat.le_refl _) _
  have hc : W.heap[pb]? = some (.cells #[.pointer (some ⟨lb, 0, none⟩), .pointer (some ⟨rb, 0, none⟩)] 50 (0, 0)) := by rw [← hW, ← hpb]; exact heap_alloc_new w _
  have p0 : W.cell? ⟨pb, 0, none⟩ = some (.pointer (some ⟨lb, 0, none⟩)) := by rw [cell_of_row W pb 0 _ 50 (0, 0) hc]; rfl
  have p1 : W.cell? ⟨pb, 1, none⟩ = some (.pointer (some ⟨rb, 0, none⟩)) := by rw [cell_of_row W pb 1 _ 50 (0, 0) hc]; rfl
  have hP := h.below hb
  have H35 := j35 lb B ⟨sa, xs.length, sc⟩ xs W hP.log
  have HS : Hid (∀ d, AlS w pb B lb rb xs.length sa ta sc tc xs (W.drewN d)) := fun d =>
    alS_below ⟨p0, p1, hP.rf.cell.1, hP, hb, (Array.getElem?_eq_some_iff.1 hc).1⟩ (below_dN (Below.refl _ _) d)
  have HT : Hid (∀ ps, sameP ps ps = true) := fun ps => by simp [sameP]
  have HB : Hid (∀ ps, sameB ps ps = true) := fun ps => by simp [sameB]
  obtain ⟨q, hq⟩ : ∃ q, xs.length = q := ⟨_, rfl⟩
  rw [hq] at HS H35 hn
  have H28 : Hid (∀ w', AlS w pb B lb rb q sa ta sc tc xs w' → Calls Try.prog 28 #[.pointer (some ⟨lb, 0, none⟩)] w' fun e w'' => ∃ a c, e = .returned (.slice a q c) ∧ Hid (By w'' a q c xs) ∧ Below w'.heap.size w' w'') := fun w' hS => by
    refine (j28 lb B ⟨sa, q, sc⟩ xs w' (alS_pr hS).log (by dsimp only; omega)).mono ?_
    rintro e w'' ⟨a, c, rfl, hf⟩
    exact ⟨a, c, rfl, hf.1.by (alS_pr hS).log.rng, hf.2⟩
  have H15 : Hid (∀ w' a c, AlS w pb B lb rb q sa ta sc tc xs w' → Hid (By w' a q c xs) → Calls Try.prog 15 #[.slice a q c, .slice ta q tc] w' fun e w'' => e = .returned (.bool true) ∧ Below w'.heap.size w' w'') := fun w' a c hS hB => by
    refine (j15 a ta q c q tc xs xs w' hB.out (alS_pr hS).rf.by (by omega) (by omega)).mono ?_
    rintro e w'' ⟨rfl, d, rfl⟩
    rw [HB.out]
    exact ⟨rfl, below_dN (Below.refl _ _) d⟩
  have H32 : Hid (∀ w', AlS w pb B lb rb q sa ta sc tc xs w' → Calls Try.prog 32 #[.pointer (some ⟨lb, 0, none⟩)] w' fun e w'' => e = .returned (.bool (tornB xs)) ∧ Below w'.heap.size w' w'') := fun w' hS => by
    refine (j32 lb B ⟨sa, q, sc⟩ xs w' (alS_pr hS).log (by dsimp only; omega)).mono ?_
    rintro e w'' ⟨rfl, d, rfl⟩
    exact ⟨rfl, below_dN (Below.refl _ _) d⟩
  have H48 : Hid (∀ w', AlS w pb B lb rb q sa ta sc tc xs w' → Calls Try.prog 48 #[.pointer (some ⟨rb, 0, none⟩)] w' fun e w'' => e = .returned (.bool (tornB xs)) ∧ Below w'.heap.size w' w'') := fun w' hS =>
    j48 rb B ⟨ta, q, tc⟩ xs w' (alS_pr hS).rf (by dsimp only; omega)
  obtain ⟨r, hr⟩ : ∃ r, (recs 0 xs).length = r := ⟨_, rfl⟩
  rw [hr] at H35 hR1
  have H30 : Hid (∀ w', AlS w pb B lb rb q sa ta sc tc xs w' → Calls Try.prog 30 #[.pointer (some ⟨lb, 0, none⟩)] w' fun e w'' => ∃ a c, e = .returned (.slice a r c) ∧ Hid (∃ l, Pl w'' a r c l ((recs 0 xs).map (·.2))) ∧ Below w'.heap.size w' w'') := fun w' hS => by
    refine (j30 lb B ⟨sa, q, sc⟩ xs w' (alS_pr hS).log (by dsimp only; omega)).mono ?_
    rintro e w'' ⟨a, c, rfl, hf⟩
    rw [hr] at hf ⊢
    obtain ⟨_, _, _, _, hb⟩ := id hf
    exact ⟨a, c, rfl, hf.pl hR2, hb⟩
  have H49 : Hid (∀ w', AlS w pb B lb rb q sa ta sc tc xs w' → Calls Try.prog 49 #[.pointer (some ⟨rb, 0, none⟩)] w' fun e w'' => ∃ a c, e = .returned (.slice a r c) ∧ Hid (∃ l, Pl w'' a r c l ((recs 0 xs).map (·.2))) ∧ Below w'.heap.size w' w'') := fun w' hS => by
    refine (j49 rb B ⟨ta, q, tc⟩ xs w' (alS_pr hS).rf (by dsimp only; omega)).mono ?_
    rintro e w'' ⟨a, c, rfl, hf, hb⟩
    rw [hr] at hf ⊢
    exact ⟨a, c, rfl, hf, hb⟩
  have H18 : Hid (∀ w' w'' a c a' c', Hid (∃ l, Pl w' a r c l ((recs 0 xs).map (·.2))) → Below w'.heap.size w' w'' → Hid (∃ l, Pl w'' a' r c' l ((recs 0 xs).map (·.2))) → Calls Try.prog 18 #[.slice a r c, .slice a' r c'] w'' fun e w3 => e = .returned (.bool true) ∧ Below w''.heap.size w'' w3) := fun w' w'' a c a' c' h1 h2 h3 => by
    obtain ⟨l, h1⟩ := h1.out
    obtain ⟨l', h3⟩ := h3.out
    refine (j18 a a' r c r c' l l' _ _ w'' (h1.below h2) h3 (by omega) (by omega)).mono ?_
    rintro e w3 ⟨rfl, d, rfl⟩
    rw [HT.out]
    exact ⟨rfl, below_dN (Below.refl _ _) d⟩
  clear h hP hb hc hR2 hr hq HT HB
  generalize tornB xs = tn at *
  have htn : (tn == tn) = true := by simp
  go_enter Try.func25, Try.ntmps25
  go_wp2_with fail
  refine H35.mono ?_
  rintro e w1 ⟨rfl, d, rfl⟩
  clear H35 p0 p1 hW hpb
  have hS0 := HS.out d
  clear HS
  go_wp2_with fail
  go_region_held3 (fun w' => AlS w pb B lb rb q sa ta sc tc xs w')
    (first | exact alS_drew hS0 | (refine alS_drew ?_; assumption) | assumption | exact alS_below (by assumption) (by assumption))
    (first
      | (go_at_call 28; refine (H28.out _ (by assumption)).mono ?_; rintro e w28 ⟨a28, c28, rfl, B28, hb28⟩)
      | (go_at_call 15; refine (H15.out _ _ _ (by assumption) (by assumption)).mono ?_; rintro e w15 ⟨rfl, hb15⟩)
      | (go_at_call 32; refine (H32.out _ (by assumption)).mono ?_; rintro e w32 ⟨rfl, hb32⟩)
      | (go_at_call 48; refine (H48.out _ (by assumption)).mono ?_; rintro e w48 ⟨rfl, hb48⟩)
      | (go_at_call 30; refine (H30.out _ (by assumption)).mono ?_; rintro e w30 ⟨a30, c30, rfl, P30, hb30⟩)
      | (go_at_call 49; refine (H49.out _ (by assumption)).mono ?_; rintro e w49 ⟨a49, c49, rfl, P49, hb49⟩)
      | (go_at_call 18; refine (H18.out _ _ _ _ _ _ P30 hb49 P49).mono ?_; rintro e w18 ⟨rfl, hb18⟩))
  all_goals (
    go_wp2_with fail
    go_ret
    exact ⟨rfl, alS_hb (by assumption)⟩)
end Go.Proofs.Ythomdgafaffphaa
