/- Rows of payloads; contract of SamePayloads. -/
import Derived.Test.YthomdgafaffphaaJM
namespace Go.Proofs.Ythomdgafaffphaa
open Go.RowKit
attribute [local go_sem ↓] Go.wp_at_zero Go.wp_at_succ
/-- Payloads that can be read. -/
structure Pl (w : World) (a : Option Addr) (n c : Nat) (l : List Sl) (ps : List (List Int)) : Prop where
  len : l.length = n
  cap : n ≤ c
  plen : ps.length = n
  mem : n = 0 ∨ ∃ b o, a = some ⟨b, o, none⟩ ∧ b < w.heap.size ∧ w.rangeAt b o (l.map Sl.v)
  by_ : ∀ (i : Nat) (s : Sl) (xs : List Int), l[i]? = some s → ps[i]? = some xs → By w s.a s.n s.c xs
  small : ∀ s ∈ l, s.n ≤ 140737488355328
theorem Pl.below {w w' : World} {a : Option Addr} {n c : Nat} {l : List Sl} {ps : List (List Int)} (h : Pl w a n c l ps) (hb : Below w.heap.size w w') : Pl w' a n c l ps :=
  ⟨h.len, h.cap, h.plen, by
    rcases h.mem with e | ⟨b, o, e, hl, hr⟩
    · exact .inl e
    · exact .inr ⟨b, o, e, Nat.lt_of_lt_of_le hl hb.size, fun j u hu => (hb.cell (p := ⟨b, o + j, none⟩) hl).trans (hr j u hu)⟩, fun i s xs h1 h2 => (h.by_ i s xs h1 h2).below hb, h.small⟩
theorem Pl.at {w : World} {a : Option Addr} {n c : Nat} {l : List Sl} {ps : List (List Int)} (h : Pl w a n c l ps) {k : Nat} (hk : k < n) :
    ∃ b o s, a = some ⟨b, o, none⟩ ∧ w.cell? ⟨b, o + k, none⟩ = some (.slice s.a s.n s.c) ∧ By w s.a s.n s.c (ps[k]'(by rw [h.plen]; exact hk)) ∧ s.n ≤ 140737488355328 ∧ l[k]? = some s := by
  have hl := h.len
  have hp := h.plen
  have hkl : k < l.length := by omega
  rcases h.mem with e | ⟨b, o, e, hlt, hr⟩
  · omega
  · refine ⟨b, o, l[k], e, hr k _ ?_, h.by_ k _ _ (List.getElem?_eq_getElem hkl) (List.getElem?_eq_getElem (by omega)), h.small _ (List.getElem_mem _), List.getElem?_eq_getElem hkl⟩
    rw [List.getElem?_map, List.getElem?_eq_getElem hkl]; rfl
theorem Told.pl {w w' : World} {a : Option Addr} {n c : Nat} {ps : List (List Int)} (h : Told w a n c ps w') (hb : ∀ p ∈ ps, p.length ≤ 140737488355328 ∧ ∀ x ∈ p, Byte x) : ∃ l, Pl w' a n c l ps := by
  obtain ⟨l, h1, h2, h3, h4⟩ := h
  have key : ∀ (i : Nat) (s : Sl) (xs : List Int), l[i]? = some s → ps[i]? = some xs → By w' s.a s.n s.c xs := fun i s xs e1 e2 => (h3.own i s xs e1 e2).by (hb xs (List.mem_of_getElem? e2)).2
  refine ⟨l, h1, h2.cap, by rw [← h3.len]; exact h1, ?_, key, fun s hs => ?_⟩
  · rcases h2.mem with ⟨_, e⟩ | ⟨g, cu, e, _, h5, h6, h7⟩
    · exact .inl (by have := h2.cap; omega)
    · refine .inr ⟨g, 0, e, (Array.getElem?_eq_some_iff.1 h5).1, fun j u hu => ?_⟩
      rcases h2.reads.2 with e2 | ⟨ad, e2, e3⟩
      · have hl : (l.map Sl.v).length = 0 := by rw [h2.len, e2]
        rw [List.eq_nil_of_length_eq_zero hl] at hu; simp at hu
      · rw [e] at e2; cases e2
        have := e3 j u hu
        rw [Addr.add_mid] at this
        exact this
  · obtain ⟨i, hi, rfl⟩ := List.getElem_of_mem hs
    have hi2 : i < ps.length := by rw [← h3.len]; exact hi
    have := (key i _ _ (List.getElem?_eq_getElem hi) (List.getElem?_eq_getElem hi2)).len
    have := (hb ps[i] (List.getElem_mem _)).1
    omega
def sameP (ps qs : List (List Int)) : Bool := decide (ps = qs)
set_option maxRecDepth 100000 in
set_option maxHeartbeats 2000000 in
theorem j18 (a b : Option Addr) (n c n' c' : Nat) (l l' : List Sl) (ps qs : List (List Int)) (w : World) (h : Pl w a n c l ps) (h' : Pl w b n' c' l' qs) (hn : n ≤ 140737488355328) (hn' : n' ≤ 140737488355328) :
    Calls Try.prog 18 #[.slice a n c, .slice b n' c'] w fun e w' => e = .returned (.bool (sameP ps qs)) ∧ ∃ d, w' = w.drewN d := by
  have HX : Hid (Pl w a n c l ps) := h
  have HY : Hid (Pl w b n' c' l' qs) := h'
  have hlx := h.plen
  have hly := h'.plen
  by_cases hnn : n = n'
  · subst hnn
    have HL : Hid (ps.length = n ∧ qs.length = n) := ⟨hlx, hly⟩
    clear h h' hlx hly
    go_enter Try.func18, Try.ntmps18
    go_wp2_with fail
    go_loopw [5] (fun i wr => ∃ k d : Nat, k ≤ n ∧ i = .int .i64 k ∧ Hid (wr = w.drewN d) ∧ Hid (ps.take k = qs.take k)) (fun i _ => n - (intOf i).toNat)
    case atStart => exact ⟨0, 0, Nat.zero_le _, rfl, rfl, rfl⟩
    case round =>
      obtain ⟨k, d, hk, rfl, hwr, hT⟩ := hrel
      have hbr : Below w.heap.size w wr := by rw [hwr.out]; exact below_dN (Below.refl _ _) _
      by_cases hlt : k < n
      · have hlt1 : (k : Int) < (n : Int) := by omega
        have hk0 : (0 : Int) ≤ (k : Int) := by omega
        obtain ⟨b1, o1, s1, rfl, hc1, hx1, hm1, _⟩ := (HX.out.below hbr).at hlt
        obtain ⟨b2, o2, s2, rfl, hc2, hx2, hm2, _⟩ := (HY.out.below hbr).at hlt
        have hk1 : k < ps.length := by rw [HL.out.1]; exact hlt
        have hk2 : k < qs.length := by rw [HL.out.2]; exact hlt
        have HTX : Hid (ps.take (k + 1) = ps.take k ++ [ps[k]]) := take_snoc ps k hk1
        have HTY : Hid (qs.take (k + 1) = qs.take k ++ [qs[k]]) := take_snoc qs k hk2
        have HNE : Hid (ps[k] ≠ qs[k] → sameP ps qs = false) := fun e => by
          show sameP ps qs = false
          simp only [sameP, decide_eq_false_iff_not]
          intro e2; subst e2; exact e rfl
        have H15 : Hid (∀ m, Calls Try.prog 15 #[.slice s1.a s1.n s1.c, .slice s2.a s2.n s2.c] (wr.drewN m) fun e w'' => e = .returned (.bool (sameB ps[k] qs[k])) ∧ ∃ m', w'' = wr.drewN m') := fun m => by
          refine (j15 s1.a s2.a s1.n s1.c s2.n s2.c ps[k] qs[k] _ (hx1.below (below_dN (Below.refl _ _) _)) (hx2.below (below_dN (Below.refl _ _) _)) hm1 hm2).mono ?_
          rintro e w'' ⟨rfl, d', rfl⟩
          exact ⟨rfl, m + d', by simp [World.drewN, Nat.add_assoc]⟩
        clear hx1 hx2 hm1 hm2
        by_cases hxy : ps[k] = qs[k]
        · have hb : sameB ps[k] qs[k] = true := by simp [sameB, hxy]
          rw [hb] at H15
          have HXY : Hid (ps[k] = qs[k]) := hxy
          clear hxy hb HNE
          go_wp2_with fail
          go_quiet (first | (go_at_call 15; exact H15.out _))
          go_wp2_with fail
          go_roundw
          case rel => exact ⟨k + 1, d + nq, by omega, by go_num, by show _ = _; rw [hwr.out]; simp [World.drewN, Nat.add_assoc], by
            show ps.take (k + 1) = qs.take (k + 1)
            rw [HTX.out, HTY.out, hT.out, HXY.out]⟩
          case measure => simp [intOf]; omega
        · have hb : sameB ps[k] qs[k] = false := by simp [sameB, hxy]
          rw [hb] at H15
          have HF : Hid (sameP ps qs = false) := HNE.out hxy
          clear hxy hb HNE
          go_wp2_with fail
          go_quiet (first | (go_at_call 15; exact H15.out _))
          go_wp2_with fail
          go_ret
          refine ⟨?_, d + nq, by rw [hwr.out]; simp [World.drewN, Nat.add_assoc]⟩
          rw [HF.out]; rfl
      · go_wp2_with fail
        go_ret
        refine ⟨?_, d, hwr.out⟩
        have e1 : ps = qs := by
          have h1 := hT.out
          rwa [List.take_of_length_le (by rw [HL.out.1]; omega), List.take_of_length_le (by rw [HL.out.2]; omega)] at h1
        have : sameP ps qs = true := by simp [sameP, e1]
        rw [this]; rfl
  · have hne : ¬ (n : Int) = (n' : Int) := by omega
    have HF : Hid (sameP ps qs = false) := by
      show sameP ps qs = false
      simp only [sameP, decide_eq_false_iff_not]
      intro e; subst e; omega
    clear h h' hlx hly
    go_enter Try.func18, Try.ntmps18
    go_wp2_with fail
    go_ret
    exact ⟨by rw [HF.out]; rfl, 0, rfl⟩
end Go.Proofs.Ythomdgafaffphaa
