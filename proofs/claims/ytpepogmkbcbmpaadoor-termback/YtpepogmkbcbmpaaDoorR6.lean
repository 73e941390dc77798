/- Contracts of lent and rows: a term, a row of terms in memory of their own. -/
import Derived.Test.YtpepogmkbcbmpaaDoorR5
namespace Go.Proofs.YtpepogmkbcbmpaaDoor
open Go.RowKit
def OwnT (w : World) (base : Nat) (u : Value) (l : List C) : Prop := w.ownsRow base 60 5 u l.length (flat l)
set_option maxHeartbeats 1000000 in
theorem c21_nil (ad : Option Addr) (w : World) :
    Calls Tryd.prog 21 #[.slice ad 0 0] w fun e w' => e = .returned (.slice none 0 0) ∧ w' = w := by
  cases ad
  all_goals
    go_enter Tryd.func21, Tryd.ntmps21
    go_wp2_with fail
    go_ret
    exact ⟨rfl, rfl⟩
set_option maxHeartbeats 1000000 in
theorem c21_in (l : List C) (b o cap : Nat) (w : World) (hr : w.rangeAt b o (flat l)) (hby47 : l.length * 48 ≤ 140737488355328) :
    Calls Tryd.prog 21 #[.slice (some ⟨b, o, none⟩) l.length cap] w fun e w' => ∃ u, e = .returned u ∧ OwnT w' w.heap.size u l ∧ Below w.heap.size w w' := by
  obtain ⟨i0, hi, hz, hs, hby⟩ := info60
  have hnews : Hid (∀ j u, (flat l)[j]? = some u → w.cell? ((⟨b, o, none⟩ : Addr).add j) = some u) := fun j u hu => by rw [Addr.add_mid]; exact hr j u hu
  have hlen : Hid ((flat l).length = l.length * 5) := by
    show (flat l).length = l.length * 5
    rw [flat_length]; omega
  clear hr
  go_enter Tryd.func21, Tryd.ntmps21
  go_wp2_with (at_builtin; refine wpList_append_own _ rfl _ _ 29 rfl w.heap.size 60 i0 zero60 5 48 Tryd.underlying29 hi hz hs hby rfl (by decide) _ _ _ rfl (World.ownsRow_nil w w.heap.size 60 5) ⟨b, o, none⟩ l.length cap (flat l) rfl hlen.out hnews.out (flat_one _) (by unfold maxLen; omega) (by omega) (Nat.le_refl _) ?_)
  intro v' w' hown' hgrow hnil
  have hown' : Hid (OwnT w' w.heap.size v' l) := hown'
  have hb : Hid (Below w.heap.size w w') := (Below.refl _ _).grown hgrow (Nat.le_refl _) (fun g hg => by simp [Value.ownBlock] at hg)
  clear hgrow hnil
  go_wp2_with fail
  go_ret
  exact ⟨_, rfl, hown'.out, hb.out⟩
theorem c21 (l : List C) (v : Value) (w : World) (h : TermAt w v l) (hby47 : l.length * 48 ≤ 140737488355328) :
    Calls Tryd.prog 21 #[v] w fun e w' => ∃ u, e = .returned u ∧ OwnT w' w.heap.size u l ∧ Below w.heap.size w w' := by
  obtain ⟨_, h⟩ := h
  rcases h with ⟨rfl, ad, rfl⟩ | ⟨b, o, cap, rfl, h2, h5, h3, h4⟩
  · exact (c21_nil ad w).mono fun e w' ⟨h1, h2⟩ => ⟨_, h1, by rw [h2]; exact World.ownsRow_nil w _ 60 5, by rw [h2]; exact Below.refl _ _⟩
  · exact c21_in l b o cap w h3 hby47
theorem ownT_term {w : World} {base : Nat} {u : Value} {l : List C} (h : OwnT w base u l) (hl : l.length ≤ maxLen) (ht : ∀ c ∈ l, c.t.size ≤ maxLen) : TermAt w u l := termAt_of_owns h hl ht
theorem ownT_below {w w' : World} {base : Nat} {u : Value} {l : List C} (h : OwnT w base u l) (hb : Below w.heap.size w w') : OwnT w' base u l := by
  refine ⟨h.1, ?_⟩
  rcases h.2 with hn | ⟨g, cap, cur, h1, h2, h3, h4⟩
  · exact Or.inl hn
  · exact Or.inr ⟨g, cap, cur, h1, h2, (hb.block g (Array.getElem?_eq_some_iff.1 h3).1).trans h3, h4⟩
/-- A term of its own lies in another block than a row of terms. -/
theorem ownT_far {w : World} {base base' : Nat} {u v : Value} {l : List C} {n : Nat} {xs : List Value} (h : OwnT w base u l) (h' : w.ownsRow base' 29 1 v n xs) : u.ownBlock = none ∨ u.ownBlock ≠ v.ownBlock := by
  rcases h.2 with ⟨rfl, _⟩ | ⟨g, cap, cur, rfl, _, h3, _⟩
  · exact Or.inl rfl
  · right
    rcases h'.2 with ⟨rfl, _⟩ | ⟨g', cap', cur', rfl, _, h3', _⟩
    · simp [Value.ownBlock]
    · intro e
      simp [Value.ownBlock] at e
      subst e
      rw [h3] at h3'
      simp at h3'
set_option maxHeartbeats 2000000 in
theorem c9_in (ls : List (List C)) (b o cap : Nat) (vs : List Value) (w : World) (hb : b < w.heap.size) (hc : ls.length * 24 ≤ 140737488355328) (hvl : vs.length = ls.length) (hr : w.rangeAt b o vs) (ht : ∀ (i : Nat) (u : Value) (x : List C), vs[i]? = some u → ls[i]? = some x → TermAt w u x) (h48 : ∀ x ∈ ls, x.length * 48 ≤ 140737488355328) :
    Calls Tryd.prog 9 #[.slice (some ⟨b, o, none⟩) ls.length cap] w fun e w' => ∃ u, e = .returned u ∧ RowAt w' u ls ∧ Below w.heap.size w w' := by
  obtain ⟨i0, hi, hz0, hs0, hby⟩ := info29
  have HR : Hid (w.rangeAt b o vs) := hr
  have HT : Hid (∀ (i : Nat) (u : Value) (x : List C), vs[i]? = some u → ls[i]? = some x → TermAt w u x) := ht
  have HV : Hid (vs.length = ls.length) := hvl
  have H8 : Hid (∀ x ∈ ls, x.length * 48 ≤ 140737488355328) := h48
  clear hr ht hvl h48
  go_enter Tryd.func9, Tryd.ntmps9
  go_wp2_with fail
  go_loopw [3, 4] (fun out i wr => ∃ (k : Nat) (us : List Value), k ≤ ls.length ∧ i = .int .i64 k ∧ Hid (wr.ownsRow w.heap.size 29 1 out k us ∧ ∀ (j : Nat) (u : Value) (x : List C), us[j]? = some u → ls[j]? = some x → OwnT wr w.heap.size u x) ∧ Below w.heap.size w wr) (fun _ i _ => ls.length - (intOf i).toNat)
  case atStart => exact ⟨0, [], by omega, rfl, ⟨World.ownsRow_nil _ _ _ _, fun j u x hu => by simp at hu⟩, Below.refl _ _⟩
  case round =>
    obtain ⟨k, us, hk, rfl, HO, hbr⟩ := hrel
    have hsz := hbr.size
    by_cases hlt : k < ls.length
    · have hlt' : (k : Int) < (ls.length : Int) := by omega
      have hkv : k < vs.length := by rw [HV.out]; exact hlt
      have p0 := row_cell (range_below HR.out hb hbr) k hkv
      have HC : Hid (Calls Tryd.prog 21 #[vs[k]] wr fun e w' => ∃ u, e = .returned u ∧ OwnT w' wr.heap.size u ls[k] ∧ Below wr.heap.size wr w') := c21 ls[k] vs[k] wr ((HT.out k _ _ (List.getElem?_eq_getElem hkv) (List.getElem?_eq_getElem hlt)).below hbr) (H8.out _ (List.getElem_mem hlt))
      generalize vs[k] = uk at p0 HC
      go_wp2_with fail
      refine HC.out.mono ?_
      rintro e w1 ⟨u, rfl, hO1, hb1⟩
      have hz1 := hb1.size
      have hou : Hid (∃ (ad : Option Addr) (n c : Nat), u = .slice ad n c) := by
        rcases hO1.2 with ⟨h, _⟩ | ⟨g, c, cur, h, _⟩
        · exact ⟨none, 0, 0, h⟩
        · exact ⟨_, _, _, h⟩
      have HO1 : Hid (OwnT w1 w.heap.size u ls[k]) := ⟨hO1.1, by
        rcases hO1.2 with h | ⟨g, c, cur, h1, h2, h3⟩
        · exact Or.inl h
        · exact Or.inr ⟨g, c, cur, h1, by omega, h3⟩⟩
      obtain ⟨ad, un, uc, hu⟩ := hou.out
      have hbw1 : Hid (Below w.heap.size w w1) := hbr.trans (hb1.mono hsz)
      clear hO1
      subst hu
      have hown1 : Hid ((w1.alloc (.cells #[.slice ad un uc] 29)).ownsRow w.heap.size 29 1 u3 k us) := by
        have h1 := HO.out.1
        refine World.ownsRow.alloc (w := w1) ?_ _
        refine ⟨h1.1, ?_⟩
        rcases h1.2 with h | ⟨g, c, cur, e1, e2, e3, e4⟩
        · exact Or.inl h
        · exact Or.inr ⟨g, c, cur, e1, e2, (hb1.block g (Array.getElem?_eq_some_iff.1 e3).1).trans e3, e4⟩
      have HOs : Hid (∀ (j : Nat) (u : Value) (x : List C), us[j]? = some u → ls[j]? = some x → OwnT (w1.alloc (.cells #[.slice ad un uc] 29)) w.heap.size u x) := fun j u x h1 h2 => ownT_below (ownT_below (HO.out.2 j u x h1 h2) hb1) (below_alloc _ _)
      have HO2 : Hid (OwnT (w1.alloc (.cells #[.slice ad un uc] 29)) w.heap.size (.slice ad un uc) ls[k]) := ownT_below HO1.out (below_alloc _ _)
      have hnew : Hid (∀ j u, [(.slice ad un uc : Value)][j]? = some u → (w1.alloc (.cells #[.slice ad un uc] 29)).cell? ((⟨w1.heap.size, 0, none⟩ : Addr).add j) = some u) := fun j u hu => by
        rw [Addr.add_mid]; exact range_new w1 [.slice ad un uc] 29 j u hu
      have hbw2 : Hid (Below w.heap.size w (w1.alloc (.cells #[.slice ad un uc] 29))) := hbw1.out.alloc (by omega) _
      have hk63 : Hid (k + 1 ≤ maxLen) := by
        show k + 1 ≤ maxLen
        unfold maxLen; omega
      go_wp2_with (at_builtin; refine wpList_append_own _ rfl _ _ 24 rfl w.heap.size 29 i0 (.slice none 0 0) 1 24 Tryd.underlying24 hi hz0 hs0 hby rfl (by decide) _ _ _ rfl hown1.out ⟨w1.heap.size, 0, none⟩ 1 1 [.slice ad un uc] rfl rfl hnew.out (fun x hx => by simp at hx; subst hx; rfl) hk63.out (by omega) (by simp; omega) ?_)
      intro v' w2 hown' hgrow hnil
      have HN : Hid (w2.ownsRow w.heap.size 29 1 v' (k + 1) (us ++ [.slice ad un uc]) ∧ ∀ (j : Nat) (u : Value) (x : List C), (us ++ [.slice ad un uc])[j]? = some u → ls[j]? = some x → OwnT w2 w.heap.size u x) := by
        refine ⟨hown', fun j u x h1 h2 => ?_⟩
        have hul : us.length = k := by have := HO.out.1.1; omega
        by_cases hj : j < k
        · rw [List.getElem?_append_left (by omega)] at h1
          exact World.ownsRow.kept (HOs.out j u x h1 h2) hgrow (ownT_far (HOs.out j u x h1 h2) hown1.out)
        · rw [List.getElem?_append_right (by omega)] at h1
          have hj0 : j = k := by
            by_cases e : j = k
            · exact e
            · rw [List.getElem?_eq_none (by simp; omega)] at h1; cases h1
          subst hj0
          rw [hul, Nat.sub_self] at h1
          simp at h1
          rw [List.getElem?_eq_getElem hlt] at h2
          cases h2
          subst h1
          exact World.ownsRow.kept HO2.out hgrow (ownT_far HO2.out hown1.out)
      have hbw3 : Hid (Below w.heap.size w w2) := hbw2.out.grown hgrow (by simp; omega) (fun g hg => (hown1.out.lt g hg).1)
      clear hgrow hnil hown'
      go_wp2_with fail
      go_roundw
      case rel => exact ⟨k + 1, _, by omega, by go_num, HN, hbw3.out⟩
      case measure => simp [intOf]; omega
    · have hlt' : ¬ ((k : Int) < (ls.length : Int)) := by omega
      have hke : k = ls.length := by omega
      subst hke
      have HF : Hid (ls.length = 0 ∨ 0 < ls.length) := by
        show ls.length = 0 ∨ 0 < ls.length
        omega
      have hmx : Hid (ls.length ≤ maxLen) := by
        show ls.length ≤ maxLen
        unfold maxLen; omega
      go_wp2_with fail
      go_ret
      refine ⟨_, rfl, ?_, hbr⟩
      rcases HF.out with h0 | h0
      · have e0 : ls = [] := List.eq_nil_of_length_eq_zero h0
        subst e0
        rcases HO.out.1.2 with ⟨e1, _⟩ | ⟨g, c, cur, e1, e2, e3, e4, e5, _⟩
        · exact ⟨by simp, Or.inl ⟨rfl, none, e1⟩⟩
        · exact ⟨by simp, Or.inr ⟨g, 0, c, [], e1, by simp, e5, (Array.getElem?_eq_some_iff.1 e3).1, rfl, fun j u hu => by simp at hu, fun i u l hu => by simp at hu⟩⟩
      · refine rowAt_of_owns HO.out.1 h0 hmx.out (fun i u l hu hl => ?_)
        have hin : l ∈ ls := List.mem_of_getElem? hl
        have hil : i < ls.length := (List.getElem?_eq_some_iff.1 hl).1
        have htt := HT.out i _ _ (List.getElem?_eq_getElem (by rw [HV.out]; exact hil)) hl
        exact ownT_term (HO.out.2 i u l hu hl) htt.1.1 htt.1.2
set_option maxHeartbeats 1000000 in
theorem c9_nil (ad : Option Addr) (w : World) :
    Calls Tryd.prog 9 #[.slice ad 0 0] w fun e w' => e = .returned (.slice none 0 0) ∧ w' = w := by
  go_enter Tryd.func9, Tryd.ntmps9
  go_wp2_with fail
  refine wp_loop_rounds 1 ?_
  rw [rounds_succ]
  go_wp2_with fail
  go_ret
  exact ⟨rfl, rfl⟩
theorem c9 (ls : List (List C)) (v : Value) (w : World) (h : RowAt w v ls) (hc : ls.length * 24 ≤ 140737488355328) (h48 : ∀ x ∈ ls, x.length * 48 ≤ 140737488355328) :
    Calls Tryd.prog 9 #[v] w fun e w' => ∃ u, e = .returned u ∧ RowAt w' u ls ∧ Below w.heap.size w w' := by
  obtain ⟨h0, h⟩ := h
  rcases h with ⟨rfl, ad, rfl⟩ | ⟨b, o, cap, vs, rfl, h2, h3, h4, h5, h6, h7⟩
  · exact (c9_nil ad w).mono fun e w' ⟨h1, h2⟩ => ⟨_, h1, by rw [h2]; exact ⟨h0, Or.inl ⟨rfl, none, rfl⟩⟩, by rw [h2]; exact Below.refl _ _⟩
  · exact c9_in ls b o cap vs w h4 hc h5 h6 h7 h48
end Go.Proofs.YtpepogmkbcbmpaaDoor
