/- Contract of the reference Args. -/
import Derived.Test.YtpepogmkbcbmpabDoorA3
import Derived.Test.YtpepogmkbcbmpabDoorR4
namespace Go.Proofs.YtpepogmkbcbmpabDoor
open Go.RowKit
set_option maxRecDepth 100000 in
set_option maxHeartbeats 2000000 in
theorem c27_no (l : List C) (v : Value) (w : World) (hT : TermAt w v l) (hno : rightB l = false) :
    Calls Tryd.prog 10 #[v] w fun e w' => e = .returned (.slice none 0 0) ∧ Below w.heap.size w w' := by
  have HT : Hid (TermAt w v l) := hT
  obtain ⟨ad, cap, hf⟩ := hT.form
  subst hf
  clear hT
  have HC := c23 l _ w HT.out
  rw [hno] at HC
  have HC : Hid (Calls Tryd.prog 22 #[.slice ad l.length cap] w fun e w' => e = .returned (.bool false) ∧ Below w.heap.size w w') := HC
  clear hno
  go_enter Tryd.func10, Tryd.ntmps10
  go_wp2_with fail
  refine HC.out.mono ?_
  rintro e w' ⟨rfl, hb⟩
  go_wp2_with fail
  go_ret
  exact ⟨rfl, hb⟩
set_option maxRecDepth 100000 in
set_option maxHeartbeats 2000000 in
theorem c27_kind (l : List C) (b o cap : Nat) (w : World) (hT : TermAt w (.slice (some ⟨b, o, none⟩) l.length cap) l) (hr : w.rangeAt b o (flat l)) (hb : b < w.heap.size) (h1 : 0 < l.length) (hyes : rightB l = true) (hk : (l[0].k != 3) = true) :
    Calls Tryd.prog 10 #[.slice (some ⟨b, o, none⟩) l.length cap] w fun e w' => e = .returned (.slice none 0 0) ∧ Below w.heap.size w w' := by
  have HT : Hid (TermAt w (.slice (some ⟨b, o, none⟩) l.length cap) l) := hT
  have HC := c23 l _ w HT.out
  rw [hyes] at HC
  have HC : Hid (Calls Tryd.prog 22 #[.slice (some ⟨b, o, none⟩) l.length cap] w fun e w' => e = .returned (.bool true) ∧ Below w.heap.size w w') := HC
  have HR : Hid (w.rangeAt b o (flat l)) := hr
  have h1' : (0 : Int) < (l.length : Int) := by omega
  clear hyes hr hT
  go_enter Tryd.func10, Tryd.ntmps10
  go_wp2_with fail
  refine HC.out.mono ?_
  rintro e w' ⟨rfl, hbb⟩
  obtain ⟨p0, p1, p2, p3, p4⟩ := term_cells (range_below HR.out hb hbb) 0 h1
  simp only [Nat.zero_mul, Nat.add_zero] at p0 p1 p2 p3 p4
  go_wp2_with fail
  go_ret
  exact ⟨rfl, hbb⟩
set_option maxRecDepth 100000 in
set_option maxHeartbeats 4000000 in
theorem c27_in (l : List C) (b o cap : Nat) (w : World) (hT : TermAt w (.slice (some ⟨b, o, none⟩) l.length cap) l) (hr : w.rangeAt b o (flat l)) (hb : b < w.heap.size) (hcap : l.length ≤ cap) (hcm : cap ≤ maxLen) (h1 : 0 < l.length) (hyes : rightB l = true) (hk : l[0].k = 3) :
    Calls Tryd.prog 10 #[.slice (some ⟨b, o, none⟩) l.length cap] w fun e w' => ∃ u, e = .returned u ∧ RowAt w' u (argsL l) ∧ Below w.heap.size w w' := by
  obtain ⟨i0, hi, hz0, hs0, hby⟩ := info29
  have HT : Hid (TermAt w (.slice (some ⟨b, o, none⟩) l.length cap) l) := hT
  have HC := c23 l _ w HT.out
  rw [hyes] at HC
  have HC : Hid (Calls Tryd.prog 22 #[.slice (some ⟨b, o, none⟩) l.length cap] w fun e w' => e = .returned (.bool true) ∧ Below w.heap.size w w') := HC
  have HR : Hid (w.rangeAt b o (flat l)) := hr
  have hcm' : cap ≤ 2 ^ 63 - 1 := hcm
  have h256 := (right_len hyes).2
  have h1' : (0 : Int) < (l.length : Int) := by omega
  have hcap' : (l.length : Int) ≤ (cap : Int) := by omega
  have hkb : (l[0].k != 3) = false := by simp [hk]
  obtain ⟨hn1, hn8⟩ := head_n hyes h1 hk
  have hnn : Hid (l[0].n = (l[0].n.toNat : Int)) := by
    show l[0].n = (l[0].n.toNat : Int)
    omega
  have HE1 : Hid (eat (l.drop 1) (argsOf l[0].k l[0].n).toNat = some (l.drop 1).length) := head_eat hyes h1
  have HA1 : Hid ([] ++ cutF l.length (l.drop 1) = argsL l) := by
    show [] ++ cutF l.length (l.drop 1) = argsL l
    unfold argsL
    rw [hyes, headK_get h1, hk]
    simp
  have HX : Hid (∀ c ∈ l, c.t.size ≤ maxLen) := hT.1.2
  clear hyes hr hT hk hcm
  go_enter Tryd.func10, Tryd.ntmps10
  go_wp2_with fail
  refine HC.out.mono ?_
  rintro e w' ⟨rfl, hbb⟩
  obtain ⟨p0, p1, p2, p3, p4⟩ := term_cells (range_below HR.out hb hbb) 0 h1
  simp only [Nat.zero_mul, Nat.add_zero] at p0 p1 p2 p3 p4
  go_wp2_with fail
  go_loopw [3, 4] (fun out i wr => ∃ (k q : Nat) (us : List Value) (done : List (List C)), 1 ≤ k ∧ k ≤ l.length ∧ i = .int .i64 k ∧ Hid (wr.ownsRow w.heap.size 23 1 out done.length us ∧ (∀ (j : Nat) (u : Value) (x : List C), us[j]? = some u → done[j]? = some x → OwnT wr w.heap.size u x) ∧ eat (l.drop k) q = some (l.drop k).length ∧ done ++ cutF l.length (l.drop k) = argsL l) ∧ Below w.heap.size w wr) (fun _ i _ => l.length - (intOf i).toNat)
  case atStart => exact ⟨1, (argsOf l[0].k l[0].n).toNat, [], [], by omega, by omega, rfl, ⟨World.ownsRow_nil _ _ _ _, fun j u x hu => by simp at hu, HE1.out, HA1.out⟩, hbb⟩
  case round =>
    obtain ⟨k, q, us, done, hk1, hk, rfl, HO, hbr⟩ := hrel
    have hsz := hbr.size
    by_cases hlt : k < l.length
    · have hlt' : (k : Int) < (l.length : Int) := by omega
      obtain ⟨m, q', hq, e1, hm1, hm2, e2, e3⟩ := cut_step (l.length - 1) (l.drop k) q (by simp; omega) HO.out.2.2.1
      rw [show l.length - 1 + 1 = l.length by omega] at e3
      have hml : k + m ≤ l.length := by simp at hm2; omega
      have hes : endS l (k : Int) = ((k + m : Nat) : Int) := by
        rw [endS_eat l k hlt, e1]; simp
      have hfu : cutF (l.length - 1) ((l.drop k).drop m) = cutF l.length (l.drop (k + m)) := by
        rw [List.drop_drop, cut_fuel (l.length - 1) l.length _ (by simp; omega) (by simp)]
      have hseg : ((l.drop k).take m).length = m := by rw [List.length_take, List.length_drop]; omega
      have HN1 : Hid (eat (l.drop (k + m)) q' = some (l.drop (k + m)).length) := by
        show eat (l.drop (k + m)) q' = some (l.drop (k + m)).length
        rw [← List.drop_drop]; exact e2
      have HN2 : Hid ((done ++ [(l.drop k).take m]) ++ cutF l.length (l.drop (k + m)) = argsL l) := by
        show (done ++ [(l.drop k).take m]) ++ cutF l.length (l.drop (k + m)) = argsL l
        rw [← HO.out.2.2.2, e3, hfu, List.append_assoc]; rfl
      have HCE : Hid (Calls Tryd.prog 23 #[.slice (some ⟨b, o, none⟩) l.length cap, .int .i64 (k : Int)] wr fun e w' => e = .returned (.int .i64 (((k + m : Nat) : Int))) ∧ Below wr.heap.size wr w') := by
        have h := c25 l _ (k : Int) wr (HT.out.below hbr) (by omega)
        rw [hes] at h; exact h.mono fun e w' ⟨h1, h2⟩ => ⟨h1, by rw [h2]; exact Below.refl _ _⟩
      have HCL : Hid (∀ w' : World, Below w.heap.size w w' → Calls Tryd.prog 24 #[.slice (some ⟨b, o + k * 5, none⟩) m (cap - k)] w' fun e w'' => ∃ u, e = .returned u ∧ OwnT w'' w'.heap.size u ((l.drop k).take m) ∧ Below w'.heap.size w' w'') := fun w' hb' => by
        have h := c52_in ((l.drop k).take m) b (o + k * 5) (cap - k) w' (range_sub (range_below HR.out hb hb') k m) (by rw [hseg]; omega)
        rw [hseg] at h; exact h
      have hml' : ((k + m : Nat) : Int) ≤ (cap : Int) := by omega
      have hkm' : (k : Int) ≤ ((k + m : Nat) : Int) := by omega
      clear e1 e2 e3 hfu hes hm2 hq
      generalize hkmg : k + m = km at *
      have Hkm : Hid (k + m = km) := hkmg
      have hmk : Hid (km - k = m) := by
        show km - k = m
        omega
      clear hkmg
      go_wp2_with fail
      refine HCE.out.mono ?_
      rintro e w2 ⟨rfl, hb2⟩
      have hbw2 : Hid (Below w.heap.size w w2) := hbr.trans (hb2.mono hsz)
      go_wp2_with fail
      rw [hmk.out]
      refine (HCL.out _ hbw2.out).mono ?_
      rintro e w3 ⟨u, rfl, hO1, hb3⟩
      have hz2 := hb2.size
      have hz3 := hb3.size
      have hou : Hid (∃ (ad : Option Addr) (n c : Nat), u = .slice ad n c) := by
        rcases hO1.2 with ⟨h, _⟩ | ⟨g, c, cur, h, _⟩
        · exact ⟨none, 0, 0, h⟩
        · exact ⟨_, _, _, h⟩
      have HO1 : Hid (OwnT w3 w.heap.size u ((l.drop k).take m)) := ⟨hO1.1, by
        rcases hO1.2 with h | ⟨g, c, cur, h1, h2, h3⟩
        · exact Or.inl h
        · exact Or.inr ⟨g, c, cur, h1, by omega, h3⟩⟩
      obtain ⟨ad, un, uc, hu⟩ := hou.out
      have hbw3 : Hid (Below w.heap.size w w3) := hbw2.out.trans (hb3.mono (by omega))
      have hb23 : Hid (Below wr.heap.size wr w3) := hb2.trans (hb3.mono hz2)
      clear hO1
      subst hu
      have hown1 : Hid ((w3.alloc (.cells #[.slice ad un uc] 23)).ownsRow w.heap.size 23 1 u3 done.length us) := by
        have h1 := HO.out.1
        refine World.ownsRow.alloc (w := w3) ?_ _
        refine ⟨h1.1, ?_⟩
        rcases h1.2 with h | ⟨g, c, cur, e1, e2, e3, e4⟩
        · exact Or.inl h
        · exact Or.inr ⟨g, c, cur, e1, e2, (hb23.out.block g (Array.getElem?_eq_some_iff.1 e3).1).trans e3, e4⟩
      have HOs : Hid (∀ (j : Nat) (u : Value) (x : List C), us[j]? = some u → done[j]? = some x → OwnT (w3.alloc (.cells #[.slice ad un uc] 23)) w.heap.size u x) := fun j u x h1 h2 => ownT_below (ownT_below (HO.out.2.1 j u x h1 h2) hb23.out) (below_alloc _ _)
      have HO2 : Hid (OwnT (w3.alloc (.cells #[.slice ad un uc] 23)) w.heap.size (.slice ad un uc) ((l.drop k).take m)) := ownT_below HO1.out (below_alloc _ _)
      have hnew : Hid (∀ j u, [(.slice ad un uc : Value)][j]? = some u → (w3.alloc (.cells #[.slice ad un uc] 23)).cell? ((⟨w3.heap.size, 0, none⟩ : Addr).add j) = some u) := fun j u hu => by
        rw [Addr.add_mid]; exact range_new w3 [.slice ad un uc] 23 j u hu
      have hbw4 : Hid (Below w.heap.size w (w3.alloc (.cells #[.slice ad un uc] 23))) := hbw3.out.alloc (by omega) _
      have hdl : done.length ≤ 256 := by
        have h := HO.out.2.2.2
        have h2 := argsL_len l
        rw [← h, List.length_append] at h2
        omega
      have hk63 : Hid (done.length + 1 ≤ maxLen) := by
        show done.length + 1 ≤ maxLen
        unfold maxLen; omega
      go_wp2_with (at_builtin; refine wpList_append_own _ rfl _ _ 25 rfl w.heap.size 23 i0 (.slice none 0 0) 1 24 Tryd.underlying25 hi hz0 hs0 hby rfl (by decide) _ _ _ rfl hown1.out ⟨w3.heap.size, 0, none⟩ 1 1 [.slice ad un uc] rfl rfl hnew.out (fun x hx => by simp at hx; subst hx; rfl) hk63.out (by omega) (by simp; omega) ?_)
      intro v' w4 hown' hgrow hnil
      have HN : Hid (w4.ownsRow w.heap.size 23 1 v' (done ++ [(l.drop k).take m]).length (us ++ [.slice ad un uc]) ∧ (∀ (j : Nat) (u : Value) (x : List C), (us ++ [.slice ad un uc])[j]? = some u → (done ++ [(l.drop k).take m])[j]? = some x → OwnT w4 w.heap.size u x) ∧ eat (l.drop km) q' = some (l.drop km).length ∧ (done ++ [(l.drop k).take m]) ++ cutF l.length (l.drop km) = argsL l) := by
        refine ⟨by rw [List.length_append]; exact hown', fun j u x h1 h2 => ?_, HN1.out, HN2.out⟩
        have hul : us.length = done.length := by have := HO.out.1.1; omega
        by_cases hj : j < done.length
        · rw [List.getElem?_append_left (by omega)] at h1
          rw [List.getElem?_append_left (by omega)] at h2
          exact World.ownsRow.kept (HOs.out j u x h1 h2) hgrow (ownT_far (HOs.out j u x h1 h2) hown1.out)
        · rw [List.getElem?_append_right (by omega)] at h1
          rw [List.getElem?_append_right (by omega)] at h2
          have hj0 : j = done.length := by
            by_cases e : j = done.length
            · exact e
            · rw [List.getElem?_eq_none (by simp; omega)] at h1; cases h1
          subst hj0
          rw [hul, Nat.sub_self] at h1
          rw [Nat.sub_self] at h2
          simp at h1 h2
          subst h1 h2
          exact World.ownsRow.kept HO2.out hgrow (ownT_far HO2.out hown1.out)
      have hbw5 : Hid (Below w.heap.size w w4) := hbw4.out.grown hgrow (by simp; omega) (fun g hg => (hown1.out.lt g hg).1)
      clear hgrow hnil hown'
      go_wp2_with fail
      go_roundw
      case rel => exact ⟨km, q', _, _, by have := Hkm.out; omega, by omega, rfl, HN, hbw5.out⟩
      case measure => have := Hkm.out; simp [intOf]; omega
    · have hlt' : ¬ ((k : Int) < (l.length : Int)) := by omega
      have hfin : Hid (done = argsL l) := by
        have h := HO.out.2.2.2
        rw [List.drop_of_length_le (by omega : l.length ≤ k)] at h
        have h0 : cutF l.length [] = [] := by cases l.length <;> rfl
        rw [h0, List.append_nil] at h
        exact h
      have hdl : Hid (done.length ≤ maxLen) := by
        have h2 := argsL_len l
        show done.length ≤ maxLen
        rw [hfin.out]; unfold maxLen; omega
      have htx : Hid (∀ x ∈ done, x.length ≤ maxLen ∧ ∀ c ∈ x, c.t.size ≤ maxLen) := by
        show ∀ x ∈ done, x.length ≤ maxLen ∧ ∀ c ∈ x, c.t.size ≤ maxLen
        rw [hfin.out]
        intro x hx
        obtain ⟨j1, j2⟩ := argsL_mem l x hx
        exact ⟨by unfold maxLen; omega, fun c hc => HX.out c (j2 c hc)⟩
      go_wp2_with fail
      go_ret
      refine ⟨_, rfl, ?_, hbr⟩
      rw [← hfin.out]
      by_cases h0 : done.length = 0
      · have e0 : done = [] := List.eq_nil_of_length_eq_zero h0
        subst e0
        rcases HO.out.1.2 with ⟨e1, _⟩ | ⟨g, c, cur, e1, e2, e3, e4, e5, _⟩
        · exact ⟨by simp, Or.inl ⟨rfl, none, e1⟩⟩
        · exact ⟨by simp, Or.inr ⟨g, 0, c, [], e1, by simp, e5, (Array.getElem?_eq_some_iff.1 e3).1, rfl, fun j u hu => by simp at hu, fun i u l hu => by simp at hu⟩⟩
      · refine rowAt_of_owns HO.out.1 (by omega) hdl.out (fun i u x hu hx => ?_)
        have hin := htx.out x (List.mem_of_getElem? hx)
        exact ownT_term (HO.out.2.1 i u x hu hx) hin.1 hin.2
theorem c27 (l : List C) (v : Value) (w : World) (hT : TermAt w v l) :
    Calls Tryd.prog 10 #[v] w fun e w' => ∃ u, e = .returned u ∧ RowAt w' u (argsL l) ∧ Below w.heap.size w w' := by
  cases hr : rightB l
  · rw [argsL_none l (by simp [hr])]
    exact (c27_no l v w hT hr).mono fun e w' ⟨h1, h2⟩ => ⟨_, h1, ⟨by simp, Or.inl ⟨rfl, none, rfl⟩⟩, h2⟩
  · have h1 : 0 < l.length := (right_len hr).1
    have hT' := hT
    obtain ⟨_, h⟩ := hT
    rcases h with ⟨e, _⟩ | ⟨b, o, cap, rfl, h2, h5, h3, h4⟩
    · rw [e] at h1; simp at h1
    by_cases hk : l[0].k = 3
    · exact c27_in l b o cap w hT' h3 h4 h2 h5 h1 hr hk
    · rw [argsL_none l (by rw [headK_get h1]; simp [hk])]
      exact (c27_kind l b o cap w hT' h3 h4 h1 hr (by simp [hk])).mono fun e w' ⟨h1, h2⟩ => ⟨_, h1, ⟨by simp, Or.inl ⟨rfl, none, rfl⟩⟩, h2⟩
end Go.Proofs.YtpepogmkbcbmpabDoor
