/- Contracts of isNone, IndexFunc and ContainsFunc at it. -/
import Derived.Test.YtljggjllijacjaaDoorU3
namespace Go.Proofs.YtljggjllijacjaaDoor
open Go.RowKit
attribute [local go_sem ↓] Go.wp_at_zero Go.wp_at_succ
/-- No equation of global terms. -/
def noneB (l : List C) : Bool := !globalB l || !isB l eqS 2
set_option maxRecDepth 100000 in
theorem u47 (l : List C) (v : Value) (w : World) (hT : TermAt w v l) (hS : Signs w) : Calls Tryd.prog 47 #[v] w fun e w' => e = .returned (.bool (noneB l)) ∧ Below w.heap.size w w' := by
  have HG := c36 l v w hT hS
  have HI : ∀ w', Below w.heap.size w w' → Calls Tryd.prog 17 #[v, .string ⟨#[61]⟩, .int .i64 2] w' fun e w'' => e = .returned (.bool (isB l eqS 2)) ∧ w'' = w' := fun w' hb => c28 l v eqS 2 w' (hT.below hb)
  have HN : Hid (noneB l = (!globalB l || !isB l eqS 2)) := rfl
  obtain ⟨ad, cap, hf⟩ := hT.form
  subst hf
  clear hT hS
  generalize globalB l = gb at *
  generalize isB l eqS 2 = ib at *
  cases gb
  · have hn : noneB l = true := HN.out
    rw [hn]
    clear hn HN HI
    go_enter Tryd.func47, Tryd.ntmps47
    go_wp2_with fail
    refine HG.mono ?_
    rintro e w1 ⟨rfl, hb1⟩
    clear HG
    go_wp2_with fail
    go_ret
    exact ⟨rfl, hb1⟩
  · have hn : noneB l = !ib := HN.out
    rw [hn]
    clear hn HN
    cases ib
    all_goals
      go_enter Tryd.func47, Tryd.ntmps47
      go_wp2_with fail
      refine HG.mono ?_
      rintro e w1 ⟨rfl, hb1⟩
      clear HG
      go_wp2_with fail
      refine (HI _ hb1).mono ?_
      rintro e w2 ⟨rfl, hw⟩
      obtain rfl := hw.symm
      clear HI
      go_wp2_with fail
      go_ret
      exact ⟨rfl, hb1⟩
/-- The place of the first that is none, or -1. -/
def IxPost (ls : List (List C)) (e : Ending) (w w' : World) : Prop := ∃ r : Int, e = .returned (.int .i64 r) ∧ (decide (0 ≤ r) = ls.any noneB) ∧ Below w.heap.size w w'
set_option maxRecDepth 100000 in
set_option maxHeartbeats 2000000 in
theorem u70 (ls : List (List C)) (v : Value) (w : World) (h : RowAt w v ls) (hS : Signs w) : Calls Tryd.prog 70 #[v, .func (.func 47) #[] #[]] w fun e w' => IxPost ls e w w' := by
  have HR : Hid (RowAt w v ls ∧ Signs w) := ⟨h, hS⟩
  have hlm := h.1
  obtain ⟨a, c, hf⟩ := h.form
  subst hf
  obtain ⟨q, hq⟩ : ∃ q, ls.length = q := ⟨_, rfl⟩
  rw [hq] at hlm
  have HQ : Hid (ls.length = q) := hq
  have hq' : (Value.slice a ls.length c) = .slice a q c := by rw [hq]
  rw [hq'] at HR ⊢
  unfold maxLen at hlm
  clear h hS hq hq'
  go_enter Tryd.func70, Tryd.ntmps70
  go_wp2_with fail
  go_loopw [8] (fun i wr => ∃ k : Nat, k ≤ q ∧ i = .int .i64 k ∧ Hid ((ls.take k).any noneB = false ∧ Below w.heap.size w wr)) (fun i _ => q - (intOf i).toNat)
  case atStart => exact ⟨0, Nat.zero_le _, rfl, rfl, Below.refl _ _⟩
  case round =>
    obtain ⟨k, hk, rfl, HK⟩ := hrel
    by_cases hlt : k < q
    · have hltI : (k : Int) < (q : Int) := by omega
      have hk0 : (0 : Int) ≤ (k : Int) := by omega
      have hkl : k < ls.length := by rw [HQ.out]; exact hlt
      obtain ⟨b, o, cp, u, ef, hbl, cu, hTu⟩ := row_at (HR.out.1.below HK.out.2) k hkl
      simp only [Value.slice.injEq] at ef
      obtain ⟨rfl, hh, rfl⟩ := ef
      clear hh
      have H47 : Hid (Calls Tryd.prog 47 #[u] wr fun e w' => e = .returned (.bool (noneB ls[k])) ∧ Below wr.heap.size wr w') := u47 ls[k] u wr hTu (HR.out.2.below HK.out.2)
      have HT : Hid ((ls.take (k + 1)).any noneB = ((ls.take k).any noneB || noneB ls[k])) := by
        show (ls.take (k + 1)).any noneB = ((ls.take k).any noneB || noneB ls[k])
        rw [List.take_succ_eq_append_getElem hkl, List.any_append]; simp
      have HM : Hid (noneB ls[k] = true → ls.any noneB = true) := fun h => by
        rw [List.any_eq_true]
        exact ⟨ls[k], List.getElem_mem _, h⟩
      clear hTu
      generalize noneB ls[k] = nb at *
      cases nb
      · go_wp2_with fail
        refine H47.out.mono ?_
        rintro e w2 ⟨rfl, hb2⟩
        have HF : Hid ((ls.take (k + 1)).any noneB = false ∧ Below w.heap.size w w2) := ⟨by rw [HT.out, HK.out.1]; rfl, HK.out.2.trans (hb2.mono HK.out.2.size)⟩
        clear hb2 H47 HT HM
        go_wp2_with fail
        go_roundw
        case rel => exact ⟨k + 1, by omega, by go_num, HF⟩
        case measure => simp [intOf]; omega
      · go_wp2_with fail
        refine H47.out.mono ?_
        rintro e w2 ⟨rfl, hb2⟩
        have HF : Hid (ls.any noneB = true ∧ Below w.heap.size w w2) := ⟨HM.out trivial, HK.out.2.trans (hb2.mono HK.out.2.size)⟩
        clear hb2 H47 HT HM
        go_wp2_with fail
        go_ret
        exact ⟨k, rfl, by rw [HF.out.1]; simp, HF.out.2⟩
    · have hltI : ¬ (k : Int) < (q : Int) := by omega
      obtain rfl : k = q := by omega
      have HF : Hid (ls.any noneB = false ∧ Below w.heap.size w wr) := ⟨by
        have h := HK.out.1
        rw [List.take_of_length_le (by rw [HQ.out]; exact Nat.le_refl _)] at h
        exact h, HK.out.2⟩
      go_wp2_with fail
      go_ret
      exact ⟨-1, rfl, by rw [HF.out.1]; rfl, HF.out.2⟩
set_option maxRecDepth 100000 in
theorem u46 (ls : List (List C)) (v : Value) (w : World) (h : RowAt w v ls) (hS : Signs w) : Calls Tryd.prog 46 #[v, .func (.func 47) #[] #[]] w fun e w' => e = .returned (.bool (ls.any noneB)) ∧ Below w.heap.size w w' := by
  have H70 := u70 ls v w h hS
  obtain ⟨a, c, hf⟩ := h.form
  subst hf
  clear h hS
  go_enter Tryd.func46, Tryd.ntmps46
  go_wp2_with fail
  refine H70.mono ?_
  rintro e w1 ⟨r, rfl, hr, hb1⟩
  have HR : Hid (decide (0 ≤ r) = ls.any noneB) := hr
  clear hr H70
  go_wp2_with fail
  go_ret
  exact ⟨by rw [← HR.out]; simp, hb1⟩
end Go.Proofs.YtljggjllijacjaaDoor
