/- Contract of live: it returns true. -/
import Derived.Test.YtpepogmkbcbmpabDoorHP2
import Derived.Test.YtpepogmkbcbmpabDoorW17
namespace Go.Proofs.YtpepogmkbcbmpabDoor
open Go.RowKit
def cV : C := ⟨4, ⟨#[]⟩, 0, 0, 1⟩
def cI : C := ⟨1, ⟨#[]⟩, 3, 0, 0⟩
def tF : ByteArray := ⟨#[102]⟩
theorem size1 (a : UInt8) : (⟨#[a]⟩ : ByteArray).size ≤ maxLen := by
  show 1 ≤ maxLen
  unfold maxLen; omega
theorem rightV : rightB [cV] = true := by
  simp [rightB, cellsB, C.ok, cV, cellB, eqCells, between, endS, endF, argsOf]
theorem rightI : rightB [cI] = true := by
  simp [rightB, cellsB, C.ok, cI, cellB, eqCells, between, endS, endF, argsOf]
theorem nameF : isNameB [102] = true := by decide
theorem ownF : (ownC tF 2).ok = true := by
  simp [C.ok, ownC, cellB, eqCells, structFits, between, tF, nameF]
theorem liveE : makeE tF [[cV], [cI]] = 0 := by
  have h : allRightB [[cV], [cI]] = true := by simp [allRightB, rightV, rightI]
  unfold makeE
  rw [h, show [[cV], [cI]].length = 2 from rfl, ownF]
  rfl
theorem liveL : makeL tF [[cV], [cI]] = [ownC tF 2, cV, cI] := by unfold makeL; rw [liveE]; rfl
theorem liveR : rightB [ownC tF 2, cV, cI] = true := by
  have h1 : cellsB [ownC tF 2, cV, cI] = true := by
    have hv : cV.ok = true := by simp [C.ok, cV, cellB, eqCells, between]
    have hi : cI.ok = true := by simp [C.ok, cI, cellB, eqCells, between]
    simp [cellsB, ownF, hv, hi]
  unfold rightB
  rw [h1]
  rfl
theorem liveEnd : endS [ownC tF 2, cV, cI] 1 = 2 := by rfl
theorem notF : isNameB [70] = false := by decide
theorem lessT : lessB 0 3 1 0 = true := by decide
theorem oneV : oneT ⟨4, ⟨#[]⟩, 0, 0, 1⟩ = [cV] := by unfold oneT; rw [show (⟨4, ⟨#[]⟩, 0, 0, 1⟩ : C) = cV from rfl, rightV]; rfl
theorem oneI : oneT ⟨1, ⟨#[]⟩, 3, 0, 0⟩ = [cI] := by unfold oneT; rw [show (⟨1, ⟨#[]⟩, 3, 0, 0⟩ : C) = cI from rfl, rightI]; rfl
theorem live_row (_w w2 : World) (v1 v2 : Value) (h1 : TermAt w2 v1 [cV]) (h2 : TermAt w2 v2 [cI]) : RowAt (w2.alloc (.cells #[v1, v2] 23)) (.slice (some ⟨w2.heap.size, 0, none⟩) 2 2) [[cV], [cI]] := by
  refine ⟨by simp [maxLen], Or.inr ⟨w2.heap.size, 0, 2, [v1, v2], rfl, by simp, by simp [maxLen], by simp, rfl, range_new w2 [v1, v2] 23, ?_⟩⟩
  intro i u l hu hl
  match i with
  | 0 => simp at hu hl; subst hu; subst hl; exact h1.below (below_alloc _ _)
  | 1 => simp at hu hl; subst hu; subst hl; exact h2.below (below_alloc _ _)
  | n + 2 => simp at hu
set_option maxRecDepth 100000 in
set_option maxHeartbeats 4000000 in
theorem c12 (w : World) (hS : Signs w) :
    Calls Tryd.prog 7 #[] w fun e w' => e = .returned (.bool true) ∧ Below w.heap.size w w' := by
  have HS : Hid (Signs w) := hS
  clear hS
  go_enter Tryd.func7, Tryd.ntmps7
  go_wp2_with fail
  refine (c18 0 1 _ HS.out).mono ?_
  rw [oneV]
  rintro e w1 ⟨v1, rfl, hT1, hb1⟩
  have HT1 : Hid (TermAt w1 v1 [cV]) := hT1
  clear hT1
  go_wp2_with fail
  refine (c14 3 _ (HS.out.below hb1)).mono ?_
  rw [oneI]
  rintro e w2 ⟨v2, rfl, hT2, hb2⟩
  have HT2 : Hid (TermAt w2 v2 [cI]) := hT2
  have hw2 : Hid (Below w.heap.size w w2) := hb1.trans (hb2.mono hb1.size)
  have HT1 : Hid (TermAt w2 v1 [cV]) := HT1.out.below hb2
  obtain ⟨a1, n1, hf1⟩ := HT1.out.form
  obtain ⟨a2, n2, hf2⟩ := HT2.out.form
  clear hT2
  subst hf1 hf2
  have hwa : ∀ o : Obj, Hid (Below w.heap.size w (w2.alloc o)) := fun o => hw2.out.alloc hw2.out.size o
  go_wp2_with fail
  refine (c10 tF [[cV], [cI]] _ _ (live_row w w2 _ _ HT1.out HT2.out) (HS.out.below (hwa _).out) (size1 102)).mono ?_
  rw [liveE, liveL]
  rintro e w3 ⟨u, rfl, hT3, hb3⟩
  have hw3 : Hid (Below w.heap.size w w3) := (hwa _).out.trans (hb3.mono (by have := hw2.out.size; simp; omega))
  have HT3 : Hid (TermAt w3 u [ownC tF 2, cV, cI]) := hT3
  obtain ⟨a3, n3, hf3⟩ := hT3.form
  clear hT3
  subst hf3
  go_wp2_with fail
  refine (c22 _ _ _ HT3.out (HS.out.below hw3.out)).mono ?_
  rw [liveR]
  rintro e w4 ⟨rfl, hb4⟩
  have hw4 : Hid (Below w.heap.size w w4) := hw3.out.trans (hb4.mono hw3.out.size)
  have HT4 : Hid (TermAt w4 (.slice a3 3 n3) [ownC tF 2, cV, cI]) := HT3.out.below hb4
  go_wp2_with fail
  refine (c24 _ _ 1 _ HT4.out).mono ?_
  rw [liveEnd]
  rintro e w5 ⟨rfl, hb5⟩
  have hw5 : Hid (Below w.heap.size w w5) := hw4.out.trans (hb5.mono hw4.out.size)
  go_wp2_with fail
  refine (c39 ⟨#[70]⟩ _ (size1 70)).mono ?_
  rw [show (⟨#[70]⟩ : ByteArray).data.toList = [70] from rfl, notF]
  rintro e w6 ⟨rfl, rfl⟩
  go_wp2_with fail
  refine (c38 0 3 1 0 _).mono ?_
  rw [lessT]
  rintro e w7 ⟨rfl, hb7⟩
  go_wp2_with fail
  go_ret
  exact ⟨rfl, hw5.out.trans (hb7.mono hw5.out.size)⟩
end Go.Proofs.YtpepogmkbcbmpabDoor
