/- Contract of live: it returns true. -/
import Derived.Test.YtojobiefambkoaaGreatDoorHP2
import Derived.Test.YtojobiefambkoaaGreatDoorWD
namespace Go.Proofs.YtojobiefambkoaaGreatDoor
open Go.RowKit
def cV : C := ⟨4, ⟨#[]⟩, 0, 0, 1⟩
def cI : C := ⟨1, ⟨#[]⟩, 3, 0, 0⟩
def tF : ByteArray := ⟨#[102]⟩
theorem size1 (a : UInt8) : (⟨#[a]⟩ : ByteArray).size ≤ maxLen := by
  show 1 ≤ maxLen
  unfold maxLen; omega
theorem rightV : rightB [cV] = true := by
  simp [rightB, cellsB, C.ok, cV, cellB, eqCells, between, endS, endF, argsOf]
theorem rightI : rightB [cI] = true := by
  simp [rightB, cellsB, C.ok, cI, cellB, eqCells, between, endS, endF, argsOf]
theorem nameF : isNameB [102] = true := by decide
theorem ownF : (ownC tF 2).ok = true := by
  simp [C.ok, ownC, cellB, eqCells, structFits, between, tF, nameF]
theorem liveE : makeE tF [[cV], [cI]] = 0 := by
  have h : allRightB [[cV], [cI]] = true := by simp [allRightB, rightV, rightI]
  unfold makeE
  rw [h, show [[cV], [cI]].length = 2 from rfl, ownF]
  rfl
theorem liveL : makeL tF [[cV], [cI]] = [ownC tF 2, cV, cI] := by unfold makeL; rw [liveE]; rfl
theorem liveR : rightB [ownC tF 2, cV, cI] = true := by
  have h1 : cellsB [ownC tF 2, cV, cI] = true := by
    have hv : cV.ok = true := by simp [C.ok, cV, cellB, eqCells, between]
    have hi : cI.ok = true := by simp [C.ok, cI, cellB, eqCells, between]
    simp [cellsB, ownF, hv, hi]
  unfold rightB
  rw [h1]
  rfl
theorem liveEnd : endS [ownC tF 2, cV, cI] 1 = 2 := by rfl
theorem notF : isNameB [70] = false := by decide
theorem lessT : lessB 0 3 1 0 = true := by decide
theorem oneV : oneT ⟨4, ⟨#[]⟩, 0, 0, 1⟩ = [cV] := by unfold oneT; rw [show (⟨4, ⟨#[]⟩, 0, 0, 1⟩ : C) = cV from rfl, rightV]; rfl
theorem oneI : oneT ⟨1, ⟨#[]⟩, 3, 0, 0⟩ = [cI] := by unfold oneT; rw [show (⟨1, ⟨#[]⟩, 3, 0, 0⟩ : C) = cI from rfl, rightI]; rfl
theorem live_row (_w w2 : World) (v1 v2 : Value) (h1 : TermAt w2 v1 [cV]) (h2 : TermAt w2 v2 [cI]) : RowAt (w2.alloc (.cells #[v1, v2] 64)) (.slice (some ⟨w2.heap.size, 0, none⟩) 2 2) [[cV], [cI]] := by
  refine ⟨by simp [maxLen], Or.inr ⟨w2.heap.size, 0, 2, [v1, v2], rfl, by simp, by simp [maxLen], by simp, rfl, range_new w2 [v1, v2] 64, ?_⟩⟩
  intro i u l hu hl
  match i with
  | 0 => simp at hu hl; subst hu; subst hl; exact h1.below (below_alloc _ _)
  | 1 => simp at hu hl; subst hu; subst hl; exact h2.below (below_alloc _ _)
  | n + 2 => simp at hu
end Go.Proofs.YtojobiefambkoaaGreatDoor
