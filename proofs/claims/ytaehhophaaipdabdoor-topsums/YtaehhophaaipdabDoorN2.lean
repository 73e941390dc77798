/- The reference Vars, VarsOf, Global. -/
import Derived.Test.YtaehhophaaipdabDoorN1
namespace Go.Proofs.YtaehhophaaipdabDoor
open Go.RowKit
def addN (acc : List Nm) (x : Nm) : List Nm := if hasN acc x then acc else acc ++ [x]
/-- Each once, in the order in which they first come. -/
def nubN (xs : List Nm) : List Nm := xs.foldl addN []
theorem nubN_snoc (xs : List Nm) (x : Nm) : nubN (xs ++ [x]) = addN (nubN xs) x := by simp [nubN]
theorem addN_len (acc : List Nm) (x : Nm) : (addN acc x).length ≤ acc.length + 1 := by unfold addN; split <;> simp
theorem foldN_len (xs acc : List Nm) : (xs.foldl addN acc).length ≤ acc.length + xs.length := by
  induction xs generalizing acc with
  | nil => simp
  | cons a r ih =>
    have h1 := ih (addN acc a)
    have h2 := addN_len acc a
    simp; omega
theorem nubN_len (xs : List Nm) : (nubN xs).length ≤ xs.length := by
  have := foldN_len xs []; simp at this; exact this
theorem info23 : ∃ i, Tryd.prog.info? 26 = some i ∧ i.zero = some (.agg #[.int .i64 0, .int .i64 0]) ∧ i.size = 2 ∧ i.bytes = 16 := by
  have h : (Tryd.prog.info? 26).map (fun i => (i.zero, i.size, i.bytes)) = some (some (.agg #[.int .i64 0, .int .i64 0]), 2, 16) := by kernel_rfl
  cases hq : Tryd.prog.info? 26 with
  | none => rw [hq] at h; cases h
  | some i =>
    rw [hq] at h
    simp only [Option.map_some, Option.some.injEq, Prod.mk.injEq] at h
    exact ⟨i, rfl, h.1, h.2.1, h.2.2⟩
theorem newsN_new (W : World) (x : Nm) : ∀ j u, (flatN [x])[j]? = some u → (W.alloc (.cells #[.int .i64 x.1, .int .i64 x.2] 26)).cell? ((⟨W.heap.size, 0, none⟩ : Addr).add j) = some u := by
  intro j u hu
  rw [Addr.add_mid]
  exact range_new W (flatN [x]) 26 j u hu
/-- What has come of the first k terms and j cells of the next. -/
def metN (ls : List (List C)) (k j : Nat) : List Nm := nubN (varsAll (ls.take k) ++ varsOf ((ls[k]?.getD []).take j))
theorem metN_len (ls : List (List C)) (k j : Nat) (hk : k < ls.length) : (metN ls k j).length ≤ (varsAll ls).length := by
  unfold metN
  have h := (vars_at_prefix ls k j hk).length_le
  have h2 := nubN_len (varsAll (ls.take k) ++ varsOf (ls[k].take j))
  simp only [List.getElem?_eq_getElem hk, Option.getD_some]
  omega
theorem metN_zero (ls : List (List C)) (k : Nat) : metN ls k 0 = nubN (varsAll (ls.take k)) := by simp [metN, varsOf]
theorem metN_end (ls : List (List C)) (k j : Nat) (hk : k < ls.length) (hj : ls[k].length ≤ j) : metN ls k j = nubN (varsAll (ls.take (k + 1))) := by
  unfold metN
  rw [varsAll_snoc ls k hk]
  simp [List.getElem?_eq_getElem hk, List.take_of_length_le hj]
theorem metN_no (ls : List (List C)) (k j : Nat) (hk : k < ls.length) (hj : j < ls[k].length) (h : (ls[k][j].k == 4) = false) : metN ls k (j + 1) = metN ls k j := by
  unfold metN
  simp only [List.getElem?_eq_getElem hk, Option.getD_some]
  rw [varsOf_snoc_no ls[k] j hj h]
theorem metN_yes (ls : List (List C)) (k j : Nat) (hk : k < ls.length) (hj : j < ls[k].length) (h : (ls[k][j].k == 4) = true) : metN ls k (j + 1) = addN (metN ls k j) (ls[k][j].vn, ls[k][j].vk) := by
  unfold metN
  simp only [List.getElem?_eq_getElem hk, Option.getD_some]
  rw [varsOf_snoc_yes ls[k] j hj h, ← List.append_assoc, nubN_snoc]
theorem row_one (w : World) (v : Value) (l : List C) (h : TermAt w v l) : RowAt (w.alloc (.cells #[v] 23)) (.slice (some ⟨w.heap.size, 0, none⟩) 1 1) [l] := by
  refine ⟨by simp [maxLen], .inr ⟨w.heap.size, 0, 1, [v], rfl, by simp, by simp [maxLen], by simp, rfl, range_new w [v] 23, ?_⟩⟩
  intro i u x hu hx
  match i, hu, hx with
  | 0, hu, hx => simp at hu hx; subst hu hx; exact h.below (below_alloc _ _)
def refGlobalB (l : List C) : Bool := rightB l && (varsOf l).all (fun x => !decide (x.1 < 0))
end Go.Proofs.YtaehhophaaipdabDoor
