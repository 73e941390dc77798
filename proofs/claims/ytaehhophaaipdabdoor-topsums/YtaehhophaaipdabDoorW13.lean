/- Contracts of single, OfInt, OfAtom, OfVar: for every argument each returns the term of one cell, or none. -/
import Derived.Test.YtaehhophaaipdabDoorW12
namespace Go.Proofs.YtaehhophaaipdabDoor
open Go.RowKit
theorem range_new (w : World) (cs : List Value) (t : TypeId) : (w.alloc (.cells cs.toArray t)).rangeAt w.heap.size 0 cs := by
  intro j v hv
  rw [cell_of_row _ _ _ _ _ _ (alloc_heap_new w (.cells cs.toArray t))]
  simpa using hv
theorem termAt_new (w : World) (c : C) (ht : c.t.size ≤ maxLen) : TermAt (w.alloc (.cells #[.int .u8 c.k, .string c.t, .int .i64 c.n, .int .i64 c.vn, .int .i64 c.vk] 52)) (.slice (some ⟨w.heap.size, 0, none⟩) 1 1) [c] := by
  refine ⟨⟨by simp [maxLen], by simpa using ht⟩, Or.inr ⟨w.heap.size, 0, 1, rfl, Nat.le_refl _, by simp [maxLen], ?_, by simp⟩⟩
  exact range_new w (flat [c]) 52
theorem termAt_nil (w : World) : TermAt w (.slice none 0 0) [] := ⟨⟨by simp, by simp⟩, Or.inl ⟨rfl, none, rfl⟩⟩
/-- The term of one cell; none, if it is not right. -/
def oneT (c : C) : List C := if rightB [c] then [c] else []
set_option maxHeartbeats 1000000 in
theorem c48 (k : Int) (t : ByteArray) (n vn vk : Int) (w : World) (hS : Signs w) (ht : t.size ≤ maxLen) :
    Calls Tryd.prog 16 #[.agg #[.int .u8 k, .string t, .int .i64 n, .int .i64 vn, .int .i64 vk]] w fun e w' => ∃ v, e = .returned v ∧ TermAt w' v (oneT ⟨k, t, n, vn, vk⟩) ∧ Below w.heap.size w w' := by
  have hT : ∀ o : Obj, Hid (TermAt ((w.alloc o).alloc (.cells #[.int .u8 k, .string t, .int .i64 n, .int .i64 vn, .int .i64 vk] 52)) (.slice (some ⟨w.heap.size + 1, 0, none⟩) 1 1) [⟨k, t, n, vn, vk⟩]) := fun o => by
    have h := termAt_new (w.alloc o) ⟨k, t, n, vn, vk⟩ ht
    rw [World.size_alloc] at h; exact h
  have hB : ∀ o1 o2 : Obj, Hid (Below w.heap.size w ((w.alloc o1).alloc o2)) := fun o1 o2 => ((Below.refl _ _).alloc (Nat.le_refl _) _).alloc (by simp) _
  have HS : Hid (Signs w) := hS
  clear hS
  cases hR : rightB [⟨k, t, n, vn, vk⟩]
  · have HRt : Hid (rightB [⟨k, t, n, vn, vk⟩] = false) := hR
    clear hR
    have e1 : oneT ⟨k, t, n, vn, vk⟩ = [] := by unfold oneT; rw [HRt.out]; rfl
    rw [e1]; clear e1
    go_enter Tryd.func16, Tryd.ntmps16
    go_wp2_with fail
    refine (c22 [⟨k, t, n, vn, vk⟩] _ _ (hT _).out (HS.out.below (hB _ _).out)).mono ?_
    rw [HRt.out]
    rintro e w' ⟨rfl, hb2⟩
    go_wp2_with fail
    go_ret
    exact ⟨_, rfl, termAt_nil _, (hB _ _).out.trans (hb2.mono (by simp; omega))⟩
  · have HRt : Hid (rightB [⟨k, t, n, vn, vk⟩] = true) := hR
    clear hR
    have e1 : oneT ⟨k, t, n, vn, vk⟩ = [⟨k, t, n, vn, vk⟩] := by unfold oneT; rw [HRt.out]; rfl
    rw [e1]; clear e1
    go_enter Tryd.func16, Tryd.ntmps16
    go_wp2_with fail
    refine (c22 [⟨k, t, n, vn, vk⟩] _ _ (hT _).out (HS.out.below (hB _ _).out)).mono ?_
    rw [HRt.out]
    rintro e w' ⟨rfl, hb2⟩
    go_wp2_with fail
    go_ret
    exact ⟨_, rfl, (hT _).out.below hb2, (hB _ _).out.trans (hb2.mono (by simp; omega))⟩
set_option maxHeartbeats 1000000 in
theorem c18 (vn vk : Int) (w : World) (hS : Signs w) :
    Calls Tryd.prog 8 #[.agg #[.int .i64 vn, .int .i64 vk]] w fun e w' => ∃ v, e = .returned v ∧ TermAt w' v (oneT ⟨4, ⟨#[]⟩, 0, vn, vk⟩) ∧ Below w.heap.size w w' := by
  have HS : Hid (Signs w) := hS
  clear hS
  go_enter Tryd.func8, Tryd.ntmps8
  go_wp2_with fail
  refine (c48 4 ⟨#[]⟩ 0 vn vk _ (HS.out.below (below_alloc _ _)) (Nat.zero_le _)).mono ?_
  rintro e w' ⟨v, rfl, hT, hb⟩
  have hT : Hid _ := hT
  go_wp2_with fail
  go_ret
  exact ⟨_, rfl, hT.out, (below_alloc _ _).trans (hb.mono (by simp))⟩
end Go.Proofs.YtaehhophaaipdabDoor
