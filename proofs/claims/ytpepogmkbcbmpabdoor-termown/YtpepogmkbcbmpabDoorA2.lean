/- Contracts of the library function Clone and of the reference's copied. -/
import Derived.Test.YtpepogmkbcbmpabDoorA1
import Derived.Test.YtpepogmkbcbmpabDoorR6
import Derived.Lib.SliceRun
namespace Go.Proofs.YtpepogmkbcbmpabDoor
open Go.RowKit
theorem flat_drop (l : List C) (k : Nat) : flat (l.drop k) = (flat l).drop (5 * k) := by
  induction l generalizing k with
  | nil => simp [flat]
  | cons a r ih =>
    cases k with
    | zero => simp
    | succ k =>
      rw [List.drop_succ_cons, ih k]
      have e : flat (a :: r) = a.vals ++ flat r := by simp [flat]
      rw [e, show 5 * (k + 1) = 5 * k + 5 by omega, Nat.add_comm, ← List.drop_drop]
      rfl
theorem flat_take (l : List C) (k : Nat) : flat (l.take k) = (flat l).take (5 * k) := by
  induction l generalizing k with
  | nil => simp [flat]
  | cons a r ih =>
    cases k with
    | zero => simp [flat]
    | succ k =>
      rw [List.take_succ_cons]
      have e : ∀ x : List C, flat (a :: x) = a.vals ++ flat x := fun x => by simp [flat]
      rw [e, e, ih k, show 5 * (k + 1) = a.vals.length + 5 * k by simp [C.vals]; omega, List.take_length_add_append]
theorem range_sub {w : World} {b o : Nat} {l : List C} (h : w.rangeAt b o (flat l)) (k m : Nat) : w.rangeAt b (o + k * 5) (flat ((l.drop k).take m)) := by
  intro j v hv
  rw [flat_take, flat_drop, List.getElem?_take] at hv
  split at hv
  · rw [List.getElem?_drop] at hv
    have := h _ v hv
    rw [show o + (5 * k + j) = o + k * 5 + j by omega] at this
    exact this
  · cases hv
set_option maxHeartbeats 1000000 in
theorem c52_in (l : List C) (b o cap : Nat) (w : World) (hr : w.rangeAt b o (flat l)) (hby47 : l.length * 48 ≤ 140737488355328) :
    Calls Tryd.prog 24 #[.slice (some ⟨b, o, none⟩) l.length cap] w fun e w' => ∃ u, e = .returned u ∧ OwnT w' w.heap.size u l ∧ Below w.heap.size w w' := by
  obtain ⟨i0, hi, hz, hs, hby⟩ := info60
  have hnews : Hid (∀ j u, (flat l)[j]? = some u → w.cell? ((⟨b, o, none⟩ : Addr).add j) = some u) := fun j u hu => by rw [Addr.add_mid]; exact hr j u hu
  have hlen : Hid ((flat l).length = l.length * 5) := by
    show (flat l).length = l.length * 5
    rw [flat_length]; omega
  clear hr
  go_enter Tryd.func24, Tryd.ntmps24
  go_wp2_with (at_builtin; refine wpList_append_own _ rfl _ _ 23 rfl w.heap.size 34 i0 zero60 5 48 Tryd.underlying23 hi hz hs hby rfl (by decide) _ _ _ rfl (World.ownsRow_nil w w.heap.size 34 5) ⟨b, o, none⟩ l.length cap (flat l) rfl hlen.out hnews.out (flat_one _) (by unfold maxLen; omega) (by omega) (Nat.le_refl _) ?_)
  intro v' w' hown' hgrow hnil
  have hown' : Hid (OwnT w' w.heap.size v' l) := hown'
  have hb : Hid (Below w.heap.size w w') := (Below.refl _ _).grown hgrow (Nat.le_refl _) (fun g hg => by simp [Value.ownBlock] at hg)
  clear hgrow hnil
  go_wp2_with fail
  go_ret
  exact ⟨_, rfl, hown'.out, hb.out⟩
set_option maxHeartbeats 1000000 in
theorem c51_in (l : List C) (b o cap : Nat) (w : World) (hr : w.rangeAt b o (flat l)) (hb : b < w.heap.size) (hby47 : l.length * 48 ≤ 140737488355328) :
    Calls Tryd.prog 13 #[.slice (some ⟨b, o, none⟩) l.length cap] w fun e w' => ∃ u, e = .returned u ∧ OwnT w' w.heap.size u l ∧ Below w.heap.size w w' := by
  obtain ⟨i0, hi, hz, hs, hby⟩ := info60
  have hnl := fun (w : World) (a : Option Addr) (n c : Nat) => Lib.run_eql_slice_nil (P := Tryd.prog) w 23 34 a n c 0 0 Tryd.underlying23
  have hB : ∀ ob : Obj, Hid (Below w.heap.size w (w.alloc ob)) := fun ob => below_alloc w ob
  have hnews : ∀ ob : Obj, Hid (∀ j u, (flat l)[j]? = some u → (w.alloc ob).cell? ((⟨b, o, none⟩ : Addr).add j) = some u) := fun ob j u hu => by rw [Addr.add_mid]; exact cell_alloc hb (hr j u hu)
  have hown0 : Hid ((w.alloc (.cells #[] 34)).ownsRow w.heap.size 34 5 (.slice (some ⟨w.heap.size, 0, none⟩) 0 0) 0 []) := World.ownsRow_lit w #[] 0 (Nat.le_refl _) (by simp) rfl
  have hlen : Hid ((flat l).length = l.length * 5) := by
    show (flat l).length = l.length * 5
    rw [flat_length]; omega
  clear hr
  go_enter Tryd.func13, Tryd.ntmps13
  go_wp2_with (at_builtin; refine wpList_append_own _ rfl _ _ 23 rfl w.heap.size 34 i0 zero60 5 48 Tryd.underlying23 hi hz hs hby rfl (by decide) _ _ _ rfl hown0.out ⟨b, o, none⟩ l.length cap (flat l) rfl hlen.out (hnews _).out (flat_one _) (by unfold maxLen; omega) (by omega) (by simp) ?_)
  intro v' w' hown' hgrow hnil
  have hown' : Hid (OwnT w' w.heap.size v' l) := hown'
  have hb : Hid (Below w.heap.size w w') := (hB _).out.grown hgrow (by simp) (fun g hg => by simp [Value.ownBlock] at hg; omega)
  clear hgrow hnil
  go_wp2_with fail
  go_ret
  exact ⟨_, rfl, hown'.out, hb.out⟩
end Go.Proofs.YtpepogmkbcbmpabDoor
