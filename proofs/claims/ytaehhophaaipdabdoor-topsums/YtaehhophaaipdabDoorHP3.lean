/- Contracts of isVariable, Clone; a heap in memory; contracts of New, has, next, follow, Deref. -/
import Derived.Test.YtaehhophaaipdabDoorHP1
import Derived.Test.YtaehhophaaipdabDoorJR
import Derived.Test.YtaehhophaaipdabDoorJW
import Derived.Maps.OwnSet
import Derived.Lib.SliceRun
import Derived.Deep.RegionHeld3
namespace Go.Proofs.YtaehhophaaipdabDoor
open Go.RowKit
attribute [local go_sem ↓] Go.wp_at_zero Go.wp_at_succ
set_option maxRecDepth 100000 in
theorem h29 (l : List C) (v : Value) (w : World) (h : TermAt w v l) : Calls Tryd.prog 13 #[v] w fun e w' => e = .returned (.bool (isVarL l)) ∧ w' = w := by
  obtain ⟨⟨hc, htx⟩, h⟩ := h
  rcases h with ⟨rfl, ad, rfl⟩ | ⟨b, o, cap, rfl, h2, h5, h3, h4⟩
  · have he : isVarL [] = false := rfl
    rw [he]
    go_enter Tryd.func13, Tryd.ntmps13
    go_wp2_with fail
    go_ret
    exact ⟨rfl, rfl⟩
  · by_cases hl : l.length = 1
    · match l, hl with
      | [c], _ =>
        obtain ⟨p0, p1, p2, p3, p4⟩ := term_cells h3 0 (by simp)
        simp only [Nat.zero_mul, Nat.add_zero, List.getElem_cons_zero] at p0
        have he : isVarL [c] = (c.k == 4) := rfl
        rw [he]
        cases hk : (c.k == 4)
        · simp only [List.length_singleton] at *
          go_enter Tryd.func13, Tryd.ntmps13
          go_wp2_with fail
          go_ret
          exact ⟨rfl, rfl⟩
        · simp only [List.length_singleton] at *
          go_enter Tryd.func13, Tryd.ntmps13
          go_wp2_with fail
          go_ret
          exact ⟨rfl, rfl⟩
    · have he : isVarL l = false := by
        match l, hl with
        | [], _ => rfl
        | _ :: _ :: _, _ => rfl
      have hq : ((l.length : Int) == 1) = false := by rw [beq_eq_false_iff_ne]; omega
      rw [he]
      go_enter Tryd.func13, Tryd.ntmps13
      go_wp2_with fail
      go_ret
      exact ⟨rfl, rfl⟩
/-- A term that is handed on as it is kept. -/
theorem term_nil (w : World) (ad : Option Addr) : TermAt w (.slice ad 0 0) [] := ⟨⟨by simp, by simp⟩, .inl ⟨rfl, ad, rfl⟩⟩
/-- Where a row of one's own lies. -/
theorem own_blk {w : World} {B : Nat} {e : TypeId} {s n : Nat} {v : Value} {xs : List Value} (h : w.ownsRow B e s v n xs) {g : Nat} (hg : v.ownBlock = some g) : B ≤ g ∧ ∃ cu : Array Value, w.heap[g]? = some (.cells cu e (0, 0)) := by
  rcases h.2 with ⟨e1, _⟩ | ⟨g', cap, cur, e1, h1, h2, _⟩
  · rw [e1] at hg; cases hg
  · rw [e1] at hg
    simp only [Value.ownBlock, Option.some.injEq] at hg
    subst hg
    exact ⟨h1, cur, h2⟩
set_option maxRecDepth 100000 in
set_option maxHeartbeats 2000000 in
theorem h22 (l : List C) (v : Value) (w : World) (h : TermAt w v l) (hby : l.length * 48 ≤ 140737488355328) : Calls Tryd.prog 15 #[v] w fun e w' => ∃ u, e = .returned u ∧ TermAt w' u l ∧ (∀ g, u.ownBlock = some g → w.heap.size ≤ g ∧ ∃ cu : Array Value, w'.heap[g]? = some (.cells cu 52 (0, 0))) ∧ Below w.heap.size w w' := by
  obtain ⟨i0, hi, hz, hs, hb0⟩ := info60
  have hnl := fun (a : Option Addr) (n c : Nat) => Lib.run_eql_slice_nil (P := Tryd.prog) w 23 52 a n c 0 0 Tryd.underlying23
  have HT : Hid (TermAt w v l) := h
  have hown0 : (w.alloc (.cells #[] 52)).ownsRow w.heap.size 52 5 (.slice (some ⟨w.heap.size, 0, none⟩) 0 0) 0 [] := ⟨rfl, .inr ⟨w.heap.size, 0, #[], rfl, Nat.le_refl _, heap_alloc_new w _, Nat.le_refl _, by simp, rfl, rfl⟩⟩
  have HO : Hid ((w.alloc (.cells #[] 52)).ownsRow w.heap.size 52 5 (.slice (some ⟨w.heap.size, 0, none⟩) 0 0) 0 []) := hown0
  have HB : Hid (Below w.heap.size w (w.alloc (.cells #[] 52))) := (Below.refl _ w).alloc (Nat.le_refl _) _
  have hbase : w.heap.size ≤ (w.alloc (.cells #[] 52)).heap.size := by simp
  obtain ⟨⟨hc, htx⟩, h⟩ := h
  rcases h with ⟨rfl, ad, rfl⟩ | ⟨b, o, cap, rfl, h2, h5, h3, h4⟩
  · cases ad with
    | none =>
      go_enter Tryd.func15, Tryd.ntmps15
      go_wp2_with fail
      go_ret
      exact ⟨_, rfl, term_nil _ _, by simp [Value.ownBlock], Below.refl _ _⟩
    | some a =>
      go_enter Tryd.func15, Tryd.ntmps15
      go_wp2_with (at_builtin; refine wpList_append_own _ rfl _ _ 23 rfl w.heap.size 52 i0 zero60 5 48 Tryd.underlying23 hi hz hs hb0 rfl (by decide) _ _ _ rfl HO.out a 0 0 [] rfl rfl (fun j u hu => by simp at hu) (fun u hu => by simp at hu) (by unfold maxLen; omega) (by omega) hbase ?_)
      intro v' w' hown hgr _
      have HF : Hid (TermAt w' v' [] ∧ (∀ g, v'.ownBlock = some g → w.heap.size ≤ g ∧ ∃ cu : Array Value, w'.heap[g]? = some (.cells cu 52 (0, 0))) ∧ Below w.heap.size w w') := ⟨termAt_of_owns (l := []) hown (by simp) (by simp), fun g hg => own_blk hown hg, HB.out.grown hgr hbase (fun g hg => (HO.out.lt g hg).1)⟩
      clear hown hgr
      go_wp2_with fail
      go_ret
      exact ⟨_, rfl, HF.out⟩
  · have HN : Hid (∀ j u, (flat l)[j]? = some u → (w.alloc (.cells #[] 52)).cell? ((⟨b, o, none⟩ : Addr).add j) = some u) := fun j u hu => by
      rw [Addr.add_mid]
      exact range_below h3 h4 HB.out j u hu
    have hfl : (flat l).length = l.length * 5 := by rw [flat_length]; omega
    have hle : l.length ≤ maxLen := hc
    clear h2 h5 h3 htx hc
    go_enter Tryd.func15, Tryd.ntmps15
    go_wp2_with (at_builtin; refine wpList_append_own _ rfl _ _ 23 rfl w.heap.size 52 i0 zero60 5 48 Tryd.underlying23 hi hz hs hb0 rfl (by decide) _ _ _ rfl HO.out ⟨b, o, none⟩ l.length cap (flat l) rfl hfl HN.out (flat_one l) (by omega) (by omega) hbase ?_)
    intro v' w' hown hgr _
    have HF : Hid (TermAt w' v' l ∧ (∀ g, v'.ownBlock = some g → w.heap.size ≤ g ∧ ∃ cu : Array Value, w'.heap[g]? = some (.cells cu 52 (0, 0))) ∧ Below w.heap.size w w') := by
      exact ⟨termAt_of_owns hown HT.out.1.1 HT.out.1.2, fun g hg => own_blk hown hg, HB.out.grown hgr hbase (fun g hg => (HO.out.lt g hg).1)⟩
    obtain ⟨a', c', hvf⟩ := owns_form hown
    subst hvf
    clear hown hgr
    go_wp2_with fail
    go_ret
    exact ⟨_, rfl, HF.out⟩
end Go.Proofs.YtaehhophaaipdabDoor
