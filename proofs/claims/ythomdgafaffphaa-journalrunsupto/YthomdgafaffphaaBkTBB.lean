/- Rows of numbers that are kept in a book: written over, grown, looked at. -/
import Derived.Test.YthomdgafaffphaaBkTBA
import Derived.Test.YthomdgafaffphaaBkNX
import Derived.Below
import Derived.OneCell
import Derived.Deep.MidRow
namespace Go.Proofs.Ythomdgafaffphaa.Bk
open Go.RowKit
/-- No bound is asked of a number of a row. -/
def WfZ (_ : IntKind) (_ : Int) : Bool := true
/-- A row of one's own, of numbers. -/
def OwnZ (w : World) (B : Nat) (e : TypeId) (ik : IntKind) (v : Value) (zs : List Int) : Prop := w.ownsRow B e 1 v zs.length (zs.map (Value.int ik)) ∧ ∀ z ∈ zs, WfZ ik z = true
theorem owns_eq {w w' : World} {base : Nat} {e : TypeId} {s n : Nat} {v : Value} {xs : List Value} (h : w.ownsRow base e s v n xs) (hg : ∀ g, v.ownBlock = some g → w'.heap[g]? = w.heap[g]?) : w'.ownsRow base e s v n xs := by
  refine ⟨h.1, ?_⟩
  rcases h.2 with hh | ⟨g, cap, cur, e1, e2, e3, e4⟩
  · exact .inl hh
  · exact .inr ⟨g, cap, cur, e1, e2, (hg g (by rw [e1]; rfl)).trans e3, e4⟩
theorem ints_eq {w w' : World} {e : TypeId} {ik : IntKind} {base : Nat} {v : Value} {zs : List Int} (h : OwnZ w base e ik v zs) (hg : ∀ g, v.ownBlock = some g → w'.heap[g]? = w.heap[g]?) : OwnZ w' base e ik v zs := ⟨owns_eq h.1 hg, h.2⟩
/-- Rows of two element types do not share a block. -/
theorem types_apart {w : World} {base base' : Nat} {e e' : TypeId} {s s' n n' : Nat} {v v' : Value} {xs xs' : List Value} (h : w.ownsRow base e s v n xs) (h' : w.ownsRow base' e' s' v' n' xs') (hne : e ≠ e') (g : Nat) (hg : v.ownBlock = some g) : v'.ownBlock ≠ some g := by
  intro hg'
  rcases h.2 with ⟨h1, _⟩ | ⟨g1, c1, cur1, h1, _, h3, _⟩
  · rw [h1] at hg; cases hg
  · rcases h'.2 with ⟨k1, _⟩ | ⟨g2, c2, cur2, k1, _, k3, _⟩
    · rw [k1] at hg'; cases hg'
    · rw [h1] at hg
      rw [k1] at hg'
      simp only [Value.ownBlock, Option.some.injEq] at hg hg'
      subst hg hg'
      rw [h3] at k3
      simp only [Option.some.injEq, Obj.cells.injEq] at k3
      exact hne k3.2.1
theorem ints_base {w : World} {e : TypeId} {ik : IntKind} {base base' : Nat} {v : Value} {zs : List Int} (h : OwnZ w base e ik v zs) (hb : base' ≤ base) : OwnZ w base' e ik v zs := by
  refine ⟨⟨h.1.1, ?_⟩, h.2⟩
  rcases h.1.2 with hh | ⟨g, cap, cur, e1, e2, e3⟩
  · exact .inl hh
  · exact .inr ⟨g, cap, cur, e1, by omega, e3⟩
theorem ints_form {w : World} {e : TypeId} {ik : IntKind} {base : Nat} {v : Value} {zs : List Int} (h : OwnZ w base e ik v zs) : ∃ ad cap, v = .slice ad zs.length cap := by
  rcases h.1.2 with ⟨h1, h2⟩ | ⟨g, c, cur, h1, _⟩
  · exact ⟨none, 0, by rw [h1, h2]⟩
  · exact ⟨_, _, h1⟩
/-- A number of a row is written. -/
theorem ints_write {w : World} {e : TypeId} {ik : IntKind} {base : Nat} {v : Value} {k : Nat} {x y : Int} {ys : List Int} (h : OwnZ w base e ik v (List.replicate k x ++ y :: ys)) (hx : WfZ ik x = true) :
    ∃ g cap, v = .slice (some ⟨g, 0, none⟩) (k + (ys.length + 1)) cap ∧ base ≤ g ∧ g < w.heap.size ∧ w.cell? ⟨g, k, none⟩ = some (.int ik y) ∧ w.frozen? ⟨g, k, none⟩ = false ∧ OwnZ (w.setCell ⟨g, k, none⟩ (.int ik x)) base e ik v (List.replicate (k + 1) x ++ ys) := by
  rcases h.1.2 with ⟨_, h2⟩ | ⟨g, cap, cur, h1, h2, h3, h4, h5, h6, h7⟩
  · simp at h2
  · have hl : (List.replicate k x ++ y :: ys).length = k + (ys.length + 1) := by simp
    rw [hl] at h1 h4
    have hset : (List.replicate k x ++ y :: ys).set k x = List.replicate (k + 1) x ++ ys := by
      rw [List.set_append_right _ _ (by simp), List.replicate_succ']
      simp
    refine ⟨g, cap, h1, h2, (Array.getElem?_eq_some_iff.1 h3).1, ?_, frozen_of_row w g k cur e h3, ?_, ?_⟩
    · rw [cell_of_row w g k cur e (0, 0) h3]
      have : (cur.toList.take ((List.replicate k x ++ y :: ys).length * 1))[k]? = some (.int ik y) := by
        rw [h7]; simp
      rw [List.getElem?_take_of_lt (by simp)] at this
      simpa using this
    · have h8 := heap_setCell_same w g k cur e (.int ik x) h3
      refine ⟨by simp, .inr ⟨g, cap, cur.setIfInBounds k (.int ik x), ?_, h2, h8, ?_, h5, by simp [h6], ?_⟩⟩
      · rw [h1]; congr 1; simp; omega
      · simp; omega
      · have e1 : (List.replicate (k + 1) x ++ ys).length * 1 = (List.replicate k x ++ y :: ys).length * 1 := by simp; omega
        rw [e1, Array.toList_setIfInBounds, List.take_set, h7, ← hset, List.map_set]
    · intro z hz
      rcases List.mem_append.1 hz with hz | hz
      · rw [(List.mem_replicate.1 hz).2]; exact hx
      · exact h.2 z (by simp [hz])
/-- A row that reads as so many marks. -/
def RdI (ik : IntKind) (w : World) (v : Value) (n : Nat) (x : Int) : Prop := ∃ ad cap, v = .slice ad n cap ∧ (n = 0 ∨ ∃ g, ad = some ⟨g, 0, none⟩ ∧ g < w.heap.size ∧ w.rangeAt g 0 (List.replicate n (.int ik x)))
theorem RdI.at {ik : IntKind} {w : World} {v : Value} {n : Nat} {x : Int} (h : RdI ik w v n x) (k : Nat) (hk : k < n) : ∃ g cap, v = .slice (some ⟨g, 0, none⟩) n cap ∧ w.cell? ⟨g, k, none⟩ = some (.int ik x) ∧ g < w.heap.size := by
  obtain ⟨ad, cap, rfl, h | ⟨g, rfl, h1, h2⟩⟩ := h
  · omega
  · refine ⟨g, cap, rfl, ?_, h1⟩
    have := h2 k (.int ik x) (by rw [List.getElem?_replicate]; simp [hk])
    simpa using this
theorem RdI.form {ik : IntKind} {w : World} {v : Value} {n : Nat} {x : Int} (h : RdI ik w v n x) : ∃ ad cap, v = .slice ad n cap := by
  obtain ⟨ad, cap, rfl, _⟩ := h
  exact ⟨_, _, rfl⟩
theorem RdI.eq {ik : IntKind} {w w' : World} {v : Value} {n : Nat} {x : Int} (h : RdI ik w v n x) (hs : w.heap.size ≤ w'.heap.size) (hg : ∀ g, v.ownBlock = some g → w'.heap[g]? = w.heap[g]?) : RdI ik w' v n x := by
  obtain ⟨ad, cap, rfl, h | ⟨g, rfl, h1, h2⟩⟩ := h
  · exact ⟨ad, cap, rfl, .inl h⟩
  · refine ⟨_, cap, rfl, .inr ⟨g, rfl, by omega, fun j u hu => ?_⟩⟩
    have := h2 j u hu
    rwa [World.cell?_of_block (a := ⟨g, 0 + j, none⟩) (hg g rfl)]
theorem rd_of {w : World} {e : TypeId} {ik : IntKind} {base : Nat} {v v0 : Value} {n m : Nat} {x : Int} (h : OwnZ w base e ik v (List.replicate m x)) (hn : n ≤ m) (ad : Option Addr) (cap : Nat) (h0 : v0 = .slice ad n cap) (hb : n = 0 ∨ (∃ g, ad = some ⟨g, 0, none⟩ ∧ v.ownBlock = some g)) : RdI ik w v0 n x := by
  refine ⟨ad, cap, h0, ?_⟩
  rcases hb with hb | ⟨g, hg, hv⟩
  · exact .inl hb
  · right
    rcases h.1.2 with ⟨h1, _⟩ | ⟨g', c, cur, h1, h2, h3, h4, h5, h6, h7⟩
    · rw [h1] at hv; cases hv
    · rw [h1] at hv
      simp only [Value.ownBlock, Option.some.injEq] at hv
      subst hv
      refine ⟨g', hg, (Array.getElem?_eq_some_iff.1 h3).1, fun j u hu => ?_⟩
      rw [Nat.zero_add, cell_of_row w g' j cur e (0, 0) h3]
      rw [List.getElem?_replicate] at hu
      split at hu
      · next hj =>
        have : (cur.toList.take ((List.replicate m x).length * 1))[j]? = some u := by
          rw [h7, List.map_replicate, List.getElem?_replicate, if_pos (by omega)]
          exact hu
        rw [List.getElem?_take_of_lt (by simp; omega)] at this
        simpa using this
      · cases hu
end Go.Proofs.Ythomdgafaffphaa.Bk
