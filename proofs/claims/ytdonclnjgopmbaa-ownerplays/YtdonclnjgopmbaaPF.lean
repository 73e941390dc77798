/- Contract of the reference's Want. -/
import Derived.Test.YtdonclnjgopmbaaPE
namespace Go.Proofs.Ytdonclnjgopmbaa
open Go.RowKit
attribute [local go_sem ↓] Go.wp_at_zero Go.wp_at_succ
/-- A name laid ahead of the first greater one. -/
def insN (v : Nm) : List Nm → List Nm
  | [] => [v]
  | y :: r => if lessB v.1 v.2 y.1 y.2 = true then v :: y :: r else y :: insN v r
theorem insN_drop (v : Nm) (ws : List Nm) (k : Nat) (hk : k < ws.length) : (lessB v.1 v.2 ws[k].1 ws[k].2 = true → insN v (ws.drop k) = [v, ws[k]] ++ ws.drop (k + 1)) ∧ (lessB v.1 v.2 ws[k].1 ws[k].2 = false → insN v (ws.drop k) = [ws[k]] ++ insN v (ws.drop (k + 1))) := by
  have e : ws.drop k = ws[k] :: ws.drop (k + 1) := List.drop_eq_getElem_cons hk
  exact ⟨fun h => by rw [e]; simp [insN, h], fun h => by rw [e]; simp [insN, h]⟩
theorem insN_mem (v : Nm) : ∀ (ws : List Nm) (x : Nm), x ∈ insN v ws ↔ x = v ∨ x ∈ ws
  | [], x => by simp [insN]
  | y :: r, x => by
    simp only [insN]
    split
    · simp
    · simp only [List.mem_cons, insN_mem v r x]
      exact ⟨fun h => by rcases h with h | h | h <;> simp [h], fun h => by rcases h with h | h | h <;> simp [h]⟩
theorem insN_up (v : Nm) : ∀ (ws : List Nm), ws.Pairwise ltN → v ∉ ws → (insN v ws).Pairwise ltN
  | [], _, _ => by simp [insN]
  | y :: r, h, hv => by
    obtain ⟨h1, h2⟩ := List.pairwise_cons.1 h
    simp only [insN]
    split
    · next hl =>
      have hl' := (lessB_iff v y).1 hl
      refine List.pairwise_cons.2 ⟨fun x hx => ?_, h⟩
      rcases List.mem_cons.1 hx with rfl | hx
      · exact hl'
      · exact ltN_tr _ _ _ hl' (h1 x hx)
    · next hl =>
      have hl' : ¬ ltN v y := fun c => hl ((lessB_iff v y).2 c)
      refine List.pairwise_cons.2 ⟨fun x hx => ?_, insN_up v r h2 fun c => hv (by simp [c])⟩
      rcases (insN_mem v r x).1 hx with rfl | hx
      · exact ltN_tri _ _ hl' fun e => hv (by simp [e])
      · exact h1 x hx
theorem insN_len (v : Nm) : ∀ ws : List Nm, (insN v ws).length = ws.length + 1
  | [] => rfl
  | y :: r => by simp only [insN]; split <;> simp [insN_len v r]
/-- The blocks that came to those of G. -/
def Gn (w : World) (G : Nat → Prop) (w' : World) : Nat → Prop := fun g => G g ∨ (w.heap.size ≤ g ∧ g < w'.heap.size)
theorem rf_wants {w w4 : World} {G : Nat → Prop} {rt : Nat} {rs : List Rw} {ws ws' : List Nm} {a : Option Addr} {c : Nat} (h : RfAt w G rt rs ws) (hb : Below w.heap.size w w4) (hN : Ns w4 a ws'.length ws') (ha : ∀ g, blk a = some g → w.heap.size ≤ g ∧ g < w4.heap.size) :
    RfAt (w4.setCell ⟨rt, 1, none⟩ (.slice a ws'.length c)) (Gn w G (w4.setCell ⟨rt, 1, none⟩ (.slice a ws'.length c))) rt rs ws' ∧ w.grownBy (w4.setCell ⟨rt, 1, none⟩ (.slice a ws'.length c)) (some rt) := by
  have h4 := h.below hb
  obtain ⟨ra, rc, wa, wc, h1, h2, _, k4, _, k6⟩ := h4.ex
  have hs : (w4.setCell ⟨rt, 1, none⟩ (.slice a ws'.length c)).heap.size = w4.heap.size := by simp
  have ho : ∀ g, g ≠ rt → (w4.setCell ⟨rt, 1, none⟩ (.slice a ws'.length c)).heap[g]? = w4.heap[g]? := fun g hg => heap_setCell_other _ _ _ _ hg
  have hGr : ∀ g, G g → g ≠ rt := fun g hg e => h.grt (e ▸ hg)
  have hnr : ∀ g, w.heap.size ≤ g → g ≠ rt := fun g hg e => by have := h.rlt; omega
  have e1 := heap_setCell_same w4 rt 1 _ 50 (.slice a ws'.length c) h1
  refine ⟨⟨⟨ra, rc, a, c, e1, h2.keeps fun g e => ho g (hGr g (k4 g e)), hN.keeps fun g e => ho g (hnr g (ha g e).1), fun g e => .inl (k4 g e), fun g e => .inr ⟨(ha g e).1, by rw [hs]; exact (ha g e).2⟩, k6⟩, fun r hr => ⟨(h4.lst r hr).1.keeps fun g e => ho g (hGr g ((h4.lst r hr).2 g e)), fun g e => .inl ((h4.lst r hr).2 g e)⟩, ?_, by rw [hs]; exact h4.rlt, ?_⟩, ?_⟩
  · rintro (c | ⟨c, _⟩)
    · exact h.grt c
    · exact hnr rt c rfl
  · rintro g (c | ⟨_, c⟩)
    · rw [hs]; exact h4.lt g c
    · exact c
  · exact ⟨hb.os, hb.tape, hb.output, by rw [hs]; exact hb.size, fun k hk hr => (ho k fun e => hr (by rw [e])).trans (hb.block k hk)⟩
end Go.Proofs.Ytdonclnjgopmbaa
