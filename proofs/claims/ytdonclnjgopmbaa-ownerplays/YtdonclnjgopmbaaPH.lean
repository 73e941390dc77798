/- The plain side of the reference's Ask, and what a store of new rows leaves. -/
import Derived.Test.YtdonclnjgopmbaaPF
namespace Go.Proofs.Ytdonclnjgopmbaa
open Go.RowKit
theorem infoR : ∃ i, Try.prog.info? 58 = some i ∧ i.zero = some (.agg #[.int .i64 0, .int .i64 0, .slice none 0 0]) ∧ i.size = 3 ∧ i.bytes = 40 := by
  have h : (Try.prog.info? 58).map (fun i => (i.zero, i.size, i.bytes)) = some (some (.agg #[.int .i64 0, .int .i64 0, .slice none 0 0]), 3, 40) := by kernel_rfl
  cases hq : Try.prog.info? 58 with
  | none => rw [hq] at h; cases h
  | some i =>
    rw [hq] at h
    simp only [Option.map_some, Option.some.injEq, Prod.mk.injEq] at h
    exact ⟨i, rfl, h.1, h.2.1, h.2.2⟩
theorem encR_len : ∀ l : List Rw, (l.flatMap encR).length = l.length * 3
  | [] => rfl
  | d :: r => by simp [List.flatMap_cons, encR_len r, encR]; omega
theorem encR_one (l : List Rw) : ∀ u ∈ l.flatMap encR, u.oneCell' = true := fun u hu => by
  obtain ⟨r, _, hr⟩ := List.mem_flatMap.1 hu
  simp only [encR, List.mem_cons, List.not_mem_nil, or_false] at hr
  rcases hr with rfl | rfl | rfl <;> rfl
/-- The rows behind Ask, where the node did not wait yet. -/
def askR (rs : List Rw) (r : Rw) : List Rw := rs.take (plcN rs r.x) ++ [r] ++ rs.drop (plcN rs r.x + cond (plcB rs r.x) 1 0)
theorem askR_cons_here {q r : Rw} {rs : List Rw} (h : q.x = r.x) : askR (q :: rs) r = r :: rs := by simp [askR, plcN, plcB, h]
theorem askR_cons_ahead {q r : Rw} {rs : List Rw} (h : q.x ≠ r.x) (hl : lessB r.x.1 r.x.2 q.x.1 q.x.2 = true) : askR (q :: rs) r = r :: q :: rs := by simp [askR, plcN, plcB, h, hl]
theorem askR_cons_on {q r : Rw} {rs : List Rw} (h : q.x ≠ r.x) (hl : lessB r.x.1 r.x.2 q.x.1 q.x.2 = false) : askR (q :: rs) r = q :: askR rs r := by
  simp only [askR, plcN, plcB, h, hl, if_false, Bool.false_eq_true]
  have e : plcN rs r.x + 1 + cond (plcB rs r.x) 1 0 = (plcN rs r.x + cond (plcB rs r.x) 1 0) + 1 := by omega
  rw [e]; simp
theorem askR_mem (r : Rw) : ∀ (rs : List Rw), UpR rs → ∀ q, q ∈ askR rs r ↔ q = r ∨ (q ∈ rs ∧ q.x ≠ r.x)
  | [], _, q => by simp [askR, plcN, plcB]
  | p :: rs, hu, q => by
    obtain ⟨h1, h2⟩ := List.pairwise_cons.1 hu
    by_cases h : p.x = r.x
    · rw [askR_cons_here h]
      simp only [List.mem_cons]
      refine ⟨fun k => ?_, fun k => ?_⟩
      · rcases k with k | k
        · exact .inl k
        · exact .inr ⟨.inr k, fun e => ltN_irr q.x (by have := h1 q k; rw [h, ← e] at this; exact this)⟩
      · rcases k with k | ⟨k | k, k2⟩
        · exact .inl k
        · subst k; exact absurd h k2
        · exact .inr k
    · cases hl : lessB r.x.1 r.x.2 p.x.1 p.x.2
      · rw [askR_cons_on h hl, List.mem_cons, askR_mem r rs h2 q, List.mem_cons]
        refine ⟨fun k => ?_, fun k => ?_⟩
        · rcases k with k | k | ⟨k, k2⟩
          · subst k; exact .inr ⟨.inl rfl, h⟩
          · exact .inl k
          · exact .inr ⟨.inr k, k2⟩
        · rcases k with k | ⟨k | k, k2⟩
          · exact .inr (.inl k)
          · exact .inl k
          · exact .inr (.inr ⟨k, k2⟩)
      · rw [askR_cons_ahead h hl]
        have hl' := (lessB_iff r.x p.x).1 hl
        simp only [List.mem_cons]
        refine ⟨fun k => ?_, fun k => ?_⟩
        · rcases k with k | k | k
          · exact .inl k
          · subst k; exact .inr ⟨.inl rfl, h⟩
          · exact .inr ⟨.inr k, fun e => ltN_irr r.x (ltN_tr _ _ _ hl' (by have := h1 q k; rwa [e] at this))⟩
        · rcases k with k | ⟨k | k, _⟩
          · exact .inl k
          · exact .inr (.inl k)
          · exact .inr (.inr k)
theorem askR_up (r : Rw) : ∀ (rs : List Rw), UpR rs → UpR (askR rs r)
  | [], _ => by simp [askR, plcN, plcB, UpR]
  | p :: rs, hu => by
    obtain ⟨h1, h2⟩ := List.pairwise_cons.1 hu
    by_cases h : p.x = r.x
    · rw [askR_cons_here h]
      exact List.pairwise_cons.2 ⟨fun q hq => by have := h1 q hq; rwa [h] at this, h2⟩
    · cases hl : lessB r.x.1 r.x.2 p.x.1 p.x.2
      · rw [askR_cons_on h hl]
        have hl' : ¬ ltN r.x p.x := fun c => by rw [(lessB_iff r.x p.x).2 c] at hl; cases hl
        refine List.pairwise_cons.2 ⟨fun q hq => ?_, askR_up r rs h2⟩
        rcases (askR_mem r rs h2 q).1 hq with rfl | ⟨hq, _⟩
        · exact ltN_tri _ _ hl' h
        · exact h1 q hq
      · rw [askR_cons_ahead h hl]
        have hl' := (lessB_iff r.x p.x).1 hl
        refine List.pairwise_cons.2 ⟨fun q hq => ?_, hu⟩
        rcases List.mem_cons.1 hq with rfl | hq
        · exact hl'
        · exact ltN_tr _ _ _ hl' (h1 q hq)
theorem rf_rows {w w4 : World} {G : Nat → Prop} {rt : Nat} {rs rs' : List Rw} {ws : List Nm} {a : Option Addr} {c : Nat} (h : RfAt w G rt rs ws) (hb : Below w.heap.size w w4) (hR : Rs w4 a rs'.length rs') (hc : rs'.length ≤ c ∧ ((a = none ∧ c = 0) ∨ ∃ b o, a = some ⟨b, o, none⟩)) (ha : ∀ g, blk a = some g → w.heap.size ≤ g ∧ g < w4.heap.size)
    (hl : ∀ r ∈ rs', r ∈ rs ∨ (In w4 r.s.a r.s.n r.l ∧ ∀ g, blk r.s.a = some g → w.heap.size ≤ g ∧ g < w4.heap.size)) :
    RfAt (w4.setCell ⟨rt, 0, none⟩ (.slice a rs'.length c)) (Gn w G (w4.setCell ⟨rt, 0, none⟩ (.slice a rs'.length c))) rt rs' ws ∧ w.grownBy (w4.setCell ⟨rt, 0, none⟩ (.slice a rs'.length c)) (some rt) := by
  have h4 := h.below hb
  obtain ⟨ra, rc, wa, wc, h1, _, h3, _, k5, _⟩ := h4.ex
  have hs : (w4.setCell ⟨rt, 0, none⟩ (.slice a rs'.length c)).heap.size = w4.heap.size := by simp
  have ho : ∀ g, g ≠ rt → (w4.setCell ⟨rt, 0, none⟩ (.slice a rs'.length c)).heap[g]? = w4.heap[g]? := fun g hg => heap_setCell_other _ _ _ _ hg
  have hGr : ∀ g, G g → g ≠ rt := fun g hg e => h.grt (e ▸ hg)
  have hnr : ∀ g, w.heap.size ≤ g → g ≠ rt := fun g hg e => by have := h.rlt; omega
  have e1 := heap_setCell_same w4 rt 0 _ 50 (.slice a rs'.length c) h1
  refine ⟨⟨⟨a, c, wa, wc, e1, hR.keeps fun g e => ho g (hnr g (ha g e).1), h3.keeps fun g e => ho g (hGr g (k5 g e)), fun g e => .inr ⟨(ha g e).1, by rw [hs]; exact (ha g e).2⟩, fun g e => .inl (k5 g e), hc⟩, fun r hr => ?_, ?_, by rw [hs]; exact h4.rlt, ?_⟩, ?_⟩
  · rcases hl r hr with hr | ⟨k1, k2⟩
    · exact ⟨(h4.lst r hr).1.keeps fun g e => ho g (hGr g ((h4.lst r hr).2 g e)), fun g e => .inl ((h4.lst r hr).2 g e)⟩
    · exact ⟨k1.keeps fun g e => ho g (hnr g (k2 g e).1), fun g e => .inr ⟨(k2 g e).1, by rw [hs]; exact (k2 g e).2⟩⟩
  · rintro (c | ⟨c, _⟩)
    · exact h.grt c
    · exact hnr rt c rfl
  · rintro g (c | ⟨_, c⟩)
    · rw [hs]; exact h4.lt g c
    · exact c
  · exact ⟨hb.os, hb.tape, hb.output, by rw [hs]; exact hb.size, fun k hk hr => (ho k fun e => hr (by rw [e])).trans (hb.block k hk)⟩
end Go.Proofs.Ytdonclnjgopmbaa
