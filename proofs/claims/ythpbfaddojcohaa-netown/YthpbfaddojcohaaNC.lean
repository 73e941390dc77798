/- Contract of put: a datagram more in a network's row. -/
import Derived.Test.YthpbfaddojcohaaNB
namespace Go.Proofs.Ythpbfaddojcohaa
open Go.RowKit
attribute [local go_sem ↓] Go.wp_at_zero Go.wp_at_succ
/-- All blocks but the network's and its row's stay. -/
structure KeepN (nb : Nat) (v : Value) (w w' : World) : Prop where
  os : w'.os = w.os
  tape : w'.tape = w.tape
  output : w'.output = w.output
  size : w.heap.size ≤ w'.heap.size
  block : ∀ k, k < w.heap.size → k ≠ nb → v.ownBlock ≠ some k → w'.heap[k]? = w.heap[k]?
def PutPost (nb B : Nat) (v : Value) (N : Nt) (w w' : World) : Prop :=
  ∃ v', NtAt w' nb B v' N ∧ KeepN nb v w w' ∧ ∀ g, v'.ownBlock = some g → v.ownBlock = some g ∨ w.heap.size ≤ g
theorem info46 : ∃ i, Try.prog.info? 46 = some i ∧ i.zero = some (.agg #[.int .i64 0, .int .i64 0, .bool false, .int .i64 0, .slice none 0 0]) ∧ i.size = 5 ∧ i.bytes = 56 := by
  have h : (Try.prog.info? 46).map (fun i => (i.zero, i.size, i.bytes)) = some (some (.agg #[.int .i64 0, .int .i64 0, .bool false, .int .i64 0, .slice none 0 0]), 5, 56) := by kernel_rfl
  cases hq : Try.prog.info? 46 with
  | none => rw [hq] at h; cases h
  | some i =>
    rw [hq] at h
    simp only [Option.map_some, Option.some.injEq, Prod.mk.injEq] at h
    exact ⟨i, rfl, h.1, h.2.1, h.2.2⟩
theorem row_not_net {w : World} {base nb n : Nat} {v : Value} {xs : List Value} {cs : Array Value} (h : w.ownsRow base 46 5 v n xs) (hR : w.heap[nb]? = some (.cells cs 77 (0, 0))) : v.ownBlock ≠ some nb := by
  rcases h.2 with ⟨rfl, _⟩ | ⟨g, cap, cur, rfl, _, hg, _⟩
  · simp [Value.ownBlock]
  · intro e1
    simp [Value.ownBlock] at e1
    subst e1
    rw [hR] at hg; cases hg
theorem owns_lt {w : World} {B : Nat} {e : TypeId} {s n : Nat} {v : Value} {xs : List Value} (h : w.ownsRow B e s v n xs) {g : Nat} (hg : v.ownBlock = some g) : B ≤ g ∧ g < w.heap.size := h.lt g hg
theorem put_post {w w3 w4 : World} {nb B g cap : Nat} {v : Value} {N : Nt} {d : Dg} (h : NtAt w nb B v N) (hb3 : Below w.heap.size w w3) (hg : w3.grownBy w4 v.ownBlock)
    (ho : w4.ownsRow B 46 5 (.slice (some ⟨g, 0, none⟩) (N.l.length + 1) cap) (N.l.length + 1) (flatD N.l ++ d.vals)) (hat : v.ownBlock = some g ∨ g = w3.heap.size) :
    PutPost nb B v { N with l := N.l ++ [d] } w (w4.setCell ⟨nb, 0, none⟩ (.slice (some ⟨g, 0, none⟩) (N.l.length + 1) cap)) := by
  have h3 := h.below hb3
  have hne : v.ownBlock ≠ some nb := row_not_net h.own h.blk
  have hb4 : w4.heap[nb]? = some (.cells #[v, .int .i64 N.s, .int .i64 N.d, .int .i64 N.r, .int .i64 N.x, .int .i64 N.n] 77 (0, 0)) := (hg.block nb h3.lt (Ne.symm hne)).trans h3.blk
  have hgn : g ≠ nb := by
    have := row_not_net ho hb4
    simpa [Value.ownBlock] using this
  refine ⟨.slice (some ⟨g, 0, none⟩) (N.l.length + 1) cap, ⟨?_, ?_⟩, ⟨?_, ?_, ?_, ?_, ?_⟩, ?_⟩
  · rw [heap_setCell_same w4 nb 0 _ 77 _ hb4]; rfl
  · rw [List.length_append, flatD_append]
    refine ⟨by simpa [flatD] using ho.1, ?_⟩
    rcases ho.2 with ⟨e, _⟩ | ⟨g', cap', cur, e, h2, h5, h4⟩
    · cases e
    · simp only [Value.slice.injEq, Option.some.injEq, Addr.mk.injEq, and_true, true_and] at e
      obtain ⟨rfl, rfl⟩ := e
      exact .inr ⟨g, cap, cur, rfl, h2, by rw [heap_setCell_other _ _ _ _ hgn]; exact h5, by simpa [flatD] using h4⟩
  · exact hg.os.trans hb3.os
  · exact hg.tape.trans hb3.tape
  · exact hg.output.trans hb3.output
  · have := hg.size; have := hb3.size; simp; omega
  · intro k hk h1 h2
    rw [heap_setCell_other _ _ _ _ (by simpa using h1), hg.block k (Nat.lt_of_lt_of_le hk hb3.size) (Ne.symm h2)]
    exact hb3.block k hk
  · intro g' e
    simp only [Value.ownBlock, Option.some.injEq] at e
    subst e
    rcases hat with e | e
    · exact .inl e
    · exact .inr (by have := hb3.size; omega)
set_option maxRecDepth 100000 in
set_option maxHeartbeats 2000000 in
theorem n43 (nb B : Nat) (v : Value) (N : Nt) (d : Dg) (w : World) (h : NtAt w nb B v N) (hB : B ≤ w.heap.size) (hl : (N.l.length + 1) * 56 ≤ 140737488355328) :
    Calls Try.prog 43 #[.pointer (some ⟨nb, 0, none⟩), .agg d.box] w fun e w' => e = .returned (.tuple #[]) ∧ PutPost nb B v { N with l := N.l ++ [d] } w w' := by
  obtain ⟨i0, hi, hz, hs, hby⟩ := info46
  have HH : Hid (NtAt w nb B v N) := h
  have hlt := h.lt
  have hne : v.ownBlock ≠ some nb := row_not_net h.own h.blk
  have hc := h.cells.1
  have hfz := h.frozen 0
  have ho := h.own
  obtain ⟨va, vc, hv⟩ := owns_slice h.own
  subst hv
  obtain ⟨fr, to, ak, sq, ba, bn, bc⟩ := d
  show Calls Try.prog 43 #[.pointer (some ⟨nb, 0, none⟩), .agg #[.int .i64 fr, .int .i64 to, .bool ak, .int .i64 sq, .slice ba bn bc]] w _
  clear h
  have hb1 : Below w.heap.size w (w.alloc (.cells #[.int .i64 fr, .int .i64 to, .bool ak, .int .i64 sq, .slice ba bn bc] 46)) := (Below.refl _ w).alloc (Nat.le_refl _) _
  have hc1 : (w.alloc (.cells #[.int .i64 fr, .int .i64 to, .bool ak, .int .i64 sq, .slice ba bn bc] 46)).cell? ⟨nb, 0, none⟩ = some (.slice va N.l.length vc) := (hb1.cell (p := ⟨nb, 0, none⟩) hlt).trans hc
  have hfz1 : (w.alloc (.cells #[.int .i64 fr, .int .i64 to, .bool ak, .int .i64 sq, .slice ba bn bc] 46)).frozen? ⟨nb, 0, none⟩ = false := (hb1.frozen (p := ⟨nb, 0, none⟩) hlt).trans hfz
  have hD := heap_alloc_new w (.cells #[.int .i64 fr, .int .i64 to, .bool ak, .int .i64 sq, .slice ba bn bc] 46)
  have ho1 := ho.alloc (.cells #[.int .i64 fr, .int .i64 to, .bool ak, .int .i64 sq, .slice ba bn bc] 46)
  have hs1 : (w.alloc (.cells #[.int .i64 fr, .int .i64 to, .bool ak, .int .i64 sq, .slice ba bn bc] 46)).heap.size = w.heap.size + 1 := by simp
  have hvD : (Value.slice va N.l.length vc).ownBlock ≠ some w.heap.size := fun e => by have := (owns_lt ho e).2; omega
  go_enter Try.func43, Try.ntmps43
  go_wp2_with fail
  clear hc hfz ho
  have hD0 : w.heap.size < (w.alloc (.cells #[.int .i64 fr, .int .i64 to, .bool ak, .int .i64 sq, .slice ba bn bc] 46)).heap.size := by omega
  have hnb1 : nb < (w.alloc (.cells #[.int .i64 fr, .int .i64 to, .bool ak, .int .i64 sq, .slice ba bn bc] 46)).heap.size := by omega
  have HS1 : Hid ((w.alloc (.cells #[.int .i64 fr, .int .i64 to, .bool ak, .int .i64 sq, .slice ba bn bc] 46)).heap.size = w.heap.size + 1) := hs1
  generalize w.alloc (.cells #[.int .i64 fr, .int .i64 to, .bool ak, .int .i64 sq, .slice ba bn bc] 46) = W1 at *
  generalize hDn : w.heap.size = D at *
  have cD0 : W1.cell? ⟨D, 0, none⟩ = some (.int .i64 fr) := by rw [cell_of_row W1 D 0 _ 46 (0, 0) hD]; rfl
  have cD1 : W1.cell? ⟨D, 1, none⟩ = some (.int .i64 to) := by rw [cell_of_row W1 D 1 _ 46 (0, 0) hD]; rfl
  have cD2 : W1.cell? ⟨D, 2, none⟩ = some (.bool ak) := by rw [cell_of_row W1 D 2 _ 46 (0, 0) hD]; rfl
  have cD3 : W1.cell? ⟨D, 3, none⟩ = some (.int .i64 sq) := by rw [cell_of_row W1 D 3 _ 46 (0, 0) hD]; rfl
  have cD4 : W1.cell? ⟨D, 4, none⟩ = some (.slice ba bn bc) := by rw [cell_of_row W1 D 4 _ 46 (0, 0) hD]; rfl
  have hnbD : nb ≠ D := by omega
  clear hs1
  have c0a : ∀ ob : Obj, (W1.alloc ob).cell? ⟨nb, 0, none⟩ = some (.slice va N.l.length vc) := fun ob => (World.cell?_of_block (a := ⟨nb, 0, none⟩) (heap_alloc_old W1 ob hnb1)).trans hc1
  have f0a : ∀ ob : Obj, (W1.alloc ob).frozen? ⟨nb, 0, none⟩ = false := fun ob => (World.frozen?_of_block (a := ⟨nb, 0, none⟩) (heap_alloc_old W1 ob hnb1)).trans hfz1
  have hnba : ∀ ob : Obj, nb < (W1.alloc ob).drew.heap.size := fun ob => by
    show nb < (W1.alloc ob).heap.size
    simp; omega
  go_region_law
    ((refine step_append_lies _ (by rfl) _ _ _ (by rfl) B 46 i0 _ 5 56 Try.underlying34 hi hz hs hby rfl (by omega) (.slice va N.l.length vc) N.l.length (flatD N.l) (by rfl) ((ho1.alloc _).drew)
        ⟨W1.heap.size, 0, none⟩ 1 1 [.int .i64 fr, .int .i64 to, .bool ak, .int .i64 sq, .slice ba bn bc] (by rfl) (by rfl) (World.news_of_block (cs := #[.int .i64 fr, .int .i64 to, .bool ak, .int .i64 sq, .slice ba bn bc]) (t := 46) (fr := (0, 0)) (heap_alloc_new W1 _)) (by simp [Value.oneCell'])
        (by omega) (by unfold maxLen; omega) (by omega) (by simp; omega) (W1.heap.size + 1) (by simp) ?_; intro gg cp w4 hown4 hgrow hat hlt4; have dR0 : w4.cell? ⟨nb, 0, none⟩ = some (.slice va N.l.length vc) := (hgrow.cell_far ⟨nb, 0, none⟩ (hnba _) (Ne.symm hne)).trans (c0a _); have dF : w4.frozen? ⟨nb, 0, none⟩ = false := (hgrow.frozen_far ⟨nb, 0, none⟩ (hnba _) (Ne.symm hne)).trans (f0a _)))
  all_goals (
    have HP : Hid (PutPost nb B (.slice va N.l.length vc) { N with l := N.l ++ [⟨fr, to, ak, sq, ba, bn, bc⟩] } w (w4.setCell ⟨nb, 0, none⟩ (.slice (some ⟨gg, 0, none⟩) (N.l.length + 1) cp))) :=
      put_post (w3 := (W1.alloc (.cells #[.int .i64 fr, .int .i64 to, .bool ak, .int .i64 sq, .slice ba bn bc] 46)).drew) HH.out (by subst hDn; exact (hb1.alloc (by omega) _).drew) hgrow hown4 (by simpa using hat)
    clear hown4 hgrow hat hlt4 dR0 dF
    go_wp2_with fail
    go_end0
    exact ⟨rfl, HP.out⟩)
end Go.Proofs.Ythpbfaddojcohaa
