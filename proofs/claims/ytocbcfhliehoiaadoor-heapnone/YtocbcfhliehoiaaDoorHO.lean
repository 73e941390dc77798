/- The names in a term that is handed in are numbers within bounds. -/
import Derived.Test.YtocbcfhliehoiaaDoorOpen
import Derived.Test.YtocbcfhliehoiaaDoorV5
namespace Go.Proofs.YtocbcfhliehoiaaDoor
open Go.ChangeShapes Go.WideShapes Go.ChangeAt Go.RowKit Go.Joins Go.Deep Go.Proofs.YtocbcfhliehoiaaDoor.Laid
section
variable {H : Type} {enc : TypeId × Value → H} {w : World} {base : Nat} {sp : Nat → Bool} {held : Bool}
theorem open_cellW {fuel : Nat} {cs : List Value} {x : DataW H × List MemPlace} (h : DataW.trod enc Tryd.prog w base sp held fuel 54 cs = some x) : ∃ c : C, cs = c.vals ∧ wfN (c.vn, c.vk) := by
  cases fuel with
  | zero => simp [DataW.trod] at h
  | succ fuel =>
    simp only [DataW.trod, Tryd.underlying54, cells60] at h
    split at h
    · rename_i hl
      obtain ⟨a, b, c, d, e, rfl⟩ := list5 hl
      obtain ⟨xs, hm, _⟩ := Option.map_eq_some_iff.1 h
      have f0 := Lib.mapM_at hm 0 _ rfl
      have f1 := Lib.mapM_at hm 1 _ rfl
      have f2 := Lib.mapM_at hm 2 _ rfl
      have f3 := Lib.mapM_at hm 3 _ rfl
      obtain ⟨y0, _, g0⟩ := f0
      obtain ⟨y1, _, g1⟩ := f1
      obtain ⟨y2, _, g2⟩ := f2
      obtain ⟨y3, _, g3⟩ := f3
      simp only [cells58, cells9, cells3, cells23', List.drop_zero, List.drop_succ_cons, List.take_succ_cons, List.take_zero] at g0 g1 g2 g3
      obtain ⟨k, e0, _, _⟩ := DataW.trod_int Tryd.underlying52 g0
      obtain ⟨t, e1, _, ht⟩ := DataW.trod_string Tryd.underlying9 g1
      obtain ⟨n, e2, _, _⟩ := DataW.trod_int Tryd.underlying3 g2
      obtain ⟨z0, z1, n3, _, _, h30, h31⟩ := trod_struct2 Tryd.underlying23 g3
      simp only [cells3, List.drop_zero, List.drop_succ_cons, List.take_succ_cons, List.take_zero] at h30 h31
      obtain ⟨vn, e3, _, w3⟩ := DataW.trod_int Tryd.underlying3 h30
      obtain ⟨vk, e4, _, w4⟩ := DataW.trod_int Tryd.underlying3 h31
      simp only [List.cons.injEq, and_true] at e0 e1 e2 e3 e4
      subst e0 e1 e2 e3 e4
      exact ⟨⟨k, t, n, vn, vk⟩, rfl, w3, w4⟩
    · cases h
theorem term_wf {fuel : Nat} {v : Value} {x : DataW H × List MemPlace} {l : List C} (h : DataW.trod enc Tryd.prog w base (fun _ => true) held fuel 25 [v] = some x) (hT : TermAt w v l) : ∀ c ∈ l, wfN (c.vn, c.vk) := by
  obtain ⟨_, hT⟩ := hT
  rcases hT with ⟨rfl, _⟩ | ⟨b, o, cp, hf, _, _, hr, hb⟩
  · simp
  rcases open_slice Tryd.underlying25 h with ⟨hcs, hx⟩ | ⟨a, len, cap, m, n, D, Pl, hcs, _, hl, hmx, hm, hx, hel⟩
  · simp only [List.cons.injEq, and_true] at hcs
    rw [hf] at hcs
    cases hcs
  · simp only [List.cons.injEq, and_true] at hcs
    rw [hf] at hcs
    simp only [Value.slice.injEq, Option.some.injEq] at hcs
    obtain ⟨rfl, rfl, rfl⟩ := hcs
    simp only [if_true] at hm
    subst hm
    rw [cells60] at hel
    intro c hc
    obtain ⟨i, hi, rfl⟩ := List.getElem_of_mem hc
    obtain ⟨cs, h1, h2⟩ := hel i (by omega)
    obtain ⟨c', rfl, hw⟩ := open_cellW h2
    have h3 := (World.cells?_some h1).2.2
    obtain ⟨_, _, _, p3, p4⟩ := term_cells hr i hi
    have q3 := h3 3 (by omega)
    have q4 := h3 4 (by omega)
    rw [Addr.add_mid, Addr.add_mid] at q3 q4
    rw [p3] at q3
    rw [p4] at q4
    simp [C.vals] at q3 q4
    rw [q3, q4]; exact hw
end
end Go.Proofs.YtocbcfhliehoiaaDoor
