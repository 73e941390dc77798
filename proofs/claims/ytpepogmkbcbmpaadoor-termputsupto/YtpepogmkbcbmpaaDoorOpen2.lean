/- What is known besides of arguments that are handed in: their names fit, how many there are. -/
import Derived.Test.YtpepogmkbcbmpaaDoorOpen
import Derived.Test.YtpepogmkbcbmpaaDoorV5
namespace Go.Proofs.YtpepogmkbcbmpaaDoor
open Go.ChangeShapes Go.WideShapes Go.ChangeAt Go.RowKit Go.Joins Go.Deep Go.Proofs.YtpepogmkbcbmpaaDoor.Laid
section
variable {H : Type} {enc : TypeId × Value → H} {w : World} {base : Nat} {sp : Nat → Bool} {held : Bool}
theorem open_cellW {fuel : Nat} {cs : List Value} {x : DataW H × List MemPlace} (h : DataW.trod enc Tryd.prog w base sp held fuel 60 cs = some x) : ∃ c : C, cs = c.vals ∧ wfN (c.vn, c.vk) := by
  cases fuel with
  | zero => simp [DataW.trod] at h
  | succ fuel =>
    simp only [DataW.trod, Tryd.underlying60, cells60] at h
    split at h
    · rename_i hl
      obtain ⟨a, b, c, d, e, rfl⟩ := list5 hl
      obtain ⟨xs, hm, _⟩ := Option.map_eq_some_iff.1 h
      have f0 := Lib.mapM_at hm 0 _ rfl
      have f1 := Lib.mapM_at hm 1 _ rfl
      have f2 := Lib.mapM_at hm 2 _ rfl
      have f3 := Lib.mapM_at hm 3 _ rfl
      obtain ⟨y0, _, g0⟩ := f0
      obtain ⟨y1, _, g1⟩ := f1
      obtain ⟨y2, _, g2⟩ := f2
      obtain ⟨y3, _, g3⟩ := f3
      simp only [cells58, cells9, cells3, cells23', List.drop_zero, List.drop_succ_cons, List.take_succ_cons, List.take_zero] at g0 g1 g2 g3
      obtain ⟨k, e0, _, _⟩ := DataW.trod_int Tryd.underlying58 g0
      obtain ⟨t, e1, _, ht⟩ := DataW.trod_string Tryd.underlying9 g1
      obtain ⟨n, e2, _, _⟩ := DataW.trod_int Tryd.underlying3 g2
      obtain ⟨z0, z1, n3, _, _, h30, h31⟩ := trod_struct2 Tryd.underlying23 g3
      simp only [cells3, List.drop_zero, List.drop_succ_cons, List.take_succ_cons, List.take_zero] at h30 h31
      obtain ⟨vn, e3, _, w3⟩ := DataW.trod_int Tryd.underlying3 h30
      obtain ⟨vk, e4, _, w4⟩ := DataW.trod_int Tryd.underlying3 h31
      simp only [List.cons.injEq, and_true] at e0 e1 e2 e3 e4
      subst e0 e1 e2 e3 e4
      exact ⟨⟨k, t, n, vn, vk⟩, rfl, w3, w4⟩
    · cases h
theorem term_wf {fuel : Nat} {v : Value} {x : DataW H × List MemPlace} {l : List C} (h : DataW.trod enc Tryd.prog w base (fun _ => true) held fuel 29 [v] = some x) (hT : TermAt w v l) : ∀ c ∈ l, wfN (c.vn, c.vk) := by
  obtain ⟨_, hT⟩ := hT
  rcases hT with ⟨rfl, _⟩ | ⟨b, o, cp, hf, _, _, hr, hb⟩
  · simp
  rcases open_slice Tryd.underlying29 h with ⟨hcs, hx⟩ | ⟨a, len, cap, m, n, D, Pl, hcs, _, hl, hmx, hm, hx, hel⟩
  · simp only [List.cons.injEq, and_true] at hcs
    rw [hf] at hcs
    cases hcs
  · simp only [List.cons.injEq, and_true] at hcs
    rw [hf] at hcs
    simp only [Value.slice.injEq, Option.some.injEq] at hcs
    obtain ⟨rfl, rfl, rfl⟩ := hcs
    simp only [if_true] at hm
    subst hm
    rw [cells60] at hel
    intro c hc
    obtain ⟨i, hi, rfl⟩ := List.getElem_of_mem hc
    obtain ⟨cs, h1, h2⟩ := hel i (by omega)
    obtain ⟨c', rfl, hw⟩ := open_cellW h2
    have h3 := (World.cells?_some h1).2.2
    obtain ⟨_, _, _, p3, p4⟩ := term_cells hr i hi
    have q3 := h3 3 (by omega)
    have q4 := h3 4 (by omega)
    rw [Addr.add_mid, Addr.add_mid] at q3 q4
    rw [p3] at q3
    rw [p4] at q4
    simp [C.vals] at q3 q4
    rw [q3, q4]; exact hw
theorem row_wf {fuel : Nat} {v : Value} {x : DataW H × List MemPlace} {ls : List (List C)} (h : DataW.trod enc Tryd.prog w base (fun _ => true) held fuel 24 [v] = some x) (hR : RowAt w v ls) : ∀ l ∈ ls, ∀ c ∈ l, wfN (c.vn, c.vk) := by
  obtain ⟨_, hR⟩ := hR
  rcases hR with ⟨rfl, _⟩ | ⟨b, o, cp, vs, hf, _, _, hb, hvl, hr, ht⟩
  · simp
  rcases open_slice1 Tryd.underlying24 cells29 h with ⟨hcs, hx⟩ | ⟨a, len, cap, m, n, V, D, Pl, hcs, _, hl, hmx, hm, hx, hel⟩
  · simp only [List.cons.injEq, and_true] at hcs
    rw [hf] at hcs
    cases hcs
  · simp only [List.cons.injEq, and_true] at hcs
    rw [hf] at hcs
    simp only [Value.slice.injEq, Option.some.injEq] at hcs
    obtain ⟨rfl, rfl, rfl⟩ := hcs
    simp only [if_true] at hm
    subst hm
    intro l hl'
    obtain ⟨i, hi, rfl⟩ := List.getElem_of_mem hl'
    obtain ⟨h1, h2⟩ := hel i (by omega)
    have p0 := row_cell hr i (by omega)
    rw [Addr.add_mid] at h1
    rw [p0] at h1
    simp at h1
    rw [← h1] at h2
    exact term_wf h2 (ht i _ _ (List.getElem?_eq_getElem (by omega)) (List.getElem?_eq_getElem hi))
theorem bulk_pos {H : Type} (d : DataW H) : 1 ≤ Rows.uptoBulk d := by
  cases d with
  | lit x => cases x <;> simp [Rows.uptoBulk]
  | _ => simp [Rows.uptoBulk]
theorem bulkAll_len {H : Type} : ∀ ds : List (DataW H), ds.length ≤ Rows.uptoBulkAll ds
  | [] => by simp
  | d :: r => by
    have h1 := bulk_pos d
    have h2 := bulkAll_len r
    simp only [Rows.uptoBulkAll, List.length_cons]
    omega
theorem bulkAll_append {H : Type} (a b : List (DataW H)) : Rows.uptoBulkAll (a ++ b) = Rows.uptoBulkAll a + Rows.uptoBulkAll b := by
  induction a with
  | nil => simp [Rows.uptoBulkAll]
  | cons x r ih => simp only [List.cons_append, Rows.uptoBulkAll]; omega
theorem term_bulk {fuel : Nat} {v : Value} {x : DataW H × List MemPlace} {l : List C}
    (h : DataW.trod enc Tryd.prog w base (fun _ => true) held fuel 29 [v] = some x) (hT : TermAt w v l) : l.length ≤ Rows.uptoBulk x.1 := by
  obtain ⟨ad, cp, hf⟩ := hT.form
  rcases open_slice Tryd.underlying29 h with ⟨hcs, hx⟩ | ⟨a, len, cap, m, n, D, Pl, hcs, _, hl, hmx, hm, hx, hel⟩
  · simp only [List.cons.injEq, and_true] at hcs
    rw [hf] at hcs
    simp at hcs
    obtain ⟨_, h0, _⟩ := hcs
    subst h0
    simp
  · simp only [List.cons.injEq, and_true] at hcs
    rw [hf] at hcs
    simp at hcs
    rw [hx]
    simp only [Rows.uptoBulk]
    have := bulkAll_len ((List.range len).map D)
    simp only [List.length_map, List.length_range] at this
    omega
theorem tot_bulk : ∀ (ls : List (List C)) (D : Nat → DataW H), (∀ i (hi : i < ls.length), ls[i].length ≤ Rows.uptoBulk (D i)) → tot ls ≤ Rows.uptoBulkAll ((List.range ls.length).map D)
  | [], _, _ => by simp [tot]
  | a :: r, D, h => by
    have h1 := h 0 (by simp)
    have h2 := tot_bulk r (fun i => D (i + 1)) (fun i hi => by have := h (i + 1) (by simpa using hi); simpa using this)
    rw [List.length_cons, List.range_succ_eq_map, List.map_cons, List.map_map]
    simp only [Rows.uptoBulkAll, tot, List.map_cons, List.sum_cons] at *
    have e : List.map (D ∘ Nat.succ) (List.range r.length) = List.map (fun i => D (i + 1)) (List.range r.length) := rfl
    rw [e]
    simp at h1
    omega
theorem row_bulk {fuel : Nat} {v : Value} {x : DataW H × List MemPlace} {ls : List (List C)}
    (h : DataW.trod enc Tryd.prog w base (fun _ => true) held fuel 24 [v] = some x) (hR : RowAt w v ls) : tot ls ≤ Rows.uptoBulk x.1 ∧ ls.length ≤ Rows.uptoBulk x.1 := by
  obtain ⟨_, hR⟩ := hR
  rcases hR with ⟨rfl, _⟩ | ⟨b, o, cp, vs, hf, _, _, hb, hvl, hr, ht⟩
  · simp [tot]
  rcases open_slice1 Tryd.underlying24 cells29 h with ⟨hcs, hx⟩ | ⟨a, len, cap, m, n, V, D, Pl, hcs, _, hl, hmx, hm, hx, hel⟩
  · simp only [List.cons.injEq, and_true] at hcs
    rw [hf] at hcs
    cases hcs
  · simp only [List.cons.injEq, and_true] at hcs
    rw [hf] at hcs
    simp only [Value.slice.injEq, Option.some.injEq] at hcs
    obtain ⟨rfl, rfl, rfl⟩ := hcs
    simp only [if_true] at hm
    subst hm
    rw [hx]
    simp only [Rows.uptoBulk]
    have h3 := tot_bulk ls D (fun i hi => by
      obtain ⟨h1, h2⟩ := hel i (by omega)
      have p0 := row_cell hr i (by omega)
      rw [Addr.add_mid] at h1
      rw [p0] at h1
      simp at h1
      rw [← h1] at h2
      exact term_bulk h2 (ht i _ _ (List.getElem?_eq_getElem (by omega)) (List.getElem?_eq_getElem hi)))
    have h4 := bulkAll_len ((List.range ls.length).map D)
    simp only [List.length_map, List.length_range] at h4
    omega
end
theorem vars_tot (ls : List (List C)) : (varsAll ls).length ≤ tot ls := by
  induction ls with
  | nil => simp [varsAll, tot]
  | cons a r ih =>
    have h1 : (varsOf a).length ≤ a.length := by unfold varsOf; rw [List.length_map]; exact List.length_filter_le _ _
    simp [varsAll, tot] at *; omega
theorem mem_tot (ls : List (List C)) (x : List C) (h : x ∈ ls) : x.length ≤ tot ls := by
  induction ls with
  | nil => simp at h
  | cons a r ih =>
    rcases List.mem_cons.1 h with rfl | h
    · simp [tot]
    · have := ih h
      simp [tot] at *; omega
theorem vars_wf {ls : List (List C)} (h : ∀ l ∈ ls, ∀ c ∈ l, wfN (c.vn, c.vk)) : ∀ x ∈ varsAll ls, wfN x := by
  intro x hx
  unfold varsAll at hx
  obtain ⟨l, hl, hx⟩ := List.mem_flatMap.1 hx
  unfold varsOf at hx
  obtain ⟨c, hc, rfl⟩ := List.mem_map.1 hx
  exact h l hl c (List.mem_filter.1 hc).1
end Go.Proofs.YtpepogmkbcbmpaaDoor
