/- Contracts of Payloads, Bytes, Len and Fork. -/
import Derived.Test.YtopljcabcknaeaaJI
namespace Go.Proofs.Ytopljcabcknaeaa
open Go.RowKit
theorem By.head {w : World} {a : Option Addr} {n c : Nat} {xs : List Int} (h : By w a n c xs) {k : Nat} (hk : k ≤ n) : By w a k k (xs.take k) := by
  have hl := h.len
  have hc := h.cap
  refine ⟨by rw [List.length_take]; omega, Nat.le_refl _, fun ha => by have := h.nil ha; omega, fun x hx => h.rng x (List.mem_of_mem_take hx), ?_⟩
  rcases h.mem with e | ⟨b, o, rfl, hlt, hr⟩
  · exact .inl (by omega)
  · refine .inr ⟨b, o, rfl, hlt, fun j u hu => hr j u ?_⟩
    rw [u8s, List.getElem?_map, List.getElem?_take] at hu
    split at hu
    · rw [u8s, List.getElem?_map]; exact hu
    · cases hu
set_option maxRecDepth 100000 in
theorem j30_nil (w : World) : Calls Try.prog 12 #[.pointer none] w fun e w' => e = .returned (.slice none 0 0) ∧ w' = w := by
  go_enter Try.func12, Try.ntmps12
  go_wp2_with fail
  go_ret
  exact ⟨rfl, rfl⟩
set_option maxRecDepth 100000 in
theorem j28_nil (w : World) : Calls Try.prog 8 #[.pointer none] w fun e w' => e = .returned (.slice none 0 0) ∧ w' = w := by
  go_enter Try.func8, Try.ntmps8
  go_wp2_with fail
  go_ret
  exact ⟨rfl, rfl⟩
theorem told_from {w w2 w3 : World} {a : Option Addr} {n c : Nat} {ps : List (List Int)} (hb : Below w.heap.size w w2) (h : Told w2 a n c ps w3) : Told w a n c ps w3 := by
  obtain ⟨l, h1, h2, h3, h4⟩ := h
  exact ⟨l, h1, h2.base hb.size, h3.base hb.size, hb.trans (h4.mono hb.size)⟩
set_option maxRecDepth 100000 in
set_option maxHeartbeats 1000000 in
theorem j30 (lb B : Nat) (s : Sl) (xs : List Int) (w : World) (h : LogAt w lb B s xs) (hn : s.n ≤ 1000000000) :
    Calls Try.prog 12 #[.pointer (some ⟨lb, 0, none⟩)] w fun e w' => ∃ ra rc, e = .returned (.slice ra (recs 0 xs).length rc) ∧ Told w ra (recs 0 xs).length rc ((recs 0 xs).map (·.2)) w' := by
  have H54 := j54 lb B s xs w h (by omega)
  have hle := last_le xs
  rw [h.len] at hle
  have H12 : Hid (∀ d, Calls Try.prog 21 #[.slice s.a (lastE (recs 0 xs)) (lastE (recs 0 xs))] (w.drewN d) fun e w' => ∃ ra rc le te, e = .returned (.tuple #[.slice ra (recs 0 xs).length rc, .int .i64 le, .int .i64 te]) ∧ Hid (Told w ra (recs 0 xs).length rc ((recs 0 xs).map (·.2)) w')) := fun d => by
    have := j12 s.a (lastE (recs 0 xs)) (lastE (recs 0 xs)) (xs.take (lastE (recs 0 xs))) (w.drewN d) ((h.by.head hle).below (below_dN (Below.refl _ _) _)) (by omega)
    rw [recs_take h.rng] at this
    refine this.mono ?_
    rintro e w' ⟨ra, rc, rfl, ht⟩
    exact ⟨ra, rc, _, _, rfl, told_from (below_dN (Below.refl _ _) _) ht⟩
  clear h hle
  generalize lastE (recs 0 xs) = le at *
  go_enter Try.func12, Try.ntmps12
  go_wp2_with fail
  refine H54.mono ?_
  rintro e w1 ⟨rfl, d, rfl⟩
  go_wp2_with fail
  refine (H12.out d).mono ?_
  rintro e w2 ⟨ra, rc, le2, te, rfl, ht⟩
  go_wp2_with fail
  go_ret
  exact ⟨_, _, rfl, ht.out⟩
set_option maxRecDepth 100000 in
set_option maxHeartbeats 1000000 in
theorem j28 (lb B : Nat) (s : Sl) (xs : List Int) (w : World) (h : LogAt w lb B s xs) (hn : s.n ≤ 140737488355328) :
    Calls Try.prog 8 #[.pointer (some ⟨lb, 0, none⟩)] w fun e w' => ∃ a' c', e = .returned (.slice a' s.n c') ∧ Fresh w a' s.n c' xs w' := by
  have H40 := j40 s.a s.n s.c xs w h.by hn
  have c0 := h.cells.1
  clear h
  obtain ⟨sa, sn, sc⟩ := s
  simp only at *
  go_enter Try.func8, Try.ntmps8
  go_wp2_with fail
  refine H40.mono ?_
  rintro e w2 ⟨ra, rc, rfl, ht⟩
  have HT : Hid (Fresh w ra sn rc xs w2) := ht
  clear ht
  go_wp2_with fail
  go_ret
  exact ⟨_, _, rfl, HT.out⟩
end Go.Proofs.Ytopljcabcknaeaa
