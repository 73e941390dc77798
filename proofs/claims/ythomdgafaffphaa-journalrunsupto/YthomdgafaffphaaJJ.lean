/- Contracts of Payloads, Bytes, Len and Fork. -/
import Derived.Test.YthomdgafaffphaaJI
namespace Go.Proofs.Ythomdgafaffphaa
open Go.RowKit
theorem By.head {w : World} {a : Option Addr} {n c : Nat} {xs : List Int} (h : By w a n c xs) {k : Nat} (hk : k ≤ n) : By w a k k (xs.take k) := by
  have hl := h.len
  have hc := h.cap
  refine ⟨by rw [List.length_take]; omega, Nat.le_refl _, fun ha => by have := h.nil ha; omega, fun x hx => h.rng x (List.mem_of_mem_take hx), ?_⟩
  rcases h.mem with e | ⟨b, o, rfl, hlt, hr⟩
  · exact .inl (by omega)
  · refine .inr ⟨b, o, rfl, hlt, fun j u hu => hr j u ?_⟩
    rw [u8s, List.getElem?_map, List.getElem?_take] at hu
    split at hu
    · rw [u8s, List.getElem?_map]; exact hu
    · cases hu
set_option maxRecDepth 100000 in
theorem j30_nil (w : World) : Calls Try.prog 30 #[.pointer none] w fun e w' => e = .returned (.slice none 0 0) ∧ w' = w := by
  go_enter Try.func30, Try.ntmps30
  go_wp2_with fail
  go_ret
  exact ⟨rfl, rfl⟩
set_option maxRecDepth 100000 in
theorem j28_nil (w : World) : Calls Try.prog 28 #[.pointer none] w fun e w' => e = .returned (.slice none 0 0) ∧ w' = w := by
  go_enter Try.func28, Try.ntmps28
  go_wp2_with fail
  go_ret
  exact ⟨rfl, rfl⟩
set_option maxRecDepth 100000 in
theorem j35_nil (w : World) : Calls Try.prog 35 #[.pointer none] w fun e w' => e = .returned (.tuple #[.int .i64 0, .int .i64 0]) ∧ w' = w := by
  go_enter Try.func35, Try.ntmps35
  go_wp2_with fail
  go_ret2
  exact ⟨rfl, rfl⟩
set_option maxRecDepth 100000 in
theorem j26_nil (w : World) : Calls Try.prog 26 #[.pointer none] w fun e w' => e = .returned (.pointer none) ∧ w' = w := by
  go_enter Try.func26, Try.ntmps26
  go_wp2_with fail
  go_ret
  exact ⟨rfl, rfl⟩
theorem told_from {w w2 w3 : World} {a : Option Addr} {n c : Nat} {ps : List (List Int)} (hb : Below w.heap.size w w2) (h : Told w2 a n c ps w3) : Told w a n c ps w3 := by
  obtain ⟨l, h1, h2, h3, h4⟩ := h
  exact ⟨l, h1, h2.base hb.size, h3.base hb.size, hb.trans (h4.mono hb.size)⟩
set_option maxRecDepth 100000 in
set_option maxHeartbeats 1000000 in
theorem j30 (lb B : Nat) (s : Sl) (xs : List Int) (w : World) (h : LogAt w lb B s xs) (hn : s.n ≤ 1000000000) :
    Calls Try.prog 30 #[.pointer (some ⟨lb, 0, none⟩)] w fun e w' => ∃ ra rc, e = .returned (.slice ra (recs 0 xs).length rc) ∧ Told w ra (recs 0 xs).length rc ((recs 0 xs).map (·.2)) w' := by
  have H54 := j54 lb B s xs w h (by omega)
  have hle := last_le xs
  rw [h.len] at hle
  have H12 : Hid (∀ d, Calls Try.prog 12 #[.slice s.a (lastE (recs 0 xs)) (lastE (recs 0 xs))] (w.drewN d) fun e w' => ∃ ra rc le te, e = .returned (.tuple #[.slice ra (recs 0 xs).length rc, .int .i64 le, .int .i64 te]) ∧ Hid (Told w ra (recs 0 xs).length rc ((recs 0 xs).map (·.2)) w')) := fun d => by
    have := j12 s.a (lastE (recs 0 xs)) (lastE (recs 0 xs)) (xs.take (lastE (recs 0 xs))) (w.drewN d) ((h.by.head hle).below (below_dN (Below.refl _ _) _)) (by omega)
    rw [recs_take h.rng] at this
    refine this.mono ?_
    rintro e w' ⟨ra, rc, rfl, ht⟩
    exact ⟨ra, rc, _, _, rfl, told_from (below_dN (Below.refl _ _) _) ht⟩
  clear h hle
  generalize lastE (recs 0 xs) = le at *
  go_enter Try.func30, Try.ntmps30
  go_wp2_with fail
  refine H54.mono ?_
  rintro e w1 ⟨rfl, d, rfl⟩
  go_wp2_with fail
  refine (H12.out d).mono ?_
  rintro e w2 ⟨ra, rc, le2, te, rfl, ht⟩
  go_wp2_with fail
  go_ret
  exact ⟨_, _, rfl, ht.out⟩
set_option maxRecDepth 100000 in
set_option maxHeartbeats 1000000 in
theorem j28 (lb B : Nat) (s : Sl) (xs : List Int) (w : World) (h : LogAt w lb B s xs) (hn : s.n ≤ 140737488355328) :
    Calls Try.prog 28 #[.pointer (some ⟨lb, 0, none⟩)] w fun e w' => ∃ a' c', e = .returned (.slice a' s.n c') ∧ Fresh w a' s.n c' xs w' := by
  have H40 := j40 s.a s.n s.c xs w h.by hn
  have c0 := h.cells.1
  clear h
  obtain ⟨sa, sn, sc⟩ := s
  simp only at *
  go_enter Try.func28, Try.ntmps28
  go_wp2_with fail
  refine H40.mono ?_
  rintro e w2 ⟨ra, rc, rfl, ht⟩
  have HT : Hid (Fresh w ra sn rc xs w2) := ht
  clear ht
  go_wp2_with fail
  go_ret
  exact ⟨_, _, rfl, HT.out⟩
set_option maxRecDepth 100000 in
set_option maxHeartbeats 1000000 in
theorem j35 (lb B : Nat) (s : Sl) (xs : List Int) (w : World) (h : LogAt w lb B s xs) :
    Calls Try.prog 35 #[.pointer (some ⟨lb, 0, none⟩)] w fun e w' => e = .returned (.tuple #[.int .i64 (recs 0 xs).length, .int .i64 s.n]) ∧ ∃ d, w' = w.drewN d := by
  obtain ⟨c0, c1, _⟩ := h.cells
  generalize (recs 0 xs).length = ct at *
  obtain ⟨sa, sn, sc⟩ := s
  simp only at *
  clear h
  go_enter Try.func35, Try.ntmps35
  go_wp2_with fail
  go_quiet (fail)
  go_wp2_with fail
  go_ret2
  exact ⟨rfl, _, rfl⟩
set_option maxRecDepth 100000 in
set_option maxHeartbeats 1000000 in
theorem j50 (lb B : Nat) (s : Sl) (xs : List Int) (w : World) (h : LogAt w lb B s xs) (hn : s.n ≤ 140737488355328) :
    Calls Try.prog 50 #[.pointer (some ⟨lb, 0, none⟩)] w fun e w' => ∃ a' c', e = .returned (.agg #[.slice a' s.n c', .int .i64 (recs 0 xs).length, .int .i64 (lastE (recs 0 xs))]) ∧ Fresh w a' s.n c' xs w' := by
  obtain ⟨c0, c1, c2, _⟩ := h.cells
  have hlt := h.lt
  have HH : Hid (LogAt w lb B s xs) := h
  have a0 : ∀ o : Obj, (w.alloc o).cell? ⟨lb, 0, none⟩ = some (.slice s.a s.n s.c) := fun o => (World.cell?_of_block (a := ⟨lb, 0, none⟩) (heap_alloc_old w o hlt)).trans c0
  have a1 : ∀ o : Obj, (w.alloc o).cell? ⟨lb, 1, none⟩ = some (.int .i64 (recs 0 xs).length) := fun o => (World.cell?_of_block (a := ⟨lb, 1, none⟩) (heap_alloc_old w o hlt)).trans c1
  have a2 : ∀ o : Obj, (w.alloc o).cell? ⟨lb, 2, none⟩ = some (.int .i64 (lastE (recs 0 xs))) := fun o => (World.cell?_of_block (a := ⟨lb, 2, none⟩) (heap_alloc_old w o hlt)).trans c2
  have HRC : Hid (True) := trivial
  obtain ⟨ct, hct⟩ : ∃ ct : Int, ((recs 0 xs).length : Int) = ct := ⟨_, rfl⟩
  obtain ⟨le, hle⟩ : ∃ le : Int, (lastE (recs 0 xs) : Int) = le := ⟨_, rfl⟩
  rw [hct] at a1 ⊢
  rw [hle] at a2 ⊢
  obtain ⟨sa, sn, sc⟩ := s
  simp only at *
  clear h c0 c1 c2 hct hle
  obtain ⟨W, hW⟩ : ∃ W, W = (w.alloc (.cells #[.slice none 0 0, .int .i64 0, .int .i64 0] 81)).alloc (.cells #[.slice sa sn sc, .int .i64 ct, .int .i64 le] 81) := ⟨_, rfl⟩
  have hb0 : Below w.heap.size w W := by rw [hW]; exact ((Below.refl _ w).alloc (Nat.le_refl _) _).alloc (by simp) _
  have h40 := j40 sa sn sc xs W (HH.out.by.below hb0) hn
  have hz : W.heap.size = w.heap.size + 2 := by rw [hW]; simp
  have hA : W.heap[w.heap.size]? = some (.cells #[.slice none 0 0, .int .i64 0, .int .i64 0] 81 (0, 0)) := by
    rw [hW, heap_alloc_old _ _ (by simp)]; exact heap_alloc_new w _
  have hC : W.heap[w.heap.size + 1]? = some (.cells #[.slice sa sn sc, .int .i64 ct, .int .i64 le] 81 (0, 0)) := by
    have := heap_alloc_new (w.alloc (.cells #[.slice none 0 0, .int .i64 0, .int .i64 0] 81)) (.cells #[.slice sa sn sc, .int .i64 ct, .int .i64 le] 81)
    rw [hW]; simpa using this
  have HA : Hid (W.heap[w.heap.size]? = some (.cells #[.slice none 0 0, .int .i64 0, .int .i64 0] 81 (0, 0))) := hA
  have HC : Hid (W.heap[w.heap.size + 1]? = some (.cells #[.slice sa sn sc, .int .i64 ct, .int .i64 le] 81 (0, 0))) := hC
  have HZ : Hid (W.heap.size = w.heap.size + 2 ∧ Below w.heap.size w W) := ⟨hz, hb0⟩
  clear hz hA hC hb0
  go_enter Try.func50, Try.ntmps50
  go_wp2_with fail
  rw [hW] at h40
  refine h40.mono ?_
  rw [← hW]
  rintro e w1 ⟨a, c, rfl, ho, hb1⟩
  have hA1 : w1.heap[w.heap.size]? = some (.cells #[.slice none 0 0, .int .i64 0, .int .i64 0] 81 (0, 0)) := (hb1.block _ (by rw [HZ.out.1]; omega)).trans HA.out
  have hC1 : w1.heap[w.heap.size + 1]? = some (.cells #[.slice sa sn sc, .int .i64 ct, .int .i64 le] 81 (0, 0)) := (hb1.block _ (by rw [HZ.out.1]; omega)).trans HC.out
  obtain ⟨A, hAn⟩ : ∃ A, A = w.heap.size := ⟨_, rfl⟩
  rw [← hAn] at hA1 hC1
  have p0 : w1.cell? ⟨A, 0, none⟩ = some (.slice none 0 0) := by rw [cell_of_row w1 A 0 _ 81 (0, 0) hA1]; rfl
  have p1 : w1.cell? ⟨A, 1, none⟩ = some (.int .i64 0) := by rw [cell_of_row w1 A 1 _ 81 (0, 0) hA1]; rfl
  have p2 : w1.cell? ⟨A, 2, none⟩ = some (.int .i64 0) := by rw [cell_of_row w1 A 2 _ 81 (0, 0) hA1]; rfl
  have f0 : w1.frozen? ⟨A, 0, none⟩ = false := frozen_of_row w1 A 0 _ 81 hA1
  have f1 : w1.frozen? ⟨A, 1, none⟩ = false := frozen_of_row w1 A 1 _ 81 hA1
  have f2 : w1.frozen? ⟨A, 2, none⟩ = false := frozen_of_row w1 A 2 _ 81 hA1
  have c0 : w1.cell? ⟨A + 1, 0, none⟩ = some (.slice sa sn sc) := by rw [cell_of_row w1 (A + 1) 0 _ 81 (0, 0) hC1]; rfl
  have c1 : w1.cell? ⟨A + 1, 1, none⟩ = some (.int .i64 ct) := by rw [cell_of_row w1 (A + 1) 1 _ 81 (0, 0) hC1]; rfl
  have c2 : w1.cell? ⟨A + 1, 2, none⟩ = some (.int .i64 le) := by rw [cell_of_row w1 (A + 1) 2 _ 81 (0, 0) hC1]; rfl
  have g0 : w1.frozen? ⟨A + 1, 0, none⟩ = false := frozen_of_row w1 (A + 1) 0 _ 81 hC1
  rw [← hAn] at HZ
  have HO : Hid (Row w1 W.heap.size 5 a sn c (u8s xs) ∧ Below W.heap.size W w1) := ⟨ho, hb1⟩
  clear hA1 hC1 HA HC h40 ho hb1 a0 a1 a2
  subst hAn
  go_wp2_with fail
  have hz := HZ.out.1
  have hne : ∀ k, k < W.heap.size → blk a ≠ some k := fun k hk e => by have := (HO.out.1.lt e).1; omega
  refine bodyPost_ret (v := .agg #[.slice a sn c, .int .i64 ct, .int .i64 le]) (by simp [results, Try.results50, go_sem, p0, p1, p2]) rfl ⟨a, c, rfl, ?_, ?_⟩
  · refine Row.base (B := W.heap.size) ?_ (by omega)
    have h1 : blk a ≠ some w.heap.size := hne _ (by omega)
    have h2 : blk a ≠ some (w.heap.size + 1) := hne _ (by omega)
    exact (((HO.out.1.other _ h2).other _ h1).other _ h1).other _ h1
  · have hb : Below w.heap.size w w1 := HZ.out.2.trans (HO.out.2.mono (by omega))
    have h1 : w.heap.size ≤ w.heap.size := Nat.le_refl _
    have h2 : w.heap.size ≤ w.heap.size + 1 := by omega
    exact (((hb.setCell h2 _).setCell h1 _).setCell h1 _).setCell h1 _
set_option maxRecDepth 100000 in
set_option maxHeartbeats 1000000 in
theorem j26 (lb B : Nat) (s : Sl) (xs : List Int) (w : World) (h : LogAt w lb B s xs) (hn : s.n ≤ 140737488355328) :
    Calls Try.prog 26 #[.pointer (some ⟨lb, 0, none⟩)] w fun e w' => ∃ lb' s', e = .returned (.pointer (some ⟨lb', 0, none⟩)) ∧ w.heap.size ≤ lb' ∧ LogAt w' lb' w.heap.size s' xs ∧ Below w.heap.size w w' := by
  have H50 := j50 lb B s xs w h hn
  have HR : Hid (∀ x ∈ xs, Byte x) := h.rng
  clear h
  go_enter Try.func26, Try.ntmps26
  go_wp2_with fail
  refine H50.mono ?_
  rintro e w1 ⟨a, c, rfl, hf⟩
  have HF : Hid (Fresh w a s.n c xs w1) := hf
  clear hf H50
  go_wp2_with fail
  go_ret
  refine ⟨w1.heap.size, ⟨a, s.n, c⟩, rfl, HF.out.2.size, ⟨heap_alloc_new w1 _, HF.out.1.alloc _, HR.out⟩, HF.out.2.alloc HF.out.2.size _⟩
end Go.Proofs.Ythomdgafaffphaa
