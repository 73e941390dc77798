/- Contract of Outbox: how many messages there are. -/
import Derived.Test.YtopljcabcknaeaaLkLD
import Derived.Lib.SliceRun
namespace Go.Proofs.Ytopljcabcknaeaa.Lk
open Go.RowKit
attribute [local go_sem ↓] Go.wp_at_zero Go.wp_at_succ
theorem info36 : ∃ i, Try.prog.info? 32 = some i ∧ i.zero = some (.agg dz) ∧ i.size = 5 ∧ i.bytes = 56 := by
  have h : (Try.prog.info? 32).map (fun i => (i.zero, i.size, i.bytes)) = some (some (.agg dz), 5, 56) := by kernel_rfl
  cases hq : Try.prog.info? 32 with
  | none => rw [hq] at h; cases h
  | some i =>
    rw [hq] at h
    simp only [Option.map_some, Option.some.injEq, Prod.mk.injEq] at h
    exact ⟨i, rfl, h.1, h.2.1, h.2.2⟩
/-- A link that is read: its messages are there. -/
structure LkO (w : World) (lb : Nat) (fi : Int) (s : Sl) (l : List Sl) : Prop where
  blk : LkB w lb fi s
  len : s.n = l.length
  rd : ∀ (k : Nat) (t : Sl), l[k]? = some t → ∃ g o, s.a = some ⟨g, o, none⟩ ∧ g < w.heap.size ∧ w.cell? ⟨g, o + k, none⟩ = some t.v
  bys : ∀ t ∈ l, ∃ xs, By w t.a t.n t.c xs ∧ t.n ≤ 65536
theorem LkO.below {w w' : World} {lb : Nat} {fi : Int} {s : Sl} {l : List Sl} (h : LkO w lb fi s l) (hb : Below w.heap.size w w') : LkO w' lb fi s l :=
  ⟨h.blk.below hb, h.len, fun k t e => by
    obtain ⟨g, o, h1, h2, h3⟩ := h.rd k t e
    exact ⟨g, o, h1, Nat.lt_of_lt_of_le h2 hb.size, (hb.cell (p := ⟨g, o + k, none⟩) h2).trans h3⟩, fun t ht => by
    obtain ⟨xs, h1, h2⟩ := h.bys t ht
    exact ⟨xs, h1.below hb, h2⟩⟩
/-- All cells of a link. -/
structure LkA (w : World) (lb : Nat) (fi : Int) (s : Sl) : Prop where
  d2 : w.cell? ⟨lb, 2, none⟩ = some (.int .i64 0)
  d3 : w.cell? ⟨lb, 3, none⟩ = some (.int .i64 0)
  d4 : w.cell? ⟨lb, 4, none⟩ = some (.slice none 0 0)
  d5 : w.cell? ⟨lb, 5, none⟩ = some (.int .i64 0)
  d6 : w.cell? ⟨lb, 6, none⟩ = some (.int .i64 fi)
  d7 : w.cell? ⟨lb, 7, none⟩ = some (.slice s.a s.n s.c)
  d8 : w.cell? ⟨lb, 8, none⟩ = some (.int .i64 0)
  d9 : w.cell? ⟨lb, 9, none⟩ = some (.int .i64 0)
  d10 : w.cell? ⟨lb, 10, none⟩ = some (.slice none 0 0)
  d11 : w.cell? ⟨lb, 11, none⟩ = some (.int .i64 0)
  d12 : w.cell? ⟨lb, 12, none⟩ = some (.int .i64 0)
  d13 : w.cell? ⟨lb, 13, none⟩ = some (.slice none 0 0)
theorem LkB.all {w : World} {lb : Nat} {fi : Int} {s : Sl} (h : LkB w lb fi s) : LkA w lb fi s := by
  constructor <;> (rw [cell_of_row w lb _ _ 51 (0, 0) h]; rfl)
theorem owns_slice {w : World} {B : Nat} {e : TypeId} {s n : Nat} {v : Value} {xs : List Value} (h : w.ownsRow B e s v n xs) : ∃ a c, v = .slice a n c := by
  rcases h.2 with ⟨rfl, rfl⟩ | ⟨g, cap, cur, rfl, _⟩
  · exact ⟨_, _, rfl⟩
  · exact ⟨_, _, rfl⟩
theorem owns_below {w w' : World} {base : Nat} {e : TypeId} {s n : Nat} {u : Value} {xs : List Value} (h : w.ownsRow base e s u n xs) (hb : Below w.heap.size w w') : w'.ownsRow base e s u n xs := by
  refine ⟨h.1, ?_⟩
  rcases h.2 with h1 | ⟨g, cap, cur, h1, h2, h3, h4⟩
  · exact .inl h1
  · exact .inr ⟨g, cap, cur, h1, h2, (hb.block g (Array.getElem?_eq_some_iff.1 h3).1).trans h3, h4⟩
abbrev wyV (fi : Int) (s : Value) : Array Value := #[.int .i64 0, .int .i64 0, .slice none 0 0, .int .i64 0, .int .i64 fi, s, .int .i64 0, .int .i64 0, .slice none 0 0, .int .i64 0, .int .i64 0, .slice none 0 0]
theorem wy0 (fi : Int) (s : Value) (w : World) : (Instr.index 49 (.agg (wyV fi s)) (.int .i64 0)).run Try.prog w = .ok (.agg #[.int .i64 0, .int .i64 0, .slice none 0 0]) w := by kernel_rfl
theorem wy1 (fi : Int) (s : Value) (w : World) : (Instr.index 49 (.agg (wyV fi s)) (.int .i64 1)).run Try.prog w = .ok (.agg #[.int .i64 0, .int .i64 fi, s]) w := by kernel_rfl
theorem wy2 (fi : Int) (s : Value) (w : World) : (Instr.index 49 (.agg (wyV fi s)) (.int .i64 2)).run Try.prog w = .ok (.agg #[.int .i64 0, .int .i64 0, .slice none 0 0]) w := by kernel_rfl
theorem wy3 (fi : Int) (s : Value) (w : World) : (Instr.index 49 (.agg (wyV fi s)) (.int .i64 3)).run Try.prog w = .ok (.agg #[.int .i64 0, .int .i64 0, .slice none 0 0]) w := by kernel_rfl
set_option maxRecDepth 100000 in
set_option maxHeartbeats 4000000 in
theorem l26 (lb : Nat) (fi : Nat) (s : Sl) (l : List Sl) (w : World) (h : LkO w lb fi s l) (hl : fi + l.length ≤ 1000000) :
    Calls Try.prog 13 #[.pointer (some ⟨lb, 0, none⟩)] w fun e w' => ∃ a c, e = .returned (.slice a l.length c) ∧ Below w.heap.size w w' := by
  obtain ⟨i0, hi, hz, hsz, hby⟩ := info36
  obtain ⟨d2, d3, d4, d5, d6, d7, d8, d9, d10, d11, d12, d13⟩ := h.blk.all
  have HH : Hid (LkO w lb fi s l) := h
  have hlen := h.len
  clear h
  obtain ⟨sa, sn, sc⟩ := s
  simp only at *
  subst hlen
  have x0 := wy0 fi (.slice sa l.length sc)
  have x1 := wy1 fi (.slice sa l.length sc)
  have x2 := wy2 fi (.slice sa l.length sc)
  have x3 := wy3 fi (.slice sa l.length sc)
  go_enter Try.func13, Try.ntmps13
  go_wp2_with fail
  refine wp_loop_rounds 5 ?_
  rw [rounds_succ]
  go_wp2_with fail
  refine wp_loop_rounds 1 ?_
  rw [rounds_succ]
  go_wp2_with fail
  rw [rounds_succ]
  go_wp2_with fail
  obtain ⟨W0, hW0⟩ : ∃ W0, (w.alloc (.cells #[.int .i64 0, .int .i64 0, .slice none 0 0] 48)).alloc (.cells #[.int .i64 0, .int .i64 fi, .slice sa l.length sc] 48) = W0 := ⟨_, rfl⟩
  rw [hW0]
  obtain ⟨n0, hn0⟩ : ∃ n0, w.heap.size = n0 := ⟨_, rfl⟩
  have HW0 : Hid (Below n0 w W0 ∧ W0.heap[n0 + 1]? = some (.cells #[.int .i64 0, .int .i64 fi, .slice sa l.length sc] 48 (0, 0)) ∧ w.heap.size = n0 ∧ n0 + 2 ≤ W0.heap.size) := by
    rw [← hn0, ← hW0]
    refine ⟨((Below.refl _ w).alloc (Nat.le_refl _) _).alloc (by simp) _, ?_, rfl, by simp⟩
    have := heap_alloc_new (w.alloc (.cells #[.int .i64 0, .int .i64 0, .slice none 0 0] 48)) (.cells #[.int .i64 0, .int .i64 fi, .slice sa l.length sc] 48)
    simpa using this
  rw [hn0]
  clear hW0 hn0 d2 d3 d4 d5 d6 d7 d8 d9 d10 d11 d12 d13
  go_loopw [3, 21] (fun av i wr => ∃ (k : Nat) (v0 : Value), v0 = av ∧ k ≤ l.length ∧ i = .int .i64 k ∧ Hid ((∃ xs, wr.ownsRow (n0 + 2) 32 5 v0 k xs) ∧ Below n0 w wr ∧ wr.heap[n0 + 1]? = some (.cells #[.int .i64 0, .int .i64 fi, .slice sa l.length sc] 48 (0, 0)))) (fun _ i _ => l.length - (intOf i).toNat)
  case atStart => exact ⟨0, _, rfl, Nat.zero_le _, rfl, ⟨[], World.ownsRow_nil _ _ _ _⟩, HW0.out.1, HW0.out.2.1⟩
  case round =>
    obtain ⟨k, v0, rfl, hk, rfl, hI⟩ := hrel
    by_cases hlt : k < l.length
    · have hlt1 : (k : Int) < (l.length : Int) := by omega
      have hk0 : (0 : Int) ≤ (k : Int) := by omega
      have hs0 : (0 : Int) ≤ (fi : Int) + (k : Int) := by omega
      have hs1 : (fi : Int) + (k : Int) ≤ 1000000 := by omega
      obtain ⟨⟨ys, hown⟩, hbel, hbox⟩ := hI.out
      have hO := HH.out.below (by rw [HW0.out.2.2.1]; exact hbel)
      obtain ⟨g, o, hsa, hg, hc⟩ := hO.rd k l[k] (List.getElem?_eq_getElem hlt)
      simp only at hsa
      subst hsa
      obtain ⟨xs, hby, hbn⟩ := hO.bys l[k] (List.getElem_mem _)
      have H35 := l35 lb fi ⟨some ⟨g, o, none⟩, l.length, sc⟩ 1 ((fi : Int) + (k : Int)) l[k].a l[k].n l[k].c xs wr hO.blk hby (by omega)
      have b1 : wr.cell? ⟨n0 + 1, 1, none⟩ = some (.int .i64 fi) := by rw [cell_of_row wr (n0 + 1) 1 _ 48 (0, 0) hbox]; rfl
      rw [show l[k].v = .slice l[k].a l[k].n l[k].c from rfl] at hc
      obtain ⟨va, vc, hv⟩ := owns_slice hown
      subst hv
      clear hown hbel hbox hO hby hbn hg
      go_wp2_with fail
      refine H35.mono ?_
      rintro e w2 ⟨a', c', rfl, hb2⟩
      have HI2 : Hid ((∃ xs, w2.ownsRow (n0 + 2) 32 5 (.slice va k vc) k xs) ∧ Below n0 w w2 ∧ w2.heap[n0 + 1]? = some (.cells #[.int .i64 0, .int .i64 fi, .slice (some ⟨g, o, none⟩) l.length sc] 48 (0, 0)) ∧ n0 + 2 ≤ w2.heap.size) := by
        obtain ⟨⟨ys, hown⟩, hbel, hbox⟩ := hI.out
        have hlt3 := (Array.getElem?_eq_some_iff.1 hbox).1
        exact ⟨⟨ys, owns_below hown hb2⟩, hbel.trans (hb2.mono (by omega)), (hb2.block _ hlt3).trans hbox, by have := hb2.size; omega⟩
      clear hb2 H35 hI hc b1
      obtain ⟨ys, hown⟩ := HI2.out.1
      have HO : Hid (w2.ownsRow (n0 + 2) 32 5 (.slice va k vc) k ys) := hown
      clear hown
      go_wp2_with (at_builtin; refine wpList_append_own _ rfl _ _ 40 rfl (n0 + 2) 32 i0 (.agg dz) 5 56 Try.underlying40 hi hz hsz hby rfl (by decide) (.slice va k vc) k ys rfl (HO.out.alloc _) ⟨w2.heap.size, 0, none⟩ 1 1 [.int .i64 0, .int .i64 1, .bool false, .int .i64 ((fi : Int) + (k : Int)), .slice a' l[k].n c'] rfl rfl (World.news_of_block (cs := #[.int .i64 0, .int .i64 1, .bool false, .int .i64 ((fi : Int) + (k : Int)), .slice a' l[k].n c']) (t := 32) (fr := (0, 0)) (heap_alloc_new w2 _)) (by simp [Value.oneCell']) (by unfold maxLen; omega) (by omega) (by have := HI2.out.2.2.2; simp; omega) ?_)
      intro v' w4 hown4 hgr4 _
      have HI4 : Hid ((∃ xs, w4.ownsRow (n0 + 2) 32 5 v' (k + 1) xs) ∧ Below n0 w w4 ∧ w4.heap[n0 + 1]? = some (.cells #[.int .i64 0, .int .i64 fi, .slice (some ⟨g, o, none⟩) l.length sc] 48 (0, 0))) := by
        obtain ⟨_, q2, q3, q4⟩ := HI2.out
        have hb3 : Below w2.heap.size w2 (w2.alloc (.cells #[.int .i64 0, .int .i64 1, .bool false, .int .i64 ((fi : Int) + (k : Int)), .slice a' l[k].n c'] 32)) := (Below.refl _ _).alloc (Nat.le_refl _) _
        refine ⟨⟨_, hown4⟩, (q2.trans (hb3.mono (by omega))).grown hgr4 (by have := hb3.size; omega) (fun r hr => by have := (HO.out.lt r hr).1; omega), ?_⟩
        rw [hgr4.block (n0 + 1) (by have := hb3.size; omega) (fun e => by have := (HO.out.lt _ e.symm).1; omega), hb3.block _ (by omega)]
        exact q3
      clear hown4 hgr4 HI2 HO
      go_wp2_with fail
      go_roundw
      case rel => exact ⟨k + 1, v', rfl, by omega, by go_num, HI4⟩
      case measure => simp [intOf]; omega
    · obtain rfl : k = l.length := by omega
      obtain ⟨⟨ys, hown⟩, hbel, hbox⟩ := hI.out
      obtain ⟨va, vc, hv⟩ := owns_slice hown
      subst hv
      have HB : Hid (Below n0 w wr ∧ n0 ≤ wr.heap.size ∧ w.heap.size = n0) := ⟨hbel, by have := hbel.size; have := HW0.out.2.2.1; omega, HW0.out.2.2.1⟩
      clear hown hbel hbox hI
      go_wp2_with fail
      rw [rounds_succ]
      go_wp2_with fail
      refine wp_loop_rounds 1 ?_
      rw [rounds_succ]
      go_wp2_with fail
      rw [rounds_succ]
      go_wp2_with fail
      refine wp_loop_rounds 1 ?_
      rw [rounds_succ]
      go_wp2_with fail
      rw [rounds_succ]
      go_wp2_with fail
      go_ret
      refine ⟨va, vc, rfl, ?_⟩
      rw [HB.out.2.2]
      exact (HB.out.1.alloc HB.out.2.1 _).alloc (by have := HB.out.2.1; simp; omega) _
end Go.Proofs.Ytopljcabcknaeaa.Lk
