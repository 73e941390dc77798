/- Contract of Outbox: what it tells. -/
import Derived.Test.YtopljcabcknaeaaLkLM
namespace Go.Proofs.Ytopljcabcknaeaa.Lk
open Go.RowKit
attribute [local go_sem ↓] Go.wp_at_zero Go.wp_at_succ
theorem owns_base2 {w : World} {B B' : Nat} {e : TypeId} {s n : Nat} {v : Value} {xs : List Value} (h : w.ownsRow B e s v n xs) (hB : B' ≤ B) : w.ownsRow B' e s v n xs := by
  refine ⟨h.1, ?_⟩
  rcases h.2 with h1 | ⟨g, cap, cur, h1, h2, h3⟩
  · exact .inl h1
  · exact .inr ⟨g, cap, cur, h1, Nat.le_trans hB h2, h3⟩
/-- Datagrams in memory of the call's own, numbered from fi on, with their bytes. -/
def OutP (w w' : World) (v : Value) (n fi : Nat) (ms : List (List Int)) : Prop := ∃ es : List Sl, es.length = n ∧ w'.ownsRow w.heap.size 32 5 v n (encAll es fi) ∧ (∀ (j : Nat) (e : Sl) (xs : List Int), es[j]? = some e → ms[j]? = some xs → Row w' w.heap.size 5 e.a e.n e.c (u8s xs)) ∧ Below w.heap.size w w'
set_option maxRecDepth 100000 in
set_option maxHeartbeats 4000000 in
theorem l26c (lb : Nat) (fi : Nat) (s : Sl) (l : List Sl) (ms : List (List Int)) (w : World) (h : LkO w lb fi s l) (hl : fi + l.length ≤ 1000000) (hml : ms.length = l.length) (hms : ∀ (k : Nat) (t : Sl) (xs : List Int), l[k]? = some t → ms[k]? = some xs → By w t.a t.n t.c xs) :
    Calls Try.prog 13 #[.pointer (some ⟨lb, 0, none⟩)] w fun e w' => ∃ a c, e = .returned (.slice a l.length c) ∧ OutP w w' (.slice a l.length c) l.length fi ms := by
  obtain ⟨i0, hi, hz, hsz, hby⟩ := info36
  obtain ⟨d2, d3, d4, d5, d6, d7, d8, d9, d10, d11, d12, d13⟩ := h.blk.all
  have HH : Hid (LkO w lb fi s l ∧ ms.length = l.length ∧ ∀ (k : Nat) (t : Sl) (xs : List Int), l[k]? = some t → ms[k]? = some xs → By w t.a t.n t.c xs) := ⟨h, hml, hms⟩
  have hlen := h.len
  clear h hml hms
  obtain ⟨sa, sn, sc⟩ := s
  simp only at *
  subst hlen
  have x0 := wy0 fi (.slice sa l.length sc)
  have x1 := wy1 fi (.slice sa l.length sc)
  have x2 := wy2 fi (.slice sa l.length sc)
  have x3 := wy3 fi (.slice sa l.length sc)
  go_enter Try.func13, Try.ntmps13
  go_wp2_with fail
  refine wp_loop_rounds 5 ?_
  rw [rounds_succ]
  go_wp2_with fail
  refine wp_loop_rounds 1 ?_
  rw [rounds_succ]
  go_wp2_with fail
  rw [rounds_succ]
  go_wp2_with fail
  obtain ⟨W0, hW0⟩ : ∃ W0, (w.alloc (.cells #[.int .i64 0, .int .i64 0, .slice none 0 0] 48)).alloc (.cells #[.int .i64 0, .int .i64 fi, .slice sa l.length sc] 48) = W0 := ⟨_, rfl⟩
  rw [hW0]
  obtain ⟨n0, hn0⟩ : ∃ n0, w.heap.size = n0 := ⟨_, rfl⟩
  have HW0 : Hid (Below n0 w W0 ∧ W0.heap[n0 + 1]? = some (.cells #[.int .i64 0, .int .i64 fi, .slice sa l.length sc] 48 (0, 0)) ∧ w.heap.size = n0 ∧ n0 + 2 ≤ W0.heap.size) := by
    rw [← hn0, ← hW0]
    refine ⟨((Below.refl _ w).alloc (Nat.le_refl _) _).alloc (by simp) _, ?_, rfl, by simp⟩
    have := heap_alloc_new (w.alloc (.cells #[.int .i64 0, .int .i64 0, .slice none 0 0] 48)) (.cells #[.int .i64 0, .int .i64 fi, .slice sa l.length sc] 48)
    simpa using this
  rw [hn0]
  clear hW0 hn0 d2 d3 d4 d5 d6 d7 d8 d9 d10 d11 d12 d13
  go_loopw [3, 21] (fun av i wr => ∃ (k : Nat) (v0 : Value), v0 = av ∧ k ≤ l.length ∧ i = .int .i64 k ∧ Hid ((∃ es : List Sl, es.length = k ∧ wr.ownsRow (n0 + 2) 32 5 v0 k (encAll es fi) ∧ ∀ (j : Nat) (e : Sl) (xs : List Int), es[j]? = some e → ms[j]? = some xs → Row wr n0 5 e.a e.n e.c (u8s xs)) ∧ Below n0 w wr ∧ wr.heap[n0 + 1]? = some (.cells #[.int .i64 0, .int .i64 fi, .slice sa l.length sc] 48 (0, 0)))) (fun _ i _ => l.length - (intOf i).toNat)
  case atStart => exact ⟨0, _, rfl, Nat.zero_le _, rfl, ⟨[], rfl, World.ownsRow_nil _ _ _ _, fun j e xs h => by simp at h⟩, HW0.out.1, HW0.out.2.1⟩
  case round =>
    obtain ⟨k, v0, rfl, hk, rfl, hI⟩ := hrel
    by_cases hlt : k < l.length
    · have hlt1 : (k : Int) < (l.length : Int) := by omega
      have hk0 : (0 : Int) ≤ (k : Int) := by omega
      have hs0 : (0 : Int) ≤ (fi : Int) + (k : Int) := by omega
      have hs1 : (fi : Int) + (k : Int) ≤ 1000000 := by omega
      obtain ⟨⟨es, hel, hown, hec⟩, hbel, hbox⟩ := hI.out
      have hO := HH.out.1.below (by rw [HW0.out.2.2.1]; exact hbel)
      obtain ⟨g, o, hsa, hg, hc⟩ := hO.rd k l[k] (List.getElem?_eq_getElem hlt)
      simp only at hsa
      subst hsa
      obtain ⟨_, _, hbn⟩ := hO.bys l[k] (List.getElem_mem _)
      obtain ⟨xs, hxs⟩ : ∃ xs, ms[k]? = some xs := ⟨_, List.getElem?_eq_getElem (by have := HH.out.2.1; omega)⟩
      have hby := (HH.out.2.2 k l[k] xs (List.getElem?_eq_getElem hlt) hxs).below (by rw [HW0.out.2.2.1]; exact hbel)
      have H35 := l35c lb fi ⟨some ⟨g, o, none⟩, l.length, sc⟩ 1 ((fi : Int) + (k : Int)) l[k].a l[k].n l[k].c xs wr hO.blk hby (by omega)
      have b1 : wr.cell? ⟨n0 + 1, 1, none⟩ = some (.int .i64 fi) := by rw [cell_of_row wr (n0 + 1) 1 _ 48 (0, 0) hbox]; rfl
      rw [show l[k].v = .slice l[k].a l[k].n l[k].c from rfl] at hc
      obtain ⟨va, vc, hv⟩ := owns_slice hown
      subst hv
      clear hel hown hec hbel hbox hO hby hbn hg
      go_wp2_with fail
      refine H35.mono ?_
      rintro e w2 ⟨a', c', rfl, hy2, hb2⟩
      have HI2 : Hid ((∃ es : List Sl, es.length = k ∧ w2.ownsRow (n0 + 2) 32 5 (.slice va k vc) k (encAll es fi) ∧ ∀ (j : Nat) (e : Sl) (xs : List Int), es[j]? = some e → ms[j]? = some xs → Row w2 n0 5 e.a e.n e.c (u8s xs)) ∧ Below n0 w w2 ∧ w2.heap[n0 + 1]? = some (.cells #[.int .i64 0, .int .i64 fi, .slice (some ⟨g, o, none⟩) l.length sc] 48 (0, 0)) ∧ n0 + 2 ≤ w2.heap.size ∧ Row w2 n0 5 a' l[k].n c' (u8s xs)) := by
        obtain ⟨⟨es, hel, hown, hec⟩, hbel, hbox⟩ := hI.out
        have hlt3 := (Array.getElem?_eq_some_iff.1 hbox).1
        refine ⟨⟨es, hel, owns_below hown hb2, fun j e xs h1 h2 => (hec j e xs h1 h2).below hb2⟩, hbel.trans (hb2.mono (by omega)), (hb2.block _ hlt3).trans hbox, by have := hb2.size; omega, hy2.base (by omega)⟩
      clear hb2 hy2 H35 hI hc b1
      obtain ⟨es, HO⟩ : ∃ es : List Sl, Hid (w2.ownsRow (n0 + 2) 32 5 (.slice va k vc) k (encAll es fi) ∧ es.length = k ∧ ∀ (j : Nat) (e : Sl) (xs : List Int), es[j]? = some e → ms[j]? = some xs → Row w2 n0 5 e.a e.n e.c (u8s xs)) := by
        obtain ⟨es, h1, h2, h3⟩ := HI2.out.1
        exact ⟨es, h2, h1, h3⟩
      go_wp2_with (at_builtin; refine wpList_append_own _ rfl _ _ 40 rfl (n0 + 2) 32 i0 (.agg dz) 5 56 Try.underlying40 hi hz hsz hby rfl (by decide) (.slice va k vc) k (encAll es fi) rfl (HO.out.1.alloc _) ⟨w2.heap.size, 0, none⟩ 1 1 [.int .i64 0, .int .i64 1, .bool false, .int .i64 ((fi : Int) + (k : Int)), .slice a' l[k].n c'] rfl rfl (World.news_of_block (cs := #[.int .i64 0, .int .i64 1, .bool false, .int .i64 ((fi : Int) + (k : Int)), .slice a' l[k].n c']) (t := 32) (fr := (0, 0)) (heap_alloc_new w2 _)) (by simp [Value.oneCell']) (by unfold maxLen; omega) (by omega) (by have := HI2.out.2.2.2.1; simp; omega) ?_)
      intro v' w4 hown4 hgr4 _
      have HI4 : Hid ((∃ es : List Sl, es.length = k + 1 ∧ w4.ownsRow (n0 + 2) 32 5 v' (k + 1) (encAll es fi) ∧ ∀ (j : Nat) (e : Sl) (xs : List Int), es[j]? = some e → ms[j]? = some xs → Row w4 n0 5 e.a e.n e.c (u8s xs)) ∧ Below n0 w w4 ∧ w4.heap[n0 + 1]? = some (.cells #[.int .i64 0, .int .i64 fi, .slice (some ⟨g, o, none⟩) l.length sc] 48 (0, 0))) := by
        obtain ⟨_, q2, q3, q4, q5⟩ := HI2.out
        obtain ⟨o1, o2, o3⟩ := HO.out
        have hb3 : Below w2.heap.size w2 (w2.alloc (.cells #[.int .i64 0, .int .i64 1, .bool false, .int .i64 ((fi : Int) + (k : Int)), .slice a' l[k].n c'] 32)) := (Below.refl _ _).alloc (Nat.le_refl _) _
        have hk4 : ∀ {d : Sl} {xs : List Int}, Row w2 n0 5 d.a d.n d.c (u8s xs) → Row w4 n0 5 d.a d.n d.c (u8s xs) := fun {d xs} hr => (hr.below hb3).keeps fun g hg => by
          refine hgr4.block g (Nat.lt_of_lt_of_le (hr.lt hg).2 hb3.size) fun e => ?_
          obtain ⟨cu, h6⟩ := owns_kind o1 e.symm
          obtain ⟨cu2, h7⟩ := hr.kind hg
          rw [h6] at h7
          cases h7
        refine ⟨⟨es ++ [⟨a', l[k].n, c'⟩], by simp [o2], ?_, fun j e ys h1 h2 => ?_⟩, (q2.trans (hb3.mono (by omega))).grown hgr4 (by have := hb3.size; omega) (fun r hr => by have := (o1.lt r hr).1; omega), ?_⟩
        · rw [encAll_snoc, o2]
          have e1 : encD (fi + k) ⟨a', l[k].n, c'⟩ = [.int .i64 0, .int .i64 1, .bool false, .int .i64 ((fi : Int) + (k : Int)), .slice a' l[k].n c'] := by simp [encD]
          rw [e1]
          exact hown4
        · by_cases hj : j < es.length
          · rw [List.getElem?_append_left hj] at h1
            exact hk4 (o3 j e ys h1 h2)
          · have h3 := (List.getElem?_eq_some_iff.1 h1).1
            simp only [List.length_append, List.length_singleton] at h3
            obtain rfl : j = es.length := by omega
            simp at h1
            subst h1
            rw [o2, hxs] at h2
            cases h2
            exact hk4 (d := ⟨a', l[k].n, c'⟩) q5
        rw [hgr4.block (n0 + 1) (by have := hb3.size; omega) (fun e => by have := (o1.lt _ e.symm).1; omega), hb3.block _ (by omega)]
        exact q3
      clear hown4 hgr4 HI2 HO
      go_wp2_with fail
      go_roundw
      case rel => exact ⟨k + 1, v', rfl, by omega, by go_num, HI4⟩
      case measure => simp [intOf]; omega
    · obtain rfl : k = l.length := by omega
      obtain ⟨⟨es, hel, hown, hec⟩, hbel, hbox⟩ := hI.out
      obtain ⟨va, vc, hv⟩ := owns_slice hown
      subst hv
      have HB : Hid (Below n0 w wr ∧ n0 ≤ wr.heap.size ∧ w.heap.size = n0 ∧ es.length = l.length ∧ wr.ownsRow (n0 + 2) 32 5 (.slice va l.length vc) l.length (encAll es fi) ∧ ∀ (j : Nat) (e : Sl) (xs : List Int), es[j]? = some e → ms[j]? = some xs → Row wr n0 5 e.a e.n e.c (u8s xs)) := ⟨hbel, by have := hbel.size; have := HW0.out.2.2.1; omega, HW0.out.2.2.1, hel, hown, hec⟩
      clear hel hown hec hbel hbox hI
      go_wp2_with fail
      rw [rounds_succ]
      go_wp2_with fail
      refine wp_loop_rounds 1 ?_
      rw [rounds_succ]
      go_wp2_with fail
      rw [rounds_succ]
      go_wp2_with fail
      refine wp_loop_rounds 1 ?_
      rw [rounds_succ]
      go_wp2_with fail
      rw [rounds_succ]
      go_wp2_with fail
      go_ret
      have h0 := HB.out.2.2.1
      have hbw : Below wr.heap.size wr ((wr.alloc (.cells #[.int .i64 0, .int .i64 0, .slice none 0 0] 48)).alloc (.cells #[.int .i64 0, .int .i64 0, .slice none 0 0] 48)) := ((Below.refl _ wr).alloc (Nat.le_refl _) _).alloc (by simp) _
      refine ⟨va, vc, rfl, es, HB.out.2.2.2.1, ?_, fun j e xs h1 h2 => ?_, ?_⟩
      · rw [h0]
        exact owns_base2 (owns_below HB.out.2.2.2.2.1 hbw) (by omega)
      · rw [h0]
        exact (HB.out.2.2.2.2.2 j e xs h1 h2).below hbw
      · rw [h0]
        exact HB.out.1.trans (hbw.mono HB.out.2.1)
end Go.Proofs.Ytopljcabcknaeaa.Lk
