/- Contract of RefsOrder. -/
import Derived.Test.YtjbgemmcbombfaaRT
namespace Go.Proofs.Ytjbgemmcbombfaa
open Go.RowKit
attribute [local go_sem ↓] Go.wp_at_zero Go.wp_at_succ
theorem info36 : ∃ i, Try.prog.info? 36 = some i ∧ i.zero = some (.agg #[.int .i64 0, .int .i64 0, .int .i64 0, .slice none 0 0]) ∧ i.size = 4 ∧ i.bytes = 48 := by
  have h : (Try.prog.info? 36).map (fun i => (i.zero, i.size, i.bytes)) = some (some (.agg #[.int .i64 0, .int .i64 0, .int .i64 0, .slice none 0 0]), 4, 48) := by kernel_rfl
  cases hq : Try.prog.info? 36 with
  | none => rw [hq] at h; cases h
  | some i =>
    rw [hq] at h
    simp only [Option.map_some, Option.some.injEq, Prod.mk.injEq] at h
    exact ⟨i, rfl, h.1, h.2.1, h.2.2⟩
theorem vals_one (d : Dd) : ∀ v ∈ d.vals, v.oneCell' = true := fun v hv => by
  simp [Dd.vals] at hv
  rcases hv with rfl | rfl | rfl | rfl <;> rfl
/-- A row of deeds of the call's own can be read. -/
theorem row_of_own {w wr : World} {a : Option Addr} {n c : Nat} {es : List Dd} (hb : Below w.heap.size w wr) (h : wr.ownsRow w.heap.size 36 4 (.slice a n c) n (flatD es)) (hl : es.length = n) (hwf : ∀ e ∈ es, wfI e.nd ∧ NmR w e.a e.n e.xs) : DdRow wr a n es := by
  refine ⟨hl, ?_, fun e he => ⟨(hwf e he).1, (hwf e he).2.below hb⟩⟩
  rcases h.2 with ⟨e, h0⟩ | ⟨g, cap, cur, e, _, h2, _, _, _, h6⟩
  · exact .inl h0
  · simp only [Value.slice.injEq] at e
    refine .inr ⟨g, 0, e.1, (Array.getElem?_eq_some_iff.1 h2).1, fun j u hu => ?_⟩
    have hj : j < n * 4 := by
      have := (List.getElem?_eq_some_iff.1 hu).1
      rw [flatD_len, hl] at this
      exact this
    rw [cell_of_row wr g _ _ 36 (0, 0) h2, ← Array.getElem?_toList, Nat.zero_add]
    rw [← h6, List.getElem?_take_of_lt hj] at hu
    exact hu
set_option maxRecDepth 100000 in
set_option maxHeartbeats 8000000 in
theorem r4 (a : Option Addr) (n c : Nat) (es : List Dd) (w : World) (h : DdRow w a n es) (hn : tot es ≤ 1000000000) : Calls Try.prog 4 #[.slice a n c] w fun e w' => e = .returned (.bool true) ∧ Below w.heap.size w w' := by
  obtain ⟨i0, hi0, hz0, hsz0, hby0⟩ := info36
  have HH : Hid (DdRow w a n es ∧ tot es ≤ 1000000000) := ⟨h, hn⟩
  have hnn : n ≤ 1000000000 := by have := tot_len es; have := h.len; omega
  have H11 : Calls Try.prog 11 #[] w fun e w' => e = .returned (.bool true) ∧ Hid (Below w.heap.size w w' ∧ w'.ownsRow w.heap.size 36 4 (.slice none 0 0) 0 (flatD (es.reverse.take 0))) := (r11 w).mono fun e w' ⟨h1, h2⟩ => ⟨h1, h2, World.ownsRow_nil _ _ _ _⟩
  clear h hn
  go_enter Try.func4, Try.ntmps4
  go_wp2_with fail
  refine H11.mono ?_
  rintro e w1 ⟨rfl, H1⟩
  clear H11
  go_wp2_with fail
  go_loopw [3, 4] (fun sv si wr => ∃ (r t : Nat) (va : Option Addr) (vc : Nat), r + t = n ∧ sv = .slice va t vc ∧ si = .int .i64 ((r : Int) - 1) ∧ Hid (Below w.heap.size w wr ∧ wr.ownsRow w.heap.size 36 4 (.slice va t vc) t (flatD (es.reverse.take t)))) (fun _ si _ => (intOf si + 1).toNat)
  case atStart => exact ⟨n, 0, none, 0, by omega, rfl, by go_num, H1⟩
  case round =>
    clear H1
    obtain ⟨r, t, va, vc, hrt, rfl, rfl, HK⟩ := hrel
    cases r with
    | succ r =>
      have er : ((r + 1 : Nat) : Int) - 1 = (r : Int) := by omega
      rw [er]
      have hrI : (r : Int) < (n : Int) := by omega
      have hr0 : (0 : Int) ≤ (r : Int) := by omega
      obtain ⟨b, o, d, rfl, hd, hwt, hnm, p0, p1, p2, p3⟩ := (HH.out.1.below HK.out.1).at r (by omega)
      have hte : es.reverse.take (t + 1) = es.reverse.take t ++ [d] := by
        obtain ⟨hl, he⟩ := List.getElem?_eq_some_iff.1 hd
        have hlen := HH.out.1.len
        have ht : t < es.reverse.length := by simp; omega
        rw [← List.take_append_getElem ht]
        congr 2
        rw [List.getElem_reverse, ← he]
        congr 1
        omega
      have HT : Hid (flatD (es.reverse.take (t + 1)) = flatD (es.reverse.take t) ++ d.vals) := by
        show flatD (es.reverse.take (t + 1)) = flatD (es.reverse.take t) ++ d.vals
        rw [hte, flatD_append]; simp [flatD]
      obtain ⟨Z, hZ⟩ : ∃ Z, wr.alloc (.cells #[.int .i64 d.kd, .int .i64 d.nd, .int .i64 d.ti, .slice d.a d.n d.c] 36) = Z := ⟨_, rfl⟩
      have HZ : Hid (Below w.heap.size w Z ∧ Z.ownsRow w.heap.size 36 4 (.slice va t vc) t (flatD (es.reverse.take t)) ∧ ∀ j u, d.vals[j]? = some u → Z.cell? ((⟨wr.heap.size, 0, none⟩ : Addr).add j) = some u) := by
        have h1 : Below wr.heap.size wr Z := by rw [← hZ]; exact (Below.refl _ wr).alloc (Nat.le_refl _) _
        refine ⟨HK.out.1.trans (h1.mono HK.out.1.size), ?_, fun j u hu => ?_⟩
        · obtain ⟨r1, r2⟩ := HK.out.2
          refine ⟨r1, ?_⟩
          rcases r2 with e | ⟨g, cap, cur, e, t1, t2, t3⟩
          · exact .inl e
          · exact .inr ⟨g, cap, cur, e, t1, (h1.block g (Array.getElem?_eq_some_iff.1 t2).1).trans t2, t3⟩
        · have hcz : Z.heap[wr.heap.size]? = some (.cells #[.int .i64 d.kd, .int .i64 d.nd, .int .i64 d.ti, .slice d.a d.n d.c] 36 (0, 0)) := by rw [← hZ]; exact heap_alloc_new wr _
          rw [Addr.add_mid, Nat.zero_add, cell_of_row Z wr.heap.size j _ 36 (0, 0) hcz]
          simpa [Dd.vals] using hu
      clear hd hwt hnm hte er
      go_wp2_with (at_builtin; refine wpList_append_own_at _ rfl _ _ 22 rfl w.heap.size 36 i0 _ 4 48 Try.underlying22 hi0 hz0 hsz0 hby0 rfl (by decide) (.slice va t vc) t (flatD (es.reverse.take t)) rfl HZ.out.2.1 ⟨wr.heap.size, 0, none⟩ 1 1 d.vals rfl rfl HZ.out.2.2 (vals_one d) (by unfold maxLen; omega) (by omega) HZ.out.1.size ?_)
      intro v' wf hown hgrow _ hat
      have hsl : ∃ a' c', v' = .slice a' (t + 1) c' := by
        rcases hown.2 with ⟨_, e⟩ | ⟨g, cap, cur, e, _⟩
        · omega
        · exact ⟨_, _, e⟩
      obtain ⟨a', c', rfl⟩ := hsl
      have HN : Hid (Below w.heap.size w wf ∧ wf.ownsRow w.heap.size 36 4 (.slice a' (t + 1) c') (t + 1) (flatD (es.reverse.take (t + 1)))) := by
        obtain ⟨z1, z2, _⟩ := HZ.out
        refine ⟨⟨hgrow.os.trans z1.os, hgrow.tape.trans z1.tape, hgrow.output.trans z1.output, Nat.le_trans z1.size hgrow.size, fun j hj => (hgrow.block j (Nat.lt_of_lt_of_le hj z1.size) (row_ne_low z2 hj)).trans (z1.block j hj)⟩, ?_⟩
        rw [HT.out]; exact hown
      clear hown hgrow hat HZ hZ p0 p1 p2 p3 HT HK
      go_wp2_with fail
      go_roundw
      case rel => exact ⟨r, t + 1, a', c', by omega, by go_num, by go_num, HN⟩
      case measure => simp [intOf]
    | zero =>
      obtain rfl : t = n := by omega
      obtain ⟨mm, hmm⟩ : ∃ mm : Int, ((0 : Nat) : Int) - 1 = mm := ⟨_, rfl⟩
      rw [hmm]
      have hmneg : ¬ (0 : Int) ≤ mm := by omega
      have HR : Hid (Below w.heap.size w wr ∧ DdRow wr va t es.reverse ∧ DdRow wr a t es) := by
        obtain ⟨h1, h2⟩ := HK.out
        rw [List.take_of_length_le (by rw [List.length_reverse, HH.out.1.len]; exact Nat.le_refl _)] at h2
        exact ⟨h1, row_of_own h1 h2 (by rw [List.length_reverse, HH.out.1.len]) (fun e he => HH.out.1.wf e (by simpa using he)), HH.out.1.below h1⟩
      clear hmm HK hrt
      have H17 : Calls Try.prog 17 #[.slice a t c] wr fun e w' => ∃ tb, e = .returned (.pointer (some ⟨tb, 0, none⟩)) ∧ Hid (RunTo wr w' tb es) := r17 a t c es wr HR.out.2.2 HH.out.2
      go_wp2_with fail
      refine H17.mono ?_
      rintro e w2 ⟨tb, rfl, H2⟩
      clear H17
      have H18 : Calls Try.prog 18 #[.pointer (some ⟨tb, 0, none⟩)] w2 fun e w' => ∃ a1 m1 c1, e = .returned (.slice a1 m1 c1) ∧ Hid (Below wr.heap.size wr w' ∧ ∃ L, CtR w' a1 m1 L ∧ Rises (runE es) L) := by
        obtain ⟨eb, ib, h1, h2⟩ := H2.out
        refine (r18g _ tb eb ib _ 0 4 _ _ w2 h1 HH.out.2).mono ?_
        rintro e w' ⟨a1, m1, c1, rfl, L, hl, hR⟩
        exact ⟨a1, m1, c1, rfl, h2.trans (hR.2.2.mono h2.size), L, hR.ctr hl, hR.1⟩
      go_wp2_with fail
      refine H18.mono ?_
      rintro e w3 ⟨a1, m1, c1, rfl, H3⟩
      clear H18 H2
      have H17 : Calls Try.prog 17 #[.slice va t vc] w3 fun e w' => ∃ tb, e = .returned (.pointer (some ⟨tb, 0, none⟩)) ∧ Hid (RunTo w3 w' tb es.reverse) := r17 va t vc es.reverse w3 (HR.out.2.1.below H3.out.1) (by rw [tot_rev]; exact HH.out.2)
      go_wp2_with fail
      refine H17.mono ?_
      rintro e w4 ⟨tb4, rfl, H4⟩
      clear H17
      have H18 : Calls Try.prog 18 #[.pointer (some ⟨tb4, 0, none⟩)] w4 fun e w' => ∃ a2 c2, e = .returned (.slice a2 m1 c2) ∧ Hid (Below wr.heap.size wr w' ∧ ∃ L, CtR w' a1 m1 L ∧ CtR w' a2 m1 L ∧ Rises (runE es) L) := by
        obtain ⟨eb, ib, h1, h2⟩ := H4.out
        obtain ⟨b1, L, cL, rL⟩ := H3.out
        refine (r18g _ tb4 eb ib _ 0 4 _ _ w4 h1 (by rw [tot_rev]; exact HH.out.2)).mono ?_
        rintro e w' ⟨a2, m2, c2, rfl, L2, hl, hR⟩
        have hB : Below w3.heap.size w3 w' := h2.trans (hR.2.2.mono h2.size)
        have hE : L = L2 := rL.like hR.1 fun k _ => (run_rev es k).symm
        have hc := hR.ctr hl
        subst hE
        obtain rfl : m1 = m2 := by rw [← cL.len, hl]
        exact ⟨a2, c2, rfl, b1.trans (hB.mono b1.size), L, cL.below hB, hc, rL⟩
      go_wp2_with fail
      refine H18.mono ?_
      rintro e w5 ⟨a2, c2, rfl, H5⟩
      clear H18 H4 H3
      have H16 : Calls Try.prog 16 #[.slice a1 m1 c1, .slice a2 m1 c2] w5 fun e w' => e = .returned (.bool true) ∧ Hid (Below w.heap.size w w') := by
        obtain ⟨b1, L, k1, k2, k3⟩ := H5.out
        have b2 := HR.out.1.trans (b1.mono HR.out.1.size)
        exact (r16 a1 a2 m1 c1 c2 L w5 k1 k2).mono fun e w' ⟨h1, h2⟩ => ⟨h1, b2.trans (h2.mono b2.size)⟩
      go_wp2_with fail
      refine H16.mono ?_
      rintro e w6 ⟨rfl, H6⟩
      go_wp2_with fail
      go_ret
      exact ⟨rfl, H6.out⟩
end Go.Proofs.Ytjbgemmcbombfaa
