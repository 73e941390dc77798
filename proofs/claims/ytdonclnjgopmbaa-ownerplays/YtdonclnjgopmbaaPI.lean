/- Contract of the reference's Ask where nobody waits for the variable. -/
import Derived.Test.YtdonclnjgopmbaaPH
namespace Go.Proofs.Ytdonclnjgopmbaa
open Go.RowKit
attribute [local go_sem ↓] Go.wp_at_zero Go.wp_at_succ
theorem sl_to (w : World) (a : Option Addr) (n c p : Nat) (hp : p ≤ n) (hc : n ≤ c) (ha : (a = none ∧ c = 0) ∨ ∃ b o, a = some ⟨b, o, none⟩) : (Instr.slice 48 (.slice a n c) none (some (.int .i64 (p : Nat))) none).run Try.prog w = .ok (.slice a p c) w := by
  rcases ha with ⟨rfl, rfl⟩ | ⟨b, o, rfl⟩
  · obtain rfl : n = 0 := by omega
    obtain rfl : p = 0 := by omega
    go_simp
  · have h1 : ¬ ((p : Int) < 0) := by omega
    have h2 : (p : Int) ≤ (c : Int) := by omega
    go_simp
theorem sl_from (a : Option Addr) (n c p : Nat) (hp : p ≤ n) (hc : n ≤ c) (ha : (a = none ∧ c = 0) ∨ ∃ b o, a = some ⟨b, o, none⟩) : ∃ a', (∀ w, (Instr.slice 48 (.slice a n c) (some (.int .i64 (p : Nat))) none none).run Try.prog w = .ok (.slice a' (n - p) (c - p)) w) ∧ (n - p = 0 ∨ ∃ b o, a = some ⟨b, o, none⟩ ∧ a' = some ⟨b, o + p * 3, none⟩) := by
  rcases ha with ⟨rfl, rfl⟩ | ⟨b, o, rfl⟩
  · obtain rfl : n = 0 := by omega
    obtain rfl : p = 0 := by omega
    exact ⟨none, fun w => by go_simp, .inl rfl⟩
  · have h1 : ¬ ((p : Int) < 0) := by omega
    have h2 : (p : Int) ≤ (n : Int) := by omega
    refine ⟨if c = p then some ⟨b, o, none⟩ else some ⟨b, o + p * 3, none⟩, fun w => by go_simp, ?_⟩
    by_cases e : c = p
    · exact .inl (by omega)
    · exact .inr ⟨b, o, rfl, by rw [if_neg e]⟩
/-- Part of a row of rows, as append reads it. -/
theorem Rs.part {w : World} {a : Option Addr} {n : Nat} {rs : List Rw} (h : Rs w a n rs) (p m : Nat) (hm : p + m ≤ n) : m = 0 ∨ ∃ b o, a = some ⟨b, o, none⟩ ∧ ∀ j u, (((rs.drop p).take m).flatMap encR)[j]? = some u → w.cell? ((⟨b, o + p * 3, none⟩ : Addr).add j) = some u := by
  rcases h.mem with e | ⟨b, o, e, hl, hr⟩
  · exact .inl (by omega)
  · refine .inr ⟨b, o, e, fun j u hu => ?_⟩
    rw [Addr.add_mid, Nat.add_assoc]
    refine hr (p * 3 + j) u ?_
    have e1 : rs.flatMap encR = (rs.take p).flatMap encR ++ (((rs.drop p).take m).flatMap encR ++ ((rs.drop p).drop m).flatMap encR) := by
      rw [← List.flatMap_append, List.take_append_drop, ← List.flatMap_append, List.take_append_drop]
    have hj : j < (((rs.drop p).take m).flatMap encR).length := (List.getElem?_eq_some_iff.1 hu).1
    have el : ((rs.take p).flatMap encR).length = p * 3 := by
      rw [encR_len, List.length_take, h.len]
      have : min p n = p := by omega
      rw [this]
    rw [e1, List.getElem?_append_right (by omega), el, show p * 3 + j - p * 3 = j by omega, List.getElem?_append_left hj]
    exact hu
/-- Behind Ask of a node that did not wait. -/
def AskTo2 (w : World) (G : Nat → Prop) (rt : Nat) (rs : List Rw) (ws : List Nm) (v : Nm) (l : List Int) (w' : World) : Prop :=
  ∃ s, RfAt w' (Gn w G w') rt (askR rs ⟨v, s, l⟩) ws ∧ w.grownBy w' (some rt)
theorem new_int (w : World) (k : Int) : ∀ j u, ([.int .i64 k] : List Value)[j]? = some u → (w.alloc (.cells #[.int .i64 k] 3)).cell? ((⟨w.heap.size, 0, none⟩ : Addr).add j) = some u := fun j u hu => by
  rw [Addr.add_mid, Nat.zero_add, cell_of_row _ w.heap.size j _ 3 (0, 0) (heap_alloc_new w _)]; simpa using hu
theorem new_row (w : World) (x1 x2 : Int) (u0 : Value) : ∀ j u, ([.int .i64 x1, .int .i64 x2, u0] : List Value)[j]? = some u → (w.alloc (.cells #[.int .i64 x1, .int .i64 x2, u0] 58)).cell? ((⟨w.heap.size, 0, none⟩ : Addr).add j) = some u := fun j u hu => by
  rw [Addr.add_mid, Nat.zero_add, cell_of_row _ w.heap.size j _ 58 (0, 0) (heap_alloc_new w _)]; simpa using hu
theorem askR_in {rs : List Rw} {r q : Rw} (h : q ∈ askR rs r) : q ∈ rs ∨ q = r := by
  simp only [askR, List.mem_append, List.mem_cons, List.not_mem_nil, or_false] at h
  rcases h with (h | h) | h
  · exact .inl (List.mem_of_mem_take h)
  · exact .inr h
  · exact .inl (List.mem_of_mem_drop h)
theorem ask_end2 {w w2 w5 : World} {G : Nat → Prop} {rt : Nat} {rs : List Rw} {ws : List Nm} (h : RfAt w G rt rs ws) (hb : Below w.heap.size w w2) (hb5 : Below w2.heap.size w2 w5) {v : Nm} {s : Sl} {l : List Int} {a : Option Addr} {m c : Nat}
    (ho : w5.ownsRow w2.heap.size 58 3 (.slice a m c) m ((askR rs ⟨v, s, l⟩).flatMap encR)) (hm : m = (askR rs ⟨v, s, l⟩).length) (hI : In w2 s.a s.n l) (hs : ∀ g, blk s.a = some g → w.heap.size ≤ g ∧ g < w2.heap.size) :
    AskTo2 w G rt rs ws v l (w5.setCell ⟨rt, 0, none⟩ (.slice a m c)) := by
  subst hm
  refine ⟨s, rf_rows h (hb.trans (hb5.mono hb.size)) ⟨rfl, (owns_range ho).2⟩ ?_ (fun g e => ⟨Nat.le_trans hb.size ((owns_range ho).1 g e).1, ((owns_range ho).1 g e).2⟩) fun q hq => ?_⟩
  · rcases ho.2 with ⟨e, e2⟩ | ⟨g, cap, cur, e, _, _, h4, _⟩
    · simp only [Value.slice.injEq] at e
      obtain ⟨rfl, _, rfl⟩ := e
      exact ⟨by omega, .inl ⟨rfl, rfl⟩⟩
    · simp only [Value.slice.injEq] at e
      obtain ⟨rfl, _, rfl⟩ := e
      exact ⟨h4, .inr ⟨_, _, rfl⟩⟩
  · rcases askR_in hq with hq | rfl
    · exact .inl hq
    · exact .inr ⟨hI.below hb5, fun g e => ⟨(hs g e).1, Nat.lt_of_lt_of_le (hs g e).2 hb5.size⟩⟩
theorem row_cells (x1 x2 : Int) (u : Option Addr) (k c : Nat) : ∀ z ∈ ([.int .i64 x1, .int .i64 x2, .slice u k c] : List Value), z.oneCell' = true := fun z hz => by
  simp at hz; rcases hz with rfl | rfl | rfl <;> rfl
set_option maxRecDepth 100000 in
set_option maxHeartbeats 4000000 in
theorem o12_a (G : Nat → Prop) (rt : Nat) (rs : List Rw) (ws : List Nm) (v : Nm) (nd : Int) (w : World) (h : RfAt w G rt rs ws) (hn : rs.length ≤ 1000000) (hv : plcB rs v = false) :
    Calls Try.prog 12 #[.pointer (some ⟨rt, 0, none⟩), .agg #[.int .i64 v.1, .int .i64 v.2], .int .i64 nd] w fun e w' => e = .returned (.bool true) ∧ AskTo2 w G rt rs ws v [nd] w' := by
  obtain ⟨i0, hi, hz, hs3, hby⟩ := infoR
  obtain ⟨j0, hj, hjz, hjs, hjb⟩ := infoI64
  obtain ⟨W, hW⟩ : ∃ W, w.alloc (.cells #[.int .i64 v.1, .int .i64 v.2] 28) = W := ⟨_, rfl⟩
  obtain ⟨vb, hvb⟩ : ∃ vb, w.heap.size = vb := ⟨_, rfl⟩
  have hbW : Below w.heap.size w W := by rw [← hW]; exact (Below.refl _ w).alloc (Nat.le_refl _) _
  have hc : W.heap[vb]? = some (.cells #[.int .i64 v.1, .int .i64 v.2] 28 (0, 0)) := by rw [← hW, ← hvb]; exact heap_alloc_new w _
  have hvl : vb < W.heap.size := (Array.getElem?_eq_some_iff.1 hc).1
  obtain ⟨v0, v1⟩ := box_cells hc
  obtain ⟨ra, rc, wa, wc, hblk, hRs, _, _, _, hcap, hform⟩ := (h.below hbW).ex
  obtain ⟨n, hnn⟩ : ∃ n, rs.length = n := ⟨_, rfl⟩
  obtain ⟨p, hp⟩ : ∃ p, plcN rs v = p := ⟨_, rfl⟩
  have hpn : p ≤ n := by rw [← hp, ← hnn]; exact plcN_le rs v
  rw [hnn] at hRs hcap hn hblk
  have HS : Hid (∀ u, Below W.heap.size W u → u.cell? ⟨rt, 0, none⟩ = some (.slice ra n rc) ∧ u.frozen? ⟨rt, 0, none⟩ = false ∧ u.cell? ⟨vb, 0, none⟩ = some (.int .i64 v.1) ∧ u.cell? ⟨vb, 1, none⟩ = some (.int .i64 v.2) ∧ Rs u ra n rs) := fun u hu => by
    have hrl : rt < W.heap.size := (Array.getElem?_eq_some_iff.1 hblk).1
    have k1 := (hu.block rt hrl).trans hblk
    have k2 := box_cells ((hu.block vb hvl).trans hc)
    exact ⟨by rw [cell_of_row u rt 0 _ 50 (0, 0) k1]; rfl, frozen_of_row u rt 0 _ 50 k1, k2.1, k2.2, by
      rcases hRs.mem with e | ⟨b, o, e, hl, _⟩
      · exact ⟨hRs.len, .inl e⟩
      · exact hRs.keeps fun g hg => by subst e; cases hg; exact hu.block b hl⟩
  have hT := fun u => sl_to u ra n rc p hpn hcap hform
  obtain ⟨aF, hF, hF2⟩ := sl_from ra n rc p hpn hcap hform
  have HF2 : Hid (n - p = 0 ∨ ∃ b o, ra = some ⟨b, o, none⟩ ∧ aF = some ⟨b, o + p * 3, none⟩) := hF2
  have H28 : Calls Try.prog 28 #[.pointer (some ⟨rt, 0, none⟩), .agg #[.int .i64 v.1, .int .i64 v.2]] W fun e w' => e = .returned (.tuple #[.int .i64 (p : Nat), .bool false]) ∧ Hid (Below W.heap.size W w') := by
    refine (o28 G rt rs ws v W (h.below hbW) (by omega)).mono ?_
    rintro e w' ⟨rfl, hb⟩
    rw [hv, hp]
    exact ⟨rfl, hb⟩
  have HL : Hid (rs.length = n ∧ RfAt w G rt rs ws ∧ Below w.heap.size w W ∧ plcN rs v = p ∧ plcB rs v = false) := ⟨hnn, h, hbW, hp, hv⟩
  clear h hbW hc hv hnn hvl hblk hRs hcap hform hF2 hp
  obtain ⟨x1, x2⟩ := v
  simp only at *
  go_enter Try.func12, Try.ntmps12
  go_wp2_with fail
  refine H28.mono ?_
  rintro e w1 ⟨rfl, HB1⟩
  clear v0 v1
  obtain ⟨q0, f0, p0, p1, hR1⟩ := HS.out w1 HB1.out
  clear hR1
  go_wp2_with fail
  refine wp_loop_rounds 1 ?_
  rw [rounds_succ]
  have hb1 : w1.heap.size ≤ (w1.alloc (.cells #[.int .i64 nd] 3)).heap.size := by simp
  go_wp2_with (at_builtin; refine wpList_append_any _ rfl _ _ 34 rfl w1.heap.size 3 j0 _ 1 8 Try.underlying34 hj hjz hjs hjb rfl (by decide) (.slice none 0 0) 0 [] rfl (World.ownsRow_nil _ _ _ _) (some ⟨w1.heap.size, 0, none⟩) 1 1 [.int .i64 nd] rfl rfl (.inr ⟨_, rfl, new_int w1 nd⟩) (fun u hu => by simp at hu; subst hu; rfl) (by unfold maxLen; omega) (by omega) hb1 ?_)
  intro a1 c1 w2 ho1 hg1
  have HO1 : Hid (w2.ownsRow w1.heap.size 3 1 (.slice a1 1 c1) 1 (i64s [nd])) := by
    show World.ownsRow _ _ _ _ _ _ _
    simpa [i64s] using ho1
  have HB2 : Hid (Below w1.heap.size w1 w2) := ((Below.refl _ w1).alloc (Nat.le_refl _) _).grown hg1 hb1 (fun g e => by cases e)
  have HBW2 : Hid (Below W.heap.size W w2) := HB1.out.trans (HB2.out.mono HB1.out.size)
  clear ho1 hg1 hb1 q0 f0 p0 p1
  obtain ⟨q0, f0, p0, p1, hR2⟩ := HS.out w2 HBW2.out
  have HN2 : Hid (p = 0 ∨ ∃ ad, ra = some ad ∧ ∀ j u, ((rs.take p).flatMap encR)[j]? = some u → w2.cell? (ad.add j) = some u) := by
    rcases hR2.part 0 p (by omega) with e | ⟨b, o, e, k⟩
    · exact .inl e
    · exact .inr ⟨⟨b, o, none⟩, e, by simpa using k⟩
  have HN2l : Hid (((rs.take p).flatMap encR).length = p * 3 ∧ ((rs.drop p).flatMap encR).length = (n - p) * 3) := by
    refine ⟨?_, ?_⟩
    · rw [encR_len, List.length_take, HL.out.1, show min p n = p by omega]
    · rw [encR_len, List.length_drop, HL.out.1]
  clear hR2
  go_wp2_with (at_builtin; refine wpList_append_any _ rfl _ _ 48 rfl w2.heap.size 58 i0 _ 3 40 Try.underlying48 hi hz hs3 hby rfl (by decide) (.slice none 0 0) 0 [] rfl (World.ownsRow_nil _ _ _ _) ra p rc ((rs.take p).flatMap encR) rfl HN2l.out.1 HN2.out (encR_one _) (by unfold maxLen; omega) (by omega) (Nat.le_refl _) ?_)
  intro a2 c2 w3 ho2 hg2
  have HO2 : Hid (w3.ownsRow w2.heap.size 58 3 (.slice a2 p c2) p ((rs.take p).flatMap encR)) := by
    show World.ownsRow _ _ _ _ _ _ _
    simpa using ho2
  have HB3 : Hid (Below w2.heap.size w2 w3) := (Below.refl _ w2).grown hg2 (Nat.le_refl _) (fun g e => by cases e)
  clear ho2 hg2 q0 f0 p0 p1
  obtain ⟨q0, f0, p0, p1, hR3⟩ := HS.out w3 (HBW2.out.trans (HB3.out.mono HBW2.out.size))
  clear hR3
  have HO2' : Hid (World.ownsRow (w3.alloc (.cells #[.int .i64 x1, .int .i64 x2, .slice a1 1 c1] 58)) w2.heap.size 58 3 (.slice a2 p c2) p ((rs.take p).flatMap encR)) := HO2.out.alloc _
  have HB3' : Hid (Below w2.heap.size w2 (w3.alloc (.cells #[.int .i64 x1, .int .i64 x2, .slice a1 1 c1] 58))) := HB3.out.alloc HB3.out.size _
  go_wp2_with (at_builtin; refine wpList_append_any _ rfl _ _ 48 rfl w2.heap.size 58 i0 _ 3 40 Try.underlying48 hi hz hs3 hby rfl (by decide) _ _ _ rfl HO2'.out (some ⟨w3.heap.size, 0, none⟩) 1 1 [.int .i64 x1, .int .i64 x2, .slice a1 1 c1] rfl rfl (.inr ⟨_, rfl, new_row w3 x1 x2 _⟩) (row_cells x1 x2 a1 1 c1) (by unfold maxLen; omega) (by omega) HB3'.out.size ?_)
  intro a3 c3 w4 ho3 hg3
  have HB4 : Hid (Below w2.heap.size w2 w4) := HB3'.out.grown hg3 HB3'.out.size (fun g e => (HO2'.out.lt g e).1)
  have HO3 : Hid (w4.ownsRow w2.heap.size 58 3 (.slice a3 (p + 1) c3) (p + 1) ((rs.take p).flatMap encR ++ [.int .i64 x1, .int .i64 x2, .slice a1 1 c1])) := ho3
  clear ho3 hg3 q0 f0 p0 p1
  obtain ⟨q0, f0, p0, p1, hR4⟩ := HS.out w4 (HBW2.out.trans (HB4.out.mono HBW2.out.size))
  have HN4 : Hid (n - p = 0 ∨ ∃ ad, aF = some ad ∧ ∀ j u, ((rs.drop p).flatMap encR)[j]? = some u → w4.cell? (ad.add j) = some u) := by
    rcases HF2.out with e | ⟨b, o, e, e2⟩
    · exact .inl e
    · rcases hR4.part p (n - p) (by omega) with e3 | ⟨b', o', e3, k⟩
      · exact .inl e3
      · rw [e] at e3; cases e3
        refine .inr ⟨_, e2, ?_⟩
        have e4 : (rs.drop p).take (n - p) = rs.drop p := List.take_of_length_le (by rw [List.length_drop, HL.out.1]; omega)
        rw [e4] at k
        exact k
  clear hR4
  go_wp2_with (at_builtin; refine wpList_append_any _ rfl _ _ 48 rfl w2.heap.size 58 i0 _ 3 40 Try.underlying48 hi hz hs3 hby rfl (by decide) _ _ _ rfl HO3.out aF (n - p) (rc - p) ((rs.drop p).flatMap encR) rfl HN2l.out.2 HN4.out (encR_one _) (by unfold maxLen; omega) (by omega) HB4.out.size ?_)
  intro a4 c4 w5 ho4 hg4
  have HB5 : Hid (Below w2.heap.size w2 w5) := HB4.out.grown hg4 HB4.out.size (fun g e => (HO3.out.lt g e).1)
  have HEnd : Hid (AskTo2 w G rt rs ws (x1, x2) [nd] (w5.setCell ⟨rt, 0, none⟩ (.slice a4 (p + 1 + (n - p)) c4))) := by
    have hw1 : Below w.heap.size w w1 := HL.out.2.2.1.trans (HB1.out.mono HL.out.2.2.1.size)
    have eA : askR rs ⟨(x1, x2), ⟨a1, 1, c1⟩, [nd]⟩ = rs.take p ++ [⟨(x1, x2), ⟨a1, 1, c1⟩, [nd]⟩] ++ rs.drop p := by simp [askR, HL.out.2.2.2.1, HL.out.2.2.2.2]
    refine ask_end2 HL.out.2.1 (hw1.trans (HB2.out.mono hw1.size)) HB5.out (s := ⟨a1, 1, c1⟩) ?_ ?_ ⟨rfl, (owns_range HO1.out).2⟩ fun g e => ⟨Nat.le_trans hw1.size ((owns_range HO1.out).1 g e).1, ((owns_range HO1.out).1 g e).2⟩
    · rw [eA, List.flatMap_append, List.flatMap_append]
      simpa [encR] using ho4
    · rw [eA]; simp only [List.length_append, List.length_take, List.length_drop, HL.out.1, List.length_cons, List.length_nil]; omega
  clear ho4 hg4 q0 f0 p0 p1
  obtain ⟨q0, f0, p0, p1, hR5⟩ := HS.out w5 (HBW2.out.trans (HB5.out.mono HBW2.out.size))
  clear hR5
  go_wp2_with fail
  go_ret
  exact ⟨rfl, HEnd.out⟩
end Go.Proofs.Ytdonclnjgopmbaa
